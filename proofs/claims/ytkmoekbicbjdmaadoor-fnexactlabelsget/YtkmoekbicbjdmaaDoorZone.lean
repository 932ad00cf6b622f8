/- What a call leaves as it was, but for some blocks. No condition. -/
import Derived.Test.YtkmoekbicbjdmaaDoorNest
namespace Go.Proofs.YtkmoekbicbjdmaaDoor.Rw
open Go.RowKit
/-- all that was there is as it was, but for blocks from lo on, ahead of hi -/
structure Zone (lo hi : Nat) (w w' : World) : Prop where
  os : w'.os = w.os
  tape : w'.tape = w.tape
  output : w'.output = w.output
  size : w.heap.size ≤ w'.heap.size
  block : ∀ k, k < w.heap.size → (k < lo ∨ hi ≤ k) → w'.heap[k]? = w.heap[k]?
theorem Zone.refl (lo hi : Nat) (w : World) : Zone lo hi w w := ⟨rfl, rfl, rfl, Nat.le_refl _, fun _ _ _ => rfl⟩
theorem Zone.trans {lo hi : Nat} {a b c : World} (h : Zone lo hi a b) (h' : Zone lo hi b c) : Zone lo hi a c :=
  ⟨h'.os.trans h.os, h'.tape.trans h.tape, h'.output.trans h.output, Nat.le_trans h.size h'.size, fun k hk ho => (h'.block k (Nat.lt_of_lt_of_le hk h.size) ho).trans (h.block k hk ho)⟩
theorem Zone.of_below {lo hi : Nat} {w w' : World} (h : Below w.heap.size w w') : Zone lo hi w w' := ⟨h.os, h.tape, h.output, h.size, fun k hk _ => h.block k hk⟩
theorem Zone.mono {lo hi lo' hi' : Nat} {w w' : World} (h : Zone lo hi w w') (h1 : lo' ≤ lo) (h2 : hi ≤ hi') : Zone lo' hi' w w' := ⟨h.os, h.tape, h.output, h.size, fun k hk ho => h.block k hk (by omega)⟩
theorem Zone.below {lo hi B : Nat} {w w' : World} (h : Zone lo hi w w') (hB : B ≤ lo) (hs : B ≤ w.heap.size) : Below B w w' := ⟨h.os, h.tape, h.output, h.size, fun k hk => h.block k (by omega) (.inl (by omega))⟩
theorem Zone.of_only {g lo hi : Nat} {w w' : World} (h : OnlyAt g w w') (h1 : lo ≤ g) (h2 : g < hi) : Zone lo hi w w' := ⟨h.os, h.tape, h.output, Nat.le_of_eq h.size.symm, fun k _ ho => h.block k (by omega)⟩
theorem Zone.store {g lo hi : Nat} {w w' : World} (h : Zone lo hi w w') (h1 : lo ≤ g) (h2 : g < hi) (j : Nat) (u : Value) : Zone lo hi w (w'.setCell ⟨g, j, none⟩ u) := h.trans (Zone.of_only ((OnlyAt.refl g w').setCell j u) h1 h2)
/-- a slice that lies outside -/
def Out (lo hi : Nat) (v : Value) : Prop := ∀ k, v.ownBlock = some k → k < lo ∨ hi ≤ k
theorem Zone.lies {lo hi : Nat} {w w' : World} (h : Zone lo hi w w') {v : Value} {n size : Nat} {xs : List Value} (hs : Lies w v n size xs) (hv : Out lo hi v) : Lies w' v n size xs := by
  obtain ⟨h0, ad, cap, h1, h2, h3, h4, h5⟩ := hs
  refine ⟨h0, ad, cap, h1, h2, h3, h4, fun hn => ?_⟩
  obtain ⟨c, off, e, hl, hc⟩ := h5 hn
  exact ⟨c, off, e, Nat.lt_of_lt_of_le hl h.size, fun j u hj => (World.cell?_of_block (a := ⟨c, off + j, none⟩) (h.block c hl (hv c (by rw [h1, e]; rfl)))).trans (hc j u hj)⟩
theorem Zone.own {lo hi : Nat} {w w' : World} (h : Zone lo hi w w') {base n size : Nat} {e : TypeId} {v : Value} {xs : List Value} (ho : w.ownsRow base e size v n xs) (hv : Out lo hi v) : w'.ownsRow base e size v n xs := by
  refine ⟨ho.1, ?_⟩
  rcases ho.2 with h1 | ⟨c, cap, cur, h1, h2, h3, h4⟩
  · exact .inl h1
  · refine .inr ⟨c, cap, cur, h1, h2, ?_, h4⟩
    have hl : c < w.heap.size := by
      rcases Nat.lt_or_ge c w.heap.size with hl | hl
      · exact hl
      · rw [Array.getElem?_eq_none hl] at h3; cases h3
    rw [h.block c hl (hv c (by rw [h1]; rfl))]
    exact h3
/-- a row of the call's own lies from its base on, ahead of what the world has -/
theorem own_out {w : World} {base n size lo hi : Nat} {e : TypeId} {v : Value} {xs : List Value} (h : w.ownsRow base e size v n xs) (ho : hi ≤ base ∨ w.heap.size ≤ lo) : Out lo hi v := by
  intro k hk
  have h1 := own_ge h k hk
  have h2 := own_block_lt h k hk
  omega
/-- slices of which no two lie in one block -/
def Apart (cs : List Value) : Prop := ∀ i j, i < j → j < cs.length → ∀ k, (cs.getD i default).ownBlock = some k → (cs.getD j default).ownBlock ≠ some k
theorem Apart.nil : Apart [] := fun i j _ h => by cases h
theorem Apart.snoc {cs : List Value} {c : Value} (h : Apart cs) (hc : ∀ i, i < cs.length → ∀ k, (cs.getD i default).ownBlock = some k → c.ownBlock ≠ some k) : Apart (cs ++ [c]) := by
  intro i j hij hj k hk
  simp only [List.length_append, List.length_cons, List.length_nil] at hj
  have ei : (cs ++ [c]).getD i default = cs.getD i default := by simp [List.getD, List.getElem?_append_left (show i < cs.length by omega)]
  rw [ei] at hk
  by_cases hl : j < cs.length
  · rw [show (cs ++ [c]).getD j default = cs.getD j default by simp [List.getD, List.getElem?_append_left hl]]
    exact h i j hij hl k hk
  · obtain rfl : j = cs.length := by omega
    rw [show (cs ++ [c]).getD cs.length default = c by simp [List.getD]]
    exact hc i hij k hk
theorem Apart.ne {cs : List Value} (h : Apart cs) {i j : Nat} (hij : i ≠ j) (hi : i < cs.length) (hj : j < cs.length) : ∀ k, (cs.getD i default).ownBlock = some k → (cs.getD j default).ownBlock ≠ some k := by
  intro k hk
  rcases Nat.lt_or_gt_of_ne hij with hl | hl
  · exact h i j hl hj k hk
  · intro hk'
    exact h j i hl hi k hk' hk
theorem own_ne_type {w : World} {b1 b2 s1 s2 n1 n2 : Nat} {e1 e2 : TypeId} {v1 v2 : Value} {x1 x2 : List Value} (h1 : w.ownsRow b1 e1 s1 v1 n1 x1) (h2 : w.ownsRow b2 e2 s2 v2 n2 x2) (he : e1 ≠ e2) : ∀ k, v1.ownBlock = some k → v2.ownBlock ≠ some k := by
  intro k hk hk'
  rcases h1.2 with ⟨rfl, _⟩ | ⟨g, cap, cur, rfl, _, hg, _⟩
  · cases hk
  · rcases h2.2 with ⟨rfl, _⟩ | ⟨g', cap', cur', rfl, _, hg', _⟩
    · cases hk'
    · simp only [Value.ownBlock, Option.some.injEq] at hk hk'
      subst hk
      subst hk'
      rw [hg] at hg'
      simp only [Option.some.injEq, Obj.cells.injEq] at hg'
      exact he hg'.2.1
def loOf (v : Value) : Nat := match v.ownBlock with | some g => g | none => 0
def hiOf (v : Value) : Nat := match v.ownBlock with | some g => g + 1 | none => 0
theorem in_self (v : Value) : ∀ k, v.ownBlock = some k → loOf v ≤ k ∧ k < hiOf v := by
  intro k hk
  unfold loOf hiOf
  rw [hk]
  exact ⟨Nat.le_refl _, Nat.lt_succ_self _⟩
theorem out_of_ne {v u : Value} (h : ∀ k, v.ownBlock = some k → u.ownBlock ≠ some k) : Out (loOf v) (hiOf v) u := by
  intro k hk
  unfold loOf hiOf
  cases hv : v.ownBlock with
  | none => exact .inr (Nat.zero_le _)
  | some g =>
    have : g ≠ k := fun e => h g hv (by rw [e]; exact hk)
    simp only
    omega
theorem zone_in {v : Value} {lo hi : Nat} {w w' : World} (h : Zone (loOf v) (hiOf v) w w') (hin : ∀ k, v.ownBlock = some k → lo ≤ k ∧ k < hi) : Zone lo hi w w' := by
  unfold loOf hiOf at h
  cases hv : v.ownBlock with
  | none =>
    simp only [hv] at h
    exact ⟨h.os, h.tape, h.output, h.size, fun k hk _ => h.block k hk (.inr (Nat.zero_le _))⟩
  | some g =>
    simp only [hv] at h
    have := hin g hv
    exact h.mono (by omega) (by omega)
end Go.Proofs.YtkmoekbicbjdmaaDoor.Rw
