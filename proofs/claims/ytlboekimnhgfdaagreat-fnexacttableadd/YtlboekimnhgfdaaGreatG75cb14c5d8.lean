/- My own texts of one claim, laid together by program: LssLaw, DrawMany, RdOne, DrawBig. -/
import Derived.Test.YtlboekimnhgfdaaGreatG5987eed685
import Derived.Test.YtlboekimnhgfdaaGreatGb649170687
/- Slices of slices of labels, as the laws' helpers meet them. -/
namespace Go.Proofs.YtlboekimnhgfdaaGreat.Lss
open Go.RowKit Rw
set_option linter.unusedVariables false
attribute [local go_sem ↓] Go.wp_at_zero Go.wp_at_succ
abbrev E := List Lab.E
abbrev C := Value
def cl (c : C) : List Value := [c]
theorem clk (c : C) : (cl c).length = 1 := rfl
def at' (zs : List E) (i : Nat) : E := zs.getD i default
def cat (cs : List C) (i : Nat) : C := cs.getD i default
theorem at_get (zs : List E) (i : Nat) (h : i < zs.length) : at' zs i = zs[i] := by simp [at', List.getD, h]
theorem at_snoc (zs : List E) (i : Nat) (h : i < zs.length) : zs.take (i + 1) = zs.take i ++ [at' zs i] := by rw [List.take_succ_eq_append_getElem h, at_get zs i h]
theorem at_mem (zs : List E) (i : Nat) (h : i < zs.length) : at' zs i ∈ zs := by rw [at_get zs i h]; exact List.getElem_mem _
theorem cat_get (zs : List C) (i : Nat) (h : i < zs.length) : cat zs i = zs[i] := by simp [cat, List.getD, h]
theorem cat_lt (zs : List C) (c : C) (i : Nat) (h : i < zs.length) : cat (zs ++ [c]) i = cat zs i := by simp [cat, List.getD, List.getElem?_append_left h]
theorem cat_last (zs : List C) (c : C) : cat (zs ++ [c]) zs.length = c := by simp [cat, List.getD]
abbrev Elem (w : World) (c : C) (x : E) : Prop := Lab.Is w c x
def Is (w : World) (v : Value) (zs : List E) : Prop := ∃ cs : List C, cs.length = zs.length ∧ Lies w v zs.length 1 (flatOf cl cs) ∧ ∀ i, i < zs.length → Elem w (cat cs i) (at' zs i)
theorem Is.below {w w' : World} {v : Value} {zs : List E} (h : Is w v zs) (hb : Below w.heap.size w w') : Is w' v zs := by
  obtain ⟨cs, h1, h2, h3⟩ := h
  exact ⟨cs, h1, h2.below hb, fun i hi => (h3 i hi).below hb⟩
/-- the same, each slice of labels a row of its own, all of it in blocks from lo on, ahead of hi -/
def Own (lo hi : Nat) (w : World) (v : Value) (zs : List E) : Prop := ∃ cs : List C, cs.length = zs.length ∧ w.ownsRow lo 60 1 v zs.length (flatOf cl cs) ∧ (∀ k, v.ownBlock = some k → k < hi) ∧ hi ≤ w.heap.size ∧ Apart cs ∧
  ∀ i, i < zs.length → w.ownsRow lo 64 2 (cat cs i) (at' zs i).length (Lab.flat (at' zs i)) ∧ ∀ k, (cat cs i).ownBlock = some k → lo ≤ k ∧ k < hi
theorem Own.is {lo hi : Nat} {w : World} {v : Value} {zs : List E} (h : Own lo hi w v zs) : Is w v zs := by
  obtain ⟨cs, h1, h2, h3, h4, h6, h5⟩ := h
  exact ⟨cs, h1, lies_of_own h2, fun i hi => Lab.is_of_own (h5 i hi).1⟩
theorem Own.below {lo hi : Nat} {w w' : World} {v : Value} {zs : List E} (h : Own lo hi w v zs) (hb : Below w.heap.size w w') : Own lo hi w' v zs := by
  obtain ⟨cs, h1, h2, h3, h4, h6, h5⟩ := h
  exact ⟨cs, h1, own_below h2 hb, h3, Nat.le_trans h4 hb.size, h6, fun i hi => ⟨own_below (h5 i hi).1 hb, (h5 i hi).2⟩⟩
theorem Own.zone {lo hi a b : Nat} {w w' : World} {v : Value} {zs : List E} (h : Own lo hi w v zs) (hz : Zone a b w w') (ho : hi ≤ a ∨ b ≤ lo) : Own lo hi w' v zs := by
  obtain ⟨cs, h1, h2, h3, h4, h6, h5⟩ := h
  exact ⟨cs, h1, hz.own h2 (fun k hk => by have := h3 k hk; have := own_ge h2 k hk; omega), h3, Nat.le_trans h4 hz.size, h6, fun i hi => ⟨hz.own (h5 i hi).1 (fun k hk => by have := (h5 i hi).2 k hk; omega), (h5 i hi).2⟩⟩
theorem flat_at (cs : List C) (i : Nat) (h : i < cs.length) : (flatOf cl cs)[i]? = some (cat cs i) := by
  rw [cat_get cs i h]
  have := flatOf_get clk cs i 0 h (by omega)
  rw [Nat.mul_one, Nat.add_zero] at this
  exact this
def good (x : E) : Prop := x.length ≤ maxLen ∧ ∀ y ∈ x, Lab.good y
theorem info_e : (Tryz.prog.info? 60).map (fun i => (i.zero, i.size, i.bytes)) = some (some (.slice none 0 0), 1, 24) := by kernel_rfl
theorem set_e (A : List Value) (u0 x0 : Value) (L : List Value) (k : Nat) (h : A.length = k) : (A ++ u0 :: L).set k x0 = A ++ [x0] ++ L := by
  subst h
  simp [List.set_append_right]
theorem split_e (r : List Value) (n : Nat) (h : r.length = n + 1) : ∃ u0 L, r = u0 :: L ∧ L.length = n := by
  match r, h with
  | u0 :: L, h => exact ⟨u0, L, rfl, by simpa using h⟩
  | [], h => simp at h
def tiny (x : E) : Prop := x.length ≤ 4194304
end Go.Proofs.YtlboekimnhgfdaaGreat.Lss

/- Slices of slices of labels are drawn. -/
namespace Go.Proofs.YtlboekimnhgfdaaGreat.Draw
open Go.RowKit Rw
set_option linter.unusedVariables false
attribute [local go_sem ↓] Go.wp_at_zero Go.wp_at_succ
def smallLL (x : Lss.E) : Prop := x.length ≤ 20 ∧ ∀ y ∈ x, smallL y
theorem good_smallLL {x : Lss.E} (h : smallLL x) : Lss.good x := ⟨by have := h.1; unfold maxLen; omega, fun y hy => good_smallL (h.2 y hy)⟩
theorem small_snocLL {L : List Lss.E} {x : Lss.E} (h : ∀ y ∈ L, smallLL y) (hx : smallLL x) : ∀ y ∈ L ++ [x], smallLL y := by
  intro y hy
  rw [List.mem_append, List.mem_singleton] at hy
  rcases hy with hy | rfl
  · exact h y hy
  · exact hx
theorem own_grown {w w' : World} {base n size : Nat} {e : TypeId} {v : Value} {xs : List Value} {row : Option Nat} (h : w.ownsRow base e size v n xs) (hg : w.grownBy w' row) (hne : ∀ k, v.ownBlock = some k → row ≠ some k) : w'.ownsRow base e size v n xs := by
  refine ⟨h.1, ?_⟩
  rcases h.2 with h1 | ⟨c, cap, cur, h1, h2, h3, h4⟩
  · exact .inl h1
  · refine .inr ⟨c, cap, cur, h1, h2, ?_, h4⟩
    have hl := own_block_lt h c (by rw [h1]; rfl)
    rw [hg.block c hl (fun e => hne c (by rw [h1]; rfl) e.symm)]
    exact h3
/-- a slice of slices, all of them rows of the call's own, from a block on -/
def ManyOwn (base : Nat) (w : World) (v : Value) (L : List Lss.E) : Prop := ∃ cs : List Value, cs.length = L.length ∧ w.ownsRow base 60 1 v L.length (flatOf Lss.cl cs) ∧ ∀ i, i < L.length → w.ownsRow base 64 2 (Lss.cat cs i) (Lss.at' L i).length (Lab.flat (Lss.at' L i))
theorem ManyOwn.is {base : Nat} {w : World} {v : Value} {L : List Lss.E} (h : ManyOwn base w v L) : Lss.Is w v L := by
  obtain ⟨cs, h1, h2, h3⟩ := h
  exact ⟨cs, h1, lies_of_own h2, fun i hi => Lab.is_of_own (h3 i hi)⟩
theorem ManyOwn.kept {base rb : Nat} {w w' : World} {v : Value} {L : List Lss.E} (h : ManyOwn base w v L) (hg : w.grownBy w' (some rb)) (hr : rb < base) : ManyOwn base w' v L := by
  obtain ⟨cs, h1, h2, h3⟩ := h
  exact ⟨cs, h1, own_kept h2 hg hr, fun i hi => own_kept (h3 i hi) hg hr⟩
theorem ManyOwn.below {base : Nat} {w w' : World} {v : Value} {L : List Lss.E} (h : ManyOwn base w v L) (hb : Below w.heap.size w w') : ManyOwn base w' v L := by
  obtain ⟨cs, h1, h2, h3⟩ := h
  exact ⟨cs, h1, own_below h2 hb, fun i hi => own_below (h3 i hi) hb⟩
theorem many_nil {w : World} {base : Nat} (hb : base ≤ w.heap.size) : ManyOwn base (w.alloc (.cells #[] 60)) (.slice (some ⟨w.heap.size, 0, none⟩) 0 0) [] := ⟨[], rfl, own_empty hb, fun i h => by cases h⟩
theorem many_app {base : Nat} {w1 w2 w9 : World} {ov vn v : Value} {L : List Lss.E} {x : Lss.E} {n : Nat} {xs : List Value} {cs : List Value} (hcs : cs.length = L.length) (ho : w1.ownsRow base 60 1 ov L.length (flatOf Lss.cl cs))
    (hi : ∀ i, i < L.length → w1.ownsRow base 64 2 (Lss.cat cs i) (Lss.at' L i).length (Lab.flat (Lss.at' L i))) (hx : w1.ownsRow base 64 2 v x.length (Lab.flat x)) (hb : Below w1.heap.size w1 w2)
    (hn : n = L.length + 1) (hxs : xs = flatOf Lss.cl cs ++ [v]) (on : w9.ownsRow base 60 1 vn n xs) (gn : w2.grownBy w9 ov.ownBlock) : ManyOwn base w9 vn (L ++ [x]) := by
  subst hn hxs
  have key : ∀ {u : Value} {m : Nat} {ys : List Value}, w1.ownsRow base 64 2 u m ys → w9.ownsRow base 64 2 u m ys := fun h => own_grown (own_below h hb) gn (fun k hk e => own_ne_type h ho (by decide) k hk e)
  refine ⟨cs ++ [v], by simp [hcs], ?_, fun i hi' => ?_⟩
  · rw [List.length_append, flatOf_append, flatOf_one]; exact on
  · rw [List.length_append] at hi'
    simp only [List.length_cons, List.length_nil] at hi'
    by_cases hl : i < L.length
    · rw [Lss.cat_lt _ _ _ (by omega), show Lss.at' (L ++ [x]) i = Lss.at' L i by simp [Lss.at', List.getD, List.getElem?_append_left hl]]
      exact key (hi i hl)
    · obtain rfl : i = L.length := by omega
      rw [show Lss.cat (cs ++ [v]) L.length = v by rw [← hcs]; exact Lss.cat_last cs v, show Lss.at' (L ++ [x]) L.length = x by simp [Lss.at', List.getD]]
      exact key hx
end Go.Proofs.YtlboekimnhgfdaaGreat.Draw

/- The laws draw their inputs from bytes: what is drawn lies within bounds, and nothing that lay there is turned. -/
namespace Go.Proofs.YtlboekimnhgfdaaGreat.Draw
open Go.RowKit Rw
set_option linter.unusedVariables false
attribute [local go_sem ↓] Go.wp_at_zero Go.wp_at_succ
/-- numbers that lie in a block of their own -/
def Ints (w : World) (g : Nat) (l : List Int) : Prop := ∀ i, i < l.length → w.cell? ⟨g, i, none⟩ = some (.int .i64 (l.getD i 0))
set_option maxHeartbeats 1000000 in
theorem one_any (rb p g : Nat) (l : List Int) (w : World) (h : Rd w rb p) (hp : p ≤ 1000000) (hl : 0 < l.length) (hl2 : l.length ≤ 1000) (hg : Ints w g l) (hgs : g < w.heap.size) (hne : g ≠ rb) :
    Calls Tryz.prog 75 #[.pointer (some ⟨rb, 0, none⟩), .slice (some ⟨g, 0, none⟩) l.length l.length] w fun e w' => ∃ x : Int, e = .returned (.int .i64 x) ∧ x ∈ l ∧ Rd w' rb (p + 1) ∧ w.grownBy w' (some rb) := by
  obtain ⟨n, hn⟩ : ∃ n, n = l.length := ⟨_, rfl⟩
  rw [← hn]
  have HN := hide hn
  have n1 : 0 < n := by omega
  have n2 : n ≤ 1000 := by omega
  have HP := hide (fun k (hk : k ≤ (4294967296 : Int)) => pick_any rb p k w h hp hk)
  clear h hn hl hl2
  go_enter Tryz.func75, Tryz.ntmps75
  go_wp2_with fail
  refine (unhide HP _ (by omega)).mono ?_
  rintro e w1 ⟨x, rfl, x0, x1, -, r1, g1⟩
  have x2 : x < (n : Int) := x1 (by omega)
  obtain ⟨k, rfl⟩ := Int.eq_ofNat_of_zero_le x0
  have hk : k < n := by omega
  have hc : w1.cell? ⟨g, k, none⟩ = some (.int .i64 (l.getD k 0)) := (grown_cell g1 hgs hne).trans (hg k (by have := unhide HN; omega))
  have hm := hide (show l.getD k 0 ∈ l by
    have hk' : k < l.length := by have := unhide HN; omega
    simp [List.getD, hk'])
  generalize l.getD k 0 = X at hc hm
  clear x1
  go_wp2
  go_ret
  exact ⟨X, rfl, unhide hm, r1, g1⟩
theorem ints_block {w : World} {g : Nat} {l : List Int} {t : TypeId} (h : w.heap[g]? = some (.cells (l.map (Value.int .i64)).toArray t (0, 0))) : Ints w g l := fun i hi => by
  rw [cell_of_row w g i _ _ _ h]
  simp [List.getD, hi]
/-- one of numbers that are written out -/
theorem one_new (rb p : Nat) (l : List Int) (w : World) (h : Rd w rb p) (hp : p ≤ 1000000) (hl : 0 < l.length) (hl2 : l.length ≤ 1000) :
    Calls Tryz.prog 75 #[.pointer (some ⟨rb, 0, none⟩), .slice (some ⟨w.heap.size, 0, none⟩) l.length l.length] (w.alloc (.cells (l.map (Value.int .i64)).toArray 3)) fun e w' => ∃ x : Int, e = .returned (.int .i64 x) ∧ x ∈ l ∧ Rd w' rb (p + 1) ∧ w.grownBy w' (some rb) := by
  have hb : Below w.heap.size w (w.alloc (.cells (l.map (Value.int .i64)).toArray 3)) := (Below.refl _ _).alloc (Nat.le_refl _) _
  refine (one_any rb p w.heap.size l _ (h.below hb) hp hl hl2 (ints_block (heap_alloc_new w _)) (by simp) (by have := h.lt; omega)).mono ?_
  rintro e w' ⟨x, rfl, hx, hr, hg⟩
  exact ⟨x, rfl, hx, hr, grown_trans (grown_below hb) hg⟩
end Go.Proofs.YtlboekimnhgfdaaGreat.Draw

/- Great numbers are drawn. -/
namespace Go.Proofs.YtlboekimnhgfdaaGreat.Draw
open Go.RowKit Rw
set_option linter.unusedVariables false
attribute [local go_sem ↓] Go.wp_at_zero Go.wp_at_succ
set_option maxRecDepth 100000 in
set_option maxHeartbeats 2000000 in
theorem big_any (rb p n : Nat) (w : World) (h : Rd w rb p) (hp : p ≤ 900000) (hn : 0 < n) (hn2 : n ≤ 4294967296) :
    Calls Tryz.prog 159 #[.pointer (some ⟨rb, 0, none⟩), .int .i64 n] w fun e w' => ∃ x : Nat, e = .returned (.int .i64 x) ∧ x < n ∧ Rd w' rb (p + 3) ∧ w.grownBy w' (some rb) := by
  have HR := hide h
  clear h
  go_enter Tryz.func159, Tryz.ntmps159
  go_wp2_with fail
  refine (pick_any rb p _ _ (unhide HR) (by omega) (by omega)).mono ?_
  rintro e w1 ⟨x, rfl, x0, x1, -, r1, g1⟩
  have x2 : x < 256 := x1 (by omega)
  clear x1 HR
  go_wp2_with fail
  refine (pick_any rb (p + 1) _ _ r1 (by omega) (by omega)).mono ?_
  rintro e w2 ⟨y, rfl, y0, y1, -, r2, g2⟩
  have y2 : y < 256 := y1 (by omega)
  have q2 := grown_trans g1 g2
  clear y1 r1 g1 g2
  go_wp2_with fail
  refine (pick_any rb (p + 1 + 1) _ _ r2 (by omega) (by omega)).mono ?_
  rintro e w3 ⟨z, rfl, z0, z1, -, r3, g3⟩
  have z2 : z < 256 := z1 (by omega)
  have q3 := grown_trans q2 g3
  clear z1 r2 q2 g3
  obtain ⟨X, hX⟩ : ∃ X : Nat, (X : Int) = (x * 65536 + y * 256 + z) % (n : Int) := ⟨((x * 65536 + y * 256 + z) % (n : Int)).toNat, Int.toNat_of_nonneg (Int.emod_nonneg _ (by omega))⟩
  have hX2 : X < n := by have := Int.emod_lt_of_pos (x * 65536 + y * 256 + z) (show (0 : Int) < (n : Int) by omega); omega
  have hX3 : (x * 65536 + y * 256 + z).tmod (n : Int) = (X : Int) := by rw [Int.tmod_eq_emod_of_nonneg (by omega), hX]
  have hX4 := hX.symm
  clear hX
  go_wp2
  go_ret
  exact ⟨X, rfl, hX2, r3, q3⟩
end Go.Proofs.YtlboekimnhgfdaaGreat.Draw
