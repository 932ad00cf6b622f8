/- My own texts of one claim, laid together by program: LabGetMath, Nest, Zone, MarkText. -/
import Derived.Test.YtkmoekbicbjdmaaDoorGacf6adc661
import Derived.Test.YtkmoekbicbjdmaaDoorG0d305fe6f9
import Derived.Test.YtkmoekbicbjdmaaDoorGeeb769b86e
import Derived.ChangeArms
import Derived.Laws.Concat
/- Labels read from a text, as plain mathematics: what was put is read back, and only that is read. No condition. -/
namespace Go.Proofs.YtkmoekbicbjdmaaDoor.Lab
open PutMath CutText
set_option linter.unusedVariables false
def mid (s : ByteArray) : List UInt8 := (s.data.toList.drop 1).dropLast
def ofL (l : List UInt8) : ByteArray := ⟨l.toArray⟩
theorem ofL_list (l : List UInt8) : (ofL l).data.toList = l := of_toList l
theorem list_ofL (s : ByteArray) : ofL s.data.toList = s := Go.WideShapes.bytes_inj (ofL_list _)
def cutE (p : ByteArray) : E := (ofL (Lib.cut p.data.toList [61]).1, ofL (Lib.cut p.data.toList [61]).2.1)
def partsI (s : ByteArray) : List ByteArray := if mid s = [] then [] else (cutL 44 (mid s)).map ofL
def pI (s : ByteArray) : List E := (partsI s).map cutE
/-- what a text is read as -/
def getB (s : ByteArray) : List E × Bool := if s.size ≠ 0 ∧ put (pI s) = s then (pI s, true) else ([], false)
theorem letters_no {s : ByteArray} (h : letters s = true) {b : UInt8} (hb : letter b = false) : b ∉ s.data.toList := fun hm => by
  unfold letters at h
  have := List.all_eq_true.1 h b hm
  rw [hb] at this; cases this
theorem ok_each {zs : List E} (h : ok zs = true) : ∀ x ∈ zs, letters x.1 = true ∧ letters x.2 = true ∧ x.1.size ≤ 6 ∧ x.2.size ≤ 8 := by
  unfold ok at h
  simp only [Bool.and_eq_true, decide_eq_true_eq] at h
  intro x hx
  obtain ⟨k, hk, rfl⟩ := List.getElem_of_mem hx
  have hs := List.all_eq_true.1 (show (List.range zs.length).all (stepOk zs) = true from h.2) k (List.mem_range.2 hk)
  rw [← at_get zs k hk]
  unfold stepOk nameB wordB at hs
  simp only [Bool.and_eq_true, decide_eq_true_eq] at hs
  exact ⟨hs.1.1.1.2, hs.1.1.2.2, hs.1.1.1.1.2, hs.1.1.2.1⟩
theorem ok_len {zs : List E} (h : ok zs = true) : 1 ≤ zs.length ∧ zs.length ≤ 4 := by
  unfold ok at h
  simp only [Bool.and_eq_true, decide_eq_true_eq] at h
  exact h.1
theorem part_list (x : E) : (partOf x).data.toList = x.1.data.toList ++ 61 :: x.2.data.toList := by
  unfold partOf
  rw [app_toList, app_toList]; simp
theorem no44 {zs : List E} (h : ok zs = true) : ∀ p ∈ parts zs, (44 : UInt8) ∉ p.data.toList := by
  intro p hp
  obtain ⟨x, hx, rfl⟩ := List.mem_map.1 hp
  obtain ⟨h1, h2, -⟩ := ok_each h x hx
  rw [part_list]
  intro hm
  rcases List.mem_append.1 hm with hm | hm
  · exact letters_no h1 (by decide) hm
  · rcases List.mem_cons.1 hm with e | hm
    · exact absurd e (by decide)
    · exact letters_no h2 (by decide) hm
theorem put_list {zs : List E} (h : ok zs = true) : (put zs).data.toList = 123 :: joinB (parts zs) ++ [125] := by
  unfold put wrap
  rw [if_pos h, of_toList]
theorem mid_put {zs : List E} (h : ok zs = true) : mid (put zs) = joinB (parts zs) := by
  unfold mid
  rw [put_list h]
  simp
theorem parts_ne {zs : List E} (h : ok zs = true) : parts zs ≠ [] := by
  have := ok_len h
  intro e
  have h2 := parts_length zs
  rw [e, List.length_nil] at h2
  omega
theorem cut_parts {zs : List E} (h : ok zs = true) : cutL 44 (mid (put zs)) = (parts zs).map (·.data.toList) := by
  rw [mid_put h]
  exact cutL_joinB (parts_ne h) (no44 h)
theorem join_ne {zs : List E} (h : ok zs = true) : mid (put zs) ≠ [] := by
  intro e
  have h1 := cut_parts h
  rw [e] at h1
  simp only [cutL] at h1
  have h2 := congrArg List.length h1
  rw [List.length_map, parts_length] at h2
  simp at h2
  obtain ⟨x, rfl⟩ : ∃ x, zs = [x] := by
    match zs, h2 with
    | [x], _ => exact ⟨x, rfl⟩
  have h3 : [[]] = [(partOf x).data.toList] := h1
  rw [part_list] at h3
  simp at h3
theorem partsI_put {zs : List E} (h : ok zs = true) : partsI (put zs) = parts zs := by
  unfold partsI
  rw [if_neg (join_ne h), cut_parts h, List.map_map]
  conv => rhs; rw [← List.map_id (parts zs)]
  exact List.map_congr_left (fun p _ => list_ofL p)
theorem cut_two {x : E} (h1 : letters x.1 = true) (h2 : letters x.2 = true) : cutL 61 (partOf x).data.toList = [x.1.data.toList, x.2.data.toList] := by
  rw [part_list, cutL_hit _ (letters_no h1 (by decide)), cutL_miss (letters_no h2 (by decide))]
theorem cutE_part {x : E} (h1 : letters x.1 = true) (h2 : letters x.2 = true) : cutE (partOf x) = x := by
  have hn1 := letters_no h1 (b := 61) (by decide)
  have hn2 := letters_no h2 (b := 61) (by decide)
  unfold cutE
  rw [part_list]
  rcases index_cases (x.1.data.toList ++ 61 :: x.2.data.toList) 61 with ⟨h, hb⟩ | ⟨p, r, e, hb, h⟩
  · exact absurd (List.mem_append_right _ (List.mem_cons_self ..)) hb
  · have h3 := cutL_hit x.2.data.toList hn1
    rw [e, cutL_hit _ hb] at h3
    have h4 := (List.cons.inj h3).1
    have hl : Lib.index (x.1.data.toList ++ 61 :: x.2.data.toList) [61] = (x.1.data.toList.length : Int) := by rw [h, h4]
    unfold Lib.cut
    rw [hl, if_pos (by omega)]
    have t : ((x.1.data.toList.length : Int)).toNat = x.1.data.toList.length := rfl
    simp only [t, List.length_singleton]
    rw [List.take_left', List.drop_append]
    · simp only [Nat.add_sub_cancel_left, List.drop_succ_cons, List.drop_zero]
      rw [List.drop_of_length_le (by omega), List.nil_append]
      exact Prod.ext (list_ofL _) (list_ofL _)
    · rfl
theorem pI_put {zs : List E} (h : ok zs = true) : pI (put zs) = zs := by
  unfold pI
  rw [partsI_put h]
  unfold parts
  rw [List.map_map]
  conv => rhs; rw [← List.map_id zs]
  exact List.map_congr_left (fun x hx => cutE_part (ok_each h x hx).1 (ok_each h x hx).2.1)
theorem put_size {zs : List E} (h : ok zs = true) : 2 ≤ (put zs).size ∧ (put zs).size ≤ 200 := by
  have e : (put zs).size = (joinB (parts zs)).length + 2 := by
    unfold put wrap
    rw [if_pos h, size_of]
    simp
  have hl := joinB_len (parts zs) 15 (fun p hp => by
    obtain ⟨x, hx, rfl⟩ := List.mem_map.1 hp
    obtain ⟨-, -, h3, h4⟩ := ok_each h x hx
    unfold partOf
    rw [app_size, app_size]
    have e : (⟨#[61]⟩ : ByteArray).size = 1 := rfl
    omega)
  rw [parts_length] at hl
  have := (ok_len h).2
  omega
theorem of_put {zs : List E} {s : ByteArray} (h : put zs = s) (hs : s.size ≠ 0) : ok zs = true := by
  cases e : ok zs
  · exfalso
    unfold put at h
    rw [e] at h
    rw [← h] at hs
    exact hs rfl
  · rfl
theorem getB_put {zs : List E} (h : ok zs = true) : getB (put zs) = (zs, true) := by
  unfold getB
  rw [pI_put h, if_pos ⟨by have := (put_size h).1; omega, rfl⟩]
theorem getB_of {zs : List E} {s : ByteArray} (h : put zs = s) (hs : s.size ≠ 0) : getB s = (zs, true) := by
  have := getB_put (of_put h hs)
  rwa [h] at this
theorem getB_no {s : ByteArray} (h : ∀ zs, ok zs = true → put zs ≠ s) : getB s = ([], false) := by
  unfold getB
  rw [if_neg (fun ⟨h1, h2⟩ => h _ (of_put h2 h1) h2)]
theorem getB_true {s : ByteArray} {L : List E} (h : getB s = (L, true)) : ok L = true ∧ put L = s := by
  unfold getB at h
  split at h
  · rename_i hc
    obtain ⟨h1, h2⟩ := hc
    simp only [Prod.mk.injEq, and_true] at h
    subst h
    exact ⟨of_put h2 h1, h2⟩
  · simp at h
/-- the program: no bracket ahead, or none behind -/
theorem getB_first {s : ByteArray} (h : ∀ r, s.data.toList ≠ 123 :: r) : getB s = ([], false) := getB_no (fun zs hz e => by
  have := put_list hz
  rw [e] at this
  exact h _ this)
theorem getB_last {s : ByteArray} (h : ∀ r, s.data.toList ≠ 123 :: r ++ [125]) : getB s = ([], false) := getB_no (fun zs hz e => by
  have := put_list hz
  rw [e] at this
  exact h _ this)
theorem getB_put_ne {s : ByteArray} (h : put (pI s) ≠ s) : getB s = ([], false) := by
  unfold getB
  rw [if_neg (fun h2 => h h2.2)]
/-- the model: too short, too long, a part that is no two words, another text -/
theorem getB_len {s : ByteArray} (h : s.size < 2 ∨ 200 < s.size) : getB s = ([], false) := getB_no (fun zs hz e => by
  have := put_size hz
  rw [e] at this
  omega)
def twoE (p : List UInt8) : E := match cutL 61 p with | [a, b] => (ofL a, ofL b) | _ => (ByteArray.empty, ByteArray.empty)
theorem getB_part {s : ByteArray} {p : List UInt8} (hp : p ∈ cutL 44 (mid s)) (h : (cutL 61 p).length ≠ 2) : getB s = ([], false) := getB_no (fun zs hz e => by
  rw [← e, cut_parts hz] at hp
  obtain ⟨q, hq, rfl⟩ := List.mem_map.1 hp
  obtain ⟨x, hx, rfl⟩ := List.mem_map.1 hq
  have h3 := ok_each hz x hx
  rw [cut_two h3.1 h3.2.1] at h
  exact h rfl)
theorem two_put {zs : List E} (hz : ok zs = true) : (cutL 44 (mid (put zs))).map twoE = zs := by
  rw [cut_parts hz]
  unfold parts
  rw [List.map_map, List.map_map]
  conv => rhs; rw [← List.map_id zs]
  refine List.map_congr_left (fun x hx => ?_)
  have h3 := ok_each hz x hx
  show twoE (partOf x).data.toList = x
  unfold twoE
  rw [cut_two h3.1 h3.2.1]
  exact Prod.ext (list_ofL _) (list_ofL _)
theorem getB_two_ne {s : ByteArray} (h : put ((cutL 44 (mid s)).map twoE) ≠ s) : getB s = ([], false) := getB_no (fun zs hz e => by
  rw [← e, two_put hz] at h
  exact h rfl)
end Go.Proofs.YtkmoekbicbjdmaaDoor.Lab

/- Slices whose elements hold slices: small things that serve every such type. No condition. -/
namespace Go.Proofs.YtkmoekbicbjdmaaDoor.Rw
open Go.RowKit Go.ChangeShapes Go.WideShapes
theorem choose_list {α β : Type} [Inhabited α] [Inhabited β] {P : α → β → Prop} : ∀ (cs : List α), (∀ c ∈ cs, ∃ x, P c x) → ∃ zs : List β, zs.length = cs.length ∧ ∀ i, i < cs.length → P (cs.getD i default) (zs.getD i default)
  | [], _ => ⟨[], rfl, fun i h => by cases h⟩
  | c :: cs, h => by
    obtain ⟨x, hx⟩ := h c (by simp)
    obtain ⟨zs, hl, hz⟩ := choose_list cs (fun d hd => h d (by simp [hd]))
    refine ⟨x :: zs, by simp [hl], fun i hi => ?_⟩
    cases i with
    | zero => simpa using hx
    | succ i =>
      have := hz i (by simpa using hi)
      simpa using this
/-- a slice that came in, by its one cell -/
theorem slice_cell {H : Type} {enc : TypeId × Value → H} {W : World} {t e : TypeId} {n : Nat} {c : Value} {y : DataW H × List MemPlace} (ht : Tryd.prog.underlying t = some (.slice e))
    (h : DataW.trod enc Tryd.prog W 0 (fun _ => true) true n t [c] = some y) : ∃ a l k, c = .slice a l k ∧ DataW.Trod enc Tryd.prog W 0 (fun _ => true) true t (.slice a l k) y.1 y.2 := by
  rcases Go.Deep.open_slice ht h with ⟨hcs, _⟩ | ⟨x, l, k, m, n', D, Pl, hcs, _⟩
  · simp only [List.cons.injEq, and_true] at hcs
    subst hcs
    exact ⟨none, 0, 0, rfl, n, h⟩
  · simp only [List.cons.injEq, and_true] at hcs
    subst hcs
    exact ⟨some x, l, k, rfl, n, h⟩
theorem Lies.form {w : World} {v : Value} {n size : Nat} {xs : List Value} (h : Lies w v n size xs) : ∃ a cap, v = .slice a n cap ∧ n ≤ cap ∧ cap ≤ maxLen := by
  obtain ⟨_, a, cap, h1, h2, h3, _⟩ := h
  exact ⟨a, cap, h1, h2, h3⟩
end Go.Proofs.YtkmoekbicbjdmaaDoor.Rw

/- What a call leaves as it was, but for some blocks. No condition. -/
namespace Go.Proofs.YtkmoekbicbjdmaaDoor.Rw
open Go.RowKit
/-- all that was there is as it was, but for blocks from lo on, ahead of hi -/
structure Zone (lo hi : Nat) (w w' : World) : Prop where
  os : w'.os = w.os
  tape : w'.tape = w.tape
  output : w'.output = w.output
  size : w.heap.size ≤ w'.heap.size
  block : ∀ k, k < w.heap.size → (k < lo ∨ hi ≤ k) → w'.heap[k]? = w.heap[k]?
theorem Zone.refl (lo hi : Nat) (w : World) : Zone lo hi w w := ⟨rfl, rfl, rfl, Nat.le_refl _, fun _ _ _ => rfl⟩
theorem Zone.trans {lo hi : Nat} {a b c : World} (h : Zone lo hi a b) (h' : Zone lo hi b c) : Zone lo hi a c :=
  ⟨h'.os.trans h.os, h'.tape.trans h.tape, h'.output.trans h.output, Nat.le_trans h.size h'.size, fun k hk ho => (h'.block k (Nat.lt_of_lt_of_le hk h.size) ho).trans (h.block k hk ho)⟩
theorem Zone.of_below {lo hi : Nat} {w w' : World} (h : Below w.heap.size w w') : Zone lo hi w w' := ⟨h.os, h.tape, h.output, h.size, fun k hk _ => h.block k hk⟩
theorem Zone.mono {lo hi lo' hi' : Nat} {w w' : World} (h : Zone lo hi w w') (h1 : lo' ≤ lo) (h2 : hi ≤ hi') : Zone lo' hi' w w' := ⟨h.os, h.tape, h.output, h.size, fun k hk ho => h.block k hk (by omega)⟩
theorem Zone.below {lo hi B : Nat} {w w' : World} (h : Zone lo hi w w') (hB : B ≤ lo) (hs : B ≤ w.heap.size) : Below B w w' := ⟨h.os, h.tape, h.output, h.size, fun k hk => h.block k (by omega) (.inl (by omega))⟩
theorem Zone.of_only {g lo hi : Nat} {w w' : World} (h : OnlyAt g w w') (h1 : lo ≤ g) (h2 : g < hi) : Zone lo hi w w' := ⟨h.os, h.tape, h.output, Nat.le_of_eq h.size.symm, fun k _ ho => h.block k (by omega)⟩
theorem Zone.store {g lo hi : Nat} {w w' : World} (h : Zone lo hi w w') (h1 : lo ≤ g) (h2 : g < hi) (j : Nat) (u : Value) : Zone lo hi w (w'.setCell ⟨g, j, none⟩ u) := h.trans (Zone.of_only ((OnlyAt.refl g w').setCell j u) h1 h2)
/-- a slice that lies outside -/
def Out (lo hi : Nat) (v : Value) : Prop := ∀ k, v.ownBlock = some k → k < lo ∨ hi ≤ k
theorem Zone.lies {lo hi : Nat} {w w' : World} (h : Zone lo hi w w') {v : Value} {n size : Nat} {xs : List Value} (hs : Lies w v n size xs) (hv : Out lo hi v) : Lies w' v n size xs := by
  obtain ⟨h0, ad, cap, h1, h2, h3, h4, h5⟩ := hs
  refine ⟨h0, ad, cap, h1, h2, h3, h4, fun hn => ?_⟩
  obtain ⟨c, off, e, hl, hc⟩ := h5 hn
  exact ⟨c, off, e, Nat.lt_of_lt_of_le hl h.size, fun j u hj => (World.cell?_of_block (a := ⟨c, off + j, none⟩) (h.block c hl (hv c (by rw [h1, e]; rfl)))).trans (hc j u hj)⟩
theorem Zone.own {lo hi : Nat} {w w' : World} (h : Zone lo hi w w') {base n size : Nat} {e : TypeId} {v : Value} {xs : List Value} (ho : w.ownsRow base e size v n xs) (hv : Out lo hi v) : w'.ownsRow base e size v n xs := by
  refine ⟨ho.1, ?_⟩
  rcases ho.2 with h1 | ⟨c, cap, cur, h1, h2, h3, h4⟩
  · exact .inl h1
  · refine .inr ⟨c, cap, cur, h1, h2, ?_, h4⟩
    have hl : c < w.heap.size := by
      rcases Nat.lt_or_ge c w.heap.size with hl | hl
      · exact hl
      · rw [Array.getElem?_eq_none hl] at h3; cases h3
    rw [h.block c hl (hv c (by rw [h1]; rfl))]
    exact h3
/-- a row of the call's own lies from its base on, ahead of what the world has -/
theorem own_out {w : World} {base n size lo hi : Nat} {e : TypeId} {v : Value} {xs : List Value} (h : w.ownsRow base e size v n xs) (ho : hi ≤ base ∨ w.heap.size ≤ lo) : Out lo hi v := by
  intro k hk
  have h1 := own_ge h k hk
  have h2 := own_block_lt h k hk
  omega
/-- slices of which no two lie in one block -/
def Apart (cs : List Value) : Prop := ∀ i j, i < j → j < cs.length → ∀ k, (cs.getD i default).ownBlock = some k → (cs.getD j default).ownBlock ≠ some k
theorem Apart.nil : Apart [] := fun i j _ h => by cases h
theorem Apart.snoc {cs : List Value} {c : Value} (h : Apart cs) (hc : ∀ i, i < cs.length → ∀ k, (cs.getD i default).ownBlock = some k → c.ownBlock ≠ some k) : Apart (cs ++ [c]) := by
  intro i j hij hj k hk
  simp only [List.length_append, List.length_cons, List.length_nil] at hj
  have ei : (cs ++ [c]).getD i default = cs.getD i default := by simp [List.getD, List.getElem?_append_left (show i < cs.length by omega)]
  rw [ei] at hk
  by_cases hl : j < cs.length
  · rw [show (cs ++ [c]).getD j default = cs.getD j default by simp [List.getD, List.getElem?_append_left hl]]
    exact h i j hij hl k hk
  · obtain rfl : j = cs.length := by omega
    rw [show (cs ++ [c]).getD cs.length default = c by simp [List.getD]]
    exact hc i hij k hk
theorem Apart.ne {cs : List Value} (h : Apart cs) {i j : Nat} (hij : i ≠ j) (hi : i < cs.length) (hj : j < cs.length) : ∀ k, (cs.getD i default).ownBlock = some k → (cs.getD j default).ownBlock ≠ some k := by
  intro k hk
  rcases Nat.lt_or_gt_of_ne hij with hl | hl
  · exact h i j hl hj k hk
  · intro hk'
    exact h j i hl hi k hk' hk
theorem own_ne_type {w : World} {b1 b2 s1 s2 n1 n2 : Nat} {e1 e2 : TypeId} {v1 v2 : Value} {x1 x2 : List Value} (h1 : w.ownsRow b1 e1 s1 v1 n1 x1) (h2 : w.ownsRow b2 e2 s2 v2 n2 x2) (he : e1 ≠ e2) : ∀ k, v1.ownBlock = some k → v2.ownBlock ≠ some k := by
  intro k hk hk'
  rcases h1.2 with ⟨rfl, _⟩ | ⟨g, cap, cur, rfl, _, hg, _⟩
  · cases hk
  · rcases h2.2 with ⟨rfl, _⟩ | ⟨g', cap', cur', rfl, _, hg', _⟩
    · cases hk'
    · simp only [Value.ownBlock, Option.some.injEq] at hk hk'
      subst hk
      subst hk'
      rw [hg] at hg'
      simp only [Option.some.injEq, Obj.cells.injEq] at hg'
      exact he hg'.2.1
def loOf (v : Value) : Nat := match v.ownBlock with | some g => g | none => 0
def hiOf (v : Value) : Nat := match v.ownBlock with | some g => g + 1 | none => 0
theorem in_self (v : Value) : ∀ k, v.ownBlock = some k → loOf v ≤ k ∧ k < hiOf v := by
  intro k hk
  unfold loOf hiOf
  rw [hk]
  exact ⟨Nat.le_refl _, Nat.lt_succ_self _⟩
theorem out_of_ne {v u : Value} (h : ∀ k, v.ownBlock = some k → u.ownBlock ≠ some k) : Out (loOf v) (hiOf v) u := by
  intro k hk
  unfold loOf hiOf
  cases hv : v.ownBlock with
  | none => exact .inr (Nat.zero_le _)
  | some g =>
    have : g ≠ k := fun e => h g hv (by rw [e]; exact hk)
    simp only
    omega
theorem zone_in {v : Value} {lo hi : Nat} {w w' : World} (h : Zone (loOf v) (hiOf v) w w') (hin : ∀ k, v.ownBlock = some k → lo ≤ k ∧ k < hi) : Zone lo hi w w' := by
  unfold loOf hiOf at h
  cases hv : v.ownBlock with
  | none =>
    simp only [hv] at h
    exact ⟨h.os, h.tape, h.output, h.size, fun k hk _ => h.block k hk (.inr (Nat.zero_le _))⟩
  | some g =>
    simp only [hv] at h
    have := hin g hv
    exact h.mono (by omega) (by omega)
end Go.Proofs.YtkmoekbicbjdmaaDoor.Rw

/- The text of a mark, markText, at every number from 1 on. No condition but that the number is not too great. -/
namespace Go.Proofs.YtkmoekbicbjdmaaDoor.Mark
open Go.RowKit Rw
set_option linter.unusedVariables false
attribute [local go_sem ↓] Go.wp_at_zero Go.wp_at_succ
def digs : Nat → Nat → List UInt8
  | 0, _ => []
  | f + 1, k => if k = 0 then [] else digs f (k / 10) ++ [UInt8.ofNat (48 + k % 10)]
theorem digs_zero (f : Nat) : digs f 0 = [] := by cases f <;> simp [digs]
theorem digs_len : ∀ (f k : Nat), (digs f k).length ≤ f
  | 0, _ => by simp [digs]
  | f + 1, k => by
    unfold digs
    split
    · simp
    · have := digs_len f (k / 10)
      simp only [List.length_append, List.length_cons, List.length_nil]
      omega
def text (k : Nat) : ByteArray := ⟨(109 :: digs 20 k).toArray⟩
theorem digs_step (f k : Nat) (h : 0 < k) : digs (f + 1) k = digs f (k / 10) ++ [UInt8.ofNat (48 + k % 10)] := by
  conv => lhs; unfold digs
  rw [if_neg (by omega)]
/-- what a round meets, its numbers as letters -/
theorem round_facts (K : Nat) (h : 0 < K) : ∃ m c q : Nat, (K : Int).tmod 10 = (m : Int) ∧ (K : Int) % 10 = (m : Int) ∧ (48 : Int) + (m : Int) = (c : Int) ∧ IntKind.u8.wrap (c : Int) = (c : Int) ∧ (K : Int).tdiv 10 = (q : Int) ∧ (K : Int) / 10 = (q : Int) ∧ q < K ∧ c < 256 ∧
    Hid (∀ f, digs (f + 1) K = digs f q ++ [UInt8.ofNat c]) ∧ Hid (q = K / 10) := by
  refine ⟨K % 10, 48 + K % 10, K / 10, ?_, by omega, by omega, ?_, ?_, by omega, by omega, by omega, fun f => digs_step f K h, rfl⟩
  · rw [Int.tmod_eq_emod_of_nonneg (by omega)]; omega
  · rw [IntKind.wrap_u8']; omega
  · rw [Int.tdiv_eq_ediv_of_nonneg (by omega)]; omega
theorem conv_one (w : World) (c : Nat) (h : c < 256) : (convert 22 9 (.slice (some ⟨w.heap.size, 0, none⟩) 1 1)).run Tryd.prog (w.alloc (.cells #[.int .u8 (c : Int)] 5)) = .ok (.string ⟨#[UInt8.ofNat c]⟩) (w.alloc (.cells #[.int .u8 (c : Int)] 5)) := by
  have ho : (w.alloc (.cells #[.int .u8 (c : Int)] 5)).ownsRow 0 5 1 (.slice (some ⟨w.heap.size, 0, none⟩) 1 1) 1 ([UInt8.ofNat c].map byteV) := by
    refine ⟨rfl, .inr ⟨w.heap.size, 1, #[.int .u8 (c : Int)], rfl, Nat.zero_le _, heap_alloc_new w _, Nat.le_refl _, by unfold maxLen; omega, rfl, ?_⟩⟩
    have e : (UInt8.ofNat c).toNat = c := by simp; omega
    simp [byteV, e]
  exact conv_owned ho
set_option maxHeartbeats 1000000 in
theorem text_any (k : Nat) (h1 : 1 ≤ k) (h2 : k ≤ 1000000000000) (w : World) : Calls Tryd.prog 55 #[.int .i64 k] w fun e w' => e = .returned (.string (text k)) ∧ Below w.heap.size w w' := by
  have HD := hide (show text k = ⟨#[109]⟩ ++ ⟨(digs 20 k).toArray⟩ by apply ByteArray.ext; simp [text])
  have HL := hide (digs_len 20 k)
  obtain ⟨D, hD⟩ : ∃ D, D = digs 20 k := ⟨_, rfl⟩
  rw [← hD] at HD HL
  obtain ⟨R, hR⟩ : ∃ R, R = text k := ⟨_, rfl⟩
  rw [← hR] at HD ⊢
  have HR := hide hD
  clear hR hD
  go_enter Tryd.func55, Tryd.ntmps55
  go_wp2
  go_loopw [0, 3] (fun kv ov wr => ∃ (f K : Nat) (o : List UInt8), kv = .int .i64 K ∧ ov = .string ⟨o.toArray⟩ ∧ Hid (digs f K ++ o = D) ∧ Hid (K < 10 ^ f) ∧ f ≤ 20 ∧ K ≤ 1000000000000 ∧ o.length ≤ 20 - f ∧ Below w.heap.size w wr) (fun kv _ _ => (intOf kv).toNat)
  case atStart => exact ⟨20, k, [], rfl, rfl, hide (by rw [List.append_nil]; exact (unhide HR).symm), hide (by omega), by omega, h2, by simp, Below.refl _ _⟩
  case round =>
    obtain ⟨f, K, o, rfl, rfl, HI, HF, hf, hKm, ho, hbel⟩ := hrel
    have hsz := hbel.size
    by_cases hK : 0 < K
    · obtain ⟨m, c, q, t1, t2, t3, t4, t5, t6, hq, hc, HG, HQ⟩ := round_facts K hK
      have hK' : (0 : Int) < (K : Int) := by omega
      have hf1 : 0 < f := by
        rcases Nat.eq_zero_or_pos f with e | e
        · have := unhide HF; rw [e] at this; simp at this; omega
        · exact e
      obtain ⟨f, rfl⟩ : ∃ g, f = g + 1 := ⟨f - 1, by omega⟩
      have hcv := conv_one wr c hc
      have so : (⟨o.toArray⟩ : ByteArray).size = o.length := rfl
      have s1 : ∀ W, (Op.stringOp .add ⟨#[UInt8.ofNat c]⟩ ⟨o.toArray⟩).run Tryd.prog W = .ok (.string ⟨(UInt8.ofNat c :: o).toArray⟩) W := fun W => by
        rw [run_string_add_sum W _ _ (by rw [so]; show 1 + o.length ≤ _; omega)]
        congr 2
      have HI' := hide (show digs f q ++ (UInt8.ofNat c :: o) = D by have := unhide HI; rw [unhide HG f] at this; simpa using this)
      have HF' := hide (show q < 10 ^ f by have h := unhide HF; rw [Nat.pow_succ] at h; rw [unhide HQ]; exact Nat.div_lt_of_lt_mul (by omega))
      clear HI HF HG HQ so
      go_wp2
      go_roundw
      case rel => exact ⟨f, q, UInt8.ofNat c :: o, by go_num, rfl, HI', HF', by omega, by omega, by simp; omega, hbel.alloc hsz _⟩
      case measure => simp [intOf]; omega
    · obtain rfl : K = 0 := by omega
      have e0 : o = D := by have := unhide HI; rwa [digs_zero, List.nil_append] at this
      have s2 : ∀ W, (Op.stringOp .add ⟨#[109]⟩ ⟨o.toArray⟩).run Tryd.prog W = .ok (.string R) W := fun W => by
        rw [unhide HD, ← e0]
        exact run_string_add_sum W _ _ (by show 1 + o.length ≤ _; omega)
      clear e0 HI HF HD HL
      go_wp2
      go_ret
      exact ⟨rfl, hbel⟩
theorem text_at (k : Nat) (z : Int) (hz : z = (k : Int)) (h1 : 1 ≤ k) (h2 : k ≤ 1000000000000) (w : World) : Calls Tryd.prog 55 #[.int .i64 z] w fun e w' => e = .returned (.string (text k)) ∧ Below w.heap.size w w' := by
  subst hz
  exact text_any k h1 h2 w
end Go.Proofs.YtkmoekbicbjdmaaDoor.Mark
