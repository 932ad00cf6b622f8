/- Labels read from a text, as plain mathematics: what was put is read back, and only that is read. No condition. -/
import Derived.Test.YtkmoekbicbjdmaaDoorCutText
import Derived.Test.YtkmoekbicbjdmaaDoorLabPut
namespace Go.Proofs.YtkmoekbicbjdmaaDoor.Lab
open PutMath CutText
set_option linter.unusedVariables false
def mid (s : ByteArray) : List UInt8 := (s.data.toList.drop 1).dropLast
def ofL (l : List UInt8) : ByteArray := ⟨l.toArray⟩
theorem ofL_list (l : List UInt8) : (ofL l).data.toList = l := of_toList l
theorem list_ofL (s : ByteArray) : ofL s.data.toList = s := Go.WideShapes.bytes_inj (ofL_list _)
def cutE (p : ByteArray) : E := (ofL (Lib.cut p.data.toList [61]).1, ofL (Lib.cut p.data.toList [61]).2.1)
def partsI (s : ByteArray) : List ByteArray := if mid s = [] then [] else (cutL 44 (mid s)).map ofL
def pI (s : ByteArray) : List E := (partsI s).map cutE
/-- what a text is read as -/
def getB (s : ByteArray) : List E × Bool := if s.size ≠ 0 ∧ put (pI s) = s then (pI s, true) else ([], false)
theorem letters_no {s : ByteArray} (h : letters s = true) {b : UInt8} (hb : letter b = false) : b ∉ s.data.toList := fun hm => by
  unfold letters at h
  have := List.all_eq_true.1 h b hm
  rw [hb] at this; cases this
theorem ok_each {zs : List E} (h : ok zs = true) : ∀ x ∈ zs, letters x.1 = true ∧ letters x.2 = true ∧ x.1.size ≤ 6 ∧ x.2.size ≤ 8 := by
  unfold ok at h
  simp only [Bool.and_eq_true, decide_eq_true_eq] at h
  intro x hx
  obtain ⟨k, hk, rfl⟩ := List.getElem_of_mem hx
  have hs := List.all_eq_true.1 (show (List.range zs.length).all (stepOk zs) = true from h.2) k (List.mem_range.2 hk)
  rw [← at_get zs k hk]
  unfold stepOk nameB wordB at hs
  simp only [Bool.and_eq_true, decide_eq_true_eq] at hs
  exact ⟨hs.1.1.1.2, hs.1.1.2.2, hs.1.1.1.1.2, hs.1.1.2.1⟩
theorem ok_len {zs : List E} (h : ok zs = true) : 1 ≤ zs.length ∧ zs.length ≤ 4 := by
  unfold ok at h
  simp only [Bool.and_eq_true, decide_eq_true_eq] at h
  exact h.1
theorem part_list (x : E) : (partOf x).data.toList = x.1.data.toList ++ 61 :: x.2.data.toList := by
  unfold partOf
  rw [app_toList, app_toList]; simp
theorem no44 {zs : List E} (h : ok zs = true) : ∀ p ∈ parts zs, (44 : UInt8) ∉ p.data.toList := by
  intro p hp
  obtain ⟨x, hx, rfl⟩ := List.mem_map.1 hp
  obtain ⟨h1, h2, -⟩ := ok_each h x hx
  rw [part_list]
  intro hm
  rcases List.mem_append.1 hm with hm | hm
  · exact letters_no h1 (by decide) hm
  · rcases List.mem_cons.1 hm with e | hm
    · exact absurd e (by decide)
    · exact letters_no h2 (by decide) hm
theorem put_list {zs : List E} (h : ok zs = true) : (put zs).data.toList = 123 :: joinB (parts zs) ++ [125] := by
  unfold put wrap
  rw [if_pos h, of_toList]
theorem mid_put {zs : List E} (h : ok zs = true) : mid (put zs) = joinB (parts zs) := by
  unfold mid
  rw [put_list h]
  simp
theorem parts_ne {zs : List E} (h : ok zs = true) : parts zs ≠ [] := by
  have := ok_len h
  intro e
  have h2 := parts_length zs
  rw [e, List.length_nil] at h2
  omega
theorem cut_parts {zs : List E} (h : ok zs = true) : cutL 44 (mid (put zs)) = (parts zs).map (·.data.toList) := by
  rw [mid_put h]
  exact cutL_joinB (parts_ne h) (no44 h)
theorem join_ne {zs : List E} (h : ok zs = true) : mid (put zs) ≠ [] := by
  intro e
  have h1 := cut_parts h
  rw [e] at h1
  simp only [cutL] at h1
  have h2 := congrArg List.length h1
  rw [List.length_map, parts_length] at h2
  simp at h2
  obtain ⟨x, rfl⟩ : ∃ x, zs = [x] := by
    match zs, h2 with
    | [x], _ => exact ⟨x, rfl⟩
  have h3 : [[]] = [(partOf x).data.toList] := h1
  rw [part_list] at h3
  simp at h3
theorem partsI_put {zs : List E} (h : ok zs = true) : partsI (put zs) = parts zs := by
  unfold partsI
  rw [if_neg (join_ne h), cut_parts h, List.map_map]
  conv => rhs; rw [← List.map_id (parts zs)]
  exact List.map_congr_left (fun p _ => list_ofL p)
theorem cut_two {x : E} (h1 : letters x.1 = true) (h2 : letters x.2 = true) : cutL 61 (partOf x).data.toList = [x.1.data.toList, x.2.data.toList] := by
  rw [part_list, cutL_hit _ (letters_no h1 (by decide)), cutL_miss (letters_no h2 (by decide))]
theorem cutE_part {x : E} (h1 : letters x.1 = true) (h2 : letters x.2 = true) : cutE (partOf x) = x := by
  have hn1 := letters_no h1 (b := 61) (by decide)
  have hn2 := letters_no h2 (b := 61) (by decide)
  unfold cutE
  rw [part_list]
  rcases index_cases (x.1.data.toList ++ 61 :: x.2.data.toList) 61 with ⟨h, hb⟩ | ⟨p, r, e, hb, h⟩
  · exact absurd (List.mem_append_right _ (List.mem_cons_self ..)) hb
  · have h3 := cutL_hit x.2.data.toList hn1
    rw [e, cutL_hit _ hb] at h3
    have h4 := (List.cons.inj h3).1
    have hl : Lib.index (x.1.data.toList ++ 61 :: x.2.data.toList) [61] = (x.1.data.toList.length : Int) := by rw [h, h4]
    unfold Lib.cut
    rw [hl, if_pos (by omega)]
    have t : ((x.1.data.toList.length : Int)).toNat = x.1.data.toList.length := rfl
    simp only [t, List.length_singleton]
    rw [List.take_left', List.drop_append]
    · simp only [Nat.add_sub_cancel_left, List.drop_succ_cons, List.drop_zero]
      rw [List.drop_of_length_le (by omega), List.nil_append]
      exact Prod.ext (list_ofL _) (list_ofL _)
    · rfl
theorem pI_put {zs : List E} (h : ok zs = true) : pI (put zs) = zs := by
  unfold pI
  rw [partsI_put h]
  unfold parts
  rw [List.map_map]
  conv => rhs; rw [← List.map_id zs]
  exact List.map_congr_left (fun x hx => cutE_part (ok_each h x hx).1 (ok_each h x hx).2.1)
theorem put_size {zs : List E} (h : ok zs = true) : 2 ≤ (put zs).size ∧ (put zs).size ≤ 200 := by
  have e : (put zs).size = (joinB (parts zs)).length + 2 := by
    unfold put wrap
    rw [if_pos h, size_of]
    simp
  have hl := joinB_len (parts zs) 15 (fun p hp => by
    obtain ⟨x, hx, rfl⟩ := List.mem_map.1 hp
    obtain ⟨-, -, h3, h4⟩ := ok_each h x hx
    unfold partOf
    rw [app_size, app_size]
    have e : (⟨#[61]⟩ : ByteArray).size = 1 := rfl
    omega)
  rw [parts_length] at hl
  have := (ok_len h).2
  omega
theorem of_put {zs : List E} {s : ByteArray} (h : put zs = s) (hs : s.size ≠ 0) : ok zs = true := by
  cases e : ok zs
  · exfalso
    unfold put at h
    rw [e] at h
    rw [← h] at hs
    exact hs rfl
  · rfl
theorem getB_put {zs : List E} (h : ok zs = true) : getB (put zs) = (zs, true) := by
  unfold getB
  rw [pI_put h, if_pos ⟨by have := (put_size h).1; omega, rfl⟩]
theorem getB_of {zs : List E} {s : ByteArray} (h : put zs = s) (hs : s.size ≠ 0) : getB s = (zs, true) := by
  have := getB_put (of_put h hs)
  rwa [h] at this
theorem getB_no {s : ByteArray} (h : ∀ zs, ok zs = true → put zs ≠ s) : getB s = ([], false) := by
  unfold getB
  rw [if_neg (fun ⟨h1, h2⟩ => h _ (of_put h2 h1) h2)]
theorem getB_true {s : ByteArray} {L : List E} (h : getB s = (L, true)) : ok L = true ∧ put L = s := by
  unfold getB at h
  split at h
  · rename_i hc
    obtain ⟨h1, h2⟩ := hc
    simp only [Prod.mk.injEq, and_true] at h
    subst h
    exact ⟨of_put h2 h1, h2⟩
  · simp at h
/-- the program: no bracket ahead, or none behind -/
theorem getB_first {s : ByteArray} (h : ∀ r, s.data.toList ≠ 123 :: r) : getB s = ([], false) := getB_no (fun zs hz e => by
  have := put_list hz
  rw [e] at this
  exact h _ this)
theorem getB_last {s : ByteArray} (h : ∀ r, s.data.toList ≠ 123 :: r ++ [125]) : getB s = ([], false) := getB_no (fun zs hz e => by
  have := put_list hz
  rw [e] at this
  exact h _ this)
theorem getB_put_ne {s : ByteArray} (h : put (pI s) ≠ s) : getB s = ([], false) := by
  unfold getB
  rw [if_neg (fun h2 => h h2.2)]
/-- the model: too short, too long, a part that is no two words, another text -/
theorem getB_len {s : ByteArray} (h : s.size < 2 ∨ 200 < s.size) : getB s = ([], false) := getB_no (fun zs hz e => by
  have := put_size hz
  rw [e] at this
  omega)
def twoE (p : List UInt8) : E := match cutL 61 p with | [a, b] => (ofL a, ofL b) | _ => (ByteArray.empty, ByteArray.empty)
theorem getB_part {s : ByteArray} {p : List UInt8} (hp : p ∈ cutL 44 (mid s)) (h : (cutL 61 p).length ≠ 2) : getB s = ([], false) := getB_no (fun zs hz e => by
  rw [← e, cut_parts hz] at hp
  obtain ⟨q, hq, rfl⟩ := List.mem_map.1 hp
  obtain ⟨x, hx, rfl⟩ := List.mem_map.1 hq
  have h3 := ok_each hz x hx
  rw [cut_two h3.1 h3.2.1] at h
  exact h rfl)
theorem two_put {zs : List E} (hz : ok zs = true) : (cutL 44 (mid (put zs))).map twoE = zs := by
  rw [cut_parts hz]
  unfold parts
  rw [List.map_map, List.map_map]
  conv => rhs; rw [← List.map_id zs]
  refine List.map_congr_left (fun x hx => ?_)
  have h3 := ok_each hz x hx
  show twoE (partOf x).data.toList = x
  unfold twoE
  rw [cut_two h3.1 h3.2.1]
  exact Prod.ext (list_ofL _) (list_ofL _)
theorem getB_two_ne {s : ByteArray} (h : put ((cutL 44 (mid s)).map twoE) ≠ s) : getB s = ([], false) := getB_no (fun zs hz e => by
  rw [← e, two_put hz] at h
  exact h rfl)
end Go.Proofs.YtkmoekbicbjdmaaDoor.Lab
