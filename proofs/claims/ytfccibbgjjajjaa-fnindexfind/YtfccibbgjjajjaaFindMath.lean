/- Places that several matches find, one by one. No condition. -/
import Derived.Test.YtfccibbgjjajjaaWordMath
import Derived.Test.YtfccibbgjjajjaaListMath2
namespace Go.Proofs.Ytfccibbgjjajjaa.Lss
open Go.RowKit Rw ListMath
def places (P : Nat → Bool) (n : Nat) : List Int := ((List.range n).filter P).map fun i : Nat => (i : Int)
theorem mem_places {P : Nat → Bool} {n : Nat} {z : Int} : z ∈ places P n ↔ ∃ i : Nat, i < n ∧ P i = true ∧ z = (i : Int) := by
  unfold places
  rw [List.mem_map]
  constructor
  · rintro ⟨i, hi, rfl⟩
    have h := List.mem_filter.1 hi
    exact ⟨i, List.mem_range.1 h.1, h.2, rfl⟩
  · rintro ⟨i, h1, h2, rfl⟩
    exact ⟨i, List.mem_filter.2 ⟨List.mem_range.2 h1, h2⟩, rfl⟩
theorem places_up (P : Nat → Bool) (n : Nat) : Up (places P n) := by
  unfold places Up
  refine List.Pairwise.map _ (R := fun a b : Nat => a < b) (fun a b h => ?_) ?_
  · exact Int.ofNat_lt.2 h
  · exact List.Pairwise.filter _ List.pairwise_lt_range
theorem places_len (P : Nat → Bool) (n : Nat) : (places P n).length ≤ n := by
  unfold places
  rw [List.length_map]
  have := List.length_filter_le P (List.range n)
  simpa using this
theorem places_ok (P : Nat → Bool) {n : Nat} (h : n ≤ 40) : ok (places P n) = true := by
  refine ok_mk (places_up P n) (fun x hx => ?_) (by have := places_len P n; omega)
  obtain ⟨i, -, -, rfl⟩ := mem_places.1 hx
  exact Int.natCast_nonneg _
theorem places_congr {P Q : Nat → Bool} {n : Nat} (h : ∀ i, i < n → P i = Q i) : places P n = places Q n := by
  unfold places
  rw [List.filter_congr (fun i hi => h i (List.mem_range.1 hi))]
theorem both_places (P Q : Nat → Bool) {n : Nat} (h : n ≤ 40) : res both (places P n) (places Q n) = places (fun i => P i && Q i) n := by
  rw [res_ok (places_ok P h) (places_ok Q h), merge_both (places_up P n) (places_up Q n)]
  refine up_ext (List.Pairwise.filter _ (places_up P n)) (places_up _ n) (fun z => ?_)
  rw [List.mem_filter, has_iff, decide_eq_true_eq, mem_places, mem_places, mem_places]
  constructor
  · rintro ⟨⟨i, h1, h2, e1⟩, ⟨j, h3, h4, e2⟩⟩
    obtain rfl : i = j := by omega
    exact ⟨i, h1, by rw [h2, h4]; rfl, e1⟩
  · rintro ⟨i, h1, h2, e⟩
    simp only [Bool.and_eq_true] at h2
    exact ⟨⟨i, h1, h2.1, e⟩, ⟨i, h1, h2.2, e⟩⟩
theorem findTo_places (ms : List Mat.E) (zs : List E) (k : Nat) : findTo ms zs k = places (fun i => Mat.mlet ms (at' zs i)) k := rfl
/-- places that each of the first matches lets -/
def yTo (ms : List Mat.E) (zs : List E) (i : Nat) : List Int := places (fun k => (ms.take i).all fun m => Mat.mlet [m] (at' zs k)) zs.length
theorem mlet_nil' {ls : List Lab.E} (h : Lab.ok ls = true) : Mat.mlet [] ls = true := by
  have e : Mat.ok [] = true := rfl
  unfold Mat.mlet
  rw [e, h]; rfl
theorem find_nil {ms : List Mat.E} {zs : List E} (h : allOk zs = true) : find [] zs = yTo ms zs 0 := by
  rw [find_yes h, findTo_places]
  exact places_congr (fun i hi => by rw [mlet_nil' (allOk_at h hi)]; rfl)
theorem places_all (n : Nat) : (places (fun _ => true) n).length = n := by unfold places; rw [List.length_map, List.filter_eq_self.2 (fun _ _ => rfl), List.length_range]
theorem find_nil_len {zs : List E} (h : allOk zs = true) : (find [] zs).length = zs.length := by
  rw [find_yes h, findTo_places, places_congr (Q := fun _ => true) (fun i hi => mlet_nil' (allOk_at h hi))]
  exact places_all _
theorem y_step {ms : List Mat.E} {zs : List E} {i : Nat} (h : allOk zs = true) (hi : i < ms.length) : res both (yTo ms zs i) (find [Mat.at' ms i] zs) = yTo ms zs (i + 1) := by
  rw [find_yes h, findTo_places]
  unfold yTo
  rw [both_places _ _ (allOk_len h)]
  exact places_congr (fun k _ => by rw [Mat.at_snoc ms i hi, List.all_append]; simp)
theorem y_ok {ms : List Mat.E} {zs : List E} (i : Nat) (h : allOk zs = true) : ok (yTo ms zs i) = true := places_ok _ (allOk_len h)
theorem y_len (ms : List Mat.E) (zs : List E) (i : Nat) : (yTo ms zs i).length ≤ zs.length := places_len _ _
theorem mat_one {ms : List Mat.E} (h : Mat.ok ms = true) {m : Mat.E} (hm : m ∈ ms) : Mat.ok [m] = true := by
  obtain ⟨k, hk, rfl⟩ := List.getElem_of_mem hm
  unfold Mat.ok Mat.okTo at h ⊢
  simp only [Bool.and_eq_true, decide_eq_true_eq] at h ⊢
  have hs := List.all_eq_true.1 h.1 k (List.mem_range.2 hk)
  refine ⟨List.all_eq_true.2 fun j hj => ?_, by simp⟩
  have hj := List.mem_range.1 hj
  simp only [List.length_cons, List.length_nil] at hj
  obtain rfl : j = 0 := by omega
  unfold Mat.stepOk at hs ⊢
  rw [Mat.at_get ms k hk] at hs
  exact hs
theorem y_end {ms : List Mat.E} {zs : List E} (h : allOk zs = true) (hm : Mat.ok ms = true) : find ms zs = yTo ms zs ms.length := by
  rw [find_yes h, findTo_places]
  unfold yTo
  rw [List.take_of_length_le (Nat.le_refl _)]
  refine places_congr (fun i hi => ?_)
  have hl := allOk_at h hi
  unfold Mat.mlet Mat.lets
  rw [hm, hl]
  simp only [Bool.true_and, Bool.and_true]
  rw [Bool.eq_iff_iff, List.all_eq_true, List.all_eq_true]
  refine ⟨fun g m hmem => ?_, fun g m hmem => ?_⟩
  · rw [mat_one hm hmem]; simp [g m hmem]
  · have := g m hmem
    rw [mat_one hm hmem] at this
    simpa using this
theorem find_let {ms : List Mat.E} {zs : List E} {j : Nat} (h : j < (find ms zs).length) : ∃ i : Nat, i < zs.length ∧ ListMath.at' (find ms zs) j = (i : Int) ∧ Mat.mlet ms (at' zs i) = true := by
  have hm : ListMath.at' (find ms zs) j ∈ find ms zs := by
    have e : ListMath.at' (find ms zs) j = (find ms zs)[j] := by simp [ListMath.at', List.getD, h]
    rw [e]; exact List.getElem_mem _
  cases hA : allOk zs
  · rw [find_no hA] at hm; cases hm
  · have hm' := hm
    rw [find_yes hA, findTo_places] at hm'
    obtain ⟨i, h1, h2, h3⟩ := mem_places.1 hm'
    exact ⟨i, h1, by rw [find_yes hA, findTo_places]; exact h3, h2⟩
theorem allOk_some {zs : List E} (h : allOk zs = false) (h7 : zs.length ≤ 7) : 0 < zs.length := by
  rcases Nat.eq_zero_or_pos zs.length with e | e
  · obtain rfl : zs = [] := List.eq_nil_of_length_eq_zero e
    exact absurd h (by decide)
  · exact e
end Go.Proofs.Ytfccibbgjjajjaa.Lss
