/- Words under a name of all labels that matches let. No condition. -/
import Derived.Test.YtfccibbgjjajjaaIdxMath
import Derived.Test.YtfccibbgjjajjaaStrMath
import Derived.Test.YtfccibbgjjajjaaListMath
namespace Go.Proofs.Ytfccibbgjjajjaa.Lss
open Go.RowKit Rw
def addW (zs : List E) (nm : ByteArray) (acc : List ByteArray) (i : Int) : List ByteArray := if (Mat.wordOf (at' zs i.toNat) nm).size = 0 then acc else StrMath.put acc (Mat.wordOf (at' zs i.toNat) nm)
def wordsTo (ms : List Mat.E) (zs : List E) (nm : ByteArray) (k : Nat) : List ByteArray := (findTo ms zs k).foldl (addW zs nm) []
def words (ms : List Mat.E) (zs : List E) (nm : ByteArray) : List ByteArray := (find ms zs).foldl (addW zs nm) []
theorem addW_no {zs : List E} {nm : ByteArray} (acc : List ByteArray) {i : Nat} (h : (Mat.wordOf (at' zs i) nm).size = 0) : addW zs nm acc (i : Int) = acc := by unfold addW; rw [Int.toNat_natCast, if_pos h]
theorem addW_yes {zs : List E} {nm : ByteArray} (acc : List ByteArray) {i : Nat} (h : (Mat.wordOf (at' zs i) nm).size ≠ 0) : addW zs nm acc (i : Int) = StrMath.put acc (Mat.wordOf (at' zs i) nm) := by unfold addW; rw [Int.toNat_natCast, if_neg h]
theorem addW_len (zs : List E) (nm : ByteArray) (acc : List ByteArray) (i : Int) : (addW zs nm acc i).length ≤ acc.length + 1 := by
  unfold addW
  split
  · omega
  · exact StrMath.put_len _ _
theorem fold_len (zs : List E) (nm : ByteArray) : ∀ (l : List Int) (acc : List ByteArray), (l.foldl (addW zs nm) acc).length ≤ acc.length + l.length
  | [], acc => by simp
  | i :: l, acc => by
    have h1 := fold_len zs nm l (addW zs nm acc i)
    have h2 := addW_len zs nm acc i
    simp only [List.foldl_cons, List.length_cons]
    omega
theorem words_len (ms : List Mat.E) (zs : List E) (nm : ByteArray) : (words ms zs nm).length ≤ 40 := by
  have h1 := fold_len zs nm (find ms zs) []
  have h2 := find_len ms zs
  unfold words
  simp only [List.length_nil] at h1
  omega
theorem wordsTo_no {ms : List Mat.E} {zs : List E} {nm : ByteArray} {k : Nat} (h : Mat.mlet ms (at' zs k) = false) : wordsTo ms zs nm (k + 1) = wordsTo ms zs nm k := by unfold wordsTo; rw [findTo_no h]
theorem wordsTo_yes {ms : List Mat.E} {zs : List E} {nm : ByteArray} {k : Nat} (h : Mat.mlet ms (at' zs k) = true) : wordsTo ms zs nm (k + 1) = addW zs nm (wordsTo ms zs nm k) (k : Int) := by unfold wordsTo; rw [findTo_yes h, List.foldl_append]; rfl
theorem wordsTo_len (ms : List Mat.E) (zs : List E) (nm : ByteArray) (k : Nat) : (wordsTo ms zs nm k).length ≤ k := by
  have h1 := fold_len zs nm (findTo ms zs k) []
  have h2 := findTo_len ms zs k
  unfold wordsTo
  simp only [List.length_nil] at h1
  omega
theorem words_yes {ms : List Mat.E} {zs : List E} {nm : ByteArray} (h : allOk zs = true) : words ms zs nm = wordsTo ms zs nm zs.length := by unfold words wordsTo; rw [find_yes h]
theorem words_no {ms : List Mat.E} {zs : List E} {nm : ByteArray} (h : find ms zs = []) : words ms zs nm = [] := by unfold words; rw [h]; rfl
theorem find_at {ms : List Mat.E} {zs : List E} {j : Nat} (h : j < (find ms zs).length) : ∃ i : Nat, i < zs.length ∧ ListMath.at' (find ms zs) j = (i : Int) ∧ allOk zs = true := by
  have hm : ListMath.at' (find ms zs) j ∈ find ms zs := by
    have e : ListMath.at' (find ms zs) j = (find ms zs)[j] := by simp [ListMath.at', List.getD, h]
    rw [e]; exact List.getElem_mem _
  unfold find at hm
  split at hm
  · rename_i hA
    unfold findTo at hm
    obtain ⟨i, hi, e⟩ := List.mem_map.1 hm
    have hi' := List.mem_range.1 (List.mem_filter.1 hi).1
    refine ⟨i, hi', ?_, hA⟩
    unfold find findTo
    rw [if_pos hA, ← e]
  · cases hm
theorem word_small {ls : List Lab.E} (nm : ByteArray) (h : Lab.ok ls = true) : (Mat.wordOf ls nm).size ≤ 8 := by
  unfold Mat.wordOf
  cases hf : ls.find? (fun x => Mat.sameS x.1 nm) with
  | none => exact Nat.zero_le _
  | some x =>
    have hm := List.mem_of_find?_eq_some hf
    obtain ⟨k, hk, rfl⟩ := List.getElem_of_mem hm
    unfold Lab.ok at h
    simp only [Bool.and_eq_true, decide_eq_true_eq] at h
    have hs := List.all_eq_true.1 (show (List.range ls.length).all (Lab.stepOk ls) = true from h.2) k (List.mem_range.2 hk)
    unfold Lab.stepOk Lab.nameB Lab.wordB at hs
    simp only [Bool.and_eq_true, decide_eq_true_eq, Lab.at_get ls k hk] at hs
    exact hs.1.1.2.1
end Go.Proofs.Ytfccibbgjjajjaa.Lss
