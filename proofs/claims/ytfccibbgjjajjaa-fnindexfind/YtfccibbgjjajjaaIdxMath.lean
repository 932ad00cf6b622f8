/- Places of labels that matches let: what is to be found. No condition. -/
import Derived.Test.YtfccibbgjjajjaaLssLaw
import Derived.Test.YtfccibbgjjajjaaLetMath
namespace Go.Proofs.Ytfccibbgjjajjaa.Lss
open Go.RowKit Rw
def allOk (zs : List E) : Bool := zs.all Lab.ok && decide (zs.length ≤ 40)
def okTo (zs : List E) (k : Nat) : Bool := (zs.take k).all Lab.ok
theorem okTo_succ (zs : List E) (k : Nat) (h : k < zs.length) : okTo zs (k + 1) = (okTo zs k && Lab.ok (at' zs k)) := by unfold okTo; rw [at_snoc zs k h, List.all_append]; simp
theorem allOk_no {zs : List E} {k : Nat} (h : k < zs.length) (hb : Lab.ok (at' zs k) = false) : allOk zs = false := by
  unfold allOk
  have : zs.all Lab.ok = false := List.all_eq_false.2 ⟨at' zs k, at_mem zs k h, by rw [hb]; exact Bool.false_ne_true⟩
  rw [this]; rfl
theorem allOk_end {zs : List E} (h : okTo zs zs.length = true) : allOk zs = decide (zs.length ≤ 40) := by
  unfold allOk
  unfold okTo at h
  rw [List.take_of_length_le (Nat.le_refl _)] at h
  rw [h]; rfl
theorem allOk_at {zs : List E} (h : allOk zs = true) {k : Nat} (hk : k < zs.length) : Lab.ok (at' zs k) = true := by
  unfold allOk at h
  simp only [Bool.and_eq_true] at h
  exact List.all_eq_true.1 h.1 _ (at_mem zs k hk)
theorem allOk_len {zs : List E} (h : allOk zs = true) : zs.length ≤ 40 := by
  unfold allOk at h
  simp only [Bool.and_eq_true, decide_eq_true_eq] at h
  exact h.2
/-- places below k that matches let -/
def findTo (ms : List Mat.E) (zs : List E) (k : Nat) : List Int := ((List.range k).filter fun i => Mat.mlet ms (at' zs i)).map fun i : Nat => (i : Int)
theorem findTo_yes {ms : List Mat.E} {zs : List E} {k : Nat} (h : Mat.mlet ms (at' zs k) = true) : findTo ms zs (k + 1) = findTo ms zs k ++ [(k : Int)] := by simp [findTo, List.range_succ, List.filter_append, h]
theorem findTo_no {ms : List Mat.E} {zs : List E} {k : Nat} (h : Mat.mlet ms (at' zs k) = false) : findTo ms zs (k + 1) = findTo ms zs k := by simp [findTo, List.range_succ, List.filter_append, h]
theorem findTo_len (ms : List Mat.E) (zs : List E) (k : Nat) : (findTo ms zs k).length ≤ k := by
  unfold findTo
  rw [List.length_map]
  have := List.length_filter_le (fun i => Mat.mlet ms (at' zs i)) (List.range k)
  simpa using this
def find (ms : List Mat.E) (zs : List E) : List Int := if allOk zs = true then findTo ms zs zs.length else []
theorem find_len (ms : List Mat.E) (zs : List E) : (find ms zs).length ≤ 40 := by
  unfold find
  split
  · rename_i h
    have := findTo_len ms zs zs.length
    have := allOk_len h
    omega
  · simp
theorem find_bad {ms : List Mat.E} (zs : List E) (h : Mat.ok ms = false) : find ms zs = [] := by
  unfold find
  split
  · have : ∀ i, Mat.mlet ms (at' zs i) = false := fun i => by unfold Mat.mlet; rw [h]; rfl
    simp [findTo, this]
  · rfl
theorem find_no {ms : List Mat.E} {zs : List E} (h : allOk zs = false) : find ms zs = [] := by unfold find; rw [h]; rfl
theorem find_yes {ms : List Mat.E} {zs : List E} (h : allOk zs = true) : find ms zs = findTo ms zs zs.length := by unfold find; rw [if_pos h]
end Go.Proofs.Ytfccibbgjjajjaa.Lss
