/- Rows that are ok, as plain mathematics. No condition. -/
import Derived.Test.YtomncodkbcngmaaRowLaw
import Derived.Test.YtomncodkbcngmaaCmpMath
import Derived.Test.YtomncodkbcngmaaSampMath
namespace Go.Proofs.Ytomncodkbcngmaa.Row
open Go.RowKit Rw
def rowB (x : E) : Bool := Lab.ok x.1 && (decide (1 ≤ x.2.length) && decide (x.2.length ≤ 1000)) && SampMath.ok x.2
def stepOk (zs : List E) (i : Nat) : Bool := rowB (at' zs i) && (i == 0 || decide (Lab.cmpL (at' zs (i - 1)).1 (at' zs i).1 < 0))
def okTo (zs : List E) (k : Nat) : Bool := (List.range k).all (stepOk zs)
def ok (zs : List E) : Bool := okTo zs zs.length && decide (zs.length ≤ 10)
theorem okTo_succ (zs : List E) (k : Nat) : okTo zs (k + 1) = (okTo zs k && stepOk zs k) := by simp [okTo, List.range_succ]
theorem ok_of_bad {zs : List E} {k : Nat} (hk : k < zs.length) (h : stepOk zs k = false) : ok zs = false := by
  unfold ok okTo
  rw [Bool.and_eq_false_iff]
  left
  rw [List.all_eq_false]
  exact ⟨k, by simpa using hk, by simp [h]⟩
theorem ok_long {zs : List E} (h : 10 < zs.length) : ok zs = false := by unfold ok; rw [decide_eq_false (by omega), Bool.and_false]
theorem step_lab {zs : List E} {k : Nat} (h : Lab.ok (at' zs k).1 = false) : stepOk zs k = false := by unfold stepOk rowB; rw [h]; rfl
theorem step_len {zs : List E} {k : Nat} (h : (at' zs k).2.length < 1 ∨ 1000 < (at' zs k).2.length) : stepOk zs k = false := by
  unfold stepOk rowB
  rcases h with h | h
  · rw [decide_eq_false (show ¬ 1 ≤ (at' zs k).2.length by omega)]; simp
  · rw [decide_eq_false (show ¬ (at' zs k).2.length ≤ 1000 by omega)]; simp
theorem step_sam {zs : List E} {k : Nat} (h : SampMath.ok (at' zs k).2 = false) : stepOk zs k = false := by unfold stepOk rowB; rw [h]; simp
theorem step_cmp {zs : List E} {k : Nat} (h0 : 0 < k) (h : ¬ Lab.cmpL (at' zs (k - 1)).1 (at' zs k).1 < 0) : stepOk zs k = false := by
  unfold stepOk
  rw [decide_eq_false h, show (k == 0) = false from by simp; omega]; simp
theorem step_yes {zs : List E} {k : Nat} (h1 : Lab.ok (at' zs k).1 = true) (h2 : 1 ≤ (at' zs k).2.length) (h3 : (at' zs k).2.length ≤ 1000) (h4 : SampMath.ok (at' zs k).2 = true) (h5 : k = 0 ∨ Lab.cmpL (at' zs (k - 1)).1 (at' zs k).1 < 0) : stepOk zs k = true := by
  unfold stepOk rowB
  rw [h1, h4, decide_eq_true h2, decide_eq_true h3]
  rcases h5 with h | h
  · simp [h]
  · simp [h]
theorem okTo_at {zs : List E} {k : Nat} (h : okTo zs k = true) {i : Nat} (hi : i < k) : stepOk zs i = true := by
  unfold okTo at h
  rw [List.all_eq_true] at h
  exact h i (by simpa using hi)
theorem step_is {zs : List E} {k : Nat} (h : stepOk zs k = true) : Lab.ok (at' zs k).1 = true ∧ 1 ≤ (at' zs k).2.length ∧ (at' zs k).2.length ≤ 1000 ∧ SampMath.ok (at' zs k).2 = true := by
  unfold stepOk rowB at h
  simp only [Bool.and_eq_true, decide_eq_true_eq] at h
  exact ⟨h.1.1.1, h.1.1.2.1, h.1.1.2.2, h.1.2⟩
theorem ok_at {zs : List E} (h : ok zs = true) {i : Nat} (hi : i < zs.length) : stepOk zs i = true := by
  unfold ok at h
  rw [Bool.and_eq_true] at h
  exact okTo_at h.1 hi
theorem ok_len {zs : List E} (h : ok zs = true) : zs.length ≤ 10 := by
  unfold ok at h
  rw [Bool.and_eq_true] at h
  simpa using h.2
end Go.Proofs.Ytomncodkbcngmaa.Row
