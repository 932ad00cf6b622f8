/- My own texts of one claim, laid together by program: SampMath, RowMath. -/
import Derived.Test.YtdggffcibcggoaaGaf04af8665
import Derived.Test.YtdggffcibcggoaaG8302aad352
/- Samples, as plain mathematics: when they are ok, what is cut of them, what both are together. No condition. -/
namespace Go.Proofs.Ytdggffcibcggoaa.SampMath
abbrev S := Int × Int
def inR (t v : Int) : Bool := decide (0 ≤ t) && decide (t ≤ 9999) && (decide (0 ≤ v) && decide (v ≤ 2147483647))
def at' (zs : List S) (i : Nat) : S := zs.getD i (0, 0)
def stepOk (zs : List S) (i : Nat) : Bool := inR (at' zs i).1 (at' zs i).2 && (i == 0 || decide ((at' zs (i - 1)).1 < (at' zs i).1))
def okTo (zs : List S) (k : Nat) : Bool := (List.range k).all (stepOk zs)
def ok (zs : List S) : Bool := okTo zs zs.length

theorem inR_yes {t v : Int} (h1 : 0 ≤ t) (h2 : t ≤ 9999) (h3 : 0 ≤ v) (h4 : v ≤ 2147483647) : inR t v = true := by simp [inR, h1, h2, h3, h4]
theorem inR_iff {t v : Int} : inR t v = true ↔ 0 ≤ t ∧ t ≤ 9999 ∧ 0 ≤ v ∧ v ≤ 2147483647 := by simp [inR, and_assoc]
theorem inR_no {t v : Int} (h : t < 0 ∨ 9999 < t ∨ v < 0 ∨ 2147483647 < v) : inR t v = false := by
  rw [Bool.eq_false_iff]; intro e; rw [inR_iff] at e; omega
theorem okTo_zero (zs : List S) : okTo zs 0 = true := rfl
theorem okTo_succ (zs : List S) (k : Nat) : okTo zs (k + 1) = (okTo zs k && stepOk zs k) := by simp [okTo, List.range_succ]
theorem ok_of_bad {zs : List S} {k : Nat} (hk : k < zs.length) (h : stepOk zs k = false) : ok zs = false := by
  unfold ok okTo
  rw [List.all_eq_false]
  exact ⟨k, List.mem_range.2 hk, by simp [h]⟩
theorem stepOk_first {zs : List S} (h : inR (at' zs 0).1 (at' zs 0).2 = true) : stepOk zs 0 = true := by simp [stepOk, h]
theorem stepOk_next {zs : List S} {k : Nat} (h : inR (at' zs k).1 (at' zs k).2 = true) (h' : (at' zs (k - 1)).1 < (at' zs k).1) : stepOk zs k = true := by simp [stepOk, h, h']
theorem stepOk_range {zs : List S} {k : Nat} (h : inR (at' zs k).1 (at' zs k).2 = false) : stepOk zs k = false := by simp [stepOk, h]
theorem stepOk_late {zs : List S} {k : Nat} (hk : 0 < k) (h' : (at' zs k).1 ≤ (at' zs (k - 1)).1) : stepOk zs k = false := by
  have h0 : (k == 0) = false := by simp; omega
  simp [stepOk, h0]
  intro _
  exact h'
theorem ok_at {zs : List S} (h : ok zs = true) {k : Nat} (hk : k < zs.length) : stepOk zs k = true := by
  unfold ok okTo at h
  exact List.all_eq_true.1 h k (List.mem_range.2 hk)
theorem ok_range {zs : List S} (h : ok zs = true) {k : Nat} (hk : k < zs.length) : 0 ≤ (at' zs k).1 ∧ (at' zs k).1 ≤ 9999 ∧ 0 ≤ (at' zs k).2 ∧ (at' zs k).2 ≤ 2147483647 := by
  have := ok_at h hk
  unfold stepOk at this
  rw [Bool.and_eq_true] at this
  exact inR_iff.1 this.1
theorem ok_step {zs : List S} (h : ok zs = true) {k : Nat} (hk : k + 1 < zs.length) : (at' zs k).1 < (at' zs (k + 1)).1 := by
  have := ok_at h hk
  unfold stepOk at this
  rw [Bool.and_eq_true] at this
  simpa using this.2
theorem ok_lt {zs : List S} (h : ok zs = true) {i j : Nat} (hij : i < j) (hj : j < zs.length) : (at' zs i).1 < (at' zs j).1 := by
  induction j with
  | zero => omega
  | succ j ih =>
    have h1 := ok_step h hj
    by_cases e : i = j
    · subst e; exact h1
    · have := ih (by omega) (by omega); omega
/-- the cells of samples, one behind the other -/
theorem at_snoc (zs : List S) (k : Nat) (h : k < zs.length) : zs.take (k + 1) = zs.take k ++ [at' zs k] := by
  rw [List.take_succ_eq_append_getElem h]; simp [at', List.getD, h]
end Go.Proofs.Ytdggffcibcggoaa.SampMath

/- Rows that are ok, as plain mathematics. No condition. -/
namespace Go.Proofs.Ytdggffcibcggoaa.Row
open Go.RowKit Rw
def rowB (x : E) : Bool := Lab.ok x.1 && (decide (1 ≤ x.2.length) && decide (x.2.length ≤ 1000)) && SampMath.ok x.2
def stepOk (zs : List E) (i : Nat) : Bool := rowB (at' zs i) && (i == 0 || decide (Lab.cmpL (at' zs (i - 1)).1 (at' zs i).1 < 0))
def okTo (zs : List E) (k : Nat) : Bool := (List.range k).all (stepOk zs)
def ok (zs : List E) : Bool := okTo zs zs.length && decide (zs.length ≤ 10)
theorem okTo_succ (zs : List E) (k : Nat) : okTo zs (k + 1) = (okTo zs k && stepOk zs k) := by simp [okTo, List.range_succ]
theorem ok_of_bad {zs : List E} {k : Nat} (hk : k < zs.length) (h : stepOk zs k = false) : ok zs = false := by
  unfold ok okTo
  rw [Bool.and_eq_false_iff]
  left
  rw [List.all_eq_false]
  exact ⟨k, by simpa using hk, by simp [h]⟩
theorem ok_long {zs : List E} (h : 10 < zs.length) : ok zs = false := by unfold ok; rw [decide_eq_false (by omega), Bool.and_false]
theorem step_lab {zs : List E} {k : Nat} (h : Lab.ok (at' zs k).1 = false) : stepOk zs k = false := by unfold stepOk rowB; rw [h]; rfl
theorem step_len {zs : List E} {k : Nat} (h : (at' zs k).2.length < 1 ∨ 1000 < (at' zs k).2.length) : stepOk zs k = false := by
  unfold stepOk rowB
  rcases h with h | h
  · rw [decide_eq_false (show ¬ 1 ≤ (at' zs k).2.length by omega)]; simp
  · rw [decide_eq_false (show ¬ (at' zs k).2.length ≤ 1000 by omega)]; simp
theorem step_sam {zs : List E} {k : Nat} (h : SampMath.ok (at' zs k).2 = false) : stepOk zs k = false := by unfold stepOk rowB; rw [h]; simp
theorem step_cmp {zs : List E} {k : Nat} (h0 : 0 < k) (h : ¬ Lab.cmpL (at' zs (k - 1)).1 (at' zs k).1 < 0) : stepOk zs k = false := by
  unfold stepOk
  rw [decide_eq_false h, show (k == 0) = false from by simp; omega]; simp
theorem step_yes {zs : List E} {k : Nat} (h1 : Lab.ok (at' zs k).1 = true) (h2 : 1 ≤ (at' zs k).2.length) (h3 : (at' zs k).2.length ≤ 1000) (h4 : SampMath.ok (at' zs k).2 = true) (h5 : k = 0 ∨ Lab.cmpL (at' zs (k - 1)).1 (at' zs k).1 < 0) : stepOk zs k = true := by
  unfold stepOk rowB
  rw [h1, h4, decide_eq_true h2, decide_eq_true h3]
  rcases h5 with h | h
  · simp [h]
  · simp [h]
theorem okTo_at {zs : List E} {k : Nat} (h : okTo zs k = true) {i : Nat} (hi : i < k) : stepOk zs i = true := by
  unfold okTo at h
  rw [List.all_eq_true] at h
  exact h i (by simpa using hi)
theorem step_is {zs : List E} {k : Nat} (h : stepOk zs k = true) : Lab.ok (at' zs k).1 = true ∧ 1 ≤ (at' zs k).2.length ∧ (at' zs k).2.length ≤ 1000 ∧ SampMath.ok (at' zs k).2 = true := by
  unfold stepOk rowB at h
  simp only [Bool.and_eq_true, decide_eq_true_eq] at h
  exact ⟨h.1.1.1, h.1.1.2.1, h.1.1.2.2, h.1.2⟩
theorem ok_at {zs : List E} (h : ok zs = true) {i : Nat} (hi : i < zs.length) : stepOk zs i = true := by
  unfold ok at h
  rw [Bool.and_eq_true] at h
  exact okTo_at h.1 hi
theorem ok_len {zs : List E} (h : ok zs = true) : zs.length ≤ 10 := by
  unfold ok at h
  rw [Bool.and_eq_true] at h
  simpa using h.2
end Go.Proofs.Ytdggffcibcggoaa.Row
