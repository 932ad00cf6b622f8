/- My own texts of one claim, laid together by program: RowEq, RowTiny, LabMark. -/
import Derived.Test.YthcdohbfnflkiaaG5c18394906
import Derived.Test.YthcdohbfnflkiaaG2ba2f89b3e
import Derived.Test.YthcdohbfnflkiaaGc4b55f1683
/- Whether slices are the same: of impl.Row. -/
namespace Go.Proofs.Ythcdohbfnflkiaa.Row
open Go.RowKit Rw
set_option linter.unusedVariables false
attribute [local go_sem ↓] Go.wp_at_zero Go.wp_at_succ
end Go.Proofs.Ythcdohbfnflkiaa.Row

/- What is counted is small enough to be copied. No condition. -/
namespace Go.Proofs.Ythcdohbfnflkiaa.Row
open Go.RowKit Rw
theorem tiny_of {zs : List E} (h : tot zs ≤ 1048576) : zs.length ≤ 2097152 ∧ ∀ x ∈ zs, tiny x := by
  refine ⟨by have := tot_len zs; omega, fun x hx => ?_⟩
  obtain ⟨i, hi, rfl⟩ := List.getElem_of_mem hx
  have h1 := tot_at zs i hi
  rw [at_get zs i hi] at h1
  have h2 := Lab.tot_len (zs[i]).1
  unfold szOf Sam.tot at h1
  exact ⟨by omega, by omega⟩
end Go.Proofs.Ythcdohbfnflkiaa.Row

/- What the laws' own helpers do to mark a slice of impl.Label, and to see that the marks are held. -/
namespace Go.Proofs.Ythcdohbfnflkiaa.Lab
open Go.RowKit Rw
set_option linter.unusedVariables false
attribute [local go_sem ↓] Go.wp_at_zero Go.wp_at_succ
def markOne (q : Nat) : E := (Mark.text (q), Mark.text (q + 1))
def marks (k0 n : Nat) : List E := (List.range n).map fun i => markOne (k0 + 2 * i)
theorem marks_length (k0 n : Nat) : (marks k0 n).length = n := by simp [marks]
theorem marks_succ (k0 n : Nat) : marks k0 (n + 1) = marks k0 n ++ [markOne (k0 + 2 * n)] := by simp [marks, List.range_succ]
theorem marks_at (k0 n i : Nat) (h : i < n) : at' (marks k0 n) i = markOne (k0 + 2 * i) := by simp [marks, at', List.getD, h]
theorem flat_marks (k0 j : Nat) : flat (marks k0 (j + 1)) = flat (marks k0 j) ++ [.string (Mark.text ((k0 + 2 * j))), .string (Mark.text ((k0 + 2 * j) + 1))] := by rw [marks_succ]; unfold flat; rw [flatOf_append, flatOf_one]; rfl
theorem own_marks {base : Nat} {v : Value} {n k0 : Nat} {w : World} (h : w.ownsRow base 47 2 v n (flat (marks k0 n))) : Is w v (marks k0 n) := is_of_own (by rw [marks_length]; exact h)
end Go.Proofs.Ythcdohbfnflkiaa.Lab
