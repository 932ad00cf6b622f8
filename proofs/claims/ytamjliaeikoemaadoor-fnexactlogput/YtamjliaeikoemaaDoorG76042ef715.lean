/- My own texts of one claim, laid together by program: LabCmp2, LabCmp3, RowOk, RowSz. -/
import Derived.Test.YtamjliaeikoemaaDoorGf16a2087dc
import Derived.Test.YtamjliaeikoemaaDoorG57b88db0fb
import Derived.Test.YtamjliaeikoemaaDoorG78c638bd78
/- LabelsCmp, of the program and of the model, at every two slices of labels. -/
namespace Go.Proofs.YtamjliaeikoemaaDoor.Lab
open Go.RowKit Rw
set_option linter.unusedVariables false
attribute [local go_sem ↓] Go.wp_at_zero Go.wp_at_succ
theorem ag {zs : List E} {k : Nat} (h : k < zs.length) (A B : ByteArray) (e : (A, B) = at' zs k) : (flat zs)[k * 2]? = some (.string A) ∧ (flat zs)[k * 2 + 1]? = some (.string B) := by
  have := flat_at zs k h
  rwa [← e] at this
theorem run_lss (a b : ByteArray) (W : World) : (binOp .lss 9 (.string a) (.string b)).run Tryd.prog W = .ok (.bool (ltS a b)) W := rfl
theorem run_gtr (a b : ByteArray) (W : World) : (binOp .gtr 9 (.string a) (.string b)).run Tryd.prog W = .ok (.bool (!(ltS a b || a.toList == b.toList))) W := rfl
end Go.Proofs.YtamjliaeikoemaaDoor.Lab

/- LabelsCmp, of the program and of the model. -/
namespace Go.Proofs.YtamjliaeikoemaaDoor.Lab
open Go.RowKit Rw
set_option linter.unusedVariables false
attribute [local go_sem ↓] Go.wp_at_zero Go.wp_at_succ
end Go.Proofs.YtamjliaeikoemaaDoor.Lab

/- RowsOk of the program, at every slice of rows. -/
namespace Go.Proofs.YtamjliaeikoemaaDoor.Row
open Go.RowKit Rw
set_option linter.unusedVariables false
attribute [local go_sem ↓] Go.wp_at_zero Go.wp_at_succ
end Go.Proofs.YtamjliaeikoemaaDoor.Row

/- How much slices hold, counted: of impl.Row. -/
namespace Go.Proofs.YtamjliaeikoemaaDoor.Row
open Go.RowKit Rw
set_option linter.unusedVariables false
attribute [local go_sem ↓] Go.wp_at_zero Go.wp_at_succ
def szOf (x : E) : Nat := Lab.tot (x.1) + Sam.tot (x.2)
def tot (zs : List E) : Nat := zs.foldl (fun a x => a + szOf x) zs.length
def totTo (zs : List E) (j : Nat) : Nat := (zs.take j).foldl (fun a x => a + szOf x) zs.length
theorem totTo_succ (zs : List E) (j : Nat) (h : j < zs.length) : totTo zs (j + 1) = totTo zs j + szOf (at' zs j) := by
  unfold totTo
  rw [at_snoc zs j h, List.foldl_append]
  rfl
theorem totTo_mono (zs : List E) : ∀ (i j : Nat), i ≤ j → j ≤ zs.length → totTo zs i ≤ totTo zs j
  | i, 0, h, _ => by obtain rfl : i = 0 := by omega
                     exact Nat.le_refl _
  | i, j + 1, h, hj => by
    by_cases e : i = j + 1
    · subst e; exact Nat.le_refl _
    · have h1 := totTo_mono zs i j (by omega) (by omega)
      rw [totTo_succ zs j (by omega)]
      omega
theorem totTo_all (zs : List E) : totTo zs zs.length = tot zs := by unfold totTo tot; rw [List.take_of_length_le (Nat.le_refl _)]
theorem tot_len (zs : List E) : zs.length ≤ tot zs := by have := totTo_mono zs 0 zs.length (Nat.zero_le _) (Nat.le_refl _); rw [totTo_all] at this; unfold totTo at this; simpa using this
theorem tot_at (zs : List E) (j : Nat) (h : j < zs.length) : szOf (at' zs j) ≤ tot zs := by
  have h1 := totTo_succ zs j h
  have h2 := totTo_mono zs (j + 1) zs.length (by omega) (Nat.le_refl _)
  rw [totTo_all] at h2
  omega
end Go.Proofs.YtamjliaeikoemaaDoor.Row
