/- Whether a label is another. -/
import Derived.Test.YthlphelkcamagaaLabLaw
import Derived.Laws.StructEq
namespace Go.Proofs.Ythlphelkcamagaa.Lab
open Go.RowKit Rw
set_option linter.unusedVariables false
attribute [local go_sem ↓] Go.wp_at_zero Go.wp_at_succ
theorem eqLab (A B C D : ByteArray) (w : World) : (Op.equalIn 10000 40 (.agg #[.string A, .string B]) (.agg #[.string C, .string D])).run Try.prog w = .ok (A.toList == C.toList && B.toList == D.toList) w := by
  have u3 := Try.underlying9
  have a3 := Try.isAgg9
  have z3 := Try.sizeOf9
  have hS : Try.prog.underlying 40 = some (.struct (Try.prog.fieldsOf 40)) := by kernel_rfl
  have hp : Try.prog.stoodInHeld 40 = false := by kernel_rfl
  rw [show (10000 : Nat) = 9999 + 1 from rfl, run_equalIn_agg w 9999 40 _ _ hS hp]
  simp only [Program.fieldsOf, Try.underlying40]
  go_simp
  cases h1 : (A.toList == C.toList) <;> cases h2 : (B.toList == D.toList) <;> simp_all
theorem run_neL (A B C D : ByteArray) (R : Bool) (h : R = !(A.toList == C.toList && B.toList == D.toList)) (W : World) : (binOp .neq 40 (.agg #[.string A, .string B]) (.agg #[.string C, .string D])).run Try.prog W = .ok (.bool R) W := by
  rw [run_neq_struct, eqLab, h]; rfl
end Go.Proofs.Ythlphelkcamagaa.Lab
