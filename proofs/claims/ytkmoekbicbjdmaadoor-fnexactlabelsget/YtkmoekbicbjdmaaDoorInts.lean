/- Slices of ints; ListOk, of the program and of the model, at every slice of ints. -/
import Derived.Test.YtkmoekbicbjdmaaDoorRw
import Derived.Test.YtkmoekbicbjdmaaDoorListMath
namespace Go.Proofs.YtkmoekbicbjdmaaDoor.Ints
open Go.RowKit ListMath Rw
set_option linter.unusedVariables false
attribute [local go_sem ↓] Go.wp_at_zero Go.wp_at_succ
def flat (zs : List Int) : List Value := zs.map fun x => .int .i64 x
theorem flat_nil : flat [] = [] := rfl
theorem flat_append (a b : List Int) : flat (a ++ b) = flat a ++ flat b := by simp [flat]
theorem flat_length (zs : List Int) : (flat zs).length = zs.length := by simp [flat]
theorem flat_get (zs : List Int) (i : Nat) (h : i < zs.length) : (flat zs)[i]? = some (.int .i64 (at' zs i)) := by simp [flat, at', List.getD, h]
theorem flat_oneCell (zs : List Int) : ∀ u ∈ flat zs, u.oneCell' = true := by
  intro u hu
  obtain ⟨x, _, rfl⟩ := List.mem_map.1 hu
  rfl
abbrev Is (w : World) (v : Value) (zs : List Int) : Prop := Lies w v zs.length 1 (flat zs)
end Go.Proofs.YtkmoekbicbjdmaaDoor.Ints
