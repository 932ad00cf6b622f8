/- SamplesOk, of the program and of the model, at slices of samples whose address is open. -/
import Derived.Test.YtogdllkbiibicaaSamp2
import Derived.Test.YtogdllkbiibicaaSamLaw
namespace Go.Proofs.Ytogdllkbiibicaa.Sam
open Go.RowKit Rw
set_option linter.unusedVariables false
attribute [local go_sem ↓] Go.wp_at_zero Go.wp_at_succ
theorem reads_of {w : World} {b off : Nat} {zs : List E} (hc : ∀ (j : Nat) u, (flat zs)[j]? = some u → w.cell? ⟨b, off + j, none⟩ = some u) : Samp.Reads w b off zs := fun i hi =>
  ⟨hc (i * 2) _ (flat_at zs i hi).1, hc (i * 2 + 1) _ (flat_at zs i hi).2⟩
theorem impl_ok_zero (a : Option Addr) (cap : Nat) (w : World) : Calls Try.prog 38 #[.slice a 0 cap] w fun e w' => e = .returned (.bool (SampMath.ok [])) ∧ Below w.heap.size w w' := by
  go_enter Try.func38, Try.ntmps38
  go_wp2
  refine wp_loop_rounds 1 ?_
  rw [rounds_succ]
  go_wp2
  go_ret
  exact ⟨rfl, Below.refl _ _⟩
theorem spec_ok_zero (a : Option Addr) (cap : Nat) (w : World) : Calls Try.prog 36 #[.slice a 0 cap] w fun e w' => e = .returned (.bool (SampMath.ok [])) ∧ Below w.heap.size w w' := by
  go_enter Try.func36, Try.ntmps36
  go_wp2
  refine wp_loop_rounds 1 ?_
  rw [rounds_succ]
  go_wp2
  go_ret
  exact ⟨rfl, Below.refl _ _⟩
theorem impl_ok {w : World} {v : Value} {zs : List E} (h : Is w v zs) : Calls Try.prog 38 #[v] w fun e w' => e = .returned (.bool (SampMath.ok zs)) ∧ Below w.heap.size w w' := by
  obtain ⟨-, a, cap, rfl, hc, hm, -, hr⟩ := h
  by_cases h0 : zs.length = 0
  · obtain rfl : zs = [] := List.eq_nil_of_length_eq_zero h0
    exact impl_ok_zero a cap w
  · obtain ⟨b, off, rfl, hl, hcells⟩ := hr (by omega)
    exact Samp.impl_ok_some b off cap zs w hc hm hl (reads_of hcells)
theorem l2ok {w : World} {v : Value} {zs : List E} (h : Is w v zs) : Calls Try.prog 36 #[v] w fun e w' => e = .returned (.bool (SampMath.ok zs)) ∧ Below w.heap.size w w' := by
  obtain ⟨-, a, cap, rfl, hc, hm, -, hr⟩ := h
  by_cases h0 : zs.length = 0
  · obtain rfl : zs = [] := List.eq_nil_of_length_eq_zero h0
    exact spec_ok_zero a cap w
  · obtain ⟨b, off, rfl, hl, hcells⟩ := hr (by omega)
    exact Samp.spec_ok_some b off cap zs w hc hm hl (reads_of hcells)
end Go.Proofs.Ytogdllkbiibicaa.Sam
