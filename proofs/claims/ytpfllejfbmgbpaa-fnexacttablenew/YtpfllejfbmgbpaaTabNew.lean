/- FnExactTableNew returns true. -/
import Derived.Test.YtpfllejfbmgbpaaTabLaw
namespace Go.Proofs.Ytpfllejfbmgbpaa.Tab
open Go.RowKit Rw
set_option linter.unusedVariables false
attribute [local go_sem ↓] Go.wp_at_zero Go.wp_at_succ
theorem rows_nil (w : World) : Row.Is w (.slice none 0 0) [] := ⟨[], rfl, ⟨by simp [flatOf], none, 0, rfl, Nat.le_refl _, Nat.zero_le _, fun _ => rfl, fun h => by simp at h⟩, fun i hi => by simp at hi⟩
theorem elem_nil (w : World) : Elem w (.slice none 0 0, .int .i64 (-1), .int .i64 0) ([], -1, 0) := ⟨rows_nil w, rfl, rfl⟩
theorem impl_new (w : World) : Calls Try.prog 37 #[] w fun e w' => e = .returned (.agg #[.slice none 0 0, .int .i64 (-1), .int .i64 0]) ∧ Below w.heap.size w w' := by
  go_enter Try.func37, Try.ntmps37
  go_wp2
  first
    | (refine bodyPost_ret (v := .agg #[.slice none 0 0, .int .i64 (-1), .int .i64 0]) (by simp [results, Try.results37, go_sem]) rfl ⟨rfl, ?_⟩
       exact (Below.refl _ _).alloc (Nat.le_refl _) _)
    | trace_state
theorem spec_new (w : World) : Calls Try.prog 36 #[] w fun e w' => e = .returned (.agg #[.slice none 0 0, .int .i64 (-1), .int .i64 0]) ∧ Below w.heap.size w w' := by
  go_enter Try.func36, Try.ntmps36
  go_wp2
  first
    | (refine bodyPost_ret (v := .agg #[.slice none 0 0, .int .i64 (-1), .int .i64 0]) (by simp [results, Try.results36, go_sem]) rfl ⟨rfl, ?_⟩
       exact (Below.refl _ _).alloc (Nat.le_refl _) _)
    | trace_state
theorem markS_nil (k : Int) (w : World) : Calls Try.prog 23 #[.slice none 0 0, .int .i64 k] w fun e w' => e = .returned (.int .i64 k) ∧ Below w.heap.size w w' := by
  go_enter Try.func23, Try.ntmps23
  go_wp2
  refine wp_loop_rounds 1 ?_
  rw [rounds_succ]
  go_wp2
  go_ret
  exact ⟨rfl, Below.refl _ _⟩
theorem heldS_nil (k : Int) (w : World) : Calls Try.prog 25 #[.slice none 0 0, .int .i64 k] w fun e w' => e = .returned (.int .i64 k) ∧ Below w.heap.size w w' := by
  go_enter Try.func25, Try.ntmps25
  go_wp2
  refine wp_loop_rounds 1 ?_
  rw [rounds_succ]
  go_wp2
  go_ret
  exact ⟨rfl, Below.refl _ _⟩
theorem mark_nil (k H F : Int) (w : World) : Calls Try.prog 39 #[.agg #[.slice none 0 0, .int .i64 H, .int .i64 F], .int .i64 k] w fun e w' => e = .returned (.int .i64 k) ∧ Below w.heap.size w w' := by
  have B := (Below.refl w.heap.size w).alloc (Nat.le_refl _) (.cells #[.slice none 0 0, .int .i64 H, .int .i64 F] 54)
  go_enter Try.func39, Try.ntmps39
  go_wp2_with fail
  refine (markS_nil k _).mono ?_
  rintro e v ⟨rfl, b⟩
  go_wp2
  go_ret
  exact ⟨rfl, B.trans (b.mono B.size)⟩
theorem held_nil (k H F : Int) (w : World) (hk : 0 ≤ k) : Calls Try.prog 40 #[.agg #[.slice none 0 0, .int .i64 H, .int .i64 F], .int .i64 k] w fun e w' => e = .returned (.int .i64 k) ∧ Below w.heap.size w w' := by
  have B := (Below.refl w.heap.size w).alloc (Nat.le_refl _) (.cells #[.slice none 0 0, .int .i64 H, .int .i64 F] 54)
  go_enter Try.func40, Try.ntmps40
  go_wp2_with fail
  refine (heldS_nil k _).mono ?_
  rintro e v ⟨rfl, b⟩
  go_wp2
  go_ret
  exact ⟨rfl, B.trans (b.mono B.size)⟩
end Go.Proofs.Ytpfllejfbmgbpaa.Tab
