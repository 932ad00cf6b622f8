/- A world in which nothing happened: made by the program and by the model, held against another, marked, held. No condition. -/
import Derived.Test.YthcfhclaadggeaaStoNew
namespace Go.Proofs.Ythcfhclaadggeaa.Won
open Go.RowKit Rw Sto
set_option linter.unusedVariables false
attribute [local go_sem ↓] Go.wp_at_zero Go.wp_at_succ
theorem eqFilS (w : World) : Calls Try.prog 22 #[.slice none 0 0, .slice none 0 0] w fun e w' => e = .returned (.bool true) ∧ Below w.heap.size w w' := by
  go_enter Try.func22, Try.ntmps22
  go_wp2
  refine wp_loop_rounds 1 ?_
  rw [rounds_succ]
  go_wp2
  go_ret
  exact ⟨rfl, Below.refl _ _⟩
theorem markFilS (k : Int) (w : World) : Calls Try.prog 26 #[.slice none 0 0, .int .i64 k] w fun e w' => e = .returned (.int .i64 k) ∧ Below w.heap.size w w' := by
  go_enter Try.func26, Try.ntmps26
  go_wp2
  refine wp_loop_rounds 1 ?_
  rw [rounds_succ]
  go_wp2
  go_ret
  exact ⟨rfl, Below.refl _ _⟩
theorem heldFilS (k : Int) (w : World) : Calls Try.prog 30 #[.slice none 0 0, .int .i64 k] w fun e w' => e = .returned (.int .i64 k) ∧ Below w.heap.size w w' := by
  go_enter Try.func30, Try.ntmps30
  go_wp2
  refine wp_loop_rounds 1 ?_
  rw [rounds_succ]
  go_wp2
  go_ret
  exact ⟨rfl, Below.refl _ _⟩
set_option maxRecDepth 100000 in
set_option maxHeartbeats 8000000 in
theorem eqDsk (w : World) : Calls Try.prog 13 #[.agg #[.string ⟨#[]⟩, .string ⟨#[]⟩, .slice none 0 0], .agg #[.string ⟨#[]⟩, .string ⟨#[]⟩, .slice none 0 0]] w fun e w' => e = .returned (.bool true) ∧ Below w.heap.size w w' := by
  have B0 := (((Below.refl w.heap.size w).alloc (by first | exact Nat.le_refl _ | (simp; done) | (simp; omega)) (.cells #[.string ⟨#[]⟩, .string ⟨#[]⟩, .slice none 0 0] 24)).alloc (by first | exact Nat.le_refl _ | (simp; done) | (simp; omega)) (.cells #[.string ⟨#[]⟩, .string ⟨#[]⟩, .slice none 0 0] 24))
  go_enter Try.func13, Try.ntmps13
  go_wp2_with fail
  refine (eqFilS _).mono ?_
  rintro e v0 ⟨rfl, b0⟩
  obtain ⟨bc0, bf0⟩ := bcell b0
  have z0 := b0.size
  have B1 := B0.trans (b0.mono B0.size)
  simp only [World.size_alloc] at bc0 bf0 z0
  go_wp2_with fail
  go_ret
  exact ⟨rfl, B1⟩
set_option maxRecDepth 100000 in
set_option maxHeartbeats 8000000 in
theorem markDsk (w : World) : Calls Try.prog 16 #[.agg #[.string ⟨#[]⟩, .string ⟨#[]⟩, .slice none 0 0], .int .i64 1] w fun e w' => e = .returned (.int .i64 1) ∧ Below w.heap.size w w' := by
  have B0 := ((Below.refl w.heap.size w).alloc (by first | exact Nat.le_refl _ | (simp; done) | (simp; omega)) (.cells #[.string ⟨#[]⟩, .string ⟨#[]⟩, .slice none 0 0] 24))
  go_enter Try.func16, Try.ntmps16
  go_wp2_with fail
  refine (markFilS 1 _).mono ?_
  rintro e v0 ⟨rfl, b0⟩
  obtain ⟨bc0, bf0⟩ := bcell b0
  have z0 := b0.size
  have B1 := B0.trans (b0.mono B0.size)
  simp only [World.size_alloc] at bc0 bf0 z0
  go_wp2_with fail
  go_ret
  exact ⟨rfl, B1⟩
set_option maxRecDepth 100000 in
set_option maxHeartbeats 8000000 in
theorem heldDsk (w : World) : Calls Try.prog 19 #[.agg #[.string ⟨#[]⟩, .string ⟨#[]⟩, .slice none 0 0], .int .i64 1] w fun e w' => e = .returned (.int .i64 1) ∧ Below w.heap.size w w' := by
  have B0 := ((Below.refl w.heap.size w).alloc (by first | exact Nat.le_refl _ | (simp; done) | (simp; omega)) (.cells #[.string ⟨#[]⟩, .string ⟨#[]⟩, .slice none 0 0] 24))
  go_enter Try.func19, Try.ntmps19
  go_wp2_with fail
  refine (heldFilS 1 _).mono ?_
  rintro e v0 ⟨rfl, b0⟩
  obtain ⟨bc0, bf0⟩ := bcell b0
  have z0 := b0.size
  have B1 := B0.trans (b0.mono B0.size)
  simp only [World.size_alloc] at bc0 bf0 z0
  go_wp2_with fail
  go_ret
  exact ⟨rfl, B1⟩
set_option maxRecDepth 100000 in
set_option maxHeartbeats 8000000 in
theorem eqWor (w : World) : Calls Try.prog 6 #[.agg #[.string ⟨#[]⟩, .string ⟨#[]⟩, .slice none 0 0, .bool true, .int .i64 0, .int .i64 0, .slice none 0 0, .int .i64 (-1), .int .i64 0, .slice none 0 0, .slice none 0 0, .slice none 0 0, .int .i64 (-1), .int .i64 0], .agg #[.string ⟨#[]⟩, .string ⟨#[]⟩, .slice none 0 0, .bool true, .int .i64 0, .int .i64 0, .slice none 0 0, .int .i64 (-1), .int .i64 0, .slice none 0 0, .slice none 0 0, .slice none 0 0, .int .i64 (-1), .int .i64 0]] w fun e w' => e = .returned (.bool true) ∧ Below w.heap.size w w' := by
  have B0 := (((Below.refl w.heap.size w).alloc (by first | exact Nat.le_refl _ | (simp; done) | (simp; omega)) (.cells #[.string ⟨#[]⟩, .string ⟨#[]⟩, .slice none 0 0, .bool true, .int .i64 0, .int .i64 0, .slice none 0 0, .int .i64 (-1), .int .i64 0, .slice none 0 0, .slice none 0 0, .slice none 0 0, .int .i64 (-1), .int .i64 0] 33)).alloc (by first | exact Nat.le_refl _ | (simp; done) | (simp; omega)) (.cells #[.string ⟨#[]⟩, .string ⟨#[]⟩, .slice none 0 0, .bool true, .int .i64 0, .int .i64 0, .slice none 0 0, .int .i64 (-1), .int .i64 0, .slice none 0 0, .slice none 0 0, .slice none 0 0, .int .i64 (-1), .int .i64 0] 33))
  go_enter Try.func6, Try.ntmps6
  go_wp2_with fail
  refine (eqDsk _).mono ?_
  rintro e v0 ⟨rfl, b0⟩
  obtain ⟨bc0, bf0⟩ := bcell b0
  have z0 := b0.size
  have B1 := B0.trans (b0.mono B0.size)
  simp only [World.size_alloc] at bc0 bf0 z0
  go_wp2_with fail
  refine (eqSto _).mono ?_
  rintro e v1 ⟨rfl, b1⟩
  obtain ⟨bc1, bf1⟩ := bcell b1
  have z1 := b1.size
  have B2 := B1.trans (b1.mono B1.size)
  have bd1 : ∀ b o, b < w.heap.size + 1 + 1 → v1.cell? ⟨b, o, none⟩ = v0.cell? ⟨b, o, none⟩ := fun b o h => bc1 b o (by omega)
  clear bc1 bf1
  go_wp2_with fail
  refine (eqTab _).mono ?_
  rintro e v2 ⟨rfl, b2⟩
  obtain ⟨bc2, bf2⟩ := bcell b2
  have z2 := b2.size
  have B3 := B2.trans (b2.mono B2.size)
  have bd2 : ∀ b o, b < w.heap.size + 1 + 1 → v2.cell? ⟨b, o, none⟩ = v1.cell? ⟨b, o, none⟩ := fun b o h => bc2 b o (by omega)
  clear bc2 bf2
  go_wp2_with fail
  go_ret
  exact ⟨rfl, B3⟩
set_option maxRecDepth 100000 in
set_option maxHeartbeats 8000000 in
theorem markWor (w : World) : Calls Try.prog 7 #[.agg #[.string ⟨#[]⟩, .string ⟨#[]⟩, .slice none 0 0, .bool true, .int .i64 0, .int .i64 0, .slice none 0 0, .int .i64 (-1), .int .i64 0, .slice none 0 0, .slice none 0 0, .slice none 0 0, .int .i64 (-1), .int .i64 0], .int .i64 1] w fun e w' => e = .returned (.int .i64 1) ∧ Below w.heap.size w w' := by
  have B0 := ((Below.refl w.heap.size w).alloc (by first | exact Nat.le_refl _ | (simp; done) | (simp; omega)) (.cells #[.string ⟨#[]⟩, .string ⟨#[]⟩, .slice none 0 0, .bool true, .int .i64 0, .int .i64 0, .slice none 0 0, .int .i64 (-1), .int .i64 0, .slice none 0 0, .slice none 0 0, .slice none 0 0, .int .i64 (-1), .int .i64 0] 33))
  go_enter Try.func7, Try.ntmps7
  go_wp2_with fail
  refine (markDsk _).mono ?_
  rintro e v0 ⟨rfl, b0⟩
  obtain ⟨bc0, bf0⟩ := bcell b0
  have z0 := b0.size
  have B1 := B0.trans (b0.mono B0.size)
  simp only [World.size_alloc] at bc0 bf0 z0
  go_wp2_with fail
  refine (markSto _).mono ?_
  rintro e v1 ⟨rfl, b1⟩
  obtain ⟨bc1, bf1⟩ := bcell b1
  have z1 := b1.size
  have B2 := B1.trans (b1.mono B1.size)
  have bd1 : ∀ b o, b < w.heap.size + 1 → v1.cell? ⟨b, o, none⟩ = v0.cell? ⟨b, o, none⟩ := fun b o h => bc1 b o (by omega)
  clear bc1 bf1
  go_wp2_with fail
  refine (markTab _).mono ?_
  rintro e v2 ⟨rfl, b2⟩
  obtain ⟨bc2, bf2⟩ := bcell b2
  have z2 := b2.size
  have B3 := B2.trans (b2.mono B2.size)
  have bd2 : ∀ b o, b < w.heap.size + 1 → v2.cell? ⟨b, o, none⟩ = v1.cell? ⟨b, o, none⟩ := fun b o h => bc2 b o (by omega)
  clear bc2 bf2
  go_wp2_with fail
  go_ret
  exact ⟨rfl, B3⟩
set_option maxRecDepth 100000 in
set_option maxHeartbeats 8000000 in
theorem heldWor (w : World) : Calls Try.prog 8 #[.agg #[.string ⟨#[]⟩, .string ⟨#[]⟩, .slice none 0 0, .bool true, .int .i64 0, .int .i64 0, .slice none 0 0, .int .i64 (-1), .int .i64 0, .slice none 0 0, .slice none 0 0, .slice none 0 0, .int .i64 (-1), .int .i64 0], .int .i64 1] w fun e w' => e = .returned (.int .i64 1) ∧ Below w.heap.size w w' := by
  have B0 := ((Below.refl w.heap.size w).alloc (by first | exact Nat.le_refl _ | (simp; done) | (simp; omega)) (.cells #[.string ⟨#[]⟩, .string ⟨#[]⟩, .slice none 0 0, .bool true, .int .i64 0, .int .i64 0, .slice none 0 0, .int .i64 (-1), .int .i64 0, .slice none 0 0, .slice none 0 0, .slice none 0 0, .int .i64 (-1), .int .i64 0] 33))
  go_enter Try.func8, Try.ntmps8
  go_wp2_with fail
  refine (heldDsk _).mono ?_
  rintro e v0 ⟨rfl, b0⟩
  obtain ⟨bc0, bf0⟩ := bcell b0
  have z0 := b0.size
  have B1 := B0.trans (b0.mono B0.size)
  simp only [World.size_alloc] at bc0 bf0 z0
  go_wp2_with fail
  refine (heldSto _).mono ?_
  rintro e v1 ⟨rfl, b1⟩
  obtain ⟨bc1, bf1⟩ := bcell b1
  have z1 := b1.size
  have B2 := B1.trans (b1.mono B1.size)
  have bd1 : ∀ b o, b < w.heap.size + 1 → v1.cell? ⟨b, o, none⟩ = v0.cell? ⟨b, o, none⟩ := fun b o h => bc1 b o (by omega)
  clear bc1 bf1
  go_wp2_with fail
  refine (heldTab _).mono ?_
  rintro e v2 ⟨rfl, b2⟩
  obtain ⟨bc2, bf2⟩ := bcell b2
  have z2 := b2.size
  have B3 := B2.trans (b2.mono B2.size)
  have bd2 : ∀ b o, b < w.heap.size + 1 → v2.cell? ⟨b, o, none⟩ = v1.cell? ⟨b, o, none⟩ := fun b o h => bc2 b o (by omega)
  clear bc2 bf2
  go_wp2_with fail
  go_ret
  exact ⟨rfl, B3⟩
end Go.Proofs.Ythcfhclaadggeaa.Won
