/- A store that has nothing: made by the program and by the model, held against another, marked, held. No condition. -/
import Derived.Test.YthcfhclaadggeaaRw
namespace Go.Proofs.Ythcfhclaadggeaa.Sto
open Go.RowKit Rw
set_option linter.unusedVariables false
attribute [local go_sem ↓] Go.wp_at_zero Go.wp_at_succ
theorem impl_tab (w : World) : Calls Try.prog 12 #[] w fun e w' => e = .returned (.agg #[.slice none 0 0, .int .i64 (-1), .int .i64 0]) ∧ Below w.heap.size w w' := by
  go_enter Try.func12, Try.ntmps12
  go_wp2
  refine bodyPost_ret (v := .agg #[.slice none 0 0, .int .i64 (-1), .int .i64 0]) (by simp [results, Try.results12, go_sem]) rfl ⟨rfl, ?_⟩
  exact (Below.refl _ _).alloc (Nat.le_refl _) _
set_option maxHeartbeats 2000000 in
theorem impl_new (w : World) : Calls Try.prog 11 #[] w fun e w' => e = .returned (.agg #[.int .i64 0, .int .i64 0, .slice none 0 0, .int .i64 (-1), .int .i64 0, .slice none 0 0, .slice none 0 0]) ∧ Below w.heap.size w w' := by
  have B := (Below.refl w.heap.size w).alloc (Nat.le_refl _) (.cells #[.int .i64 0, .int .i64 0, .slice none 0 0, .int .i64 0, .int .i64 0, .slice none 0 0, .slice none 0 0] 31)
  go_enter Try.func11, Try.ntmps11
  go_wp2_with fail
  refine (impl_tab _).mono ?_
  rintro e v ⟨rfl, b⟩
  obtain ⟨bc, bf⟩ := bcell b
  have C := B.trans (b.mono B.size)
  simp only [World.size_alloc] at bc bf
  have C0 := C.setCell (p := ⟨w.heap.size, 0, none⟩) (Nat.le_refl _) (.int .i64 0)
  have C1 := C0.setCell (p := ⟨w.heap.size, 1, none⟩) (Nat.le_refl _) (.int .i64 0)
  have C2 := C1.setCell (p := ⟨w.heap.size, 2, none⟩) (Nat.le_refl _) (.slice none 0 0)
  have C3 := C2.setCell (p := ⟨w.heap.size, 3, none⟩) (Nat.le_refl _) (.int .i64 (-1))
  have C4 := C3.setCell (p := ⟨w.heap.size, 4, none⟩) (Nat.le_refl _) (.int .i64 0)
  have C5 := C4.setCell (p := ⟨w.heap.size, 5, none⟩) (Nat.le_refl _) (.slice none 0 0)
  have C6 := C5.setCell (p := ⟨w.heap.size, 6, none⟩) (Nat.le_refl _) (.slice none 0 0)
  go_wp2
  refine bodyPost_ret (v := .agg #[.int .i64 0, .int .i64 0, .slice none 0 0, .int .i64 (-1), .int .i64 0, .slice none 0 0, .slice none 0 0]) (by simp [results, Try.results11, go_sem, bc]) rfl ⟨rfl, C6⟩
theorem spec_tab (w : World) : Calls Try.prog 10 #[] w fun e w' => e = .returned (.agg #[.slice none 0 0, .int .i64 (-1), .int .i64 0]) ∧ Below w.heap.size w w' := by
  go_enter Try.func10, Try.ntmps10
  go_wp2
  refine bodyPost_ret (v := .agg #[.slice none 0 0, .int .i64 (-1), .int .i64 0]) (by simp [results, Try.results10, go_sem]) rfl ⟨rfl, ?_⟩
  exact (Below.refl _ _).alloc (Nat.le_refl _) _
set_option maxHeartbeats 2000000 in
theorem spec_new (w : World) : Calls Try.prog 9 #[] w fun e w' => e = .returned (.agg #[.int .i64 0, .int .i64 0, .slice none 0 0, .int .i64 (-1), .int .i64 0, .slice none 0 0, .slice none 0 0]) ∧ Below w.heap.size w w' := by
  have B := (Below.refl w.heap.size w).alloc (Nat.le_refl _) (.cells #[.int .i64 0, .int .i64 0, .slice none 0 0, .int .i64 0, .int .i64 0, .slice none 0 0, .slice none 0 0] 31)
  go_enter Try.func9, Try.ntmps9
  go_wp2_with fail
  refine (spec_tab _).mono ?_
  rintro e v ⟨rfl, b⟩
  obtain ⟨bc, bf⟩ := bcell b
  have C := B.trans (b.mono B.size)
  simp only [World.size_alloc] at bc bf
  have C0 := C.setCell (p := ⟨w.heap.size, 0, none⟩) (Nat.le_refl _) (.int .i64 0)
  have C1 := C0.setCell (p := ⟨w.heap.size, 1, none⟩) (Nat.le_refl _) (.int .i64 0)
  have C2 := C1.setCell (p := ⟨w.heap.size, 2, none⟩) (Nat.le_refl _) (.slice none 0 0)
  have C3 := C2.setCell (p := ⟨w.heap.size, 3, none⟩) (Nat.le_refl _) (.int .i64 (-1))
  have C4 := C3.setCell (p := ⟨w.heap.size, 4, none⟩) (Nat.le_refl _) (.int .i64 0)
  have C5 := C4.setCell (p := ⟨w.heap.size, 5, none⟩) (Nat.le_refl _) (.slice none 0 0)
  have C6 := C5.setCell (p := ⟨w.heap.size, 6, none⟩) (Nat.le_refl _) (.slice none 0 0)
  go_wp2
  refine bodyPost_ret (v := .agg #[.int .i64 0, .int .i64 0, .slice none 0 0, .int .i64 (-1), .int .i64 0, .slice none 0 0, .slice none 0 0]) (by simp [results, Try.results9, go_sem, bc]) rfl ⟨rfl, C6⟩
theorem eqRowS (w : World) : Calls Try.prog 25 #[.slice none 0 0, .slice none 0 0] w fun e w' => e = .returned (.bool true) ∧ Below w.heap.size w w' := by
  go_enter Try.func25, Try.ntmps25
  go_wp2
  refine wp_loop_rounds 1 ?_
  rw [rounds_succ]
  go_wp2
  go_ret
  exact ⟨rfl, Below.refl _ _⟩
theorem markRowS (k : Int) (w : World) : Calls Try.prog 29 #[.slice none 0 0, .int .i64 k] w fun e w' => e = .returned (.int .i64 k) ∧ Below w.heap.size w w' := by
  go_enter Try.func29, Try.ntmps29
  go_wp2
  refine wp_loop_rounds 1 ?_
  rw [rounds_succ]
  go_wp2
  go_ret
  exact ⟨rfl, Below.refl _ _⟩
theorem heldRowS (k : Int) (w : World) : Calls Try.prog 33 #[.slice none 0 0, .int .i64 k] w fun e w' => e = .returned (.int .i64 k) ∧ Below w.heap.size w w' := by
  go_enter Try.func33, Try.ntmps33
  go_wp2
  refine wp_loop_rounds 1 ?_
  rw [rounds_succ]
  go_wp2
  go_ret
  exact ⟨rfl, Below.refl _ _⟩
theorem eqHeldS (w : World) : Calls Try.prog 23 #[.slice none 0 0, .slice none 0 0] w fun e w' => e = .returned (.bool true) ∧ Below w.heap.size w w' := by
  go_enter Try.func23, Try.ntmps23
  go_wp2
  refine wp_loop_rounds 1 ?_
  rw [rounds_succ]
  go_wp2
  go_ret
  exact ⟨rfl, Below.refl _ _⟩
theorem markHeldS (k : Int) (w : World) : Calls Try.prog 27 #[.slice none 0 0, .int .i64 k] w fun e w' => e = .returned (.int .i64 k) ∧ Below w.heap.size w w' := by
  go_enter Try.func27, Try.ntmps27
  go_wp2
  refine wp_loop_rounds 1 ?_
  rw [rounds_succ]
  go_wp2
  go_ret
  exact ⟨rfl, Below.refl _ _⟩
theorem heldHeldS (k : Int) (w : World) : Calls Try.prog 31 #[.slice none 0 0, .int .i64 k] w fun e w' => e = .returned (.int .i64 k) ∧ Below w.heap.size w w' := by
  go_enter Try.func31, Try.ntmps31
  go_wp2
  refine wp_loop_rounds 1 ?_
  rw [rounds_succ]
  go_wp2
  go_ret
  exact ⟨rfl, Below.refl _ _⟩
theorem eqTombS (w : World) : Calls Try.prog 24 #[.slice none 0 0, .slice none 0 0] w fun e w' => e = .returned (.bool true) ∧ Below w.heap.size w w' := by
  go_enter Try.func24, Try.ntmps24
  go_wp2
  refine wp_loop_rounds 1 ?_
  rw [rounds_succ]
  go_wp2
  go_ret
  exact ⟨rfl, Below.refl _ _⟩
theorem markTombS (k : Int) (w : World) : Calls Try.prog 28 #[.slice none 0 0, .int .i64 k] w fun e w' => e = .returned (.int .i64 k) ∧ Below w.heap.size w w' := by
  go_enter Try.func28, Try.ntmps28
  go_wp2
  refine wp_loop_rounds 1 ?_
  rw [rounds_succ]
  go_wp2
  go_ret
  exact ⟨rfl, Below.refl _ _⟩
theorem heldTombS (k : Int) (w : World) : Calls Try.prog 32 #[.slice none 0 0, .int .i64 k] w fun e w' => e = .returned (.int .i64 k) ∧ Below w.heap.size w w' := by
  go_enter Try.func32, Try.ntmps32
  go_wp2
  refine wp_loop_rounds 1 ?_
  rw [rounds_succ]
  go_wp2
  go_ret
  exact ⟨rfl, Below.refl _ _⟩
set_option maxHeartbeats 2000000 in
theorem eqTab (w : World) : Calls Try.prog 15 #[.agg #[.slice none 0 0, .int .i64 (-1), .int .i64 0], .agg #[.slice none 0 0, .int .i64 (-1), .int .i64 0]] w fun e w' => e = .returned (.bool true) ∧ Below w.heap.size w w' := by
  have B0 := (((Below.refl w.heap.size w).alloc (by first | exact Nat.le_refl _ | (simp; done) | (simp; omega)) (.cells #[.slice none 0 0, .int .i64 (-1), .int .i64 0] 27)).alloc (by first | exact Nat.le_refl _ | (simp; done) | (simp; omega)) (.cells #[.slice none 0 0, .int .i64 (-1), .int .i64 0] 27))
  go_enter Try.func15, Try.ntmps15
  go_wp2_with fail
  refine (eqRowS _).mono ?_
  rintro e v0 ⟨rfl, b0⟩
  obtain ⟨bc0, bf0⟩ := bcell b0
  have z0 := b0.size
  have B1 := B0.trans (b0.mono B0.size)
  simp only [World.size_alloc] at bc0 bf0 z0
  go_wp2_with fail
  go_ret
  exact ⟨rfl, B1⟩
set_option maxHeartbeats 2000000 in
theorem markTab (w : World) : Calls Try.prog 18 #[.agg #[.slice none 0 0, .int .i64 (-1), .int .i64 0], .int .i64 1] w fun e w' => e = .returned (.int .i64 1) ∧ Below w.heap.size w w' := by
  have B0 := ((Below.refl w.heap.size w).alloc (by first | exact Nat.le_refl _ | (simp; done) | (simp; omega)) (.cells #[.slice none 0 0, .int .i64 (-1), .int .i64 0] 27))
  go_enter Try.func18, Try.ntmps18
  go_wp2_with fail
  refine (markRowS 1 _).mono ?_
  rintro e v0 ⟨rfl, b0⟩
  obtain ⟨bc0, bf0⟩ := bcell b0
  have z0 := b0.size
  have B1 := B0.trans (b0.mono B0.size)
  simp only [World.size_alloc] at bc0 bf0 z0
  go_wp2_with fail
  go_ret
  exact ⟨rfl, B1⟩
set_option maxHeartbeats 2000000 in
theorem heldTab (w : World) : Calls Try.prog 21 #[.agg #[.slice none 0 0, .int .i64 (-1), .int .i64 0], .int .i64 1] w fun e w' => e = .returned (.int .i64 1) ∧ Below w.heap.size w w' := by
  have B0 := ((Below.refl w.heap.size w).alloc (by first | exact Nat.le_refl _ | (simp; done) | (simp; omega)) (.cells #[.slice none 0 0, .int .i64 (-1), .int .i64 0] 27))
  go_enter Try.func21, Try.ntmps21
  go_wp2_with fail
  refine (heldRowS 1 _).mono ?_
  rintro e v0 ⟨rfl, b0⟩
  obtain ⟨bc0, bf0⟩ := bcell b0
  have z0 := b0.size
  have B1 := B0.trans (b0.mono B0.size)
  simp only [World.size_alloc] at bc0 bf0 z0
  go_wp2_with fail
  go_ret
  exact ⟨rfl, B1⟩
set_option maxHeartbeats 2000000 in
theorem eqSto (w : World) : Calls Try.prog 14 #[.agg #[.int .i64 0, .int .i64 0, .slice none 0 0, .int .i64 (-1), .int .i64 0, .slice none 0 0, .slice none 0 0], .agg #[.int .i64 0, .int .i64 0, .slice none 0 0, .int .i64 (-1), .int .i64 0, .slice none 0 0, .slice none 0 0]] w fun e w' => e = .returned (.bool true) ∧ Below w.heap.size w w' := by
  have B0 := (((Below.refl w.heap.size w).alloc (by first | exact Nat.le_refl _ | (simp; done) | (simp; omega)) (.cells #[.int .i64 0, .int .i64 0, .slice none 0 0, .int .i64 (-1), .int .i64 0, .slice none 0 0, .slice none 0 0] 31)).alloc (by first | exact Nat.le_refl _ | (simp; done) | (simp; omega)) (.cells #[.int .i64 0, .int .i64 0, .slice none 0 0, .int .i64 (-1), .int .i64 0, .slice none 0 0, .slice none 0 0] 31))
  go_enter Try.func14, Try.ntmps14
  go_wp2_with fail
  refine (eqTab _).mono ?_
  rintro e v0 ⟨rfl, b0⟩
  obtain ⟨bc0, bf0⟩ := bcell b0
  have z0 := b0.size
  have B1 := B0.trans (b0.mono B0.size)
  simp only [World.size_alloc] at bc0 bf0 z0
  go_wp2_with fail
  refine (eqHeldS _).mono ?_
  rintro e v1 ⟨rfl, b1⟩
  obtain ⟨bc1, bf1⟩ := bcell b1
  have z1 := b1.size
  have B2 := B1.trans (b1.mono B1.size)
  have bd1 : ∀ b o, b < w.heap.size + 1 + 1 → v1.cell? ⟨b, o, none⟩ = v0.cell? ⟨b, o, none⟩ := fun b o h => bc1 b o (by omega)
  clear bc1 bf1
  go_wp2_with fail
  refine (eqTombS _).mono ?_
  rintro e v2 ⟨rfl, b2⟩
  obtain ⟨bc2, bf2⟩ := bcell b2
  have z2 := b2.size
  have B3 := B2.trans (b2.mono B2.size)
  have bd2 : ∀ b o, b < w.heap.size + 1 + 1 → v2.cell? ⟨b, o, none⟩ = v1.cell? ⟨b, o, none⟩ := fun b o h => bc2 b o (by omega)
  clear bc2 bf2
  go_wp2_with fail
  go_ret
  exact ⟨rfl, B3⟩
set_option maxHeartbeats 2000000 in
theorem markSto (w : World) : Calls Try.prog 17 #[.agg #[.int .i64 0, .int .i64 0, .slice none 0 0, .int .i64 (-1), .int .i64 0, .slice none 0 0, .slice none 0 0], .int .i64 1] w fun e w' => e = .returned (.int .i64 1) ∧ Below w.heap.size w w' := by
  have B0 := ((Below.refl w.heap.size w).alloc (by first | exact Nat.le_refl _ | (simp; done) | (simp; omega)) (.cells #[.int .i64 0, .int .i64 0, .slice none 0 0, .int .i64 (-1), .int .i64 0, .slice none 0 0, .slice none 0 0] 31))
  go_enter Try.func17, Try.ntmps17
  go_wp2_with fail
  refine (markTab _).mono ?_
  rintro e v0 ⟨rfl, b0⟩
  obtain ⟨bc0, bf0⟩ := bcell b0
  have z0 := b0.size
  have B1 := B0.trans (b0.mono B0.size)
  simp only [World.size_alloc] at bc0 bf0 z0
  go_wp2_with fail
  refine (markHeldS 1 _).mono ?_
  rintro e v1 ⟨rfl, b1⟩
  obtain ⟨bc1, bf1⟩ := bcell b1
  have z1 := b1.size
  have B2 := B1.trans (b1.mono B1.size)
  have bd1 : ∀ b o, b < w.heap.size + 1 → v1.cell? ⟨b, o, none⟩ = v0.cell? ⟨b, o, none⟩ := fun b o h => bc1 b o (by omega)
  clear bc1 bf1
  go_wp2_with fail
  refine (markTombS 1 _).mono ?_
  rintro e v2 ⟨rfl, b2⟩
  obtain ⟨bc2, bf2⟩ := bcell b2
  have z2 := b2.size
  have B3 := B2.trans (b2.mono B2.size)
  have bd2 : ∀ b o, b < w.heap.size + 1 → v2.cell? ⟨b, o, none⟩ = v1.cell? ⟨b, o, none⟩ := fun b o h => bc2 b o (by omega)
  clear bc2 bf2
  go_wp2_with fail
  go_ret
  exact ⟨rfl, B3⟩
set_option maxHeartbeats 2000000 in
theorem heldSto (w : World) : Calls Try.prog 20 #[.agg #[.int .i64 0, .int .i64 0, .slice none 0 0, .int .i64 (-1), .int .i64 0, .slice none 0 0, .slice none 0 0], .int .i64 1] w fun e w' => e = .returned (.int .i64 1) ∧ Below w.heap.size w w' := by
  have B0 := ((Below.refl w.heap.size w).alloc (by first | exact Nat.le_refl _ | (simp; done) | (simp; omega)) (.cells #[.int .i64 0, .int .i64 0, .slice none 0 0, .int .i64 (-1), .int .i64 0, .slice none 0 0, .slice none 0 0] 31))
  go_enter Try.func20, Try.ntmps20
  go_wp2_with fail
  refine (heldTab _).mono ?_
  rintro e v0 ⟨rfl, b0⟩
  obtain ⟨bc0, bf0⟩ := bcell b0
  have z0 := b0.size
  have B1 := B0.trans (b0.mono B0.size)
  simp only [World.size_alloc] at bc0 bf0 z0
  go_wp2_with fail
  refine (heldHeldS 1 _).mono ?_
  rintro e v1 ⟨rfl, b1⟩
  obtain ⟨bc1, bf1⟩ := bcell b1
  have z1 := b1.size
  have B2 := B1.trans (b1.mono B1.size)
  have bd1 : ∀ b o, b < w.heap.size + 1 → v1.cell? ⟨b, o, none⟩ = v0.cell? ⟨b, o, none⟩ := fun b o h => bc1 b o (by omega)
  clear bc1 bf1
  go_wp2_with fail
  refine (heldTombS 1 _).mono ?_
  rintro e v2 ⟨rfl, b2⟩
  obtain ⟨bc2, bf2⟩ := bcell b2
  have z2 := b2.size
  have B3 := B2.trans (b2.mono B2.size)
  have bd2 : ∀ b o, b < w.heap.size + 1 → v2.cell? ⟨b, o, none⟩ = v1.cell? ⟨b, o, none⟩ := fun b o h => bc2 b o (by omega)
  clear bc2 bf2
  go_wp2_with fail
  go_ret
  exact ⟨rfl, B3⟩
end Go.Proofs.Ythcfhclaadggeaa.Sto
