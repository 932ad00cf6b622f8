/- FnExactStoreNew returns true. -/
import Derived.Test.YtgaecdihjgabaaaStoNew
namespace Go.Proofs.Ytgaecdihjgabaaa
open Go.RowKit Rw
set_option linter.unusedVariables false
theorem kept {w w' : World} (hb : Below w.heap.size w w') {b o : Nat} {v : Value} (hl : b < w.heap.size) (h : w.cell? ⟨b, o, none⟩ = some v) : w'.cell? ⟨b, o, none⟩ = some v := (hb.cell (p := ⟨b, o, none⟩) hl).trans h
set_option maxHeartbeats 8000000 in
theorem fnExactStoreNew.walk (w : World) : Calls Try.prog 3 #[] w fun e w' => e = .returned (.bool true) ∧ Below w.heap.size w w' := by
  go_enter Try.func3, Try.ntmps3
  go_wp2_with fail
  refine (Sto.spec_new _).mono ?_
  rintro e v1 ⟨rfl, b1⟩
  have z1 := b1.size
  have c1 := (Below.refl w.heap.size w).trans (b1.mono (Below.refl w.heap.size w).size)
  clear b1
  have h1_0_1 : (v1.alloc (.cells #[.int .i64 0, .int .i64 0, .slice none 0 0, .int .i64 (-1), .int .i64 0, .slice none 0 0, .slice none 0 0] 28)).cell? ⟨v1.heap.size, 0, none⟩ = some (.int .i64 0) := by simp [go_sem]
  have h1_1_1 : (v1.alloc (.cells #[.int .i64 0, .int .i64 0, .slice none 0 0, .int .i64 (-1), .int .i64 0, .slice none 0 0, .slice none 0 0] 28)).cell? ⟨v1.heap.size, 1, none⟩ = some (.int .i64 0) := by simp [go_sem]
  have h1_2_1 : (v1.alloc (.cells #[.int .i64 0, .int .i64 0, .slice none 0 0, .int .i64 (-1), .int .i64 0, .slice none 0 0, .slice none 0 0] 28)).cell? ⟨v1.heap.size, 2, none⟩ = some (.slice none 0 0) := by simp [go_sem]
  have h1_3_1 : (v1.alloc (.cells #[.int .i64 0, .int .i64 0, .slice none 0 0, .int .i64 (-1), .int .i64 0, .slice none 0 0, .slice none 0 0] 28)).cell? ⟨v1.heap.size, 3, none⟩ = some (.int .i64 (-1)) := by simp [go_sem]
  have h1_4_1 : (v1.alloc (.cells #[.int .i64 0, .int .i64 0, .slice none 0 0, .int .i64 (-1), .int .i64 0, .slice none 0 0, .slice none 0 0] 28)).cell? ⟨v1.heap.size, 4, none⟩ = some (.int .i64 0) := by simp [go_sem]
  have h1_5_1 : (v1.alloc (.cells #[.int .i64 0, .int .i64 0, .slice none 0 0, .int .i64 (-1), .int .i64 0, .slice none 0 0, .slice none 0 0] 28)).cell? ⟨v1.heap.size, 5, none⟩ = some (.slice none 0 0) := by simp [go_sem]
  have h1_6_1 : (v1.alloc (.cells #[.int .i64 0, .int .i64 0, .slice none 0 0, .int .i64 (-1), .int .i64 0, .slice none 0 0, .slice none 0 0] 28)).cell? ⟨v1.heap.size, 6, none⟩ = some (.slice none 0 0) := by simp [go_sem]
  have C1 : Below w.heap.size w (v1.alloc (.cells #[.int .i64 0, .int .i64 0, .slice none 0 0, .int .i64 (-1), .int .i64 0, .slice none 0 0, .slice none 0 0] 28)) := c1.alloc c1.size _
  go_wp2_with fail
  refine (Sto.impl_new _).mono ?_
  rintro e v2 ⟨rfl, b2⟩
  have z2 := b2.size
  simp only [World.size_alloc] at z2
  have c2 := C1.trans (b2.mono C1.size)
  have h1_0_2 := kept b2 (by first | omega | (simp; done) | (simp; omega)) h1_0_1
  have h1_1_2 := kept b2 (by first | omega | (simp; done) | (simp; omega)) h1_1_1
  have h1_2_2 := kept b2 (by first | omega | (simp; done) | (simp; omega)) h1_2_1
  have h1_3_2 := kept b2 (by first | omega | (simp; done) | (simp; omega)) h1_3_1
  have h1_4_2 := kept b2 (by first | omega | (simp; done) | (simp; omega)) h1_4_1
  have h1_5_2 := kept b2 (by first | omega | (simp; done) | (simp; omega)) h1_5_1
  have h1_6_2 := kept b2 (by first | omega | (simp; done) | (simp; omega)) h1_6_1
  clear h1_0_1 h1_1_1 h1_2_1 h1_3_1 h1_4_1 h1_5_1 h1_6_1
  clear b2
  have a1_0 : (v2.alloc (.cells #[.int .i64 0, .int .i64 0, .slice none 0 0, .int .i64 (-1), .int .i64 0, .slice none 0 0, .slice none 0 0] 28)).cell? ⟨v1.heap.size, 0, none⟩ = some (.int .i64 0) := kept ((Below.refl _ _).alloc (Nat.le_refl _) _) (by omega) h1_0_2
  have a1_1 : (v2.alloc (.cells #[.int .i64 0, .int .i64 0, .slice none 0 0, .int .i64 (-1), .int .i64 0, .slice none 0 0, .slice none 0 0] 28)).cell? ⟨v1.heap.size, 1, none⟩ = some (.int .i64 0) := kept ((Below.refl _ _).alloc (Nat.le_refl _) _) (by omega) h1_1_2
  have a1_2 : (v2.alloc (.cells #[.int .i64 0, .int .i64 0, .slice none 0 0, .int .i64 (-1), .int .i64 0, .slice none 0 0, .slice none 0 0] 28)).cell? ⟨v1.heap.size, 2, none⟩ = some (.slice none 0 0) := kept ((Below.refl _ _).alloc (Nat.le_refl _) _) (by omega) h1_2_2
  have a1_3 : (v2.alloc (.cells #[.int .i64 0, .int .i64 0, .slice none 0 0, .int .i64 (-1), .int .i64 0, .slice none 0 0, .slice none 0 0] 28)).cell? ⟨v1.heap.size, 3, none⟩ = some (.int .i64 (-1)) := kept ((Below.refl _ _).alloc (Nat.le_refl _) _) (by omega) h1_3_2
  have a1_4 : (v2.alloc (.cells #[.int .i64 0, .int .i64 0, .slice none 0 0, .int .i64 (-1), .int .i64 0, .slice none 0 0, .slice none 0 0] 28)).cell? ⟨v1.heap.size, 4, none⟩ = some (.int .i64 0) := kept ((Below.refl _ _).alloc (Nat.le_refl _) _) (by omega) h1_4_2
  have a1_5 : (v2.alloc (.cells #[.int .i64 0, .int .i64 0, .slice none 0 0, .int .i64 (-1), .int .i64 0, .slice none 0 0, .slice none 0 0] 28)).cell? ⟨v1.heap.size, 5, none⟩ = some (.slice none 0 0) := kept ((Below.refl _ _).alloc (Nat.le_refl _) _) (by omega) h1_5_2
  have a1_6 : (v2.alloc (.cells #[.int .i64 0, .int .i64 0, .slice none 0 0, .int .i64 (-1), .int .i64 0, .slice none 0 0, .slice none 0 0] 28)).cell? ⟨v1.heap.size, 6, none⟩ = some (.slice none 0 0) := kept ((Below.refl _ _).alloc (Nat.le_refl _) _) (by omega) h1_6_2
  clear h1_0_2 h1_1_2 h1_2_2 h1_3_2 h1_4_2 h1_5_2 h1_6_2
  have h1_0_2 := a1_0
  clear a1_0
  have h1_1_2 := a1_1
  clear a1_1
  have h1_2_2 := a1_2
  clear a1_2
  have h1_3_2 := a1_3
  clear a1_3
  have h1_4_2 := a1_4
  clear a1_4
  have h1_5_2 := a1_5
  clear a1_5
  have h1_6_2 := a1_6
  clear a1_6
  have h2_0_2 : (v2.alloc (.cells #[.int .i64 0, .int .i64 0, .slice none 0 0, .int .i64 (-1), .int .i64 0, .slice none 0 0, .slice none 0 0] 28)).cell? ⟨v2.heap.size, 0, none⟩ = some (.int .i64 0) := by simp [go_sem]
  have h2_1_2 : (v2.alloc (.cells #[.int .i64 0, .int .i64 0, .slice none 0 0, .int .i64 (-1), .int .i64 0, .slice none 0 0, .slice none 0 0] 28)).cell? ⟨v2.heap.size, 1, none⟩ = some (.int .i64 0) := by simp [go_sem]
  have h2_2_2 : (v2.alloc (.cells #[.int .i64 0, .int .i64 0, .slice none 0 0, .int .i64 (-1), .int .i64 0, .slice none 0 0, .slice none 0 0] 28)).cell? ⟨v2.heap.size, 2, none⟩ = some (.slice none 0 0) := by simp [go_sem]
  have h2_3_2 : (v2.alloc (.cells #[.int .i64 0, .int .i64 0, .slice none 0 0, .int .i64 (-1), .int .i64 0, .slice none 0 0, .slice none 0 0] 28)).cell? ⟨v2.heap.size, 3, none⟩ = some (.int .i64 (-1)) := by simp [go_sem]
  have h2_4_2 : (v2.alloc (.cells #[.int .i64 0, .int .i64 0, .slice none 0 0, .int .i64 (-1), .int .i64 0, .slice none 0 0, .slice none 0 0] 28)).cell? ⟨v2.heap.size, 4, none⟩ = some (.int .i64 0) := by simp [go_sem]
  have h2_5_2 : (v2.alloc (.cells #[.int .i64 0, .int .i64 0, .slice none 0 0, .int .i64 (-1), .int .i64 0, .slice none 0 0, .slice none 0 0] 28)).cell? ⟨v2.heap.size, 5, none⟩ = some (.slice none 0 0) := by simp [go_sem]
  have h2_6_2 : (v2.alloc (.cells #[.int .i64 0, .int .i64 0, .slice none 0 0, .int .i64 (-1), .int .i64 0, .slice none 0 0, .slice none 0 0] 28)).cell? ⟨v2.heap.size, 6, none⟩ = some (.slice none 0 0) := by simp [go_sem]
  have C2 : Below w.heap.size w (v2.alloc (.cells #[.int .i64 0, .int .i64 0, .slice none 0 0, .int .i64 (-1), .int .i64 0, .slice none 0 0, .slice none 0 0] 28)) := c2.alloc c2.size _
  go_wp2_with fail
  refine (Sto.eqSto _).mono ?_
  rintro e v3 ⟨rfl, b3⟩
  have z3 := b3.size
  simp only [World.size_alloc] at z3
  have c3 := C2.trans (b3.mono C2.size)
  have h1_0_3 := kept b3 (by first | omega | (simp; done) | (simp; omega)) h1_0_2
  have h1_1_3 := kept b3 (by first | omega | (simp; done) | (simp; omega)) h1_1_2
  have h1_2_3 := kept b3 (by first | omega | (simp; done) | (simp; omega)) h1_2_2
  have h1_3_3 := kept b3 (by first | omega | (simp; done) | (simp; omega)) h1_3_2
  have h1_4_3 := kept b3 (by first | omega | (simp; done) | (simp; omega)) h1_4_2
  have h1_5_3 := kept b3 (by first | omega | (simp; done) | (simp; omega)) h1_5_2
  have h1_6_3 := kept b3 (by first | omega | (simp; done) | (simp; omega)) h1_6_2
  clear h1_0_2 h1_1_2 h1_2_2 h1_3_2 h1_4_2 h1_5_2 h1_6_2
  have h2_0_3 := kept b3 (by first | omega | (simp; done) | (simp; omega)) h2_0_2
  have h2_1_3 := kept b3 (by first | omega | (simp; done) | (simp; omega)) h2_1_2
  have h2_2_3 := kept b3 (by first | omega | (simp; done) | (simp; omega)) h2_2_2
  have h2_3_3 := kept b3 (by first | omega | (simp; done) | (simp; omega)) h2_3_2
  have h2_4_3 := kept b3 (by first | omega | (simp; done) | (simp; omega)) h2_4_2
  have h2_5_3 := kept b3 (by first | omega | (simp; done) | (simp; omega)) h2_5_2
  have h2_6_3 := kept b3 (by first | omega | (simp; done) | (simp; omega)) h2_6_2
  clear h2_0_2 h2_1_2 h2_2_2 h2_3_2 h2_4_2 h2_5_2 h2_6_2
  clear b3
  go_wp2_with fail
  refine (Sto.markSto _).mono ?_
  rintro e v4 ⟨rfl, b4⟩
  have z4 := b4.size
  have c4 := c3.trans (b4.mono c3.size)
  have h1_0_4 := kept b4 (by first | omega | (simp; done) | (simp; omega)) h1_0_3
  have h1_1_4 := kept b4 (by first | omega | (simp; done) | (simp; omega)) h1_1_3
  have h1_2_4 := kept b4 (by first | omega | (simp; done) | (simp; omega)) h1_2_3
  have h1_3_4 := kept b4 (by first | omega | (simp; done) | (simp; omega)) h1_3_3
  have h1_4_4 := kept b4 (by first | omega | (simp; done) | (simp; omega)) h1_4_3
  have h1_5_4 := kept b4 (by first | omega | (simp; done) | (simp; omega)) h1_5_3
  have h1_6_4 := kept b4 (by first | omega | (simp; done) | (simp; omega)) h1_6_3
  clear h1_0_3 h1_1_3 h1_2_3 h1_3_3 h1_4_3 h1_5_3 h1_6_3
  have h2_0_4 := kept b4 (by first | omega | (simp; done) | (simp; omega)) h2_0_3
  have h2_1_4 := kept b4 (by first | omega | (simp; done) | (simp; omega)) h2_1_3
  have h2_2_4 := kept b4 (by first | omega | (simp; done) | (simp; omega)) h2_2_3
  have h2_3_4 := kept b4 (by first | omega | (simp; done) | (simp; omega)) h2_3_3
  have h2_4_4 := kept b4 (by first | omega | (simp; done) | (simp; omega)) h2_4_3
  have h2_5_4 := kept b4 (by first | omega | (simp; done) | (simp; omega)) h2_5_3
  have h2_6_4 := kept b4 (by first | omega | (simp; done) | (simp; omega)) h2_6_3
  clear h2_0_3 h2_1_3 h2_2_3 h2_3_3 h2_4_3 h2_5_3 h2_6_3
  clear b4
  go_wp2_with fail
  refine (Sto.heldSto _).mono ?_
  rintro e v5 ⟨rfl, b5⟩
  have z5 := b5.size
  have c5 := c4.trans (b5.mono c4.size)
  have h1_0_5 := kept b5 (by first | omega | (simp; done) | (simp; omega)) h1_0_4
  have h1_1_5 := kept b5 (by first | omega | (simp; done) | (simp; omega)) h1_1_4
  have h1_2_5 := kept b5 (by first | omega | (simp; done) | (simp; omega)) h1_2_4
  have h1_3_5 := kept b5 (by first | omega | (simp; done) | (simp; omega)) h1_3_4
  have h1_4_5 := kept b5 (by first | omega | (simp; done) | (simp; omega)) h1_4_4
  have h1_5_5 := kept b5 (by first | omega | (simp; done) | (simp; omega)) h1_5_4
  have h1_6_5 := kept b5 (by first | omega | (simp; done) | (simp; omega)) h1_6_4
  clear h1_0_4 h1_1_4 h1_2_4 h1_3_4 h1_4_4 h1_5_4 h1_6_4
  have h2_0_5 := kept b5 (by first | omega | (simp; done) | (simp; omega)) h2_0_4
  have h2_1_5 := kept b5 (by first | omega | (simp; done) | (simp; omega)) h2_1_4
  have h2_2_5 := kept b5 (by first | omega | (simp; done) | (simp; omega)) h2_2_4
  have h2_3_5 := kept b5 (by first | omega | (simp; done) | (simp; omega)) h2_3_4
  have h2_4_5 := kept b5 (by first | omega | (simp; done) | (simp; omega)) h2_4_4
  have h2_5_5 := kept b5 (by first | omega | (simp; done) | (simp; omega)) h2_5_4
  have h2_6_5 := kept b5 (by first | omega | (simp; done) | (simp; omega)) h2_6_4
  clear h2_0_4 h2_1_4 h2_2_4 h2_3_4 h2_4_4 h2_5_4 h2_6_4
  clear b5
  go_wp2_with fail
  refine (Sto.impl_new _).mono ?_
  rintro e v6 ⟨rfl, b6⟩
  have z6 := b6.size
  have c6 := c5.trans (b6.mono c5.size)
  have h1_0_6 := kept b6 (by first | omega | (simp; done) | (simp; omega)) h1_0_5
  have h1_1_6 := kept b6 (by first | omega | (simp; done) | (simp; omega)) h1_1_5
  have h1_2_6 := kept b6 (by first | omega | (simp; done) | (simp; omega)) h1_2_5
  have h1_3_6 := kept b6 (by first | omega | (simp; done) | (simp; omega)) h1_3_5
  have h1_4_6 := kept b6 (by first | omega | (simp; done) | (simp; omega)) h1_4_5
  have h1_5_6 := kept b6 (by first | omega | (simp; done) | (simp; omega)) h1_5_5
  have h1_6_6 := kept b6 (by first | omega | (simp; done) | (simp; omega)) h1_6_5
  clear h1_0_5 h1_1_5 h1_2_5 h1_3_5 h1_4_5 h1_5_5 h1_6_5
  have h2_0_6 := kept b6 (by first | omega | (simp; done) | (simp; omega)) h2_0_5
  have h2_1_6 := kept b6 (by first | omega | (simp; done) | (simp; omega)) h2_1_5
  have h2_2_6 := kept b6 (by first | omega | (simp; done) | (simp; omega)) h2_2_5
  have h2_3_6 := kept b6 (by first | omega | (simp; done) | (simp; omega)) h2_3_5
  have h2_4_6 := kept b6 (by first | omega | (simp; done) | (simp; omega)) h2_4_5
  have h2_5_6 := kept b6 (by first | omega | (simp; done) | (simp; omega)) h2_5_5
  have h2_6_6 := kept b6 (by first | omega | (simp; done) | (simp; omega)) h2_6_5
  clear h2_0_5 h2_1_5 h2_2_5 h2_3_5 h2_4_5 h2_5_5 h2_6_5
  clear b6
  have a1_0 : (v6.alloc (.cells #[.int .i64 0, .int .i64 0, .slice none 0 0, .int .i64 (-1), .int .i64 0, .slice none 0 0, .slice none 0 0] 28)).cell? ⟨v1.heap.size, 0, none⟩ = some (.int .i64 0) := kept ((Below.refl _ _).alloc (Nat.le_refl _) _) (by omega) h1_0_6
  have a1_1 : (v6.alloc (.cells #[.int .i64 0, .int .i64 0, .slice none 0 0, .int .i64 (-1), .int .i64 0, .slice none 0 0, .slice none 0 0] 28)).cell? ⟨v1.heap.size, 1, none⟩ = some (.int .i64 0) := kept ((Below.refl _ _).alloc (Nat.le_refl _) _) (by omega) h1_1_6
  have a1_2 : (v6.alloc (.cells #[.int .i64 0, .int .i64 0, .slice none 0 0, .int .i64 (-1), .int .i64 0, .slice none 0 0, .slice none 0 0] 28)).cell? ⟨v1.heap.size, 2, none⟩ = some (.slice none 0 0) := kept ((Below.refl _ _).alloc (Nat.le_refl _) _) (by omega) h1_2_6
  have a1_3 : (v6.alloc (.cells #[.int .i64 0, .int .i64 0, .slice none 0 0, .int .i64 (-1), .int .i64 0, .slice none 0 0, .slice none 0 0] 28)).cell? ⟨v1.heap.size, 3, none⟩ = some (.int .i64 (-1)) := kept ((Below.refl _ _).alloc (Nat.le_refl _) _) (by omega) h1_3_6
  have a1_4 : (v6.alloc (.cells #[.int .i64 0, .int .i64 0, .slice none 0 0, .int .i64 (-1), .int .i64 0, .slice none 0 0, .slice none 0 0] 28)).cell? ⟨v1.heap.size, 4, none⟩ = some (.int .i64 0) := kept ((Below.refl _ _).alloc (Nat.le_refl _) _) (by omega) h1_4_6
  have a1_5 : (v6.alloc (.cells #[.int .i64 0, .int .i64 0, .slice none 0 0, .int .i64 (-1), .int .i64 0, .slice none 0 0, .slice none 0 0] 28)).cell? ⟨v1.heap.size, 5, none⟩ = some (.slice none 0 0) := kept ((Below.refl _ _).alloc (Nat.le_refl _) _) (by omega) h1_5_6
  have a1_6 : (v6.alloc (.cells #[.int .i64 0, .int .i64 0, .slice none 0 0, .int .i64 (-1), .int .i64 0, .slice none 0 0, .slice none 0 0] 28)).cell? ⟨v1.heap.size, 6, none⟩ = some (.slice none 0 0) := kept ((Below.refl _ _).alloc (Nat.le_refl _) _) (by omega) h1_6_6
  clear h1_0_6 h1_1_6 h1_2_6 h1_3_6 h1_4_6 h1_5_6 h1_6_6
  have h1_0_6 := a1_0
  clear a1_0
  have h1_1_6 := a1_1
  clear a1_1
  have h1_2_6 := a1_2
  clear a1_2
  have h1_3_6 := a1_3
  clear a1_3
  have h1_4_6 := a1_4
  clear a1_4
  have h1_5_6 := a1_5
  clear a1_5
  have h1_6_6 := a1_6
  clear a1_6
  have a2_0 : (v6.alloc (.cells #[.int .i64 0, .int .i64 0, .slice none 0 0, .int .i64 (-1), .int .i64 0, .slice none 0 0, .slice none 0 0] 28)).cell? ⟨v2.heap.size, 0, none⟩ = some (.int .i64 0) := kept ((Below.refl _ _).alloc (Nat.le_refl _) _) (by omega) h2_0_6
  have a2_1 : (v6.alloc (.cells #[.int .i64 0, .int .i64 0, .slice none 0 0, .int .i64 (-1), .int .i64 0, .slice none 0 0, .slice none 0 0] 28)).cell? ⟨v2.heap.size, 1, none⟩ = some (.int .i64 0) := kept ((Below.refl _ _).alloc (Nat.le_refl _) _) (by omega) h2_1_6
  have a2_2 : (v6.alloc (.cells #[.int .i64 0, .int .i64 0, .slice none 0 0, .int .i64 (-1), .int .i64 0, .slice none 0 0, .slice none 0 0] 28)).cell? ⟨v2.heap.size, 2, none⟩ = some (.slice none 0 0) := kept ((Below.refl _ _).alloc (Nat.le_refl _) _) (by omega) h2_2_6
  have a2_3 : (v6.alloc (.cells #[.int .i64 0, .int .i64 0, .slice none 0 0, .int .i64 (-1), .int .i64 0, .slice none 0 0, .slice none 0 0] 28)).cell? ⟨v2.heap.size, 3, none⟩ = some (.int .i64 (-1)) := kept ((Below.refl _ _).alloc (Nat.le_refl _) _) (by omega) h2_3_6
  have a2_4 : (v6.alloc (.cells #[.int .i64 0, .int .i64 0, .slice none 0 0, .int .i64 (-1), .int .i64 0, .slice none 0 0, .slice none 0 0] 28)).cell? ⟨v2.heap.size, 4, none⟩ = some (.int .i64 0) := kept ((Below.refl _ _).alloc (Nat.le_refl _) _) (by omega) h2_4_6
  have a2_5 : (v6.alloc (.cells #[.int .i64 0, .int .i64 0, .slice none 0 0, .int .i64 (-1), .int .i64 0, .slice none 0 0, .slice none 0 0] 28)).cell? ⟨v2.heap.size, 5, none⟩ = some (.slice none 0 0) := kept ((Below.refl _ _).alloc (Nat.le_refl _) _) (by omega) h2_5_6
  have a2_6 : (v6.alloc (.cells #[.int .i64 0, .int .i64 0, .slice none 0 0, .int .i64 (-1), .int .i64 0, .slice none 0 0, .slice none 0 0] 28)).cell? ⟨v2.heap.size, 6, none⟩ = some (.slice none 0 0) := kept ((Below.refl _ _).alloc (Nat.le_refl _) _) (by omega) h2_6_6
  clear h2_0_6 h2_1_6 h2_2_6 h2_3_6 h2_4_6 h2_5_6 h2_6_6
  have h2_0_6 := a2_0
  clear a2_0
  have h2_1_6 := a2_1
  clear a2_1
  have h2_2_6 := a2_2
  clear a2_2
  have h2_3_6 := a2_3
  clear a2_3
  have h2_4_6 := a2_4
  clear a2_4
  have h2_5_6 := a2_5
  clear a2_5
  have h2_6_6 := a2_6
  clear a2_6
  have h6_0_6 : (v6.alloc (.cells #[.int .i64 0, .int .i64 0, .slice none 0 0, .int .i64 (-1), .int .i64 0, .slice none 0 0, .slice none 0 0] 28)).cell? ⟨v6.heap.size, 0, none⟩ = some (.int .i64 0) := by simp [go_sem]
  have h6_1_6 : (v6.alloc (.cells #[.int .i64 0, .int .i64 0, .slice none 0 0, .int .i64 (-1), .int .i64 0, .slice none 0 0, .slice none 0 0] 28)).cell? ⟨v6.heap.size, 1, none⟩ = some (.int .i64 0) := by simp [go_sem]
  have h6_2_6 : (v6.alloc (.cells #[.int .i64 0, .int .i64 0, .slice none 0 0, .int .i64 (-1), .int .i64 0, .slice none 0 0, .slice none 0 0] 28)).cell? ⟨v6.heap.size, 2, none⟩ = some (.slice none 0 0) := by simp [go_sem]
  have h6_3_6 : (v6.alloc (.cells #[.int .i64 0, .int .i64 0, .slice none 0 0, .int .i64 (-1), .int .i64 0, .slice none 0 0, .slice none 0 0] 28)).cell? ⟨v6.heap.size, 3, none⟩ = some (.int .i64 (-1)) := by simp [go_sem]
  have h6_4_6 : (v6.alloc (.cells #[.int .i64 0, .int .i64 0, .slice none 0 0, .int .i64 (-1), .int .i64 0, .slice none 0 0, .slice none 0 0] 28)).cell? ⟨v6.heap.size, 4, none⟩ = some (.int .i64 0) := by simp [go_sem]
  have h6_5_6 : (v6.alloc (.cells #[.int .i64 0, .int .i64 0, .slice none 0 0, .int .i64 (-1), .int .i64 0, .slice none 0 0, .slice none 0 0] 28)).cell? ⟨v6.heap.size, 5, none⟩ = some (.slice none 0 0) := by simp [go_sem]
  have h6_6_6 : (v6.alloc (.cells #[.int .i64 0, .int .i64 0, .slice none 0 0, .int .i64 (-1), .int .i64 0, .slice none 0 0, .slice none 0 0] 28)).cell? ⟨v6.heap.size, 6, none⟩ = some (.slice none 0 0) := by simp [go_sem]
  have C6 : Below w.heap.size w (v6.alloc (.cells #[.int .i64 0, .int .i64 0, .slice none 0 0, .int .i64 (-1), .int .i64 0, .slice none 0 0, .slice none 0 0] 28)) := c6.alloc c6.size _
  go_wp2_with fail
  refine (Sto.eqSto _).mono ?_
  rintro e v7 ⟨rfl, b7⟩
  have z7 := b7.size
  simp only [World.size_alloc] at z7
  have c7 := C6.trans (b7.mono C6.size)
  have h1_0_7 := kept b7 (by first | omega | (simp; done) | (simp; omega)) h1_0_6
  have h1_1_7 := kept b7 (by first | omega | (simp; done) | (simp; omega)) h1_1_6
  have h1_2_7 := kept b7 (by first | omega | (simp; done) | (simp; omega)) h1_2_6
  have h1_3_7 := kept b7 (by first | omega | (simp; done) | (simp; omega)) h1_3_6
  have h1_4_7 := kept b7 (by first | omega | (simp; done) | (simp; omega)) h1_4_6
  have h1_5_7 := kept b7 (by first | omega | (simp; done) | (simp; omega)) h1_5_6
  have h1_6_7 := kept b7 (by first | omega | (simp; done) | (simp; omega)) h1_6_6
  clear h1_0_6 h1_1_6 h1_2_6 h1_3_6 h1_4_6 h1_5_6 h1_6_6
  have h2_0_7 := kept b7 (by first | omega | (simp; done) | (simp; omega)) h2_0_6
  have h2_1_7 := kept b7 (by first | omega | (simp; done) | (simp; omega)) h2_1_6
  have h2_2_7 := kept b7 (by first | omega | (simp; done) | (simp; omega)) h2_2_6
  have h2_3_7 := kept b7 (by first | omega | (simp; done) | (simp; omega)) h2_3_6
  have h2_4_7 := kept b7 (by first | omega | (simp; done) | (simp; omega)) h2_4_6
  have h2_5_7 := kept b7 (by first | omega | (simp; done) | (simp; omega)) h2_5_6
  have h2_6_7 := kept b7 (by first | omega | (simp; done) | (simp; omega)) h2_6_6
  clear h2_0_6 h2_1_6 h2_2_6 h2_3_6 h2_4_6 h2_5_6 h2_6_6
  have h6_0_7 := kept b7 (by first | omega | (simp; done) | (simp; omega)) h6_0_6
  have h6_1_7 := kept b7 (by first | omega | (simp; done) | (simp; omega)) h6_1_6
  have h6_2_7 := kept b7 (by first | omega | (simp; done) | (simp; omega)) h6_2_6
  have h6_3_7 := kept b7 (by first | omega | (simp; done) | (simp; omega)) h6_3_6
  have h6_4_7 := kept b7 (by first | omega | (simp; done) | (simp; omega)) h6_4_6
  have h6_5_7 := kept b7 (by first | omega | (simp; done) | (simp; omega)) h6_5_6
  have h6_6_7 := kept b7 (by first | omega | (simp; done) | (simp; omega)) h6_6_6
  clear h6_0_6 h6_1_6 h6_2_6 h6_3_6 h6_4_6 h6_5_6 h6_6_6
  clear b7
  go_wp2_with fail
  refine (Sto.heldSto _).mono ?_
  rintro e v8 ⟨rfl, b8⟩
  have z8 := b8.size
  have c8 := c7.trans (b8.mono c7.size)
  have h1_0_8 := kept b8 (by first | omega | (simp; done) | (simp; omega)) h1_0_7
  have h1_1_8 := kept b8 (by first | omega | (simp; done) | (simp; omega)) h1_1_7
  have h1_2_8 := kept b8 (by first | omega | (simp; done) | (simp; omega)) h1_2_7
  have h1_3_8 := kept b8 (by first | omega | (simp; done) | (simp; omega)) h1_3_7
  have h1_4_8 := kept b8 (by first | omega | (simp; done) | (simp; omega)) h1_4_7
  have h1_5_8 := kept b8 (by first | omega | (simp; done) | (simp; omega)) h1_5_7
  have h1_6_8 := kept b8 (by first | omega | (simp; done) | (simp; omega)) h1_6_7
  clear h1_0_7 h1_1_7 h1_2_7 h1_3_7 h1_4_7 h1_5_7 h1_6_7
  have h2_0_8 := kept b8 (by first | omega | (simp; done) | (simp; omega)) h2_0_7
  have h2_1_8 := kept b8 (by first | omega | (simp; done) | (simp; omega)) h2_1_7
  have h2_2_8 := kept b8 (by first | omega | (simp; done) | (simp; omega)) h2_2_7
  have h2_3_8 := kept b8 (by first | omega | (simp; done) | (simp; omega)) h2_3_7
  have h2_4_8 := kept b8 (by first | omega | (simp; done) | (simp; omega)) h2_4_7
  have h2_5_8 := kept b8 (by first | omega | (simp; done) | (simp; omega)) h2_5_7
  have h2_6_8 := kept b8 (by first | omega | (simp; done) | (simp; omega)) h2_6_7
  clear h2_0_7 h2_1_7 h2_2_7 h2_3_7 h2_4_7 h2_5_7 h2_6_7
  have h6_0_8 := kept b8 (by first | omega | (simp; done) | (simp; omega)) h6_0_7
  have h6_1_8 := kept b8 (by first | omega | (simp; done) | (simp; omega)) h6_1_7
  have h6_2_8 := kept b8 (by first | omega | (simp; done) | (simp; omega)) h6_2_7
  have h6_3_8 := kept b8 (by first | omega | (simp; done) | (simp; omega)) h6_3_7
  have h6_4_8 := kept b8 (by first | omega | (simp; done) | (simp; omega)) h6_4_7
  have h6_5_8 := kept b8 (by first | omega | (simp; done) | (simp; omega)) h6_5_7
  have h6_6_8 := kept b8 (by first | omega | (simp; done) | (simp; omega)) h6_6_7
  clear h6_0_7 h6_1_7 h6_2_7 h6_3_7 h6_4_7 h6_5_7 h6_6_7
  clear b8
  go_wp2_with fail
  go_ret
  exact ⟨rfl, c8⟩
end Go.Proofs.Ytgaecdihjgabaaa
