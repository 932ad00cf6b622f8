/- A world in which nothing happened: made by the program and by the model. No condition. -/
import Derived.Test.YthcfhclaadggeaaStoNew
namespace Go.Proofs.Ythcfhclaadggeaa.Won
open Go.RowKit Rw Sto
set_option linter.unusedVariables false
attribute [local go_sem ↓] Go.wp_at_zero Go.wp_at_succ
theorem own_new {w : World} {base : Nat} {cs : Array Value} {t : TypeId} (hb : base ≤ w.heap.size) (h : cs.size = 14) : (w.alloc (.cells cs t)).ownsRow base t 14 (.slice (some ⟨w.heap.size, 0, none⟩) 1 1) 1 cs.toList :=
  ⟨by simp [h], .inr ⟨w.heap.size, 1, cs, rfl, hb, heap_alloc_new w _, Nat.le_refl _, by unfold maxLen; omega, by simp [h], by simp [List.take_of_length_le, h]⟩⟩
set_option maxRecDepth 100000 in
set_option maxHeartbeats 8000000 in
theorem impl_won (w : World) : Calls Try.prog 5 #[] w fun e w' => e = .returned (.agg #[.string ⟨#[]⟩, .string ⟨#[]⟩, .slice none 0 0, .bool true, .int .i64 0, .int .i64 0, .slice none 0 0, .int .i64 (-1), .int .i64 0, .slice none 0 0, .slice none 0 0, .slice none 0 0, .int .i64 (-1), .int .i64 0]) ∧ Below w.heap.size w w' := by
  obtain ⟨W, hW⟩ : ∃ W, w.alloc (.cells #[.string ⟨#[]⟩, .string ⟨#[]⟩, .slice none 0 0, .bool false, .int .i64 0, .int .i64 0, .slice none 0 0, .int .i64 0, .int .i64 0, .slice none 0 0, .slice none 0 0, .slice none 0 0, .int .i64 0, .int .i64 0] 33) = W := ⟨_, rfl⟩
  have bW : Below w.heap.size w W := by rw [← hW]; exact (Below.refl _ _).alloc (Nat.le_refl _) _
  have oW : W.ownsRow w.heap.size 33 14 (.slice (some ⟨w.heap.size, 0, none⟩) 1 1) 1 [.string ⟨#[]⟩, .string ⟨#[]⟩, .slice none 0 0, .bool false, .int .i64 0, .int .i64 0, .slice none 0 0, .int .i64 0, .int .i64 0, .slice none 0 0, .slice none 0 0, .slice none 0 0, .int .i64 0, .int .i64 0] := by rw [← hW]; exact own_new (Nat.le_refl _) rfl
  go_enter Try.func5, Try.ntmps5
  go_wp2_with fail
  try rw [hW]
  clear hW
  refine (Sto.impl_new W).mono ?_
  rintro e v1 ⟨rfl, b1⟩
  have o1 := own_below oW b1
  have c1 := bW.trans (b1.mono bW.size)
  clear oW b1
  go_wp2_with fail
  refine (Sto.impl_tab v1).mono ?_
  rintro e v2 ⟨rfl, b2⟩
  have t := own_below o1 b2
  have c2 := c1.trans (b2.mono c1.size)
  clear o1 b2 c1 bW
  have hr0 : v2.cell? ⟨w.heap.size, 0, none⟩ = some (.string ⟨#[]⟩) := by rw [t.cellAt 0 (by omega)]; rfl
  have hg0 := t.frozenAt 0
  have t0 := (t.stored 0 (.string ⟨#[]⟩)).1
  obtain ⟨y0, hy0⟩ : ∃ w', v2.setCell ⟨w.heap.size, 0, none⟩ (.string ⟨#[]⟩) = w' := ⟨_, rfl⟩
  rw [hy0] at t0
  clear t
  have hr1 : y0.cell? ⟨w.heap.size, 1, none⟩ = some (.string ⟨#[]⟩) := by rw [t0.cellAt 1 (by omega)]; rfl
  have hg1 := t0.frozenAt 1
  have t1 := (t0.stored 1 (.string ⟨#[]⟩)).1
  obtain ⟨y1, hy1⟩ : ∃ w', y0.setCell ⟨w.heap.size, 1, none⟩ (.string ⟨#[]⟩) = w' := ⟨_, rfl⟩
  rw [hy1] at t1
  clear t0
  have hr2 : y1.cell? ⟨w.heap.size, 2, none⟩ = some (.slice none 0 0) := by rw [t1.cellAt 2 (by omega)]; rfl
  have hg2 := t1.frozenAt 2
  have t2 := (t1.stored 2 (.slice none 0 0)).1
  obtain ⟨y2, hy2⟩ : ∃ w', y1.setCell ⟨w.heap.size, 2, none⟩ (.slice none 0 0) = w' := ⟨_, rfl⟩
  rw [hy2] at t2
  clear t1
  have hr3 : y2.cell? ⟨w.heap.size, 3, none⟩ = some (.bool false) := by rw [t2.cellAt 3 (by omega)]; rfl
  have hg3 := t2.frozenAt 3
  have t3 := (t2.stored 3 (.bool true)).1
  obtain ⟨y3, hy3⟩ : ∃ w', y2.setCell ⟨w.heap.size, 3, none⟩ (.bool true) = w' := ⟨_, rfl⟩
  rw [hy3] at t3
  clear t2
  have hr4 : y3.cell? ⟨w.heap.size, 4, none⟩ = some (.int .i64 0) := by rw [t3.cellAt 4 (by omega)]; rfl
  have hg4 := t3.frozenAt 4
  have t4 := (t3.stored 4 (.int .i64 0)).1
  obtain ⟨y4, hy4⟩ : ∃ w', y3.setCell ⟨w.heap.size, 4, none⟩ (.int .i64 0) = w' := ⟨_, rfl⟩
  rw [hy4] at t4
  clear t3
  have hr5 : y4.cell? ⟨w.heap.size, 5, none⟩ = some (.int .i64 0) := by rw [t4.cellAt 5 (by omega)]; rfl
  have hg5 := t4.frozenAt 5
  have t5 := (t4.stored 5 (.int .i64 0)).1
  obtain ⟨y5, hy5⟩ : ∃ w', y4.setCell ⟨w.heap.size, 5, none⟩ (.int .i64 0) = w' := ⟨_, rfl⟩
  rw [hy5] at t5
  clear t4
  have hr6 : y5.cell? ⟨w.heap.size, 6, none⟩ = some (.slice none 0 0) := by rw [t5.cellAt 6 (by omega)]; rfl
  have hg6 := t5.frozenAt 6
  have t6 := (t5.stored 6 (.slice none 0 0)).1
  obtain ⟨y6, hy6⟩ : ∃ w', y5.setCell ⟨w.heap.size, 6, none⟩ (.slice none 0 0) = w' := ⟨_, rfl⟩
  rw [hy6] at t6
  clear t5
  have hr7 : y6.cell? ⟨w.heap.size, 7, none⟩ = some (.int .i64 0) := by rw [t6.cellAt 7 (by omega)]; rfl
  have hg7 := t6.frozenAt 7
  have t7 := (t6.stored 7 (.int .i64 (-1))).1
  obtain ⟨y7, hy7⟩ : ∃ w', y6.setCell ⟨w.heap.size, 7, none⟩ (.int .i64 (-1)) = w' := ⟨_, rfl⟩
  rw [hy7] at t7
  clear t6
  have hr8 : y7.cell? ⟨w.heap.size, 8, none⟩ = some (.int .i64 0) := by rw [t7.cellAt 8 (by omega)]; rfl
  have hg8 := t7.frozenAt 8
  have t8 := (t7.stored 8 (.int .i64 0)).1
  obtain ⟨y8, hy8⟩ : ∃ w', y7.setCell ⟨w.heap.size, 8, none⟩ (.int .i64 0) = w' := ⟨_, rfl⟩
  rw [hy8] at t8
  clear t7
  have hr9 : y8.cell? ⟨w.heap.size, 9, none⟩ = some (.slice none 0 0) := by rw [t8.cellAt 9 (by omega)]; rfl
  have hg9 := t8.frozenAt 9
  have t9 := (t8.stored 9 (.slice none 0 0)).1
  obtain ⟨y9, hy9⟩ : ∃ w', y8.setCell ⟨w.heap.size, 9, none⟩ (.slice none 0 0) = w' := ⟨_, rfl⟩
  rw [hy9] at t9
  clear t8
  have hr10 : y9.cell? ⟨w.heap.size, 10, none⟩ = some (.slice none 0 0) := by rw [t9.cellAt 10 (by omega)]; rfl
  have hg10 := t9.frozenAt 10
  have t10 := (t9.stored 10 (.slice none 0 0)).1
  obtain ⟨y10, hy10⟩ : ∃ w', y9.setCell ⟨w.heap.size, 10, none⟩ (.slice none 0 0) = w' := ⟨_, rfl⟩
  rw [hy10] at t10
  clear t9
  have hr11 : y10.cell? ⟨w.heap.size, 11, none⟩ = some (.slice none 0 0) := by rw [t10.cellAt 11 (by omega)]; rfl
  have hg11 := t10.frozenAt 11
  have t11 := (t10.stored 11 (.slice none 0 0)).1
  obtain ⟨y11, hy11⟩ : ∃ w', y10.setCell ⟨w.heap.size, 11, none⟩ (.slice none 0 0) = w' := ⟨_, rfl⟩
  rw [hy11] at t11
  clear t10
  have hr12 : y11.cell? ⟨w.heap.size, 12, none⟩ = some (.int .i64 0) := by rw [t11.cellAt 12 (by omega)]; rfl
  have hg12 := t11.frozenAt 12
  have t12 := (t11.stored 12 (.int .i64 (-1))).1
  obtain ⟨y12, hy12⟩ : ∃ w', y11.setCell ⟨w.heap.size, 12, none⟩ (.int .i64 (-1)) = w' := ⟨_, rfl⟩
  rw [hy12] at t12
  clear t11
  have hr13 : y12.cell? ⟨w.heap.size, 13, none⟩ = some (.int .i64 0) := by rw [t12.cellAt 13 (by omega)]; rfl
  have hg13 := t12.frozenAt 13
  have t13 := (t12.stored 13 (.int .i64 0)).1
  obtain ⟨y13, hy13⟩ : ∃ w', y12.setCell ⟨w.heap.size, 13, none⟩ (.int .i64 0) = w' := ⟨_, rfl⟩
  rw [hy13] at t13
  clear t12
  have on := OnlyAt.refl w.heap.size v2
  have on := on.setCell 0 (.string ⟨#[]⟩)
  rw [hy0] at on
  have on := on.setCell 1 (.string ⟨#[]⟩)
  rw [hy1] at on
  have on := on.setCell 2 (.slice none 0 0)
  rw [hy2] at on
  have on := on.setCell 3 (.bool true)
  rw [hy3] at on
  have on := on.setCell 4 (.int .i64 0)
  rw [hy4] at on
  have on := on.setCell 5 (.int .i64 0)
  rw [hy5] at on
  have on := on.setCell 6 (.slice none 0 0)
  rw [hy6] at on
  have on := on.setCell 7 (.int .i64 (-1))
  rw [hy7] at on
  have on := on.setCell 8 (.int .i64 0)
  rw [hy8] at on
  have on := on.setCell 9 (.slice none 0 0)
  rw [hy9] at on
  have on := on.setCell 10 (.slice none 0 0)
  rw [hy10] at on
  have on := on.setCell 11 (.slice none 0 0)
  rw [hy11] at on
  have on := on.setCell 12 (.int .i64 (-1))
  rw [hy12] at on
  have on := on.setCell 13 (.int .i64 0)
  rw [hy13] at on
  have z0 : y13.cell? ⟨w.heap.size, 0, none⟩ = some (.string ⟨#[]⟩) := by rw [t13.cellAt 0 (by omega)]; rfl
  have z1 : y13.cell? ⟨w.heap.size, 1, none⟩ = some (.string ⟨#[]⟩) := by rw [t13.cellAt 1 (by omega)]; rfl
  have z2 : y13.cell? ⟨w.heap.size, 2, none⟩ = some (.slice none 0 0) := by rw [t13.cellAt 2 (by omega)]; rfl
  have z3 : y13.cell? ⟨w.heap.size, 3, none⟩ = some (.bool true) := by rw [t13.cellAt 3 (by omega)]; rfl
  have z4 : y13.cell? ⟨w.heap.size, 4, none⟩ = some (.int .i64 0) := by rw [t13.cellAt 4 (by omega)]; rfl
  have z5 : y13.cell? ⟨w.heap.size, 5, none⟩ = some (.int .i64 0) := by rw [t13.cellAt 5 (by omega)]; rfl
  have z6 : y13.cell? ⟨w.heap.size, 6, none⟩ = some (.slice none 0 0) := by rw [t13.cellAt 6 (by omega)]; rfl
  have z7 : y13.cell? ⟨w.heap.size, 7, none⟩ = some (.int .i64 (-1)) := by rw [t13.cellAt 7 (by omega)]; rfl
  have z8 : y13.cell? ⟨w.heap.size, 8, none⟩ = some (.int .i64 0) := by rw [t13.cellAt 8 (by omega)]; rfl
  have z9 : y13.cell? ⟨w.heap.size, 9, none⟩ = some (.slice none 0 0) := by rw [t13.cellAt 9 (by omega)]; rfl
  have z10 : y13.cell? ⟨w.heap.size, 10, none⟩ = some (.slice none 0 0) := by rw [t13.cellAt 10 (by omega)]; rfl
  have z11 : y13.cell? ⟨w.heap.size, 11, none⟩ = some (.slice none 0 0) := by rw [t13.cellAt 11 (by omega)]; rfl
  have z12 : y13.cell? ⟨w.heap.size, 12, none⟩ = some (.int .i64 (-1)) := by rw [t13.cellAt 12 (by omega)]; rfl
  have z13 : y13.cell? ⟨w.heap.size, 13, none⟩ = some (.int .i64 0) := by rw [t13.cellAt 13 (by omega)]; rfl
  have RB := hide (c2.trans (on.below (Nat.le_refl _)))
  clear on t13 c2
  go_wp2_with fail
  refine bodyPost_ret (v := .agg #[.string ⟨#[]⟩, .string ⟨#[]⟩, .slice none 0 0, .bool true, .int .i64 0, .int .i64 0, .slice none 0 0, .int .i64 (-1), .int .i64 0, .slice none 0 0, .slice none 0 0, .slice none 0 0, .int .i64 (-1), .int .i64 0]) (by simp [results, Try.results5, go_sem, z0, z1, z2, z3, z4, z5, z6, z7, z8, z9, z10, z11, z12, z13]) rfl ⟨rfl, unhide RB⟩
set_option maxRecDepth 100000 in
set_option maxHeartbeats 8000000 in
theorem spec_won (w : World) : Calls Try.prog 4 #[] w fun e w' => e = .returned (.agg #[.string ⟨#[]⟩, .string ⟨#[]⟩, .slice none 0 0, .bool true, .int .i64 0, .int .i64 0, .slice none 0 0, .int .i64 (-1), .int .i64 0, .slice none 0 0, .slice none 0 0, .slice none 0 0, .int .i64 (-1), .int .i64 0]) ∧ Below w.heap.size w w' := by
  obtain ⟨W, hW⟩ : ∃ W, w.alloc (.cells #[.string ⟨#[]⟩, .string ⟨#[]⟩, .slice none 0 0, .bool false, .int .i64 0, .int .i64 0, .slice none 0 0, .int .i64 0, .int .i64 0, .slice none 0 0, .slice none 0 0, .slice none 0 0, .int .i64 0, .int .i64 0] 33) = W := ⟨_, rfl⟩
  have bW : Below w.heap.size w W := by rw [← hW]; exact (Below.refl _ _).alloc (Nat.le_refl _) _
  have oW : W.ownsRow w.heap.size 33 14 (.slice (some ⟨w.heap.size, 0, none⟩) 1 1) 1 [.string ⟨#[]⟩, .string ⟨#[]⟩, .slice none 0 0, .bool false, .int .i64 0, .int .i64 0, .slice none 0 0, .int .i64 0, .int .i64 0, .slice none 0 0, .slice none 0 0, .slice none 0 0, .int .i64 0, .int .i64 0] := by rw [← hW]; exact own_new (Nat.le_refl _) rfl
  go_enter Try.func4, Try.ntmps4
  go_wp2_with fail
  try rw [hW]
  clear hW
  refine (Sto.spec_new W).mono ?_
  rintro e v1 ⟨rfl, b1⟩
  have o1 := own_below oW b1
  have c1 := bW.trans (b1.mono bW.size)
  clear oW b1
  go_wp2_with fail
  refine (Sto.spec_tab v1).mono ?_
  rintro e v2 ⟨rfl, b2⟩
  have t := own_below o1 b2
  have c2 := c1.trans (b2.mono c1.size)
  clear o1 b2 c1 bW
  have hr0 : v2.cell? ⟨w.heap.size, 0, none⟩ = some (.string ⟨#[]⟩) := by rw [t.cellAt 0 (by omega)]; rfl
  have hg0 := t.frozenAt 0
  have t0 := (t.stored 0 (.string ⟨#[]⟩)).1
  obtain ⟨y0, hy0⟩ : ∃ w', v2.setCell ⟨w.heap.size, 0, none⟩ (.string ⟨#[]⟩) = w' := ⟨_, rfl⟩
  rw [hy0] at t0
  clear t
  have hr1 : y0.cell? ⟨w.heap.size, 1, none⟩ = some (.string ⟨#[]⟩) := by rw [t0.cellAt 1 (by omega)]; rfl
  have hg1 := t0.frozenAt 1
  have t1 := (t0.stored 1 (.string ⟨#[]⟩)).1
  obtain ⟨y1, hy1⟩ : ∃ w', y0.setCell ⟨w.heap.size, 1, none⟩ (.string ⟨#[]⟩) = w' := ⟨_, rfl⟩
  rw [hy1] at t1
  clear t0
  have hr2 : y1.cell? ⟨w.heap.size, 2, none⟩ = some (.slice none 0 0) := by rw [t1.cellAt 2 (by omega)]; rfl
  have hg2 := t1.frozenAt 2
  have t2 := (t1.stored 2 (.slice none 0 0)).1
  obtain ⟨y2, hy2⟩ : ∃ w', y1.setCell ⟨w.heap.size, 2, none⟩ (.slice none 0 0) = w' := ⟨_, rfl⟩
  rw [hy2] at t2
  clear t1
  have hr3 : y2.cell? ⟨w.heap.size, 3, none⟩ = some (.bool false) := by rw [t2.cellAt 3 (by omega)]; rfl
  have hg3 := t2.frozenAt 3
  have t3 := (t2.stored 3 (.bool true)).1
  obtain ⟨y3, hy3⟩ : ∃ w', y2.setCell ⟨w.heap.size, 3, none⟩ (.bool true) = w' := ⟨_, rfl⟩
  rw [hy3] at t3
  clear t2
  have hr4 : y3.cell? ⟨w.heap.size, 4, none⟩ = some (.int .i64 0) := by rw [t3.cellAt 4 (by omega)]; rfl
  have hg4 := t3.frozenAt 4
  have t4 := (t3.stored 4 (.int .i64 0)).1
  obtain ⟨y4, hy4⟩ : ∃ w', y3.setCell ⟨w.heap.size, 4, none⟩ (.int .i64 0) = w' := ⟨_, rfl⟩
  rw [hy4] at t4
  clear t3
  have hr5 : y4.cell? ⟨w.heap.size, 5, none⟩ = some (.int .i64 0) := by rw [t4.cellAt 5 (by omega)]; rfl
  have hg5 := t4.frozenAt 5
  have t5 := (t4.stored 5 (.int .i64 0)).1
  obtain ⟨y5, hy5⟩ : ∃ w', y4.setCell ⟨w.heap.size, 5, none⟩ (.int .i64 0) = w' := ⟨_, rfl⟩
  rw [hy5] at t5
  clear t4
  have hr6 : y5.cell? ⟨w.heap.size, 6, none⟩ = some (.slice none 0 0) := by rw [t5.cellAt 6 (by omega)]; rfl
  have hg6 := t5.frozenAt 6
  have t6 := (t5.stored 6 (.slice none 0 0)).1
  obtain ⟨y6, hy6⟩ : ∃ w', y5.setCell ⟨w.heap.size, 6, none⟩ (.slice none 0 0) = w' := ⟨_, rfl⟩
  rw [hy6] at t6
  clear t5
  have hr7 : y6.cell? ⟨w.heap.size, 7, none⟩ = some (.int .i64 0) := by rw [t6.cellAt 7 (by omega)]; rfl
  have hg7 := t6.frozenAt 7
  have t7 := (t6.stored 7 (.int .i64 (-1))).1
  obtain ⟨y7, hy7⟩ : ∃ w', y6.setCell ⟨w.heap.size, 7, none⟩ (.int .i64 (-1)) = w' := ⟨_, rfl⟩
  rw [hy7] at t7
  clear t6
  have hr8 : y7.cell? ⟨w.heap.size, 8, none⟩ = some (.int .i64 0) := by rw [t7.cellAt 8 (by omega)]; rfl
  have hg8 := t7.frozenAt 8
  have t8 := (t7.stored 8 (.int .i64 0)).1
  obtain ⟨y8, hy8⟩ : ∃ w', y7.setCell ⟨w.heap.size, 8, none⟩ (.int .i64 0) = w' := ⟨_, rfl⟩
  rw [hy8] at t8
  clear t7
  have hr9 : y8.cell? ⟨w.heap.size, 9, none⟩ = some (.slice none 0 0) := by rw [t8.cellAt 9 (by omega)]; rfl
  have hg9 := t8.frozenAt 9
  have t9 := (t8.stored 9 (.slice none 0 0)).1
  obtain ⟨y9, hy9⟩ : ∃ w', y8.setCell ⟨w.heap.size, 9, none⟩ (.slice none 0 0) = w' := ⟨_, rfl⟩
  rw [hy9] at t9
  clear t8
  have hr10 : y9.cell? ⟨w.heap.size, 10, none⟩ = some (.slice none 0 0) := by rw [t9.cellAt 10 (by omega)]; rfl
  have hg10 := t9.frozenAt 10
  have t10 := (t9.stored 10 (.slice none 0 0)).1
  obtain ⟨y10, hy10⟩ : ∃ w', y9.setCell ⟨w.heap.size, 10, none⟩ (.slice none 0 0) = w' := ⟨_, rfl⟩
  rw [hy10] at t10
  clear t9
  have hr11 : y10.cell? ⟨w.heap.size, 11, none⟩ = some (.slice none 0 0) := by rw [t10.cellAt 11 (by omega)]; rfl
  have hg11 := t10.frozenAt 11
  have t11 := (t10.stored 11 (.slice none 0 0)).1
  obtain ⟨y11, hy11⟩ : ∃ w', y10.setCell ⟨w.heap.size, 11, none⟩ (.slice none 0 0) = w' := ⟨_, rfl⟩
  rw [hy11] at t11
  clear t10
  have hr12 : y11.cell? ⟨w.heap.size, 12, none⟩ = some (.int .i64 0) := by rw [t11.cellAt 12 (by omega)]; rfl
  have hg12 := t11.frozenAt 12
  have t12 := (t11.stored 12 (.int .i64 (-1))).1
  obtain ⟨y12, hy12⟩ : ∃ w', y11.setCell ⟨w.heap.size, 12, none⟩ (.int .i64 (-1)) = w' := ⟨_, rfl⟩
  rw [hy12] at t12
  clear t11
  have hr13 : y12.cell? ⟨w.heap.size, 13, none⟩ = some (.int .i64 0) := by rw [t12.cellAt 13 (by omega)]; rfl
  have hg13 := t12.frozenAt 13
  have t13 := (t12.stored 13 (.int .i64 0)).1
  obtain ⟨y13, hy13⟩ : ∃ w', y12.setCell ⟨w.heap.size, 13, none⟩ (.int .i64 0) = w' := ⟨_, rfl⟩
  rw [hy13] at t13
  clear t12
  have on := OnlyAt.refl w.heap.size v2
  have on := on.setCell 0 (.string ⟨#[]⟩)
  rw [hy0] at on
  have on := on.setCell 1 (.string ⟨#[]⟩)
  rw [hy1] at on
  have on := on.setCell 2 (.slice none 0 0)
  rw [hy2] at on
  have on := on.setCell 3 (.bool true)
  rw [hy3] at on
  have on := on.setCell 4 (.int .i64 0)
  rw [hy4] at on
  have on := on.setCell 5 (.int .i64 0)
  rw [hy5] at on
  have on := on.setCell 6 (.slice none 0 0)
  rw [hy6] at on
  have on := on.setCell 7 (.int .i64 (-1))
  rw [hy7] at on
  have on := on.setCell 8 (.int .i64 0)
  rw [hy8] at on
  have on := on.setCell 9 (.slice none 0 0)
  rw [hy9] at on
  have on := on.setCell 10 (.slice none 0 0)
  rw [hy10] at on
  have on := on.setCell 11 (.slice none 0 0)
  rw [hy11] at on
  have on := on.setCell 12 (.int .i64 (-1))
  rw [hy12] at on
  have on := on.setCell 13 (.int .i64 0)
  rw [hy13] at on
  have z0 : y13.cell? ⟨w.heap.size, 0, none⟩ = some (.string ⟨#[]⟩) := by rw [t13.cellAt 0 (by omega)]; rfl
  have z1 : y13.cell? ⟨w.heap.size, 1, none⟩ = some (.string ⟨#[]⟩) := by rw [t13.cellAt 1 (by omega)]; rfl
  have z2 : y13.cell? ⟨w.heap.size, 2, none⟩ = some (.slice none 0 0) := by rw [t13.cellAt 2 (by omega)]; rfl
  have z3 : y13.cell? ⟨w.heap.size, 3, none⟩ = some (.bool true) := by rw [t13.cellAt 3 (by omega)]; rfl
  have z4 : y13.cell? ⟨w.heap.size, 4, none⟩ = some (.int .i64 0) := by rw [t13.cellAt 4 (by omega)]; rfl
  have z5 : y13.cell? ⟨w.heap.size, 5, none⟩ = some (.int .i64 0) := by rw [t13.cellAt 5 (by omega)]; rfl
  have z6 : y13.cell? ⟨w.heap.size, 6, none⟩ = some (.slice none 0 0) := by rw [t13.cellAt 6 (by omega)]; rfl
  have z7 : y13.cell? ⟨w.heap.size, 7, none⟩ = some (.int .i64 (-1)) := by rw [t13.cellAt 7 (by omega)]; rfl
  have z8 : y13.cell? ⟨w.heap.size, 8, none⟩ = some (.int .i64 0) := by rw [t13.cellAt 8 (by omega)]; rfl
  have z9 : y13.cell? ⟨w.heap.size, 9, none⟩ = some (.slice none 0 0) := by rw [t13.cellAt 9 (by omega)]; rfl
  have z10 : y13.cell? ⟨w.heap.size, 10, none⟩ = some (.slice none 0 0) := by rw [t13.cellAt 10 (by omega)]; rfl
  have z11 : y13.cell? ⟨w.heap.size, 11, none⟩ = some (.slice none 0 0) := by rw [t13.cellAt 11 (by omega)]; rfl
  have z12 : y13.cell? ⟨w.heap.size, 12, none⟩ = some (.int .i64 (-1)) := by rw [t13.cellAt 12 (by omega)]; rfl
  have z13 : y13.cell? ⟨w.heap.size, 13, none⟩ = some (.int .i64 0) := by rw [t13.cellAt 13 (by omega)]; rfl
  have RB := hide (c2.trans (on.below (Nat.le_refl _)))
  clear on t13 c2
  go_wp2_with fail
  refine bodyPost_ret (v := .agg #[.string ⟨#[]⟩, .string ⟨#[]⟩, .slice none 0 0, .bool true, .int .i64 0, .int .i64 0, .slice none 0 0, .int .i64 (-1), .int .i64 0, .slice none 0 0, .slice none 0 0, .slice none 0 0, .int .i64 (-1), .int .i64 0]) (by simp [results, Try.results4, go_sem, z0, z1, z2, z3, z4, z5, z6, z7, z8, z9, z10, z11, z12, z13]) rfl ⟨rfl, unhide RB⟩
end Go.Proofs.Ythcfhclaadggeaa.Won
