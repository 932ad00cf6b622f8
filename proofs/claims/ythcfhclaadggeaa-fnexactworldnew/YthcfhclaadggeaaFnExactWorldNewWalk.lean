/- FnExactWorldNew returns true. -/
import Derived.Test.YthcfhclaadggeaaWonNew
import Derived.Test.YthcfhclaadggeaaWonLaw
namespace Go.Proofs.Ythcfhclaadggeaa
open Go.RowKit Rw
set_option linter.unusedVariables false
theorem kept {w w' : World} (hb : Below w.heap.size w w') {b o : Nat} {v : Value} (hl : b < w.heap.size) (h : w.cell? ⟨b, o, none⟩ = some v) : w'.cell? ⟨b, o, none⟩ = some v := (hb.cell (p := ⟨b, o, none⟩) hl).trans h
set_option maxRecDepth 100000 in
set_option maxHeartbeats 16000000 in
theorem fnExactWorldNew.walk (w : World) : Calls Try.prog 3 #[] w fun e w' => e = .returned (.bool true) ∧ Below w.heap.size w w' := by
  go_enter Try.func3, Try.ntmps3
  go_wp2_with fail
  refine (Won.spec_won w).mono ?_
  rintro e v1 ⟨rfl, b1⟩
  have z1 := b1.size
  have c1 := (Below.refl w.heap.size w).trans (b1.mono (Below.refl w.heap.size w).size)
  clear b1
  obtain ⟨W1, hW1⟩ : ∃ w', v1.alloc (.cells #[.string ⟨#[]⟩, .string ⟨#[]⟩, .slice none 0 0, .bool false, .int .i64 0, .int .i64 0, .slice none 0 0, .int .i64 0, .int .i64 0, .slice none 0 0, .slice none 0 0, .slice none 0 0, .int .i64 0, .int .i64 0] 33) = w' := ⟨_, rfl⟩
  have aW1 : Below v1.heap.size v1 W1 := by rw [← hW1]; exact (Below.refl _ _).alloc (Nat.le_refl _) _
  have o1 : W1.ownsRow v1.heap.size 33 14 (.slice (some ⟨v1.heap.size, 0, none⟩) 1 1) 1 [.string ⟨#[]⟩, .string ⟨#[]⟩, .slice none 0 0, .bool false, .int .i64 0, .int .i64 0, .slice none 0 0, .int .i64 0, .int .i64 0, .slice none 0 0, .slice none 0 0, .slice none 0 0, .int .i64 0, .int .i64 0] := by rw [← hW1]; exact Won.own_new (Nat.le_refl _) rfl
  have hr1_0 : W1.cell? ⟨v1.heap.size, 0, none⟩ = some (.string ⟨#[]⟩) := by rw [o1.cellAt 0 (by omega)]; rfl
  have hg1_0 := o1.frozenAt 0
  have t1_0 := (o1.stored 0 (.string ⟨#[]⟩)).1
  obtain ⟨y1_0, hy1_0⟩ : ∃ w', W1.setCell ⟨v1.heap.size, 0, none⟩ (.string ⟨#[]⟩) = w' := ⟨_, rfl⟩
  rw [hy1_0] at t1_0
  clear o1
  have hr1_1 : y1_0.cell? ⟨v1.heap.size, 1, none⟩ = some (.string ⟨#[]⟩) := by rw [t1_0.cellAt 1 (by omega)]; rfl
  have hg1_1 := t1_0.frozenAt 1
  have t1_1 := (t1_0.stored 1 (.string ⟨#[]⟩)).1
  obtain ⟨y1_1, hy1_1⟩ : ∃ w', y1_0.setCell ⟨v1.heap.size, 1, none⟩ (.string ⟨#[]⟩) = w' := ⟨_, rfl⟩
  rw [hy1_1] at t1_1
  clear t1_0
  have hr1_2 : y1_1.cell? ⟨v1.heap.size, 2, none⟩ = some (.slice none 0 0) := by rw [t1_1.cellAt 2 (by omega)]; rfl
  have hg1_2 := t1_1.frozenAt 2
  have t1_2 := (t1_1.stored 2 (.slice none 0 0)).1
  obtain ⟨y1_2, hy1_2⟩ : ∃ w', y1_1.setCell ⟨v1.heap.size, 2, none⟩ (.slice none 0 0) = w' := ⟨_, rfl⟩
  rw [hy1_2] at t1_2
  clear t1_1
  have hr1_3 : y1_2.cell? ⟨v1.heap.size, 3, none⟩ = some (.bool false) := by rw [t1_2.cellAt 3 (by omega)]; rfl
  have hg1_3 := t1_2.frozenAt 3
  have t1_3 := (t1_2.stored 3 (.bool true)).1
  obtain ⟨y1_3, hy1_3⟩ : ∃ w', y1_2.setCell ⟨v1.heap.size, 3, none⟩ (.bool true) = w' := ⟨_, rfl⟩
  rw [hy1_3] at t1_3
  clear t1_2
  have hr1_4 : y1_3.cell? ⟨v1.heap.size, 4, none⟩ = some (.int .i64 0) := by rw [t1_3.cellAt 4 (by omega)]; rfl
  have hg1_4 := t1_3.frozenAt 4
  have t1_4 := (t1_3.stored 4 (.int .i64 0)).1
  obtain ⟨y1_4, hy1_4⟩ : ∃ w', y1_3.setCell ⟨v1.heap.size, 4, none⟩ (.int .i64 0) = w' := ⟨_, rfl⟩
  rw [hy1_4] at t1_4
  clear t1_3
  have hr1_5 : y1_4.cell? ⟨v1.heap.size, 5, none⟩ = some (.int .i64 0) := by rw [t1_4.cellAt 5 (by omega)]; rfl
  have hg1_5 := t1_4.frozenAt 5
  have t1_5 := (t1_4.stored 5 (.int .i64 0)).1
  obtain ⟨y1_5, hy1_5⟩ : ∃ w', y1_4.setCell ⟨v1.heap.size, 5, none⟩ (.int .i64 0) = w' := ⟨_, rfl⟩
  rw [hy1_5] at t1_5
  clear t1_4
  have hr1_6 : y1_5.cell? ⟨v1.heap.size, 6, none⟩ = some (.slice none 0 0) := by rw [t1_5.cellAt 6 (by omega)]; rfl
  have hg1_6 := t1_5.frozenAt 6
  have t1_6 := (t1_5.stored 6 (.slice none 0 0)).1
  obtain ⟨y1_6, hy1_6⟩ : ∃ w', y1_5.setCell ⟨v1.heap.size, 6, none⟩ (.slice none 0 0) = w' := ⟨_, rfl⟩
  rw [hy1_6] at t1_6
  clear t1_5
  have hr1_7 : y1_6.cell? ⟨v1.heap.size, 7, none⟩ = some (.int .i64 0) := by rw [t1_6.cellAt 7 (by omega)]; rfl
  have hg1_7 := t1_6.frozenAt 7
  have t1_7 := (t1_6.stored 7 (.int .i64 (-1))).1
  obtain ⟨y1_7, hy1_7⟩ : ∃ w', y1_6.setCell ⟨v1.heap.size, 7, none⟩ (.int .i64 (-1)) = w' := ⟨_, rfl⟩
  rw [hy1_7] at t1_7
  clear t1_6
  have hr1_8 : y1_7.cell? ⟨v1.heap.size, 8, none⟩ = some (.int .i64 0) := by rw [t1_7.cellAt 8 (by omega)]; rfl
  have hg1_8 := t1_7.frozenAt 8
  have t1_8 := (t1_7.stored 8 (.int .i64 0)).1
  obtain ⟨y1_8, hy1_8⟩ : ∃ w', y1_7.setCell ⟨v1.heap.size, 8, none⟩ (.int .i64 0) = w' := ⟨_, rfl⟩
  rw [hy1_8] at t1_8
  clear t1_7
  have hr1_9 : y1_8.cell? ⟨v1.heap.size, 9, none⟩ = some (.slice none 0 0) := by rw [t1_8.cellAt 9 (by omega)]; rfl
  have hg1_9 := t1_8.frozenAt 9
  have t1_9 := (t1_8.stored 9 (.slice none 0 0)).1
  obtain ⟨y1_9, hy1_9⟩ : ∃ w', y1_8.setCell ⟨v1.heap.size, 9, none⟩ (.slice none 0 0) = w' := ⟨_, rfl⟩
  rw [hy1_9] at t1_9
  clear t1_8
  have hr1_10 : y1_9.cell? ⟨v1.heap.size, 10, none⟩ = some (.slice none 0 0) := by rw [t1_9.cellAt 10 (by omega)]; rfl
  have hg1_10 := t1_9.frozenAt 10
  have t1_10 := (t1_9.stored 10 (.slice none 0 0)).1
  obtain ⟨y1_10, hy1_10⟩ : ∃ w', y1_9.setCell ⟨v1.heap.size, 10, none⟩ (.slice none 0 0) = w' := ⟨_, rfl⟩
  rw [hy1_10] at t1_10
  clear t1_9
  have hr1_11 : y1_10.cell? ⟨v1.heap.size, 11, none⟩ = some (.slice none 0 0) := by rw [t1_10.cellAt 11 (by omega)]; rfl
  have hg1_11 := t1_10.frozenAt 11
  have t1_11 := (t1_10.stored 11 (.slice none 0 0)).1
  obtain ⟨y1_11, hy1_11⟩ : ∃ w', y1_10.setCell ⟨v1.heap.size, 11, none⟩ (.slice none 0 0) = w' := ⟨_, rfl⟩
  rw [hy1_11] at t1_11
  clear t1_10
  have hr1_12 : y1_11.cell? ⟨v1.heap.size, 12, none⟩ = some (.int .i64 0) := by rw [t1_11.cellAt 12 (by omega)]; rfl
  have hg1_12 := t1_11.frozenAt 12
  have t1_12 := (t1_11.stored 12 (.int .i64 (-1))).1
  obtain ⟨y1_12, hy1_12⟩ : ∃ w', y1_11.setCell ⟨v1.heap.size, 12, none⟩ (.int .i64 (-1)) = w' := ⟨_, rfl⟩
  rw [hy1_12] at t1_12
  clear t1_11
  have hr1_13 : y1_12.cell? ⟨v1.heap.size, 13, none⟩ = some (.int .i64 0) := by rw [t1_12.cellAt 13 (by omega)]; rfl
  have hg1_13 := t1_12.frozenAt 13
  have t1_13 := (t1_12.stored 13 (.int .i64 0)).1
  obtain ⟨u1, hy1_13⟩ : ∃ w', y1_12.setCell ⟨v1.heap.size, 13, none⟩ (.int .i64 0) = w' := ⟨_, rfl⟩
  rw [hy1_13] at t1_13
  clear t1_12
  have on1 := OnlyAt.refl v1.heap.size W1
  have on1 := on1.setCell 0 (.string ⟨#[]⟩)
  rw [hy1_0] at on1
  have on1 := on1.setCell 1 (.string ⟨#[]⟩)
  rw [hy1_1] at on1
  have on1 := on1.setCell 2 (.slice none 0 0)
  rw [hy1_2] at on1
  have on1 := on1.setCell 3 (.bool true)
  rw [hy1_3] at on1
  have on1 := on1.setCell 4 (.int .i64 0)
  rw [hy1_4] at on1
  have on1 := on1.setCell 5 (.int .i64 0)
  rw [hy1_5] at on1
  have on1 := on1.setCell 6 (.slice none 0 0)
  rw [hy1_6] at on1
  have on1 := on1.setCell 7 (.int .i64 (-1))
  rw [hy1_7] at on1
  have on1 := on1.setCell 8 (.int .i64 0)
  rw [hy1_8] at on1
  have on1 := on1.setCell 9 (.slice none 0 0)
  rw [hy1_9] at on1
  have on1 := on1.setCell 10 (.slice none 0 0)
  rw [hy1_10] at on1
  have on1 := on1.setCell 11 (.slice none 0 0)
  rw [hy1_11] at on1
  have on1 := on1.setCell 12 (.int .i64 (-1))
  rw [hy1_12] at on1
  have on1 := on1.setCell 13 (.int .i64 0)
  rw [hy1_13] at on1
  have a1 : Below v1.heap.size v1 u1 := aW1.trans (on1.below (Nat.le_refl _))
  have zu1 : v1.heap.size < u1.heap.size := own_lt t1_13
  clear on1 aW1
  have h1_0_1 : u1.cell? ⟨v1.heap.size, 0, none⟩ = some (.string ⟨#[]⟩) := by rw [t1_13.cellAt 0 (by omega)]; rfl
  have h1_1_1 : u1.cell? ⟨v1.heap.size, 1, none⟩ = some (.string ⟨#[]⟩) := by rw [t1_13.cellAt 1 (by omega)]; rfl
  have h1_2_1 : u1.cell? ⟨v1.heap.size, 2, none⟩ = some (.slice none 0 0) := by rw [t1_13.cellAt 2 (by omega)]; rfl
  have h1_3_1 : u1.cell? ⟨v1.heap.size, 3, none⟩ = some (.bool true) := by rw [t1_13.cellAt 3 (by omega)]; rfl
  have h1_4_1 : u1.cell? ⟨v1.heap.size, 4, none⟩ = some (.int .i64 0) := by rw [t1_13.cellAt 4 (by omega)]; rfl
  have h1_5_1 : u1.cell? ⟨v1.heap.size, 5, none⟩ = some (.int .i64 0) := by rw [t1_13.cellAt 5 (by omega)]; rfl
  have h1_6_1 : u1.cell? ⟨v1.heap.size, 6, none⟩ = some (.slice none 0 0) := by rw [t1_13.cellAt 6 (by omega)]; rfl
  have h1_7_1 : u1.cell? ⟨v1.heap.size, 7, none⟩ = some (.int .i64 (-1)) := by rw [t1_13.cellAt 7 (by omega)]; rfl
  have h1_8_1 : u1.cell? ⟨v1.heap.size, 8, none⟩ = some (.int .i64 0) := by rw [t1_13.cellAt 8 (by omega)]; rfl
  have h1_9_1 : u1.cell? ⟨v1.heap.size, 9, none⟩ = some (.slice none 0 0) := by rw [t1_13.cellAt 9 (by omega)]; rfl
  have h1_10_1 : u1.cell? ⟨v1.heap.size, 10, none⟩ = some (.slice none 0 0) := by rw [t1_13.cellAt 10 (by omega)]; rfl
  have h1_11_1 : u1.cell? ⟨v1.heap.size, 11, none⟩ = some (.slice none 0 0) := by rw [t1_13.cellAt 11 (by omega)]; rfl
  have h1_12_1 : u1.cell? ⟨v1.heap.size, 12, none⟩ = some (.int .i64 (-1)) := by rw [t1_13.cellAt 12 (by omega)]; rfl
  have h1_13_1 : u1.cell? ⟨v1.heap.size, 13, none⟩ = some (.int .i64 0) := by rw [t1_13.cellAt 13 (by omega)]; rfl
  have C1 : Below w.heap.size w u1 := c1.trans (a1.mono c1.size)
  clear t1_13
  go_wp2_with fail
  clear hW1 hr1_0 hg1_0 hy1_0 hr1_1 hg1_1 hy1_1 hr1_2 hg1_2 hy1_2 hr1_3 hg1_3 hy1_3 hr1_4 hg1_4 hy1_4 hr1_5 hg1_5 hy1_5 hr1_6 hg1_6 hy1_6 hr1_7 hg1_7 hy1_7 hr1_8 hg1_8 hy1_8 hr1_9 hg1_9 hy1_9 hr1_10 hg1_10 hy1_10 hr1_11 hg1_11 hy1_11 hr1_12 hg1_12 hy1_12 hr1_13 hg1_13 hy1_13
  refine (Won.impl_won u1).mono ?_
  rintro e v2 ⟨rfl, b2⟩
  have z2 := b2.size
  have c2 := C1.trans (b2.mono C1.size)
  have h1_0_2 := kept b2 (show v1.heap.size < _ by omega) h1_0_1
  have h1_1_2 := kept b2 (show v1.heap.size < _ by omega) h1_1_1
  have h1_2_2 := kept b2 (show v1.heap.size < _ by omega) h1_2_1
  have h1_3_2 := kept b2 (show v1.heap.size < _ by omega) h1_3_1
  have h1_4_2 := kept b2 (show v1.heap.size < _ by omega) h1_4_1
  have h1_5_2 := kept b2 (show v1.heap.size < _ by omega) h1_5_1
  have h1_6_2 := kept b2 (show v1.heap.size < _ by omega) h1_6_1
  have h1_7_2 := kept b2 (show v1.heap.size < _ by omega) h1_7_1
  have h1_8_2 := kept b2 (show v1.heap.size < _ by omega) h1_8_1
  have h1_9_2 := kept b2 (show v1.heap.size < _ by omega) h1_9_1
  have h1_10_2 := kept b2 (show v1.heap.size < _ by omega) h1_10_1
  have h1_11_2 := kept b2 (show v1.heap.size < _ by omega) h1_11_1
  have h1_12_2 := kept b2 (show v1.heap.size < _ by omega) h1_12_1
  have h1_13_2 := kept b2 (show v1.heap.size < _ by omega) h1_13_1
  clear h1_0_1 h1_1_1 h1_2_1 h1_3_1 h1_4_1 h1_5_1 h1_6_1 h1_7_1 h1_8_1 h1_9_1 h1_10_1 h1_11_1 h1_12_1 h1_13_1
  clear b2
  obtain ⟨W2, hW2⟩ : ∃ w', v2.alloc (.cells #[.string ⟨#[]⟩, .string ⟨#[]⟩, .slice none 0 0, .bool false, .int .i64 0, .int .i64 0, .slice none 0 0, .int .i64 0, .int .i64 0, .slice none 0 0, .slice none 0 0, .slice none 0 0, .int .i64 0, .int .i64 0] 33) = w' := ⟨_, rfl⟩
  have aW2 : Below v2.heap.size v2 W2 := by rw [← hW2]; exact (Below.refl _ _).alloc (Nat.le_refl _) _
  have o2 : W2.ownsRow v2.heap.size 33 14 (.slice (some ⟨v2.heap.size, 0, none⟩) 1 1) 1 [.string ⟨#[]⟩, .string ⟨#[]⟩, .slice none 0 0, .bool false, .int .i64 0, .int .i64 0, .slice none 0 0, .int .i64 0, .int .i64 0, .slice none 0 0, .slice none 0 0, .slice none 0 0, .int .i64 0, .int .i64 0] := by rw [← hW2]; exact Won.own_new (Nat.le_refl _) rfl
  have hr2_0 : W2.cell? ⟨v2.heap.size, 0, none⟩ = some (.string ⟨#[]⟩) := by rw [o2.cellAt 0 (by omega)]; rfl
  have hg2_0 := o2.frozenAt 0
  have t2_0 := (o2.stored 0 (.string ⟨#[]⟩)).1
  obtain ⟨y2_0, hy2_0⟩ : ∃ w', W2.setCell ⟨v2.heap.size, 0, none⟩ (.string ⟨#[]⟩) = w' := ⟨_, rfl⟩
  rw [hy2_0] at t2_0
  clear o2
  have hr2_1 : y2_0.cell? ⟨v2.heap.size, 1, none⟩ = some (.string ⟨#[]⟩) := by rw [t2_0.cellAt 1 (by omega)]; rfl
  have hg2_1 := t2_0.frozenAt 1
  have t2_1 := (t2_0.stored 1 (.string ⟨#[]⟩)).1
  obtain ⟨y2_1, hy2_1⟩ : ∃ w', y2_0.setCell ⟨v2.heap.size, 1, none⟩ (.string ⟨#[]⟩) = w' := ⟨_, rfl⟩
  rw [hy2_1] at t2_1
  clear t2_0
  have hr2_2 : y2_1.cell? ⟨v2.heap.size, 2, none⟩ = some (.slice none 0 0) := by rw [t2_1.cellAt 2 (by omega)]; rfl
  have hg2_2 := t2_1.frozenAt 2
  have t2_2 := (t2_1.stored 2 (.slice none 0 0)).1
  obtain ⟨y2_2, hy2_2⟩ : ∃ w', y2_1.setCell ⟨v2.heap.size, 2, none⟩ (.slice none 0 0) = w' := ⟨_, rfl⟩
  rw [hy2_2] at t2_2
  clear t2_1
  have hr2_3 : y2_2.cell? ⟨v2.heap.size, 3, none⟩ = some (.bool false) := by rw [t2_2.cellAt 3 (by omega)]; rfl
  have hg2_3 := t2_2.frozenAt 3
  have t2_3 := (t2_2.stored 3 (.bool true)).1
  obtain ⟨y2_3, hy2_3⟩ : ∃ w', y2_2.setCell ⟨v2.heap.size, 3, none⟩ (.bool true) = w' := ⟨_, rfl⟩
  rw [hy2_3] at t2_3
  clear t2_2
  have hr2_4 : y2_3.cell? ⟨v2.heap.size, 4, none⟩ = some (.int .i64 0) := by rw [t2_3.cellAt 4 (by omega)]; rfl
  have hg2_4 := t2_3.frozenAt 4
  have t2_4 := (t2_3.stored 4 (.int .i64 0)).1
  obtain ⟨y2_4, hy2_4⟩ : ∃ w', y2_3.setCell ⟨v2.heap.size, 4, none⟩ (.int .i64 0) = w' := ⟨_, rfl⟩
  rw [hy2_4] at t2_4
  clear t2_3
  have hr2_5 : y2_4.cell? ⟨v2.heap.size, 5, none⟩ = some (.int .i64 0) := by rw [t2_4.cellAt 5 (by omega)]; rfl
  have hg2_5 := t2_4.frozenAt 5
  have t2_5 := (t2_4.stored 5 (.int .i64 0)).1
  obtain ⟨y2_5, hy2_5⟩ : ∃ w', y2_4.setCell ⟨v2.heap.size, 5, none⟩ (.int .i64 0) = w' := ⟨_, rfl⟩
  rw [hy2_5] at t2_5
  clear t2_4
  have hr2_6 : y2_5.cell? ⟨v2.heap.size, 6, none⟩ = some (.slice none 0 0) := by rw [t2_5.cellAt 6 (by omega)]; rfl
  have hg2_6 := t2_5.frozenAt 6
  have t2_6 := (t2_5.stored 6 (.slice none 0 0)).1
  obtain ⟨y2_6, hy2_6⟩ : ∃ w', y2_5.setCell ⟨v2.heap.size, 6, none⟩ (.slice none 0 0) = w' := ⟨_, rfl⟩
  rw [hy2_6] at t2_6
  clear t2_5
  have hr2_7 : y2_6.cell? ⟨v2.heap.size, 7, none⟩ = some (.int .i64 0) := by rw [t2_6.cellAt 7 (by omega)]; rfl
  have hg2_7 := t2_6.frozenAt 7
  have t2_7 := (t2_6.stored 7 (.int .i64 (-1))).1
  obtain ⟨y2_7, hy2_7⟩ : ∃ w', y2_6.setCell ⟨v2.heap.size, 7, none⟩ (.int .i64 (-1)) = w' := ⟨_, rfl⟩
  rw [hy2_7] at t2_7
  clear t2_6
  have hr2_8 : y2_7.cell? ⟨v2.heap.size, 8, none⟩ = some (.int .i64 0) := by rw [t2_7.cellAt 8 (by omega)]; rfl
  have hg2_8 := t2_7.frozenAt 8
  have t2_8 := (t2_7.stored 8 (.int .i64 0)).1
  obtain ⟨y2_8, hy2_8⟩ : ∃ w', y2_7.setCell ⟨v2.heap.size, 8, none⟩ (.int .i64 0) = w' := ⟨_, rfl⟩
  rw [hy2_8] at t2_8
  clear t2_7
  have hr2_9 : y2_8.cell? ⟨v2.heap.size, 9, none⟩ = some (.slice none 0 0) := by rw [t2_8.cellAt 9 (by omega)]; rfl
  have hg2_9 := t2_8.frozenAt 9
  have t2_9 := (t2_8.stored 9 (.slice none 0 0)).1
  obtain ⟨y2_9, hy2_9⟩ : ∃ w', y2_8.setCell ⟨v2.heap.size, 9, none⟩ (.slice none 0 0) = w' := ⟨_, rfl⟩
  rw [hy2_9] at t2_9
  clear t2_8
  have hr2_10 : y2_9.cell? ⟨v2.heap.size, 10, none⟩ = some (.slice none 0 0) := by rw [t2_9.cellAt 10 (by omega)]; rfl
  have hg2_10 := t2_9.frozenAt 10
  have t2_10 := (t2_9.stored 10 (.slice none 0 0)).1
  obtain ⟨y2_10, hy2_10⟩ : ∃ w', y2_9.setCell ⟨v2.heap.size, 10, none⟩ (.slice none 0 0) = w' := ⟨_, rfl⟩
  rw [hy2_10] at t2_10
  clear t2_9
  have hr2_11 : y2_10.cell? ⟨v2.heap.size, 11, none⟩ = some (.slice none 0 0) := by rw [t2_10.cellAt 11 (by omega)]; rfl
  have hg2_11 := t2_10.frozenAt 11
  have t2_11 := (t2_10.stored 11 (.slice none 0 0)).1
  obtain ⟨y2_11, hy2_11⟩ : ∃ w', y2_10.setCell ⟨v2.heap.size, 11, none⟩ (.slice none 0 0) = w' := ⟨_, rfl⟩
  rw [hy2_11] at t2_11
  clear t2_10
  have hr2_12 : y2_11.cell? ⟨v2.heap.size, 12, none⟩ = some (.int .i64 0) := by rw [t2_11.cellAt 12 (by omega)]; rfl
  have hg2_12 := t2_11.frozenAt 12
  have t2_12 := (t2_11.stored 12 (.int .i64 (-1))).1
  obtain ⟨y2_12, hy2_12⟩ : ∃ w', y2_11.setCell ⟨v2.heap.size, 12, none⟩ (.int .i64 (-1)) = w' := ⟨_, rfl⟩
  rw [hy2_12] at t2_12
  clear t2_11
  have hr2_13 : y2_12.cell? ⟨v2.heap.size, 13, none⟩ = some (.int .i64 0) := by rw [t2_12.cellAt 13 (by omega)]; rfl
  have hg2_13 := t2_12.frozenAt 13
  have t2_13 := (t2_12.stored 13 (.int .i64 0)).1
  obtain ⟨u2, hy2_13⟩ : ∃ w', y2_12.setCell ⟨v2.heap.size, 13, none⟩ (.int .i64 0) = w' := ⟨_, rfl⟩
  rw [hy2_13] at t2_13
  clear t2_12
  have on2 := OnlyAt.refl v2.heap.size W2
  have on2 := on2.setCell 0 (.string ⟨#[]⟩)
  rw [hy2_0] at on2
  have on2 := on2.setCell 1 (.string ⟨#[]⟩)
  rw [hy2_1] at on2
  have on2 := on2.setCell 2 (.slice none 0 0)
  rw [hy2_2] at on2
  have on2 := on2.setCell 3 (.bool true)
  rw [hy2_3] at on2
  have on2 := on2.setCell 4 (.int .i64 0)
  rw [hy2_4] at on2
  have on2 := on2.setCell 5 (.int .i64 0)
  rw [hy2_5] at on2
  have on2 := on2.setCell 6 (.slice none 0 0)
  rw [hy2_6] at on2
  have on2 := on2.setCell 7 (.int .i64 (-1))
  rw [hy2_7] at on2
  have on2 := on2.setCell 8 (.int .i64 0)
  rw [hy2_8] at on2
  have on2 := on2.setCell 9 (.slice none 0 0)
  rw [hy2_9] at on2
  have on2 := on2.setCell 10 (.slice none 0 0)
  rw [hy2_10] at on2
  have on2 := on2.setCell 11 (.slice none 0 0)
  rw [hy2_11] at on2
  have on2 := on2.setCell 12 (.int .i64 (-1))
  rw [hy2_12] at on2
  have on2 := on2.setCell 13 (.int .i64 0)
  rw [hy2_13] at on2
  have a2 : Below v2.heap.size v2 u2 := aW2.trans (on2.below (Nat.le_refl _))
  have zu2 : v2.heap.size < u2.heap.size := own_lt t2_13
  clear on2 aW2
  have i1_0 := kept a2 (show v1.heap.size < _ by omega) h1_0_2
  have i1_1 := kept a2 (show v1.heap.size < _ by omega) h1_1_2
  have i1_2 := kept a2 (show v1.heap.size < _ by omega) h1_2_2
  have i1_3 := kept a2 (show v1.heap.size < _ by omega) h1_3_2
  have i1_4 := kept a2 (show v1.heap.size < _ by omega) h1_4_2
  have i1_5 := kept a2 (show v1.heap.size < _ by omega) h1_5_2
  have i1_6 := kept a2 (show v1.heap.size < _ by omega) h1_6_2
  have i1_7 := kept a2 (show v1.heap.size < _ by omega) h1_7_2
  have i1_8 := kept a2 (show v1.heap.size < _ by omega) h1_8_2
  have i1_9 := kept a2 (show v1.heap.size < _ by omega) h1_9_2
  have i1_10 := kept a2 (show v1.heap.size < _ by omega) h1_10_2
  have i1_11 := kept a2 (show v1.heap.size < _ by omega) h1_11_2
  have i1_12 := kept a2 (show v1.heap.size < _ by omega) h1_12_2
  have i1_13 := kept a2 (show v1.heap.size < _ by omega) h1_13_2
  clear h1_0_2 h1_1_2 h1_2_2 h1_3_2 h1_4_2 h1_5_2 h1_6_2 h1_7_2 h1_8_2 h1_9_2 h1_10_2 h1_11_2 h1_12_2 h1_13_2
  have h1_0_2 := i1_0
  clear i1_0
  have h1_1_2 := i1_1
  clear i1_1
  have h1_2_2 := i1_2
  clear i1_2
  have h1_3_2 := i1_3
  clear i1_3
  have h1_4_2 := i1_4
  clear i1_4
  have h1_5_2 := i1_5
  clear i1_5
  have h1_6_2 := i1_6
  clear i1_6
  have h1_7_2 := i1_7
  clear i1_7
  have h1_8_2 := i1_8
  clear i1_8
  have h1_9_2 := i1_9
  clear i1_9
  have h1_10_2 := i1_10
  clear i1_10
  have h1_11_2 := i1_11
  clear i1_11
  have h1_12_2 := i1_12
  clear i1_12
  have h1_13_2 := i1_13
  clear i1_13
  have h2_0_2 : u2.cell? ⟨v2.heap.size, 0, none⟩ = some (.string ⟨#[]⟩) := by rw [t2_13.cellAt 0 (by omega)]; rfl
  have h2_1_2 : u2.cell? ⟨v2.heap.size, 1, none⟩ = some (.string ⟨#[]⟩) := by rw [t2_13.cellAt 1 (by omega)]; rfl
  have h2_2_2 : u2.cell? ⟨v2.heap.size, 2, none⟩ = some (.slice none 0 0) := by rw [t2_13.cellAt 2 (by omega)]; rfl
  have h2_3_2 : u2.cell? ⟨v2.heap.size, 3, none⟩ = some (.bool true) := by rw [t2_13.cellAt 3 (by omega)]; rfl
  have h2_4_2 : u2.cell? ⟨v2.heap.size, 4, none⟩ = some (.int .i64 0) := by rw [t2_13.cellAt 4 (by omega)]; rfl
  have h2_5_2 : u2.cell? ⟨v2.heap.size, 5, none⟩ = some (.int .i64 0) := by rw [t2_13.cellAt 5 (by omega)]; rfl
  have h2_6_2 : u2.cell? ⟨v2.heap.size, 6, none⟩ = some (.slice none 0 0) := by rw [t2_13.cellAt 6 (by omega)]; rfl
  have h2_7_2 : u2.cell? ⟨v2.heap.size, 7, none⟩ = some (.int .i64 (-1)) := by rw [t2_13.cellAt 7 (by omega)]; rfl
  have h2_8_2 : u2.cell? ⟨v2.heap.size, 8, none⟩ = some (.int .i64 0) := by rw [t2_13.cellAt 8 (by omega)]; rfl
  have h2_9_2 : u2.cell? ⟨v2.heap.size, 9, none⟩ = some (.slice none 0 0) := by rw [t2_13.cellAt 9 (by omega)]; rfl
  have h2_10_2 : u2.cell? ⟨v2.heap.size, 10, none⟩ = some (.slice none 0 0) := by rw [t2_13.cellAt 10 (by omega)]; rfl
  have h2_11_2 : u2.cell? ⟨v2.heap.size, 11, none⟩ = some (.slice none 0 0) := by rw [t2_13.cellAt 11 (by omega)]; rfl
  have h2_12_2 : u2.cell? ⟨v2.heap.size, 12, none⟩ = some (.int .i64 (-1)) := by rw [t2_13.cellAt 12 (by omega)]; rfl
  have h2_13_2 : u2.cell? ⟨v2.heap.size, 13, none⟩ = some (.int .i64 0) := by rw [t2_13.cellAt 13 (by omega)]; rfl
  have C2 : Below w.heap.size w u2 := c2.trans (a2.mono c2.size)
  clear t2_13
  go_wp2_with fail
  clear hW2 hr2_0 hg2_0 hy2_0 hr2_1 hg2_1 hy2_1 hr2_2 hg2_2 hy2_2 hr2_3 hg2_3 hy2_3 hr2_4 hg2_4 hy2_4 hr2_5 hg2_5 hy2_5 hr2_6 hg2_6 hy2_6 hr2_7 hg2_7 hy2_7 hr2_8 hg2_8 hy2_8 hr2_9 hg2_9 hy2_9 hr2_10 hg2_10 hy2_10 hr2_11 hg2_11 hy2_11 hr2_12 hg2_12 hy2_12 hr2_13 hg2_13 hy2_13
  refine (Won.eqWor u2).mono ?_
  rintro e v3 ⟨rfl, b3⟩
  have z3 := b3.size
  have c3 := C2.trans (b3.mono C2.size)
  have h1_0_3 := kept b3 (show v1.heap.size < _ by omega) h1_0_2
  have h1_1_3 := kept b3 (show v1.heap.size < _ by omega) h1_1_2
  have h1_2_3 := kept b3 (show v1.heap.size < _ by omega) h1_2_2
  have h1_3_3 := kept b3 (show v1.heap.size < _ by omega) h1_3_2
  have h1_4_3 := kept b3 (show v1.heap.size < _ by omega) h1_4_2
  have h1_5_3 := kept b3 (show v1.heap.size < _ by omega) h1_5_2
  have h1_6_3 := kept b3 (show v1.heap.size < _ by omega) h1_6_2
  have h1_7_3 := kept b3 (show v1.heap.size < _ by omega) h1_7_2
  have h1_8_3 := kept b3 (show v1.heap.size < _ by omega) h1_8_2
  have h1_9_3 := kept b3 (show v1.heap.size < _ by omega) h1_9_2
  have h1_10_3 := kept b3 (show v1.heap.size < _ by omega) h1_10_2
  have h1_11_3 := kept b3 (show v1.heap.size < _ by omega) h1_11_2
  have h1_12_3 := kept b3 (show v1.heap.size < _ by omega) h1_12_2
  have h1_13_3 := kept b3 (show v1.heap.size < _ by omega) h1_13_2
  clear h1_0_2 h1_1_2 h1_2_2 h1_3_2 h1_4_2 h1_5_2 h1_6_2 h1_7_2 h1_8_2 h1_9_2 h1_10_2 h1_11_2 h1_12_2 h1_13_2
  have h2_0_3 := kept b3 (show v2.heap.size < _ by omega) h2_0_2
  have h2_1_3 := kept b3 (show v2.heap.size < _ by omega) h2_1_2
  have h2_2_3 := kept b3 (show v2.heap.size < _ by omega) h2_2_2
  have h2_3_3 := kept b3 (show v2.heap.size < _ by omega) h2_3_2
  have h2_4_3 := kept b3 (show v2.heap.size < _ by omega) h2_4_2
  have h2_5_3 := kept b3 (show v2.heap.size < _ by omega) h2_5_2
  have h2_6_3 := kept b3 (show v2.heap.size < _ by omega) h2_6_2
  have h2_7_3 := kept b3 (show v2.heap.size < _ by omega) h2_7_2
  have h2_8_3 := kept b3 (show v2.heap.size < _ by omega) h2_8_2
  have h2_9_3 := kept b3 (show v2.heap.size < _ by omega) h2_9_2
  have h2_10_3 := kept b3 (show v2.heap.size < _ by omega) h2_10_2
  have h2_11_3 := kept b3 (show v2.heap.size < _ by omega) h2_11_2
  have h2_12_3 := kept b3 (show v2.heap.size < _ by omega) h2_12_2
  have h2_13_3 := kept b3 (show v2.heap.size < _ by omega) h2_13_2
  clear h2_0_2 h2_1_2 h2_2_2 h2_3_2 h2_4_2 h2_5_2 h2_6_2 h2_7_2 h2_8_2 h2_9_2 h2_10_2 h2_11_2 h2_12_2 h2_13_2
  clear b3
  go_wp2_with fail
  refine (Won.markWor v3).mono ?_
  rintro e v4 ⟨rfl, b4⟩
  have z4 := b4.size
  have c4 := c3.trans (b4.mono c3.size)
  have h1_0_4 := kept b4 (show v1.heap.size < _ by omega) h1_0_3
  have h1_1_4 := kept b4 (show v1.heap.size < _ by omega) h1_1_3
  have h1_2_4 := kept b4 (show v1.heap.size < _ by omega) h1_2_3
  have h1_3_4 := kept b4 (show v1.heap.size < _ by omega) h1_3_3
  have h1_4_4 := kept b4 (show v1.heap.size < _ by omega) h1_4_3
  have h1_5_4 := kept b4 (show v1.heap.size < _ by omega) h1_5_3
  have h1_6_4 := kept b4 (show v1.heap.size < _ by omega) h1_6_3
  have h1_7_4 := kept b4 (show v1.heap.size < _ by omega) h1_7_3
  have h1_8_4 := kept b4 (show v1.heap.size < _ by omega) h1_8_3
  have h1_9_4 := kept b4 (show v1.heap.size < _ by omega) h1_9_3
  have h1_10_4 := kept b4 (show v1.heap.size < _ by omega) h1_10_3
  have h1_11_4 := kept b4 (show v1.heap.size < _ by omega) h1_11_3
  have h1_12_4 := kept b4 (show v1.heap.size < _ by omega) h1_12_3
  have h1_13_4 := kept b4 (show v1.heap.size < _ by omega) h1_13_3
  clear h1_0_3 h1_1_3 h1_2_3 h1_3_3 h1_4_3 h1_5_3 h1_6_3 h1_7_3 h1_8_3 h1_9_3 h1_10_3 h1_11_3 h1_12_3 h1_13_3
  have h2_0_4 := kept b4 (show v2.heap.size < _ by omega) h2_0_3
  have h2_1_4 := kept b4 (show v2.heap.size < _ by omega) h2_1_3
  have h2_2_4 := kept b4 (show v2.heap.size < _ by omega) h2_2_3
  have h2_3_4 := kept b4 (show v2.heap.size < _ by omega) h2_3_3
  have h2_4_4 := kept b4 (show v2.heap.size < _ by omega) h2_4_3
  have h2_5_4 := kept b4 (show v2.heap.size < _ by omega) h2_5_3
  have h2_6_4 := kept b4 (show v2.heap.size < _ by omega) h2_6_3
  have h2_7_4 := kept b4 (show v2.heap.size < _ by omega) h2_7_3
  have h2_8_4 := kept b4 (show v2.heap.size < _ by omega) h2_8_3
  have h2_9_4 := kept b4 (show v2.heap.size < _ by omega) h2_9_3
  have h2_10_4 := kept b4 (show v2.heap.size < _ by omega) h2_10_3
  have h2_11_4 := kept b4 (show v2.heap.size < _ by omega) h2_11_3
  have h2_12_4 := kept b4 (show v2.heap.size < _ by omega) h2_12_3
  have h2_13_4 := kept b4 (show v2.heap.size < _ by omega) h2_13_3
  clear h2_0_3 h2_1_3 h2_2_3 h2_3_3 h2_4_3 h2_5_3 h2_6_3 h2_7_3 h2_8_3 h2_9_3 h2_10_3 h2_11_3 h2_12_3 h2_13_3
  clear b4
  go_wp2_with fail
  refine (Won.heldWor v4).mono ?_
  rintro e v5 ⟨rfl, b5⟩
  have z5 := b5.size
  have c5 := c4.trans (b5.mono c4.size)
  have h1_0_5 := kept b5 (show v1.heap.size < _ by omega) h1_0_4
  have h1_1_5 := kept b5 (show v1.heap.size < _ by omega) h1_1_4
  have h1_2_5 := kept b5 (show v1.heap.size < _ by omega) h1_2_4
  have h1_3_5 := kept b5 (show v1.heap.size < _ by omega) h1_3_4
  have h1_4_5 := kept b5 (show v1.heap.size < _ by omega) h1_4_4
  have h1_5_5 := kept b5 (show v1.heap.size < _ by omega) h1_5_4
  have h1_6_5 := kept b5 (show v1.heap.size < _ by omega) h1_6_4
  have h1_7_5 := kept b5 (show v1.heap.size < _ by omega) h1_7_4
  have h1_8_5 := kept b5 (show v1.heap.size < _ by omega) h1_8_4
  have h1_9_5 := kept b5 (show v1.heap.size < _ by omega) h1_9_4
  have h1_10_5 := kept b5 (show v1.heap.size < _ by omega) h1_10_4
  have h1_11_5 := kept b5 (show v1.heap.size < _ by omega) h1_11_4
  have h1_12_5 := kept b5 (show v1.heap.size < _ by omega) h1_12_4
  have h1_13_5 := kept b5 (show v1.heap.size < _ by omega) h1_13_4
  clear h1_0_4 h1_1_4 h1_2_4 h1_3_4 h1_4_4 h1_5_4 h1_6_4 h1_7_4 h1_8_4 h1_9_4 h1_10_4 h1_11_4 h1_12_4 h1_13_4
  have h2_0_5 := kept b5 (show v2.heap.size < _ by omega) h2_0_4
  have h2_1_5 := kept b5 (show v2.heap.size < _ by omega) h2_1_4
  have h2_2_5 := kept b5 (show v2.heap.size < _ by omega) h2_2_4
  have h2_3_5 := kept b5 (show v2.heap.size < _ by omega) h2_3_4
  have h2_4_5 := kept b5 (show v2.heap.size < _ by omega) h2_4_4
  have h2_5_5 := kept b5 (show v2.heap.size < _ by omega) h2_5_4
  have h2_6_5 := kept b5 (show v2.heap.size < _ by omega) h2_6_4
  have h2_7_5 := kept b5 (show v2.heap.size < _ by omega) h2_7_4
  have h2_8_5 := kept b5 (show v2.heap.size < _ by omega) h2_8_4
  have h2_9_5 := kept b5 (show v2.heap.size < _ by omega) h2_9_4
  have h2_10_5 := kept b5 (show v2.heap.size < _ by omega) h2_10_4
  have h2_11_5 := kept b5 (show v2.heap.size < _ by omega) h2_11_4
  have h2_12_5 := kept b5 (show v2.heap.size < _ by omega) h2_12_4
  have h2_13_5 := kept b5 (show v2.heap.size < _ by omega) h2_13_4
  clear h2_0_4 h2_1_4 h2_2_4 h2_3_4 h2_4_4 h2_5_4 h2_6_4 h2_7_4 h2_8_4 h2_9_4 h2_10_4 h2_11_4 h2_12_4 h2_13_4
  clear b5
  go_wp2_with fail
  refine (Won.impl_won v5).mono ?_
  rintro e v6 ⟨rfl, b6⟩
  have z6 := b6.size
  have c6 := c5.trans (b6.mono c5.size)
  have h1_0_6 := kept b6 (show v1.heap.size < _ by omega) h1_0_5
  have h1_1_6 := kept b6 (show v1.heap.size < _ by omega) h1_1_5
  have h1_2_6 := kept b6 (show v1.heap.size < _ by omega) h1_2_5
  have h1_3_6 := kept b6 (show v1.heap.size < _ by omega) h1_3_5
  have h1_4_6 := kept b6 (show v1.heap.size < _ by omega) h1_4_5
  have h1_5_6 := kept b6 (show v1.heap.size < _ by omega) h1_5_5
  have h1_6_6 := kept b6 (show v1.heap.size < _ by omega) h1_6_5
  have h1_7_6 := kept b6 (show v1.heap.size < _ by omega) h1_7_5
  have h1_8_6 := kept b6 (show v1.heap.size < _ by omega) h1_8_5
  have h1_9_6 := kept b6 (show v1.heap.size < _ by omega) h1_9_5
  have h1_10_6 := kept b6 (show v1.heap.size < _ by omega) h1_10_5
  have h1_11_6 := kept b6 (show v1.heap.size < _ by omega) h1_11_5
  have h1_12_6 := kept b6 (show v1.heap.size < _ by omega) h1_12_5
  have h1_13_6 := kept b6 (show v1.heap.size < _ by omega) h1_13_5
  clear h1_0_5 h1_1_5 h1_2_5 h1_3_5 h1_4_5 h1_5_5 h1_6_5 h1_7_5 h1_8_5 h1_9_5 h1_10_5 h1_11_5 h1_12_5 h1_13_5
  have h2_0_6 := kept b6 (show v2.heap.size < _ by omega) h2_0_5
  have h2_1_6 := kept b6 (show v2.heap.size < _ by omega) h2_1_5
  have h2_2_6 := kept b6 (show v2.heap.size < _ by omega) h2_2_5
  have h2_3_6 := kept b6 (show v2.heap.size < _ by omega) h2_3_5
  have h2_4_6 := kept b6 (show v2.heap.size < _ by omega) h2_4_5
  have h2_5_6 := kept b6 (show v2.heap.size < _ by omega) h2_5_5
  have h2_6_6 := kept b6 (show v2.heap.size < _ by omega) h2_6_5
  have h2_7_6 := kept b6 (show v2.heap.size < _ by omega) h2_7_5
  have h2_8_6 := kept b6 (show v2.heap.size < _ by omega) h2_8_5
  have h2_9_6 := kept b6 (show v2.heap.size < _ by omega) h2_9_5
  have h2_10_6 := kept b6 (show v2.heap.size < _ by omega) h2_10_5
  have h2_11_6 := kept b6 (show v2.heap.size < _ by omega) h2_11_5
  have h2_12_6 := kept b6 (show v2.heap.size < _ by omega) h2_12_5
  have h2_13_6 := kept b6 (show v2.heap.size < _ by omega) h2_13_5
  clear h2_0_5 h2_1_5 h2_2_5 h2_3_5 h2_4_5 h2_5_5 h2_6_5 h2_7_5 h2_8_5 h2_9_5 h2_10_5 h2_11_5 h2_12_5 h2_13_5
  clear b6
  obtain ⟨W6, hW6⟩ : ∃ w', v6.alloc (.cells #[.string ⟨#[]⟩, .string ⟨#[]⟩, .slice none 0 0, .bool false, .int .i64 0, .int .i64 0, .slice none 0 0, .int .i64 0, .int .i64 0, .slice none 0 0, .slice none 0 0, .slice none 0 0, .int .i64 0, .int .i64 0] 33) = w' := ⟨_, rfl⟩
  have aW6 : Below v6.heap.size v6 W6 := by rw [← hW6]; exact (Below.refl _ _).alloc (Nat.le_refl _) _
  have o6 : W6.ownsRow v6.heap.size 33 14 (.slice (some ⟨v6.heap.size, 0, none⟩) 1 1) 1 [.string ⟨#[]⟩, .string ⟨#[]⟩, .slice none 0 0, .bool false, .int .i64 0, .int .i64 0, .slice none 0 0, .int .i64 0, .int .i64 0, .slice none 0 0, .slice none 0 0, .slice none 0 0, .int .i64 0, .int .i64 0] := by rw [← hW6]; exact Won.own_new (Nat.le_refl _) rfl
  have hr6_0 : W6.cell? ⟨v6.heap.size, 0, none⟩ = some (.string ⟨#[]⟩) := by rw [o6.cellAt 0 (by omega)]; rfl
  have hg6_0 := o6.frozenAt 0
  have t6_0 := (o6.stored 0 (.string ⟨#[]⟩)).1
  obtain ⟨y6_0, hy6_0⟩ : ∃ w', W6.setCell ⟨v6.heap.size, 0, none⟩ (.string ⟨#[]⟩) = w' := ⟨_, rfl⟩
  rw [hy6_0] at t6_0
  clear o6
  have hr6_1 : y6_0.cell? ⟨v6.heap.size, 1, none⟩ = some (.string ⟨#[]⟩) := by rw [t6_0.cellAt 1 (by omega)]; rfl
  have hg6_1 := t6_0.frozenAt 1
  have t6_1 := (t6_0.stored 1 (.string ⟨#[]⟩)).1
  obtain ⟨y6_1, hy6_1⟩ : ∃ w', y6_0.setCell ⟨v6.heap.size, 1, none⟩ (.string ⟨#[]⟩) = w' := ⟨_, rfl⟩
  rw [hy6_1] at t6_1
  clear t6_0
  have hr6_2 : y6_1.cell? ⟨v6.heap.size, 2, none⟩ = some (.slice none 0 0) := by rw [t6_1.cellAt 2 (by omega)]; rfl
  have hg6_2 := t6_1.frozenAt 2
  have t6_2 := (t6_1.stored 2 (.slice none 0 0)).1
  obtain ⟨y6_2, hy6_2⟩ : ∃ w', y6_1.setCell ⟨v6.heap.size, 2, none⟩ (.slice none 0 0) = w' := ⟨_, rfl⟩
  rw [hy6_2] at t6_2
  clear t6_1
  have hr6_3 : y6_2.cell? ⟨v6.heap.size, 3, none⟩ = some (.bool false) := by rw [t6_2.cellAt 3 (by omega)]; rfl
  have hg6_3 := t6_2.frozenAt 3
  have t6_3 := (t6_2.stored 3 (.bool true)).1
  obtain ⟨y6_3, hy6_3⟩ : ∃ w', y6_2.setCell ⟨v6.heap.size, 3, none⟩ (.bool true) = w' := ⟨_, rfl⟩
  rw [hy6_3] at t6_3
  clear t6_2
  have hr6_4 : y6_3.cell? ⟨v6.heap.size, 4, none⟩ = some (.int .i64 0) := by rw [t6_3.cellAt 4 (by omega)]; rfl
  have hg6_4 := t6_3.frozenAt 4
  have t6_4 := (t6_3.stored 4 (.int .i64 0)).1
  obtain ⟨y6_4, hy6_4⟩ : ∃ w', y6_3.setCell ⟨v6.heap.size, 4, none⟩ (.int .i64 0) = w' := ⟨_, rfl⟩
  rw [hy6_4] at t6_4
  clear t6_3
  have hr6_5 : y6_4.cell? ⟨v6.heap.size, 5, none⟩ = some (.int .i64 0) := by rw [t6_4.cellAt 5 (by omega)]; rfl
  have hg6_5 := t6_4.frozenAt 5
  have t6_5 := (t6_4.stored 5 (.int .i64 0)).1
  obtain ⟨y6_5, hy6_5⟩ : ∃ w', y6_4.setCell ⟨v6.heap.size, 5, none⟩ (.int .i64 0) = w' := ⟨_, rfl⟩
  rw [hy6_5] at t6_5
  clear t6_4
  have hr6_6 : y6_5.cell? ⟨v6.heap.size, 6, none⟩ = some (.slice none 0 0) := by rw [t6_5.cellAt 6 (by omega)]; rfl
  have hg6_6 := t6_5.frozenAt 6
  have t6_6 := (t6_5.stored 6 (.slice none 0 0)).1
  obtain ⟨y6_6, hy6_6⟩ : ∃ w', y6_5.setCell ⟨v6.heap.size, 6, none⟩ (.slice none 0 0) = w' := ⟨_, rfl⟩
  rw [hy6_6] at t6_6
  clear t6_5
  have hr6_7 : y6_6.cell? ⟨v6.heap.size, 7, none⟩ = some (.int .i64 0) := by rw [t6_6.cellAt 7 (by omega)]; rfl
  have hg6_7 := t6_6.frozenAt 7
  have t6_7 := (t6_6.stored 7 (.int .i64 (-1))).1
  obtain ⟨y6_7, hy6_7⟩ : ∃ w', y6_6.setCell ⟨v6.heap.size, 7, none⟩ (.int .i64 (-1)) = w' := ⟨_, rfl⟩
  rw [hy6_7] at t6_7
  clear t6_6
  have hr6_8 : y6_7.cell? ⟨v6.heap.size, 8, none⟩ = some (.int .i64 0) := by rw [t6_7.cellAt 8 (by omega)]; rfl
  have hg6_8 := t6_7.frozenAt 8
  have t6_8 := (t6_7.stored 8 (.int .i64 0)).1
  obtain ⟨y6_8, hy6_8⟩ : ∃ w', y6_7.setCell ⟨v6.heap.size, 8, none⟩ (.int .i64 0) = w' := ⟨_, rfl⟩
  rw [hy6_8] at t6_8
  clear t6_7
  have hr6_9 : y6_8.cell? ⟨v6.heap.size, 9, none⟩ = some (.slice none 0 0) := by rw [t6_8.cellAt 9 (by omega)]; rfl
  have hg6_9 := t6_8.frozenAt 9
  have t6_9 := (t6_8.stored 9 (.slice none 0 0)).1
  obtain ⟨y6_9, hy6_9⟩ : ∃ w', y6_8.setCell ⟨v6.heap.size, 9, none⟩ (.slice none 0 0) = w' := ⟨_, rfl⟩
  rw [hy6_9] at t6_9
  clear t6_8
  have hr6_10 : y6_9.cell? ⟨v6.heap.size, 10, none⟩ = some (.slice none 0 0) := by rw [t6_9.cellAt 10 (by omega)]; rfl
  have hg6_10 := t6_9.frozenAt 10
  have t6_10 := (t6_9.stored 10 (.slice none 0 0)).1
  obtain ⟨y6_10, hy6_10⟩ : ∃ w', y6_9.setCell ⟨v6.heap.size, 10, none⟩ (.slice none 0 0) = w' := ⟨_, rfl⟩
  rw [hy6_10] at t6_10
  clear t6_9
  have hr6_11 : y6_10.cell? ⟨v6.heap.size, 11, none⟩ = some (.slice none 0 0) := by rw [t6_10.cellAt 11 (by omega)]; rfl
  have hg6_11 := t6_10.frozenAt 11
  have t6_11 := (t6_10.stored 11 (.slice none 0 0)).1
  obtain ⟨y6_11, hy6_11⟩ : ∃ w', y6_10.setCell ⟨v6.heap.size, 11, none⟩ (.slice none 0 0) = w' := ⟨_, rfl⟩
  rw [hy6_11] at t6_11
  clear t6_10
  have hr6_12 : y6_11.cell? ⟨v6.heap.size, 12, none⟩ = some (.int .i64 0) := by rw [t6_11.cellAt 12 (by omega)]; rfl
  have hg6_12 := t6_11.frozenAt 12
  have t6_12 := (t6_11.stored 12 (.int .i64 (-1))).1
  obtain ⟨y6_12, hy6_12⟩ : ∃ w', y6_11.setCell ⟨v6.heap.size, 12, none⟩ (.int .i64 (-1)) = w' := ⟨_, rfl⟩
  rw [hy6_12] at t6_12
  clear t6_11
  have hr6_13 : y6_12.cell? ⟨v6.heap.size, 13, none⟩ = some (.int .i64 0) := by rw [t6_12.cellAt 13 (by omega)]; rfl
  have hg6_13 := t6_12.frozenAt 13
  have t6_13 := (t6_12.stored 13 (.int .i64 0)).1
  obtain ⟨u6, hy6_13⟩ : ∃ w', y6_12.setCell ⟨v6.heap.size, 13, none⟩ (.int .i64 0) = w' := ⟨_, rfl⟩
  rw [hy6_13] at t6_13
  clear t6_12
  have on6 := OnlyAt.refl v6.heap.size W6
  have on6 := on6.setCell 0 (.string ⟨#[]⟩)
  rw [hy6_0] at on6
  have on6 := on6.setCell 1 (.string ⟨#[]⟩)
  rw [hy6_1] at on6
  have on6 := on6.setCell 2 (.slice none 0 0)
  rw [hy6_2] at on6
  have on6 := on6.setCell 3 (.bool true)
  rw [hy6_3] at on6
  have on6 := on6.setCell 4 (.int .i64 0)
  rw [hy6_4] at on6
  have on6 := on6.setCell 5 (.int .i64 0)
  rw [hy6_5] at on6
  have on6 := on6.setCell 6 (.slice none 0 0)
  rw [hy6_6] at on6
  have on6 := on6.setCell 7 (.int .i64 (-1))
  rw [hy6_7] at on6
  have on6 := on6.setCell 8 (.int .i64 0)
  rw [hy6_8] at on6
  have on6 := on6.setCell 9 (.slice none 0 0)
  rw [hy6_9] at on6
  have on6 := on6.setCell 10 (.slice none 0 0)
  rw [hy6_10] at on6
  have on6 := on6.setCell 11 (.slice none 0 0)
  rw [hy6_11] at on6
  have on6 := on6.setCell 12 (.int .i64 (-1))
  rw [hy6_12] at on6
  have on6 := on6.setCell 13 (.int .i64 0)
  rw [hy6_13] at on6
  have a6 : Below v6.heap.size v6 u6 := aW6.trans (on6.below (Nat.le_refl _))
  have zu6 : v6.heap.size < u6.heap.size := own_lt t6_13
  clear on6 aW6
  have i1_0 := kept a6 (show v1.heap.size < _ by omega) h1_0_6
  have i1_1 := kept a6 (show v1.heap.size < _ by omega) h1_1_6
  have i1_2 := kept a6 (show v1.heap.size < _ by omega) h1_2_6
  have i1_3 := kept a6 (show v1.heap.size < _ by omega) h1_3_6
  have i1_4 := kept a6 (show v1.heap.size < _ by omega) h1_4_6
  have i1_5 := kept a6 (show v1.heap.size < _ by omega) h1_5_6
  have i1_6 := kept a6 (show v1.heap.size < _ by omega) h1_6_6
  have i1_7 := kept a6 (show v1.heap.size < _ by omega) h1_7_6
  have i1_8 := kept a6 (show v1.heap.size < _ by omega) h1_8_6
  have i1_9 := kept a6 (show v1.heap.size < _ by omega) h1_9_6
  have i1_10 := kept a6 (show v1.heap.size < _ by omega) h1_10_6
  have i1_11 := kept a6 (show v1.heap.size < _ by omega) h1_11_6
  have i1_12 := kept a6 (show v1.heap.size < _ by omega) h1_12_6
  have i1_13 := kept a6 (show v1.heap.size < _ by omega) h1_13_6
  clear h1_0_6 h1_1_6 h1_2_6 h1_3_6 h1_4_6 h1_5_6 h1_6_6 h1_7_6 h1_8_6 h1_9_6 h1_10_6 h1_11_6 h1_12_6 h1_13_6
  have h1_0_6 := i1_0
  clear i1_0
  have h1_1_6 := i1_1
  clear i1_1
  have h1_2_6 := i1_2
  clear i1_2
  have h1_3_6 := i1_3
  clear i1_3
  have h1_4_6 := i1_4
  clear i1_4
  have h1_5_6 := i1_5
  clear i1_5
  have h1_6_6 := i1_6
  clear i1_6
  have h1_7_6 := i1_7
  clear i1_7
  have h1_8_6 := i1_8
  clear i1_8
  have h1_9_6 := i1_9
  clear i1_9
  have h1_10_6 := i1_10
  clear i1_10
  have h1_11_6 := i1_11
  clear i1_11
  have h1_12_6 := i1_12
  clear i1_12
  have h1_13_6 := i1_13
  clear i1_13
  have i2_0 := kept a6 (show v2.heap.size < _ by omega) h2_0_6
  have i2_1 := kept a6 (show v2.heap.size < _ by omega) h2_1_6
  have i2_2 := kept a6 (show v2.heap.size < _ by omega) h2_2_6
  have i2_3 := kept a6 (show v2.heap.size < _ by omega) h2_3_6
  have i2_4 := kept a6 (show v2.heap.size < _ by omega) h2_4_6
  have i2_5 := kept a6 (show v2.heap.size < _ by omega) h2_5_6
  have i2_6 := kept a6 (show v2.heap.size < _ by omega) h2_6_6
  have i2_7 := kept a6 (show v2.heap.size < _ by omega) h2_7_6
  have i2_8 := kept a6 (show v2.heap.size < _ by omega) h2_8_6
  have i2_9 := kept a6 (show v2.heap.size < _ by omega) h2_9_6
  have i2_10 := kept a6 (show v2.heap.size < _ by omega) h2_10_6
  have i2_11 := kept a6 (show v2.heap.size < _ by omega) h2_11_6
  have i2_12 := kept a6 (show v2.heap.size < _ by omega) h2_12_6
  have i2_13 := kept a6 (show v2.heap.size < _ by omega) h2_13_6
  clear h2_0_6 h2_1_6 h2_2_6 h2_3_6 h2_4_6 h2_5_6 h2_6_6 h2_7_6 h2_8_6 h2_9_6 h2_10_6 h2_11_6 h2_12_6 h2_13_6
  have h2_0_6 := i2_0
  clear i2_0
  have h2_1_6 := i2_1
  clear i2_1
  have h2_2_6 := i2_2
  clear i2_2
  have h2_3_6 := i2_3
  clear i2_3
  have h2_4_6 := i2_4
  clear i2_4
  have h2_5_6 := i2_5
  clear i2_5
  have h2_6_6 := i2_6
  clear i2_6
  have h2_7_6 := i2_7
  clear i2_7
  have h2_8_6 := i2_8
  clear i2_8
  have h2_9_6 := i2_9
  clear i2_9
  have h2_10_6 := i2_10
  clear i2_10
  have h2_11_6 := i2_11
  clear i2_11
  have h2_12_6 := i2_12
  clear i2_12
  have h2_13_6 := i2_13
  clear i2_13
  have h6_0_6 : u6.cell? ⟨v6.heap.size, 0, none⟩ = some (.string ⟨#[]⟩) := by rw [t6_13.cellAt 0 (by omega)]; rfl
  have h6_1_6 : u6.cell? ⟨v6.heap.size, 1, none⟩ = some (.string ⟨#[]⟩) := by rw [t6_13.cellAt 1 (by omega)]; rfl
  have h6_2_6 : u6.cell? ⟨v6.heap.size, 2, none⟩ = some (.slice none 0 0) := by rw [t6_13.cellAt 2 (by omega)]; rfl
  have h6_3_6 : u6.cell? ⟨v6.heap.size, 3, none⟩ = some (.bool true) := by rw [t6_13.cellAt 3 (by omega)]; rfl
  have h6_4_6 : u6.cell? ⟨v6.heap.size, 4, none⟩ = some (.int .i64 0) := by rw [t6_13.cellAt 4 (by omega)]; rfl
  have h6_5_6 : u6.cell? ⟨v6.heap.size, 5, none⟩ = some (.int .i64 0) := by rw [t6_13.cellAt 5 (by omega)]; rfl
  have h6_6_6 : u6.cell? ⟨v6.heap.size, 6, none⟩ = some (.slice none 0 0) := by rw [t6_13.cellAt 6 (by omega)]; rfl
  have h6_7_6 : u6.cell? ⟨v6.heap.size, 7, none⟩ = some (.int .i64 (-1)) := by rw [t6_13.cellAt 7 (by omega)]; rfl
  have h6_8_6 : u6.cell? ⟨v6.heap.size, 8, none⟩ = some (.int .i64 0) := by rw [t6_13.cellAt 8 (by omega)]; rfl
  have h6_9_6 : u6.cell? ⟨v6.heap.size, 9, none⟩ = some (.slice none 0 0) := by rw [t6_13.cellAt 9 (by omega)]; rfl
  have h6_10_6 : u6.cell? ⟨v6.heap.size, 10, none⟩ = some (.slice none 0 0) := by rw [t6_13.cellAt 10 (by omega)]; rfl
  have h6_11_6 : u6.cell? ⟨v6.heap.size, 11, none⟩ = some (.slice none 0 0) := by rw [t6_13.cellAt 11 (by omega)]; rfl
  have h6_12_6 : u6.cell? ⟨v6.heap.size, 12, none⟩ = some (.int .i64 (-1)) := by rw [t6_13.cellAt 12 (by omega)]; rfl
  have h6_13_6 : u6.cell? ⟨v6.heap.size, 13, none⟩ = some (.int .i64 0) := by rw [t6_13.cellAt 13 (by omega)]; rfl
  have C6 : Below w.heap.size w u6 := c6.trans (a6.mono c6.size)
  clear t6_13
  go_wp2_with fail
  clear hW6 hr6_0 hg6_0 hy6_0 hr6_1 hg6_1 hy6_1 hr6_2 hg6_2 hy6_2 hr6_3 hg6_3 hy6_3 hr6_4 hg6_4 hy6_4 hr6_5 hg6_5 hy6_5 hr6_6 hg6_6 hy6_6 hr6_7 hg6_7 hy6_7 hr6_8 hg6_8 hy6_8 hr6_9 hg6_9 hy6_9 hr6_10 hg6_10 hy6_10 hr6_11 hg6_11 hy6_11 hr6_12 hg6_12 hy6_12 hr6_13 hg6_13 hy6_13
  refine (Won.eqWor u6).mono ?_
  rintro e v7 ⟨rfl, b7⟩
  have z7 := b7.size
  have c7 := C6.trans (b7.mono C6.size)
  have h1_0_7 := kept b7 (show v1.heap.size < _ by omega) h1_0_6
  have h1_1_7 := kept b7 (show v1.heap.size < _ by omega) h1_1_6
  have h1_2_7 := kept b7 (show v1.heap.size < _ by omega) h1_2_6
  have h1_3_7 := kept b7 (show v1.heap.size < _ by omega) h1_3_6
  have h1_4_7 := kept b7 (show v1.heap.size < _ by omega) h1_4_6
  have h1_5_7 := kept b7 (show v1.heap.size < _ by omega) h1_5_6
  have h1_6_7 := kept b7 (show v1.heap.size < _ by omega) h1_6_6
  have h1_7_7 := kept b7 (show v1.heap.size < _ by omega) h1_7_6
  have h1_8_7 := kept b7 (show v1.heap.size < _ by omega) h1_8_6
  have h1_9_7 := kept b7 (show v1.heap.size < _ by omega) h1_9_6
  have h1_10_7 := kept b7 (show v1.heap.size < _ by omega) h1_10_6
  have h1_11_7 := kept b7 (show v1.heap.size < _ by omega) h1_11_6
  have h1_12_7 := kept b7 (show v1.heap.size < _ by omega) h1_12_6
  have h1_13_7 := kept b7 (show v1.heap.size < _ by omega) h1_13_6
  clear h1_0_6 h1_1_6 h1_2_6 h1_3_6 h1_4_6 h1_5_6 h1_6_6 h1_7_6 h1_8_6 h1_9_6 h1_10_6 h1_11_6 h1_12_6 h1_13_6
  have h2_0_7 := kept b7 (show v2.heap.size < _ by omega) h2_0_6
  have h2_1_7 := kept b7 (show v2.heap.size < _ by omega) h2_1_6
  have h2_2_7 := kept b7 (show v2.heap.size < _ by omega) h2_2_6
  have h2_3_7 := kept b7 (show v2.heap.size < _ by omega) h2_3_6
  have h2_4_7 := kept b7 (show v2.heap.size < _ by omega) h2_4_6
  have h2_5_7 := kept b7 (show v2.heap.size < _ by omega) h2_5_6
  have h2_6_7 := kept b7 (show v2.heap.size < _ by omega) h2_6_6
  have h2_7_7 := kept b7 (show v2.heap.size < _ by omega) h2_7_6
  have h2_8_7 := kept b7 (show v2.heap.size < _ by omega) h2_8_6
  have h2_9_7 := kept b7 (show v2.heap.size < _ by omega) h2_9_6
  have h2_10_7 := kept b7 (show v2.heap.size < _ by omega) h2_10_6
  have h2_11_7 := kept b7 (show v2.heap.size < _ by omega) h2_11_6
  have h2_12_7 := kept b7 (show v2.heap.size < _ by omega) h2_12_6
  have h2_13_7 := kept b7 (show v2.heap.size < _ by omega) h2_13_6
  clear h2_0_6 h2_1_6 h2_2_6 h2_3_6 h2_4_6 h2_5_6 h2_6_6 h2_7_6 h2_8_6 h2_9_6 h2_10_6 h2_11_6 h2_12_6 h2_13_6
  have h6_0_7 := kept b7 (show v6.heap.size < _ by omega) h6_0_6
  have h6_1_7 := kept b7 (show v6.heap.size < _ by omega) h6_1_6
  have h6_2_7 := kept b7 (show v6.heap.size < _ by omega) h6_2_6
  have h6_3_7 := kept b7 (show v6.heap.size < _ by omega) h6_3_6
  have h6_4_7 := kept b7 (show v6.heap.size < _ by omega) h6_4_6
  have h6_5_7 := kept b7 (show v6.heap.size < _ by omega) h6_5_6
  have h6_6_7 := kept b7 (show v6.heap.size < _ by omega) h6_6_6
  have h6_7_7 := kept b7 (show v6.heap.size < _ by omega) h6_7_6
  have h6_8_7 := kept b7 (show v6.heap.size < _ by omega) h6_8_6
  have h6_9_7 := kept b7 (show v6.heap.size < _ by omega) h6_9_6
  have h6_10_7 := kept b7 (show v6.heap.size < _ by omega) h6_10_6
  have h6_11_7 := kept b7 (show v6.heap.size < _ by omega) h6_11_6
  have h6_12_7 := kept b7 (show v6.heap.size < _ by omega) h6_12_6
  have h6_13_7 := kept b7 (show v6.heap.size < _ by omega) h6_13_6
  clear h6_0_6 h6_1_6 h6_2_6 h6_3_6 h6_4_6 h6_5_6 h6_6_6 h6_7_6 h6_8_6 h6_9_6 h6_10_6 h6_11_6 h6_12_6 h6_13_6
  clear b7
  go_wp2_with fail
  refine (Won.heldWor v7).mono ?_
  rintro e v8 ⟨rfl, b8⟩
  have z8 := b8.size
  have c8 := c7.trans (b8.mono c7.size)
  have h1_0_8 := kept b8 (show v1.heap.size < _ by omega) h1_0_7
  have h1_1_8 := kept b8 (show v1.heap.size < _ by omega) h1_1_7
  have h1_2_8 := kept b8 (show v1.heap.size < _ by omega) h1_2_7
  have h1_3_8 := kept b8 (show v1.heap.size < _ by omega) h1_3_7
  have h1_4_8 := kept b8 (show v1.heap.size < _ by omega) h1_4_7
  have h1_5_8 := kept b8 (show v1.heap.size < _ by omega) h1_5_7
  have h1_6_8 := kept b8 (show v1.heap.size < _ by omega) h1_6_7
  have h1_7_8 := kept b8 (show v1.heap.size < _ by omega) h1_7_7
  have h1_8_8 := kept b8 (show v1.heap.size < _ by omega) h1_8_7
  have h1_9_8 := kept b8 (show v1.heap.size < _ by omega) h1_9_7
  have h1_10_8 := kept b8 (show v1.heap.size < _ by omega) h1_10_7
  have h1_11_8 := kept b8 (show v1.heap.size < _ by omega) h1_11_7
  have h1_12_8 := kept b8 (show v1.heap.size < _ by omega) h1_12_7
  have h1_13_8 := kept b8 (show v1.heap.size < _ by omega) h1_13_7
  clear h1_0_7 h1_1_7 h1_2_7 h1_3_7 h1_4_7 h1_5_7 h1_6_7 h1_7_7 h1_8_7 h1_9_7 h1_10_7 h1_11_7 h1_12_7 h1_13_7
  have h2_0_8 := kept b8 (show v2.heap.size < _ by omega) h2_0_7
  have h2_1_8 := kept b8 (show v2.heap.size < _ by omega) h2_1_7
  have h2_2_8 := kept b8 (show v2.heap.size < _ by omega) h2_2_7
  have h2_3_8 := kept b8 (show v2.heap.size < _ by omega) h2_3_7
  have h2_4_8 := kept b8 (show v2.heap.size < _ by omega) h2_4_7
  have h2_5_8 := kept b8 (show v2.heap.size < _ by omega) h2_5_7
  have h2_6_8 := kept b8 (show v2.heap.size < _ by omega) h2_6_7
  have h2_7_8 := kept b8 (show v2.heap.size < _ by omega) h2_7_7
  have h2_8_8 := kept b8 (show v2.heap.size < _ by omega) h2_8_7
  have h2_9_8 := kept b8 (show v2.heap.size < _ by omega) h2_9_7
  have h2_10_8 := kept b8 (show v2.heap.size < _ by omega) h2_10_7
  have h2_11_8 := kept b8 (show v2.heap.size < _ by omega) h2_11_7
  have h2_12_8 := kept b8 (show v2.heap.size < _ by omega) h2_12_7
  have h2_13_8 := kept b8 (show v2.heap.size < _ by omega) h2_13_7
  clear h2_0_7 h2_1_7 h2_2_7 h2_3_7 h2_4_7 h2_5_7 h2_6_7 h2_7_7 h2_8_7 h2_9_7 h2_10_7 h2_11_7 h2_12_7 h2_13_7
  have h6_0_8 := kept b8 (show v6.heap.size < _ by omega) h6_0_7
  have h6_1_8 := kept b8 (show v6.heap.size < _ by omega) h6_1_7
  have h6_2_8 := kept b8 (show v6.heap.size < _ by omega) h6_2_7
  have h6_3_8 := kept b8 (show v6.heap.size < _ by omega) h6_3_7
  have h6_4_8 := kept b8 (show v6.heap.size < _ by omega) h6_4_7
  have h6_5_8 := kept b8 (show v6.heap.size < _ by omega) h6_5_7
  have h6_6_8 := kept b8 (show v6.heap.size < _ by omega) h6_6_7
  have h6_7_8 := kept b8 (show v6.heap.size < _ by omega) h6_7_7
  have h6_8_8 := kept b8 (show v6.heap.size < _ by omega) h6_8_7
  have h6_9_8 := kept b8 (show v6.heap.size < _ by omega) h6_9_7
  have h6_10_8 := kept b8 (show v6.heap.size < _ by omega) h6_10_7
  have h6_11_8 := kept b8 (show v6.heap.size < _ by omega) h6_11_7
  have h6_12_8 := kept b8 (show v6.heap.size < _ by omega) h6_12_7
  have h6_13_8 := kept b8 (show v6.heap.size < _ by omega) h6_13_7
  clear h6_0_7 h6_1_7 h6_2_7 h6_3_7 h6_4_7 h6_5_7 h6_6_7 h6_7_7 h6_8_7 h6_9_7 h6_10_7 h6_11_7 h6_12_7 h6_13_7
  clear b8
  go_wp2_with fail
  go_ret
  exact ⟨rfl, c8⟩
end Go.Proofs.Ythcfhclaadggeaa
