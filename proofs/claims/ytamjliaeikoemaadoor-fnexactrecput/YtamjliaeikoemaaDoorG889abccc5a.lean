/- My own texts of one claim, laid together by program: FnExactRecPutWalk, LaidDrop. -/
import Derived.Test.YtamjliaeikoemaaDoorG1ce1102ef0
import Derived.Test.YtamjliaeikoemaaDoorG9087951762
import Derived.Test.YtamjliaeikoemaaDoorRows
import Derived.Lib.LaidTab
import Derived.Lib.LaidIn
/- FnExactRecPut returns true at every record, where the library's table of powers of ten lies as its text lays it. -/
namespace Go.Proofs.YtamjliaeikoemaaDoor
open Go.RowKit Rw
set_option linter.unusedVariables false
set_option maxRecDepth 100000 in
set_option maxHeartbeats 8000000 in
theorem fnExactRecPut.walk (c : Rec.C) (x : Rec.E) (w : World) (w0 : Rec.Elem w c x ∧ Rec.good x) (tab : Dec.Tb w) :
    Calls Tryd.prog 3 #[.agg #[c.1, c.2.1, c.2.2.1, c.2.2.2.1, c.2.2.2.2]] w fun e w' => e = .returned (.bool true) ∧ Below w.heap.size w w' := by
  have HTab := hide tab
  clear tab
  obtain ⟨hE, hG⟩ := w0
  obtain ⟨cv0, cv1, cv2, cv3, cv4⟩ := c
  have hF := hE
  obtain ⟨e0, -, -, e3, e4⟩ := hF
  simp only at e0 e3 e4
  subst e0
  subst e3
  subst e4
  obtain ⟨N0, hN0⟩ : ∃ N, N = x.1 := ⟨_, rfl⟩
  obtain ⟨N3, hN3⟩ : ∃ N, N = x.2.2.2.1 := ⟨_, rfl⟩
  obtain ⟨N4, hN4⟩ : ∃ N, N = x.2.2.2.2 := ⟨_, rfl⟩
  rw [← hN0, ← hN3, ← hN4] at hE
  simp only [← hN0, ← hN3, ← hN4]
  have HN0 := hide hN0
  have HN3 := hide hN3
  have HN4 := hide hN4
  clear hN0 hN3 hN4
  have HS := hide (fun W (hB : Below w.heap.size w W) => Rec.sz_one (c := (.int .i64 N0, cv1, cv2, .int .i64 N3, .int .i64 N4)) (x := x) 1048576 (hE.below hB) hG (by omega) (by omega))
  obtain ⟨wa, hwa⟩ : ∃ wa, wa = w.alloc (.cells #[.int .i64 N0, cv1, cv2, .int .i64 N3, .int .i64 N4] 25) := ⟨_, rfl⟩
  have B : Below w.heap.size w wa := by rw [hwa]; exact (Below.refl _ _).alloc (Nat.le_refl _) _
  have za : w.heap.size < wa.heap.size := by rw [hwa]; simp
  have A0 : wa.cell? ⟨w.heap.size, 0, none⟩ = some (.int .i64 N0) ∧ wa.cell? ⟨w.heap.size, 1, none⟩ = some (cv1) ∧ wa.cell? ⟨w.heap.size, 2, none⟩ = some (cv2) ∧ wa.cell? ⟨w.heap.size, 3, none⟩ = some (.int .i64 N3) ∧ wa.cell? ⟨w.heap.size, 4, none⟩ = some (.int .i64 N4) := by rw [hwa]; refine ⟨?_, ?_, ?_, ?_, ?_⟩ <;> simp [go_sem]
  by_cases hb : (1048576 : Int) - (Rec.tot x : Int) < 0
  · clear hE hG
    obtain ⟨a0, a1, a2, a3, a4⟩ := A0
    go_enter Tryd.func3, Tryd.ntmps3
    go_wp2_with fail
    rw [← hwa]
    clear hwa
    refine (unhide HS _ B).mono ?_
    rintro e w1 ⟨rfl, b1⟩
    rw [if_pos hb]
    have b2 := B.trans (b1.mono B.size)
    go_wp2_with fail
    go_ret
    exact ⟨rfl, b2⟩
  have tn : Rec.tiny x := ⟨Ent.tiny_of (by unfold Rec.tot at hb; omega), by have := Mat.tot_len x.2.2.1; unfold Rec.tot at hb; omega⟩
  have HTo := hide (fun W (hB : Below w.heap.size w W) => Rec.to_one (c := (.int .i64 N0, cv1, cv2, .int .i64 N3, .int .i64 N4)) (x := x) (hE.below hB) tn)
  have HG := hide hG
  clear hE hG tn
  obtain ⟨a0, a1, a2, a3, a4⟩ := A0
  go_enter Tryd.func3, Tryd.ntmps3
  go_wp2_with fail
  rw [← hwa]
  clear hwa
  refine (unhide HS _ B).mono ?_
  rintro e w1 ⟨rfl, b1⟩
  rw [if_neg (show ¬ (1048576 : Int) - (Rec.tot x : Int) < 0 by omega)]
  have hnn : decide ((1048576 : Int) - (Rec.tot x : Int) < 0) = false := by simp; omega
  have a0_1 := (b1.cell (p := ⟨w.heap.size, 0, none⟩) (by show w.heap.size < _; omega)).trans a0
  have a1_1 := (b1.cell (p := ⟨w.heap.size, 1, none⟩) (by show w.heap.size < _; omega)).trans a1
  have a2_1 := (b1.cell (p := ⟨w.heap.size, 2, none⟩) (by show w.heap.size < _; omega)).trans a2
  have a3_1 := (b1.cell (p := ⟨w.heap.size, 3, none⟩) (by show w.heap.size < _; omega)).trans a3
  have a4_1 := (b1.cell (p := ⟨w.heap.size, 4, none⟩) (by show w.heap.size < _; omega)).trans a4
  have z1 := b1.size
  have c1 := B.trans (b1.mono B.size)
  clear b1 a0 a1 a2 a3 a4
  go_wp2_with fail
  clear hnn hb
  refine (unhide HTo _ c1).mono ?_
  rintro e w2 ⟨⟨f0, f1, f2, f3, f4⟩, rfl, hD, b2⟩
  obtain ⟨e0, kf1, kf2, e3, e4⟩ := hD
  simp only at e0 e3 e4 kf1 kf2 ⊢
  rw [← unhide HN0] at e0
  subst e0
  rw [← unhide HN3] at e3
  subst e3
  rw [← unhide HN4] at e4
  subst e4
  have a0_2 := (b2.cell (p := ⟨w.heap.size, 0, none⟩) (by show w.heap.size < _; omega)).trans a0_1
  have a1_2 := (b2.cell (p := ⟨w.heap.size, 1, none⟩) (by show w.heap.size < _; omega)).trans a1_1
  have a2_2 := (b2.cell (p := ⟨w.heap.size, 2, none⟩) (by show w.heap.size < _; omega)).trans a2_1
  have a3_2 := (b2.cell (p := ⟨w.heap.size, 3, none⟩) (by show w.heap.size < _; omega)).trans a3_1
  have a4_2 := (b2.cell (p := ⟨w.heap.size, 4, none⟩) (by show w.heap.size < _; omega)).trans a4_1
  have z2 := b2.size
  have c2 := c1.trans (b2.mono c1.size)
  clear b2 a0_1 a1_1 a2_1 a3_1 a4_1
  go_wp2_with fail
  refine (Rec.spec_put N0 N3 N4 kf1 kf2 (unhide HG).2.1.2 (unhide HG).2.2.1.2 (unhide HG).2.2.1.1).mono ?_
  rintro e w3 ⟨rfl, b3⟩
  have a0_3 := (b3.cell (p := ⟨w.heap.size, 0, none⟩) (by show w.heap.size < _; omega)).trans a0_2
  have a1_3 := (b3.cell (p := ⟨w.heap.size, 1, none⟩) (by show w.heap.size < _; omega)).trans a1_2
  have a2_3 := (b3.cell (p := ⟨w.heap.size, 2, none⟩) (by show w.heap.size < _; omega)).trans a2_2
  have a3_3 := (b3.cell (p := ⟨w.heap.size, 3, none⟩) (by show w.heap.size < _; omega)).trans a3_2
  have a4_3 := (b3.cell (p := ⟨w.heap.size, 4, none⟩) (by show w.heap.size < _; omega)).trans a4_2
  have z3 := b3.size
  have c3 := c2.trans (b3.mono c2.size)
  clear b3 a0_2 a1_2 a2_2 a3_2 a4_2 kf1 kf2
  go_wp2_with fail
  refine (unhide HTo _ c3).mono ?_
  rintro e w4 ⟨⟨g0, g1, g2, g3, g4⟩, rfl, hD, b4⟩
  obtain ⟨e0, kg1, kg2, e3, e4⟩ := hD
  simp only at e0 e3 e4 kg1 kg2 ⊢
  rw [← unhide HN0] at e0
  subst e0
  rw [← unhide HN3] at e3
  subst e3
  rw [← unhide HN4] at e4
  subst e4
  obtain ⟨ga1, gl1, gq1, rfl⟩ : ∃ a l q, g1 = .slice a l q := by first | (obtain ⟨a, q, e, -⟩ := kg1.form; exact ⟨a, _, q, e⟩) | (obtain ⟨cs, -, hL, -⟩ := kg1; obtain ⟨a, q, e, -⟩ := hL.form; exact ⟨a, _, q, e⟩)
  obtain ⟨ga2, gl2, gq2, rfl⟩ : ∃ a l q, g2 = .slice a l q := by first | (obtain ⟨a, q, e, -⟩ := kg2.form; exact ⟨a, _, q, e⟩) | (obtain ⟨cs, -, hL, -⟩ := kg2; obtain ⟨a, q, e, -⟩ := hL.form; exact ⟨a, _, q, e⟩)
  have a0_4 := (b4.cell (p := ⟨w.heap.size, 0, none⟩) (by show w.heap.size < _; omega)).trans a0_3
  have a1_4 := (b4.cell (p := ⟨w.heap.size, 1, none⟩) (by show w.heap.size < _; omega)).trans a1_3
  have a2_4 := (b4.cell (p := ⟨w.heap.size, 2, none⟩) (by show w.heap.size < _; omega)).trans a2_3
  have a3_4 := (b4.cell (p := ⟨w.heap.size, 3, none⟩) (by show w.heap.size < _; omega)).trans a3_3
  have a4_4 := (b4.cell (p := ⟨w.heap.size, 4, none⟩) (by show w.heap.size < _; omega)).trans a4_3
  have z4 := b4.size
  have c4 := c3.trans (b4.mono c3.size)
  clear b4 a0_3 a1_3 a2_3 a3_3 a4_3
  obtain ⟨w5, hw5⟩ : ∃ w5, w5 = w4.alloc (.cells #[.int .i64 N0, .slice ga1 gl1 gq1, .slice ga2 gl2 gq2, .int .i64 N3, .int .i64 N4] 31) := ⟨_, rfl⟩
  have b5 : Below w4.heap.size w4 w5 := by rw [hw5]; exact (Below.refl _ _).alloc (Nat.le_refl _) _
  have z5 : w4.heap.size < w5.heap.size := by rw [hw5]; simp
  have d0 : w5.cell? ⟨w4.heap.size, 0, none⟩ = some (.int .i64 N0) := by rw [hw5]; simp [go_sem]
  have d1 : w5.cell? ⟨w4.heap.size, 1, none⟩ = some (.slice ga1 gl1 gq1) := by rw [hw5]; simp [go_sem]
  have d2 : w5.cell? ⟨w4.heap.size, 2, none⟩ = some (.slice ga2 gl2 gq2) := by rw [hw5]; simp [go_sem]
  have d3 : w5.cell? ⟨w4.heap.size, 3, none⟩ = some (.int .i64 N3) := by rw [hw5]; simp [go_sem]
  have d4 : w5.cell? ⟨w4.heap.size, 4, none⟩ = some (.int .i64 N4) := by rw [hw5]; simp [go_sem]
  have a0_5 := (b5.cell (p := ⟨w.heap.size, 0, none⟩) (by show w.heap.size < _; omega)).trans a0_4
  have a1_5 := (b5.cell (p := ⟨w.heap.size, 1, none⟩) (by show w.heap.size < _; omega)).trans a1_4
  have a2_5 := (b5.cell (p := ⟨w.heap.size, 2, none⟩) (by show w.heap.size < _; omega)).trans a2_4
  have a3_5 := (b5.cell (p := ⟨w.heap.size, 3, none⟩) (by show w.heap.size < _; omega)).trans a3_4
  have a4_5 := (b5.cell (p := ⟨w.heap.size, 4, none⟩) (by show w.heap.size < _; omega)).trans a4_4
  have c5 := c4.trans (b5.mono c4.size)
  have kh1 := kg1.below b5
  have kh2 := kg2.below b5
  clear b5 a0_4 a1_4 a2_4 a3_4 a4_4 kg1 kg2
  go_wp2_with fail
  rw [← hw5]
  clear hw5
  refine (Rec.impl_put N0 N3 N4 kh1 kh2 (unhide HG).2.1.2 (unhide HG).2.2.1.2 (unhide HG).2.2.1.1 ((unhide HTab).below c5)).mono ?_
  rintro e w6 ⟨rfl, b6⟩
  have a0_6 := (b6.cell (p := ⟨w.heap.size, 0, none⟩) (by show w.heap.size < _; omega)).trans a0_5
  have a1_6 := (b6.cell (p := ⟨w.heap.size, 1, none⟩) (by show w.heap.size < _; omega)).trans a1_5
  have a2_6 := (b6.cell (p := ⟨w.heap.size, 2, none⟩) (by show w.heap.size < _; omega)).trans a2_5
  have a3_6 := (b6.cell (p := ⟨w.heap.size, 3, none⟩) (by show w.heap.size < _; omega)).trans a3_5
  have a4_6 := (b6.cell (p := ⟨w.heap.size, 4, none⟩) (by show w.heap.size < _; omega)).trans a4_5
  have d0_6 := (b6.cell (p := ⟨w4.heap.size, 0, none⟩) (by show w4.heap.size < _; omega)).trans d0
  have d1_6 := (b6.cell (p := ⟨w4.heap.size, 1, none⟩) (by show w4.heap.size < _; omega)).trans d1
  have d2_6 := (b6.cell (p := ⟨w4.heap.size, 2, none⟩) (by show w4.heap.size < _; omega)).trans d2
  have d3_6 := (b6.cell (p := ⟨w4.heap.size, 3, none⟩) (by show w4.heap.size < _; omega)).trans d3
  have d4_6 := (b6.cell (p := ⟨w4.heap.size, 4, none⟩) (by show w4.heap.size < _; omega)).trans d4
  have z6 := b6.size
  have c6 := c5.trans (b6.mono c5.size)
  have ki1 := kh1.below b6
  have ki2 := kh2.below b6
  clear b6 a0_5 a1_5 a2_5 a3_5 a4_5 d0 d1 d2 d3 d4 kh1 kh2
  have S6 : (fun W : World => W.cell? ⟨w.heap.size, 0, none⟩ = some (.int .i64 N0) ∧ W.cell? ⟨w.heap.size, 1, none⟩ = some (cv1) ∧ W.cell? ⟨w.heap.size, 2, none⟩ = some (cv2) ∧ W.cell? ⟨w.heap.size, 3, none⟩ = some (.int .i64 N3) ∧ W.cell? ⟨w.heap.size, 4, none⟩ = some (.int .i64 N4) ∧ W.cell? ⟨w4.heap.size, 0, none⟩ = some (.int .i64 N0) ∧ W.cell? ⟨w4.heap.size, 1, none⟩ = some (.slice ga1 gl1 gq1) ∧ W.cell? ⟨w4.heap.size, 2, none⟩ = some (.slice ga2 gl2 gq2) ∧ W.cell? ⟨w4.heap.size, 3, none⟩ = some (.int .i64 N3) ∧ W.cell? ⟨w4.heap.size, 4, none⟩ = some (.int .i64 N4)) w6.drew := ⟨by simpa using a0_6, by simpa using a1_6, by simpa using a2_6, by simpa using a3_6, by simpa using a4_6, by simpa using d0_6, by simpa using d1_6, by simpa using d2_6, by simpa using d3_6, by simpa using d4_6⟩
  have HE6 := hide (show Rec.Elem w6.drew (.int .i64 N0, .slice ga1 gl1 gq1, .slice ga2 gl2 gq2, .int .i64 N3, .int .i64 N4) x from ⟨by show Value.int .i64 N0 = _; rw [unhide HN0], ki1.below (Below.refl _ _).drew, ki2.below (Below.refl _ _).drew, by show Value.int .i64 N3 = _; rw [unhide HN3], by show Value.int .i64 N4 = _; rw [unhide HN4]⟩)
  have c6d := c6.drew
  have HT6 := hide (unhide HTo w6.drew c6d)
  clear ki1 ki2
  go_wp2_with fail
  go_region_held3 (fun W => W.cell? ⟨w.heap.size, 0, none⟩ = some (.int .i64 N0) ∧ W.cell? ⟨w.heap.size, 1, none⟩ = some (cv1) ∧ W.cell? ⟨w.heap.size, 2, none⟩ = some (cv2) ∧ W.cell? ⟨w.heap.size, 3, none⟩ = some (.int .i64 N3) ∧ W.cell? ⟨w.heap.size, 4, none⟩ = some (.int .i64 N4) ∧ W.cell? ⟨w4.heap.size, 0, none⟩ = some (.int .i64 N0) ∧ W.cell? ⟨w4.heap.size, 1, none⟩ = some (.slice ga1 gl1 gq1) ∧ W.cell? ⟨w4.heap.size, 2, none⟩ = some (.slice ga2 gl2 gq2) ∧ W.cell? ⟨w4.heap.size, 3, none⟩ = some (.int .i64 N3) ∧ W.cell? ⟨w4.heap.size, 4, none⟩ = some (.int .i64 N4)) (first | exact ⟨a0_6, a1_6, a2_6, a3_6, a4_6, d0_6, d1_6, d2_6, d3_6, d4_6⟩ | exact S6 | exact S7 | exact S8) ((first | (go_at_call 7; refine (unhide HT6).mono ?_; rintro e w7 ⟨⟨q0, q1, q2, q3, q4⟩, rfl, hD7, b7⟩; have z7 := b7.size; simp only [World.size_drew] at z7; have S7 : (fun W : World => W.cell? ⟨w.heap.size, 0, none⟩ = some (.int .i64 N0) ∧ W.cell? ⟨w.heap.size, 1, none⟩ = some (cv1) ∧ W.cell? ⟨w.heap.size, 2, none⟩ = some (cv2) ∧ W.cell? ⟨w.heap.size, 3, none⟩ = some (.int .i64 N3) ∧ W.cell? ⟨w.heap.size, 4, none⟩ = some (.int .i64 N4) ∧ W.cell? ⟨w4.heap.size, 0, none⟩ = some (.int .i64 N0) ∧ W.cell? ⟨w4.heap.size, 1, none⟩ = some (.slice ga1 gl1 gq1) ∧ W.cell? ⟨w4.heap.size, 2, none⟩ = some (.slice ga2 gl2 gq2) ∧ W.cell? ⟨w4.heap.size, 3, none⟩ = some (.int .i64 N3) ∧ W.cell? ⟨w4.heap.size, 4, none⟩ = some (.int .i64 N4)) w7 := ⟨(b7.cell (p := ⟨w.heap.size, 0, none⟩) (by simp; omega)).trans S6.1, (b7.cell (p := ⟨w.heap.size, 1, none⟩) (by simp; omega)).trans S6.2.1, (b7.cell (p := ⟨w.heap.size, 2, none⟩) (by simp; omega)).trans S6.2.2.1, (b7.cell (p := ⟨w.heap.size, 3, none⟩) (by simp; omega)).trans S6.2.2.2.1, (b7.cell (p := ⟨w.heap.size, 4, none⟩) (by simp; omega)).trans S6.2.2.2.2.1, (b7.cell (p := ⟨w4.heap.size, 0, none⟩) (by simp; omega)).trans S6.2.2.2.2.2.1, (b7.cell (p := ⟨w4.heap.size, 1, none⟩) (by simp; omega)).trans S6.2.2.2.2.2.2.1, (b7.cell (p := ⟨w4.heap.size, 2, none⟩) (by simp; omega)).trans S6.2.2.2.2.2.2.2.1, (b7.cell (p := ⟨w4.heap.size, 3, none⟩) (by simp; omega)).trans S6.2.2.2.2.2.2.2.2.1, (b7.cell (p := ⟨w4.heap.size, 4, none⟩) (by simp; omega)).trans S6.2.2.2.2.2.2.2.2.2⟩) | (go_at_call 9; refine (Rec.eq_one ((unhide HE6).below b7) hD7).mono ?_; rintro e w8 ⟨rfl, b8⟩; have S8 : (fun W : World => W.cell? ⟨w.heap.size, 0, none⟩ = some (.int .i64 N0) ∧ W.cell? ⟨w.heap.size, 1, none⟩ = some (cv1) ∧ W.cell? ⟨w.heap.size, 2, none⟩ = some (cv2) ∧ W.cell? ⟨w.heap.size, 3, none⟩ = some (.int .i64 N3) ∧ W.cell? ⟨w.heap.size, 4, none⟩ = some (.int .i64 N4) ∧ W.cell? ⟨w4.heap.size, 0, none⟩ = some (.int .i64 N0) ∧ W.cell? ⟨w4.heap.size, 1, none⟩ = some (.slice ga1 gl1 gq1) ∧ W.cell? ⟨w4.heap.size, 2, none⟩ = some (.slice ga2 gl2 gq2) ∧ W.cell? ⟨w4.heap.size, 3, none⟩ = some (.int .i64 N3) ∧ W.cell? ⟨w4.heap.size, 4, none⟩ = some (.int .i64 N4)) w8 := ⟨(b8.cell (p := ⟨w.heap.size, 0, none⟩) (by simp; omega)).trans S7.1, (b8.cell (p := ⟨w.heap.size, 1, none⟩) (by simp; omega)).trans S7.2.1, (b8.cell (p := ⟨w.heap.size, 2, none⟩) (by simp; omega)).trans S7.2.2.1, (b8.cell (p := ⟨w.heap.size, 3, none⟩) (by simp; omega)).trans S7.2.2.2.1, (b8.cell (p := ⟨w.heap.size, 4, none⟩) (by simp; omega)).trans S7.2.2.2.2.1, (b8.cell (p := ⟨w4.heap.size, 0, none⟩) (by simp; omega)).trans S7.2.2.2.2.2.1, (b8.cell (p := ⟨w4.heap.size, 1, none⟩) (by simp; omega)).trans S7.2.2.2.2.2.2.1, (b8.cell (p := ⟨w4.heap.size, 2, none⟩) (by simp; omega)).trans S7.2.2.2.2.2.2.2.1, (b8.cell (p := ⟨w4.heap.size, 3, none⟩) (by simp; omega)).trans S7.2.2.2.2.2.2.2.2.1, (b8.cell (p := ⟨w4.heap.size, 4, none⟩) (by simp; omega)).trans S7.2.2.2.2.2.2.2.2.2⟩)))
  have c7 := c6d.trans (b7.mono c6d.size)
  have c8 := c7.trans (b8.mono c7.size)
  go_wp2
  go_ret
  exact ⟨rfl, c8⟩
end Go.Proofs.YtamjliaeikoemaaDoor

/- What a list of laid variables says of those behind its first. No condition. -/
namespace Go.Proofs.YtamjliaeikoemaaDoor
theorem laid_tail {P : Program} {x : String × DataW Unit} {l : List (String × DataW Unit)} {W : World} (h : laidMet P (x :: l) W) : laidMet P l W := by
  obtain ⟨n, d⟩ := x
  obtain ⟨ps, ⟨g, t, cs, fuel, p, q, h1, h2, h3, h4, h5, rfl⟩, hnd, hc⟩ := h
  exact ⟨q, h5, (List.nodup_append.1 hnd).2.1, fun b off hm => hc b off (List.mem_append_right _ hm)⟩
end Go.Proofs.YtamjliaeikoemaaDoor
