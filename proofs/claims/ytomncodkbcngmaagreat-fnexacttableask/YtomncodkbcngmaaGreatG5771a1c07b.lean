/- My own texts of one claim, laid together by program: AskCnt, TabCnt, FnExactTableAskWalk. -/
import Derived.Test.YtomncodkbcngmaaGreatG8b5ccec4dc
import Derived.Test.YtomncodkbcngmaaGreatGc449cc2923
import Derived.Test.YtomncodkbcngmaaGreatG02940e4908
/- How much there is at most in what is asked for. -/
namespace Go.Proofs.YtomncodkbcngmaaGreat.Row
open Go.RowKit Rw
theorem cnt_le (L : List E) (M : Nat) (h : ∀ y ∈ L, cntE y ≤ M) : cnt L ≤ L.length * M := by
  unfold cnt cntTo
  rw [List.take_of_length_le (Nat.le_refl _)]
  induction L with
  | nil => simp
  | cons x L ih =>
    have h1 := h x (List.mem_cons_self ..)
    have h2 := ih (fun y hy => h y (List.mem_cons_of_mem _ hy))
    rw [List.map_cons, List.sum_cons, List.length_cons, Nat.succ_mul]
    omega
theorem outL_cnt {g : E → List Sam.E} {zs : List E} (h : ok zs = true) (hg : ∀ i, i < zs.length → (g (at' zs i)).length ≤ 2000) : cnt (outL g zs) ≤ 2097152 ∧ (outL g zs).length ≤ 2097152 := by
  have hl := outL_len g zs
  have h10 := ok_len h
  have h1 := cnt_le (outL g zs) 6000 (fun y hy => by
    rw [← List.take_of_length_le (Nat.le_refl zs.length)] at hy
    obtain ⟨i, hi, e, -⟩ := outL_mem (Nat.le_refl _) hy
    have hs := (Lab.ok_small (step_is (ok_at h hi)).1).1
    have := hg i hi
    rw [e]
    unfold cntE
    simp only
    omega)
  have h2 : (outL g zs).length * 6000 ≤ 10 * 6000 := Nat.mul_le_mul_right _ (by omega)
  omega
theorem ask_cnt (ms : List Mat.E) (f t : Int) (zs : List E) : cnt (ask ms f t zs) ≤ 2097152 ∧ (ask ms f t zs).length ≤ 2097152 := by
  unfold ask
  cases ho : ok zs
  · simp [cnt, cntTo]
  · simp only [if_true]
    refine outL_cnt ho (fun i hi => ?_)
    have := (step_is (ok_at ho hi)).2.2.1
    unfold askG
    split
    · exact Nat.le_trans (List.length_filter_le _ _) (by omega)
    · simp
end Go.Proofs.YtomncodkbcngmaaGreat.Row

/- How much there is at most in what a table tells. -/
namespace Go.Proofs.YtomncodkbcngmaaGreat.Tab
open Go.RowKit Rw
theorem ask_cnt (ms : List Mat.E) (f t : Int) (zs : List Row.E) (H F : Int) : Row.cnt (ask ms f t zs H F) ≤ 2097152 ∧ (ask ms f t zs H F).length ≤ 2097152 := by
  unfold ask
  split
  · exact Row.ask_cnt ms f t zs
  · simp [Row.cnt, Row.cntTo]
end Go.Proofs.YtomncodkbcngmaaGreat.Tab

/- FnExactTableAsk returns true at all tables, matches and times. -/
namespace Go.Proofs.YtomncodkbcngmaaGreat
open Go.RowKit Rw
set_option linter.unusedVariables false
set_option maxRecDepth 100000 in
set_option maxHeartbeats 16000000 in
theorem fnExactTableAsk.walk (c0 : Tab.C) (x0 : Tab.E) (a1 : Option Addr) (len1 cap1 : Nat) (z1 : List Mat.E) (a2 : Int) (a3 : Int) (w : World) (w0 : Tab.Elem w c0 x0 ∧ Tab.good x0) (w1 : z1.length = len1 ∧ len1 ≤ maxLen ∧ Lies w (.slice a1 len1 cap1) len1 3 (Mat.flat z1) ∧ ∀ x ∈ z1, Mat.good x) (w2 : (Lit.int .i64 a2).wf = true) (w3 : (Lit.int .i64 a3).wf = true) :
    Calls Tryz.prog 3 #[.agg #[c0.1, c0.2.1, c0.2.2], .slice a1 len1 cap1, .int .i64 a2, .int .i64 a3] w fun e w' => e = .returned (.bool true) ∧ Below w.heap.size w w' := by
  obtain ⟨vv, cH, cF⟩ := c0
  obtain ⟨z0, H, F⟩ := x0
  obtain ⟨⟨s0, eH, eF⟩, hg0⟩ := w0
  simp only at s0 eH eF
  subst eH eF
  have g0 : ∀ x ∈ z0, Row.good x := hg0.1.2
  have m0 : z0.length ≤ maxLen := hg0.1.1
  obtain ⟨a0, len0, cap0, e0⟩ : ∃ a n c, vv = .slice a n c := by obtain ⟨cs, -, hL, -⟩ := s0; obtain ⟨-, a, c, e, -⟩ := hL; exact ⟨a, _, c, e⟩
  subst e0
  obtain ⟨e1, m1, h1, g1⟩ := w1
  have s1 : Mat.Is w (.slice a1 len1 cap1) z1 := by rw [← e1] at h1 ⊢; exact h1
  rw [← e1] at m1
  clear e1 h1
  obtain ⟨wa, hwa⟩ : ∃ wa, wa = w.alloc (.cells #[.slice a0 len0 cap0, .int .i64 H, .int .i64 F] 24) := ⟨_, rfl⟩
  have BA : Below w.heap.size w wa := by rw [hwa]; exact (Below.refl _ _).alloc (Nat.le_refl _) _
  have za : w.heap.size < wa.heap.size := by rw [hwa]; simp
  have A0 : wa.cell? ⟨w.heap.size, 0, none⟩ = some (.slice a0 len0 cap0) := by rw [hwa]; simp [go_sem]
  have A1 : wa.cell? ⟨w.heap.size, 1, none⟩ = some (.int .i64 H) := by rw [hwa]; simp [go_sem]
  have A2 : wa.cell? ⟨w.heap.size, 2, none⟩ = some (.int .i64 F) := by rw [hwa]; simp [go_sem]
  have HS0 := hide (fun W (hB : Below w.heap.size w W) (l : Int) (l0 : 0 ≤ l) (l1 : l ≤ 1048576) => Tab.szX (N1 := H) (N2 := F) l (s0.below hB) hg0 l0 l1)
  obtain ⟨t0, ht0⟩ : ∃ t, t = Row.tot z0 := ⟨_, rfl⟩
  rw [← ht0] at HS0
  have HT0 := hide ht0
  clear ht0
  have HS1 := hide (fun W (hB : Below w.heap.size w W) (l : Int) (l0 : 0 ≤ l) (l1 : l ≤ 1048576) => Mat.sz_any l (s1.below hB) m1 g1 l0 l1)
  obtain ⟨t1, ht1⟩ : ∃ t, t = Mat.tot z1 := ⟨_, rfl⟩
  rw [← ht1] at HS1
  have HT1 := hide ht1
  clear ht1
  by_cases hb0 : (1048576 : Int) - (t0 : Int) < 0
  · clear s0 g0 m0 s1 g1 m1 hg0
    go_enter Tryz.func3, Tryz.ntmps3
    go_wp2_with fail
    rw [← hwa]
    clear hwa
    refine (unhide HS0 _ BA (1048576) (by omega) (by omega)).mono ?_
    rintro e u0 ⟨rfl, b0⟩
    have d0 := BA.trans (b0.mono BA.size)
    have y0 := b0.size
    have A0_u0 := (b0.cell (p := ⟨w.heap.size, 0, none⟩) (by show w.heap.size < _; omega)).trans A0
    have A1_u0 := (b0.cell (p := ⟨w.heap.size, 1, none⟩) (by show w.heap.size < _; omega)).trans A1
    have A2_u0 := (b0.cell (p := ⟨w.heap.size, 2, none⟩) (by show w.heap.size < _; omega)).trans A2
    clear A0 A1 A2
    rw [if_pos (by omega)]
    go_wp2_with fail
    go_ret
    exact ⟨rfl, d0⟩
  by_cases hb1 : (1048576 : Int) - (t0 : Int) - (t1 : Int) < 0
  · clear s0 g0 m0 s1 g1 m1 hg0
    go_enter Tryz.func3, Tryz.ntmps3
    go_wp2_with fail
    rw [← hwa]
    clear hwa
    refine (unhide HS0 _ BA (1048576) (by omega) (by omega)).mono ?_
    rintro e u0 ⟨rfl, b0⟩
    have d0 := BA.trans (b0.mono BA.size)
    have y0 := b0.size
    have A0_u0 := (b0.cell (p := ⟨w.heap.size, 0, none⟩) (by show w.heap.size < _; omega)).trans A0
    have A1_u0 := (b0.cell (p := ⟨w.heap.size, 1, none⟩) (by show w.heap.size < _; omega)).trans A1
    have A2_u0 := (b0.cell (p := ⟨w.heap.size, 2, none⟩) (by show w.heap.size < _; omega)).trans A2
    clear A0 A1 A2
    rw [if_neg (by omega)]
    have n0 : decide (1048576 - (t0 : Int) < 0) = false := by simp; omega
    go_wp2_with fail
    refine (unhide HS1 _ d0 (1048576 - (t0 : Int)) (by omega) (by omega)).mono ?_
    rintro e u1 ⟨rfl, b1⟩
    have d1 := d0.trans (b1.mono d0.size)
    have y1 := b1.size
    have A0_u1 := (b1.cell (p := ⟨w.heap.size, 0, none⟩) (by show w.heap.size < _; omega)).trans A0_u0
    have A1_u1 := (b1.cell (p := ⟨w.heap.size, 1, none⟩) (by show w.heap.size < _; omega)).trans A1_u0
    have A2_u1 := (b1.cell (p := ⟨w.heap.size, 2, none⟩) (by show w.heap.size < _; omega)).trans A2_u0
    clear A0_u0 A1_u0 A2_u0
    rw [if_pos (by omega)]
    go_wp2_with fail
    go_ret
    exact ⟨rfl, d1⟩
  have T0 : Row.tot z0 ≤ 1048576 := by rw [← unhide HT0]; omega
  have HTo0 := hide (fun W (hB : Below w.heap.size w W) => Tab.toX H F (s0.below hB) T0)
  have HG0 := hide g0
  have HM0 := hide m0
  have HB0 := hide T0
  clear s0 g0 m0 T0 hg0
  have T1 : Mat.tot z1 ≤ 1048576 := by rw [← unhide HT1]; omega
  have HTo1 := hide (fun W (hB : Below w.heap.size w W) => Mat.toX (s1.below hB) T1)
  have HG1 := hide g1
  have HM1 := hide m1
  have HB1 := hide T1
  clear s1 g1 m1 T1
  have HRL := hide (show Row.cnt (Tab.ask z1 a2 a3 z0 H F) ≤ 2097152 ∧ (Tab.ask z1 a2 a3 z0 H F).length ≤ 2097152 from Tab.ask_cnt z1 a2 a3 z0 H F)
  obtain ⟨rz, hrz⟩ : ∃ r, r = Tab.ask z1 a2 a3 z0 H F := ⟨_, rfl⟩
  rw [← hrz] at HRL
  have HRZ := hide hrz
  clear hrz
  go_enter Tryz.func3, Tryz.ntmps3
  go_wp2_with fail
  rw [← hwa]
  clear hwa
  refine (unhide HS0 _ BA (1048576) (by omega) (by omega)).mono ?_
  rintro e u0 ⟨rfl, b0⟩
  have d0 := BA.trans (b0.mono BA.size)
  have y0 := b0.size
  have A0_u0 := (b0.cell (p := ⟨w.heap.size, 0, none⟩) (by show w.heap.size < _; omega)).trans A0
  have A1_u0 := (b0.cell (p := ⟨w.heap.size, 1, none⟩) (by show w.heap.size < _; omega)).trans A1
  have A2_u0 := (b0.cell (p := ⟨w.heap.size, 2, none⟩) (by show w.heap.size < _; omega)).trans A2
  clear A0 A1 A2
  rw [if_neg (by omega)]
  have n0 : decide (1048576 - (t0 : Int) < 0) = false := by simp; omega
  go_wp2_with fail
  refine (unhide HS1 _ d0 (1048576 - (t0 : Int)) (by omega) (by omega)).mono ?_
  rintro e u1 ⟨rfl, b1⟩
  have d1 := d0.trans (b1.mono d0.size)
  have y1 := b1.size
  have A0_u1 := (b1.cell (p := ⟨w.heap.size, 0, none⟩) (by show w.heap.size < _; omega)).trans A0_u0
  have A1_u1 := (b1.cell (p := ⟨w.heap.size, 1, none⟩) (by show w.heap.size < _; omega)).trans A1_u0
  have A2_u1 := (b1.cell (p := ⟨w.heap.size, 2, none⟩) (by show w.heap.size < _; omega)).trans A2_u0
  clear A0_u0 A1_u0 A2_u0
  rw [if_neg (by omega)]
  have n1 : decide (1048576 - (t0 : Int) - (t1 : Int) < 0) = false := by simp; omega
  clear b0 HS0 b1 HS1
  have z0' := d1.size
  go_wp2_with fail
  refine (unhide HTo0 _ d1).mono ?_
  rintro e w1 ⟨v_p0, rfl, on, bn⟩
  have c1 := d1.trans (bn.mono d1.size)
  have z1' := bn.size
  have A0_1 := (bn.cell (p := ⟨w.heap.size, 0, none⟩) (by show w.heap.size < _; omega)).trans A0_u1
  have A1_1 := (bn.cell (p := ⟨w.heap.size, 1, none⟩) (by show w.heap.size < _; omega)).trans A1_u1
  have A2_1 := (bn.cell (p := ⟨w.heap.size, 2, none⟩) (by show w.heap.size < _; omega)).trans A2_u1
  clear A0_u1 A1_u1 A2_u1
  obtain ⟨a_p0, l_p0, q_p0, rfl⟩ := Row.Own.form on
  have F_p0_1 := on
  clear on bn
  go_wp2_with fail
  refine (unhide HTo1 _ c1).mono ?_
  rintro e w2 ⟨v_p1, rfl, on, bn⟩
  have c2 := c1.trans (bn.mono c1.size)
  have z2' := bn.size
  have F_p0_2 := F_p0_1.below bn
  clear F_p0_1
  have A0_2 := (bn.cell (p := ⟨w.heap.size, 0, none⟩) (by show w.heap.size < _; omega)).trans A0_1
  have A1_2 := (bn.cell (p := ⟨w.heap.size, 1, none⟩) (by show w.heap.size < _; omega)).trans A1_1
  have A2_2 := (bn.cell (p := ⟨w.heap.size, 2, none⟩) (by show w.heap.size < _; omega)).trans A2_1
  clear A0_1 A1_1 A2_1
  obtain ⟨a_p1, l_p1, q_p1, rfl⟩ := Mat.Own.form on
  have F_p1_2 := on
  clear on bn
  go_wp2_with fail
  refine (Tab.spec_ask a2 a3 H F F_p0_2.is F_p1_2.is (unhide HG0) (unhide HM0) (unhide HG1) (unhide HM1)).mono ?_
  rintro e w3 ⟨v_w, rfl, on0, bn⟩
  rw [← unhide HRZ] at on0
  have on := on0
  clear on0
  have c3 := c2.trans (bn.mono c2.size)
  have z3' := bn.size
  have F_p0_3 := F_p0_2.below bn
  clear F_p0_2
  have F_p1_3 := F_p1_2.below bn
  clear F_p1_2
  have A0_3 := (bn.cell (p := ⟨w.heap.size, 0, none⟩) (by show w.heap.size < _; omega)).trans A0_2
  have A1_3 := (bn.cell (p := ⟨w.heap.size, 1, none⟩) (by show w.heap.size < _; omega)).trans A1_2
  have A2_3 := (bn.cell (p := ⟨w.heap.size, 2, none⟩) (by show w.heap.size < _; omega)).trans A2_2
  clear A0_2 A1_2 A2_2
  obtain ⟨a_w, l_w, q_w, rfl⟩ := Row.Own.form on
  have F_w_3 := on
  clear on bn
  clear F_p0_3
  clear F_p1_3
  go_wp2_with fail
  refine (unhide HTo0 _ c3).mono ?_
  rintro e w4 ⟨v_x0, rfl, on, bn⟩
  have c4 := c3.trans (bn.mono c3.size)
  have z4' := bn.size
  have F_w_4 := F_w_3.below bn
  clear F_w_3
  have A0_4 := (bn.cell (p := ⟨w.heap.size, 0, none⟩) (by show w.heap.size < _; omega)).trans A0_3
  have A1_4 := (bn.cell (p := ⟨w.heap.size, 1, none⟩) (by show w.heap.size < _; omega)).trans A1_3
  have A2_4 := (bn.cell (p := ⟨w.heap.size, 2, none⟩) (by show w.heap.size < _; omega)).trans A2_3
  clear A0_3 A1_3 A2_3
  obtain ⟨a_x0, l_x0, q_x0, rfl⟩ := Row.Own.form on
  have F_x0_4 := on
  clear on bn
  obtain ⟨w5, hw5⟩ : ∃ w', w' = w4.alloc (.cells #[.slice a_x0 l_x0 q_x0, .int .i64 H, .int .i64 F] 31) := ⟨_, rfl⟩
  have bn : Below w4.heap.size w4 w5 := by rw [hw5]; exact (Below.refl _ _).alloc (Nat.le_refl _) _
  have zz5 : w4.heap.size < w5.heap.size := by rw [hw5]; simp
  have X0_5 : w5.cell? ⟨w4.heap.size, 0, none⟩ = some (.slice a_x0 l_x0 q_x0) := by rw [hw5]; simp [go_sem]
  have X1_5 : w5.cell? ⟨w4.heap.size, 1, none⟩ = some (.int .i64 H) := by rw [hw5]; simp [go_sem]
  have X2_5 : w5.cell? ⟨w4.heap.size, 2, none⟩ = some (.int .i64 F) := by rw [hw5]; simp [go_sem]
  have c5 := c4.trans (bn.mono c4.size)
  have z5' := bn.size
  have F_w_5 := F_w_4.below bn
  clear F_w_4
  have F_x0_5 := F_x0_4.below bn
  clear F_x0_4
  have A0_5 := (bn.cell (p := ⟨w.heap.size, 0, none⟩) (by show w.heap.size < _; omega)).trans A0_4
  have A1_5 := (bn.cell (p := ⟨w.heap.size, 1, none⟩) (by show w.heap.size < _; omega)).trans A1_4
  have A2_5 := (bn.cell (p := ⟨w.heap.size, 2, none⟩) (by show w.heap.size < _; omega)).trans A2_4
  clear A0_4 A1_4 A2_4
  clear bn
  go_wp2_with fail
  rw [← hw5]
  clear hw5
  refine (unhide HTo1 _ c5).mono ?_
  rintro e w6 ⟨v_x1, rfl, on, bn⟩
  have c6 := c5.trans (bn.mono c5.size)
  have z6' := bn.size
  have F_w_6 := F_w_5.below bn
  clear F_w_5
  have F_x0_6 := F_x0_5.below bn
  clear F_x0_5
  have A0_6 := (bn.cell (p := ⟨w.heap.size, 0, none⟩) (by show w.heap.size < _; omega)).trans A0_5
  have A1_6 := (bn.cell (p := ⟨w.heap.size, 1, none⟩) (by show w.heap.size < _; omega)).trans A1_5
  have A2_6 := (bn.cell (p := ⟨w.heap.size, 2, none⟩) (by show w.heap.size < _; omega)).trans A2_5
  clear A0_5 A1_5 A2_5
  have X0_6 := (bn.cell (p := ⟨w4.heap.size, 0, none⟩) (by show w4.heap.size < _; omega)).trans X0_5
  have X1_6 := (bn.cell (p := ⟨w4.heap.size, 1, none⟩) (by show w4.heap.size < _; omega)).trans X1_5
  have X2_6 := (bn.cell (p := ⟨w4.heap.size, 2, none⟩) (by show w4.heap.size < _; omega)).trans X2_5
  clear X0_5 X1_5 X2_5
  obtain ⟨a_x1, l_x1, q_x1, rfl⟩ := Mat.Own.form on
  have F_x1_6 := on
  clear on bn
  go_wp2_with fail
  refine (Tab.impl_ask a2 a3 H F F_x0_6.is F_x1_6.is (unhide HG0) (unhide HM0) (unhide HG1) (unhide HM1)).mono ?_
  rintro e w7 ⟨v_g, rfl, on0, bn⟩
  rw [← unhide HRZ] at on0
  have on := on0
  clear on0
  have c7 := c6.trans (bn.mono c6.size)
  have z7' := bn.size
  have F_w_7 := F_w_6.below bn
  clear F_w_6
  have F_x0_7 := F_x0_6.below bn
  clear F_x0_6
  have F_x1_7 := F_x1_6.below bn
  clear F_x1_6
  have A0_7 := (bn.cell (p := ⟨w.heap.size, 0, none⟩) (by show w.heap.size < _; omega)).trans A0_6
  have A1_7 := (bn.cell (p := ⟨w.heap.size, 1, none⟩) (by show w.heap.size < _; omega)).trans A1_6
  have A2_7 := (bn.cell (p := ⟨w.heap.size, 2, none⟩) (by show w.heap.size < _; omega)).trans A2_6
  clear A0_6 A1_6 A2_6
  have X0_7 := (bn.cell (p := ⟨w4.heap.size, 0, none⟩) (by show w4.heap.size < _; omega)).trans X0_6
  have X1_7 := (bn.cell (p := ⟨w4.heap.size, 1, none⟩) (by show w4.heap.size < _; omega)).trans X1_6
  have X2_7 := (bn.cell (p := ⟨w4.heap.size, 2, none⟩) (by show w4.heap.size < _; omega)).trans X2_6
  clear X0_6 X1_6 X2_6
  obtain ⟨a_g, l_g, q_g, rfl⟩ := Row.Own.form on
  have F_g_7 := on
  clear on bn
  go_wp2_with fail
  refine (Row.eqX F_g_7.is F_w_7.is).mono ?_
  rintro e w8 ⟨rfl, bn⟩
  have c8 := c7.trans (bn.mono c7.size)
  have z8' := bn.size
  have F_w_8 := F_w_7.below bn
  clear F_w_7
  have F_x0_8 := F_x0_7.below bn
  clear F_x0_7
  have F_x1_8 := F_x1_7.below bn
  clear F_x1_7
  have F_g_8 := F_g_7.below bn
  clear F_g_7
  have A0_8 := (bn.cell (p := ⟨w.heap.size, 0, none⟩) (by show w.heap.size < _; omega)).trans A0_7
  have A1_8 := (bn.cell (p := ⟨w.heap.size, 1, none⟩) (by show w.heap.size < _; omega)).trans A1_7
  have A2_8 := (bn.cell (p := ⟨w.heap.size, 2, none⟩) (by show w.heap.size < _; omega)).trans A2_7
  clear A0_7 A1_7 A2_7
  have X0_8 := (bn.cell (p := ⟨w4.heap.size, 0, none⟩) (by show w4.heap.size < _; omega)).trans X0_7
  have X1_8 := (bn.cell (p := ⟨w4.heap.size, 1, none⟩) (by show w4.heap.size < _; omega)).trans X1_7
  have X2_8 := (bn.cell (p := ⟨w4.heap.size, 2, none⟩) (by show w4.heap.size < _; omega)).trans X2_7
  clear X0_7 X1_7 X2_7
  clear bn
  have S6 : (fun W : World => W.cell? ⟨w.heap.size, 0, none⟩ = some (.slice a0 len0 cap0) ∧ W.cell? ⟨w.heap.size, 1, none⟩ = some (.int .i64 H) ∧ W.cell? ⟨w.heap.size, 2, none⟩ = some (.int .i64 F) ∧ W.cell? ⟨w4.heap.size, 0, none⟩ = some (.slice a_x0 l_x0 q_x0) ∧ W.cell? ⟨w4.heap.size, 1, none⟩ = some (.int .i64 H) ∧ W.cell? ⟨w4.heap.size, 2, none⟩ = some (.int .i64 F)) w8.drew := ⟨by simpa using A0_8, by simpa using A1_8, by simpa using A2_8, by simpa using X0_8, by simpa using X1_8, by simpa using X2_8⟩
  have cd := c8.drew
  have HT6 := hide (unhide HTo0 w8.drew cd)
  have FX := F_x0_8.is.below (Below.refl w8.heap.size w8).drew
  go_wp2_with fail
  go_region_held3 (fun W => W.cell? ⟨w.heap.size, 0, none⟩ = some (.slice a0 len0 cap0) ∧ W.cell? ⟨w.heap.size, 1, none⟩ = some (.int .i64 H) ∧ W.cell? ⟨w.heap.size, 2, none⟩ = some (.int .i64 F) ∧ W.cell? ⟨w4.heap.size, 0, none⟩ = some (.slice a_x0 l_x0 q_x0) ∧ W.cell? ⟨w4.heap.size, 1, none⟩ = some (.int .i64 H) ∧ W.cell? ⟨w4.heap.size, 2, none⟩ = some (.int .i64 F)) (first | exact S6 | exact S7 | exact S8) ((first | (go_at_call 10; refine (unhide HT6).mono ?_; rintro e w7' ⟨vq, rfl, oq, b7⟩; have z7 := b7.size; simp only [World.size_drew] at z7; have S7 : (fun W : World => W.cell? ⟨w.heap.size, 0, none⟩ = some (.slice a0 len0 cap0) ∧ W.cell? ⟨w.heap.size, 1, none⟩ = some (.int .i64 H) ∧ W.cell? ⟨w.heap.size, 2, none⟩ = some (.int .i64 F) ∧ W.cell? ⟨w4.heap.size, 0, none⟩ = some (.slice a_x0 l_x0 q_x0) ∧ W.cell? ⟨w4.heap.size, 1, none⟩ = some (.int .i64 H) ∧ W.cell? ⟨w4.heap.size, 2, none⟩ = some (.int .i64 F)) w7' := ⟨(b7.cell (p := ⟨w.heap.size, 0, none⟩) (by simp; omega)).trans S6.1, (b7.cell (p := ⟨w.heap.size, 1, none⟩) (by simp; omega)).trans S6.2.1, (b7.cell (p := ⟨w.heap.size, 2, none⟩) (by simp; omega)).trans S6.2.2.1, (b7.cell (p := ⟨w4.heap.size, 0, none⟩) (by simp; omega)).trans S6.2.2.2.1, (b7.cell (p := ⟨w4.heap.size, 1, none⟩) (by simp; omega)).trans S6.2.2.2.2.1, (b7.cell (p := ⟨w4.heap.size, 2, none⟩) (by simp; omega)).trans S6.2.2.2.2.2⟩) | (go_at_call 14; refine (Tab.eqX (FX.below b7) oq.is).mono ?_; rintro e w8' ⟨rfl, b8⟩; have z8 := b8.size; have S8 : (fun W : World => W.cell? ⟨w.heap.size, 0, none⟩ = some (.slice a0 len0 cap0) ∧ W.cell? ⟨w.heap.size, 1, none⟩ = some (.int .i64 H) ∧ W.cell? ⟨w.heap.size, 2, none⟩ = some (.int .i64 F) ∧ W.cell? ⟨w4.heap.size, 0, none⟩ = some (.slice a_x0 l_x0 q_x0) ∧ W.cell? ⟨w4.heap.size, 1, none⟩ = some (.int .i64 H) ∧ W.cell? ⟨w4.heap.size, 2, none⟩ = some (.int .i64 F)) w8' := ⟨(b8.cell (p := ⟨w.heap.size, 0, none⟩) (by simp; omega)).trans S7.1, (b8.cell (p := ⟨w.heap.size, 1, none⟩) (by simp; omega)).trans S7.2.1, (b8.cell (p := ⟨w.heap.size, 2, none⟩) (by simp; omega)).trans S7.2.2.1, (b8.cell (p := ⟨w4.heap.size, 0, none⟩) (by simp; omega)).trans S7.2.2.2.1, (b8.cell (p := ⟨w4.heap.size, 1, none⟩) (by simp; omega)).trans S7.2.2.2.2.1, (b8.cell (p := ⟨w4.heap.size, 2, none⟩) (by simp; omega)).trans S7.2.2.2.2.2⟩)))
  obtain ⟨w9, hw9⟩ : ∃ w', w' = w8' := ⟨_, rfl⟩
  subst hw9
  have bn : Below w8.heap.size w8 w9 := ((Below.refl w8.heap.size w8).drew.trans b7).trans (b8.mono (by simpa using b7.size))
  clear S6 S7 S8 HT6 FX oq cd b7 b8
  have c9 := c8.trans (bn.mono c8.size)
  have z9' := bn.size
  have F_w_9 := F_w_8.below bn
  clear F_w_8
  have F_x0_9 := F_x0_8.below bn
  clear F_x0_8
  have F_x1_9 := F_x1_8.below bn
  clear F_x1_8
  have F_g_9 := F_g_8.below bn
  clear F_g_8
  have A0_9 := (bn.cell (p := ⟨w.heap.size, 0, none⟩) (by show w.heap.size < _; omega)).trans A0_8
  have A1_9 := (bn.cell (p := ⟨w.heap.size, 1, none⟩) (by show w.heap.size < _; omega)).trans A1_8
  have A2_9 := (bn.cell (p := ⟨w.heap.size, 2, none⟩) (by show w.heap.size < _; omega)).trans A2_8
  clear A0_8 A1_8 A2_8
  have X0_9 := (bn.cell (p := ⟨w4.heap.size, 0, none⟩) (by show w4.heap.size < _; omega)).trans X0_8
  have X1_9 := (bn.cell (p := ⟨w4.heap.size, 1, none⟩) (by show w4.heap.size < _; omega)).trans X1_8
  have X2_9 := (bn.cell (p := ⟨w4.heap.size, 2, none⟩) (by show w4.heap.size < _; omega)).trans X2_8
  clear X0_8 X1_8 X2_8
  clear bn
  go_wp2_with fail
  refine (unhide HTo1 _ c9).mono ?_
  rintro e w10 ⟨v_r1, rfl, on, bn⟩
  have c10 := c9.trans (bn.mono c9.size)
  have z10' := bn.size
  have F_w_10 := F_w_9.below bn
  clear F_w_9
  have F_x0_10 := F_x0_9.below bn
  clear F_x0_9
  have F_x1_10 := F_x1_9.below bn
  clear F_x1_9
  have F_g_10 := F_g_9.below bn
  clear F_g_9
  have A0_10 := (bn.cell (p := ⟨w.heap.size, 0, none⟩) (by show w.heap.size < _; omega)).trans A0_9
  have A1_10 := (bn.cell (p := ⟨w.heap.size, 1, none⟩) (by show w.heap.size < _; omega)).trans A1_9
  have A2_10 := (bn.cell (p := ⟨w.heap.size, 2, none⟩) (by show w.heap.size < _; omega)).trans A2_9
  clear A0_9 A1_9 A2_9
  have X0_10 := (bn.cell (p := ⟨w4.heap.size, 0, none⟩) (by show w4.heap.size < _; omega)).trans X0_9
  have X1_10 := (bn.cell (p := ⟨w4.heap.size, 1, none⟩) (by show w4.heap.size < _; omega)).trans X1_9
  have X2_10 := (bn.cell (p := ⟨w4.heap.size, 2, none⟩) (by show w4.heap.size < _; omega)).trans X2_9
  clear X0_9 X1_9 X2_9
  obtain ⟨a_r1, l_r1, q_r1, rfl⟩ := Mat.Own.form on
  have F_r1_10 := on
  clear on bn
  go_wp2_with fail
  refine (Mat.eqX F_x1_10.is F_r1_10.is).mono ?_
  rintro e w11 ⟨rfl, bn⟩
  have c11 := c10.trans (bn.mono c10.size)
  have z11' := bn.size
  have F_w_11 := F_w_10.below bn
  clear F_w_10
  have F_x0_11 := F_x0_10.below bn
  clear F_x0_10
  have F_x1_11 := F_x1_10.below bn
  clear F_x1_10
  have F_g_11 := F_g_10.below bn
  clear F_g_10
  have F_r1_11 := F_r1_10.below bn
  clear F_r1_10
  have A0_11 := (bn.cell (p := ⟨w.heap.size, 0, none⟩) (by show w.heap.size < _; omega)).trans A0_10
  have A1_11 := (bn.cell (p := ⟨w.heap.size, 1, none⟩) (by show w.heap.size < _; omega)).trans A1_10
  have A2_11 := (bn.cell (p := ⟨w.heap.size, 2, none⟩) (by show w.heap.size < _; omega)).trans A2_10
  clear A0_10 A1_10 A2_10
  have X0_11 := (bn.cell (p := ⟨w4.heap.size, 0, none⟩) (by show w4.heap.size < _; omega)).trans X0_10
  have X1_11 := (bn.cell (p := ⟨w4.heap.size, 1, none⟩) (by show w4.heap.size < _; omega)).trans X1_10
  have X2_11 := (bn.cell (p := ⟨w4.heap.size, 2, none⟩) (by show w4.heap.size < _; omega)).trans X2_10
  clear X0_10 X1_10 X2_10
  clear bn
  clear F_r1_11
  go_wp2_with fail
  refine (Tab.markA (N1 := H) (N2 := F) 1 (by omega) (by omega) (unhide HB0) F_x0_11).mono ?_
  rintro e w12 ⟨k0, rfl, ka0, kb0, zn⟩
  clear F_x0_11
  have c12 := c11.trans (zn.below (by omega) (by omega))
  have z12' := zn.size
  have F_w_12 := F_w_11.zone zn (by omega)
  clear F_w_11
  have F_x1_12 := F_x1_11.zone zn (by omega)
  clear F_x1_11
  have F_g_12 := F_g_11.zone zn (by omega)
  clear F_g_11
  have A0_12 := (World.cell?_of_block (a := ⟨w.heap.size, 0, none⟩) (zn.block w.heap.size (by omega) (by omega))).trans A0_11
  have A1_12 := (World.cell?_of_block (a := ⟨w.heap.size, 1, none⟩) (zn.block w.heap.size (by omega) (by omega))).trans A1_11
  have A2_12 := (World.cell?_of_block (a := ⟨w.heap.size, 2, none⟩) (zn.block w.heap.size (by omega) (by omega))).trans A2_11
  clear A0_11 A1_11 A2_11
  have X0_12 := (World.cell?_of_block (a := ⟨w4.heap.size, 0, none⟩) (zn.block w4.heap.size (by omega) (by omega))).trans X0_11
  have X1_12 := (World.cell?_of_block (a := ⟨w4.heap.size, 1, none⟩) (zn.block w4.heap.size (by omega) (by omega))).trans X1_11
  have X2_12 := (World.cell?_of_block (a := ⟨w4.heap.size, 2, none⟩) (zn.block w4.heap.size (by omega) (by omega))).trans X2_11
  clear X0_11 X1_11 X2_11
  clear zn
  go_wp2_with fail
  refine (Mat.markA k0 (by omega) (by omega) (unhide HB1) F_x1_12).mono ?_
  rintro e w13 ⟨k1, rfl, ka1, kb1, zn⟩
  clear F_x1_12
  have c13 := c12.trans (zn.below (by omega) (by omega))
  have z13' := zn.size
  have F_w_13 := F_w_12.zone zn (by omega)
  clear F_w_12
  have F_g_13 := F_g_12.zone zn (by omega)
  clear F_g_12
  have A0_13 := (World.cell?_of_block (a := ⟨w.heap.size, 0, none⟩) (zn.block w.heap.size (by omega) (by omega))).trans A0_12
  have A1_13 := (World.cell?_of_block (a := ⟨w.heap.size, 1, none⟩) (zn.block w.heap.size (by omega) (by omega))).trans A1_12
  have A2_13 := (World.cell?_of_block (a := ⟨w.heap.size, 2, none⟩) (zn.block w.heap.size (by omega) (by omega))).trans A2_12
  clear A0_12 A1_12 A2_12
  have X0_13 := (World.cell?_of_block (a := ⟨w4.heap.size, 0, none⟩) (zn.block w4.heap.size (by omega) (by omega))).trans X0_12
  have X1_13 := (World.cell?_of_block (a := ⟨w4.heap.size, 1, none⟩) (zn.block w4.heap.size (by omega) (by omega))).trans X1_12
  have X2_13 := (World.cell?_of_block (a := ⟨w4.heap.size, 2, none⟩) (zn.block w4.heap.size (by omega) (by omega))).trans X2_12
  clear X0_12 X1_12 X2_12
  clear zn
  have hkn : decide ((k1 : Int) < 0) = false := by simp
  go_wp2_with fail
  refine (Row.eqX F_g_13.is F_w_13.is).mono ?_
  rintro e w14 ⟨rfl, bn⟩
  have c14 := c13.trans (bn.mono c13.size)
  have z14' := bn.size
  have F_w_14 := F_w_13.below bn
  clear F_w_13
  have F_g_14 := F_g_13.below bn
  clear F_g_13
  have A0_14 := (bn.cell (p := ⟨w.heap.size, 0, none⟩) (by show w.heap.size < _; omega)).trans A0_13
  have A1_14 := (bn.cell (p := ⟨w.heap.size, 1, none⟩) (by show w.heap.size < _; omega)).trans A1_13
  have A2_14 := (bn.cell (p := ⟨w.heap.size, 2, none⟩) (by show w.heap.size < _; omega)).trans A2_13
  clear A0_13 A1_13 A2_13
  have X0_14 := (bn.cell (p := ⟨w4.heap.size, 0, none⟩) (by show w4.heap.size < _; omega)).trans X0_13
  have X1_14 := (bn.cell (p := ⟨w4.heap.size, 1, none⟩) (by show w4.heap.size < _; omega)).trans X1_13
  have X2_14 := (bn.cell (p := ⟨w4.heap.size, 2, none⟩) (by show w4.heap.size < _; omega)).trans X2_13
  clear X0_13 X1_13 X2_13
  clear bn
  clear hkn
  go_wp2_with fail
  refine (Row.markX 1 (by omega) (by omega) (unhide HRL) F_g_14).mono ?_
  rintro e w15 ⟨km, rfl, ekm, on, zn⟩
  clear F_g_14
  have c15 := c14.trans (zn.below (by omega) (by omega))
  have z15' := zn.size
  have F_w_15 := F_w_14.zone zn (by omega)
  clear F_w_14
  have A0_15 := (World.cell?_of_block (a := ⟨w.heap.size, 0, none⟩) (zn.block w.heap.size (by omega) (by omega))).trans A0_14
  have A1_15 := (World.cell?_of_block (a := ⟨w.heap.size, 1, none⟩) (zn.block w.heap.size (by omega) (by omega))).trans A1_14
  have A2_15 := (World.cell?_of_block (a := ⟨w.heap.size, 2, none⟩) (zn.block w.heap.size (by omega) (by omega))).trans A2_14
  clear A0_14 A1_14 A2_14
  have X0_15 := (World.cell?_of_block (a := ⟨w4.heap.size, 0, none⟩) (zn.block w4.heap.size (by omega) (by omega))).trans X0_14
  have X1_15 := (World.cell?_of_block (a := ⟨w4.heap.size, 1, none⟩) (zn.block w4.heap.size (by omega) (by omega))).trans X1_14
  have X2_15 := (World.cell?_of_block (a := ⟨w4.heap.size, 2, none⟩) (zn.block w4.heap.size (by omega) (by omega))).trans X2_14
  clear X0_14 X1_14 X2_14
  have F_g_15 := on
  have HKM := hide ekm
  clear on zn ekm
  go_wp2_with fail
  refine (Row.heldX 1 (by omega) (by omega) (unhide HRL) F_g_15.is).mono ?_
  rintro e w16 ⟨kq, rfl, ekq, bn⟩
  obtain rfl : kq = km := by rw [ekq, unhide HKM]
  have c16 := c15.trans (bn.mono c15.size)
  have z16' := bn.size
  have F_w_16 := F_w_15.below bn
  clear F_w_15
  have F_g_16 := F_g_15.below bn
  clear F_g_15
  have A0_16 := (bn.cell (p := ⟨w.heap.size, 0, none⟩) (by show w.heap.size < _; omega)).trans A0_15
  have A1_16 := (bn.cell (p := ⟨w.heap.size, 1, none⟩) (by show w.heap.size < _; omega)).trans A1_15
  have A2_16 := (bn.cell (p := ⟨w.heap.size, 2, none⟩) (by show w.heap.size < _; omega)).trans A2_15
  clear A0_15 A1_15 A2_15
  have X0_16 := (bn.cell (p := ⟨w4.heap.size, 0, none⟩) (by show w4.heap.size < _; omega)).trans X0_15
  have X1_16 := (bn.cell (p := ⟨w4.heap.size, 1, none⟩) (by show w4.heap.size < _; omega)).trans X1_15
  have X2_16 := (bn.cell (p := ⟨w4.heap.size, 2, none⟩) (by show w4.heap.size < _; omega)).trans X2_15
  clear X0_15 X1_15 X2_15
  clear bn ekq
  have hkn : decide ((kq : Int) < 0) = false := by simp
  have HKM' := hide (unhide HKM)
  go_wp2_with fail
  refine (unhide HTo0 _ c16).mono ?_
  rintro e w17 ⟨v_b0, rfl, on, bn⟩
  have c17 := c16.trans (bn.mono c16.size)
  have z17' := bn.size
  have F_w_17 := F_w_16.below bn
  clear F_w_16
  have F_g_17 := F_g_16.below bn
  clear F_g_16
  have A0_17 := (bn.cell (p := ⟨w.heap.size, 0, none⟩) (by show w.heap.size < _; omega)).trans A0_16
  have A1_17 := (bn.cell (p := ⟨w.heap.size, 1, none⟩) (by show w.heap.size < _; omega)).trans A1_16
  have A2_17 := (bn.cell (p := ⟨w.heap.size, 2, none⟩) (by show w.heap.size < _; omega)).trans A2_16
  clear A0_16 A1_16 A2_16
  have X0_17 := (bn.cell (p := ⟨w4.heap.size, 0, none⟩) (by show w4.heap.size < _; omega)).trans X0_16
  have X1_17 := (bn.cell (p := ⟨w4.heap.size, 1, none⟩) (by show w4.heap.size < _; omega)).trans X1_16
  have X2_17 := (bn.cell (p := ⟨w4.heap.size, 2, none⟩) (by show w4.heap.size < _; omega)).trans X2_16
  clear X0_16 X1_16 X2_16
  obtain ⟨a_b0, l_b0, q_b0, rfl⟩ := Row.Own.form on
  have F_b0_17 := on
  clear on bn
  go_wp2_with fail
  refine (unhide HTo1 _ c17).mono ?_
  rintro e w18 ⟨v_b1, rfl, on, bn⟩
  have c18 := c17.trans (bn.mono c17.size)
  have z18' := bn.size
  have F_w_18 := F_w_17.below bn
  clear F_w_17
  have F_g_18 := F_g_17.below bn
  clear F_g_17
  have F_b0_18 := F_b0_17.below bn
  clear F_b0_17
  have A0_18 := (bn.cell (p := ⟨w.heap.size, 0, none⟩) (by show w.heap.size < _; omega)).trans A0_17
  have A1_18 := (bn.cell (p := ⟨w.heap.size, 1, none⟩) (by show w.heap.size < _; omega)).trans A1_17
  have A2_18 := (bn.cell (p := ⟨w.heap.size, 2, none⟩) (by show w.heap.size < _; omega)).trans A2_17
  clear A0_17 A1_17 A2_17
  have X0_18 := (bn.cell (p := ⟨w4.heap.size, 0, none⟩) (by show w4.heap.size < _; omega)).trans X0_17
  have X1_18 := (bn.cell (p := ⟨w4.heap.size, 1, none⟩) (by show w4.heap.size < _; omega)).trans X1_17
  have X2_18 := (bn.cell (p := ⟨w4.heap.size, 2, none⟩) (by show w4.heap.size < _; omega)).trans X2_17
  clear X0_17 X1_17 X2_17
  obtain ⟨a_b1, l_b1, q_b1, rfl⟩ := Mat.Own.form on
  have F_b1_18 := on
  clear on bn
  go_wp2_with fail
  refine (Tab.impl_ask a2 a3 H F F_b0_18.is F_b1_18.is (unhide HG0) (unhide HM0) (unhide HG1) (unhide HM1)).mono ?_
  rintro e w19 ⟨v_h, rfl, on0, bn⟩
  rw [← unhide HRZ] at on0
  have on := on0
  clear on0
  have c19 := c18.trans (bn.mono c18.size)
  have z19' := bn.size
  have F_w_19 := F_w_18.below bn
  clear F_w_18
  have F_g_19 := F_g_18.below bn
  clear F_g_18
  have F_b0_19 := F_b0_18.below bn
  clear F_b0_18
  have F_b1_19 := F_b1_18.below bn
  clear F_b1_18
  have A0_19 := (bn.cell (p := ⟨w.heap.size, 0, none⟩) (by show w.heap.size < _; omega)).trans A0_18
  have A1_19 := (bn.cell (p := ⟨w.heap.size, 1, none⟩) (by show w.heap.size < _; omega)).trans A1_18
  have A2_19 := (bn.cell (p := ⟨w.heap.size, 2, none⟩) (by show w.heap.size < _; omega)).trans A2_18
  clear A0_18 A1_18 A2_18
  have X0_19 := (bn.cell (p := ⟨w4.heap.size, 0, none⟩) (by show w4.heap.size < _; omega)).trans X0_18
  have X1_19 := (bn.cell (p := ⟨w4.heap.size, 1, none⟩) (by show w4.heap.size < _; omega)).trans X1_18
  have X2_19 := (bn.cell (p := ⟨w4.heap.size, 2, none⟩) (by show w4.heap.size < _; omega)).trans X2_18
  clear X0_18 X1_18 X2_18
  obtain ⟨a_h, l_h, q_h, rfl⟩ := Row.Own.form on
  have F_h_19 := on
  clear on bn
  clear F_b0_19
  clear F_b1_19
  go_wp2_with fail
  refine (Row.eqX F_h_19.is F_w_19.is).mono ?_
  rintro e w20 ⟨rfl, bn⟩
  have c20 := c19.trans (bn.mono c19.size)
  have z20' := bn.size
  have F_w_20 := F_w_19.below bn
  clear F_w_19
  have F_g_20 := F_g_19.below bn
  clear F_g_19
  have F_h_20 := F_h_19.below bn
  clear F_h_19
  have A0_20 := (bn.cell (p := ⟨w.heap.size, 0, none⟩) (by show w.heap.size < _; omega)).trans A0_19
  have A1_20 := (bn.cell (p := ⟨w.heap.size, 1, none⟩) (by show w.heap.size < _; omega)).trans A1_19
  have A2_20 := (bn.cell (p := ⟨w.heap.size, 2, none⟩) (by show w.heap.size < _; omega)).trans A2_19
  clear A0_19 A1_19 A2_19
  have X0_20 := (bn.cell (p := ⟨w4.heap.size, 0, none⟩) (by show w4.heap.size < _; omega)).trans X0_19
  have X1_20 := (bn.cell (p := ⟨w4.heap.size, 1, none⟩) (by show w4.heap.size < _; omega)).trans X1_19
  have X2_20 := (bn.cell (p := ⟨w4.heap.size, 2, none⟩) (by show w4.heap.size < _; omega)).trans X2_19
  clear X0_19 X1_19 X2_19
  clear bn
  clear F_h_20
  go_wp2_with fail
  refine (Row.heldX 1 (by omega) (by omega) (unhide HRL) F_g_20.is).mono ?_
  rintro e w21 ⟨kr, rfl, ekr, bn⟩
  obtain rfl : kr = kq := by rw [ekr, unhide HKM']
  have c21 := c20.trans (bn.mono c20.size)
  have z21' := bn.size
  have F_w_21 := F_w_20.below bn
  clear F_w_20
  have F_g_21 := F_g_20.below bn
  clear F_g_20
  have A0_21 := (bn.cell (p := ⟨w.heap.size, 0, none⟩) (by show w.heap.size < _; omega)).trans A0_20
  have A1_21 := (bn.cell (p := ⟨w.heap.size, 1, none⟩) (by show w.heap.size < _; omega)).trans A1_20
  have A2_21 := (bn.cell (p := ⟨w.heap.size, 2, none⟩) (by show w.heap.size < _; omega)).trans A2_20
  clear A0_20 A1_20 A2_20
  have X0_21 := (bn.cell (p := ⟨w4.heap.size, 0, none⟩) (by show w4.heap.size < _; omega)).trans X0_20
  have X1_21 := (bn.cell (p := ⟨w4.heap.size, 1, none⟩) (by show w4.heap.size < _; omega)).trans X1_20
  have X2_21 := (bn.cell (p := ⟨w4.heap.size, 2, none⟩) (by show w4.heap.size < _; omega)).trans X2_20
  clear X0_20 X1_20 X2_20
  clear bn ekr
  have hkn' : decide ((kr : Int) < 0) = false := by simp
  go_wp2_with fail
  go_ret
  exact ⟨rfl, c21⟩
end Go.Proofs.YtomncodkbcngmaaGreat
