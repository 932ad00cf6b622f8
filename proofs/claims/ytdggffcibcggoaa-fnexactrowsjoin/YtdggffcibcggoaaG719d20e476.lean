/- My own texts of one claim, laid together by program: FnExactRowsJoinWalk. -/
import Derived.Test.YtdggffcibcggoaaG84d38cb819
import Derived.Test.YtdggffcibcggoaaGf5841956af
/- FnExactRowsJoin returns true at all rows, twice. -/
namespace Go.Proofs.Ytdggffcibcggoaa
open Go.RowKit Rw
set_option linter.unusedVariables false
set_option maxRecDepth 100000 in
set_option maxHeartbeats 8000000 in
theorem fnExactRowsJoin.walk (a0 : Option Addr) (len0 cap0 : Nat) (z0 : List Row.E) (a1 : Option Addr) (len1 cap1 : Nat) (z1 : List Row.E) (w : World) (w0 : z0.length = len0 ∧ len0 ≤ maxLen ∧ Row.Is w (.slice a0 len0 cap0) z0 ∧ ∀ x ∈ z0, Row.good x) (w1 : z1.length = len1 ∧ len1 ≤ maxLen ∧ Row.Is w (.slice a1 len1 cap1) z1 ∧ ∀ x ∈ z1, Row.good x) :
    Calls Try.prog 3 #[.slice a0 len0 cap0, .slice a1 len1 cap1] w fun e w' => e = .returned (.bool true) ∧ Below w.heap.size w w' := by
  obtain ⟨e0, m0, h0, g0⟩ := w0
  have s0 : Row.Is w (.slice a0 len0 cap0) z0 := h0
  rw [← e0] at m0
  clear e0 h0
  obtain ⟨e1, m1, h1, g1⟩ := w1
  have s1 : Row.Is w (.slice a1 len1 cap1) z1 := h1
  rw [← e1] at m1
  clear e1 h1
  have HS0 := hide (fun W (hB : Below w.heap.size w W) (l : Int) (l0 : 0 ≤ l) (l1 : l ≤ 1048576) => Row.sz_any l (s0.below hB) m0 g0 l0 l1)
  obtain ⟨t0, ht0⟩ : ∃ t, t = Row.tot z0 := ⟨_, rfl⟩
  rw [← ht0] at HS0
  have HT0 := hide ht0
  clear ht0
  have HS1 := hide (fun W (hB : Below w.heap.size w W) (l : Int) (l0 : 0 ≤ l) (l1 : l ≤ 1048576) => Row.sz_any l (s1.below hB) m1 g1 l0 l1)
  obtain ⟨t1, ht1⟩ : ∃ t, t = Row.tot z1 := ⟨_, rfl⟩
  rw [← ht1] at HS1
  have HT1 := hide ht1
  clear ht1
  by_cases hb0 : (1048576 : Int) - (t0 : Int) < 0
  · clear s0 g0 m0 s1 g1 m1
    go_enter Try.func3, Try.ntmps3
    go_wp2_with fail
    refine (unhide HS0 _ (Below.refl w.heap.size w) (1048576) (by omega) (by omega)).mono ?_
    rintro e u0 ⟨rfl, b0⟩
    have d0 := (Below.refl w.heap.size w).trans (b0.mono (Below.refl w.heap.size w).size)
    rw [if_pos (by omega)]
    go_wp2_with fail
    go_ret
    exact ⟨rfl, d0⟩
  by_cases hb1 : (1048576 : Int) - (t0 : Int) - (t1 : Int) < 0
  · clear s0 g0 m0 s1 g1 m1
    go_enter Try.func3, Try.ntmps3
    go_wp2_with fail
    refine (unhide HS0 _ (Below.refl w.heap.size w) (1048576) (by omega) (by omega)).mono ?_
    rintro e u0 ⟨rfl, b0⟩
    have d0 := (Below.refl w.heap.size w).trans (b0.mono (Below.refl w.heap.size w).size)
    rw [if_neg (by omega)]
    have n0 : decide (1048576 - (t0 : Int) < 0) = false := by simp; omega
    go_wp2_with fail
    refine (unhide HS1 _ d0 (1048576 - (t0 : Int)) (by omega) (by omega)).mono ?_
    rintro e u1 ⟨rfl, b1⟩
    have d1 := d0.trans (b1.mono d0.size)
    rw [if_pos (by omega)]
    go_wp2_with fail
    go_ret
    exact ⟨rfl, d1⟩
  have T0 : Row.tot z0 ≤ 1048576 := by rw [← unhide HT0]; omega
  have HTo0 := hide (fun W (hB : Below w.heap.size w W) => Row.toX (s0.below hB) T0)
  have HG0 := hide g0
  have HM0 := hide m0
  have HB0 := hide T0
  clear s0 g0 m0 T0
  have T1 : Row.tot z1 ≤ 1048576 := by rw [← unhide HT1]; omega
  have HTo1 := hide (fun W (hB : Below w.heap.size w W) => Row.toX (s1.below hB) T1)
  have HG1 := hide g1
  have HM1 := hide m1
  have HB1 := hide T1
  clear s1 g1 m1 T1
  have HRL := hide (show Row.cnt ((Row.join z0 z1).1) ≤ 2097152 ∧ ((Row.join z0 z1).1).length ≤ 2097152 from Row.join_cnt z0 z1)
  obtain ⟨rz, hrz⟩ : ∃ r, r = (Row.join z0 z1).1 := ⟨_, rfl⟩
  rw [← hrz] at HRL
  have HRZ := hide hrz
  clear hrz
  obtain ⟨bz, hbz⟩ : ∃ b, b = (Row.join z0 z1).2 := ⟨_, rfl⟩
  have HBZ := hide hbz
  clear hbz
  have hbb : (bz != bz) = false := by simp
  go_enter Try.func3, Try.ntmps3
  go_wp2_with fail
  refine (unhide HS0 _ (Below.refl w.heap.size w) (1048576) (by omega) (by omega)).mono ?_
  rintro e u0 ⟨rfl, b0⟩
  have d0 := (Below.refl w.heap.size w).trans (b0.mono (Below.refl w.heap.size w).size)
  rw [if_neg (by omega)]
  have n0 : decide (1048576 - (t0 : Int) < 0) = false := by simp; omega
  go_wp2_with fail
  refine (unhide HS1 _ d0 (1048576 - (t0 : Int)) (by omega) (by omega)).mono ?_
  rintro e u1 ⟨rfl, b1⟩
  have d1 := d0.trans (b1.mono d0.size)
  rw [if_neg (by omega)]
  have n1 : decide (1048576 - (t0 : Int) - (t1 : Int) < 0) = false := by simp; omega
  have y0 := b0.size
  have y1 := b1.size
  clear b0 HS0 b1 HS1
  have z0 := d1.size
  go_wp2_with fail
  refine (unhide HTo0 _ d1).mono ?_
  rintro e w1 ⟨v_p0, rfl, on, bn⟩
  have c1 := d1.trans (bn.mono d1.size)
  have z1 := bn.size
  obtain ⟨a_p0, l_p0, q_p0, rfl⟩ := Row.Own.form on
  have F_p0_1 := on
  clear on bn
  go_wp2_with fail
  refine (unhide HTo1 _ c1).mono ?_
  rintro e w2 ⟨v_p1, rfl, on, bn⟩
  have c2 := c1.trans (bn.mono c1.size)
  have z2 := bn.size
  have F_p0_2 := F_p0_1.below bn
  clear F_p0_1
  obtain ⟨a_p1, l_p1, q_p1, rfl⟩ := Row.Own.form on
  have F_p1_2 := on
  clear on bn
  go_wp2_with fail
  refine (Row.spec_join F_p0_2.is F_p1_2.is (unhide HG0) (unhide HM0) (unhide HG1) (unhide HM1)).mono ?_
  rintro e w3 ⟨v_w, ee, on0, bn⟩
  rw [← unhide HBZ] at ee
  subst ee
  rw [← unhide HRZ] at on0
  have on := on0
  clear on0
  have c3 := c2.trans (bn.mono c2.size)
  have z3 := bn.size
  have F_p0_3 := F_p0_2.below bn
  clear F_p0_2
  have F_p1_3 := F_p1_2.below bn
  clear F_p1_2
  obtain ⟨a_w, l_w, q_w, rfl⟩ := Row.Own.form on
  have F_w_3 := on
  clear on bn
  clear F_p0_3
  clear F_p1_3
  go_wp2_with fail
  refine (unhide HTo0 _ c3).mono ?_
  rintro e w4 ⟨v_x0, rfl, on, bn⟩
  have c4 := c3.trans (bn.mono c3.size)
  have z4 := bn.size
  have F_w_4 := F_w_3.below bn
  clear F_w_3
  obtain ⟨a_x0, l_x0, q_x0, rfl⟩ := Row.Own.form on
  have F_x0_4 := on
  clear on bn
  go_wp2_with fail
  refine (unhide HTo1 _ c4).mono ?_
  rintro e w5 ⟨v_x1, rfl, on, bn⟩
  have c5 := c4.trans (bn.mono c4.size)
  have z5 := bn.size
  have F_w_5 := F_w_4.below bn
  clear F_w_4
  have F_x0_5 := F_x0_4.below bn
  clear F_x0_4
  obtain ⟨a_x1, l_x1, q_x1, rfl⟩ := Row.Own.form on
  have F_x1_5 := on
  clear on bn
  go_wp2_with fail
  refine (Row.impl_join F_x0_5.is F_x1_5.is (unhide HG0) (unhide HM0) (unhide HG1) (unhide HM1)).mono ?_
  rintro e w6 ⟨v_g, ee, on0, bn⟩
  rw [← unhide HBZ] at ee
  subst ee
  rw [← unhide HRZ] at on0
  have on := on0
  clear on0
  have c6 := c5.trans (bn.mono c5.size)
  have z6 := bn.size
  have F_w_6 := F_w_5.below bn
  clear F_w_5
  have F_x0_6 := F_x0_5.below bn
  clear F_x0_5
  have F_x1_6 := F_x1_5.below bn
  clear F_x1_5
  obtain ⟨a_g, l_g, q_g, rfl⟩ := Row.Own.form on
  have F_g_6 := on
  clear on bn
  go_wp2_with fail
  refine (Row.eqX F_g_6.is F_w_6.is).mono ?_
  rintro e w7 ⟨rfl, bn⟩
  have c7 := c6.trans (bn.mono c6.size)
  have z7 := bn.size
  have F_w_7 := F_w_6.below bn
  clear F_w_6
  have F_x0_7 := F_x0_6.below bn
  clear F_x0_6
  have F_x1_7 := F_x1_6.below bn
  clear F_x1_6
  have F_g_7 := F_g_6.below bn
  clear F_g_6
  clear bn
  go_wp2_with fail
  refine (unhide HTo0 _ c7).mono ?_
  rintro e w8 ⟨v_r0, rfl, on, bn⟩
  have c8 := c7.trans (bn.mono c7.size)
  have z8 := bn.size
  have F_w_8 := F_w_7.below bn
  clear F_w_7
  have F_x0_8 := F_x0_7.below bn
  clear F_x0_7
  have F_x1_8 := F_x1_7.below bn
  clear F_x1_7
  have F_g_8 := F_g_7.below bn
  clear F_g_7
  obtain ⟨a_r0, l_r0, q_r0, rfl⟩ := Row.Own.form on
  have F_r0_8 := on
  clear on bn
  go_wp2_with fail
  refine (Row.eqX F_x0_8.is F_r0_8.is).mono ?_
  rintro e w9 ⟨rfl, bn⟩
  have c9 := c8.trans (bn.mono c8.size)
  have z9 := bn.size
  have F_w_9 := F_w_8.below bn
  clear F_w_8
  have F_x0_9 := F_x0_8.below bn
  clear F_x0_8
  have F_x1_9 := F_x1_8.below bn
  clear F_x1_8
  have F_g_9 := F_g_8.below bn
  clear F_g_8
  have F_r0_9 := F_r0_8.below bn
  clear F_r0_8
  clear bn
  clear F_r0_9
  go_wp2_with fail
  refine (unhide HTo1 _ c9).mono ?_
  rintro e w10 ⟨v_r1, rfl, on, bn⟩
  have c10 := c9.trans (bn.mono c9.size)
  have z10 := bn.size
  have F_w_10 := F_w_9.below bn
  clear F_w_9
  have F_x0_10 := F_x0_9.below bn
  clear F_x0_9
  have F_x1_10 := F_x1_9.below bn
  clear F_x1_9
  have F_g_10 := F_g_9.below bn
  clear F_g_9
  obtain ⟨a_r1, l_r1, q_r1, rfl⟩ := Row.Own.form on
  have F_r1_10 := on
  clear on bn
  go_wp2_with fail
  refine (Row.eqX F_x1_10.is F_r1_10.is).mono ?_
  rintro e w11 ⟨rfl, bn⟩
  have c11 := c10.trans (bn.mono c10.size)
  have z11 := bn.size
  have F_w_11 := F_w_10.below bn
  clear F_w_10
  have F_x0_11 := F_x0_10.below bn
  clear F_x0_10
  have F_x1_11 := F_x1_10.below bn
  clear F_x1_10
  have F_g_11 := F_g_10.below bn
  clear F_g_10
  have F_r1_11 := F_r1_10.below bn
  clear F_r1_10
  clear bn
  clear F_r1_11
  go_wp2_with fail
  refine (Row.markA 1 (by omega) (by omega) (unhide HB0) F_x0_11).mono ?_
  rintro e w12 ⟨k0, rfl, ka0, kb0, zn⟩
  clear F_x0_11
  have c12 := c11.trans (zn.below (by omega) (by omega))
  have z12 := zn.size
  have F_w_12 := F_w_11.zone zn (by omega)
  clear F_w_11
  have F_x1_12 := F_x1_11.zone zn (by omega)
  clear F_x1_11
  have F_g_12 := F_g_11.zone zn (by omega)
  clear F_g_11
  clear zn
  go_wp2_with fail
  refine (Row.markA k0 (by omega) (by omega) (unhide HB1) F_x1_12).mono ?_
  rintro e w13 ⟨k1, rfl, ka1, kb1, zn⟩
  clear F_x1_12
  have c13 := c12.trans (zn.below (by omega) (by omega))
  have z13 := zn.size
  have F_w_13 := F_w_12.zone zn (by omega)
  clear F_w_12
  have F_g_13 := F_g_12.zone zn (by omega)
  clear F_g_12
  clear zn
  have hkn : decide ((k1 : Int) < 0) = false := by simp
  go_wp2_with fail
  refine (Row.eqX F_g_13.is F_w_13.is).mono ?_
  rintro e w14 ⟨rfl, bn⟩
  have c14 := c13.trans (bn.mono c13.size)
  have z14 := bn.size
  have F_w_14 := F_w_13.below bn
  clear F_w_13
  have F_g_14 := F_g_13.below bn
  clear F_g_13
  clear bn
  clear hkn
  go_wp2_with fail
  refine (Row.markX 1 (by omega) (by omega) (unhide HRL) F_g_14).mono ?_
  rintro e w15 ⟨km, rfl, ekm, on, zn⟩
  clear F_g_14
  have c15 := c14.trans (zn.below (by omega) (by omega))
  have z15 := zn.size
  have F_w_15 := F_w_14.zone zn (by omega)
  clear F_w_14
  have F_g_15 := on
  have HKM := hide ekm
  clear on zn ekm
  go_wp2_with fail
  refine (Row.heldX 1 (by omega) (by omega) (unhide HRL) F_g_15.is).mono ?_
  rintro e w16 ⟨kq, rfl, ekq, bn⟩
  obtain rfl : kq = km := by rw [ekq, unhide HKM]
  have c16 := c15.trans (bn.mono c15.size)
  have z16 := bn.size
  have F_w_16 := F_w_15.below bn
  clear F_w_15
  have F_g_16 := F_g_15.below bn
  clear F_g_15
  clear bn ekq
  have hkn : decide ((kq : Int) < 0) = false := by simp
  have HKM' := hide (unhide HKM)
  go_wp2_with fail
  refine (unhide HTo0 _ c16).mono ?_
  rintro e w17 ⟨v_b0, rfl, on, bn⟩
  have c17 := c16.trans (bn.mono c16.size)
  have z17 := bn.size
  have F_w_17 := F_w_16.below bn
  clear F_w_16
  have F_g_17 := F_g_16.below bn
  clear F_g_16
  obtain ⟨a_b0, l_b0, q_b0, rfl⟩ := Row.Own.form on
  have F_b0_17 := on
  clear on bn
  go_wp2_with fail
  refine (unhide HTo1 _ c17).mono ?_
  rintro e w18 ⟨v_b1, rfl, on, bn⟩
  have c18 := c17.trans (bn.mono c17.size)
  have z18 := bn.size
  have F_w_18 := F_w_17.below bn
  clear F_w_17
  have F_g_18 := F_g_17.below bn
  clear F_g_17
  have F_b0_18 := F_b0_17.below bn
  clear F_b0_17
  obtain ⟨a_b1, l_b1, q_b1, rfl⟩ := Row.Own.form on
  have F_b1_18 := on
  clear on bn
  go_wp2_with fail
  refine (Row.impl_join F_b0_18.is F_b1_18.is (unhide HG0) (unhide HM0) (unhide HG1) (unhide HM1)).mono ?_
  rintro e w19 ⟨v_h, ee, on0, bn⟩
  rw [← unhide HBZ] at ee
  subst ee
  rw [← unhide HRZ] at on0
  have on := on0
  clear on0
  have c19 := c18.trans (bn.mono c18.size)
  have z19 := bn.size
  have F_w_19 := F_w_18.below bn
  clear F_w_18
  have F_g_19 := F_g_18.below bn
  clear F_g_18
  have F_b0_19 := F_b0_18.below bn
  clear F_b0_18
  have F_b1_19 := F_b1_18.below bn
  clear F_b1_18
  obtain ⟨a_h, l_h, q_h, rfl⟩ := Row.Own.form on
  have F_h_19 := on
  clear on bn
  clear F_b0_19
  clear F_b1_19
  go_wp2_with fail
  refine (Row.eqX F_h_19.is F_w_19.is).mono ?_
  rintro e w20 ⟨rfl, bn⟩
  have c20 := c19.trans (bn.mono c19.size)
  have z20 := bn.size
  have F_w_20 := F_w_19.below bn
  clear F_w_19
  have F_g_20 := F_g_19.below bn
  clear F_g_19
  have F_h_20 := F_h_19.below bn
  clear F_h_19
  clear bn
  clear F_h_20
  go_wp2_with fail
  refine (Row.heldX 1 (by omega) (by omega) (unhide HRL) F_g_20.is).mono ?_
  rintro e w21 ⟨kr, rfl, ekr, bn⟩
  obtain rfl : kr = kq := by rw [ekr, unhide HKM']
  have c21 := c20.trans (bn.mono c20.size)
  have z21 := bn.size
  have F_w_21 := F_w_20.below bn
  clear F_w_20
  have F_g_21 := F_g_20.below bn
  clear F_g_20
  clear bn ekr
  have hkn' : decide ((kr : Int) < 0) = false := by simp
  go_wp2_with fail
  go_ret
  exact ⟨rfl, c21⟩
end Go.Proofs.Ytdggffcibcggoaa
