/- FnExactWins returns true at every slice of samples, all times and every step. -/
import Derived.Test.YtogdllkbiibicaaWinWins2
import Derived.Test.YtogdllkbiibicaaWinUni
import Derived.Test.YtogdllkbiibicaaSamUni
namespace Go.Proofs.Ytogdllkbiibicaa
open Go.RowKit Rw
set_option linter.unusedVariables false
set_option maxRecDepth 100000 in
set_option maxHeartbeats 8000000 in
theorem fnExactWins.walk (a0 : Option Addr) (len0 cap0 : Nat) (z0 : List Sam.E) (a1 : Int) (a2 : Int) (a3 : Int) (w : World) (w0 : z0.length = len0 ∧ len0 ≤ maxLen ∧ Lies w (.slice a0 len0 cap0) len0 2 (Sam.flat z0) ∧ ∀ x ∈ z0, Sam.good x) (w1 : (Lit.int .i64 a1).wf = true) (w2 : (Lit.int .i64 a2).wf = true) (w3 : (Lit.int .i64 a3).wf = true) :
    Calls Try.prog 5 #[.slice a0 len0 cap0, .int .i64 a1, .int .i64 a2, .int .i64 a3] w fun e w' => e = .returned (.bool true) ∧ Below w.heap.size w w' := by
  obtain ⟨e0, m0, h0, g0⟩ := w0
  have s0 : Sam.Is w (.slice a0 len0 cap0) z0 := by rw [← e0] at h0 ⊢; exact h0
  rw [← e0] at m0
  clear e0 h0
  have HS0 := hide (fun W (hB : Below w.heap.size w W) (l : Int) (l0 : 0 ≤ l) (l1 : l ≤ 1048576) => Sam.sz_any l (s0.below hB) m0 g0 l0 l1)
  obtain ⟨t0, ht0⟩ : ∃ t, t = Sam.tot z0 := ⟨_, rfl⟩
  rw [← ht0] at HS0
  have HT0 := hide ht0
  clear ht0
  by_cases hb0 : (1048576 : Int) - (t0 : Int) < 0
  · clear s0 g0 m0
    go_enter Try.func5, Try.ntmps5
    go_wp2_with fail
    refine (unhide HS0 _ (Below.refl w.heap.size w) (1048576) (by omega) (by omega)).mono ?_
    rintro e u0 ⟨rfl, b0⟩
    have d0 := (Below.refl w.heap.size w).trans (b0.mono (Below.refl w.heap.size w).size)
    rw [if_pos (by omega)]
    go_wp2_with fail
    go_ret
    exact ⟨rfl, d0⟩
  have T0 : Sam.tot z0 ≤ 1048576 := by rw [← unhide HT0]; omega
  have HTo0 := hide (fun W (hB : Below w.heap.size w W) => Sam.toX (s0.below hB) T0)
  have HG0 := hide g0
  have HM0 := hide m0
  have HB0 := hide T0
  clear s0 g0 m0 T0
  have HRL := hide (show (WinM.wins z0 a1 a2 a3).length ≤ 2097152 from Nat.le_trans (WinM.wins_len z0 a1 a2 a3) (by decide))
  obtain ⟨rz, hrz⟩ : ∃ r, r = WinM.wins z0 a1 a2 a3 := ⟨_, rfl⟩
  rw [← hrz] at HRL
  have HRZ := hide hrz
  clear hrz
  go_enter Try.func5, Try.ntmps5
  go_wp2_with fail
  refine (unhide HS0 _ (Below.refl w.heap.size w) (1048576) (by omega) (by omega)).mono ?_
  rintro e u0 ⟨rfl, b0⟩
  have d0 := (Below.refl w.heap.size w).trans (b0.mono (Below.refl w.heap.size w).size)
  rw [if_neg (by omega)]
  have n0 : decide (1048576 - (t0 : Int) < 0) = false := by simp; omega
  have y0 := b0.size
  clear b0 HS0
  have z0 := d0.size
  go_wp2_with fail
  refine (unhide HTo0 _ d0).mono ?_
  rintro e w1 ⟨v_p0, rfl, on, bn⟩
  have c1 := d0.trans (bn.mono d0.size)
  have z1 := bn.size
  obtain ⟨a_p0, l_p0, q_p0, rfl⟩ := Sam.Own.form on
  have F_p0_1 := on
  clear on bn
  go_wp2_with fail
  refine (WinM.spec_wins a1 a2 a3 F_p0_1.is (Nat.le_trans (unhide HB0) (by decide))).mono ?_
  rintro e w2 ⟨v_w, rfl, on0, bn⟩
  rw [← unhide HRZ] at on0
  have on := Win.Own.of on0
  clear on0
  have c2 := c1.trans (bn.mono c1.size)
  have z2 := bn.size
  have F_p0_2 := F_p0_1.below bn
  clear F_p0_1
  obtain ⟨a_w, l_w, q_w, rfl⟩ := Win.Own.form on
  have F_w_2 := on
  clear on bn
  clear F_p0_2
  go_wp2_with fail
  refine (unhide HTo0 _ c2).mono ?_
  rintro e w3 ⟨v_x0, rfl, on, bn⟩
  have c3 := c2.trans (bn.mono c2.size)
  have z3 := bn.size
  have F_w_3 := F_w_2.below bn
  clear F_w_2
  obtain ⟨a_x0, l_x0, q_x0, rfl⟩ := Sam.Own.form on
  have F_x0_3 := on
  clear on bn
  go_wp2_with fail
  refine (WinM.impl_wins a1 a2 a3 F_x0_3.is (Nat.le_trans (unhide HB0) (by decide))).mono ?_
  rintro e w4 ⟨v_g, rfl, on0, bn⟩
  rw [← unhide HRZ] at on0
  have on := Win.Own.of on0
  clear on0
  have c4 := c3.trans (bn.mono c3.size)
  have z4 := bn.size
  have F_w_4 := F_w_3.below bn
  clear F_w_3
  have F_x0_4 := F_x0_3.below bn
  clear F_x0_3
  obtain ⟨a_g, l_g, q_g, rfl⟩ := Win.Own.form on
  have F_g_4 := on
  clear on bn
  go_wp2_with fail
  refine (Win.eqX F_g_4.is F_w_4.is).mono ?_
  rintro e w5 ⟨rfl, bn⟩
  have c5 := c4.trans (bn.mono c4.size)
  have z5 := bn.size
  have F_w_5 := F_w_4.below bn
  clear F_w_4
  have F_x0_5 := F_x0_4.below bn
  clear F_x0_4
  have F_g_5 := F_g_4.below bn
  clear F_g_4
  clear bn
  go_wp2_with fail
  refine (unhide HTo0 _ c5).mono ?_
  rintro e w6 ⟨v_r0, rfl, on, bn⟩
  have c6 := c5.trans (bn.mono c5.size)
  have z6 := bn.size
  have F_w_6 := F_w_5.below bn
  clear F_w_5
  have F_x0_6 := F_x0_5.below bn
  clear F_x0_5
  have F_g_6 := F_g_5.below bn
  clear F_g_5
  obtain ⟨a_r0, l_r0, q_r0, rfl⟩ := Sam.Own.form on
  have F_r0_6 := on
  clear on bn
  go_wp2_with fail
  refine (Sam.eqX F_x0_6.is F_r0_6.is).mono ?_
  rintro e w7 ⟨rfl, bn⟩
  have c7 := c6.trans (bn.mono c6.size)
  have z7 := bn.size
  have F_w_7 := F_w_6.below bn
  clear F_w_6
  have F_x0_7 := F_x0_6.below bn
  clear F_x0_6
  have F_g_7 := F_g_6.below bn
  clear F_g_6
  have F_r0_7 := F_r0_6.below bn
  clear F_r0_6
  clear bn
  clear F_r0_7
  go_wp2_with fail
  refine (Sam.markA 1 (by omega) (by omega) (unhide HB0) F_x0_7).mono ?_
  rintro e w8 ⟨k0, rfl, ka0, kb0, zn⟩
  clear F_x0_7
  have c8 := c7.trans (zn.below (by omega) (by omega))
  have z8 := zn.size
  have F_w_8 := F_w_7.zone zn (by omega)
  clear F_w_7
  have F_g_8 := F_g_7.zone zn (by omega)
  clear F_g_7
  clear zn
  have hkn : decide ((k0 : Int) < 0) = false := by simp
  go_wp2_with fail
  refine (Win.eqX F_g_8.is F_w_8.is).mono ?_
  rintro e w9 ⟨rfl, bn⟩
  have c9 := c8.trans (bn.mono c8.size)
  have z9 := bn.size
  have F_w_9 := F_w_8.below bn
  clear F_w_8
  have F_g_9 := F_g_8.below bn
  clear F_g_8
  clear bn
  clear hkn
  go_wp2_with fail
  refine (Win.markX 1 (by omega) (by omega) (unhide HRL) F_g_9).mono ?_
  rintro e w10 ⟨km, rfl, ekm, on, zn⟩
  clear F_g_9
  have c10 := c9.trans (zn.below (by omega) (by omega))
  have z10 := zn.size
  have F_w_10 := F_w_9.zone zn (by omega)
  clear F_w_9
  have F_g_10 := on
  have HKM := hide ekm
  clear on zn ekm
  go_wp2_with fail
  refine (Win.heldX 1 (by omega) (by omega) (unhide HRL) F_g_10.is).mono ?_
  rintro e w11 ⟨kq, rfl, ekq, bn⟩
  obtain rfl : kq = km := by rw [ekq, unhide HKM]
  have c11 := c10.trans (bn.mono c10.size)
  have z11 := bn.size
  have F_w_11 := F_w_10.below bn
  clear F_w_10
  have F_g_11 := F_g_10.below bn
  clear F_g_10
  clear bn ekq
  have hkn : decide ((kq : Int) < 0) = false := by simp
  have HKM' := hide (unhide HKM)
  go_wp2_with fail
  refine (unhide HTo0 _ c11).mono ?_
  rintro e w12 ⟨v_b0, rfl, on, bn⟩
  have c12 := c11.trans (bn.mono c11.size)
  have z12 := bn.size
  have F_w_12 := F_w_11.below bn
  clear F_w_11
  have F_g_12 := F_g_11.below bn
  clear F_g_11
  obtain ⟨a_b0, l_b0, q_b0, rfl⟩ := Sam.Own.form on
  have F_b0_12 := on
  clear on bn
  go_wp2_with fail
  refine (WinM.impl_wins a1 a2 a3 F_b0_12.is (Nat.le_trans (unhide HB0) (by decide))).mono ?_
  rintro e w13 ⟨v_h, rfl, on0, bn⟩
  rw [← unhide HRZ] at on0
  have on := Win.Own.of on0
  clear on0
  have c13 := c12.trans (bn.mono c12.size)
  have z13 := bn.size
  have F_w_13 := F_w_12.below bn
  clear F_w_12
  have F_g_13 := F_g_12.below bn
  clear F_g_12
  have F_b0_13 := F_b0_12.below bn
  clear F_b0_12
  obtain ⟨a_h, l_h, q_h, rfl⟩ := Win.Own.form on
  have F_h_13 := on
  clear on bn
  clear F_b0_13
  go_wp2_with fail
  refine (Win.eqX F_h_13.is F_w_13.is).mono ?_
  rintro e w14 ⟨rfl, bn⟩
  have c14 := c13.trans (bn.mono c13.size)
  have z14 := bn.size
  have F_w_14 := F_w_13.below bn
  clear F_w_13
  have F_g_14 := F_g_13.below bn
  clear F_g_13
  have F_h_14 := F_h_13.below bn
  clear F_h_13
  clear bn
  clear F_h_14
  go_wp2_with fail
  refine (Win.heldX 1 (by omega) (by omega) (unhide HRL) F_g_14.is).mono ?_
  rintro e w15 ⟨kr, rfl, ekr, bn⟩
  obtain rfl : kr = kq := by rw [ekr, unhide HKM']
  have c15 := c14.trans (bn.mono c14.size)
  have z15 := bn.size
  have F_w_15 := F_w_14.below bn
  clear F_w_14
  have F_g_15 := F_g_14.below bn
  clear F_g_14
  clear bn ekr
  have hkn' : decide ((kr : Int) < 0) = false := by simp
  go_wp2_with fail
  go_ret
  exact ⟨rfl, c15⟩
end Go.Proofs.Ytogdllkbiibicaa
