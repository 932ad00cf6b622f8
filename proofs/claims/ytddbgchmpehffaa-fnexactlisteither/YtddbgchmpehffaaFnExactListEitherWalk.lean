/- FnExactListEither returns true at every two slices of ints. -/
import Derived.Test.YtddbgchmpehffaaIntsPut
namespace Go.Proofs.Ytddbgchmpehffaa
open Go.RowKit ListMath Rw Ints
set_option linter.unusedVariables false
set_option maxHeartbeats 4000000 in
theorem fnExactListEither.walk (a0 : Option Addr) (len0 cap0 : Nat) (z0 : List Int) (a1 : Option Addr) (len1 cap1 : Nat) (z1 : List Int) (w : World) (w0 : IsRow .i64 w a0 len0 cap0 z0) (w1 : IsRow .i64 w a1 len1 cap1 z1) :
    Calls Try.prog 8 #[.slice a0 len0 cap0, .slice a1 len1 cap1] w fun e w' => e = .returned (.bool true) ∧ Below w.heap.size w w' := by
  obtain ⟨h3, hI⟩ := row_is w0
  obtain ⟨g3, gI⟩ := row_is w1
  clear w0 w1
  generalize z0.take len0 = z at *
  generalize z1.take len1 = y at *
  subst h3 g3
  by_cases hb : 1048576 < z.length
  · have hd : decide ((1048576 : Int) < (z.length : Int)) = true := by simp; omega
    clear hI gI
    go_enter Try.func8, Try.ntmps8
    go_wp2_with fail
    go_ret
    exact ⟨rfl, Below.refl _ _⟩
  by_cases hb1 : 1048576 < y.length
  · have hd : decide ((1048576 : Int) < (z.length : Int)) = false := by simp; omega
    have hd1 : decide ((1048576 : Int) < (y.length : Int)) = true := by simp; omega
    clear hI gI
    go_enter Try.func8, Try.ntmps8
    go_wp2_with fail
    go_ret
    exact ⟨rfl, Below.refl _ _⟩
  have hd : decide ((1048576 : Int) < (z.length : Int)) = false := by simp; omega
  have hd1 : decide ((1048576 : Int) < (y.length : Int)) = false := by simp; omega
  have zl : z.length ≤ 4194304 := by omega
  have yl : y.length ≤ 4194304 := by omega
  have zl8 : z.length ≤ 8388608 := by omega
  have yl8 : y.length ≤ 8388608 := by omega
  have hcl : (res either z y).length ≤ 8388608 := by have := res_le either z y; omega
  have HTo := hide (fun W (hB : Below w.heap.size w W) => to_any (hI.below hB) zl)
  have HTo1 := hide (fun W (hB : Below w.heap.size w W) => to_any (gI.below hB) yl)
  clear hI gI
  go_enter Try.func8, Try.ntmps8
  go_wp2_with fail
  clear hd hd1
  refine (unhide HTo _ (Below.refl _ _)).mono ?_
  rintro e w1 ⟨rfl, on, bn⟩
  have c1 := bn
  have z1 := bn.size
  have o_p_1 := on
  have ge_p := own_ge o_p_1
  have lt_p := own_block_lt o_p_1
  clear bn on
  go_wp2_with fail
  refine (unhide HTo1 _ c1).mono ?_
  rintro e w2 ⟨rfl, on, bn⟩
  have c2 := c1.trans (bn.mono c1.size)
  have z2 := bn.size
  have o_p_2 := own_below o_p_1 bn
  clear o_p_1
  have o_q_2 := on
  have ge_q := own_ge o_q_2
  have lt_q := own_block_lt o_q_2
  clear bn on
  go_wp2_with fail
  refine (spec_either (is_of_own o_p_2) (is_of_own o_q_2) zl yl).mono ?_
  rintro e w3 ⟨v_w, rfl, on, bn⟩
  have c3 := c2.trans (bn.mono c2.size)
  have z3 := bn.size
  have o_p_3 := own_below o_p_2 bn
  clear o_p_2
  have o_q_3 := own_below o_q_2 bn
  clear o_q_2
  have o_w_3 := on
  have ge_w := own_ge o_w_3
  have lt_w := own_block_lt o_w_3
  clear bn on
  go_wp2_with fail
  clear o_p_3
  clear o_q_3
  refine (unhide HTo _ c3).mono ?_
  rintro e w4 ⟨rfl, on, bn⟩
  have c4 := c3.trans (bn.mono c3.size)
  have z4 := bn.size
  have o_w_4 := own_below o_w_3 bn
  clear o_w_3
  have o_x_4 := on
  have ge_x := own_ge o_x_4
  have lt_x := own_block_lt o_x_4
  clear bn on
  go_wp2_with fail
  refine (unhide HTo1 _ c4).mono ?_
  rintro e w5 ⟨rfl, on, bn⟩
  have c5 := c4.trans (bn.mono c4.size)
  have z5 := bn.size
  have o_w_5 := own_below o_w_4 bn
  clear o_w_4
  have o_x_5 := own_below o_x_4 bn
  clear o_x_4
  have o_y_5 := on
  have ge_y := own_ge o_y_5
  have lt_y := own_block_lt o_y_5
  clear bn on
  go_wp2_with fail
  refine (impl_either (is_of_own o_x_5) (is_of_own o_y_5) zl yl).mono ?_
  rintro e w6 ⟨v_g, rfl, on, bn⟩
  have c6 := c5.trans (bn.mono c5.size)
  have z6 := bn.size
  have o_w_6 := own_below o_w_5 bn
  clear o_w_5
  have o_x_6 := own_below o_x_5 bn
  clear o_x_5
  have o_y_6 := own_below o_y_5 bn
  clear o_y_5
  have o_g_6 := on
  have ge_g := own_ge o_g_6
  have lt_g := own_block_lt o_g_6
  clear bn on
  go_wp2_with fail
  refine (eq_any (is_of_own o_g_6) (is_of_own o_w_6)).mono ?_
  rintro e w7 ⟨rfl, bn⟩
  have c7 := c6.trans (bn.mono c6.size)
  have z7 := bn.size
  have o_w_7 := own_below o_w_6 bn
  clear o_w_6
  have o_x_7 := own_below o_x_6 bn
  clear o_x_6
  have o_y_7 := own_below o_y_6 bn
  clear o_y_6
  have o_g_7 := own_below o_g_6 bn
  clear o_g_6
  clear bn
  go_wp2_with fail
  refine (unhide HTo _ c7).mono ?_
  rintro e w8 ⟨rfl, on, bn⟩
  have c8 := c7.trans (bn.mono c7.size)
  have z8 := bn.size
  have o_w_8 := own_below o_w_7 bn
  clear o_w_7
  have o_x_8 := own_below o_x_7 bn
  clear o_x_7
  have o_y_8 := own_below o_y_7 bn
  clear o_y_7
  have o_g_8 := own_below o_g_7 bn
  clear o_g_7
  have o_r_8 := on
  have ge_r := own_ge o_r_8
  have lt_r := own_block_lt o_r_8
  clear bn on
  go_wp2_with fail
  refine (eq_any (is_of_own o_x_8) (is_of_own o_r_8)).mono ?_
  rintro e w9 ⟨rfl, bn⟩
  have c9 := c8.trans (bn.mono c8.size)
  have z9 := bn.size
  have o_w_9 := own_below o_w_8 bn
  clear o_w_8
  have o_x_9 := own_below o_x_8 bn
  clear o_x_8
  have o_y_9 := own_below o_y_8 bn
  clear o_y_8
  have o_g_9 := own_below o_g_8 bn
  clear o_g_8
  have o_r_9 := own_below o_r_8 bn
  clear o_r_8
  clear bn
  go_wp2_with fail
  clear o_r_9
  refine (unhide HTo1 _ c9).mono ?_
  rintro e w10 ⟨rfl, on, bn⟩
  have c10 := c9.trans (bn.mono c9.size)
  have z10 := bn.size
  have o_w_10 := own_below o_w_9 bn
  clear o_w_9
  have o_x_10 := own_below o_x_9 bn
  clear o_x_9
  have o_y_10 := own_below o_y_9 bn
  clear o_y_9
  have o_g_10 := own_below o_g_9 bn
  clear o_g_9
  have o_t_10 := on
  have ge_t := own_ge o_t_10
  have lt_t := own_block_lt o_t_10
  clear bn on
  go_wp2_with fail
  refine (eq_any (is_of_own o_y_10) (is_of_own o_t_10)).mono ?_
  rintro e w11 ⟨rfl, bn⟩
  have c11 := c10.trans (bn.mono c10.size)
  have z11 := bn.size
  have o_w_11 := own_below o_w_10 bn
  clear o_w_10
  have o_x_11 := own_below o_x_10 bn
  clear o_x_10
  have o_y_11 := own_below o_y_10 bn
  clear o_y_10
  have o_g_11 := own_below o_g_10 bn
  clear o_g_10
  have o_t_11 := own_below o_t_10 bn
  clear o_t_10
  clear bn
  go_wp2_with fail
  clear o_t_11
  refine (mark_any 1 (by omega) (by omega) zl8 o_x_11).mono ?_
  rintro e w12 ⟨rfl, om, bn, zn, kn, jn⟩
  have o_w_12 := jn _ _ _ _ o_w_11 (fun k hk e => by have := lt_w k hk; have := ge_x k e; omega)
  clear o_w_11
  have o_y_12 := jn _ _ _ _ o_y_11 (fun k hk e => by have := ge_y k hk; have := lt_x k e; omega)
  clear o_y_11
  have o_g_12 := jn _ _ _ _ o_g_11 (fun k hk e => by have := ge_g k hk; have := lt_x k e; omega)
  clear o_g_11
  have c12 := c11.trans (bn.mono (by have := c3.size; omega))
  have z12 := Nat.le_of_eq zn.symm
  have s_mx_12 := own_marks om
  have ge_mx := ge_x
  have lt_mx := lt_x
  clear bn kn jn zn om
  go_wp2_with fail
  clear s_mx_12
  refine (mark_any (1 + (z.length : Int)) (by omega) (by omega) yl8 o_y_12).mono ?_
  rintro e w13 ⟨rfl, om, bn, zn, kn, jn⟩
  have o_w_13 := jn _ _ _ _ o_w_12 (fun k hk e => by have := lt_w k hk; have := ge_y k e; omega)
  clear o_w_12
  have o_g_13 := jn _ _ _ _ o_g_12 (fun k hk e => by have := ge_g k hk; have := lt_y k e; omega)
  clear o_g_12
  have c13 := c12.trans (bn.mono (by have := c4.size; omega))
  have z13 := Nat.le_of_eq zn.symm
  have s_my_13 := own_marks om
  have ge_my := ge_y
  have lt_my := lt_y
  clear bn kn jn zn om
  go_wp2_with fail
  clear s_my_13
  have hm0 : decide ((1 : Int) + (z.length : Int) + (y.length : Int) < 0) = false := by simp; omega
  refine (eq_any (is_of_own o_g_13) (is_of_own o_w_13)).mono ?_
  rintro e w14 ⟨rfl, bn⟩
  have c14 := c13.trans (bn.mono c13.size)
  have z14 := bn.size
  have o_w_14 := own_below o_w_13 bn
  clear o_w_13
  have o_g_14 := own_below o_g_13 bn
  clear o_g_13
  clear bn
  go_wp2_with fail
  refine (mark_any 1 (by omega) (by omega) hcl o_g_14).mono ?_
  rintro e w15 ⟨rfl, om, bn, zn, kn, jn⟩
  have o_w_15 := jn _ _ _ _ o_w_14 (fun k hk e => by have := lt_w k hk; have := ge_g k e; omega)
  clear o_w_14
  have c15 := c14.trans (bn.mono (by have := c5.size; omega))
  have z15 := Nat.le_of_eq zn.symm
  have s_mg_15 := own_marks om
  have ge_mg := ge_g
  have lt_mg := lt_g
  clear bn kn jn zn om
  go_wp2_with fail
  have hq0 : decide ((1 : Int) + ((res either z y).length : Int) < 0) = false := by simp; omega
  refine (held_any 1 (by omega) (by omega) hcl s_mg_15).mono ?_
  rintro e wh ⟨rfl, hwh⟩
  subst hwh
  go_wp2_with fail
  refine (unhide HTo _ c15).mono ?_
  rintro e w17 ⟨rfl, on, bn⟩
  have c17 := c15.trans (bn.mono c15.size)
  have z17 := bn.size
  have o_w_17 := own_below o_w_15 bn
  clear o_w_15
  have s_mg_17 := s_mg_15.below bn
  clear s_mg_15
  have o_a_17 := on
  have ge_a := own_ge o_a_17
  have lt_a := own_block_lt o_a_17
  clear bn on
  go_wp2_with fail
  refine (unhide HTo1 _ c17).mono ?_
  rintro e w18 ⟨rfl, on, bn⟩
  have c18 := c17.trans (bn.mono c17.size)
  have z18 := bn.size
  have o_w_18 := own_below o_w_17 bn
  clear o_w_17
  have o_a_18 := own_below o_a_17 bn
  clear o_a_17
  have s_mg_18 := s_mg_17.below bn
  clear s_mg_17
  have o_b_18 := on
  have ge_b := own_ge o_b_18
  have lt_b := own_block_lt o_b_18
  clear bn on
  go_wp2_with fail
  refine (impl_either (is_of_own o_a_18) (is_of_own o_b_18) zl yl).mono ?_
  rintro e w19 ⟨v_h, rfl, on, bn⟩
  have c19 := c18.trans (bn.mono c18.size)
  have z19 := bn.size
  have o_w_19 := own_below o_w_18 bn
  clear o_w_18
  have o_a_19 := own_below o_a_18 bn
  clear o_a_18
  have o_b_19 := own_below o_b_18 bn
  clear o_b_18
  have s_mg_19 := s_mg_18.below bn
  clear s_mg_18
  have o_h_19 := on
  have ge_h := own_ge o_h_19
  have lt_h := own_block_lt o_h_19
  clear bn on
  go_wp2_with fail
  clear o_a_19
  clear o_b_19
  refine (eq_any (is_of_own o_h_19) (is_of_own o_w_19)).mono ?_
  rintro e w20 ⟨rfl, bn⟩
  have c20 := c19.trans (bn.mono c19.size)
  have z20 := bn.size
  have o_w_20 := own_below o_w_19 bn
  clear o_w_19
  have o_h_20 := own_below o_h_19 bn
  clear o_h_19
  have s_mg_20 := s_mg_19.below bn
  clear s_mg_19
  clear bn
  go_wp2_with fail
  refine (held_any 1 (by omega) (by omega) hcl s_mg_20).mono ?_
  rintro e wh ⟨rfl, hwh⟩
  subst hwh
  go_wp2
  go_ret
  exact ⟨rfl, c20⟩
end Go.Proofs.Ytddbgchmpehffaa
