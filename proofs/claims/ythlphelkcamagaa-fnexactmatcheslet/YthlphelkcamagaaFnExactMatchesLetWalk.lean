/- FnExactMatchesLet returns true at all its arguments. -/
import Derived.Test.YthlphelkcamagaaLet4
namespace Go.Proofs.Ythlphelkcamagaa
open Go.RowKit Rw
set_option linter.unusedVariables false
set_option maxHeartbeats 4000000 in
theorem fnExactMatchesLet.walk (a0 : Option Addr) (len0 cap0 : Nat) (z0 : List Mat.E) (a1 : Option Addr) (len1 cap1 : Nat) (z1 : List Lab.E) (w : World) (w0 : z0.length = len0 ∧ len0 ≤ maxLen ∧ Lies w (.slice a0 len0 cap0) len0 3 (Mat.flat z0) ∧ ∀ x ∈ z0, Mat.good x) (w1 : z1.length = len1 ∧ len1 ≤ maxLen ∧ Lies w (.slice a1 len1 cap1) len1 2 (Lab.flat z1) ∧ ∀ x ∈ z1, Lab.good x) :
    Calls Try.prog 10 #[.slice a0 len0 cap0, .slice a1 len1 cap1] w fun e w' => e = .returned (.bool true) ∧ Below w.heap.size w w' := by
  obtain ⟨hl0, hm0, hI0, hG0⟩ := w0
  subst hl0
  obtain ⟨hl1, hm1, hI1, hG1⟩ := w1
  subst hl1
  have HT0 := hide (Mat.tot_len z0)
  have HT1 := hide (Lab.tot_len z1)
  have HS0 := hide (fun (hle : 0 ≤ (1048576 : Int)) W (hB : Below w.heap.size w W) => Mat.sz_any ((1048576 : Int)) (hI0.below hB) hm0 hG0 hle (by omega))
  have HS1 := hide (fun (hle : 0 ≤ (1048576 : Int) - (Mat.tot z0 : Int)) W (hB : Below w.heap.size w W) => Lab.sz_any ((1048576 : Int) - (Mat.tot z0 : Int)) (hI1.below hB) hm1 hG1 hle (by omega))
  by_cases hb0 : (1048576 : Int) - (Mat.tot z0 : Int) < 0
  · have HS0 := hide (unhide HS0 (by omega))
    clear hI0 hG0 hI1 hG1
    go_enter Try.func10, Try.ntmps10
    go_wp2_with fail
    refine (unhide HS0 _ (Below.refl _ _)).mono ?_
    rintro e ws0 ⟨rfl, b0⟩
    have c0 := b0
    rw [if_pos (show (1048576 : Int) - (Mat.tot z0 : Int) < 0 by omega)]
    go_wp2_with fail
    go_ret
    exact ⟨rfl, c0⟩
  by_cases hb1 : (1048576 : Int) - (Mat.tot z0 : Int) - (Lab.tot z1 : Int) < 0
  · have HS0 := hide (unhide HS0 (by omega))
    have HS1 := hide (unhide HS1 (by omega))
    clear hI0 hG0 hI1 hG1
    go_enter Try.func10, Try.ntmps10
    go_wp2_with fail
    refine (unhide HS0 _ (Below.refl _ _)).mono ?_
    rintro e ws0 ⟨rfl, b0⟩
    have c0 := b0
    rw [if_neg (show ¬ (1048576 : Int) - (Mat.tot z0 : Int) < 0 by omega)]
    have hnn0 : decide ((1048576 : Int) - (Mat.tot z0 : Int) < 0) = false := by simp; omega
    go_wp2_with fail
    refine (unhide HS1 _ c0).mono ?_
    rintro e ws1 ⟨rfl, b1⟩
    have c1 := c0.trans (b1.mono c0.size)
    rw [if_pos (show (1048576 : Int) - (Mat.tot z0 : Int) - (Lab.tot z1 : Int) < 0 by omega)]
    go_wp2_with fail
    go_ret
    exact ⟨rfl, c1⟩
  have HS0 := hide (unhide HS0 (by omega))
  have HS1 := hide (unhide HS1 (by omega))
  have zl0 : z0.length ≤ 4194304 := by have := unhide HT0; omega
  have zl1 : z1.length ≤ 4194304 := by have := unhide HT1; omega
  have HTo0 := hide (fun W (hB : Below w.heap.size w W) => Mat.to_any (hI0.below hB) zl0)
  have HG0 := hide hG0
  have HM0 := hide hm0
  have HTo1 := hide (fun W (hB : Below w.heap.size w W) => Lab.to_any (hI1.below hB) zl1)
  have HG1 := hide hG1
  have HM1 := hide hm1
  have HTT0 := hide (show Mat.tot z0 ≤ 1048576 by omega)
  have HTT1 := hide (show Lab.tot z1 ≤ 1048576 by omega)
  clear hI0 hG0 hm0 hI1 hG1 hm1
  go_enter Try.func10, Try.ntmps10
  go_wp2_with fail
  refine (unhide HS0 _ (Below.refl _ _)).mono ?_
  rintro e ws0 ⟨rfl, b0⟩
  have c0 := b0
  rw [if_neg (show ¬ (1048576 : Int) - (Mat.tot z0 : Int) < 0 by omega)]
  have hnn0 : decide ((1048576 : Int) - (Mat.tot z0 : Int) < 0) = false := by simp; omega
  go_wp2_with fail
  refine (unhide HS1 _ c0).mono ?_
  rintro e ws1 ⟨rfl, b1⟩
  have c1 := c0.trans (b1.mono c0.size)
  rw [if_neg (show ¬ (1048576 : Int) - (Mat.tot z0 : Int) - (Lab.tot z1 : Int) < 0 by omega)]
  have hnn1 : decide ((1048576 : Int) - (Mat.tot z0 : Int) - (Lab.tot z1 : Int) < 0) = false := by simp; omega
  clear b0 b1
  go_wp2_with fail
  clear hnn0 hb0 hnn1 hb1
  refine (unhide HTo0 _ c1).mono ?_
  rintro e w3 ⟨rfl, on, bn⟩
  have c3 := c1.trans (bn.mono c1.size)
  have z3 := bn.size
  have o_p0_3 := on
  have ge_p0 := own_ge o_p0_3
  have lt_p0 := own_block_lt o_p0_3
  clear bn on
  go_wp2_with fail
  refine (unhide HTo1 _ c3).mono ?_
  rintro e w4 ⟨rfl, on, bn⟩
  have c4 := c3.trans (bn.mono c3.size)
  have z4 := bn.size
  have o_p0_4 := own_below o_p0_3 bn
  clear o_p0_3
  have o_p1_4 := on
  have ge_p1 := own_ge o_p1_4
  have lt_p1 := own_block_lt o_p1_4
  clear bn on
  go_wp2_with fail
  refine (Mat.spec_let (Mat.is_of_own o_p0_4) (Lab.is_of_own o_p1_4) (unhide HG0) (unhide HG1) (unhide HM0) (unhide HM1)).mono ?_
  rintro e w5 ⟨rfl, bn⟩
  have c5 := c4.trans (bn.mono c4.size)
  have z5 := bn.size
  have o_p0_5 := own_below o_p0_4 bn
  clear o_p0_4
  have o_p1_5 := own_below o_p1_4 bn
  clear o_p1_4
  clear bn
  go_wp2_with fail
  clear o_p0_5
  clear o_p1_5
  refine (unhide HTo0 _ c5).mono ?_
  rintro e w6 ⟨rfl, on, bn⟩
  have c6 := c5.trans (bn.mono c5.size)
  have z6 := bn.size
  have o_x0_6 := on
  have ge_x0 := own_ge o_x0_6
  have lt_x0 := own_block_lt o_x0_6
  clear bn on
  go_wp2_with fail
  refine (unhide HTo1 _ c6).mono ?_
  rintro e w7 ⟨rfl, on, bn⟩
  have c7 := c6.trans (bn.mono c6.size)
  have z7 := bn.size
  have o_x0_7 := own_below o_x0_6 bn
  clear o_x0_6
  have o_x1_7 := on
  have ge_x1 := own_ge o_x1_7
  have lt_x1 := own_block_lt o_x1_7
  clear bn on
  go_wp2_with fail
  refine (Mat.impl_let (Mat.is_of_own o_x0_7) (Lab.is_of_own o_x1_7) (unhide HG0) (unhide HG1) (unhide HM0)).mono ?_
  rintro e w8 ⟨rfl, bn⟩
  have c8 := c7.trans (bn.mono c7.size)
  have z8 := bn.size
  have o_x0_8 := own_below o_x0_7 bn
  clear o_x0_7
  have o_x1_8 := own_below o_x1_7 bn
  clear o_x1_7
  clear bn
  go_wp2_with fail
  refine (unhide HTo0 _ c8).mono ?_
  rintro e w9 ⟨rfl, on, bn⟩
  have c9 := c8.trans (bn.mono c8.size)
  have z9 := bn.size
  have o_x0_9 := own_below o_x0_8 bn
  clear o_x0_8
  have o_x1_9 := own_below o_x1_8 bn
  clear o_x1_8
  have o_r0_9 := on
  have ge_r0 := own_ge o_r0_9
  have lt_r0 := own_block_lt o_r0_9
  clear bn on
  go_wp2_with fail
  refine (Mat.eq_any (Mat.is_of_own o_x0_9) (Mat.is_of_own o_r0_9)).mono ?_
  rintro e w10 ⟨rfl, bn⟩
  have c10 := c9.trans (bn.mono c9.size)
  have z10 := bn.size
  have o_x0_10 := own_below o_x0_9 bn
  clear o_x0_9
  have o_x1_10 := own_below o_x1_9 bn
  clear o_x1_9
  have o_r0_10 := own_below o_r0_9 bn
  clear o_r0_9
  clear bn
  go_wp2_with fail
  clear o_r0_10
  refine (unhide HTo1 _ c10).mono ?_
  rintro e w11 ⟨rfl, on, bn⟩
  have c11 := c10.trans (bn.mono c10.size)
  have z11 := bn.size
  have o_x0_11 := own_below o_x0_10 bn
  clear o_x0_10
  have o_x1_11 := own_below o_x1_10 bn
  clear o_x1_10
  have o_r1_11 := on
  have ge_r1 := own_ge o_r1_11
  have lt_r1 := own_block_lt o_r1_11
  clear bn on
  go_wp2_with fail
  refine (Lab.eq_any (Lab.is_of_own o_x1_11) (Lab.is_of_own o_r1_11)).mono ?_
  rintro e w12 ⟨rfl, bn⟩
  have c12 := c11.trans (bn.mono c11.size)
  have z12 := bn.size
  have o_x0_12 := own_below o_x0_11 bn
  clear o_x0_11
  have o_x1_12 := own_below o_x1_11 bn
  clear o_x1_11
  have o_r1_12 := own_below o_r1_11 bn
  go_wp2
  go_ret
  exact ⟨rfl, c12⟩
end Go.Proofs.Ythlphelkcamagaa
