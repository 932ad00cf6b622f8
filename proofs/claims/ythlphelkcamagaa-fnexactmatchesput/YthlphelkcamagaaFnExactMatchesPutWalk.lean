/- FnExactMatchesPut returns true at all its arguments. -/
import Derived.Test.YthlphelkcamagaaMatPut2
namespace Go.Proofs.Ythlphelkcamagaa
open Go.RowKit Rw
set_option linter.unusedVariables false
set_option maxHeartbeats 4000000 in
theorem fnExactMatchesPut.walk (a0 : Option Addr) (len0 cap0 : Nat) (z0 : List Mat.E) (w : World) (w0 : z0.length = len0 ∧ len0 ≤ maxLen ∧ Lies w (.slice a0 len0 cap0) len0 3 (Mat.flat z0) ∧ ∀ x ∈ z0, Mat.good x) :
    Calls Try.prog 11 #[.slice a0 len0 cap0] w fun e w' => e = .returned (.bool true) ∧ Below w.heap.size w w' := by
  obtain ⟨hl0, hm0, hI0, hG0⟩ := w0
  subst hl0
  have HT0 := hide (Mat.tot_len z0)
  have HS0 := hide (fun (hle : 0 ≤ (1048576 : Int)) W (hB : Below w.heap.size w W) => Mat.sz_any ((1048576 : Int)) (hI0.below hB) hm0 hG0 hle (by omega))
  by_cases hb0 : (1048576 : Int) - (Mat.tot z0 : Int) < 0
  · have HS0 := hide (unhide HS0 (by omega))
    clear hI0 hG0
    go_enter Try.func11, Try.ntmps11
    go_wp2_with fail
    refine (unhide HS0 _ (Below.refl _ _)).mono ?_
    rintro e ws0 ⟨rfl, b0⟩
    have c0 := b0
    rw [if_pos (show (1048576 : Int) - (Mat.tot z0 : Int) < 0 by omega)]
    go_wp2_with fail
    go_ret
    exact ⟨rfl, c0⟩
  have HS0 := hide (unhide HS0 (by omega))
  have zl0 : z0.length ≤ 4194304 := by have := unhide HT0; omega
  have HTo0 := hide (fun W (hB : Below w.heap.size w W) => Mat.to_any (hI0.below hB) zl0)
  have HG0 := hide hG0
  have HM0 := hide hm0
  have HTT0 := hide (show Mat.tot z0 ≤ 1048576 by omega)
  clear hI0 hG0 hm0
  go_enter Try.func11, Try.ntmps11
  go_wp2_with fail
  refine (unhide HS0 _ (Below.refl _ _)).mono ?_
  rintro e ws0 ⟨rfl, b0⟩
  have c0 := b0
  rw [if_neg (show ¬ (1048576 : Int) - (Mat.tot z0 : Int) < 0 by omega)]
  have hnn0 : decide ((1048576 : Int) - (Mat.tot z0 : Int) < 0) = false := by simp; omega
  clear b0
  go_wp2_with fail
  clear hnn0 hb0
  refine (unhide HTo0 _ c0).mono ?_
  rintro e w2 ⟨rfl, on, bn⟩
  have c2 := c0.trans (bn.mono c0.size)
  have z2 := bn.size
  have o_p0_2 := on
  have ge_p0 := own_ge o_p0_2
  have lt_p0 := own_block_lt o_p0_2
  clear bn on
  go_wp2_with fail
  refine (Mat.spec_put (Mat.is_of_own o_p0_2) (unhide HG0) (unhide HM0)).mono ?_
  rintro e w3 ⟨rfl, bn⟩
  have c3 := c2.trans (bn.mono c2.size)
  have z3 := bn.size
  have o_p0_3 := own_below o_p0_2 bn
  clear o_p0_2
  clear bn
  go_wp2_with fail
  clear o_p0_3
  refine (unhide HTo0 _ c3).mono ?_
  rintro e w4 ⟨rfl, on, bn⟩
  have c4 := c3.trans (bn.mono c3.size)
  have z4 := bn.size
  have o_x0_4 := on
  have ge_x0 := own_ge o_x0_4
  have lt_x0 := own_block_lt o_x0_4
  clear bn on
  go_wp2_with fail
  refine (Mat.impl_put (Mat.is_of_own o_x0_4) (unhide HG0) (unhide HM0)).mono ?_
  rintro e w5 ⟨rfl, bn⟩
  have c5 := c4.trans (bn.mono c4.size)
  have z5 := bn.size
  have o_x0_5 := own_below o_x0_4 bn
  clear o_x0_4
  clear bn
  go_wp2_with fail
  refine (unhide HTo0 _ c5).mono ?_
  rintro e w6 ⟨rfl, on, bn⟩
  have c6 := c5.trans (bn.mono c5.size)
  have z6 := bn.size
  have o_x0_6 := own_below o_x0_5 bn
  clear o_x0_5
  have o_r0_6 := on
  have ge_r0 := own_ge o_r0_6
  have lt_r0 := own_block_lt o_r0_6
  clear bn on
  go_wp2_with fail
  refine (Mat.eq_any (Mat.is_of_own o_x0_6) (Mat.is_of_own o_r0_6)).mono ?_
  rintro e w7 ⟨rfl, bn⟩
  have c7 := c6.trans (bn.mono c6.size)
  have z7 := bn.size
  have o_x0_7 := own_below o_x0_6 bn
  clear o_x0_6
  have o_r0_7 := own_below o_r0_6 bn
  go_wp2
  go_ret
  exact ⟨rfl, c7⟩
end Go.Proofs.Ythlphelkcamagaa
