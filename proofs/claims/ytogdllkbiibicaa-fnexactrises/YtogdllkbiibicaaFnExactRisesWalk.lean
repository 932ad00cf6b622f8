/- FnExactRises returns true at every slice of samples. -/
import Derived.Test.YtogdllkbiibicaaWinRise
import Derived.Test.YtogdllkbiibicaaSamUni
namespace Go.Proofs.Ytogdllkbiibicaa
open Go.RowKit Rw
set_option linter.unusedVariables false
set_option maxRecDepth 100000 in
set_option maxHeartbeats 8000000 in
theorem fnExactRises.walk (a0 : Option Addr) (len0 cap0 : Nat) (z0 : List Sam.E) (w : World) (w0 : z0.length = len0 ∧ len0 ≤ maxLen ∧ Lies w (.slice a0 len0 cap0) len0 2 (Sam.flat z0) ∧ ∀ x ∈ z0, Sam.good x) :
    Calls Try.prog 3 #[.slice a0 len0 cap0] w fun e w' => e = .returned (.bool true) ∧ Below w.heap.size w w' := by
  obtain ⟨e0, m0, h0, g0⟩ := w0
  have s0 : Sam.Is w (.slice a0 len0 cap0) z0 := by rw [← e0] at h0 ⊢; exact h0
  rw [← e0] at m0
  clear e0 h0
  have HS0 := hide (fun W (hB : Below w.heap.size w W) (l : Int) (l0 : 0 ≤ l) (l1 : l ≤ 1048576) => Sam.sz_any l (s0.below hB) m0 g0 l0 l1)
  obtain ⟨t0, ht0⟩ : ∃ t, t = Sam.tot z0 := ⟨_, rfl⟩
  rw [← ht0] at HS0
  have HT0 := hide ht0
  clear ht0
  by_cases hb0 : (1048576 : Int) - (t0 : Int) < 0
  · clear s0 g0 m0
    go_enter Try.func3, Try.ntmps3
    go_wp2_with fail
    refine (unhide HS0 _ (Below.refl w.heap.size w) (1048576) (by omega) (by omega)).mono ?_
    rintro e u0 ⟨rfl, b0⟩
    have d0 := (Below.refl w.heap.size w).trans (b0.mono (Below.refl w.heap.size w).size)
    rw [if_pos (by omega)]
    go_wp2_with fail
    go_ret
    exact ⟨rfl, d0⟩
  have T0 : Sam.tot z0 ≤ 1048576 := by rw [← unhide HT0]; omega
  have HTo0 := hide (fun W (hB : Below w.heap.size w W) => Sam.toX (s0.below hB) T0)
  have HG0 := hide g0
  have HM0 := hide m0
  have HB0 := hide T0
  clear s0 g0 m0 T0
  go_enter Try.func3, Try.ntmps3
  go_wp2_with fail
  refine (unhide HS0 _ (Below.refl w.heap.size w) (1048576) (by omega) (by omega)).mono ?_
  rintro e u0 ⟨rfl, b0⟩
  have d0 := (Below.refl w.heap.size w).trans (b0.mono (Below.refl w.heap.size w).size)
  rw [if_neg (by omega)]
  have n0 : decide (1048576 - (t0 : Int) < 0) = false := by simp; omega
  clear b0 HS0
  go_wp2_with fail
  refine (unhide HTo0 _ d0).mono ?_
  rintro e w1 ⟨v_p0, rfl, on, bn⟩
  have c1 := d0.trans (bn.mono d0.size)
  obtain ⟨a_p0, l_p0, q_p0, rfl⟩ := Sam.Own.form on
  have F_p0_1 := on
  clear on bn
  go_wp2_with fail
  refine (Sam.spec_rises F_p0_1.is).mono ?_
  rintro e w2 ⟨rfl, bn⟩
  have c2 := c1.trans (bn.mono c1.size)
  have F_p0_2 := F_p0_1.below bn
  clear F_p0_1
  clear bn
  clear F_p0_2
  go_wp2_with fail
  refine (unhide HTo0 _ c2).mono ?_
  rintro e w3 ⟨v_x0, rfl, on, bn⟩
  have c3 := c2.trans (bn.mono c2.size)
  obtain ⟨a_x0, l_x0, q_x0, rfl⟩ := Sam.Own.form on
  have F_x0_3 := on
  clear on bn
  go_wp2_with fail
  refine (Sam.impl_rises F_x0_3.is).mono ?_
  rintro e w4 ⟨rfl, bn⟩
  have c4 := c3.trans (bn.mono c3.size)
  have F_x0_4 := F_x0_3.below bn
  clear F_x0_3
  clear bn
  go_wp2_with fail
  refine (unhide HTo0 _ c4).mono ?_
  rintro e w5 ⟨v_r0, rfl, on, bn⟩
  have c5 := c4.trans (bn.mono c4.size)
  have F_x0_5 := F_x0_4.below bn
  clear F_x0_4
  obtain ⟨a_r0, l_r0, q_r0, rfl⟩ := Sam.Own.form on
  have F_r0_5 := on
  clear on bn
  go_wp2_with fail
  refine (Sam.eqX F_x0_5.is F_r0_5.is).mono ?_
  rintro e w6 ⟨rfl, bn⟩
  have c6 := c5.trans (bn.mono c5.size)
  have F_x0_6 := F_x0_5.below bn
  clear F_x0_5
  have F_r0_6 := F_r0_5.below bn
  clear F_r0_5
  clear bn
  clear F_r0_6
  go_wp2_with fail
  go_ret
  exact ⟨rfl, c6⟩
end Go.Proofs.Ytogdllkbiibicaa
