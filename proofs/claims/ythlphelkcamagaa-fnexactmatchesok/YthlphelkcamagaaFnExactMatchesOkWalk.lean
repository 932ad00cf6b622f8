/- FnExactMatchesOk returns true at every slice of impl.Match. -/
import Derived.Test.YthlphelkcamagaaMatOk
namespace Go.Proofs.Ythlphelkcamagaa
open Go.RowKit Rw Mat
set_option linter.unusedVariables false
set_option maxHeartbeats 4000000 in
theorem fnExactMatchesOk.walk (a0 : Option Addr) (len0 cap0 : Nat) (z0 : List Mat.E) (w : World) (w0 : z0.length = len0 ∧ len0 ≤ maxLen ∧ Lies w (.slice a0 len0 cap0) len0 3 (flat z0) ∧ ∀ x ∈ z0, good x) :
    Calls Try.prog 9 #[.slice a0 len0 cap0] w fun e w' => e = .returned (.bool true) ∧ Below w.heap.size w w' := by
  obtain ⟨hl, hm, hI, hG⟩ := w0
  subst hl
  have HS := hide (fun W (hB : Below w.heap.size w W) => sz_any 1048576 (hI.below hB) hm hG (by omega) (by omega))
  have HT := hide (tot_len z0)
  by_cases hb : (1048576 : Int) - (tot z0 : Int) < 0
  · clear hI hG
    go_enter Try.func9, Try.ntmps9
    go_wp2_with fail
    refine (unhide HS _ (Below.refl _ _)).mono ?_
    rintro e w1 ⟨rfl, b1⟩
    rw [if_pos hb]
    go_wp2_with fail
    go_ret
    exact ⟨rfl, b1⟩
  have zl : z0.length ≤ 4194304 := by have := unhide HT; omega
  have HTo := hide (fun W (hB : Below w.heap.size w W) => to_any (hI.below hB) zl)
  have HG := hide hG
  have HM := hide hm
  clear hI hG hm
  go_enter Try.func9, Try.ntmps9
  go_wp2_with fail
  refine (unhide HS _ (Below.refl _ _)).mono ?_
  rintro e w1 ⟨rfl, b1⟩
  rw [if_neg (show ¬ (1048576 : Int) - (tot z0 : Int) < 0 by omega)]
  have hnn : decide ((1048576 : Int) - (tot z0 : Int) < 0) = false := by simp; omega
  have c0 := b1
  clear b1
  go_wp2_with fail
  clear hnn hb
  refine (unhide HTo _ c0).mono ?_
  rintro e w2 ⟨rfl, on, bn⟩
  have c2 := c0.trans (bn.mono c0.size)
  have z2 := bn.size
  have o_p_2 := on
  have ge_p := own_ge o_p_2
  have lt_p := own_block_lt o_p_2
  clear bn on
  go_wp2_with fail
  refine (spec_ok (is_of_own o_p_2) (unhide HG) (unhide HM)).mono ?_
  rintro e w3 ⟨rfl, bn⟩
  have c3 := c2.trans (bn.mono c2.size)
  have z3 := bn.size
  have o_p_3 := own_below o_p_2 bn
  clear o_p_2
  clear bn
  go_wp2_with fail
  clear o_p_3
  refine (unhide HTo _ c3).mono ?_
  rintro e w4 ⟨rfl, on, bn⟩
  have c4 := c3.trans (bn.mono c3.size)
  have z4 := bn.size
  have o_x_4 := on
  have ge_x := own_ge o_x_4
  have lt_x := own_block_lt o_x_4
  clear bn on
  go_wp2_with fail
  refine (impl_ok (is_of_own o_x_4) (unhide HG) (unhide HM)).mono ?_
  rintro e w5 ⟨rfl, bn⟩
  have c5 := c4.trans (bn.mono c4.size)
  have z5 := bn.size
  have o_x_5 := own_below o_x_4 bn
  clear o_x_4
  clear bn
  go_wp2_with fail
  refine (unhide HTo _ c5).mono ?_
  rintro e w6 ⟨rfl, on, bn⟩
  have c6 := c5.trans (bn.mono c5.size)
  have z6 := bn.size
  have o_x_6 := own_below o_x_5 bn
  clear o_x_5
  have o_r_6 := on
  have ge_r := own_ge o_r_6
  have lt_r := own_block_lt o_r_6
  clear bn on
  go_wp2_with fail
  refine (eq_any (is_of_own o_x_6) (is_of_own o_r_6)).mono ?_
  rintro e w7 ⟨rfl, bn⟩
  have c7 := c6.trans (bn.mono c6.size)
  have z7 := bn.size
  have o_x_7 := own_below o_x_6 bn
  clear o_x_6
  have o_r_7 := own_below o_r_6 bn
  clear o_r_6
  clear bn
  go_wp2
  go_ret
  exact ⟨rfl, c7⟩
end Go.Proofs.Ythlphelkcamagaa
