/- FnExactListOk returns true at every slice of ints. -/
import Derived.Test.YtddbgchmpehffaaIntsLaw
namespace Go.Proofs.Ytddbgchmpehffaa
open Go.RowKit ListMath Rw Ints
set_option linter.unusedVariables false
set_option maxHeartbeats 4000000 in
theorem fnExactListOk.walk (a0 : Option Addr) (len0 cap0 : Nat) (z0 : List Int) (w : World) (w0 : IsRow .i64 w a0 len0 cap0 z0) :
    Calls Try.prog 6 #[.slice a0 len0 cap0] w fun e w' => e = .returned (.bool true) ∧ Below w.heap.size w w' := by
  obtain ⟨h3, hI⟩ := row_is w0
  clear w0
  generalize z0.take len0 = z at *
  subst h3
  by_cases hb : 1048576 < z.length
  · have hd : decide ((1048576 : Int) < (z.length : Int)) = true := by simp; omega
    clear hI
    go_enter Try.func6, Try.ntmps6
    go_wp2_with fail
    go_ret
    exact ⟨rfl, Below.refl _ _⟩
  have hd : decide ((1048576 : Int) < (z.length : Int)) = false := by simp; omega
  have zl : z.length ≤ 4194304 := by omega
  have HTo := hide (fun W (hB : Below w.heap.size w W) => to_any (hI.below hB) zl)
  clear hI
  go_enter Try.func6, Try.ntmps6
  go_wp2_with fail
  clear hd
  refine (unhide HTo _ (Below.refl _ _)).mono ?_
  rintro e w1 ⟨rfl, on, bn⟩
  have c1 := bn
  have z1 := bn.size
  have o_p_1 := on
  have ge_p := own_ge o_p_1
  have lt_p := own_block_lt o_p_1
  clear bn on
  go_wp2_with fail
  refine (spec_ok (is_of_own o_p_1)).mono ?_
  rintro e w2 ⟨rfl, bn⟩
  have c2 := c1.trans (bn.mono c1.size)
  have z2 := bn.size
  have o_p_2 := own_below o_p_1 bn
  clear o_p_1
  clear bn
  go_wp2_with fail
  clear o_p_2
  refine (unhide HTo _ c2).mono ?_
  rintro e w3 ⟨rfl, on, bn⟩
  have c3 := c2.trans (bn.mono c2.size)
  have z3 := bn.size
  have o_x_3 := on
  have ge_x := own_ge o_x_3
  have lt_x := own_block_lt o_x_3
  clear bn on
  go_wp2_with fail
  refine (impl_ok (is_of_own o_x_3)).mono ?_
  rintro e wi ⟨rfl, hwi⟩
  subst hwi
  go_wp2_with fail
  refine (unhide HTo _ c3).mono ?_
  rintro e w4 ⟨rfl, on, bn⟩
  have c4 := c3.trans (bn.mono c3.size)
  have z4 := bn.size
  have o_x_4 := own_below o_x_3 bn
  clear o_x_3
  have o_r_4 := on
  have ge_r := own_ge o_r_4
  have lt_r := own_block_lt o_r_4
  clear bn on
  go_wp2_with fail
  refine (eq_any (is_of_own o_x_4) (is_of_own o_r_4)).mono ?_
  rintro e w5 ⟨rfl, bn⟩
  have c5 := c4.trans (bn.mono c4.size)
  have z5 := bn.size
  have o_x_5 := own_below o_x_4 bn
  clear o_x_4
  have o_r_5 := own_below o_r_4 bn
  clear o_r_4
  clear bn
  go_wp2
  go_ret
  exact ⟨rfl, c5⟩
end Go.Proofs.Ytddbgchmpehffaa
