/- What Zig and Zag answer, of the program and of the model: the same number, for every int; nothing is made. No condition. -/
import Derived.Test.YtkaepjngmgicaaaBasic
namespace Go.Proofs.Ytkaepjngmgicaaa.Zig
open Go.RowKit
def zig (n : Int) : Int := if n < -1073741823 ∨ 1073741823 < n then 0 else if n < 0 then -2 * n - 1 else 2 * n
def zag (n : Int) : Int := if n < 0 ∨ 2147483646 < n then 0 else if n % 2 = 1 then -((n + 1) / 2) else n / 2
def inB (n lo hi : Int) : Bool := decide (lo ≤ n) && decide (n ≤ hi)
theorem zig_out {n : Int} (h : n < -1073741823 ∨ 1073741823 < n) : zig n = 0 := by unfold zig; rw [if_pos h]
theorem zig_neg {n : Int} (h : -1073741823 ≤ n) (h' : n < 0) : zig n = -2 * n - 1 := by unfold zig; rw [if_neg (by omega), if_pos (by omega)]
theorem zig_pos {n : Int} (h : n ≤ 1073741823) (h' : 0 ≤ n) : zig n = 2 * n := by unfold zig; rw [if_neg (by omega), if_neg (by omega)]
theorem zag_out {n : Int} (h : n < 0 ∨ 2147483646 < n) : zag n = 0 := by unfold zag; rw [if_pos h]
theorem zag_odd {n : Int} (h : 0 ≤ n) (h' : n ≤ 2147483646) (h2 : n % 2 = 1) : zag n = -((n + 1) / 2) := by unfold zag; rw [if_neg (by omega), if_pos h2]
theorem zag_even {n : Int} (h : 0 ≤ n) (h' : n ≤ 2147483646) (h2 : n % 2 = 0) : zag n = n / 2 := by unfold zag; rw [if_neg (by omega), if_neg (by omega)]

theorem in_yes (n lo hi : Int) (w : World) (h1 : lo ≤ n) (h2 : n ≤ hi) : Calls Try.prog 66 #[.int .i64 n, .int .i64 lo, .int .i64 hi] w fun e w' => e = .returned (.bool true) ∧ w' = w := by
  go_enter Try.func66, Try.ntmps66
  go_wp2
  go_ret
  exact ⟨rfl, rfl⟩
theorem in_low (n lo hi : Int) (w : World) (h1 : n < lo) : Calls Try.prog 66 #[.int .i64 n, .int .i64 lo, .int .i64 hi] w fun e w' => e = .returned (.bool false) ∧ w' = w := by
  go_enter Try.func66, Try.ntmps66
  go_wp2
  go_ret
  exact ⟨rfl, rfl⟩
theorem in_high (n lo hi : Int) (w : World) (h0 : lo ≤ n) (h1 : hi < n) : Calls Try.prog 66 #[.int .i64 n, .int .i64 lo, .int .i64 hi] w fun e w' => e = .returned (.bool false) ∧ w' = w := by
  go_enter Try.func66, Try.ntmps66
  go_wp2
  go_ret
  exact ⟨ret_bool (by simpa using h1), rfl⟩
theorem in_any (n lo hi : Int) (w : World) : Calls Try.prog 66 #[.int .i64 n, .int .i64 lo, .int .i64 hi] w fun e w' => e = .returned (.bool (inB n lo hi)) ∧ w' = w := by
  unfold inB
  by_cases h1 : lo ≤ n
  · by_cases h2 : n ≤ hi
    · rw [decide_eq_true h1, decide_eq_true h2]; exact in_yes n lo hi w h1 h2
    · rw [decide_eq_false h2, Bool.and_false]; exact in_high n lo hi w h1 (by omega)
  · rw [decide_eq_false h1, Bool.false_and]; exact in_low n lo hi w (by omega)

theorem impl_zig (n : Int) (w : World) : Calls Try.prog 27 #[.int .i64 n] w fun e w' => e = .returned (.int .i64 (zig n)) ∧ w' = w := by
  rcases (show n < -1073741823 ∨ 1073741823 < n ∨ (-1073741823 ≤ n ∧ n < 0) ∨ (0 ≤ n ∧ n ≤ 1073741823) from by omega) with h | h | ⟨h, h'⟩ | ⟨h, h'⟩
  all_goals
    go_enter Try.func27, Try.ntmps27
    go_wp2
    go_ret
    refine ⟨ret_int ?_, rfl⟩
  · exact (zig_out (.inl (by omega))).symm
  · exact (zig_out (.inr (by omega))).symm
  · exact (zig_neg (by omega) (by omega)).symm
  · exact (zig_pos (by omega) (by omega)).symm
theorem impl_zag (n : Int) (w : World) : Calls Try.prog 29 #[.int .i64 n] w fun e w' => e = .returned (.int .i64 (zag n)) ∧ w' = w := by
  rcases (show n < 0 ∨ 2147483646 < n ∨ (0 ≤ n ∧ n ≤ 2147483646 ∧ n % 2 = 1) ∨ (0 ≤ n ∧ n ≤ 2147483646 ∧ n % 2 = 0) from by omega) with h | h | ⟨h, h', h2⟩ | ⟨h, h', h2⟩
  all_goals
    go_enter Try.func29, Try.ntmps29
    go_wp2
    go_ret
    refine ⟨ret_int ?_, rfl⟩
  · exact (zag_out (.inl (by omega))).symm
  · exact (zag_out (.inr (by omega))).symm
  · rw [zag_odd (by omega) (by omega) (by omega), Int.tdiv_eq_ediv_of_nonneg (by omega), IntWalk.wrap64_in _ ⟨by omega, by omega⟩]
  · exact (zag_even (by omega) (by omega) (by omega)).symm
theorem spec_limit (w : World) : Calls Try.prog 73 #[] w fun e w' => e = .returned (.int .i64 1073741823) ∧ w' = w := by
  go_enter Try.func73, Try.ntmps73
  go_wp2
  go_ret
  exact ⟨rfl, rfl⟩
theorem spec_zig (n : Int) (w : World) : Calls Try.prog 28 #[.int .i64 n] w fun e w' => e = .returned (.int .i64 (zig n)) ∧ w' = w := by
  rcases (show n < -1073741823 ∨ 1073741823 < n ∨ (-1073741823 ≤ n ∧ n < 0) ∨ (0 ≤ n ∧ n ≤ 1073741823) from by omega) with h | h | ⟨h, h'⟩ | ⟨h, h'⟩
  · go_enter Try.func28, Try.ntmps28
    go_wp2_with (first | (go_at_call 73; refine (spec_limit _).mono ?_; rintro e w' ⟨rfl, rfl⟩) | (go_at_call 66; refine (in_low _ _ _ _ (by omega)).mono ?_; rintro e w' ⟨rfl, rfl⟩))
    go_ret
    exact ⟨ret_int (zig_out (.inl (by omega))).symm, rfl⟩
  · go_enter Try.func28, Try.ntmps28
    go_wp2_with (first | (go_at_call 73; refine (spec_limit _).mono ?_; rintro e w' ⟨rfl, rfl⟩) | (go_at_call 66; refine (in_high _ _ _ _ (by omega) (by omega)).mono ?_; rintro e w' ⟨rfl, rfl⟩))
    go_ret
    exact ⟨ret_int (zig_out (.inr (by omega))).symm, rfl⟩
  · go_enter Try.func28, Try.ntmps28
    go_wp2_with (first | (go_at_call 73; refine (spec_limit _).mono ?_; rintro e w' ⟨rfl, rfl⟩) | (go_at_call 66; refine (in_yes _ _ _ _ (by omega) (by omega)).mono ?_; rintro e w' ⟨rfl, rfl⟩))
    go_ret
    exact ⟨ret_int (zig_neg (by omega) (by omega)).symm, rfl⟩
  · go_enter Try.func28, Try.ntmps28
    go_wp2_with (first | (go_at_call 73; refine (spec_limit _).mono ?_; rintro e w' ⟨rfl, rfl⟩) | (go_at_call 66; refine (in_yes _ _ _ _ (by omega) (by omega)).mono ?_; rintro e w' ⟨rfl, rfl⟩))
    go_ret
    exact ⟨ret_int (zig_pos (by omega) (by omega)).symm, rfl⟩
theorem spec_zag (n : Int) (w : World) : Calls Try.prog 31 #[.int .i64 n] w fun e w' => e = .returned (.int .i64 (zag n)) ∧ w' = w := by
  rcases (show n < 0 ∨ 2147483646 < n ∨ (0 ≤ n ∧ n ≤ 2147483646 ∧ n % 2 = 1) ∨ (0 ≤ n ∧ n ≤ 2147483646 ∧ n % 2 = 0) from by omega) with h | h | ⟨h, h', h2⟩ | ⟨h, h', h2⟩
  · go_enter Try.func31, Try.ntmps31
    go_wp2_with (first | (go_at_call 73; refine (spec_limit _).mono ?_; rintro e w' ⟨rfl, rfl⟩) | (go_at_call 66; refine (in_low _ _ _ _ (by omega)).mono ?_; rintro e w' ⟨rfl, rfl⟩))
    go_ret
    exact ⟨ret_int (zag_out (.inl (by omega))).symm, rfl⟩
  · go_enter Try.func31, Try.ntmps31
    go_wp2_with (first | (go_at_call 73; refine (spec_limit _).mono ?_; rintro e w' ⟨rfl, rfl⟩) | (go_at_call 66; refine (in_high _ _ _ _ (by omega) (by omega)).mono ?_; rintro e w' ⟨rfl, rfl⟩))
    go_ret
    exact ⟨ret_int (zag_out (.inr (by omega))).symm, rfl⟩
  · go_enter Try.func31, Try.ntmps31
    go_wp2_with (first | (go_at_call 73; refine (spec_limit _).mono ?_; rintro e w' ⟨rfl, rfl⟩) | (go_at_call 66; refine (in_yes _ _ _ _ (by omega) (by omega)).mono ?_; rintro e w' ⟨rfl, rfl⟩))
    go_ret
    exact ⟨ret_int (by rw [zag_odd (by omega) (by omega) (by omega), Int.tdiv_eq_ediv_of_nonneg (by omega), IntWalk.wrap64_in _ ⟨by omega, by omega⟩]), rfl⟩
  · go_enter Try.func31, Try.ntmps31
    go_wp2_with (first | (go_at_call 73; refine (spec_limit _).mono ?_; rintro e w' ⟨rfl, rfl⟩) | (go_at_call 66; refine (in_yes _ _ _ _ (by omega) (by omega)).mono ?_; rintro e w' ⟨rfl, rfl⟩))
    go_ret
    exact ⟨ret_int (zag_even (by omega) (by omega) (by omega)).symm, rfl⟩
end Go.Proofs.Ytkaepjngmgicaaa.Zig
