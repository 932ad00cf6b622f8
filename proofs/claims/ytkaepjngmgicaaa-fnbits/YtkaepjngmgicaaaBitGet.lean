/- What BitsGet answers. -/
import Derived.Test.YtkaepjngmgicaaaBitMath
namespace Go.Proofs.Ytkaepjngmgicaaa.BitGet
open Go.RowKit
attribute [local go_sem ↓] Go.wp_at_zero Go.wp_at_succ
theorem u8_and_one (a : Nat) (ha : a < 256) : bits .and .u8 (a : Int) 1 = ((a % 2 : Nat) : Int) := by
  have := u8_and_nat a 1 ha (by decide)
  rw [Nat.and_one_is_mod] at this
  exact this
/-- what a round at bit i meets, its numbers as letters -/
theorem round_facts (s : ByteArray) (i : Nat) (h : i < 8 * s.size) (hs : s.size ≤ 1000000) : ∃ J m c B : Nat, J < 1000000 ∧ m < 8 ∧ c < 256 ∧
    (i : Int).tdiv 8 = (J : Int) ∧ (i : Int) / 8 = (J : Int) ∧ (i : Int).tmod 8 = (m : Int) ∧ (i : Int) % 8 = (m : Int) ∧
    (∀ W : World, (Instr.index 9 (.string s) (.int .i64 (J : Int))).run Try.prog W = .ok (.int .u8 (c : Int)) W) ∧ B < 2 ∧ bits .and .i64 ((c : Int) / 2 ^ (7 - m)) 1 = (B : Int) ∧ bits .and .u8 ((c : Int) / 2 ^ (7 - m)) 1 = (B : Int) ∧ Hid (B = BitMath.bit s.data.toList i) := by
  obtain ⟨c, hc, hc2, hr⟩ := BitMath.index_at s (i / 8) (by omega)
  have hd : (c : Int) / 2 ^ (7 - i % 8) = ((c / 2 ^ (7 - i % 8) : Nat) : Int) := by simp
  have hd2 : c / 2 ^ (7 - i % 8) ≤ c := Nat.div_le_self _ _
  refine ⟨i / 8, i % 8, c, c / 2 ^ (7 - i % 8) % 2, by omega, by omega, hc, ?_, by omega, ?_, by omega, hr, by omega, by rw [hd, i64_and_one _ (by omega)], by rw [hd, u8_and_one _ (by omega)], ?_⟩
  · rw [Int.tdiv_eq_ediv_of_nonneg (by omega)]; omega
  · rw [Int.tmod_eq_emod_of_nonneg (by omega)]; omega
  · show _ = _
    rw [hc2]; rfl
set_option maxRecDepth 100000 in
set_option maxHeartbeats 1000000 in
theorem l1get (s : ByteArray) (p q : Nat) (w : World) (hs : s.size ≤ 1000000) (hq : q ≤ 32) (hp : p + q ≤ 8 * s.size) :
    Calls Try.prog 72 #[.string s, .int .i64 p, .int .i64 q] w fun e w' => e = .returned (.int .i64 (BitMath.num s.data.toList p q)) ∧ w' = w := by
  go_enter Try.func72, Try.ntmps72
  go_wp2_with fail
  go_loopw [7, 8] (fun nv kv wr => ∃ k N : Nat, kv = .int .i64 (k : Int) ∧ k ≤ q ∧ nv = .int .i64 (N : Int) ∧ Hid (N = BitMath.num s.data.toList p k) ∧ wr = w) (fun _ kv _ => q - (intOf kv).toNat)
  case atStart => exact ⟨0, 0, rfl, Nat.zero_le _, rfl, rfl, rfl⟩
  case round =>
    obtain ⟨k, N, rfl, hk, rfl, hN, rfl⟩ := hrel
    by_cases hkq : k < q
    · obtain ⟨J, m, c, B, hJ, hm, hc, e1, e2, e3, e4, hr, hB, hb1, hb2, hb⟩ := round_facts s (p + k) (by omega) hs
      have hN1 : N < 4294967296 := by rw [unhide hN]; exact BitMath.num_le _ _ _ (by omega)
      have e5 : ((p + k : Nat) : Int) = (p : Int) + (k : Int) := by omega
      rw [e5] at e1 e2 e3 e4
      clear e5
      go_wp2
      go_roundw
      case rel => exact ⟨k + 1, N * 2 + B, by go_num, by omega, by go_num, by show _ = _; rw [unhide hN, unhide hb]; rfl, trivial⟩
      case measure => simp [intOf]; omega
    · obtain rfl : k = q := by omega
      go_wp2
      go_ret
      rw [unhide hN]
      exact ⟨rfl, rfl⟩
theorem in_true (n lo hi : Int) (w : World) (h1 : lo ≤ n) (h2 : n ≤ hi) : Calls Try.prog 66 #[.int .i64 n, .int .i64 lo, .int .i64 hi] w fun e w' => e = .returned (.bool true) ∧ w' = w := by
  go_enter Try.func66, Try.ntmps66
  go_wp2
  go_ret
  exact ⟨rfl, rfl⟩
set_option maxRecDepth 100000 in
set_option maxHeartbeats 1000000 in
theorem spec_yes (s : ByteArray) (p q : Nat) (w : World) (hs : s.size ≤ 751) (hq1 : 1 ≤ q) (hq : q ≤ 32) (hp : p + q ≤ 8 * s.size) :
    Calls Try.prog 25 #[.string s, .int .i64 p, .int .i64 q] w fun e w' => e = .returned (.tuple #[.int .i64 (BitMath.num s.data.toList p q), .bool true]) ∧ w' = w := by
  have HL := hide (l1get s p q w (by omega) hq hp)
  go_enter Try.func25, Try.ntmps25
  go_wp2_with fail
  refine (in_true _ _ _ _ (by omega) (by omega)).mono ?_
  rintro e w' ⟨rfl, h⟩
  subst h
  go_wp2_with fail
  refine (in_true _ _ _ _ (by omega) (by omega)).mono ?_
  rintro e w' ⟨rfl, h⟩
  subst h
  go_wp2_with fail
  refine (unhide HL).mono ?_
  rintro e w' ⟨rfl, h⟩
  subst h
  go_wp2
  go_ret2
  exact ⟨rfl, rfl⟩
set_option maxRecDepth 100000 in
set_option maxHeartbeats 1000000 in
theorem spec_no (s : ByteArray) (p q : Int) (w : World) (hs0 : s.size ≤ maxLen) (hq : -9223372036854775808 ≤ q) (hq' : q ≤ 9223372036854775807) (hp : -9223372036854775808 ≤ p) (hp' : p ≤ 9223372036854775807) (h : ¬(1 ≤ q ∧ q ≤ 32 ∧ s.size ≤ 751 ∧ 0 ≤ p ∧ p + q ≤ 8 * s.size)) :
    Calls Try.prog 25 #[.string s, .int .i64 p, .int .i64 q] w fun e w' => e = .returned (.tuple #[.int .i64 0, .bool false]) ∧ w' = w := by
  have hl : s.size ≤ 9223372036854775807 := by unfold maxLen at hs0; omega
  clear hs0
  by_cases h1 : q < 1
  · go_enter Try.func25, Try.ntmps25
    go_wp2
    go_ret2
    exact ⟨rfl, rfl⟩
  by_cases h2 : 32 < q
  · go_enter Try.func25, Try.ntmps25
    go_wp2
    go_ret2
    exact ⟨rfl, rfl⟩
  by_cases h3 : 751 < s.size
  · go_enter Try.func25, Try.ntmps25
    go_wp2
    go_ret2
    exact ⟨rfl, rfl⟩
  by_cases h4 : p < 0
  · go_enter Try.func25, Try.ntmps25
    go_wp2
    go_ret2
    exact ⟨rfl, rfl⟩
  have h5 : decide (p ≤ 8 * (s.size : Int) - q) = false := by simp; omega
  clear h
  go_enter Try.func25, Try.ntmps25
  go_wp2
  go_ret2
  exact ⟨rfl, rfl⟩
end Go.Proofs.Ytkaepjngmgicaaa.BitGet
