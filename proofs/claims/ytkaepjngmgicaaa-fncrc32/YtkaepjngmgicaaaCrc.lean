/- What Crc32 answers, of the program and of the model: the same sum, for every text; nothing is made. Condition: the text's size is within Go's lengths. -/
import Derived.Test.YtkaepjngmgicaaaBasic
import Derived.Test.YtkaepjngmgicaaaCrcMath
import Derived.Test.YtkaepjngmgicaaaBitLaws
namespace Go.Proofs.Ytkaepjngmgicaaa.Crc
open Go.RowKit
theorem take_snoc (s : ByteArray) (k : Nat) (h : k < s.size) : s.data.toList.take (k + 1) = s.data.toList.take k ++ [s[k]] := by
  rw [List.take_succ_eq_append_getElem (by simpa using h)]; rfl
theorem step_odd {X : Nat} (h : X % 2 = 1) : CrcMath.step X = (X / 2) ^^^ 3988292384 := by unfold CrcMath.step; rw [if_pos h]
theorem step_even {X : Nat} (h : X % 2 = 0) : CrcMath.step X = X / 2 := by unfold CrcMath.step; rw [if_neg (by omega)]
theorem xor_turn (X : Nat) (h : X < 4294967296) : bits .xor .i64 ((X : Int) / 2) 3988292384 = (((X / 2) ^^^ 3988292384 : Nat) : Int) := by
  have := i64_xor_nat (X / 2) 3988292384 (by omega) (by omega)
  rw [show ((X / 2 : Nat) : Int) = (X : Int) / 2 from by omega] at this
  exact this
theorem xor_all (X : Nat) (h : X < 4294967296) : bits .xor .i64 (X : Int) 4294967295 = ((X ^^^ 4294967295 : Nat) : Int) := i64_xor_nat X 4294967295 (by omega) (by omega)
theorem xor_byte (X c : Nat) (h : X < 4294967296) (hc : c < 256) : bits .xor .i64 (X : Int) (c : Int) = ((X ^^^ c : Nat) : Int) := i64_xor_nat X c (by omega) (by omega)
set_option maxHeartbeats 400000 in
theorem spec_crc (s : ByteArray) (w : World) (hs : s.size ≤ maxLen) :
    Calls Try.prog 34 #[.string s] w fun e w' => e = .returned (.int .i64 (CrcMath.crc s.data.toList)) ∧ w' = w := by
  unfold maxLen at hs
  go_enter Try.func34, Try.ntmps34
  go_wp2
  go_loop [3, 4] (fun n i => ∃ k : Nat, k ≤ s.size ∧ i = .int .i64 k ∧ n = .int .i64 (CrcMath.run (s.data.toList.take k) : Nat)) (fun _ i => s.size - (intOf i).toNat)
  case atStart => exact ⟨0, Nat.zero_le _, rfl, rfl⟩
  case round =>
    obtain ⟨k, hk, rfl, rfl⟩ := hrel
    have hR := CrcMath.run_lt (s.data.toList.take k)
    by_cases hlt : k < s.size
    · have HS : Hid (CrcMath.run (s.data.toList.take (k + 1)) = CrcMath.byte (CrcMath.run (s.data.toList.take k)) s[k].toNat) := by show _ = _; rw [take_snoc s k hlt, CrcMath.run_snoc]
      generalize CrcMath.run (s.data.toList.take k) = R at hR HS
      have hc := s[k].toNat_lt
      obtain ⟨X, hX⟩ : ∃ X, X = R ^^^ s[k].toNat := ⟨_, rfl⟩
      have hXl : X < 4294967296 := by rw [hX]; exact Nat.xor_lt_two_pow (n := 32) hR (by omega)
      have hx : bits .xor .i64 (R : Int) (wrap64 (s[k].toNat : Int)) = (X : Int) := by rw [IntWalk.wrap64_in _ ⟨by omega, by omega⟩, xor_byte R _ hR (by omega), hX]
      have HX : Hid (CrcMath.byte R s[k].toNat = CrcMath.steps 8 X) := by show _ = _; rw [hX]; rfl
      clear hX hc
      go_wp2
      clear hx
      go_loop [3, 5] (fun n i => ∃ j : Nat, j ≤ 8 ∧ i = .int .i64 j ∧ n = .int .i64 (CrcMath.steps j X : Nat)) (fun _ i => 8 - (intOf i).toNat)
      case atStart => exact ⟨0, Nat.zero_le _, rfl, rfl⟩
      case round =>
        obtain ⟨j, hj, rfl, rfl⟩ := hrel
        have hS := CrcMath.steps_lt j hXl
        have HE : Hid (CrcMath.steps (j + 1) X = CrcMath.step (CrcMath.steps j X)) := rfl
        by_cases hj8 : j < 8
        · generalize CrcMath.steps j X = Y at hS HE
          rcases (show Y % 2 = 1 ∨ Y % 2 = 0 from by omega) with hp | hp
          · go_wp2
            go_round
            case rel => exact ⟨j + 1, by omega, by go_num, by rw [HE.out, step_odd hp, xor_turn Y hS]⟩
            case measure => simp [intOf]; omega
          · go_wp2
            go_round
            case rel => exact ⟨j + 1, by omega, by go_num, by rw [HE.out, step_even hp]; go_num⟩
            case measure => simp [intOf]; omega
        · obtain rfl : j = 8 := by omega
          go_wp2
          go_round
          case rel => exact ⟨k + 1, by omega, by go_num, by rw [HS.out, HX.out]⟩
          case measure => simp [intOf]; omega
    · go_wp2
      go_ret
      exact ⟨ret_int (by rw [xor_all _ hR, List.take_of_length_le (by simp; omega)]; rfl), rfl⟩
theorem xor_turn32 (X : Nat) (h : X < 4294967296) : bits .xor .u32 ((X : Int) / 2) 3988292384 = (((X / 2) ^^^ 3988292384 : Nat) : Int) := by
  have := u32_xor_nat (X / 2) 3988292384 (by omega) (by omega)
  rw [show ((X / 2 : Nat) : Int) = (X : Int) / 2 from by omega] at this
  exact this
theorem xor_all32 (X : Nat) (h : X < 4294967296) : bits .xor .u32 (X : Int) 4294967295 = ((X ^^^ 4294967295 : Nat) : Int) := u32_xor_nat X 4294967295 (by omega) (by omega)
set_option maxHeartbeats 400000 in
theorem impl_crc (s : ByteArray) (w : World) (hs : s.size ≤ maxLen) :
    Calls Try.prog 33 #[.string s] w fun e w' => e = .returned (.int .i64 (CrcMath.crc s.data.toList)) ∧ w' = w := by
  unfold maxLen at hs
  go_enter Try.func33, Try.ntmps33
  go_wp2
  go_loop [3, 8] (fun n i => ∃ k : Nat, k ≤ s.size ∧ i = .int .i64 k ∧ n = .int .u32 (CrcMath.run (s.data.toList.take k) : Nat)) (fun _ i => s.size - (intOf i).toNat)
  case atStart => exact ⟨0, Nat.zero_le _, rfl, rfl⟩
  case round =>
    obtain ⟨k, hk, rfl, rfl⟩ := hrel
    have hR := CrcMath.run_lt (s.data.toList.take k)
    by_cases hlt : k < s.size
    · have HS : Hid (CrcMath.run (s.data.toList.take (k + 1)) = CrcMath.byte (CrcMath.run (s.data.toList.take k)) s[k].toNat) := by show _ = _; rw [take_snoc s k hlt, CrcMath.run_snoc]
      generalize CrcMath.run (s.data.toList.take k) = R at hR HS
      have hc := s[k].toNat_lt
      obtain ⟨X, hX⟩ : ∃ X, X = R ^^^ s[k].toNat := ⟨_, rfl⟩
      have hXl : X < 4294967296 := by rw [hX]; exact Nat.xor_lt_two_pow (n := 32) hR (by omega)
      have hx : bits .xor .u32 (R : Int) ((s[k].toNat : Int) % 4294967296) = (X : Int) := by rw [show ((s[k].toNat : Int) % 4294967296) = (s[k].toNat : Int) from by omega, u32_xor_nat R _ hR (by omega), hX]
      have HX : Hid (CrcMath.byte R s[k].toNat = CrcMath.steps 8 X) := by show _ = _; rw [hX]; rfl
      clear hX hc
      go_wp2
      clear hx
      go_loop [3, 17] (fun n i => ∃ j : Nat, j ≤ 8 ∧ i = .int .i64 j ∧ n = .int .u32 (CrcMath.steps j X : Nat)) (fun _ i => 8 - (intOf i).toNat)
      case atStart => exact ⟨0, Nat.zero_le _, rfl, rfl⟩
      case round =>
        obtain ⟨j, hj, rfl, rfl⟩ := hrel
        have hS := CrcMath.steps_lt j hXl
        have HE : Hid (CrcMath.steps (j + 1) X = CrcMath.step (CrcMath.steps j X)) := rfl
        by_cases hj8 : j < 8
        · generalize CrcMath.steps j X = Y at hS HE
          rcases (show Y % 2 = 1 ∨ Y % 2 = 0 from by omega) with hp | hp
          · have ha : bits .and .u32 (Y : Int) 1 = 1 := by rw [u32_and_one Y hS, hp]; rfl
            go_wp2
            go_round
            case rel => exact ⟨j + 1, by omega, by go_num, by rw [HE.out, step_odd hp, xor_turn32 Y hS]⟩
            case measure => simp [intOf]; omega
          · have ha : bits .and .u32 (Y : Int) 1 = 0 := by rw [u32_and_one Y hS, hp]; rfl
            go_wp2
            go_round
            case rel => exact ⟨j + 1, by omega, by go_num, by rw [HE.out, step_even hp]; go_num⟩
            case measure => simp [intOf]; omega
        · obtain rfl : j = 8 := by omega
          go_wp2
          go_round
          case rel => exact ⟨k + 1, by omega, by go_num, by rw [HS.out, HX.out]⟩
          case measure => simp [intOf]; omega
    · have hC := CrcMath.crc_lt s.data.toList
      go_wp2
      go_ret
      exact ⟨ret_int (by rw [xor_all32 _ hR, List.take_of_length_le (by simp; omega)]; exact IntWalk.wrap64_in _ ⟨by unfold CrcMath.crc at hC; omega, by unfold CrcMath.crc at hC; omega⟩), rfl⟩
end Go.Proofs.Ytkaepjngmgicaaa.Crc
namespace Go.Proofs.Ytkaepjngmgicaaa
open Go.RowKit
theorem fnExactCrc32.walk (a0 : ByteArray) (w : World) (w0 : a0.size ≤ maxLen) :
    Calls Try.prog 14 #[.string a0] w fun e w' => e = .returned (.bool true) ∧ Below w.heap.size w w' := by
  have h0 := w0
  unfold maxLen at h0
  by_cases hb : 1048576 < a0.size
  · go_enter Try.func14, Try.ntmps14
    go_wp2
    go_ret
    exact ⟨rfl, Below.refl _ _⟩
  · go_enter Try.func14, Try.ntmps14
    go_wp2_with (first | (go_at_call 34; refine (Crc.spec_crc _ _ w0).mono ?_; rintro e w' ⟨rfl, rfl⟩) | (go_at_call 33; refine (Crc.impl_crc _ _ w0).mono ?_; rintro e w' ⟨rfl, rfl⟩))
    go_ret
    exact ⟨rfl, Below.refl _ _⟩
end Go.Proofs.Ytkaepjngmgicaaa
