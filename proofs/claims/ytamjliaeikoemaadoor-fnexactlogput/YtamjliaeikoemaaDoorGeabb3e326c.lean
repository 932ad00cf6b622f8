/- My own texts of one claim, laid together by program: CrcMath, Crc, LogPut, LogPut2. -/
import Derived.Test.YtamjliaeikoemaaDoorG32791d0450
import Derived.Test.YtamjliaeikoemaaDoorG1ce1102ef0
/- The sum of a text, as plain mathematics: one step of eight, a byte, a text; a turned byte turns the sum. No condition. -/
namespace Go.Proofs.YtamjliaeikoemaaDoor.CrcMath

def step (s : Nat) : Nat := if s % 2 = 1 then (s / 2) ^^^ 3988292384 else s / 2
def steps : Nat → Nat → Nat
  | 0, s => s
  | k + 1, s => step (steps k s)
def byte (s c : Nat) : Nat := steps 8 (s ^^^ c)
def run (l : List UInt8) : Nat := l.foldl (fun s c => byte s c.toNat) 4294967295
def crc (l : List UInt8) : Nat := run l ^^^ 4294967295

theorem step_lt {s : Nat} (h : s < 4294967296) : step s < 4294967296 := by
  unfold step
  split
  · exact Nat.xor_lt_two_pow (n := 32) (by omega) (by decide)
  · omega
theorem steps_lt (k : Nat) {s : Nat} (h : s < 4294967296) : steps k s < 4294967296 := by
  induction k with
  | zero => exact h
  | succ k ih => exact step_lt ih
theorem byte_lt {s c : Nat} (h : s < 4294967296) (hc : c < 4294967296) : byte s c < 4294967296 :=
  steps_lt 8 (Nat.xor_lt_two_pow (n := 32) h hc)
theorem fold_lt (l : List UInt8) {s : Nat} (h : s < 4294967296) : l.foldl (fun s c => byte s c.toNat) s < 4294967296 := by
  induction l generalizing s with
  | nil => exact h
  | cons c l ih => exact ih (byte_lt h (by have := c.toNat_lt; omega))
theorem run_lt (l : List UInt8) : run l < 4294967296 := fold_lt l (by decide)
theorem crc_lt (l : List UInt8) : crc l < 4294967296 := Nat.xor_lt_two_pow (n := 32) (run_lt l) (by decide)
theorem run_snoc (l : List UInt8) (c : UInt8) : run (l ++ [c]) = byte (run l) c.toNat := by
  simp [run, List.foldl_append]

theorem xor_cancel {a b c : Nat} (h : a ^^^ c = b ^^^ c) : a = b := by
  have : (a ^^^ c) ^^^ c = (b ^^^ c) ^^^ c := by rw [h]
  simpa [Nat.xor_assoc] using this
theorem xor_cancel_left {a b c : Nat} (h : c ^^^ a = c ^^^ b) : a = b := by
  rw [Nat.xor_comm c a, Nat.xor_comm c b] at h
  exact xor_cancel h
theorem high_set (a : Nat) (h : a < 2147483648) : (a ^^^ 3988292384).testBit 31 = true := by
  rw [Nat.testBit_xor, Nat.testBit_lt_two_pow (x := a) (i := 31) (by simpa using h)]
  decide
theorem step_inj {a b : Nat} (ha : a < 4294967296) (hb : b < 4294967296) (h : step a = step b) : a = b := by
  unfold step at h
  by_cases h1 : a % 2 = 1 <;> by_cases h2 : b % 2 = 1
  · rw [if_pos h1, if_pos h2] at h
    have := xor_cancel h
    omega
  · rw [if_pos h1, if_neg h2] at h
    have e1 := high_set (a / 2) (by omega)
    rw [h, Nat.testBit_lt_two_pow (x := b / 2) (i := 31) (by simp; omega)] at e1
    cases e1
  · rw [if_neg h1, if_pos h2] at h
    have e1 := high_set (b / 2) (by omega)
    rw [← h, Nat.testBit_lt_two_pow (x := a / 2) (i := 31) (by simp; omega)] at e1
    cases e1
  · rw [if_neg h1, if_neg h2] at h
    omega
theorem steps_inj (k : Nat) {a b : Nat} (ha : a < 4294967296) (hb : b < 4294967296) (h : steps k a = steps k b) : a = b := by
  induction k with
  | zero => exact h
  | succ k ih => exact ih (step_inj (steps_lt k ha) (steps_lt k hb) h)
theorem byte_inj {a b c : Nat} (ha : a < 4294967296) (hb : b < 4294967296) (hc : c < 4294967296) (h : byte a c = byte b c) : a = b :=
  xor_cancel (steps_inj 8 (Nat.xor_lt_two_pow (n := 32) ha hc) (Nat.xor_lt_two_pow (n := 32) hb hc) h)
theorem byte_inj_right {a c d : Nat} (ha : a < 4294967296) (hc : c < 4294967296) (hd : d < 4294967296) (h : byte a c = byte a d) : c = d :=
  xor_cancel_left (steps_inj 8 (Nat.xor_lt_two_pow (n := 32) ha hc) (Nat.xor_lt_two_pow (n := 32) ha hd) h)
theorem fold_inj (l : List UInt8) {a b : Nat} (ha : a < 4294967296) (hb : b < 4294967296)
    (h : l.foldl (fun s c => byte s c.toNat) a = l.foldl (fun s c => byte s c.toNat) b) : a = b := by
  induction l generalizing a b with
  | nil => exact h
  | cons c l ih =>
    have hc : c.toNat < 4294967296 := by have := c.toNat_lt; omega
    exact byte_inj ha hb hc (ih (byte_lt ha hc) (byte_lt hb hc) h)
/-- of one byte turned it is another one -/
theorem crc_turned (l1 l2 : List UInt8) (c d : UInt8) (h : c ≠ d) : crc (l1 ++ c :: l2) ≠ crc (l1 ++ d :: l2) := by
  intro e
  have e1 := xor_cancel e
  unfold run at e1
  rw [List.foldl_append, List.foldl_append, List.foldl_cons, List.foldl_cons] at e1
  have hc : c.toNat < 4294967296 := by have := c.toNat_lt; omega
  have hd : d.toNat < 4294967296 := by have := d.toNat_lt; omega
  have hr := fold_lt l1 (s := 4294967295) (by decide)
  have e2 := byte_inj_right hr hc hd (fold_inj l2 (byte_lt hr hc) (byte_lt hr hd) e1)
  exact h (UInt8.toNat_inj.1 e2)
theorem crc_nil : crc [] = 0 := by decide
theorem crc_known : crc [49, 50, 51, 52, 53, 54, 55, 56, 57] = 3421780262 := by decide +kernel
end Go.Proofs.YtamjliaeikoemaaDoor.CrcMath

/- What Crc32 answers, of the program and of the model: the same sum, for every text; nothing is made. Condition: the text's size is within Go's lengths. -/
namespace Go.Proofs.YtamjliaeikoemaaDoor.Crc
open Go.RowKit
theorem take_snoc (s : ByteArray) (k : Nat) (h : k < s.size) : s.data.toList.take (k + 1) = s.data.toList.take k ++ [s[k]] := by
  rw [List.take_succ_eq_append_getElem (by simpa using h)]; rfl
theorem step_odd {X : Nat} (h : X % 2 = 1) : CrcMath.step X = (X / 2) ^^^ 3988292384 := by unfold CrcMath.step; rw [if_pos h]
theorem step_even {X : Nat} (h : X % 2 = 0) : CrcMath.step X = X / 2 := by unfold CrcMath.step; rw [if_neg (by omega)]
theorem xor_turn (X : Nat) (h : X < 4294967296) : bits .xor .i64 ((X : Int) / 2) 3988292384 = (((X / 2) ^^^ 3988292384 : Nat) : Int) := by
  have := i64_xor_nat (X / 2) 3988292384 (by omega) (by omega)
  rw [show ((X / 2 : Nat) : Int) = (X : Int) / 2 from by omega] at this
  exact this
theorem xor_all (X : Nat) (h : X < 4294967296) : bits .xor .i64 (X : Int) 4294967295 = ((X ^^^ 4294967295 : Nat) : Int) := i64_xor_nat X 4294967295 (by omega) (by omega)
theorem xor_byte (X c : Nat) (h : X < 4294967296) (hc : c < 256) : bits .xor .i64 (X : Int) (c : Int) = ((X ^^^ c : Nat) : Int) := i64_xor_nat X c (by omega) (by omega)
set_option maxHeartbeats 400000 in
theorem spec_crc (s : ByteArray) (w : World) (hs : s.size ≤ maxLen) :
    Calls Tryd.prog 50 #[.string s] w fun e w' => e = .returned (.int .i64 (CrcMath.crc s.data.toList)) ∧ w' = w := by
  unfold maxLen at hs
  go_enter Tryd.func50, Tryd.ntmps50
  go_wp2
  go_loop [3, 4] (fun n i => ∃ k : Nat, k ≤ s.size ∧ i = .int .i64 k ∧ n = .int .i64 (CrcMath.run (s.data.toList.take k) : Nat)) (fun _ i => s.size - (intOf i).toNat)
  case atStart => exact ⟨0, Nat.zero_le _, rfl, rfl⟩
  case round =>
    obtain ⟨k, hk, rfl, rfl⟩ := hrel
    have hR := CrcMath.run_lt (s.data.toList.take k)
    by_cases hlt : k < s.size
    · have HS : Hid (CrcMath.run (s.data.toList.take (k + 1)) = CrcMath.byte (CrcMath.run (s.data.toList.take k)) s[k].toNat) := by show _ = _; rw [take_snoc s k hlt, CrcMath.run_snoc]
      generalize CrcMath.run (s.data.toList.take k) = R at hR HS
      have hc := s[k].toNat_lt
      obtain ⟨X, hX⟩ : ∃ X, X = R ^^^ s[k].toNat := ⟨_, rfl⟩
      have hXl : X < 4294967296 := by rw [hX]; exact Nat.xor_lt_two_pow (n := 32) hR (by omega)
      have hx : bits .xor .i64 (R : Int) (wrap64 (s[k].toNat : Int)) = (X : Int) := by rw [IntWalk.wrap64_in _ ⟨by omega, by omega⟩, xor_byte R _ hR (by omega), hX]
      have HX : Hid (CrcMath.byte R s[k].toNat = CrcMath.steps 8 X) := by show _ = _; rw [hX]; rfl
      clear hX hc
      go_wp2
      clear hx
      go_loop [3, 5] (fun n i => ∃ j : Nat, j ≤ 8 ∧ i = .int .i64 j ∧ n = .int .i64 (CrcMath.steps j X : Nat)) (fun _ i => 8 - (intOf i).toNat)
      case atStart => exact ⟨0, Nat.zero_le _, rfl, rfl⟩
      case round =>
        obtain ⟨j, hj, rfl, rfl⟩ := hrel
        have hS := CrcMath.steps_lt j hXl
        have HE : Hid (CrcMath.steps (j + 1) X = CrcMath.step (CrcMath.steps j X)) := rfl
        by_cases hj8 : j < 8
        · generalize CrcMath.steps j X = Y at hS HE
          rcases (show Y % 2 = 1 ∨ Y % 2 = 0 from by omega) with hp | hp
          · go_wp2
            go_round
            case rel => exact ⟨j + 1, by omega, by go_num, by rw [HE.out, step_odd hp, xor_turn Y hS]⟩
            case measure => simp [intOf]; omega
          · go_wp2
            go_round
            case rel => exact ⟨j + 1, by omega, by go_num, by rw [HE.out, step_even hp]; go_num⟩
            case measure => simp [intOf]; omega
        · obtain rfl : j = 8 := by omega
          go_wp2
          go_round
          case rel => exact ⟨k + 1, by omega, by go_num, by rw [HS.out, HX.out]⟩
          case measure => simp [intOf]; omega
    · go_wp2
      go_ret
      exact ⟨ret_int (by rw [xor_all _ hR, List.take_of_length_le (by simp; omega)]; rfl), rfl⟩
theorem xor_turn32 (X : Nat) (h : X < 4294967296) : bits .xor .u32 ((X : Int) / 2) 3988292384 = (((X / 2) ^^^ 3988292384 : Nat) : Int) := by
  have := u32_xor_nat (X / 2) 3988292384 (by omega) (by omega)
  rw [show ((X / 2 : Nat) : Int) = (X : Int) / 2 from by omega] at this
  exact this
theorem xor_all32 (X : Nat) (h : X < 4294967296) : bits .xor .u32 (X : Int) 4294967295 = ((X ^^^ 4294967295 : Nat) : Int) := u32_xor_nat X 4294967295 (by omega) (by omega)
set_option maxHeartbeats 400000 in
theorem impl_crc (s : ByteArray) (w : World) (hs : s.size ≤ maxLen) :
    Calls Tryd.prog 26 #[.string s] w fun e w' => e = .returned (.int .i64 (CrcMath.crc s.data.toList)) ∧ w' = w := by
  unfold maxLen at hs
  go_enter Tryd.func26, Tryd.ntmps26
  go_wp2
  go_loop [3, 8] (fun n i => ∃ k : Nat, k ≤ s.size ∧ i = .int .i64 k ∧ n = .int .u32 (CrcMath.run (s.data.toList.take k) : Nat)) (fun _ i => s.size - (intOf i).toNat)
  case atStart => exact ⟨0, Nat.zero_le _, rfl, rfl⟩
  case round =>
    obtain ⟨k, hk, rfl, rfl⟩ := hrel
    have hR := CrcMath.run_lt (s.data.toList.take k)
    by_cases hlt : k < s.size
    · have HS : Hid (CrcMath.run (s.data.toList.take (k + 1)) = CrcMath.byte (CrcMath.run (s.data.toList.take k)) s[k].toNat) := by show _ = _; rw [take_snoc s k hlt, CrcMath.run_snoc]
      generalize CrcMath.run (s.data.toList.take k) = R at hR HS
      have hc := s[k].toNat_lt
      obtain ⟨X, hX⟩ : ∃ X, X = R ^^^ s[k].toNat := ⟨_, rfl⟩
      have hXl : X < 4294967296 := by rw [hX]; exact Nat.xor_lt_two_pow (n := 32) hR (by omega)
      have hx : bits .xor .u32 (R : Int) ((s[k].toNat : Int) % 4294967296) = (X : Int) := by rw [show ((s[k].toNat : Int) % 4294967296) = (s[k].toNat : Int) from by omega, u32_xor_nat R _ hR (by omega), hX]
      have HX : Hid (CrcMath.byte R s[k].toNat = CrcMath.steps 8 X) := by show _ = _; rw [hX]; rfl
      clear hX hc
      go_wp2
      clear hx
      go_loop [3, 17] (fun n i => ∃ j : Nat, j ≤ 8 ∧ i = .int .i64 j ∧ n = .int .u32 (CrcMath.steps j X : Nat)) (fun _ i => 8 - (intOf i).toNat)
      case atStart => exact ⟨0, Nat.zero_le _, rfl, rfl⟩
      case round =>
        obtain ⟨j, hj, rfl, rfl⟩ := hrel
        have hS := CrcMath.steps_lt j hXl
        have HE : Hid (CrcMath.steps (j + 1) X = CrcMath.step (CrcMath.steps j X)) := rfl
        by_cases hj8 : j < 8
        · generalize CrcMath.steps j X = Y at hS HE
          rcases (show Y % 2 = 1 ∨ Y % 2 = 0 from by omega) with hp | hp
          · have ha : bits .and .u32 (Y : Int) 1 = 1 := by rw [u32_and_one Y hS, hp]; rfl
            go_wp2
            go_round
            case rel => exact ⟨j + 1, by omega, by go_num, by rw [HE.out, step_odd hp, xor_turn32 Y hS]⟩
            case measure => simp [intOf]; omega
          · have ha : bits .and .u32 (Y : Int) 1 = 0 := by rw [u32_and_one Y hS, hp]; rfl
            go_wp2
            go_round
            case rel => exact ⟨j + 1, by omega, by go_num, by rw [HE.out, step_even hp]; go_num⟩
            case measure => simp [intOf]; omega
        · obtain rfl : j = 8 := by omega
          go_wp2
          go_round
          case rel => exact ⟨k + 1, by omega, by go_num, by rw [HS.out, HX.out]⟩
          case measure => simp [intOf]; omega
    · have hC := CrcMath.crc_lt s.data.toList
      go_wp2
      go_ret
      exact ⟨ret_int (by rw [xor_all32 _ hR, List.take_of_length_le (by simp; omega)]; exact IntWalk.wrap64_in _ ⟨by unfold CrcMath.crc at hC; omega, by unfold CrcMath.crc at hC; omega⟩), rfl⟩
end Go.Proofs.YtamjliaeikoemaaDoor.Crc
namespace Go.Proofs.YtamjliaeikoemaaDoor
open Go.RowKit
end Go.Proofs.YtamjliaeikoemaaDoor

/- LogPut, of the program and of the model, at every number and record. What the first asks: the library's table of powers of ten as its text lays it. -/
namespace Go.Proofs.YtamjliaeikoemaaDoor.Rec
open Go.RowKit Rw PutMath Dec
set_option linter.unusedVariables false
set_option linter.unusedSimpArgs false
attribute [local go_sem ↓] Go.wp_at_zero Go.wp_at_succ
/-- what a line's checksum is taken of, and the line -/
def bare (n : Int) (s : ByteArray) : ByteArray := ofI n ++ sp ++ s
def sumOf (n : Int) (s : ByteArray) : Nat := CrcMath.crc (bare n s).data.toList
def line (n : Int) (s : ByteArray) : ByteArray := ofI n ++ sp ++ ofI (s.size : Int) ++ sp ++ s ++ sp ++ ofI (sumOf n s : Int) ++ ⟨#[10]⟩
theorem crc_small (l : List UInt8) : CrcMath.crc l ≤ 4294967296 := by
  have := CrcMath.run_lt l
  have h2 : CrcMath.run l ^^^ 4294967295 < 2 ^ 32 := Nat.xor_lt_two_pow (by simpa using this) (by decide)
  unfold CrcMath.crc
  omega
def logB (n : Int) (x : E) : Bool := recB x && Zig.inB n 0 9999
def logT (n : Int) (x : E) : ByteArray := if logB n x = true then line n (textR x) else ByteArray.empty
/-- the sums of a line, and of what its checksum is taken of -/
theorem sums3 {N L S C : ByteArray} (hN : N.size ≤ 18) (hL : L.size ≤ 18) (hS : S.size ≤ 1500) (hC : C.size ≤ 18) : ∃ A1 A2 A3 A4 A5 A6 A7 : ByteArray, A7 = N ++ sp ++ L ++ sp ++ S ++ sp ++ C ++ ⟨#[10]⟩ ∧ (∀ W, (Op.stringOp .add N ⟨#[32]⟩).run Tryd.prog W = .ok (.string A1) W) ∧ (∀ W, (Op.stringOp .add A1 L).run Tryd.prog W = .ok (.string A2) W) ∧ (∀ W, (Op.stringOp .add A2 ⟨#[32]⟩).run Tryd.prog W = .ok (.string A3) W) ∧ (∀ W, (Op.stringOp .add A3 S).run Tryd.prog W = .ok (.string A4) W) ∧ (∀ W, (Op.stringOp .add A4 ⟨#[32]⟩).run Tryd.prog W = .ok (.string A5) W) ∧ (∀ W, (Op.stringOp .add A5 C).run Tryd.prog W = .ok (.string A6) W) ∧ (∀ W, (Op.stringOp .add A6 ⟨#[10]⟩).run Tryd.prog W = .ok (.string A7) W) ∧ (∀ W, (Op.stringOp .add A1 S).run Tryd.prog W = .ok (.string (N ++ sp ++ S)) W) := by
  have e : sp.size = 1 := rfl
  have e2 : (⟨#[10]⟩ : ByteArray).size = 1 := rfl
  refine ⟨N ++ sp, N ++ sp ++ L, N ++ sp ++ L ++ sp, N ++ sp ++ L ++ sp ++ S, N ++ sp ++ L ++ sp ++ S ++ sp, N ++ sp ++ L ++ sp ++ S ++ sp ++ C, _, rfl, fun W => run_string_add_sum W _ sp (by omega), fun W => run_string_add_sum W _ _ (by simp only [app_size]; omega), fun W => run_string_add_sum W _ sp (by simp only [app_size]; omega), fun W => run_string_add_sum W _ _ (by simp only [app_size]; omega), fun W => run_string_add_sum W _ sp (by simp only [app_size]; omega), fun W => run_string_add_sum W _ _ (by simp only [app_size]; omega), fun W => run_string_add_sum W _ _ (by simp only [app_size]; omega), fun W => run_string_add_sum W _ _ (by simp only [app_size]; omega)⟩
theorem bare_size {n : Int} {s : ByteArray} (hn : n ≤ 9999) (hs : s.size ≤ 1500) : (bare n s).size ≤ maxLen := by
  have := ofI_size (n := n) (by omega)
  have e : sp.size = 1 := rfl
  unfold bare maxLen
  simp only [app_size]
  omega
set_option maxRecDepth 100000 in
set_option maxHeartbeats 8000000 in
theorem line_any (n : Int) (s : ByteArray) (w : World) (h0 : 0 ≤ n) (h1 : n ≤ 9999) (hs : s.size ≤ 1500) : Calls Tryd.prog 25 #[.int .i64 n, .string s] w fun e w' => e = .returned (.string (line n s)) ∧ Below w.heap.size w w' := by
  have HN := hide (fun W => dec_int (n := n) W h0 (by omega))
  have HL := hide (fun W => dec_int (n := (s.size : Int)) W (by omega) (by omega))
  have HS := hide (fun W => Crc.spec_crc (bare n s) W (bare_size h1 hs))
  have HC := hide (fun W => dec_int (n := (sumOf n s : Int)) W (by omega) (by have := crc_small (bare n s).data.toList; unfold sumOf; omega))
  have hNs := ofI_size (n := n) (by omega)
  have hLs := ofI_size (n := (s.size : Int)) (by omega)
  have hCs := ofI_size (n := (sumOf n s : Int)) (by have := crc_small (bare n s).data.toList; unfold sumOf; omega)
  have HEq := hide (show line n s = ofI n ++ sp ++ ofI (s.size : Int) ++ sp ++ s ++ sp ++ ofI (sumOf n s : Int) ++ ⟨#[10]⟩ from rfl)
  have hb : bare n s = ofI n ++ sp ++ s := rfl
  obtain ⟨K, hK⟩ : ∃ K, K = sumOf n s := ⟨_, rfl⟩
  have HS := hide (fun W => show Calls Tryd.prog 50 #[.string (ofI n ++ sp ++ s)] W fun e w' => e = .returned (.int .i64 (K : Int)) ∧ w' = W by rw [hK]; exact unhide HS W)
  rw [← hK] at HC hCs HEq
  clear hK hb
  generalize ofI (K : Int) = C at HC hCs HEq
  generalize ofI (s.size : Int) = L at HL hLs HEq
  generalize ofI n = N at HN hNs HEq HS
  obtain ⟨A1, A2, A3, A4, A5, A6, A7, hA7, s1, s2, s3, s4, s5, s6, s7, s8⟩ := sums3 hNs hLs hs hCs
  rw [← hA7] at HEq
  clear hA7 hNs hLs hCs
  generalize N ++ sp ++ s = U at HS s8
  go_enter Tryd.func25, Tryd.ntmps25
  go_wp2_with fail
  refine (unhide HN _).mono ?_
  rintro e w1 ⟨rfl, b1⟩
  go_wp2_with fail
  refine (unhide HL _).mono ?_
  rintro e w2 ⟨rfl, b2⟩
  have c2 := b1.trans (b2.mono b1.size)
  go_wp2_with fail
  refine (unhide HN _).mono ?_
  rintro e w3 ⟨rfl, b3⟩
  have c3 := c2.trans (b3.mono c2.size)
  go_wp2_with fail
  refine (unhide HS _).mono ?_
  rintro e w4 ⟨rfl, rfl⟩
  go_wp2_with fail
  refine (unhide HC _).mono ?_
  rintro e w5 ⟨rfl, b5⟩
  have c5 := c3.trans (b5.mono c3.size)
  go_wp2_with fail
  go_ret
  exact ⟨ret_dec (unhide HEq), c5⟩
theorem log_no {n : Int} {x : E} (h : recB x = false ∨ n < 0 ∨ 9999 < n) : logT n x = ByteArray.empty := by
  have : logB n x = false := by
    unfold logB
    rcases h with h | h | h
    · rw [h]; rfl
    · rw [Samp.inB_false (by omega)]; simp
    · rw [Samp.inB_false (by omega)]; simp
  unfold logT
  rw [this]; rfl
theorem log_yes {n : Int} {x : E} (h : recB x = true) (h0 : 0 ≤ n) (h1 : n ≤ 9999) : logT n x = line n (textR x) := by
  have : logB n x = true := by
    unfold logB
    rw [h, Samp.inB_true h0 h1]; rfl
  unfold logT
  rw [if_pos this]
end Go.Proofs.YtamjliaeikoemaaDoor.Rec

/- LogPut of the model, at every number and record. No condition. -/
namespace Go.Proofs.YtamjliaeikoemaaDoor.Rec
open Go.RowKit Rw PutMath Dec
set_option linter.unusedVariables false
set_option linter.unusedSimpArgs false
attribute [local go_sem ↓] Go.wp_at_zero Go.wp_at_succ
set_option maxRecDepth 100000 in
set_option maxHeartbeats 8000000 in
theorem spec_log {w : World} {vb vl : Value} {zb : List Ent.E} {zl : List Mat.E} (n K F T : Int) (hb : Ent.Is w vb zb) (hl : Mat.Is w vl zl) (gb : ∀ y ∈ zb, Ent.good y) (gl : ∀ y ∈ zl, Mat.good y) (ll : zl.length ≤ maxLen) :
    Calls Tryd.prog 10 #[.int .i64 n, .agg #[.int .i64 K, vb, vl, .int .i64 F, .int .i64 T]] w fun e w' => e = .returned (.string (logT n (K, zb, zl, F, T))) ∧ Below w.heap.size w w' := by
  have CO := hide (fun W (hB : Below w.heap.size w W) => spec_ok K F T (hb.below hB) (hl.below hB) gb gl ll)
  have CT := hide (fun W (hB : Below w.heap.size w W) h => spec_text K F T (hb.below hB) (hl.below hB) h)
  clear hb hl gb gl ll
  obtain ⟨rb, hrb⟩ : ∃ rb, rb = recB (K, zb, zl, F, T) := ⟨_, rfl⟩
  rw [← hrb] at CO CT
  obtain ⟨wa, hwa⟩ : ∃ wa, wa = w.alloc (.cells #[.int .i64 K, vb, vl, .int .i64 F, .int .i64 T] 31) := ⟨_, rfl⟩
  have B : Below w.heap.size w wa := by rw [hwa]; exact (Below.refl _ _).alloc (Nat.le_refl _) _
  have za : w.heap.size < wa.heap.size := by rw [hwa]; simp
  have A0 : wa.cell? ⟨w.heap.size, 0, none⟩ = some (.int .i64 K) := by rw [hwa]; simp [go_sem]
  have A1 : wa.cell? ⟨w.heap.size, 1, none⟩ = some vb := by rw [hwa]; simp [go_sem]
  have A2 : wa.cell? ⟨w.heap.size, 2, none⟩ = some vl := by rw [hwa]; simp [go_sem]
  have A3 : wa.cell? ⟨w.heap.size, 3, none⟩ = some (.int .i64 F) := by rw [hwa]; simp [go_sem]
  have A4 : wa.cell? ⟨w.heap.size, 4, none⟩ = some (.int .i64 T) := by rw [hwa]; simp [go_sem]
  have CN := hide (fun (h : recB (K, zb, zl, F, T) = false ∨ n < 0 ∨ 9999 < n) => log_no h)
  have CY := hide (fun (h : recB (K, zb, zl, F, T) = true) (h0 : 0 ≤ n) (h1 : n ≤ 9999) => log_yes h h0 h1)
  have CS := hide (fun (h : recB (K, zb, zl, F, T) = true) => text_size h)
  rw [← hrb] at CN CY CS
  clear hrb
  generalize textR (K, zb, zl, F, T) = S at CT CY CS
  cases rb
  · have HR := hide (unhide CN (.inl rfl))
    clear CT CN CY CS
    go_enter Tryd.func10, Tryd.ntmps10
    go_wp2_with fail
    rw [← hwa]
    clear hwa
    refine (unhide CO _ B).mono ?_
    rintro e w1 ⟨rfl, b1⟩
    have B1 := B.trans (b1.mono B.size)
    go_wp2_with fail
    go_ret
    exact ⟨ret_dec (unhide HR), B1⟩
  by_cases hr : n < 0 ∨ 9999 < n
  · have HR := hide (unhide CN (.inr hr))
    have HI := hide (fun W => Lab.in_no n 0 9999 W hr)
    clear CT CN CY CS
    go_enter Tryd.func10, Tryd.ntmps10
    go_wp2_with fail
    rw [← hwa]
    clear hwa
    refine (unhide CO _ B).mono ?_
    rintro e w1 ⟨rfl, b1⟩
    have B1 := B.trans (b1.mono B.size)
    clear hr
    go_wp2_with fail
    refine (unhide HI _).mono ?_
    rintro e w2 ⟨rfl, rfl⟩
    go_wp2_with fail
    go_ret
    exact ⟨ret_dec (unhide HR), B1⟩
  · have n0 : 0 ≤ n := by omega
    have n1 : n ≤ 9999 := by omega
    have HR := hide (unhide CY rfl n0 n1)
    have HI := hide (fun W => Lab.in_yes n 0 9999 W n0 n1)
    have HLn := hide (fun W => line_any n S W n0 n1 (unhide CS rfl))
    have CT2 := hide (fun (W : World) (hB : Below w.heap.size w W) => unhide CT W hB rfl)
    clear CT CN CY CS hr n0 n1
    generalize line n S = R at HLn HR
    go_enter Tryd.func10, Tryd.ntmps10
    go_wp2_with fail
    rw [← hwa]
    clear hwa
    refine (unhide CO _ B).mono ?_
    rintro e w1 ⟨rfl, b1⟩
    have hz := b1.size
    have A0 := (b1.cell (p := ⟨w.heap.size, 0, none⟩) (by show w.heap.size < _; omega)).trans A0
    have A1 := (b1.cell (p := ⟨w.heap.size, 1, none⟩) (by show w.heap.size < _; omega)).trans A1
    have A2 := (b1.cell (p := ⟨w.heap.size, 2, none⟩) (by show w.heap.size < _; omega)).trans A2
    have A3 := (b1.cell (p := ⟨w.heap.size, 3, none⟩) (by show w.heap.size < _; omega)).trans A3
    have A4 := (b1.cell (p := ⟨w.heap.size, 4, none⟩) (by show w.heap.size < _; omega)).trans A4
    have B1 := B.trans (b1.mono B.size)
    clear b1
    go_wp2_with fail
    refine (unhide HI _).mono ?_
    rintro e w2 ⟨rfl, rfl⟩
    go_wp2_with fail
    refine (unhide CT2 _ B1).mono ?_
    rintro e w3 ⟨rfl, b3⟩
    have B3 := B1.trans (b3.mono B1.size)
    go_wp2_with fail
    refine (unhide HLn _).mono ?_
    rintro e w4 ⟨rfl, b4⟩
    have B4 := B3.trans (b4.mono B3.size)
    go_wp2_with fail
    go_ret
    exact ⟨ret_dec (unhide HR), B4⟩
end Go.Proofs.YtamjliaeikoemaaDoor.Rec
