/- The sum of a text, as plain mathematics: one step of eight, a byte, a text; a turned byte turns the sum. No condition. -/
namespace Go.Proofs.Ytkaepjngmgicaaa.CrcMath

def step (s : Nat) : Nat := if s % 2 = 1 then (s / 2) ^^^ 3988292384 else s / 2
def steps : Nat → Nat → Nat
  | 0, s => s
  | k + 1, s => step (steps k s)
def byte (s c : Nat) : Nat := steps 8 (s ^^^ c)
def run (l : List UInt8) : Nat := l.foldl (fun s c => byte s c.toNat) 4294967295
def crc (l : List UInt8) : Nat := run l ^^^ 4294967295

theorem step_lt {s : Nat} (h : s < 4294967296) : step s < 4294967296 := by
  unfold step
  split
  · exact Nat.xor_lt_two_pow (n := 32) (by omega) (by decide)
  · omega
theorem steps_lt (k : Nat) {s : Nat} (h : s < 4294967296) : steps k s < 4294967296 := by
  induction k with
  | zero => exact h
  | succ k ih => exact step_lt ih
theorem byte_lt {s c : Nat} (h : s < 4294967296) (hc : c < 4294967296) : byte s c < 4294967296 :=
  steps_lt 8 (Nat.xor_lt_two_pow (n := 32) h hc)
theorem fold_lt (l : List UInt8) {s : Nat} (h : s < 4294967296) : l.foldl (fun s c => byte s c.toNat) s < 4294967296 := by
  induction l generalizing s with
  | nil => exact h
  | cons c l ih => exact ih (byte_lt h (by have := c.toNat_lt; omega))
theorem run_lt (l : List UInt8) : run l < 4294967296 := fold_lt l (by decide)
theorem crc_lt (l : List UInt8) : crc l < 4294967296 := Nat.xor_lt_two_pow (n := 32) (run_lt l) (by decide)
theorem run_snoc (l : List UInt8) (c : UInt8) : run (l ++ [c]) = byte (run l) c.toNat := by
  simp [run, List.foldl_append]

theorem xor_cancel {a b c : Nat} (h : a ^^^ c = b ^^^ c) : a = b := by
  have : (a ^^^ c) ^^^ c = (b ^^^ c) ^^^ c := by rw [h]
  simpa [Nat.xor_assoc] using this
theorem xor_cancel_left {a b c : Nat} (h : c ^^^ a = c ^^^ b) : a = b := by
  rw [Nat.xor_comm c a, Nat.xor_comm c b] at h
  exact xor_cancel h
theorem high_set (a : Nat) (h : a < 2147483648) : (a ^^^ 3988292384).testBit 31 = true := by
  rw [Nat.testBit_xor, Nat.testBit_lt_two_pow (x := a) (i := 31) (by simpa using h)]
  decide
theorem step_inj {a b : Nat} (ha : a < 4294967296) (hb : b < 4294967296) (h : step a = step b) : a = b := by
  unfold step at h
  by_cases h1 : a % 2 = 1 <;> by_cases h2 : b % 2 = 1
  · rw [if_pos h1, if_pos h2] at h
    have := xor_cancel h
    omega
  · rw [if_pos h1, if_neg h2] at h
    have e1 := high_set (a / 2) (by omega)
    rw [h, Nat.testBit_lt_two_pow (x := b / 2) (i := 31) (by simp; omega)] at e1
    cases e1
  · rw [if_neg h1, if_pos h2] at h
    have e1 := high_set (b / 2) (by omega)
    rw [← h, Nat.testBit_lt_two_pow (x := a / 2) (i := 31) (by simp; omega)] at e1
    cases e1
  · rw [if_neg h1, if_neg h2] at h
    omega
theorem steps_inj (k : Nat) {a b : Nat} (ha : a < 4294967296) (hb : b < 4294967296) (h : steps k a = steps k b) : a = b := by
  induction k with
  | zero => exact h
  | succ k ih => exact ih (step_inj (steps_lt k ha) (steps_lt k hb) h)
theorem byte_inj {a b c : Nat} (ha : a < 4294967296) (hb : b < 4294967296) (hc : c < 4294967296) (h : byte a c = byte b c) : a = b :=
  xor_cancel (steps_inj 8 (Nat.xor_lt_two_pow (n := 32) ha hc) (Nat.xor_lt_two_pow (n := 32) hb hc) h)
theorem byte_inj_right {a c d : Nat} (ha : a < 4294967296) (hc : c < 4294967296) (hd : d < 4294967296) (h : byte a c = byte a d) : c = d :=
  xor_cancel_left (steps_inj 8 (Nat.xor_lt_two_pow (n := 32) ha hc) (Nat.xor_lt_two_pow (n := 32) ha hd) h)
theorem fold_inj (l : List UInt8) {a b : Nat} (ha : a < 4294967296) (hb : b < 4294967296)
    (h : l.foldl (fun s c => byte s c.toNat) a = l.foldl (fun s c => byte s c.toNat) b) : a = b := by
  induction l generalizing a b with
  | nil => exact h
  | cons c l ih =>
    have hc : c.toNat < 4294967296 := by have := c.toNat_lt; omega
    exact byte_inj ha hb hc (ih (byte_lt ha hc) (byte_lt hb hc) h)
/-- of one byte turned it is another one -/
theorem crc_turned (l1 l2 : List UInt8) (c d : UInt8) (h : c ≠ d) : crc (l1 ++ c :: l2) ≠ crc (l1 ++ d :: l2) := by
  intro e
  have e1 := xor_cancel e
  unfold run at e1
  rw [List.foldl_append, List.foldl_append, List.foldl_cons, List.foldl_cons] at e1
  have hc : c.toNat < 4294967296 := by have := c.toNat_lt; omega
  have hd : d.toNat < 4294967296 := by have := d.toNat_lt; omega
  have hr := fold_lt l1 (s := 4294967295) (by decide)
  have e2 := byte_inj_right hr hc hd (fold_inj l2 (byte_lt hr hc) (byte_lt hr hd) e1)
  exact h (UInt8.toNat_inj.1 e2)
theorem crc_nil : crc [] = 0 := by decide
theorem crc_known : crc [49, 50, 51, 52, 53, 54, 55, 56, 57] = 3421780262 := by decide +kernel
end Go.Proofs.Ytkaepjngmgicaaa.CrcMath
