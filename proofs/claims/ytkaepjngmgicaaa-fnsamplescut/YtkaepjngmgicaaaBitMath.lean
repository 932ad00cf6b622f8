/- Bits of a text, as numbers. No condition. -/
import Derived.Test.YtkaepjngmgicaaaOwn
import Derived.Test.YtkaepjngmgicaaaBitLaws
namespace Go.Proofs.Ytkaepjngmgicaaa.BitMath
open Go.RowKit
/-- bit i of a text, the highest of each byte first -/
def bit (l : List UInt8) (i : Nat) : Nat := (l.getD (i / 8) 0).toNat / 2 ^ (7 - i % 8) % 2
/-- so many bits as a number -/
def num (l : List UInt8) (at_ : Nat) : Nat → Nat
  | 0 => 0
  | k + 1 => num l at_ k * 2 + bit l (at_ + k)
theorem bit_lt (l : List UInt8) (i : Nat) : bit l i < 2 := Nat.mod_lt _ (by decide)
theorem num_lt (l : List UInt8) (at_ : Nat) : ∀ k, num l at_ k < 2 ^ k
  | 0 => by simp [num]
  | k + 1 => by have := num_lt l at_ k; have := bit_lt l (at_ + k); rw [num, Nat.pow_succ]; omega
theorem num_le (l : List UInt8) (at_ k : Nat) (h : k ≤ 32) : num l at_ k < 4294967296 := by
  have := num_lt l at_ k
  have h2 : 2 ^ k ≤ 2 ^ 32 := Nat.pow_le_pow_right (by decide) h
  omega
/-- what a round meets at bit i: the byte, the shift, the bit -/
theorem index_at (s : ByteArray) (j : Nat) (h : j < s.size) : ∃ c : Nat, c < 256 ∧ c = (s.data.toList.getD j 0).toNat ∧ ∀ W : World, (Instr.index 9 (.string s) (.int .i64 (j : Int))).run Try.prog W = .ok (.int .u8 (c : Int)) W := by
  refine ⟨s[j].toNat, s[j].toNat_lt, ?_, fun W => ?_⟩
  · have h' : j < s.data.toList.length := by simpa using h
    rw [List.getD_eq_getElem?_getD, List.getElem?_eq_getElem h']
    rfl
  · rw [run_index_string W _ s .i64 j Try.underlying9, dif_pos ⟨by omega, by omega⟩]; simp
end Go.Proofs.Ytkaepjngmgicaaa.BitMath
