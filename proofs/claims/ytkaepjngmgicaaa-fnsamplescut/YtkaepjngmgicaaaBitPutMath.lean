/- Bits of numbers, and bits as bytes. No condition. -/
import Derived.Test.YtkaepjngmgicaaaBitMath
namespace Go.Proofs.Ytkaepjngmgicaaa.BitPut
open Go.RowKit
/-- the first k of so many bits of a number, the highest first -/
def bitsK (num wide k : Nat) : List UInt8 := (List.range k).map fun j => UInt8.ofNat (num / 2 ^ (wide - 1 - j) % 2)
theorem bitsK_succ (num wide k : Nat) : bitsK num wide (k + 1) = bitsK num wide k ++ [UInt8.ofNat (num / 2 ^ (wide - 1 - k) % 2)] := by
  unfold bitsK
  rw [List.range_succ, List.map_append]
  rfl
theorem bitsK_length (num wide k : Nat) : (bitsK num wide k).length = k := by simp [bitsK]
theorem bit_toNat (n : Nat) : (UInt8.ofNat (n % 2)).toNat = n % 2 := by
  rw [UInt8.toNat_ofNat']
  exact Nat.mod_eq_of_lt (by have := Nat.mod_lt n (show 0 < 2 by decide); omega)
end Go.Proofs.Ytkaepjngmgicaaa.BitPut
