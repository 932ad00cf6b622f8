/- Bits are read back from bytes. No condition. -/
import Derived.Test.YtkaepjngmgicaaaBitText
import Derived.Test.YtkaepjngmgicaaaBitOk
namespace Go.Proofs.Ytkaepjngmgicaaa.BitPut
open Go.RowKit Samp SampMath
set_option linter.unusedVariables false
theorem bit_test (l : List UInt8) (i : Nat) : BitMath.bit l i = ((l.getD (i / 8) 0).toNat.testBit (7 - i % 8)).toNat := by
  unfold BitMath.bit
  rw [Nat.toNat_testBit]
theorem orAt_bit (out : List UInt8) (k : Nat) (b : UInt8) (hb : b.toNat < 2) (hk : k / 8 < out.length) (i : Nat) :
    BitMath.bit (orAt out k b) i = if i = k then (BitMath.bit out i ||| b.toNat) else BitMath.bit out i := by
  have hc := (out.getD (k / 8) 0).toNat_lt
  have hp : 2 ^ (7 - k % 8) ≤ 2 ^ 7 := Nat.pow_le_pow_right (by decide) (by omega)
  have hx : b.toNat * 2 ^ (7 - k % 8) < 256 := by
    rcases (show b.toNat = 0 ∨ b.toNat = 1 by omega) with h | h <;> rw [h] <;> omega
  have hy : (out.getD (k / 8) 0).toNat ||| b.toNat * 2 ^ (7 - k % 8) < 2 ^ 8 := Nat.or_lt_two_pow hc hx
  rw [bit_test, bit_test]
  unfold orAt
  by_cases hJ : i / 8 = k / 8
  · have e : (out.set (k / 8) (UInt8.ofNat ((out.getD (k / 8) 0).toNat ||| b.toNat * 2 ^ (7 - k % 8)))).getD (i / 8) 0 = UInt8.ofNat ((out.getD (k / 8) 0).toNat ||| b.toNat * 2 ^ (7 - k % 8)) := by
      rw [hJ, List.getD_eq_getElem?_getD, List.getElem?_set_self hk]
      rfl
    rw [e, UInt8.toNat_ofNat', Nat.mod_eq_of_lt hy, Nat.testBit_or, hJ]
    rcases (show b.toNat = 0 ∨ b.toNat = 1 by omega) with h | h
    · rw [h]
      simp
    · rw [h, Nat.one_mul, Nat.testBit_two_pow]
      by_cases hik : i = k
      · subst hik
        simp
        generalize (out[i / 8]?.getD 0).toNat.testBit (7 - i % 8) = y
        cases y <;> rfl
      · have hne : ¬ 7 - k % 8 = 7 - i % 8 := by omega
        simp [hik, hne]
  · have hik : ¬ i = k := fun h => hJ (by rw [h])
    have e : (out.set (k / 8) (UInt8.ofNat ((out.getD (k / 8) 0).toNat ||| b.toNat * 2 ^ (7 - k % 8)))).getD (i / 8) 0 = out.getD (i / 8) 0 := by
      rw [List.getD_eq_getElem?_getD, List.getElem?_set_ne (fun h => hJ h.symm), List.getD_eq_getElem?_getD]
    rw [e, if_neg hik]
theorem text_bit (bs : List UInt8) (hbb : ∀ i, (bs.getD i 0).toNat < 2) : ∀ k, k ≤ bs.length → ∀ i, BitMath.bit (textK bs k) i = if i < k then (bs.getD i 0).toNat else 0
  | 0, _, i => by
    rw [bit_test]
    have e : (textK bs 0).getD (i / 8) 0 = 0 := by
      unfold textK
      rw [List.getD_eq_getElem?_getD, List.getElem?_replicate]
      split <;> rfl
    rw [e]
    simp
  | k + 1, h, i => by
    rw [textK, orAt_bit _ _ _ (hbb k) (by rw [textK_length]; omega) i, text_bit bs hbb k (by omega) i]
    by_cases hik : i = k
    · subst hik
      simp
    · rw [if_neg hik]
      by_cases h1 : i < k
      · rw [if_pos h1, if_pos (by omega)]
      · rw [if_neg h1, if_neg (by omega)]
theorem num_back (l : List UInt8) (p q T : Nat) (hT : T < 2 ^ q) (h : ∀ j, j < q → BitMath.bit l (p + j) = T / 2 ^ (q - 1 - j) % 2) : ∀ k, k ≤ q → BitMath.num l p k = T / 2 ^ (q - k)
  | 0, _ => by rw [BitMath.num, Nat.sub_zero, Nat.div_eq_of_lt hT]
  | k + 1, hk => by
    rw [BitMath.num, num_back l p q T hT h k (by omega), h k (by omega), show q - k = (q - 1 - k) + 1 by omega, Nat.pow_succ, ← Nat.div_div_eq_div_mul, show q - (k + 1) = q - 1 - k by omega]
    omega
theorem bitsTo_at (zs : List S) (k T q : Nat) (hk : k < zs.length) (hz : at' zs k = ((T : Int), (q : Int))) (j : Nat) (hj : j < q) :
    ((bitsTo zs zs.length).getD ((bitsTo zs k).length + j) 0).toNat = T / 2 ^ (q - 1 - j) % 2 := by
  have hs : bitsTo zs (k + 1) = bitsTo zs k ++ bitsK T q q := by rw [bitsTo_succ zs k hk, hz]; rfl
  obtain ⟨r, hr⟩ : ∃ r, bitsTo zs zs.length = bitsTo zs (k + 1) ++ r := by
    refine ⟨(zs.drop (k + 1)).flatMap fun z => bitsK z.1.toNat z.2.toNat z.2.toNat, ?_⟩
    unfold bitsTo
    rw [List.take_length, ← List.flatMap_append, List.take_append_drop]
  rw [hr, hs, List.getD_eq_getElem?_getD, List.append_assoc, List.getElem?_append_right (by omega), Nat.add_sub_cancel_left, List.getElem?_append_left (by rw [bitsK_length]; exact hj)]
  unfold bitsK
  rw [List.getElem?_map, List.getElem?_range hj]
  show (UInt8.ofNat _).toNat = _
  rw [bit_toNat]
theorem bitsTo_le (zs : List S) (k : Nat) (hk : k ≤ zs.length) : (bitsTo zs k).length ≤ (bitsTo zs zs.length).length := by
  have hr : bitsTo zs zs.length = bitsTo zs k ++ (zs.drop k).flatMap fun z => bitsK z.1.toNat z.2.toNat z.2.toNat := by
    unfold bitsTo
    rw [List.take_length, ← List.flatMap_append, List.take_append_drop]
  rw [hr, List.length_append]
  omega
/-- what is put of good numbers is read back -/
theorem put_get (zs : List S) (k T q : Nat) (hk : k < zs.length) (hz : at' zs k = ((T : Int), (q : Int))) (hT : T < 2 ^ q) :
    BitMath.num (textK (bitsTo zs zs.length) (bitsTo zs zs.length).length) (bitsTo zs k).length q = T := by
  have hs : bitsTo zs (k + 1) = bitsTo zs k ++ bitsK T q q := by rw [bitsTo_succ zs k hk, hz]; rfl
  have hl := bitsTo_le zs (k + 1) (by omega)
  rw [hs, List.length_append, bitsK_length] at hl
  have h := num_back (textK (bitsTo zs zs.length) (bitsTo zs zs.length).length) (bitsTo zs k).length q T hT (fun j hj => by
    rw [text_bit _ (bitsTo_bit zs _) _ (Nat.le_refl _), if_pos (by omega), bitsTo_at zs k T q hk hz j hj]) q (Nat.le_refl _)
  rw [h, Nat.sub_self, Nat.pow_zero, Nat.div_one]
end Go.Proofs.Ytkaepjngmgicaaa.BitPut
