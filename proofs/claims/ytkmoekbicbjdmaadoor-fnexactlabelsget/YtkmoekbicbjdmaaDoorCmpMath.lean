/- How texts and labels stand to each other, as plain mathematics. No condition. -/
import Derived.Test.YtkmoekbicbjdmaaDoorLabMath
import Derived.Lib.Bytealg
namespace Go.Proofs.YtkmoekbicbjdmaaDoor.Lab
open Go.RowKit Rw
theorem less_irrefl : ∀ a : List UInt8, Op.bytesLess a a = false
  | [] => rfl
  | x :: a => by unfold Op.bytesLess; rw [less_irrefl a]; simp
theorem cmp_less : ∀ a b : List UInt8, Lib.compareBytes a b = if Op.bytesLess a b = true then -1 else if a = b then 0 else 1
  | [], [] => by simp [Lib.compareBytes, Op.bytesLess]
  | [], y :: b => by simp [Lib.compareBytes, Op.bytesLess]
  | x :: a, [] => by simp [Lib.compareBytes, Op.bytesLess]
  | x :: a, y :: b => by
    rw [Lib.compareBytes, Op.bytesLess, cmp_less a b]
    by_cases h1 : x < y
    · simp [h1]
    · by_cases h2 : y < x
      · have hne : x ≠ y := fun e => by subst e; exact h1 h2
        simp [h1, h2, hne]
      · have e : x = y := by
          have a1 : ¬ x.toNat < y.toNat := fun h => h1 (UInt8.lt_iff_toNat_lt.2 h)
          have a2 : ¬ y.toNat < x.toNat := fun h => h2 (UInt8.lt_iff_toNat_lt.2 h)
          exact UInt8.toNat_inj.1 (by omega)
        subst e
        simp [h1]
def cmpS (a b : ByteArray) : Int := Lib.compareBytes a.data.toList b.data.toList
theorem cmpS_eq (a b : ByteArray) : cmpS a b = if ltS a b = true then -1 else if a.toList = b.toList then 0 else 1 := by
  unfold cmpS ltS
  rw [ByteArray.toList_eq, ByteArray.toList_eq]
  exact cmp_less _ _
theorem cmpS_range (a b : ByteArray) : -1 ≤ cmpS a b ∧ cmpS a b ≤ 1 := by
  rw [cmpS_eq]; split
  · omega
  · split <;> omega
def cmpE (x y : E) : Int := if cmpS x.1 y.1 ≠ 0 then cmpS x.1 y.1 else cmpS x.2 y.2
theorem cmpE_range (x y : E) : -1 ≤ cmpE x y ∧ cmpE x y ≤ 1 := by
  unfold cmpE; split
  · exact cmpS_range _ _
  · exact cmpS_range _ _
def cmpL : List E → List E → Int
  | [], [] => 0
  | [], _ :: _ => -1
  | _ :: _, [] => 1
  | x :: a, y :: b => if cmpE x y ≠ 0 then cmpE x y else cmpL a b
theorem cmpL_range : ∀ a b : List E, -1 ≤ cmpL a b ∧ cmpL a b ≤ 1
  | [], [] => by simp [cmpL]
  | [], _ :: _ => by simp [cmpL]
  | _ :: _, [] => by simp [cmpL]
  | x :: a, y :: b => by
    rw [cmpL]; split
    · exact cmpE_range x y
    · exact cmpL_range a b
theorem drop_at (zs : List E) (i : Nat) (h : i < zs.length) : zs.drop i = at' zs i :: zs.drop (i + 1) := by
  rw [List.drop_eq_getElem_cons h, at_get zs i h]
/-- what the loops keep -/
def CLeft (a b : List E) (i : Nat) : Prop := cmpL a b = cmpL (a.drop i) (b.drop i)
theorem left_start (a b : List E) : CLeft a b 0 := by simp [CLeft]
theorem left_next {a b : List E} {i : Nat} (h : CLeft a b i) (hi : i < a.length) (hj : i < b.length) (he : cmpE (at' a i) (at' b i) = 0) : CLeft a b (i + 1) := by
  unfold CLeft at *
  rw [h, drop_at a i hi, drop_at b i hj, cmpL, if_neg (by simp [he])]
theorem left_stop {a b : List E} {i : Nat} (h : CLeft a b i) (hi : i < a.length) (hj : i < b.length) (he : cmpE (at' a i) (at' b i) ≠ 0) : cmpL a b = cmpE (at' a i) (at' b i) := by
  unfold CLeft at *
  rw [h, drop_at a i hi, drop_at b i hj, cmpL, if_pos he]
theorem left_long {a b : List E} {i : Nat} (h : CLeft a b i) (hi : i < a.length) (hj : b.length ≤ i) : cmpL a b = 1 := by
  unfold CLeft at *
  rw [h, drop_at a i hi, List.drop_eq_nil_of_le hj, cmpL]
theorem left_short {a b : List E} {i : Nat} (h : CLeft a b i) (hi : a.length ≤ i) (hj : i < b.length) : cmpL a b = -1 := by
  unfold CLeft at *
  rw [h, drop_at b i hj, List.drop_eq_nil_of_le hi, cmpL]
theorem left_same {a b : List E} {i : Nat} (h : CLeft a b i) (hi : a.length ≤ i) (hj : b.length ≤ i) : cmpL a b = 0 := by
  unfold CLeft at *
  rw [h, List.drop_eq_nil_of_le hj, List.drop_eq_nil_of_le hi, cmpL]
/-- what LabelsCmp answers -/
def cmp (a b : List E) : Int := if ok a = true ∧ ok b = true then cmpL a b else 0
theorem cmp_bad {a b : List E} (h : ok a = false ∨ ok b = false) : cmp a b = 0 := by
  unfold cmp; rw [if_neg]; rintro ⟨h1, h2⟩; rcases h with h | h <;> simp_all
theorem cmp_ok {a b : List E} (h1 : ok a = true) (h2 : ok b = true) : cmp a b = cmpL a b := by unfold cmp; rw [if_pos ⟨h1, h2⟩]
end Go.Proofs.YtkmoekbicbjdmaaDoor.Lab
