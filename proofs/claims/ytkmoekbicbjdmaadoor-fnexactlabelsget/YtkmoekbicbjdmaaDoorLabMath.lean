/- Letters, names, words and labels, as plain mathematics. No condition. -/
import Derived.Test.YtkmoekbicbjdmaaDoorLabLaw
import Derived.Shelf.GgClosure.StringsIndexFunc
import Derived.Laws.RangeAny
import Derived.Laws.RangeString
namespace Go.Proofs.YtkmoekbicbjdmaaDoor.Lab
open Go.RowKit Rw
def letter (b : UInt8) : Bool := decide (97 ≤ b.toNat) && decide (b.toNat ≤ 122)
def letters (s : ByteArray) : Bool := s.data.toList.all letter
def notL (r : Nat) : Bool := decide (r < 97) || decide (122 < r)
theorem notL_of {b : UInt8} : notL b.toNat = !letter b := by
  unfold notL letter
  by_cases h1 : 97 ≤ b.toNat <;> by_cases h2 : b.toNat ≤ 122
  · have a1 : ¬ b.toNat < 97 := by omega
    have a2 : ¬ 122 < b.toNat := by omega
    simp [h1, h2, a1, a2]
  · have a1 : ¬ b.toNat < 97 := by omega
    have a2 : 122 < b.toNat := by omega
    simp [h2, a2]
  · have a1 : b.toNat < 97 := by omega
    simp [h1, a1]
  · omega
theorem idx_from (s : ByteArray) : ∀ (f pos : Nat), s.size ≤ pos + f → decide (Lib.idxFuncFrom notL true s f pos < 0) = (s.data.toList.drop pos).all letter
  | 0, pos, h => by
    have hl : s.data.toList.length = s.size := Array.length_toList
    have e : s.data.toList.drop pos = [] := List.drop_eq_nil_of_le (by omega)
    rw [e]
    rfl
  | f + 1, pos, h => by
    have hl : s.data.toList.length = s.size := Array.length_toList
    unfold Lib.idxFuncFrom
    by_cases hp : pos < s.size
    · rw [if_pos hp, List.drop_eq_getElem_cons (by omega), List.all_cons]
      have eb : s.data.toList[pos]'(by omega) = s[pos]'hp := rfl
      rw [eb]
      by_cases ha : (s[pos]'hp).toNat < 128
      · rw [decode_ascii s pos hp ha]
        have hn := notL_of (b := s[pos]'hp)
        rw [hn]
        cases hc : letter (s[pos]'hp)
        · have : ¬ (pos : Int) < 0 := by omega
          simp [this]
        · simp only [Bool.not_true, Bool.false_eq_true, if_false, Bool.true_and]
          exact idx_from s f (pos + 1) (by omega)
      · have hd := decode_high s pos hp (by omega)
        have hn : notL (Utf8.decode s pos).1 = true := by
          have : 122 < (Utf8.decode s pos).1 := by omega
          simp [notL, this]
        rw [if_pos hn]
        have hc : letter (s[pos]'hp) = false := by
          have : ¬ (s[pos]'hp).toNat ≤ 122 := by omega
          simp [letter, this]
        have : ¬ (pos : Int) < 0 := by omega
        simp [this, hc]
    · rw [if_neg hp, List.drop_eq_nil_of_le (by omega)]
      rfl
theorem idx_letters (s : ByteArray) : decide (Lib.idxFunc notL true s < 0) = letters s := by
  have := idx_from s s.size 0 (by omega)
  rw [List.drop_zero] at this
  exact this
def nameB (s : ByteArray) : Bool := decide (1 ≤ s.size) && decide (s.size ≤ 6) && letters s
def wordB (s : ByteArray) : Bool := decide (s.size ≤ 8) && letters s
def ltS (a b : ByteArray) : Bool := Op.bytesLess a.toList b.toList
def stepOk (zs : List E) (i : Nat) : Bool := nameB (at' zs i).1 && wordB (at' zs i).2 && decide (0 < (at' zs i).2.size) && (i == 0 || ltS (at' zs (i - 1)).1 (at' zs i).1)
def okTo (zs : List E) (k : Nat) : Bool := (List.range k).all (stepOk zs)
def ok (zs : List E) : Bool := decide (1 ≤ zs.length) && decide (zs.length ≤ 4) && okTo zs zs.length
theorem okTo_succ (zs : List E) (k : Nat) : okTo zs (k + 1) = (okTo zs k && stepOk zs k) := by simp [okTo, List.range_succ]
theorem ok_of_bad {zs : List E} {k : Nat} (hk : k < zs.length) (h : stepOk zs k = false) : ok zs = false := by
  have : okTo zs zs.length = false := by unfold okTo; rw [List.all_eq_false]; exact ⟨k, List.mem_range.2 hk, by simp [h]⟩
  unfold ok; rw [this, Bool.and_false]
theorem ok_of_len {zs : List E} (h : zs.length < 1 ∨ 4 < zs.length) : ok zs = false := by
  unfold ok
  rcases h with h | h
  · have : decide (1 ≤ zs.length) = false := decide_eq_false (by omega)
    rw [this]; rfl
  · have : decide (zs.length ≤ 4) = false := decide_eq_false (by omega)
    rw [this, Bool.and_false]; rfl
theorem ok_all {zs : List E} (h1 : 1 ≤ zs.length) (h4 : zs.length ≤ 4) (h : okTo zs zs.length = true) : ok zs = true := by
  unfold ok; rw [decide_eq_true h1, decide_eq_true h4, h]; rfl
theorem step_yes {zs : List E} {k : Nat} (h1 : nameB (at' zs k).1 = true) (h2 : wordB (at' zs k).2 = true) (h3 : 0 < (at' zs k).2.size) (h4 : k = 0 ∨ ltS (at' zs (k - 1)).1 (at' zs k).1 = true) : stepOk zs k = true := by
  unfold stepOk
  rw [h1, h2, decide_eq_true h3]
  rcases h4 with rfl | h4
  · rfl
  · rw [h4, Bool.or_true]; rfl
theorem step_name {zs : List E} {k : Nat} (h : nameB (at' zs k).1 = false) : stepOk zs k = false := by unfold stepOk; rw [h]; rfl
theorem step_word {zs : List E} {k : Nat} (h : wordB (at' zs k).2 = false) : stepOk zs k = false := by unfold stepOk; rw [h, Bool.and_false]; rfl
theorem step_empty {zs : List E} {k : Nat} (h : (at' zs k).2.size = 0) : stepOk zs k = false := by unfold stepOk; rw [h, show decide (0 < 0) = false from rfl, Bool.and_false]; rfl
theorem step_late {zs : List E} {k : Nat} (hk : 0 < k) (h : ltS (at' zs (k - 1)).1 (at' zs k).1 = false) : stepOk zs k = false := by
  have h0 : (k == 0) = false := by simp; omega
  unfold stepOk; rw [h, h0, Bool.false_or, Bool.and_false]
end Go.Proofs.YtkmoekbicbjdmaaDoor.Lab
