/- What a match lets of labels that are ok, as plain mathematics. No condition. -/
import Derived.Test.YthlphelkcamagaaLetMath
import Derived.Test.YthlphelkcamagaaCmpOrd
namespace Go.Proofs.Ythlphelkcamagaa.Mat
open Go.RowKit Rw
set_option linter.unusedVariables false
theorem lab_at {ls : List Lab.E} (h : Lab.ok ls = true) {k : Nat} (hk : k < ls.length) : Lab.nameB (Lab.at' ls k).1 = true ∧ Lab.wordB (Lab.at' ls k).2 = true ∧ 0 < (Lab.at' ls k).2.size ∧ (k = 0 ∨ Lab.ltS (Lab.at' ls (k - 1)).1 (Lab.at' ls k).1 = true) := by
  unfold Lab.ok at h; rw [Bool.and_eq_true] at h
  have := h.2; unfold Lab.okTo at this
  have := List.all_eq_true.1 this k (List.mem_range.2 hk)
  unfold Lab.stepOk at this
  simp only [Bool.and_eq_true, decide_eq_true_eq, Bool.or_eq_true, beq_iff_eq] at this
  exact ⟨this.1.1.1, this.1.1.2, this.1.2, this.2⟩
theorem lt_neg {a b : ByteArray} (h : Lab.ltS a b = true) : Lab.cmpS a b = -1 := by rw [Lab.cmpS_eq, if_pos h]
theorem neg_trans {a b c : ByteArray} (h : Lab.cmpS a b < 0) (h' : Lab.cmpS b c < 0) : Lab.cmpS a c < 0 := by
  have h1 := Lab.ordS.trans a b c (by omega) (by omega)
  by_cases e : Lab.cmpS a c = 0
  · have := Lab.ordS.zero _ _ e
    subst this
    have := Lab.ordS.anti a b
    omega
  · omega
theorem names_lt {ls : List Lab.E} (h : Lab.ok ls = true) (i : Nat) : ∀ j, i < j → j < ls.length → Lab.cmpS (Lab.at' ls i).1 (Lab.at' ls j).1 < 0 := by
  intro j
  induction j with
  | zero => intro h0; omega
  | succ j ih =>
    intro hij hj
    have s := (lab_at h hj).2.2.2
    have s' : Lab.cmpS (Lab.at' ls j).1 (Lab.at' ls (j + 1)).1 < 0 := by
      rcases s with s | s
      · omega
      · have := lt_neg s
        rw [Nat.add_sub_cancel] at this
        omega
    by_cases e : i = j
    · rw [e]; exact s'
    · exact neg_trans (ih (by omega) (by omega)) s'
theorem find_before {ls : List Lab.E} (h : Lab.ok ls = true) {k : Nat} (hk : k < ls.length) : ∀ i, i ≤ k → (ls.take i).find? (fun x => sameS x.1 (Lab.at' ls k).1) = none := by
  intro i
  induction i with
  | zero => intro _; rfl
  | succ i ih =>
    intro hi
    refine find_none ls _ i (by omega) (ih (by omega)) ?_
    rw [sameS_no]
    intro e
    have := names_lt h i k (by omega) hk
    rw [e, Lab.ordS.self] at this
    omega
theorem word_of {ls : List Lab.E} (h : Lab.ok ls = true) {k : Nat} (hk : k < ls.length) : wordOf ls (Lab.at' ls k).1 = (Lab.at' ls k).2 := word_hit ls _ k hk (find_before h hk k (Nat.le_refl _)) (sameS_self _)
theorem some_is {ls : List Lab.E} (h : Lab.ok ls = true) {k : Nat} (hk : k < ls.length) : letB (1, (Lab.at' ls k).1, (Lab.at' ls k).2) ls = true := by
  simp [letB, word_of h hk, sameS_self]
theorem some_none {ls : List Lab.E} (h : Lab.ok ls = true) {k : Nat} (hk : k < ls.length) : letB (1, (Lab.at' ls k).1, ByteArray.empty) ls = false := by
  have : sameS (Lab.at' ls k).2 ByteArray.empty = false := by
    rw [sameS_no]
    intro e
    have := (lab_at h hk).2.2.1
    rw [e] at this
    exact absurd this (by decide)
  simp [letB, word_of h hk, this]
theorem some_begin {ls : List Lab.E} (h : Lab.ok ls = true) {k : Nat} (hk : k < ls.length) (n : Nat) (hn : n ≤ (Lab.at' ls k).2.size) : letB (3, (Lab.at' ls k).1, (Lab.at' ls k).2.extract 0 n) ls = true := by
  have e : ((Lab.at' ls k).2.extract 0 n).size = n := by rw [ByteArray.size_extract]; omega
  have : prefB (Lab.at' ls k).2 ((Lab.at' ls k).2.extract 0 n) = true := by
    rw [prefB_eq, e, sameS_self, decide_eq_true hn]; rfl
  simp [letB, word_of h hk, this]
theorem nobody_word {ls : List Lab.E} {nm : ByteArray} (h : ∀ x ∈ ls, x.1 ≠ nm) : wordOf ls nm = ByteArray.empty := by
  refine word_miss ls nm (List.find?_eq_none.2 fun x hx => ?_)
  simp [sameS_no.2 (h x hx)]
theorem nobody_is {ls : List Lab.E} {nm : ByteArray} (h : ∀ x ∈ ls, x.1 ≠ nm) : letB (1, nm, ByteArray.empty) ls = true := by
  simp [letB, nobody_word h, sameS_self]
theorem nobody_never {ls : List Lab.E} {nm : ByteArray} (h : ∀ x ∈ ls, x.1 ≠ nm) : letB (4, nm, ByteArray.empty) ls = false := by
  have : prefB ByteArray.empty ByteArray.empty = true := by unfold prefB Lib.hasPrefix; rfl
  simp [letB, nobody_word h, this]
end Go.Proofs.Ythlphelkcamagaa.Mat
