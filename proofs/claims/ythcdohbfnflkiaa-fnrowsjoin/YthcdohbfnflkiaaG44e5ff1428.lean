/- My own texts of one claim, laid together by program: AskCnt, RowTopMath, TopCnt. -/
import Derived.Test.YthcdohbfnflkiaaG0556e437e9
import Derived.Test.YthcdohbfnflkiaaG8187b0ec37
import Derived.Test.YthcdohbfnflkiaaGc4b55f1683
/- How much there is at most in what is asked for. -/
namespace Go.Proofs.Ythcdohbfnflkiaa.Row
open Go.RowKit Rw
theorem cnt_le (L : List E) (M : Nat) (h : ∀ y ∈ L, cntE y ≤ M) : cnt L ≤ L.length * M := by
  unfold cnt cntTo
  rw [List.take_of_length_le (Nat.le_refl _)]
  induction L with
  | nil => simp
  | cons x L ih =>
    have h1 := h x (List.mem_cons_self ..)
    have h2 := ih (fun y hy => h y (List.mem_cons_of_mem _ hy))
    rw [List.map_cons, List.sum_cons, List.length_cons, Nat.succ_mul]
    omega
theorem outL_cnt {g : E → List Sam.E} {zs : List E} (h : ok zs = true) (hg : ∀ i, i < zs.length → (g (at' zs i)).length ≤ 2000) : cnt (outL g zs) ≤ 2097152 ∧ (outL g zs).length ≤ 2097152 := by
  have hl := outL_len g zs
  have h10 := ok_len h
  have h1 := cnt_le (outL g zs) 6000 (fun y hy => by
    rw [← List.take_of_length_le (Nat.le_refl zs.length)] at hy
    obtain ⟨i, hi, e, -⟩ := outL_mem (Nat.le_refl _) hy
    have hs := (Lab.ok_small (step_is (ok_at h hi)).1).1
    have := hg i hi
    rw [e]
    unfold cntE
    simp only
    omega)
  have h2 : (outL g zs).length * 6000 ≤ 10 * 6000 := Nat.mul_le_mul_right _ (by omega)
  omega
theorem ask_cnt (ms : List Mat.E) (f t : Int) (zs : List E) : cnt (ask ms f t zs) ≤ 2097152 ∧ (ask ms f t zs).length ≤ 2097152 := by
  unfold ask
  cases ho : ok zs
  · simp [cnt, cntTo]
  · simp only [if_true]
    refine outL_cnt ho (fun i hi => ?_)
    have := (step_is (ok_at ho hi)).2.2.1
    unfold askG
    split
    · exact Nat.le_trans (List.length_filter_le _ _) (by omega)
    · simp
end Go.Proofs.Ythcdohbfnflkiaa.Row

/- The rows with the greatest last numbers, as plain mathematics. -/
namespace Go.Proofs.Ythcdohbfnflkiaa.Row
theorem cmp_lt {a b c : List Lab.E} (h1 : Lab.cmpL a b < 0) (h2 : Lab.cmpL b c < 0) : Lab.cmpL a c < 0 := by
  have t := Lab.ordL.trans a b c (by omega) (by omega)
  by_cases e : Lab.cmpL a c = 0
  · have := Lab.ordL.zero a c e
    subst this
    have := Lab.ordL.anti a b
    omega
  · omega
theorem ok_lt {zs : List E} (h : ok zs = true) {i j : Nat} (hij : i < j) (hj : j < zs.length) : Lab.cmpL (at' zs i).1 (at' zs j).1 < 0 := by
  induction j with
  | zero => omega
  | succ j ih =>
    have h1 := ok_at h hj
    unfold stepOk at h1
    simp only [Bool.and_eq_true, Bool.or_eq_true, Nat.add_sub_cancel, decide_eq_true_eq, beq_iff_eq] at h1
    have h2 : Lab.cmpL (at' zs j).1 (at' zs (j + 1)).1 < 0 := by
      rcases h1.2 with h | h
      · omega
      · exact h
    by_cases e : i = j
    · subst e; exact h2
    · exact cmp_lt (ih (by omega) (by omega)) h2
theorem ok_iff (zs : List E) : ok zs = true ↔ (∀ x ∈ zs, rowB x = true) ∧ zs.Pairwise (fun a b => Lab.cmpL a.1 b.1 < 0) ∧ zs.length ≤ 10 := by
  constructor
  · intro h
    refine ⟨fun x hx => ?_, ?_, ok_len h⟩
    · obtain ⟨i, hi, rfl⟩ := List.getElem_of_mem hx
      have := ok_at h hi
      unfold stepOk at this
      rw [Bool.and_eq_true] at this
      rw [← at_get zs i hi]
      exact this.1
    · rw [List.pairwise_iff_getElem]
      intro i j hi hj hij
      have := ok_lt h hij hj
      rwa [at_get zs i hi, at_get zs j hj] at this
  · rintro ⟨h1, h2, h3⟩
    unfold ok okTo
    rw [Bool.and_eq_true]
    refine ⟨List.all_eq_true.2 fun i hi => ?_, decide_eq_true h3⟩
    have hi := List.mem_range.1 hi
    unfold stepOk
    rw [Bool.and_eq_true]
    refine ⟨by rw [at_get zs i hi]; exact h1 _ (List.getElem_mem _), ?_⟩
    rcases Nat.eq_zero_or_pos i with h0 | h0
    · simp [h0]
    · rw [List.pairwise_iff_getElem] at h2
      have := h2 (i - 1) i (by omega) hi (by omega)
      rw [← at_get zs (i - 1) (by omega), ← at_get zs i hi] at this
      simp [this]
theorem ok_sub {zs ys : List E} (h : ok zs = true) (hs : ys.Sublist zs) : ok ys = true := by
  rw [ok_iff] at h ⊢
  exact ⟨fun x hx => h.1 x (hs.subset hx), h.2.1.sublist hs, Nat.le_trans hs.length_le h.2.2⟩
def lastV (x : E) : Int := (SampMath.at' x.2 (x.2.length - 1)).2
def ahead (zs : List E) (j i : Nat) : Bool := decide (lastV (at' zs i) < lastV (at' zs j)) || (decide (lastV (at' zs j) = lastV (at' zs i)) && decide (j < i))
def rankTo (zs : List E) (i : Nat) : Nat → Nat
  | 0 => 0
  | k + 1 => rankTo zs i k + if ahead zs k i = true then 1 else 0
theorem rankTo_le (zs : List E) (i k : Nat) : rankTo zs i k ≤ k := by
  induction k with
  | zero => exact Nat.le_refl _
  | succ k ih => rw [rankTo]; split <;> omega
def topTo (zs : List E) (most : Int) : Nat → List E
  | 0 => []
  | k + 1 => topTo zs most k ++ if (rankTo zs k zs.length : Int) < most then [at' zs k] else []
theorem topTo_sub (zs : List E) (most : Int) : ∀ k, k ≤ zs.length → (topTo zs most k).Sublist (zs.take k) := by
  intro k
  induction k with
  | zero => intro _; exact List.Sublist.refl _
  | succ k ih =>
    intro h
    rw [topTo, at_snoc zs k (by omega)]
    refine (ih (by omega)).append ?_
    split
    · exact List.Sublist.refl _
    · exact List.nil_sublist _
def top (most : Int) (zs : List E) : List E := if ok zs = true then topTo zs most zs.length else []
theorem top_sub (most : Int) (zs : List E) : (top most zs).Sublist zs := by
  unfold top
  split
  · have := topTo_sub zs most zs.length (Nat.le_refl _); rwa [List.take_length] at this
  · exact List.nil_sublist _
theorem topTo_ok {zs : List E} (most : Int) (h : ok zs = true) : ok (topTo zs most zs.length) = true := by
  have := topTo_sub zs most zs.length (Nat.le_refl _)
  rw [List.take_length] at this
  exact ok_sub h this
theorem topTo_le (zs : List E) (most : Int) (k : Nat) : (topTo zs most k).length ≤ k := by
  induction k with
  | zero => exact Nat.le_refl _
  | succ k ih => rw [topTo, List.length_append]; split <;> simp <;> omega
theorem topTo_yes {zs : List E} {most : Int} {k : Nat} (h : (rankTo zs k zs.length : Int) < most) : topTo zs most (k + 1) = topTo zs most k ++ [at' zs k] := by rw [topTo, if_pos h]
theorem topTo_no {zs : List E} {most : Int} {k : Nat} (h : ¬ (rankTo zs k zs.length : Int) < most) : topTo zs most (k + 1) = topTo zs most k := by rw [topTo, if_neg h, List.append_nil]
theorem rank_yes {zs : List E} {i k : Nat} (h : ahead zs k i = true) : rankTo zs i (k + 1) = rankTo zs i k + 1 := by rw [rankTo, if_pos h]
theorem rank_no {zs : List E} {i k : Nat} (h : ahead zs k i = false) : rankTo zs i (k + 1) = rankTo zs i k := by rw [rankTo, h]; rfl
end Go.Proofs.Ythcdohbfnflkiaa.Row

/- How much there is at most in the rows with the greatest last numbers. -/
namespace Go.Proofs.Ythcdohbfnflkiaa.Row
open Go.RowKit Rw
theorem ok_cnt {zs : List E} (h : ok zs = true) : cnt zs ≤ 2097152 ∧ zs.length ≤ 2097152 := by
  have h10 := ok_len h
  have h1 := cnt_le zs 6000 (fun y hy => by
    obtain ⟨i, hi, rfl⟩ := List.getElem_of_mem hy
    rw [← at_get zs i hi]
    have hst := step_is (ok_at h hi)
    have hs := (Lab.ok_small hst.1).1
    have := hst.2.2.1
    unfold cntE
    omega)
  have h2 : zs.length * 6000 ≤ 10 * 6000 := Nat.mul_le_mul_right _ (by omega)
  omega
theorem top_cnt (most : Int) (zs : List E) : cnt (top most zs) ≤ 2097152 ∧ (top most zs).length ≤ 2097152 := by
  cases ho : ok zs
  · have : top most zs = [] := by unfold top; rw [ho]; rfl
    rw [this]; simp [cnt, cntTo]
  · exact ok_cnt (ok_sub ho (top_sub most zs))
end Go.Proofs.Ythcdohbfnflkiaa.Row
