/- My own texts of one claim, laid together by program: RowTopMath, TopCnt, WinMath, JoinMath2. -/
import Derived.Test.YtncjagdnebpaaaaG4464f45ed3
import Derived.Test.YtncjagdnebpaaaaG6afbf05d6a
import Derived.Test.YtncjagdnebpaaaaGe17f946c16
import Derived.Test.YtncjagdnebpaaaaG9e2f2919bc
import Derived.Test.YtncjagdnebpaaaaG7b340876b2
/- The rows with the greatest last numbers, as plain mathematics. -/
namespace Go.Proofs.Ytncjagdnebpaaaa.Row
theorem cmp_lt {a b c : List Lab.E} (h1 : Lab.cmpL a b < 0) (h2 : Lab.cmpL b c < 0) : Lab.cmpL a c < 0 := by
  have t := Lab.ordL.trans a b c (by omega) (by omega)
  by_cases e : Lab.cmpL a c = 0
  · have := Lab.ordL.zero a c e
    subst this
    have := Lab.ordL.anti a b
    omega
  · omega
theorem ok_lt {zs : List E} (h : ok zs = true) {i j : Nat} (hij : i < j) (hj : j < zs.length) : Lab.cmpL (at' zs i).1 (at' zs j).1 < 0 := by
  induction j with
  | zero => omega
  | succ j ih =>
    have h1 := ok_at h hj
    unfold stepOk at h1
    simp only [Bool.and_eq_true, Bool.or_eq_true, Nat.add_sub_cancel, decide_eq_true_eq, beq_iff_eq] at h1
    have h2 : Lab.cmpL (at' zs j).1 (at' zs (j + 1)).1 < 0 := by
      rcases h1.2 with h | h
      · omega
      · exact h
    by_cases e : i = j
    · subst e; exact h2
    · exact cmp_lt (ih (by omega) (by omega)) h2
theorem ok_iff (zs : List E) : ok zs = true ↔ (∀ x ∈ zs, rowB x = true) ∧ zs.Pairwise (fun a b => Lab.cmpL a.1 b.1 < 0) ∧ zs.length ≤ 10 := by
  constructor
  · intro h
    refine ⟨fun x hx => ?_, ?_, ok_len h⟩
    · obtain ⟨i, hi, rfl⟩ := List.getElem_of_mem hx
      have := ok_at h hi
      unfold stepOk at this
      rw [Bool.and_eq_true] at this
      rw [← at_get zs i hi]
      exact this.1
    · rw [List.pairwise_iff_getElem]
      intro i j hi hj hij
      have := ok_lt h hij hj
      rwa [at_get zs i hi, at_get zs j hj] at this
  · rintro ⟨h1, h2, h3⟩
    unfold ok okTo
    rw [Bool.and_eq_true]
    refine ⟨List.all_eq_true.2 fun i hi => ?_, decide_eq_true h3⟩
    have hi := List.mem_range.1 hi
    unfold stepOk
    rw [Bool.and_eq_true]
    refine ⟨by rw [at_get zs i hi]; exact h1 _ (List.getElem_mem _), ?_⟩
    rcases Nat.eq_zero_or_pos i with h0 | h0
    · simp [h0]
    · rw [List.pairwise_iff_getElem] at h2
      have := h2 (i - 1) i (by omega) hi (by omega)
      rw [← at_get zs (i - 1) (by omega), ← at_get zs i hi] at this
      simp [this]
theorem ok_sub {zs ys : List E} (h : ok zs = true) (hs : ys.Sublist zs) : ok ys = true := by
  rw [ok_iff] at h ⊢
  exact ⟨fun x hx => h.1 x (hs.subset hx), h.2.1.sublist hs, Nat.le_trans hs.length_le h.2.2⟩
def lastV (x : E) : Int := (SampMath.at' x.2 (x.2.length - 1)).2
def ahead (zs : List E) (j i : Nat) : Bool := decide (lastV (at' zs i) < lastV (at' zs j)) || (decide (lastV (at' zs j) = lastV (at' zs i)) && decide (j < i))
def rankTo (zs : List E) (i : Nat) : Nat → Nat
  | 0 => 0
  | k + 1 => rankTo zs i k + if ahead zs k i = true then 1 else 0
theorem rankTo_le (zs : List E) (i k : Nat) : rankTo zs i k ≤ k := by
  induction k with
  | zero => exact Nat.le_refl _
  | succ k ih => rw [rankTo]; split <;> omega
def topTo (zs : List E) (most : Int) : Nat → List E
  | 0 => []
  | k + 1 => topTo zs most k ++ if (rankTo zs k zs.length : Int) < most then [at' zs k] else []
theorem topTo_sub (zs : List E) (most : Int) : ∀ k, k ≤ zs.length → (topTo zs most k).Sublist (zs.take k) := by
  intro k
  induction k with
  | zero => intro _; exact List.Sublist.refl _
  | succ k ih =>
    intro h
    rw [topTo, at_snoc zs k (by omega)]
    refine (ih (by omega)).append ?_
    split
    · exact List.Sublist.refl _
    · exact List.nil_sublist _
def top (most : Int) (zs : List E) : List E := if ok zs = true then topTo zs most zs.length else []
theorem top_sub (most : Int) (zs : List E) : (top most zs).Sublist zs := by
  unfold top
  split
  · have := topTo_sub zs most zs.length (Nat.le_refl _); rwa [List.take_length] at this
  · exact List.nil_sublist _
theorem topTo_ok {zs : List E} (most : Int) (h : ok zs = true) : ok (topTo zs most zs.length) = true := by
  have := topTo_sub zs most zs.length (Nat.le_refl _)
  rw [List.take_length] at this
  exact ok_sub h this
theorem topTo_le (zs : List E) (most : Int) (k : Nat) : (topTo zs most k).length ≤ k := by
  induction k with
  | zero => exact Nat.le_refl _
  | succ k ih => rw [topTo, List.length_append]; split <;> simp <;> omega
theorem topTo_yes {zs : List E} {most : Int} {k : Nat} (h : (rankTo zs k zs.length : Int) < most) : topTo zs most (k + 1) = topTo zs most k ++ [at' zs k] := by rw [topTo, if_pos h]
theorem topTo_no {zs : List E} {most : Int} {k : Nat} (h : ¬ (rankTo zs k zs.length : Int) < most) : topTo zs most (k + 1) = topTo zs most k := by rw [topTo, if_neg h, List.append_nil]
theorem rank_yes {zs : List E} {i k : Nat} (h : ahead zs k i = true) : rankTo zs i (k + 1) = rankTo zs i k + 1 := by rw [rankTo, if_pos h]
theorem rank_no {zs : List E} {i k : Nat} (h : ahead zs k i = false) : rankTo zs i (k + 1) = rankTo zs i k := by rw [rankTo, h]; rfl
end Go.Proofs.Ytncjagdnebpaaaa.Row

/- How much there is at most in the rows with the greatest last numbers. -/
namespace Go.Proofs.Ytncjagdnebpaaaa.Row
open Go.RowKit Rw
theorem ok_cnt {zs : List E} (h : ok zs = true) : cnt zs ≤ 2097152 ∧ zs.length ≤ 2097152 := by
  have h10 := ok_len h
  have h1 := cnt_le zs 6000 (fun y hy => by
    obtain ⟨i, hi, rfl⟩ := List.getElem_of_mem hy
    rw [← at_get zs i hi]
    have hst := step_is (ok_at h hi)
    have hs := (Lab.ok_small hst.1).1
    have := hst.2.2.1
    unfold cntE
    omega)
  have h2 : zs.length * 6000 ≤ 10 * 6000 := Nat.mul_le_mul_right _ (by omega)
  omega
theorem top_cnt (most : Int) (zs : List E) : cnt (top most zs) ≤ 2097152 ∧ (top most zs).length ≤ 2097152 := by
  cases ho : ok zs
  · have : top most zs = [] := by unfold top; rw [ho]; rfl
    rw [this]; simp [cnt, cntTo]
  · exact ok_cnt (ok_sub ho (top_sub most zs))
end Go.Proofs.Ytncjagdnebpaaaa.Row

/- Whiles, as plain mathematics: by how much samples rose, samples made less. No condition. -/
namespace Go.Proofs.Ytncjagdnebpaaaa.SampMath
theorem ok_ge {zs : List S} (h : ok zs = true) : ∀ k, k < zs.length → (k : Int) ≤ (at' zs k).1 := by
  intro k hk
  induction k with
  | zero => exact (ok_range h hk).1
  | succ k ih =>
    have h1 := ih (by omega)
    have h2 := ok_step h hk
    omega
theorem ok_len {zs : List S} (h : ok zs = true) : zs.length ≤ 10000 := by
  by_cases h0 : zs.length = 0
  · omega
  · have h1 := ok_ge h (zs.length - 1) (by omega)
    have h2 := (ok_range h (k := zs.length - 1) (by omega)).2.1
    omega
/-- by how much the number at a place rose -/
def up (zs : List S) (i : Nat) : Int := if (at' zs (i - 1)).2 ≤ (at' zs i).2 then (at' zs i).2 - (at' zs (i - 1)).2 else (at' zs i).2
/-- from the place 1 on up to the place k -/
def upTo (zs : List S) : Nat → Int
  | 0 => 0
  | k + 1 => if k = 0 then 0 else upTo zs k + up zs k
theorem upTo_one (zs : List S) : upTo zs 1 = 0 := rfl
theorem upTo_succ (zs : List S) (k : Nat) (h : 0 < k) : upTo zs (k + 1) = upTo zs k + up zs k := by
  show (if k = 0 then 0 else upTo zs k + up zs k) = _
  rw [if_neg (by omega)]
def rises (zs : List S) : Int := if ok zs = true then upTo zs zs.length else 0
theorem up_range {zs : List S} (h : ok zs = true) {i : Nat} (h1 : 0 < i) (h2 : i < zs.length) : 0 ≤ up zs i ∧ up zs i ≤ 2147483647 := by
  have a := ok_range h h2
  have b := ok_range h (k := i - 1) (by omega)
  unfold up
  split <;> omega
theorem upTo_range {zs : List S} (h : ok zs = true) : ∀ k, k ≤ zs.length → 0 ≤ upTo zs k ∧ upTo zs k ≤ 2147483647 * (k : Int) := by
  intro k
  induction k with
  | zero => intro _; exact ⟨Int.le_refl _, by show (0 : Int) ≤ _; omega⟩
  | succ k ih =>
    intro hk
    by_cases h0 : k = 0
    · subst h0; rw [upTo_one]; omega
    · have a := ih (by omega)
      have b := up_range h (i := k) (by omega) (by omega)
      rw [upTo_succ zs k (by omega)]
      omega
theorem up_yes {zs : List S} {i : Nat} (h : (at' zs (i - 1)).2 ≤ (at' zs i).2) : up zs i = (at' zs i).2 - (at' zs (i - 1)).2 := if_pos h
theorem up_no {zs : List S} {i : Nat} (h : ¬ (at' zs (i - 1)).2 ≤ (at' zs i).2) : up zs i = (at' zs i).2 := if_neg h
/-- whether the sample at a place is the last of its while -/
def lastW (zs : List S) (st : Int) (k : Nat) : Bool := decide (k + 1 = zs.length) || decide ((at' zs (k + 1)).1 / st ≠ (at' zs k).1 / st)
def thinTo (zs : List S) (st : Int) : Nat → List S
  | 0 => []
  | k + 1 => thinTo zs st k ++ if lastW zs st k = true then [at' zs k] else []
def thinB (st : Int) : Bool := decide (1 ≤ st) && decide (st ≤ 9999)
def thin (zs : List S) (st : Int) : List S := if ok zs = true ∧ thinB st = true then thinTo zs st zs.length else []
theorem thinTo_le (zs : List S) (st : Int) : ∀ k, (thinTo zs st k).length ≤ k := by
  intro k
  induction k with
  | zero => exact Nat.le_refl _
  | succ k ih => rw [thinTo, List.length_append]; split <;> simp <;> omega
theorem thinTo_yes {zs : List S} {st : Int} {k : Nat} (h : lastW zs st k = true) : thinTo zs st (k + 1) = thinTo zs st k ++ [at' zs k] := by rw [thinTo, h]; rfl
theorem thinTo_no {zs : List S} {st : Int} {k : Nat} (h : lastW zs st k = false) : thinTo zs st (k + 1) = thinTo zs st k := by rw [thinTo, h]; simp
theorem lastW_end {zs : List S} {st : Int} {k : Nat} (h : k + 1 = zs.length) : lastW zs st k = true := by unfold lastW; rw [decide_eq_true h]; rfl
theorem lastW_far {zs : List S} {st : Int} {k : Nat} (h : (at' zs (k + 1)).1 / st ≠ (at' zs k).1 / st) : lastW zs st k = true := by unfold lastW; rw [decide_eq_true h, Bool.or_true]
theorem lastW_near {zs : List S} {st : Int} {k : Nat} (h : k + 1 ≠ zs.length) (h' : (at' zs (k + 1)).1 / st = (at' zs k).1 / st) : lastW zs st k = false := by
  unfold lastW; rw [decide_eq_false h, decide_eq_false (by simpa using h')]; rfl
theorem thin_le (zs : List S) (st : Int) : (thin zs st).length ≤ zs.length := by
  unfold thin
  split
  · exact thinTo_le _ _ _
  · simp
/-- what stands there behind so many samples, the last of them being still open -/
def foldTo (zs : List S) (st : Int) : Nat → List S
  | 0 => []
  | k + 1 => thinTo zs st k ++ [at' zs k]
theorem foldTo_len (zs : List S) (st : Int) (k : Nat) : (foldTo zs st k).length ≤ k := by
  cases k with
  | zero => exact Nat.le_refl _
  | succ k => have := thinTo_le zs st k; rw [foldTo, List.length_append]; simp; omega
theorem foldTo_end (zs : List S) (st : Int) : foldTo zs st zs.length = thinTo zs st zs.length := by
  cases h : zs.length with
  | zero => rfl
  | succ k => rw [foldTo, thinTo_yes (lastW_end (by omega))]
end Go.Proofs.Ytncjagdnebpaaaa.SampMath

/- It does not matter which samples are first; with themselves they are the same. No condition. -/
namespace Go.Proofs.Ytncjagdnebpaaaa.SampMath
theorem merge_comm (a : List S) : ∀ b : List S, merge a b = merge b a := by
  induction a with
  | nil => intro b; rw [merge_nil, merge_nil_right]
  | cons x a iha =>
    intro b
    induction b with
    | nil => rw [merge_nil, merge_nil_right]
    | cons y b ihb =>
      rw [merge, merge]
      by_cases h1 : x.1 < y.1
      · have h2 : ¬ y.1 < x.1 := by omega
        rw [if_pos h1, if_neg h2, if_pos h1, iha]
      · rw [if_neg h1]
        by_cases h2 : y.1 < x.1
        · rw [if_pos h2, if_pos h2, ihb]
        · rw [if_neg h2, if_neg h2, if_neg h1]
          by_cases h3 : x.2 = y.2
          · have e : x = y := Prod.ext (by omega) h3
            rw [if_pos h3, if_pos h3.symm, iha, e]
          · rw [if_neg h3, if_neg (fun h => h3 h.symm)]
theorem merge_self (a : List S) : merge a a = some a := by
  induction a with
  | nil => rw [merge_nil]
  | cons x a ih =>
    rw [merge, if_neg (by omega), if_neg (by omega), if_pos rfl, ih]
    rfl
theorem join_comm (a b : List S) : join a b = join b a := by
  unfold join
  rw [merge_comm a b]
  by_cases h : ok a = true ∧ ok b = true
  · rw [if_pos h, if_pos ⟨h.2, h.1⟩]
  · rw [if_neg h, if_neg (fun h' => h ⟨h'.2, h'.1⟩)]
theorem join_self {a : List S} (h : ok a = true) : join a a = (a, true) := join_some h h (merge_self a)
end Go.Proofs.Ytncjagdnebpaaaa.SampMath
