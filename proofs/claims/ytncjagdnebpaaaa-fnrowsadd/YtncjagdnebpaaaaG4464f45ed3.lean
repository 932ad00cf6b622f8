/- My own texts of one claim, laid together by program: RowMath, CutMath, MatLaw, MatOk. -/
import Derived.Test.YtncjagdnebpaaaaG375403b258
import Derived.Test.YtncjagdnebpaaaaG4680891d3a
import Derived.Test.YtncjagdnebpaaaaG9e2f2919bc
import Derived.Test.YtncjagdnebpaaaaG7b340876b2
import Derived.Test.YtncjagdnebpaaaaGffb30f2161
import Derived.ChangeArms
import Derived.Test.YtncjagdnebpaaaaG0b5a214c69
/- Rows that are ok, as plain mathematics. No condition. -/
namespace Go.Proofs.Ytncjagdnebpaaaa.Row
open Go.RowKit Rw
def rowB (x : E) : Bool := Lab.ok x.1 && (decide (1 ≤ x.2.length) && decide (x.2.length ≤ 1000)) && SampMath.ok x.2
def stepOk (zs : List E) (i : Nat) : Bool := rowB (at' zs i) && (i == 0 || decide (Lab.cmpL (at' zs (i - 1)).1 (at' zs i).1 < 0))
def okTo (zs : List E) (k : Nat) : Bool := (List.range k).all (stepOk zs)
def ok (zs : List E) : Bool := okTo zs zs.length && decide (zs.length ≤ 10)
theorem okTo_succ (zs : List E) (k : Nat) : okTo zs (k + 1) = (okTo zs k && stepOk zs k) := by simp [okTo, List.range_succ]
theorem ok_of_bad {zs : List E} {k : Nat} (hk : k < zs.length) (h : stepOk zs k = false) : ok zs = false := by
  unfold ok okTo
  rw [Bool.and_eq_false_iff]
  left
  rw [List.all_eq_false]
  exact ⟨k, by simpa using hk, by simp [h]⟩
theorem ok_long {zs : List E} (h : 10 < zs.length) : ok zs = false := by unfold ok; rw [decide_eq_false (by omega), Bool.and_false]
theorem step_lab {zs : List E} {k : Nat} (h : Lab.ok (at' zs k).1 = false) : stepOk zs k = false := by unfold stepOk rowB; rw [h]; rfl
theorem step_len {zs : List E} {k : Nat} (h : (at' zs k).2.length < 1 ∨ 1000 < (at' zs k).2.length) : stepOk zs k = false := by
  unfold stepOk rowB
  rcases h with h | h
  · rw [decide_eq_false (show ¬ 1 ≤ (at' zs k).2.length by omega)]; simp
  · rw [decide_eq_false (show ¬ (at' zs k).2.length ≤ 1000 by omega)]; simp
theorem step_sam {zs : List E} {k : Nat} (h : SampMath.ok (at' zs k).2 = false) : stepOk zs k = false := by unfold stepOk rowB; rw [h]; simp
theorem step_cmp {zs : List E} {k : Nat} (h0 : 0 < k) (h : ¬ Lab.cmpL (at' zs (k - 1)).1 (at' zs k).1 < 0) : stepOk zs k = false := by
  unfold stepOk
  rw [decide_eq_false h, show (k == 0) = false from by simp; omega]; simp
theorem step_yes {zs : List E} {k : Nat} (h1 : Lab.ok (at' zs k).1 = true) (h2 : 1 ≤ (at' zs k).2.length) (h3 : (at' zs k).2.length ≤ 1000) (h4 : SampMath.ok (at' zs k).2 = true) (h5 : k = 0 ∨ Lab.cmpL (at' zs (k - 1)).1 (at' zs k).1 < 0) : stepOk zs k = true := by
  unfold stepOk rowB
  rw [h1, h4, decide_eq_true h2, decide_eq_true h3]
  rcases h5 with h | h
  · simp [h]
  · simp [h]
theorem okTo_at {zs : List E} {k : Nat} (h : okTo zs k = true) {i : Nat} (hi : i < k) : stepOk zs i = true := by
  unfold okTo at h
  rw [List.all_eq_true] at h
  exact h i (by simpa using hi)
theorem step_is {zs : List E} {k : Nat} (h : stepOk zs k = true) : Lab.ok (at' zs k).1 = true ∧ 1 ≤ (at' zs k).2.length ∧ (at' zs k).2.length ≤ 1000 ∧ SampMath.ok (at' zs k).2 = true := by
  unfold stepOk rowB at h
  simp only [Bool.and_eq_true, decide_eq_true_eq] at h
  exact ⟨h.1.1.1, h.1.1.2.1, h.1.1.2.2, h.1.2⟩
theorem ok_at {zs : List E} (h : ok zs = true) {i : Nat} (hi : i < zs.length) : stepOk zs i = true := by
  unfold ok at h
  rw [Bool.and_eq_true] at h
  exact okTo_at h.1 hi
theorem ok_len {zs : List E} (h : ok zs = true) : zs.length ≤ 10 := by
  unfold ok at h
  rw [Bool.and_eq_true] at h
  simpa using h.2
end Go.Proofs.Ytncjagdnebpaaaa.Row

/- What is cut and joined again is the whole. No condition. -/
namespace Go.Proofs.Ytncjagdnebpaaaa.Samp
open SampMath
set_option linter.unusedVariables false
theorem ok_iff (zs : List S) : ok zs = true ↔ (∀ z ∈ zs, inR z.1 z.2 = true) ∧ zs.Pairwise (fun a b => a.1 < b.1) := by
  constructor
  · intro h
    constructor
    · intro z hz
      obtain ⟨i, hi, rfl⟩ := List.getElem_of_mem hz
      have h1 := ok_at h hi
      have e : at' zs i = zs[i] := by simp [at', List.getD, hi]
      unfold stepOk at h1
      rw [e] at h1
      simp only [Bool.and_eq_true] at h1
      exact h1.1
    · rw [List.pairwise_iff_getElem]
      intro i j hi hj hij
      have := ok_lt h hij hj
      have e1 : at' zs i = zs[i] := by simp [at', List.getD, hi]
      have e2 : at' zs j = zs[j] := by simp [at', List.getD, hj]
      rw [e1, e2] at this
      exact this
  · rintro ⟨h1, h2⟩
    unfold ok okTo
    rw [List.all_eq_true]
    intro i hi
    have hi' : i < zs.length := by simpa using hi
    have e : at' zs i = zs[i] := by simp [at', List.getD, hi']
    have hr := h1 zs[i] (List.getElem_mem hi')
    rcases Nat.eq_zero_or_pos i with h0 | h0
    · subst h0
      exact stepOk_first (by rw [e]; exact hr)
    · refine stepOk_next (by rw [e]; exact hr) ?_
      have hp : i - 1 < zs.length := by omega
      have e1 : at' zs (i - 1) = zs[i - 1] := by simp [at', List.getD, hp]
      rw [e, e1]
      exact (List.pairwise_iff_getElem.1 h2) (i - 1) i hp hi' (by omega)
theorem ok_filter {zs : List S} (h : ok zs = true) (f : S → Bool) : ok (zs.filter f) = true := by
  rw [ok_iff] at h ⊢
  exact ⟨fun z hz => h.1 z ((List.mem_filter.1 hz).1), h.2.filter _⟩
theorem merge_apart : ∀ (a b : List S), (∀ x ∈ a, ∀ y ∈ b, x.1 < y.1) → merge a b = some (a ++ b)
  | [], b, _ => by rw [merge_nil]; rfl
  | x :: a, [], _ => by rw [merge_nil_right, List.append_nil]
  | x :: a, y :: b, h => by
    have hlt : x.1 < y.1 := h x (by simp) y (by simp)
    rw [merge, if_pos hlt, merge_apart a (y :: b) (fun u hu v hv => h u (by simp [hu]) v hv)]
    rfl
theorem filter_parts : ∀ (zs : List S) (f : Int), zs.Pairwise (fun a b => a.1 < b.1) → (zs.filter fun z => decide (z.1 < f)) ++ (zs.filter fun z => decide (f ≤ z.1)) = zs
  | [], _, _ => rfl
  | z :: zs, f, h => by
    rw [List.pairwise_cons] at h
    by_cases hz : z.1 < f
    · rw [List.filter_cons_of_pos (by simpa using hz), List.filter_cons_of_neg (by simp; omega), List.cons_append, filter_parts zs f h.2]
    · rw [List.filter_cons_of_neg (by simpa using hz), List.filter_cons_of_pos (by simp; omega)]
      have e1 : zs.filter (fun z => decide (z.1 < f)) = [] := by
        rw [List.filter_eq_nil_iff]
        intro y hy
        have := h.1 y hy
        simp
        omega
      have e2 : zs.filter (fun z => decide (f ≤ z.1)) = zs := by
        rw [List.filter_eq_self]
        intro y hy
        have := h.1 y hy
        simp
        omega
      rw [e1, e2]
      rfl
/-- both sides of a cut together are all -/
theorem join_sides {zs : List S} (h : ok zs = true) (f : Int) : join (cut zs 0 f) (cut zs f 10000) = (zs, true) := by
  have h' := (ok_iff zs).1 h
  have ea : cut zs 0 f = zs.filter fun z => decide (z.1 < f) := by
    unfold cut cutL
    rw [if_pos h]
    refine List.filter_congr fun z hz => ?_
    have := inR_iff.1 (h'.1 z hz)
    unfold inT
    rw [decide_eq_true this.1, Bool.true_and]
  have eb : cut zs f 10000 = zs.filter fun z => decide (f ≤ z.1) := by
    unfold cut cutL
    rw [if_pos h]
    refine List.filter_congr fun z hz => ?_
    have := inR_iff.1 (h'.1 z hz)
    unfold inT
    rw [decide_eq_true (show z.1 < 10000 by omega), Bool.and_true]
  rw [ea, eb]
  refine join_some (ok_filter h _) (ok_filter h _) ?_
  rw [merge_apart _ _ (fun x hx y hy => by
    have h1 := (List.mem_filter.1 hx).2
    have h2 := (List.mem_filter.1 hy).2
    simp at h1 h2
    omega), filter_parts zs f h'.2]
theorem cut_cut {zs : List S} (h : ok zs = true) (f t : Int) : cut (cut zs f t) f t = cut zs f t := by
  have e : cut zs f t = cutL zs f t := by unfold cut; rw [if_pos h]
  have h2 : ok (cutL zs f t) = true := ok_filter h _
  rw [e]
  unfold cut
  rw [if_pos h2]
  unfold cutL
  rw [List.filter_filter]
  simp
theorem cut_in {zs : List S} (h : ok zs = true) (f t : Int) (i : Nat) (hi : i < (cut zs f t).length) : f ≤ (at' (cut zs f t) i).1 ∧ (at' (cut zs f t) i).1 < t := by
  have e : at' (cut zs f t) i = (cut zs f t)[i] := by simp [at', List.getD, hi]
  have hm := List.getElem_mem hi
  rw [e]
  have e2 : cut zs f t = cutL zs f t := by unfold cut; rw [if_pos h]
  generalize (cut zs f t)[i] = y at hm
  rw [e2] at hm
  have := (List.mem_filter.1 hm).2
  unfold inT at this
  simpa using this
end Go.Proofs.Ytncjagdnebpaaaa.Samp

/- What the laws' own helpers do with slices of impl.Match: they are copied, held against each other, and counted. -/
namespace Go.Proofs.Ytncjagdnebpaaaa.Mat
open Go.RowKit Rw
set_option linter.unusedVariables false
attribute [local go_sem ↓] Go.wp_at_zero Go.wp_at_succ
abbrev E := Int × ByteArray × ByteArray
def fl (x : E) : List Value := [.int .i64 (x.1), .string (x.2.1), .string (x.2.2)]
theorem flk (x : E) : (fl x).length = 3 := rfl
def at' (zs : List E) (i : Nat) : E := zs.getD i default
abbrev flat (zs : List E) : List Value := flatOf fl zs
abbrev Is (w : World) (v : Value) (zs : List E) : Prop := Lies w v zs.length 3 (flat zs)
theorem flat_length (zs : List E) : (flat zs).length = zs.length * 3 := flatOf_length flk zs
theorem flat_oneCell (zs : List E) : ∀ u ∈ flat zs, u.oneCell' = true := by
  intro u hu
  obtain ⟨x, _, hx⟩ := List.mem_flatMap.1 hu
  simp only [fl, List.mem_cons, List.not_mem_nil, or_false] at hx
  rcases hx with rfl | rfl | rfl <;> rfl
theorem at_get (zs : List E) (i : Nat) (h : i < zs.length) : at' zs i = zs[i] := by simp [at', List.getD, h]
theorem at_snoc (zs : List E) (i : Nat) (h : i < zs.length) : zs.take (i + 1) = zs.take i ++ [at' zs i] := by rw [List.take_succ_eq_append_getElem h, at_get zs i h]
theorem flat_at (zs : List E) (i : Nat) (h : i < zs.length) : (flat zs)[i * 3]? = some (.int .i64 ((at' zs i).1)) ∧ (flat zs)[i * 3 + 1]? = some (.string ((at' zs i).2.1)) ∧ (flat zs)[i * 3 + 2]? = some (.string ((at' zs i).2.2)) := by
  rw [at_get zs i h]
  exact ⟨flatOf_get flk zs i 0 h (by omega), flatOf_get flk zs i 1 h (by omega), flatOf_get flk zs i 2 h (by omega)⟩
def good (x : E) : Prop := (Lit.int .i64 (x.1)).wf = true ∧ (x.2.1).size ≤ maxLen ∧ (x.2.2).size ≤ maxLen
theorem set_e (A : List Value) (u0 u1 u2 x0 x1 x2 : Value) (L : List Value) (k : Nat) (h : A.length = k) : ((((A ++ u0 :: u1 :: u2 :: L).set k x0).set (k + 1) x1).set (k + 2) x2) = A ++ [x0, x1, x2] ++ L := by
  subst h
  simp [List.set_append_right]
theorem split_e (r : List Value) (n : Nat) (h : r.length = (n + 1) * 3) : ∃ u0 u1 u2 L, r = u0 :: u1 :: u2 :: L ∧ L.length = n * 3 := by
  match r, h with
  | u0 :: u1 :: u2 :: L, h => exact ⟨u0, u1, u2, L, rfl, by simp only [List.length_cons] at h; omega⟩
  | [], h => simp at h <;> omega
  | [_], h => simp at h <;> omega
  | [_, _], h => simp at h <;> omega
def tot (zs : List E) : Nat := zs.foldl (fun a x => a + ((x.2.1).size + (x.2.2).size)) zs.length
def totTo (zs : List E) (j : Nat) : Nat := (zs.take j).foldl (fun a x => a + ((x.2.1).size + (x.2.2).size)) zs.length
theorem totTo_succ (zs : List E) (j : Nat) (h : j < zs.length) : totTo zs (j + 1) = totTo zs j + (((at' zs j).2.1).size + ((at' zs j).2.2).size) := by
  unfold totTo
  rw [at_snoc zs j h, List.foldl_append]
  rfl
theorem totTo_mono (zs : List E) : ∀ (i j : Nat), i ≤ j → j ≤ zs.length → totTo zs i ≤ totTo zs j
  | i, 0, h, _ => by obtain rfl : i = 0 := by omega
                     exact Nat.le_refl _
  | i, j + 1, h, hj => by
    by_cases e : i = j + 1
    · subst e; exact Nat.le_refl _
    · have h1 := totTo_mono zs i j (by omega) (by omega)
      rw [totTo_succ zs j (by omega)]
      omega
theorem totTo_all (zs : List E) : totTo zs zs.length = tot zs := by unfold totTo tot; rw [List.take_of_length_le (Nat.le_refl _)]
theorem tot_len (zs : List E) : zs.length ≤ tot zs := by have := totTo_mono zs 0 zs.length (Nat.zero_le _) (Nat.le_refl _); rw [totTo_all] at this; unfold totTo at this; simpa using this
theorem tot_at (zs : List E) (j : Nat) (h : j < zs.length) : ((at' zs j).2.1).size + ((at' zs j).2.2).size ≤ tot zs := by
  have h1 := totTo_succ zs j h
  have h2 := totTo_mono zs (j + 1) zs.length (by omega) (Nat.le_refl _)
  rw [totTo_all] at h2
  omega
end Go.Proofs.Ytncjagdnebpaaaa.Mat

/- MatchesOk, of the program and of the model, at every slice of matches. -/
namespace Go.Proofs.Ytncjagdnebpaaaa.Mat
open Go.RowKit Rw
open Lab (nameB wordB letters name_any word_any l3Name_any l3Letters_any in_yes in_no)
set_option linter.unusedVariables false
attribute [local go_sem ↓] Go.wp_at_zero Go.wp_at_succ
def stepOk (zs : List E) (i : Nat) : Bool := decide (1 ≤ (at' zs i).1) && decide ((at' zs i).1 ≤ 4) && nameB (at' zs i).2.1 && wordB (at' zs i).2.2
def okTo (zs : List E) (k : Nat) : Bool := (List.range k).all (stepOk zs)
def ok (zs : List E) : Bool := okTo zs zs.length && decide (zs.length ≤ 4)
theorem okTo_succ (zs : List E) (k : Nat) : okTo zs (k + 1) = (okTo zs k && stepOk zs k) := by simp [okTo, List.range_succ]
theorem ok_of_bad {zs : List E} {k : Nat} (hk : k < zs.length) (h : stepOk zs k = false) : ok zs = false := by
  have : okTo zs zs.length = false := by unfold okTo; rw [List.all_eq_false]; exact ⟨k, List.mem_range.2 hk, by simp [h]⟩
  unfold ok; rw [this]; rfl
theorem step_yes {zs : List E} {k : Nat} (h1 : 1 ≤ (at' zs k).1) (h4 : (at' zs k).1 ≤ 4) (h2 : nameB (at' zs k).2.1 = true) (h3 : wordB (at' zs k).2.2 = true) : stepOk zs k = true := by
  unfold stepOk; rw [decide_eq_true h1, decide_eq_true h4, h2, h3]; rfl
theorem step_kind {zs : List E} {k : Nat} (h : (at' zs k).1 < 1 ∨ 4 < (at' zs k).1) : stepOk zs k = false := by
  unfold stepOk
  rcases h with h | h
  · rw [decide_eq_false (by omega)]; rfl
  · rw [decide_eq_false (show ¬ (at' zs k).1 ≤ 4 by omega), Bool.and_false]; rfl
theorem step_name {zs : List E} {k : Nat} (h : nameB (at' zs k).2.1 = false) : stepOk zs k = false := by unfold stepOk; rw [h, Bool.and_false]; rfl
theorem step_word {zs : List E} {k : Nat} (h : wordB (at' zs k).2.2 = false) : stepOk zs k = false := by unfold stepOk; rw [h, Bool.and_false]
end Go.Proofs.Ytncjagdnebpaaaa.Mat
