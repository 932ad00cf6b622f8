/- What is cut and joined again is the whole. No condition. -/
import Derived.Test.YtogdllkbiibicaaJoinMath
import Derived.Test.YtogdllkbiibicaaSampCut
namespace Go.Proofs.Ytogdllkbiibicaa.Samp
open SampMath
set_option linter.unusedVariables false
theorem ok_iff (zs : List S) : ok zs = true ↔ (∀ z ∈ zs, inR z.1 z.2 = true) ∧ zs.Pairwise (fun a b => a.1 < b.1) := by
  constructor
  · intro h
    constructor
    · intro z hz
      obtain ⟨i, hi, rfl⟩ := List.getElem_of_mem hz
      have h1 := ok_at h hi
      have e : at' zs i = zs[i] := by simp [at', List.getD, hi]
      unfold stepOk at h1
      rw [e] at h1
      simp only [Bool.and_eq_true] at h1
      exact h1.1
    · rw [List.pairwise_iff_getElem]
      intro i j hi hj hij
      have := ok_lt h hij hj
      have e1 : at' zs i = zs[i] := by simp [at', List.getD, hi]
      have e2 : at' zs j = zs[j] := by simp [at', List.getD, hj]
      rw [e1, e2] at this
      exact this
  · rintro ⟨h1, h2⟩
    unfold ok okTo
    rw [List.all_eq_true]
    intro i hi
    have hi' : i < zs.length := by simpa using hi
    have e : at' zs i = zs[i] := by simp [at', List.getD, hi']
    have hr := h1 zs[i] (List.getElem_mem hi')
    rcases Nat.eq_zero_or_pos i with h0 | h0
    · subst h0
      exact stepOk_first (by rw [e]; exact hr)
    · refine stepOk_next (by rw [e]; exact hr) ?_
      have hp : i - 1 < zs.length := by omega
      have e1 : at' zs (i - 1) = zs[i - 1] := by simp [at', List.getD, hp]
      rw [e, e1]
      exact (List.pairwise_iff_getElem.1 h2) (i - 1) i hp hi' (by omega)
theorem ok_filter {zs : List S} (h : ok zs = true) (f : S → Bool) : ok (zs.filter f) = true := by
  rw [ok_iff] at h ⊢
  exact ⟨fun z hz => h.1 z ((List.mem_filter.1 hz).1), h.2.filter _⟩
theorem merge_apart : ∀ (a b : List S), (∀ x ∈ a, ∀ y ∈ b, x.1 < y.1) → merge a b = some (a ++ b)
  | [], b, _ => by rw [merge_nil]; rfl
  | x :: a, [], _ => by rw [merge_nil_right, List.append_nil]
  | x :: a, y :: b, h => by
    have hlt : x.1 < y.1 := h x (by simp) y (by simp)
    rw [merge, if_pos hlt, merge_apart a (y :: b) (fun u hu v hv => h u (by simp [hu]) v hv)]
    rfl
theorem filter_parts : ∀ (zs : List S) (f : Int), zs.Pairwise (fun a b => a.1 < b.1) → (zs.filter fun z => decide (z.1 < f)) ++ (zs.filter fun z => decide (f ≤ z.1)) = zs
  | [], _, _ => rfl
  | z :: zs, f, h => by
    rw [List.pairwise_cons] at h
    by_cases hz : z.1 < f
    · rw [List.filter_cons_of_pos (by simpa using hz), List.filter_cons_of_neg (by simp; omega), List.cons_append, filter_parts zs f h.2]
    · rw [List.filter_cons_of_neg (by simpa using hz), List.filter_cons_of_pos (by simp; omega)]
      have e1 : zs.filter (fun z => decide (z.1 < f)) = [] := by
        rw [List.filter_eq_nil_iff]
        intro y hy
        have := h.1 y hy
        simp
        omega
      have e2 : zs.filter (fun z => decide (f ≤ z.1)) = zs := by
        rw [List.filter_eq_self]
        intro y hy
        have := h.1 y hy
        simp
        omega
      rw [e1, e2]
      rfl
/-- both sides of a cut together are all -/
theorem join_sides {zs : List S} (h : ok zs = true) (f : Int) : join (cut zs 0 f) (cut zs f 10000) = (zs, true) := by
  have h' := (ok_iff zs).1 h
  have ea : cut zs 0 f = zs.filter fun z => decide (z.1 < f) := by
    unfold cut cutL
    rw [if_pos h]
    refine List.filter_congr fun z hz => ?_
    have := inR_iff.1 (h'.1 z hz)
    unfold inT
    rw [decide_eq_true this.1, Bool.true_and]
  have eb : cut zs f 10000 = zs.filter fun z => decide (f ≤ z.1) := by
    unfold cut cutL
    rw [if_pos h]
    refine List.filter_congr fun z hz => ?_
    have := inR_iff.1 (h'.1 z hz)
    unfold inT
    rw [decide_eq_true (show z.1 < 10000 by omega), Bool.and_true]
  rw [ea, eb]
  refine join_some (ok_filter h _) (ok_filter h _) ?_
  rw [merge_apart _ _ (fun x hx y hy => by
    have h1 := (List.mem_filter.1 hx).2
    have h2 := (List.mem_filter.1 hy).2
    simp at h1 h2
    omega), filter_parts zs f h'.2]
theorem cut_cut {zs : List S} (h : ok zs = true) (f t : Int) : cut (cut zs f t) f t = cut zs f t := by
  have e : cut zs f t = cutL zs f t := by unfold cut; rw [if_pos h]
  have h2 : ok (cutL zs f t) = true := ok_filter h _
  rw [e]
  unfold cut
  rw [if_pos h2]
  unfold cutL
  rw [List.filter_filter]
  simp
theorem cut_in {zs : List S} (h : ok zs = true) (f t : Int) (i : Nat) (hi : i < (cut zs f t).length) : f ≤ (at' (cut zs f t) i).1 ∧ (at' (cut zs f t) i).1 < t := by
  have e : at' (cut zs f t) i = (cut zs f t)[i] := by simp [at', List.getD, hi]
  have hm := List.getElem_mem hi
  rw [e]
  have e2 : cut zs f t = cutL zs f t := by unfold cut; rw [if_pos h]
  generalize (cut zs f t)[i] = y at hm
  rw [e2] at hm
  have := (List.mem_filter.1 hm).2
  unfold inT at this
  simpa using this
end Go.Proofs.Ytogdllkbiibicaa.Samp
