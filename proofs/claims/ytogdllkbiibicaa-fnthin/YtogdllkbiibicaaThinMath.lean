/- Samples made less, as plain mathematics: each is the last of its while; together with all they are all; made less again they are the same. -/
import Derived.Test.YtogdllkbiibicaaWinMath2
import Derived.Test.YtogdllkbiibicaaSampJoin3
namespace Go.Proofs.Ytogdllkbiibicaa.SampMath
set_option linter.unusedVariables false
theorem thin_yes {zs : List S} {st : Int} (h : ok zs = true) (hs : thinB st = true) : thin zs st = thinTo zs st zs.length := by unfold thin; rw [if_pos ⟨h, hs⟩]
theorem thinTo_sub (zs : List S) (st : Int) : ∀ k, k ≤ zs.length → (thinTo zs st k).Sublist (zs.take k) := by
  intro k
  induction k with
  | zero => intro _; exact List.Sublist.refl _
  | succ k ih =>
    intro h
    rw [thinTo, at_snoc zs k (by omega)]
    refine (ih (by omega)).append ?_
    split
    · exact List.Sublist.refl _
    · exact List.nil_sublist _
theorem thin_sub (zs : List S) (st : Int) : (thin zs st).Sublist zs := by
  unfold thin
  split
  · have := thinTo_sub zs st zs.length (Nat.le_refl _); rwa [List.take_length] at this
  · exact List.nil_sublist _
/-- what was made less stands at a place that is the last of its while -/
theorem thinTo_mem {zs : List S} {st : Int} : ∀ k, ∀ x ∈ thinTo zs st k, ∃ i, i < k ∧ x = at' zs i ∧ lastW zs st i = true := by
  intro k
  induction k with
  | zero => intro x hx; cases hx
  | succ k ih =>
    intro x hx
    rw [thinTo, List.mem_append] at hx
    rcases hx with hx | hx
    · obtain ⟨i, h1, h2, h3⟩ := ih x hx
      exact ⟨i, by omega, h2, h3⟩
    · split at hx
      · rename_i h
        simp only [List.mem_singleton] at hx
        exact ⟨k, by omega, hx, h⟩
      · cases hx
theorem div_mono {a b st : Int} (h : a ≤ b) (h0 : 0 < st) : a / st ≤ b / st := Int.ediv_le_ediv h0 h
/-- behind the last of a while nothing is in it -/
theorem last_far {zs : List S} {st : Int} (hok : ok zs = true) (h0 : 0 < st) {i j : Nat} (hl : lastW zs st i = true) (hij : i < j) (hj : j < zs.length) : (at' zs i).1 / st < (at' zs j).1 / st := by
  unfold lastW at hl
  simp only [Bool.or_eq_true, decide_eq_true_eq] at hl
  rcases hl with h | h
  · omega
  · have a := ok_lt hok (show i < i + 1 by omega) (by omega)
    have b := div_mono (Int.le_of_lt a) h0
    have c : (at' zs (i + 1)).1 / st ≤ (at' zs j).1 / st := by
      by_cases e : j = i + 1
      · rw [e]; exact Int.le_refl _
      · exact div_mono (Int.le_of_lt (ok_lt hok (show i + 1 < j by omega) hj)) h0
    omega
theorem take_succ_all (zs : List S) (i : Nat) (hi : i < zs.length) : zs = zs.take i ++ at' zs i :: zs.drop (i + 1) := by
  have := List.take_append_drop i zs
  rw [drop_at zs i hi] at this
  exact this.symm
/-- the while of one that was made less ends with it -/
theorem cut_last {zs : List S} {st : Int} (hok : ok zs = true) (h0 : 0 < st) {i : Nat} (hi : i < zs.length) (hl : lastW zs st i = true) : ∃ M, Samp.cut zs ((at' zs i).1 / st * st) ((at' zs i).1 / st * st + st) = M ++ [at' zs i] := by
  have hr := ok_range hok hi
  have hm := Int.emod_nonneg (at' zs i).1 (show st ≠ 0 by omega)
  have hm2 := Int.emod_lt_of_pos (at' zs i).1 h0
  have hd := Int.mul_ediv_add_emod (at' zs i).1 st
  rw [Int.mul_comm] at hd
  have hin : Samp.inT ((at' zs i).1 / st * st) ((at' zs i).1 / st * st + st) (at' zs i) = true := by
    simp only [Samp.inT, Bool.and_eq_true, decide_eq_true_eq]; omega
  have e : Samp.cut zs ((at' zs i).1 / st * st) ((at' zs i).1 / st * st + st) = Samp.cutL zs ((at' zs i).1 / st * st) ((at' zs i).1 / st * st + st) := by unfold Samp.cut; rw [hok]; rfl
  rw [e]
  unfold Samp.cutL
  obtain ⟨lo, hlo⟩ : ∃ lo, lo = (at' zs i).1 / st * st := ⟨_, rfl⟩
  rw [← hlo] at hin ⊢
  have hnil : (zs.drop (i + 1)).filter (Samp.inT lo (lo + st)) = [] := by
    rw [List.filter_eq_nil_iff]
    intro y hy
    obtain ⟨k, hk, rfl⟩ := List.getElem_of_mem hy
    rw [List.length_drop] at hk
    have ey : (zs.drop (i + 1))[k]'(by rw [List.length_drop]; exact hk) = at' zs (i + 1 + k) := by
      rw [← at_drop]
      unfold at'
      rw [List.getD_eq_getElem?_getD, List.getElem?_eq_getElem (by rw [List.length_drop]; exact hk)]
      rfl
    rw [ey]
    have hf := last_far hok h0 hl (show i < i + 1 + k by omega) (by omega)
    simp only [Samp.inT, Bool.and_eq_true, decide_eq_true_eq, not_and]
    intro _
    have q1 := Int.mul_ediv_add_emod (at' zs (i + 1 + k)).1 st
    rw [Int.mul_comm] at q1
    have q2 := Int.emod_nonneg (at' zs (i + 1 + k)).1 (show st ≠ 0 by omega)
    have q3 : ((at' zs i).1 / st + 1) * st ≤ (at' zs (i + 1 + k)).1 / st * st := Int.mul_le_mul_of_nonneg_right (by omega) (by omega)
    rw [Int.add_mul, Int.one_mul] at q3
    omega
  refine ⟨(zs.take i).filter (Samp.inT lo (lo + st)), ?_⟩
  have es := congrArg (List.filter (Samp.inT lo (lo + st))) (take_succ_all zs i hi)
  rw [es, List.filter_append, List.filter_cons, if_pos hin, hnil]
/-- a part of samples, put to them, changes nothing -/
theorem merge_sub : ∀ (zs ys : List S), zs.Pairwise (fun a b => a.1 < b.1) → ys.Sublist zs → merge zs ys = some zs
  | [], ys, _, h => by rw [List.sublist_nil.1 h, merge_nil]
  | z :: zs, [], _, _ => by rw [merge_nil_right]
  | z :: zs, y :: ys, hp, h => by
    rw [List.pairwise_cons] at hp
    cases h with
    | cons _ h' =>
      have hlt : z.1 < y.1 := hp.1 y (h'.subset (by simp))
      rw [merge, if_pos hlt, merge_sub zs (y :: ys) hp.2 h']
      rfl
    | cons_cons _ h' =>
      rw [merge, if_neg (by omega), if_neg (by omega), if_pos rfl, merge_sub zs ys hp.2 h']
      rfl
theorem join_thin {zs : List S} (st : Int) (h : ok zs = true) : join zs (thin zs st) = (zs, true) := by
  exact join_some h (ok_sub h (thin_sub zs st)) (merge_sub zs _ ((Samp.ok_iff zs).1 h).2 (thin_sub zs st))
/-- samples of which each is the last of its while are made less to themselves -/
theorem thinTo_all {ys : List S} {st : Int} : ∀ k, k ≤ ys.length → (∀ i, i < k → lastW ys st i = true) → thinTo ys st k = ys.take k := by
  intro k
  induction k with
  | zero => intro _ _; rfl
  | succ k ih =>
    intro hk h
    rw [thinTo_yes (h k (by omega)), ih (by omega) (fun i hi => h i (by omega)), ← at_snoc ys k (by omega)]
/-- two of what was made less are of two whiles -/
theorem thinTo_apart {zs : List S} {st : Int} (hok : ok zs = true) (h0 : 0 < st) : ∀ k, k ≤ zs.length → (thinTo zs st k).Pairwise (fun a b => a.1 / st < b.1 / st) := by
  intro k
  induction k with
  | zero => intro _; exact List.Pairwise.nil
  | succ k ih =>
    intro hk
    rw [thinTo, List.pairwise_append]
    refine ⟨ih (by omega), by split <;> simp, fun x hx y hy => ?_⟩
    obtain ⟨i, h1, h2, h3⟩ := thinTo_mem k x hx
    split at hy
    · simp only [List.mem_singleton] at hy
      rw [h2, hy]
      exact last_far hok h0 h3 h1 (by omega)
    · cases hy
theorem thin_thin {zs : List S} {st : Int} (hok : ok zs = true) (hs : thinB st = true) : thin (thin zs st) st = thin zs st := by
  have h0 : 0 < st := by unfold thinB at hs; simp at hs; omega
  have ho := ok_sub hok (thin_sub zs st)
  rw [thin_yes ho hs]
  have := thinTo_all (ys := thin zs st) (st := st) (thin zs st).length (Nat.le_refl _) (fun i hi => by
    by_cases e : i + 1 = (thin zs st).length
    · exact lastW_end e
    · refine lastW_far ?_
      have hp := thinTo_apart hok h0 zs.length (Nat.le_refl _)
      rw [← thin_yes hok hs, List.pairwise_iff_getElem] at hp
      have := hp i (i + 1) hi (by omega) (by omega)
      have g : ∀ j (hj : j < (thin zs st).length), at' (thin zs st) j = (thin zs st)[j] := fun j hj => by simp [at', List.getD, hj]
      rw [g i hi, g (i + 1) (by omega)]
      omega)
  rw [List.take_length] at this
  exact this
theorem thin_last {zs : List S} {st : Int} (hok : ok zs = true) (hs : thinB st = true) (h : 0 < zs.length) : ∃ M, thin zs st = M ++ [at' zs (zs.length - 1)] := by
  rw [thin_yes hok hs]
  obtain ⟨n, hn⟩ : ∃ n, zs.length = n + 1 := ⟨zs.length - 1, by omega⟩
  rw [hn, thinTo_yes (lastW_end hn.symm), Nat.add_sub_cancel]
  exact ⟨_, rfl⟩
theorem thin_cut {zs : List S} {st : Int} (hok : ok zs = true) (hs : thinB st = true) {i : Nat} (hi : i < (thin zs st).length) : ∃ M, Samp.cut zs ((at' (thin zs st) i).1 / st * st) ((at' (thin zs st) i).1 / st * st + st) = M ++ [at' (thin zs st) i] := by
  have h0 : 0 < st := by unfold thinB at hs; simp at hs; omega
  have hm : at' (thin zs st) i ∈ thinTo zs st zs.length := by
    rw [← thin_yes hok hs]
    have : at' (thin zs st) i = (thin zs st)[i] := by simp [at', List.getD, hi]
    rw [this]; exact List.getElem_mem _
  obtain ⟨j, h1, h2, h3⟩ := thinTo_mem _ _ hm
  rw [h2]
  exact cut_last hok h0 h1 h3
end Go.Proofs.Ytogdllkbiibicaa.SampMath
