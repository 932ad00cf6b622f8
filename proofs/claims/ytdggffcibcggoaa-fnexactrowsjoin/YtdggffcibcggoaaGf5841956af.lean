/- My own texts of one claim, laid together by program: AskCnt, TopCnt, JoinCnt. -/
import Derived.Test.YtdggffcibcggoaaG83b02f23c4
import Derived.Test.YtdggffcibcggoaaG84d38cb819
import Derived.Test.YtdggffcibcggoaaG94fe2d39c0
/- How much there is at most in what is asked for. -/
namespace Go.Proofs.Ytdggffcibcggoaa.Row
open Go.RowKit Rw
theorem cnt_le (L : List E) (M : Nat) (h : ∀ y ∈ L, cntE y ≤ M) : cnt L ≤ L.length * M := by
  unfold cnt cntTo
  rw [List.take_of_length_le (Nat.le_refl _)]
  induction L with
  | nil => simp
  | cons x L ih =>
    have h1 := h x (List.mem_cons_self ..)
    have h2 := ih (fun y hy => h y (List.mem_cons_of_mem _ hy))
    rw [List.map_cons, List.sum_cons, List.length_cons, Nat.succ_mul]
    omega
theorem outL_cnt {g : E → List Sam.E} {zs : List E} (h : ok zs = true) (hg : ∀ i, i < zs.length → (g (at' zs i)).length ≤ 2000) : cnt (outL g zs) ≤ 2097152 ∧ (outL g zs).length ≤ 2097152 := by
  have hl := outL_len g zs
  have h10 := ok_len h
  have h1 := cnt_le (outL g zs) 6000 (fun y hy => by
    rw [← List.take_of_length_le (Nat.le_refl zs.length)] at hy
    obtain ⟨i, hi, e, -⟩ := outL_mem (Nat.le_refl _) hy
    have hs := (Lab.ok_small (step_is (ok_at h hi)).1).1
    have := hg i hi
    rw [e]
    unfold cntE
    simp only
    omega)
  have h2 : (outL g zs).length * 6000 ≤ 10 * 6000 := Nat.mul_le_mul_right _ (by omega)
  omega
theorem ask_cnt (ms : List Mat.E) (f t : Int) (zs : List E) : cnt (ask ms f t zs) ≤ 2097152 ∧ (ask ms f t zs).length ≤ 2097152 := by
  unfold ask
  cases ho : ok zs
  · simp [cnt, cntTo]
  · simp only [if_true]
    refine outL_cnt ho (fun i hi => ?_)
    have := (step_is (ok_at ho hi)).2.2.1
    unfold askG
    split
    · exact Nat.le_trans (List.length_filter_le _ _) (by omega)
    · simp
end Go.Proofs.Ytdggffcibcggoaa.Row

/- How much there is at most in the rows with the greatest last numbers. -/
namespace Go.Proofs.Ytdggffcibcggoaa.Row
open Go.RowKit Rw
theorem ok_cnt {zs : List E} (h : ok zs = true) : cnt zs ≤ 2097152 ∧ zs.length ≤ 2097152 := by
  have h10 := ok_len h
  have h1 := cnt_le zs 6000 (fun y hy => by
    obtain ⟨i, hi, rfl⟩ := List.getElem_of_mem hy
    rw [← at_get zs i hi]
    have hst := step_is (ok_at h hi)
    have hs := (Lab.ok_small hst.1).1
    have := hst.2.2.1
    unfold cntE
    omega)
  have h2 : zs.length * 6000 ≤ 10 * 6000 := Nat.mul_le_mul_right _ (by omega)
  omega
theorem top_cnt (most : Int) (zs : List E) : cnt (top most zs) ≤ 2097152 ∧ (top most zs).length ≤ 2097152 := by
  cases ho : ok zs
  · have : top most zs = [] := by unfold top; rw [ho]; rfl
    rw [this]; simp [cnt, cntTo]
  · exact ok_cnt (ok_sub ho (top_sub most zs))
end Go.Proofs.Ytdggffcibcggoaa.Row

/- How much there is at most in rows of both. -/
namespace Go.Proofs.Ytdggffcibcggoaa.Row
open Go.RowKit Rw
theorem join_is (a b : List E) : (join a b).2 = true ∧ ok (join a b).1 = true ∨ join a b = ([], false) := by
  by_cases h : ok a = true ∧ ok b = true
  · rw [join_set h.1 h.2]
    cases e : insAll a b with
    | none => exact .inr rfl
    | some R =>
      simp only [Option.bind_some]
      by_cases hR : ok R = true
      · rw [if_pos hR]; exact .inl ⟨rfl, hR⟩
      · rw [if_neg hR]; exact .inr rfl
  · unfold join; rw [if_neg h]; exact .inr rfl
theorem join_cnt (a b : List E) : cnt (join a b).1 ≤ 2097152 ∧ (join a b).1.length ≤ 2097152 := by
  rcases join_is a b with h | h
  · exact ok_cnt h.2
  · rw [h]; simp [cnt, cntTo]
end Go.Proofs.Ytdggffcibcggoaa.Row
