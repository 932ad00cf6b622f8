/- My own texts of one claim, laid together by program: Let2, RowAsk, RowMark, AskCnt. -/
import Derived.Test.YtncjagdnebpaaaaG31fbfc5a42
import Derived.Test.YtncjagdnebpaaaaG6719f0bc30
import Derived.Test.YtncjagdnebpaaaaG240cb4c68c
/- MatchesLet of the program, at every slice of matches and of labels. -/
namespace Go.Proofs.Ytncjagdnebpaaaa.Mat
open Go.RowKit Rw
set_option linter.unusedVariables false
attribute [local go_sem ↓] Go.wp_at_zero Go.wp_at_succ
end Go.Proofs.Ytncjagdnebpaaaa.Mat

/- RowsAsk of the program. -/
namespace Go.Proofs.Ytncjagdnebpaaaa.Row
open Go.RowKit Rw
set_option linter.unusedVariables false
attribute [local go_sem ↓] Go.wp_at_zero Go.wp_at_succ
def askG (ms : List Mat.E) (f t : Int) (x : E) : List Sam.E := if Mat.mlet ms x.1 = true then Samp.cutL x.2 f t else []
def ask (ms : List Mat.E) (f t : Int) (zs : List E) : List E := if ok zs = true then outL (askG ms f t) zs else []
theorem own_nil (lo : Nat) (w : World) : Own lo w.heap.size w (.slice none 0 0) [] := ⟨[], rfl, World.ownsRow_nil _ _ _ _, fun k hk => (by cases hk), Nat.le_refl _, fun i j _ h => absurd h (Nat.not_lt_zero _), fun i j _ h => absurd h (Nat.not_lt_zero _), fun i h => absurd h (Nat.not_lt_zero _)⟩
theorem outL_len (g : E → List Sam.E) (zs : List E) : (outL g zs).length ≤ zs.length := by
  unfold outL
  induction zs with
  | nil => simp
  | cons x zs ih =>
    rw [List.flatMap_cons, List.length_append, List.length_cons]
    split
    · rw [List.length_nil]; omega
    · rw [List.length_cons, List.length_nil]; omega
theorem outL_sorted {g : E → List Sam.E} {zs : List E} (h : ok zs = true) : ∀ k, k ≤ zs.length → Sorted (outL g (zs.take k))
  | 0, _ => by simp [outL, Sorted]
  | k + 1, hk => by
    rw [outL_snoc g zs k (by omega)]
    split
    · rw [List.append_nil]; exact outL_sorted h k (by omega)
    · exact (outL_sorted h k (by omega)).snoc (outL_ahead h (by omega))
theorem outL_ok {g : E → List Sam.E} {zs : List E} (h : ok zs = true) {k : Nat} (hk : k ≤ zs.length) : ∀ y ∈ outL g (zs.take k), Lab.ok y.1 = true := by
  intro y hy
  obtain ⟨i, hi, e, -⟩ := outL_mem hk hy
  rw [e]
  exact (step_is (ok_at h (by omega))).1
theorem smp_of_lies {w : World} {v : Value} {zs : List Sam.E} (h : Sam.Is w v zs) (h0 : zs ≠ []) : Samp.Smp w v zs := by
  obtain ⟨-, a, cap, rfl, hc, hm, -, hr⟩ := h
  obtain ⟨b, off, rfl, hl, hcells⟩ := hr (List.length_pos_iff.2 h0)
  exact .inr ⟨b, off, cap, rfl, hc, hm, hl, Sam.reads_of hcells⟩
end Go.Proofs.Ytncjagdnebpaaaa.Row

/- What the laws' own helpers do to mark rows, and to see that the marks are held. -/
namespace Go.Proofs.Ytncjagdnebpaaaa.Row
open Go.RowKit Rw
set_option linter.unusedVariables false
attribute [local go_sem ↓] Go.wp_at_zero Go.wp_at_succ
def cntE (x : E) : Nat := 2 * x.1.length + 2 * x.2.length
def cntTo (zs : List E) (i : Nat) : Nat := ((zs.take i).map cntE).sum
def cnt (zs : List E) : Nat := cntTo zs zs.length
theorem cntTo_succ (zs : List E) (j : Nat) (h : j < zs.length) : cntTo zs (j + 1) = cntTo zs j + cntE (at' zs j) := by
  unfold cntTo
  rw [List.take_succ_eq_append_getElem h, List.map_append, List.sum_append, at_get zs j h]
  simp
theorem cntTo_mono (zs : List E) : ∀ (i j : Nat), i ≤ j → j ≤ zs.length → cntTo zs i ≤ cntTo zs j
  | i, 0, h, _ => by obtain rfl : i = 0 := by omega
                     exact Nat.le_refl _
  | i, j + 1, h, hl => by
    by_cases e : i = j + 1
    · subst e; exact Nat.le_refl _
    · have h1 := cntTo_mono zs i j (by omega) (by omega)
      rw [cntTo_succ zs j (by omega)]
      omega
theorem cntTo_le (zs : List E) (j : Nat) (h : j < zs.length) : cntTo zs j + cntE (at' zs j) ≤ cnt zs := by
  rw [← cntTo_succ zs j h]
  exact cntTo_mono zs _ _ (by omega) (Nat.le_refl _)
def mkAt (k0 : Nat) (zs : List E) (i : Nat) : E := (Lab.marks (k0 + cntTo zs i) (at' zs i).1.length, Sam.marks (k0 + cntTo zs i + 2 * (at' zs i).1.length) (at' zs i).2.length)
def mk (k0 : Nat) (zs : List E) : List E := (List.range zs.length).map (mkAt k0 zs)
theorem mk_length (k0 : Nat) (zs : List E) : (mk k0 zs).length = zs.length := by simp [mk]
theorem mk_at (k0 : Nat) (zs : List E) (i : Nat) (h : i < zs.length) : at' (mk k0 zs) i = mkAt k0 zs i := by
  rw [at_get _ _ (by rw [mk_length]; exact h)]
  simp [mk]
/-- what row i holds when j rows are marked -/
def cur (k0 : Nat) (zs : List E) (j i : Nat) : E := if i < j then mkAt k0 zs i else at' zs i
theorem len_cnt {zs : List E} (h : tot zs ≤ 1048576) : zs.length ≤ 2097152 := (tiny_of h).1
theorem cnt_tot (zs : List E) : ∀ j, j ≤ zs.length → cntTo zs j ≤ 2 * totTo zs j
  | 0, _ => by simp [cntTo]
  | j + 1, h => by
    have := cnt_tot zs j (by omega)
    rw [cntTo_succ zs j (by omega), totTo_succ zs j (by omega)]
    have h1 := Lab.tot_len (at' zs j).1
    have h2 : (at' zs j).2.length ≤ Sam.tot (at' zs j).2 := Nat.le_refl _
    unfold cntE szOf
    omega
end Go.Proofs.Ytncjagdnebpaaaa.Row

/- How much there is at most in what is asked for. -/
namespace Go.Proofs.Ytncjagdnebpaaaa.Row
open Go.RowKit Rw
theorem cnt_le (L : List E) (M : Nat) (h : ∀ y ∈ L, cntE y ≤ M) : cnt L ≤ L.length * M := by
  unfold cnt cntTo
  rw [List.take_of_length_le (Nat.le_refl _)]
  induction L with
  | nil => simp
  | cons x L ih =>
    have h1 := h x (List.mem_cons_self ..)
    have h2 := ih (fun y hy => h y (List.mem_cons_of_mem _ hy))
    rw [List.map_cons, List.sum_cons, List.length_cons, Nat.succ_mul]
    omega
theorem outL_cnt {g : E → List Sam.E} {zs : List E} (h : ok zs = true) (hg : ∀ i, i < zs.length → (g (at' zs i)).length ≤ 2000) : cnt (outL g zs) ≤ 2097152 ∧ (outL g zs).length ≤ 2097152 := by
  have hl := outL_len g zs
  have h10 := ok_len h
  have h1 := cnt_le (outL g zs) 6000 (fun y hy => by
    rw [← List.take_of_length_le (Nat.le_refl zs.length)] at hy
    obtain ⟨i, hi, e, -⟩ := outL_mem (Nat.le_refl _) hy
    have hs := (Lab.ok_small (step_is (ok_at h hi)).1).1
    have := hg i hi
    rw [e]
    unfold cntE
    simp only
    omega)
  have h2 : (outL g zs).length * 6000 ≤ 10 * 6000 := Nat.mul_le_mul_right _ (by omega)
  omega
theorem ask_cnt (ms : List Mat.E) (f t : Int) (zs : List E) : cnt (ask ms f t zs) ≤ 2097152 ∧ (ask ms f t zs).length ≤ 2097152 := by
  unfold ask
  cases ho : ok zs
  · simp [cnt, cntTo]
  · simp only [if_true]
    refine outL_cnt ho (fun i hi => ?_)
    have := (step_is (ok_at ho hi)).2.2.1
    unfold askG
    split
    · exact Nat.le_trans (List.length_filter_le _ _) (by omega)
    · simp
end Go.Proofs.Ytncjagdnebpaaaa.Row
