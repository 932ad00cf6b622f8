/- My own texts of one claim, laid together by program: AskCnt, TopCnt, RowAdd, RowAdd2. -/
import Derived.Test.YtlboekimnhgfdaaGreatG32ba85294a
import Derived.Test.YtlboekimnhgfdaaGreatGf7ca62e939
import Derived.Test.YtlboekimnhgfdaaGreatGce30680cae
import Derived.Test.YtlboekimnhgfdaaGreatG32b7cddec7
import Derived.Test.YtlboekimnhgfdaaGreatG5b9f8c3b84
/- How much there is at most in what is asked for. -/
namespace Go.Proofs.YtlboekimnhgfdaaGreat.Row
open Go.RowKit Rw
theorem cnt_le (L : List E) (M : Nat) (h : ∀ y ∈ L, cntE y ≤ M) : cnt L ≤ L.length * M := by
  unfold cnt cntTo
  rw [List.take_of_length_le (Nat.le_refl _)]
  induction L with
  | nil => simp
  | cons x L ih =>
    have h1 := h x (List.mem_cons_self ..)
    have h2 := ih (fun y hy => h y (List.mem_cons_of_mem _ hy))
    rw [List.map_cons, List.sum_cons, List.length_cons, Nat.succ_mul]
    omega
theorem outL_cnt {g : E → List Sam.E} {zs : List E} (h : ok zs = true) (hg : ∀ i, i < zs.length → (g (at' zs i)).length ≤ 2000) : cnt (outL g zs) ≤ 2097152 ∧ (outL g zs).length ≤ 2097152 := by
  have hl := outL_len g zs
  have h10 := ok_len h
  have h1 := cnt_le (outL g zs) 6000 (fun y hy => by
    rw [← List.take_of_length_le (Nat.le_refl zs.length)] at hy
    obtain ⟨i, hi, e, -⟩ := outL_mem (Nat.le_refl _) hy
    have hs := (Lab.ok_small (step_is (ok_at h hi)).1).1
    have := hg i hi
    rw [e]
    unfold cntE
    simp only
    omega)
  have h2 : (outL g zs).length * 6000 ≤ 10 * 6000 := Nat.mul_le_mul_right _ (by omega)
  omega
theorem ask_cnt (ms : List Mat.E) (f t : Int) (zs : List E) : cnt (ask ms f t zs) ≤ 2097152 ∧ (ask ms f t zs).length ≤ 2097152 := by
  unfold ask
  cases ho : ok zs
  · simp [cnt, cntTo]
  · simp only [if_true]
    refine outL_cnt ho (fun i hi => ?_)
    have := (step_is (ok_at ho hi)).2.2.1
    unfold askG
    split
    · exact Nat.le_trans (List.length_filter_le _ _) (by omega)
    · simp
end Go.Proofs.YtlboekimnhgfdaaGreat.Row

/- How much there is at most in the rows with the greatest last numbers. -/
namespace Go.Proofs.YtlboekimnhgfdaaGreat.Row
open Go.RowKit Rw
theorem ok_cnt {zs : List E} (h : ok zs = true) : cnt zs ≤ 2097152 ∧ zs.length ≤ 2097152 := by
  have h10 := ok_len h
  have h1 := cnt_le zs 6000 (fun y hy => by
    obtain ⟨i, hi, rfl⟩ := List.getElem_of_mem hy
    rw [← at_get zs i hi]
    have hst := step_is (ok_at h hi)
    have hs := (Lab.ok_small hst.1).1
    have := hst.2.2.1
    unfold cntE
    omega)
  have h2 : zs.length * 6000 ≤ 10 * 6000 := Nat.mul_le_mul_right _ (by omega)
  omega
theorem top_cnt (most : Int) (zs : List E) : cnt (top most zs) ≤ 2097152 ∧ (top most zs).length ≤ 2097152 := by
  cases ho : ok zs
  · have : top most zs = [] := by unfold top; rw [ho]; rfl
    rw [this]; simp [cnt, cntTo]
  · exact ok_cnt (ok_sub ho (top_sub most zs))
end Go.Proofs.YtlboekimnhgfdaaGreat.Row

/- A row more among rows: the model's l5Add. -/
namespace Go.Proofs.YtlboekimnhgfdaaGreat.Row
open Go.RowKit Rw
set_option linter.unusedVariables false
attribute [local go_sem ↓] Go.wp_at_zero Go.wp_at_succ
/-! ### the size of what is made -/
theorem sized_mid {A D : List E} {x : E} (h : sized (A ++ D) = true) : sized (A ++ x :: D) = (decide ((A ++ D).length + 1 ≤ 10) && decide (x.2.length ≤ 1000)) := by
  unfold sized at h ⊢
  simp only [Bool.and_eq_true, decide_eq_true_eq, List.all_append, List.length_append] at h
  simp only [List.length_append, List.length_cons, List.all_append, List.all_cons, h.2.1, h.2.2, Bool.true_and, Bool.and_true]
  congr 2
theorem sized_same {A D : List E} {x y : E} (h : sized (A ++ x :: D) = true) : sized (A ++ y :: D) = decide (y.2.length ≤ 1000) := by
  unfold sized at h ⊢
  simp only [Bool.and_eq_true, decide_eq_true_eq, List.all_append, List.length_append, List.length_cons, List.all_cons] at h
  simp only [List.length_append, List.length_cons, List.all_append, List.all_cons, h.2.1, h.2.2.2, Bool.true_and, Bool.and_true]
  rw [decide_eq_true h.1, Bool.true_and]
theorem add_new {zs : List E} {x : E} (hok : ok zs = true) (h : there zs x.1 = false) : add zs x = if (decide (zs.length + 1 ≤ 10) && decide (x.2.length ≤ 1000)) = true then some (zs.take (place zs x.1) ++ x :: zs.drop (place zs x.1)) else none := by
  have hs := sized_of_ok hok
  unfold add
  rw [ins_place, h, if_neg (by simp), Option.bind_some]
  have e := sized_mid (A := zs.take (place zs x.1)) (D := zs.drop (place zs x.1)) (x := x) (by rw [List.take_append_drop]; exact hs)
  rw [List.take_append_drop] at e
  rw [e]
theorem take_at_drop {zs : List E} {k : Nat} (hk : k < zs.length) : zs = zs.take k ++ at' zs k :: zs.drop (k + 1) := by
  rw [at_get zs k hk, ← List.drop_eq_getElem_cons hk, List.take_append_drop]
theorem set_is {zs : List E} {k : Nat} (y : E) (hk : k < zs.length) : zs.set k y = zs.take k ++ y :: zs.drop (k + 1) := by
  rw [List.set_eq_take_append_cons_drop, if_pos hk]
theorem add_old {zs : List E} {x : E} (hok : ok zs = true) (h : there zs x.1 = true) : add zs x = if ((SampMath.join (at' zs (place zs x.1)).2 x.2).2 && decide ((SampMath.join (at' zs (place zs x.1)).2 x.2).1.length ≤ 1000)) = true then some (zs.set (place zs x.1) ((at' zs (place zs x.1)).1, (SampMath.join (at' zs (place zs x.1)).2 x.2).1)) else none := by
  have hs := sized_of_ok hok
  have hk : place zs x.1 < zs.length := by unfold there at h; simp only [Bool.and_eq_true, decide_eq_true_eq] at h; exact h.1
  unfold add
  rw [ins_place, h, if_pos rfl, set_is _ hk]
  generalize place zs x.1 = k at hk
  unfold jn
  cases hj : (SampMath.join (at' zs k).2 x.2).2
  · simp
  · simp only [if_true, Option.map_some, Option.bind_some, Bool.true_and]
    rw [sized_same (A := zs.take k) (D := zs.drop (k + 1)) (x := at' zs k) (by rw [← take_at_drop hk]; exact hs)]
/-! ### cells of rows, one more, one turned -/
theorem cat_mid (cs : List C) (c : C) (k i : Nat) (hk : k ≤ cs.length) (hi : i ≤ cs.length) : cat (cs.take k ++ c :: cs.drop k) i = if i < k then cat cs i else if i = k then c else cat cs (i - 1) := by
  have hl : (cs.take k).length = k := by rw [List.length_take]; omega
  unfold cat List.getD
  by_cases h1 : i < k
  · rw [if_pos h1, List.getElem?_append_left (by omega), List.getElem?_take, if_pos h1]
  · rw [if_neg h1, List.getElem?_append_right (by omega), hl]
    by_cases h2 : i = k
    · rw [if_pos h2, h2, Nat.sub_self]; rfl
    · rw [if_neg h2, show i - k = (i - k - 1) + 1 by omega, List.getElem?_cons_succ, List.getElem?_drop, show k + (i - k - 1) = i - 1 by omega]
theorem at_mid (cs : List E) (c : E) (k i : Nat) (hk : k ≤ cs.length) (hi : i ≤ cs.length) : at' (cs.take k ++ c :: cs.drop k) i = if i < k then at' cs i else if i = k then c else at' cs (i - 1) := by
  have hl : (cs.take k).length = k := by rw [List.length_take]; omega
  unfold at' List.getD
  by_cases h1 : i < k
  · rw [if_pos h1, List.getElem?_append_left (by omega), List.getElem?_take, if_pos h1]
  · rw [if_neg h1, List.getElem?_append_right (by omega), hl]
    by_cases h2 : i = k
    · rw [if_pos h2, h2, Nat.sub_self]; rfl
    · rw [if_neg h2, show i - k = (i - k - 1) + 1 by omega, List.getElem?_cons_succ, List.getElem?_drop, show k + (i - k - 1) = i - 1 by omega]
theorem apart_mid {n k : Nat} {cs : List C} {c : C} (hd : cs.length = n) (hk : k ≤ n) (p : C → Value) (h : ApartF n (fun i => p (cat cs i))) (hc : ∀ i, i < n → ∀ b, (p (cat cs i)).ownBlock = some b → (p c).ownBlock ≠ some b) : ApartF (n + 1) (fun i => p (cat (cs.take k ++ c :: cs.drop k) i)) := by
  subst hd
  intro i j hij hj b hb
  simp only at hb ⊢
  rw [cat_mid _ _ _ _ hk (by omega)] at hb ⊢
  by_cases j1 : j < k
  · rw [if_pos (by omega)] at hb
    rw [if_pos j1]
    exact h i j hij (by omega) b hb
  · rw [if_neg j1]
    by_cases j2 : j = k
    · rw [if_pos j2]
      rw [if_pos (by omega)] at hb
      exact hc i (by omega) b hb
    · rw [if_neg j2]
      by_cases i1 : i < k
      · rw [if_pos i1] at hb
        exact h i (j - 1) (by omega) (by omega) b hb
      · rw [if_neg i1] at hb
        by_cases i2 : i = k
        · rw [if_pos i2] at hb
          intro hb'
          exact hc (j - 1) (by omega) b hb' hb
        · rw [if_neg i2] at hb
          exact h (i - 1) (j - 1) (by omega) (by omega) b hb
theorem flat_mid (cs : List C) (c : C) (k : Nat) : flatOf cl (cs.take k ++ c :: cs.drop k) = flatOf cl (cs.take k) ++ [c.1, c.2] ++ flatOf cl (cs.drop k) := by
  rw [flatOf_append, flatOf_cons]
  show _ ++ ([c.1, c.2] ++ _) = _
  rw [List.append_assoc]
theorem own_mid {lo k : Nat} {wn : World} {vn : Value} {L : List E} {cs : List C} {x : E} {c : C} (hk : k ≤ L.length) (h1 : cs.length = L.length) (h5 : ApartF L.length (fun i => (cat cs i).1)) (h6 : ApartF L.length (fun i => (cat cs i).2))
    (h7 : ∀ i, i < L.length → wn.ownsRow lo 64 2 (cat cs i).1 (at' L i).1.length (Lab.flat (at' L i).1) ∧ wn.ownsRow lo 106 2 (cat cs i).2 (at' L i).2.length (Sam.flat (at' L i).2))
    (on : wn.ownsRow lo 93 2 vn (L.length + 1) (flatOf cl (cs.take k) ++ [c.1, c.2] ++ flatOf cl (cs.drop k))) (hl : wn.ownsRow lo 64 2 c.1 x.1.length (Lab.flat x.1)) (hx : wn.ownsRow lo 106 2 c.2 x.2.length (Sam.flat x.2))
    (nl : ∀ i, i < L.length → ∀ b, (cat cs i).1.ownBlock = some b → c.1.ownBlock ≠ some b) (nx : ∀ i, i < L.length → ∀ b, (cat cs i).2.ownBlock = some b → c.2.ownBlock ≠ some b) : Own lo wn.heap.size wn vn (L.take k ++ x :: L.drop k) := by
  have hlen : (L.take k ++ x :: L.drop k).length = L.length + 1 := by simp; omega
  refine ⟨cs.take k ++ c :: cs.drop k, by rw [hlen]; simp; omega, by rw [hlen, flat_mid]; exact on, own_block_lt on, Nat.le_refl _, by rw [hlen]; exact apart_mid h1 hk (·.1) h5 nl, by rw [hlen]; exact apart_mid h1 hk (·.2) h6 nx, fun i hi => ?_⟩
  rw [hlen] at hi
  rw [cat_mid _ _ _ _ (by omega) (by omega), at_mid _ _ _ _ hk (by omega)]
  by_cases i1 : i < k
  · rw [if_pos i1, if_pos i1]
    have := h7 i (by omega)
    exact ⟨this, own_block_lt this.1, own_block_lt this.2⟩
  · rw [if_neg i1, if_neg i1]
    by_cases i2 : i = k
    · rw [if_pos i2, if_pos i2]
      exact ⟨⟨hl, hx⟩, own_block_lt hl, own_block_lt hx⟩
    · rw [if_neg i2, if_neg i2]
      have := h7 (i - 1) (by omega)
      exact ⟨this, own_block_lt this.1, own_block_lt this.2⟩
theorem cat_set (cs : List C) (c : C) (k i : Nat) (hk : k < cs.length) : cat (cs.set k c) i = if i = k then c else cat cs i := by
  unfold cat List.getD
  rw [List.getElem?_set]
  by_cases h : k = i
  · rw [if_pos h, if_pos h.symm, if_pos hk]; rfl
  · rw [if_neg h, if_neg (fun e => h e.symm)]
theorem at_set (cs : List E) (c : E) (k i : Nat) (hk : k < cs.length) : at' (cs.set k c) i = if i = k then c else at' cs i := by
  unfold at' List.getD
  rw [List.getElem?_set]
  by_cases h : k = i
  · rw [if_pos h, if_pos h.symm, if_pos hk]; rfl
  · rw [if_neg h, if_neg (fun e => h e.symm)]
theorem flat_set2 (cs : List C) (k : Nat) (hk : k < cs.length) (u : Value) : flatOf cl (cs.set k ((cat cs k).1, u)) = (flatOf cl cs).set (k * 2 + 1) u := by
  apply List.ext_getElem?
  intro j
  rw [List.getElem?_set]
  rcases Nat.lt_or_ge j (cs.length * 2) with hj | hj
  · obtain ⟨i, c, rfl, hc⟩ : ∃ i c, j = i * 2 + c ∧ c < 2 := ⟨j / 2, j % 2, by omega, by omega⟩
    have f1 := flat_at (cs.set k ((cat cs k).1, u)) i (by rw [List.length_set]; omega)
    have f2 := flat_at cs i (by omega)
    rw [cat_set _ _ _ _ hk] at f1
    have hfl : (flatOf cl cs).length = cs.length * 2 := flatOf_length clk cs
    rcases (show c = 0 ∨ c = 1 by omega) with rfl | rfl
    · rw [Nat.add_zero, if_neg (by omega), f1.1, f2.1]
      by_cases e : i = k
      · rw [if_pos e, e]
      · rw [if_neg e]
    · by_cases e : i = k
      · subst e
        rw [if_pos rfl] at f1
        rw [f1.2, if_pos rfl, if_pos (by omega)]
      · rw [if_neg e] at f1
        rw [f1.2, if_neg (by omega), f2.2]
  · rw [List.getElem?_eq_none (by rw [flatOf_length clk, List.length_set]; omega), if_neg (by omega), List.getElem?_eq_none (by rw [flatOf_length clk]; omega)]
theorem own_set {lo hi g q k : Nat} {w : World} {L : List E} {J : List Sam.E} {xv : Value} (h : Own lo hi w (.slice (some ⟨g, 0, none⟩) L.length q) L) (hk : k < L.length) (hx : w.ownsRow lo 106 2 xv J.length (Sam.flat J)) (hf : ∀ b, xv.ownBlock = some b → hi ≤ b) :
    Own lo w.heap.size (w.setCell ⟨g, k * 2 + 1, none⟩ xv) (.slice (some ⟨g, 0, none⟩) L.length q) (L.set k ((at' L k).1, J)) := by
  obtain ⟨cs, h1, h2, h3, h4, h5, h6, h7⟩ := h
  have hst := (h2.stored (k * 2 + 1) xv).1
  have ho := (OnlyAt.refl g w).setCell (k * 2 + 1) xv
  have hxl := own_block_lt hx
  have keepL : ∀ {n v} {xs : List Value}, w.ownsRow lo 64 2 v n xs → (w.setCell ⟨g, k * 2 + 1, none⟩ xv).ownsRow lo 64 2 v n xs := fun h => ho.own h (fun b hb e => own_ne_type h h2 (by decide) b hb (by rw [e]; rfl))
  have keepS : ∀ {n v} {xs : List Value}, w.ownsRow lo 106 2 v n xs → (w.setCell ⟨g, k * 2 + 1, none⟩ xv).ownsRow lo 106 2 v n xs := fun h => ho.own h (fun b hb e => own_ne_type h h2 (by decide) b hb (by rw [e]; rfl))
  refine ⟨cs.set k ((cat cs k).1, xv), by simp [h1], ?_, fun b hb => by have := h3 b hb; omega, by rw [ho.size]; exact Nat.le_refl _, ?_, ?_, fun i hi => ?_⟩
  · rw [List.length_set, flat_set2 cs k (by omega)]
    exact hst
  · rw [List.length_set]
    intro i j hij hj b hb
    simp only at hb ⊢
    rw [cat_set _ _ _ _ (by omega)] at hb ⊢
    have hb' : (cat cs i).1.ownBlock = some b := by
      by_cases e : i = k
      · subst e; rwa [if_pos rfl] at hb
      · rwa [if_neg e] at hb
    have := h5 i j hij hj b hb'
    by_cases e : j = k
    · subst e; rwa [if_pos rfl]
    · rwa [if_neg e]
  · rw [List.length_set]
    intro i j hij hj b hb
    simp only at hb ⊢
    rw [cat_set _ _ _ _ (by omega)] at hb ⊢
    by_cases e : i = k
    · rw [if_pos e] at hb
      rw [if_neg (by omega)]
      intro hb'
      have h8 := hf b hb
      have h9 := (h7 j hj).2.2 b hb'
      omega
    · rw [if_neg e] at hb
      by_cases e' : j = k
      · rw [if_pos e']
        intro hb'
        have h8 := hf b hb'
        have h9 := (h7 i (by omega)).2.2 b hb
        omega
      · rw [if_neg e']
        exact h6 i j hij hj b hb
  · rw [List.length_set] at hi
    rw [cat_set _ _ _ _ (by omega), at_set _ _ _ _ hk]
    have h8 := h7 i hi
    by_cases e : i = k
    · subst e
      rw [if_pos rfl, if_pos rfl]
      exact ⟨⟨keepL h8.1.1, keepS hx⟩, fun b hb => by have := h8.2.1 b hb; omega, hxl⟩
    · rw [if_neg e, if_neg e]
      exact ⟨⟨keepL h8.1.1, keepS h8.1.2⟩, fun b hb => by have := h8.2.1 b hb; omega, fun b hb => by have := h8.2.2 b hb; omega⟩
theorem view_of_is {w : World} {v : Value} {zs : List Sam.E} (h : Sam.Is w v zs) : ∃ a n cap, v = .slice a n cap ∧ Samp.View w a n cap zs := by
  obtain ⟨-, a, cap, rfl, h2, h3, h4, h5⟩ := h
  exact ⟨a, _, cap, rfl, rfl, h2, h3, h4, fun h0 => by obtain ⟨b, off, e, hl, hc⟩ := h5 h0; exact ⟨b, off, e, hl, Sam.reads_of hc⟩⟩
end Go.Proofs.YtlboekimnhgfdaaGreat.Row

/- A row more among rows: the model's l5Add, walked. -/
namespace Go.Proofs.YtlboekimnhgfdaaGreat.Row
open Go.RowKit Rw
set_option linter.unusedVariables false
attribute [local go_sem ↓] Go.wp_at_zero Go.wp_at_succ
theorem size_row : (sizeOf (Tryz.prog.elem 28)).run Tryz.prog = fun w => .ok 2 w := by kernel_rfl
theorem head_ok {w : World} {a : Option Addr} {N cap k : Nat} {xs : List Value} (h : Lies w (.slice a N cap) N 2 xs) (h0 : k ≤ N) :
    ∃ R, (∀ W, (Instr.slice 28 (.slice a N cap) none (some (.int .i64 (k : Int))) none).run Tryz.prog W = .ok R W) ∧ Lies w R k 2 (xs.take (k * 2)) := by
  have hc : N ≤ cap := by obtain ⟨-, a', cap', h1, h2, -⟩ := h; simp only [Value.slice.injEq, true_and] at h1; omega
  have h1 := take_lies (k := k) (cut_lies h (i := 0) (by omega)) (by omega)
  rw [Nat.zero_mul, List.drop_zero] at h1
  refine ⟨_, fun W => ?_, h1⟩
  have e := run_slice_h (P := Tryz.prog) W 28 a N cap (by kernel_rfl) .i64 (k : Int) (by omega) (by omega)
  rw [e]
  show ((sizeOf (Tryz.prog.elem 28)).run Tryz.prog W).andThen _ = _
  rw [size_row]
  simp [sliced]
theorem rest_ok {w : World} {a : Option Addr} {N cap k : Nat} {xs : List Value} (h : Lies w (.slice a N cap) N 2 xs) (h0 : k ≤ N) :
    ∃ R, (∀ W, (Instr.slice 28 (.slice a N cap) (some (.int .i64 (k : Int))) none none).run Tryz.prog W = .ok R W) ∧ Lies w R (N - k) 2 (xs.drop (k * 2)) := by
  have hc : N ≤ cap := by obtain ⟨-, a', cap', h1, h2, -⟩ := h; simp only [Value.slice.injEq, true_and] at h1; omega
  refine ⟨_, fun W => ?_, cut_lies h (i := k) (by omega)⟩
  have e := run_slice_l (P := Tryz.prog) W 28 a N cap (by kernel_rfl) .i64 (k : Int) (by omega) (by omega)
  rw [e]
  show ((sizeOf (Tryz.prog.elem 28)).run Tryz.prog W).andThen _ = _
  rw [size_row]
  simp [sliced]
theorem one_cell {lo : Nat} {w : World} {cs : List C} {L : List E} (h1 : cs.length = L.length) (h7 : ∀ i, i < L.length → (w.ownsRow lo 64 2 (cat cs i).1 (at' L i).1.length (Lab.flat (at' L i).1) ∧ w.ownsRow lo 106 2 (cat cs i).2 (at' L i).2.length (Sam.flat (at' L i).2))) (ds : List C) (hd : ∀ c ∈ ds, c ∈ cs) : ∀ u ∈ flatOf cl ds, u.oneCell' = true := by
  intro u hu
  obtain ⟨c, hc, hu⟩ := List.mem_flatMap.1 hu
  obtain ⟨i, hi, rfl⟩ := List.getElem_of_mem (hd c hc)
  have h := h7 i (by omega)
  rw [cat_get cs i hi] at h
  obtain ⟨-, a, q, e, -⟩ := lies_of_own h.1
  obtain ⟨-, a', q', e', -⟩ := lies_of_own h.2
  unfold cl at hu
  simp only [List.mem_cons, List.not_mem_nil, or_false] at hu
  rcases hu with rfl | rfl
  · rw [e]; rfl
  · rw [e']; rfl
/-- what l5Add answers -/
def Added (w : World) (o : Option (List E)) (e : Ending) (w' : World) : Prop :=
  ∃ r, e = .returned (.tuple #[r, .bool o.isSome]) ∧ (∀ R, o = some R → Own w.heap.size w'.heap.size w' r R) ∧ Below w.heap.size w w'
set_option maxRecDepth 100000 in
set_option maxHeartbeats 16000000 in
theorem l5add {w : World} {v u s : Value} {zs : List E} {ls : List Lab.E} {xs : List Sam.E} (h : Is w v zs) (hok : ok zs = true) (hl : Lab.Is w u ls) (hlo : Lab.ok ls = true) (hs : Sam.Is w s xs) (hso : SampMath.ok xs = true) :
    Calls Tryz.prog 118 #[v, u, s] w (Added w (add zs (ls, xs))) := by
  obtain ⟨i0, hi, hz0, hz1, hz2⟩ := info_parts Row.info_e
  obtain ⟨i1, hi1, hy0, hy1, hy2⟩ := info_parts Lab.info_e
  obtain ⟨i2, hi2, hx0, hx1, hx2⟩ := info_parts Sam.info_e
  have HCp := hide (l5copy h hok)
  have hn10 := ok_len hok
  have hll4 := (Lab.ok_small hlo).1
  have hxl := SampMath.ok_len hso
  have HL := hide (fun W (hb : Below w.heap.size w W) => hl.below hb)
  have HS := hide (fun W (hb : Below w.heap.size w W) => hs.below hb)
  have HOld := hide (fun (h : there zs ls = true) => add_old (x := (ls, xs)) hok h)
  have HNew := hide (fun (h : there zs ls = false) => add_new (x := (ls, xs)) hok h)
  have HPl := hide (place_le zs ls)
  have HTh := hide (fun (h : there zs ls = true) => show place zs ls < zs.length by unfold there at h; simp only [Bool.and_eq_true, decide_eq_true_eq] at h; exact h.1)
  have HSam := hide (fun k (hk : k < zs.length) => (step_is (ok_at hok hk)).2.2)
  have HSo := hide hso
  obtain ⟨-, au, qu, eu, -⟩ := hl
  obtain ⟨-, asl, qs, es, -⟩ := hs
  obtain ⟨l, hll⟩ : ∃ l, l = ls.length := ⟨_, rfl⟩
  obtain ⟨m, hm⟩ : ∃ m, m = xs.length := ⟨_, rfl⟩
  rw [← hll] at eu hll4
  rw [← hm] at es hxl
  have HLL := hide hll
  have HM := hide hm
  clear h hok hlo hso hll hm
  subst eu es
  go_enter Tryz.func118, Tryz.ntmps118
  go_wp2_with fail
  refine (unhide HCp).mono ?_
  rintro e W1 ⟨r, rfl, ho, b1⟩
  have z1 := b1.size
  have HO := hide ho
  have HAt := hide (fun W (hb : Below W1.heap.size W1 W) => l5at (ho.is.below hb) (unhide HL W (b1.trans (hb.mono z1))) (by omega))
  obtain ⟨cs, g1, g2, g3, g4, g5, g6, g7⟩ := ho
  obtain ⟨n, hn⟩ : ∃ n, n = zs.length := ⟨_, rfl⟩
  rw [← hn] at g2 hn10
  have HN := hide hn
  have hL := lies_of_own g2
  obtain ⟨ra, rq, rfl⟩ : ∃ a q, r = .slice a n q := by obtain ⟨-, a, q, e, -⟩ := hL; exact ⟨a, q, e⟩
  have HA := hide (And.intro g1 (And.intro g5 (And.intro g6 g7)))
  have hone := one_cell g1 (fun i hi => (g7 i hi).1)
  have hone1 := fun k => hone (cs.take k) (fun c hc => List.mem_of_mem_take hc)
  have hone2 := fun k => hone (cs.drop k) (fun c hc => List.mem_of_mem_drop hc)
  have HO1 := hide hone1
  have HO2 := hide hone2
  clear hone hone1 hone2
  have HG2 := hide g2
  have HLi := hide hL
  have hrq : n ≤ rq ∧ rq ≤ 9223372036854775807 := by obtain ⟨-, a', c', e, h2, h3, -⟩ := hL; simp only [Value.slice.injEq, true_and] at e; unfold maxLen at h3; omega
  clear HCp g1 g3 g4 g5 g6 g7 hn g2 hL
  obtain ⟨k, hk⟩ : ∃ k, k = place zs ls := ⟨_, rfl⟩
  have HPk := hide hk
  have hkn : k ≤ n := by rw [hk, unhide HN]; exact unhide HPl
  rw [← hk] at HAt
  have hk0 : (0 : Int) ≤ (k : Int) := Int.natCast_nonneg _
  have hk1 : (k : Int) ≤ (n : Int) := by omega
  clear hk HPl
  go_wp2_with fail
  refine (unhide HAt W1 (Below.refl _ _)).mono ?_
  rintro e W2 ⟨rfl, b2⟩
  have z2 := b2.size
  have b12 := b1.trans (b2.mono z1)
  clear HAt
  cases hth : there zs ls
  · have HAdd := hide (unhide HNew hth)
    rw [← unhide HPk] at HAdd
    clear HOld HNew HTh hth
    have leL := (unhide HL) (W2.alloc (.cells #[] 64)) (b12.alloc (by omega) _)
    have oeL : (W2.alloc (.cells #[] 64)).ownsRow W2.heap.size 64 2 (.slice (some ⟨W2.heap.size, 0, none⟩) 0 0) 0 [] := own_empty (Nat.le_refl _)
    have leL' : Lies (W2.alloc (.cells #[] 64)) (.slice au l qu) l 2 (Lab.flat ls) := by rw [unhide HLL] at leL ⊢; exact leL
    have beL : Below W2.heap.size W2 (W2.alloc (.cells #[] 64)) := (Below.refl _ _).alloc (Nat.le_refl _) _
    have HS1 := hide (fun W (hb : Below W2.heap.size W2 W) => show Lies W (.slice asl m qs) m 2 (Sam.flat xs) from by have := unhide HS W (b12.trans (hb.mono (by omega))); rw [unhide HM] at this ⊢; exact this)
    clear leL
    go_wp2_with (first | (at_builtin; refine app_wp _ rfl (.tmp 24) (.tmp 25) _ rfl W2.heap.size 64 i1 _ 2 32 Tryz.underlying60 hi1 hy0 hy1 hy2 rfl (by omega) _ 0 [] rfl oeL _ l (Lab.flat ls) rfl leL' (Lab.flat_oneCell _) (by unfold maxLen; omega) (by omega) (by simp) ?_; intro vl W3 ol gl al; rw [Nat.zero_add, List.nil_append] at ol; have b3 : Below W2.heap.size W2 W3 := below_grown beL (by simp) gl (fun k hk => by cases hk; exact Nat.le_refl _); obtain ⟨la, lq, rfl⟩ : ∃ a q, vl = .slice a l q := (by obtain ⟨-, a, q, e, -⟩ := lies_of_own ol; exact ⟨a, q, e⟩); have z3 := b3.size; have oeS : (W3.alloc (.cells #[] 106)).ownsRow W3.heap.size 106 2 (.slice (some ⟨W3.heap.size, 0, none⟩) 0 0) 0 [] := own_empty (Nat.le_refl _); have beS : Below W3.heap.size W3 (W3.alloc (.cells #[] 106)) := (Below.refl _ _).alloc (Nat.le_refl _) _; have leS := unhide HS1 (W3.alloc (.cells #[] 106)) (b3.alloc z3 _)) | (at_builtin; refine app_wp _ rfl (.tmp 27) (.tmp 28) _ rfl W3.heap.size 106 i2 _ 2 16 Tryz.underlying91 hi2 hx0 hx1 hx2 rfl (by omega) _ 0 [] rfl oeS _ m (Sam.flat xs) rfl leS (Sam.flat_oneCell _) (by unfold maxLen; omega) (by omega) (by simp) ?_; intro vs W4 os gs as'; rw [Nat.zero_add, List.nil_append] at os; have b4 : Below W3.heap.size W3 W4 := below_grown beS (by simp) gs (fun k hk => by cases hk; exact Nat.le_refl _); obtain ⟨sa, sq, rfl⟩ : ∃ a q, vs = .slice a m q := (by obtain ⟨-, a, q, e, -⟩ := lies_of_own os; exact ⟨a, q, e⟩)))
    have z4 := b4.size
    have ol4 := own_below ol b4
    have b24 := b3.trans (b4.mono z3)
    clear gl al gs as' oeL oeS beL beS leL' leS HS1 HL HS b3 b4 ol
    obtain ⟨W, hW⟩ : ∃ W, W = W4.alloc (.cells #[.slice la l lq, .slice sa m sq] 93) := ⟨_, rfl⟩
    have bW : Below W4.heap.size W4 W := by rw [hW]; exact (Below.refl _ _).alloc (Nat.le_refl _) _
    have zW : W.heap.size = W4.heap.size + 1 := by rw [hW]; simp
    have y0 : W.cell? ⟨W4.heap.size, 0, none⟩ = some (.slice la l lq) := by rw [hW]; simp [go_sem]
    have y1 : W.cell? ⟨W4.heap.size, 1, none⟩ = some (.slice sa m sq) := by rw [hW]; simp [go_sem]
    have olW := own_below ol4 bW
    have osW := own_below os bW
    have b2W : Below W2.heap.size W2 W := b24.trans (bW.mono b24.size)
    have b1W : Below W1.heap.size W1 W := b2.trans (b2W.mono z2)
    have bwW : Below w.heap.size w W := b12.trans (b2W.mono (by omega))
    have G2 := own_below (unhide HG2) b1W
    obtain ⟨R1, e1, lr1⟩ := head_ok ((unhide HLi).below b1W) hkn
    obtain ⟨R2, e2, lr2⟩ := rest_ok ((unhide HLi).below b1W) hkn
    rw [← flatOf_take clk] at lr1
    rw [← flatOf_drop clk] at lr2
    generalize hB : W4.heap.size = B at *
    have hBW : B < W.heap.size := by omega
    have hBa : B < W.heap.size + 1 := by omega
    have hBb : B < W.heap.size + 1 + 1 := by omega
    have hBn : ¬ B = W.heap.size := by omega
    have hBn2 : ¬ B = W.heap.size + 1 := by omega
    clear zW
    have be1 : Below W.heap.size W (W.alloc (.cells #[] 93)).drew := ((Below.refl _ _).alloc (Nat.le_refl _) _).drew
    have be2 : Below W.heap.size W ((W.alloc (.cells #[] 93)).alloc (.cells #[.slice la l lq, .slice sa m sq] 93)).drew := (((Below.refl _ _).alloc (Nat.le_refl _) _).alloc (by simp) _).drew
    have be3 : Below W.heap.size W ((W.alloc (.cells #[.slice la l lq, .slice sa m sq] 93)).alloc (.cells #[] 93)).drew := (((Below.refl _ _).alloc (Nat.le_refl _) _).alloc (by simp) _).drew
    have oe1 : World.ownsRow (W.alloc (.cells #[] 93)).drew W.heap.size 93 2 (.slice (some ⟨W.heap.size, 0, none⟩) 0 0) 0 [] := World.ownsRow.drew (own_empty (Nat.le_refl _))
    have oe2 : World.ownsRow ((W.alloc (.cells #[] 93)).alloc (.cells #[.slice la l lq, .slice sa m sq] 93)).drew W.heap.size 93 2 (.slice (some ⟨W.heap.size, 0, none⟩) 0 0) 0 [] := World.ownsRow.drew (World.ownsRow.alloc (own_empty (Nat.le_refl _)) _)
    have oe3 : World.ownsRow ((W.alloc (.cells #[.slice la l lq, .slice sa m sq] 93)).alloc (.cells #[] 93)).drew W.heap.size 93 2 (.slice (some ⟨W.heap.size + 1, 0, none⟩) 0 0) 0 [] := World.ownsRow.drew (Str.own_empty' (w := W.alloc (.cells #[.slice la l lq, .slice sa m sq] 93)) (by simp) (by simp))
    have hmx1 : 1 ≤ maxLen := by unfold maxLen; omega
    have ln2 : Lies ((W.alloc (.cells #[] 93)).alloc (.cells #[.slice la l lq, .slice sa m sq] 93)).drew (.slice (some ⟨W.heap.size + 1, 0, none⟩) 1 1) 1 2 [.slice la l lq, .slice sa m sq] := (lies_new (w := W.alloc (.cells #[] 93)) (by simp) rfl hmx1).drew
    have ln3 : Lies ((W.alloc (.cells #[.slice la l lq, .slice sa m sq] 93)).alloc (.cells #[] 93)).drew (.slice (some ⟨W.heap.size, 0, none⟩) 1 1) 1 2 [.slice la l lq, .slice sa m sq] := ((lies_new (w := W) rfl rfl hmx1).alloc _).drew
    have ls1 := lr1.below be1
    have ls2 := lr1.below be2
    have ls3 := lr1.below be3
    have hq0 : (0 : Int) ≤ (rq : Int) := Int.natCast_nonneg _
    have HR2 := hide lr2
    clear lr1 lr2 HLi
    go_wp2_with fail
    rw [← hW]
    clear hW
    go_region_law ((first | (refine app_step _ (by rfl) (.tmp 31) (.tmp 34) _ (by rfl) W.heap.size 93 i0 _ 2 48 Tryz.underlying28 hi hz0 hz1 hz2 rfl (by omega) _ 0 [] (by rfl) (by first | exact oe1 | exact oe2 | exact oe3) _ k _ (by rfl) (by first | exact ls1 | exact ls2 | exact ls3) (unhide HO1 k) (by unfold maxLen; omega) (by omega) (by simp <;> omega) ?_; intro va w7 oa ga aa; rw [Nat.zero_add, List.nil_append] at oa; have b7 : Below W.heap.size W w7 := (by first | exact below_grown be1 (by simp) ga (own_ge oe1) | exact below_grown be2 (by simp <;> omega) ga (own_ge oe2) | exact below_grown be3 (by simp <;> omega) ga (own_ge oe3)); obtain ⟨aa7, aq7, rfl⟩ : ∃ a q, va = .slice a k q := (by obtain ⟨-, a, q, e, -⟩ := lies_of_own oa; exact ⟨a, q, e⟩); have z7 := b7.size; have c70 : w7.cell? ⟨B, 0, none⟩ = some (.slice la l lq) := (b7.cell (p := ⟨B, _, none⟩) hBW).trans y0; have c71 : w7.cell? ⟨B, 1, none⟩ = some (.slice sa m sq) := (b7.cell (p := ⟨B, _, none⟩) hBW).trans y1; have hB7 : B < w7.heap.size := (by omega); have hB7n : ¬ B = w7.heap.size := (by omega); have bs1 : Below w7.heap.size w7 (w7.alloc (.cells #[.slice la l lq, .slice sa m sq] 93)) := (Below.refl _ _).alloc (Nat.le_refl _) _; have ln1 : Lies (w7.alloc (.cells #[.slice la l lq, .slice sa m sq] 93)) (.slice (some ⟨w7.heap.size, 0, none⟩) 1 1) 1 2 [.slice la l lq, .slice sa m sq] := lies_new (w := w7) rfl rfl hmx1) | (refine app_step _ (by rfl) (.tmp 35) (.tmp 37) _ (by rfl) W.heap.size 93 i0 _ 2 48 Tryz.underlying28 hi hz0 hz1 hz2 rfl (by omega) _ k _ (by rfl) (by first | exact oa | exact own_below oa bs1) _ 1 [.slice la l lq, .slice sa m sq] (by rfl) (by first | exact ln1 | exact ln2.grown ga (fun j hj hj' => by have e1 : some (W.heap.size + 1) = some j := hj; have e2 : some W.heap.size = some j := hj'; have e3 := Option.some.inj e1; have e4 := Option.some.inj e2; omega) | exact ln3.grown ga (fun j hj hj' => by have e1 : some W.heap.size = some j := hj; have e2 : some (W.heap.size + 1) = some j := hj'; have e3 := Option.some.inj e1; have e4 := Option.some.inj e2; omega)) (by simp [Value.oneCell']) (by unfold maxLen; omega) (by omega) (by first | omega | (simp; done) | (simp; omega)) ?_; intro vb w8 ob gb ab; have b8 : Below W.heap.size W w8 := (by first | exact below_grown (b7.trans (bs1.mono z7)) (by simp <;> omega) gb (own_ge oa) | exact below_grown b7 z7 gb (own_ge oa)); obtain ⟨ab8, bq8, rfl⟩ : ∃ a q, vb = .slice a (k + 1) q := (by obtain ⟨-, a, q, e, -⟩ := lies_of_own ob; exact ⟨a, q, e⟩); have z8 := b8.size; have lr8 := (unhide HR2).below b8) | (refine app_step _ (by rfl) (.tmp 38) (.tmp 41) _ (by rfl) W.heap.size 93 i0 _ 2 48 Tryz.underlying28 hi hz0 hz1 hz2 rfl (by omega) _ (k + 1) _ (by rfl) ob _ (n - k) _ (by rfl) lr8 (unhide HO2 k) (by unfold maxLen; omega) (by omega) (by first | omega | (simp; done) | (simp; omega)) ?_; intro vn wn on gn an)))
    all_goals
      have b9 : Below W.heap.size W wn := below_grown b8 z8 gn (own_ge ob)
      have z9 := b9.size
      have R9 : Below w.heap.size w wn := bwW.trans (b9.mono bwW.size)
      rw [show k + 1 + (n - k) = n + 1 by omega] at on
      obtain ⟨an', cn, rfl⟩ : ∃ a c, vn = .slice a (n + 1) c := by obtain ⟨-, a, c, e, -⟩ := lies_of_own on; exact ⟨a, c, e⟩
      have HOw := hide (show Own w.heap.size wn.heap.size wn (.slice an' (n + 1) cn) (zs.take k ++ (ls, xs) :: zs.drop k) by
        obtain ⟨g1, g5, g6, g7⟩ := unhide HA
        have hb9 := b1W.trans (b9.mono (by omega))
        exact own_mid (c := (.slice la l lq, .slice sa m sq)) (by rw [← unhide HN]; exact hkn) g1 g5 g6 (fun i hi => ⟨own_below (g7 i hi).1.1 hb9, own_below (g7 i hi).1.2 hb9⟩) (by rw [← unhide HN]; exact own_mono on (by omega)) (by simp only; rw [← unhide HLL]; exact own_mono (own_below olW b9) (by omega)) (by simp only; rw [← unhide HM]; exact own_mono (own_below osW b9) (by omega)) (fun i hi b hb hb' => by have h1 := own_block_lt (g7 i hi).1.1 b hb; have h2 := own_ge olW b hb'; omega) (fun i hi b hb hb' => by have h1 := own_block_lt (g7 i hi).1.2 b hb; have h2 := own_ge osW b hb'; omega))
      rw [← unhide HN, ← unhide HM] at HAdd
      clear oe1 oe2 oe3 ln2 ln3 ls1 ls2 ls3 be1 be2 be3 on gn an oa ob ga gb aa ab b7 b8 e1 e2 lr8 y0 y1 c70 c71 olW osW HR2 ln1 bs1
      by_cases h1 : n + 1 ≤ 10
      · have d1 : decide ((n : Int) + 1 ≤ 10) = true := by simp; omega
        by_cases h2 : m ≤ 1000
        · have HF := hide (show add zs (ls, xs) = some (zs.take k ++ (ls, xs) :: zs.drop k) by rw [unhide HAdd, decide_eq_true h1, decide_eq_true h2]; rfl)
          have d2 : decide ((m : Int) ≤ 1000) = true := by simp; omega
          clear HAdd
          go_wp2_with fail
          go_ret2
          refine ⟨.slice an' (n + 1) cn, by rw [unhide HF]; rfl, ?_, R9⟩
          intro R hR
          rw [unhide HF] at hR
          cases hR
          exact unhide HOw
        · have HF := hide (show add zs (ls, xs) = none by rw [unhide HAdd, decide_eq_true h1, decide_eq_false h2]; rfl)
          have d2 : decide ((m : Int) ≤ 1000) = false := by simp; omega
          clear HAdd
          go_wp2_with fail
          go_ret2
          refine ⟨.slice an' (n + 1) cn, by rw [unhide HF]; rfl, ?_, R9⟩
          intro R hR
          rw [unhide HF] at hR
          cases hR
      · have d1 : decide ((n : Int) + 1 ≤ 10) = false := by simp; omega
        have HF := hide (show add zs (ls, xs) = none by rw [unhide HAdd, decide_eq_false h1]; rfl)
        clear HAdd
        go_wp2_with fail
        go_ret2
        refine ⟨.slice an' (n + 1) cn, by rw [unhide HF]; rfl, ?_, R9⟩
        intro R hR
        rw [unhide HF] at hR
        cases hR
  · have hkz : k < zs.length := by rw [unhide HPk]; exact unhide HTh hth
    have hlt : k < n := by rw [unhide HN]; exact hkz
    have hz := unhide HSam k hkz
    have HF0 := hide (unhide HOld hth)
    rw [← unhide HPk] at HF0
    clear HOld HNew HTh hth HSam HO1 HO2 HLi
    obtain ⟨g, rfl⟩ : ∃ g, ra = some ⟨g, 0, none⟩ := by
      rcases (unhide HG2).2 with ⟨-, h0⟩ | ⟨g, cap, cur, e, -⟩
      · omega
      · simp only [Value.slice.injEq] at e
        exact ⟨g, e.1⟩
    have G2 := own_below (unhide HG2) b2
    have hgw := own_ge (unhide HG2) g rfl
    obtain ⟨g1, g5, g6, g7⟩ := unhide HA
    have hk7 := g7 k hkz
    have hgl := own_lt G2
    have c1 : W2.cell? ⟨g, k * 2 + 1, none⟩ = some (cat cs k).2 := (G2.cellAt (k * 2 + 1) (by omega)).trans (flat_at cs k (by omega)).2
    have f1 : W2.frozen? ⟨g, k * 2 + 1, none⟩ = false := G2.frozenAt _
    obtain ⟨a1, n1, q1, e1, hv1⟩ := view_of_is (Sam.is_of_own (own_below hk7.1.2 b2))
    obtain ⟨a2, n2, q2, e2, hv2⟩ := view_of_is (unhide HS W2 b12)
    cases e2
    rw [e1] at c1
    have hn1 : n1 ≤ 4194304 := by have := hv1.1; have := hz.1; omega
    have HJn := hide (Samp.l2join a1 asl n1 m q1 qs _ _ W2 hv1 hv2 hn1 (by omega))
    have hjo := Samp.join_of_ok hz.2 (unhide HSo)
    rw [hjo.1, hjo.2] at HF0
    obtain ⟨J, hJ⟩ : ∃ J, J = (SampMath.merge (at' zs k).2 xs).getD [] := ⟨_, rfl⟩
    obtain ⟨fl, hfl⟩ : ∃ fl, fl = (SampMath.merge (at' zs k).2 xs).isSome := ⟨_, rfl⟩
    rw [← hJ, ← hfl] at HF0 HJn
    obtain ⟨j, hj⟩ : ∃ j, j = J.length := ⟨_, rfl⟩
    rw [← hj] at HF0 HJn
    have HJL := hide hj
    clear hJ hfl hjo e1 hk7 g1 g5 g6 g7 hj HA HG2 G2 hv1 hv2 hz
    go_wp2_with fail
    refine (unhide HJn).mono ?_
    rintro e W3 ⟨xv, rfl, ox, b3⟩
    obtain ⟨xa, xq, rfl⟩ : ∃ a q, xv = .slice a j q := by obtain ⟨-, a, q, e, -⟩ := lies_of_own ox; exact ⟨a, q, e⟩
    have z3 := b3.size
    have c3 := (b3.cell (p := ⟨g, k * 2 + 1, none⟩) hgl).trans c1
    have f3 := (b3.frozen (p := ⟨g, k * 2 + 1, none⟩) hgl).trans f1
    have HOw := hide (own_set (hi := W1.heap.size) (w := W3) (L := zs) (J := J) (g := g) (q := rq) (k := k) (lo := w.heap.size) (xv := .slice xa j xq) (by rw [← unhide HN]; exact (unhide HO).below (b2.trans (b3.mono z2))) hkz (by rw [← unhide HJL, ← RSet.flat_eq]; exact own_mono ox (by omega)) (fun b hb => by have := own_ge ox b hb; omega))
    obtain ⟨W4, hW4⟩ : ∃ W4, W3.setCell ⟨g, k * 2 + 1, none⟩ (.slice xa j xq) = W4 := ⟨_, rfl⟩
    have o4 : OnlyAt g W3 W4 := by rw [← hW4]; exact (OnlyAt.refl _ _).setCell _ _
    have hs4 := o4.size
    have hb4 : Below w.heap.size w W4 := (b12.trans (b3.mono (by omega))).trans (o4.below hgw)
    rw [hW4, ← unhide HN] at HOw
    clear HJn o4 ox c1 f1
    have fin : ∀ R, R = zs.set k ((at' zs k).1, J) → Own w.heap.size W4.heap.size W4 (.slice (some ⟨g, 0, none⟩) n rq) R := fun R e => by rw [e, hs4]; exact unhide HOw
    have HFin := hide fin
    clear fin HOw hs4
    cases fl
    · have HF := hide (show add zs (ls, xs) = none by rw [unhide HF0]; rfl)
      clear HF0 HFin
      go_wp2_with fail
      go_ret2
      refine ⟨.slice (some ⟨g, 0, none⟩) n rq, by rw [unhide HF]; rfl, ?_, hb4⟩
      intro R hR
      rw [unhide HF] at hR
      cases hR
    · by_cases h2 : j ≤ 1000
      · have HF := hide (show add zs (ls, xs) = some (zs.set k ((at' zs k).1, J)) by rw [unhide HF0, decide_eq_true h2]; rfl)
        have d2 : decide ((j : Int) ≤ 1000) = true := by simp; omega
        clear HF0
        go_wp2_with fail
        go_ret2
        refine ⟨.slice (some ⟨g, 0, none⟩) n rq, by rw [unhide HF]; rfl, ?_, hb4⟩
        intro R hR
        rw [unhide HF] at hR
        cases hR
        exact unhide HFin _ rfl
      · have HF := hide (show add zs (ls, xs) = none by rw [unhide HF0, decide_eq_false h2]; rfl)
        have d2 : decide ((j : Int) ≤ 1000) = false := by simp; omega
        clear HF0 HFin
        go_wp2_with fail
        go_ret2
        refine ⟨.slice (some ⟨g, 0, none⟩) n rq, by rw [unhide HF]; rfl, ?_, hb4⟩
        intro R hR
        rw [unhide HF] at hR
        cases hR
end Go.Proofs.YtlboekimnhgfdaaGreat.Row
