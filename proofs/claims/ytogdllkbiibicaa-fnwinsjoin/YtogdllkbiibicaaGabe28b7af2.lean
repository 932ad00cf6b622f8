/- My own texts of one claim, laid together by program: WinMath4, WinMath5. -/
import Derived.Test.YtogdllkbiibicaaG5c0b434f33
/- What the program's fold comes to is what the model's whiles are. -/
namespace Go.Proofs.Ytogdllkbiibicaa.WinM
open SampMath Samp
set_option linter.unusedVariables false
theorem wrap_le {n : Int} (h0 : 0 ≤ n) (h1 : n ≤ 9223372036854775807) : IntKind.i64.wrap n = n := by
  have hb : (2 : Int) ^ IntKind.i64.bits = 18446744073709551616 := by decide
  have hb' : (2 : Int) ^ (IntKind.i64.bits - 1) = 9223372036854775808 := by decide
  have hs : IntKind.i64.signed = true := rfl
  unfold IntKind.wrap
  simp only [hb, hb', hs, Bool.true_and, decide_eq_true_eq]
  split <;> omega
abbrev foldW : List W6 → List W6 := Win.fold alW tgW
theorem tg_upd {b : Int} {g : List S} (hv : ∀ i, i < g.length → 0 ≤ (at' g i).2 ∧ (at' g i).2 ≤ 2147483647) (hl : g.length ≤ 10000) {k : Nat} (hk : k < g.length) : tgW (winTo b g k) (winOf b (at' g k).2) = winTo b g (k + 1) := by
  have a := winTo_sum (b := b) hv k (by omega)
  have c := winTo_count b g k
  have d := hv k hk
  show (_, _, _, _, _, _) = (_, _, _, _, _, _)
  simp only [winOf, addW, Prod.mk.injEq]
  refine ⟨trivial, ?_, ?_, ?_, ?_, trivial⟩
  · rw [wrap_le (by omega) (by omega)]
  · rw [wrap_le (by omega) (by omega)]
  · rw [Int.min_def]; split <;> split <;> omega
  · rw [Int.max_def]; split <;> split <;> omega
theorem step_new {out : List W6} {b v : Int} (h : ∀ x ∈ out, x.1 < b) : Win.fstep alW tgW out (winOf b v) = out ++ [winOf b v] := by
  by_cases e : out = []
  · subst e; rfl
  · obtain ⟨M, y, rfl⟩ := Win.snoc_of out e
    have hy := h y (by simp)
    exact Win.fstep_new tgW M (decide_eq_false (by show ¬ y.1 = b; omega))
theorem group {out : List W6} {b : Int} {g : List S} (h : ∀ x ∈ out, x.1 < b) (hv : ∀ i, i < g.length → 0 ≤ (at' g i).2 ∧ (at' g i).2 ≤ 2147483647) (hl : g.length ≤ 10000) :
    ∀ k, k < g.length → ((g.take (k + 1)).map fun x => winOf b x.2).foldl (Win.fstep alW tgW) out = out ++ [winTo b g (k + 1)] := by
  intro k
  induction k with
  | zero =>
    intro h0
    rw [at_snoc g 0 h0]
    simp only [List.take_zero, List.nil_append, List.map_cons, List.map_nil, List.foldl_cons, List.foldl_nil]
    rw [step_new h, winTo_one]
  | succ k ih =>
    intro hk
    rw [at_snoc g (k + 1) hk, List.map_append, List.foldl_append, ih (by omega)]
    simp only [List.map_cons, List.map_nil, List.foldl_cons, List.foldl_nil]
    rw [Win.fstep_same tgW out (decide_eq_true (by rw [winTo_from]; rfl)), tg_upd hv hl hk]
theorem group_all {out : List W6} {b : Int} {g : List S} (h : ∀ x ∈ out, x.1 < b) (hv : ∀ i, i < g.length → 0 ≤ (at' g i).2 ∧ (at' g i).2 ≤ 2147483647) (hl : g.length ≤ 10000) :
    (g.map fun x => winOf b x.2).foldl (Win.fstep alW tgW) out = out ++ oneW b g := by
  unfold oneW
  by_cases e : g = []
  · subst e; simp
  · have h0 : 0 < g.length := List.length_pos_iff.2 e
    have := group h hv hl (g.length - 1) (by omega)
    rw [show g.length - 1 + 1 = g.length by omega, List.take_length] at this
    rw [this, if_neg e]
theorem cut_vals {zs : List S} (h : ok zs = true) (f t : Int) : (∀ i, i < (cutL zs f t).length → 0 ≤ (at' (cutL zs f t) i).2 ∧ (at' (cutL zs f t) i).2 ≤ 2147483647) ∧ (cutL zs f t).length ≤ 10000 := by
  have ho : ok (cutL zs f t) = true := ok_filter h _
  exact ⟨fun i hi => (ok_range ho hi).2.2, ok_len ho⟩
def each (f st : Int) (g : List S) : List W6 := g.map fun x => winOf (beg f st x.1) x.2
theorem fold_wins {zs : List S} (h : ok zs = true) {f t st : Int} (h0 : 0 < st) : ∀ j : Nat, (∀ i : Nat, i < j → f + i * st < t) → foldW (each f st (cutL zs f (if t < f + j * st then t else f + j * st))) = winsTo zs f t st j := by
  intro j
  induction j with
  | zero =>
    intro _
    have : cutL zs f (if t < f + (0 : Nat) * st then t else f + (0 : Nat) * st) = [] := by
      unfold cutL
      rw [List.filter_eq_nil_iff]
      intro x _
      simp only [inT, Bool.and_eq_true, decide_eq_true_eq, not_and]
      intro h1
      split <;> simp <;> omega
    rw [this]; rfl
  | succ j ih =>
    intro hj
    have hb := hj j (by omega)
    have e : f + ((j + 1 : Nat) : Int) * st = f + j * st + st := by rw [Int.natCast_add, Int.add_mul]; simp; omega
    have i1 := ih (fun i hi => hj i (by omega))
    rw [if_neg (show ¬ t < f + (j : Int) * st by omega)] at i1
    obtain ⟨b, eb⟩ : ∃ b, b = f + (j : Int) * st := ⟨_, rfl⟩
    have hfb : f ≤ b := by rw [eb]; have := Int.mul_nonneg (Int.natCast_nonneg j) (Int.le_of_lt h0); omega
    rw [e, winsTo, ← eb]
    rw [← eb] at i1 hb
    obtain ⟨m, em⟩ : ∃ m, m = (if t < b + st then t else b + st) := ⟨_, rfl⟩
    have hm : b ≤ m ∧ m ≤ b + st := by rw [em]; split <;> omega
    rw [← em, ← cut_parts h hfb hm.1]
    unfold each foldW Win.fold at i1 ⊢
    rw [List.map_append, List.foldl_append, i1]
    have hmap : (cutL zs b m).map (fun x => winOf (beg f st x.1) x.2) = (cutL zs b m).map (fun x => winOf b x.2) := by
      refine List.map_congr_left fun x hx => ?_
      unfold cutL at hx
      have := (List.mem_filter.1 hx).2
      simp only [inT, Bool.and_eq_true, decide_eq_true_eq] at this
      rw [beg_in (j := j) h0 eb this.1 (by omega)]
    rw [hmap]
    have hlast := winsTo_from zs (f := f) (t := t) h0 j
    rw [← eb] at hlast
    exact group_all hlast (cut_vals h b m).1 (cut_vals h b m).2
def wins (zs : List S) (f t st : Int) : List W6 := if ok zs = true ∧ timesB f t = true ∧ thinB st = true then foldW (each f st (cutL zs f t)) else []
theorem wins_all {zs : List S} {f t st : Int} (h : ok zs = true) (ht : timesB f t = true) (hs : thinB st = true) {j : Nat} (hj : ∀ i : Nat, i < j → f + i * st < t) (he : t ≤ f + j * st) : wins zs f t st = winsTo zs f t st j := by
  have h0 : 0 < st := by unfold thinB at hs; simp at hs; omega
  unfold wins
  have em : (if t < f + (j : Int) * st then t else f + (j : Int) * st) = t := by
    split
    · rfl
    · omega
  rw [if_pos ⟨h, ht, hs⟩, ← fold_wins h h0 j hj, em]
theorem wins_len (zs : List S) (f t st : Int) : (wins zs f t st).length ≤ 10000 := by
  unfold wins
  split
  · rename_i h
    have a := Win.fold_len alW tgW (each f st (cutL zs f t)) (each f st (cutL zs f t)).length (Nat.le_refl _)
    rw [List.take_length] at a
    have b := (cut_vals h.1 f t).2
    unfold each at a ⊢
    rw [List.length_map] at a
    exact Nat.le_trans a b
  · simp
end Go.Proofs.Ytogdllkbiibicaa.WinM

/- Whiles of samples: how many, all together, between which; by time. No condition. -/
namespace Go.Proofs.Ytogdllkbiibicaa.WinM
open SampMath Samp
set_option linter.unusedVariables false
def valsW (g : List S) : Prop := ∀ i, i < g.length → 0 ≤ (at' g i).2 ∧ (at' g i).2 ≤ 2147483647
/-- what a while's numbers are to each other -/
def inW (x : W6) : Prop := (0 ≤ x.2.2.2.1 ∧ x.2.2.2.1 ≤ x.2.2.2.2.2 ∧ x.2.2.2.2.2 ≤ x.2.2.2.2.1 ∧ x.2.2.2.2.1 ≤ 2147483647) ∧ x.2.2.2.1 * x.2.1 ≤ x.2.2.1 ∧ x.2.2.1 ≤ x.2.2.2.2.1 * x.2.1
def okW (x : W6) : Prop := (0 ≤ x.1 ∧ x.1 ≤ 9999) ∧ (1 ≤ x.2.1 ∧ x.2.1 ≤ 10000) ∧ inW x
theorem upd_in {a : W6} {v : Int} (h : inW a) (hc : 0 ≤ a.2.1) (v0 : 0 ≤ v) (v1 : v ≤ 2147483647) : inW (upd a v) := by
  obtain ⟨b, c, s, l, u, z⟩ := a
  obtain ⟨⟨h1, h2, h3, h4⟩, h5, h6⟩ := h
  simp only at h1 h2 h3 h4 h5 h6 hc
  unfold inW upd
  simp only
  obtain ⟨l', hl⟩ : ∃ l', l' = (if v < l then v else l) := ⟨_, rfl⟩
  obtain ⟨u', hu⟩ : ∃ u', u' = (if u < v then v else u) := ⟨_, rfl⟩
  rw [← hl, ← hu]
  have a1 : l' ≤ l ∧ l' ≤ v ∧ 0 ≤ l' := by rw [hl]; split <;> omega
  have a2 : u ≤ u' ∧ v ≤ u' ∧ u' ≤ 2147483647 := by rw [hu]; split <;> omega
  have b1 := Int.mul_le_mul_of_nonneg_right a1.1 hc
  have b2 := Int.mul_le_mul_of_nonneg_right a2.1 hc
  rw [Int.mul_add, Int.mul_one, Int.mul_add, Int.mul_one]
  refine ⟨⟨a1.2.2, a1.2.1, a2.2.1, a2.2.2⟩, ?_, ?_⟩ <;> omega
theorem winTo_in {b : Int} {g : List S} (hv : valsW g) : ∀ k, k < g.length → inW (winTo b g (k + 1)) := by
  intro k
  induction k with
  | zero =>
    intro h0
    have := hv 0 h0
    rw [winTo_one]
    unfold inW winOf
    simp only [Int.mul_one]
    omega
  | succ k ih =>
    intro hk
    have c := hv (k + 1) hk
    exact upd_in (ih (by omega)) (by rw [winTo_count]; omega) c.1 c.2
def sumV (g : List S) : Int := (g.map fun x => x.2).sum
theorem sumV_app (g h : List S) : sumV (g ++ h) = sumV g + sumV h := by simp [sumV]
theorem sumV_take (g : List S) (k : Nat) (hk : k < g.length) : sumV (g.take (k + 1)) = sumV (g.take k) + (at' g k).2 := by
  rw [at_snoc g k hk, sumV_app]; simp [sumV]
theorem winTo_sumV (b : Int) (g : List S) : ∀ k, k ≤ g.length → (winTo b g k).2.2.1 = sumV (g.take k) := by
  intro k
  induction k with
  | zero => intro _; rfl
  | succ k ih =>
    intro hk
    rw [sumV_take g k (by omega), ← ih (by omega)]
    rfl
def sumC (L : List W6) : Int := (L.map fun x => x.2.1).sum
def sumS (L : List W6) : Int := (L.map fun x => x.2.2.1).sum
theorem sumC_app (g h : List W6) : sumC (g ++ h) = sumC g + sumC h := by simp [sumC]
theorem sumS_app (g h : List W6) : sumS (g ++ h) = sumS g + sumS h := by simp [sumS]
theorem oneW_sums (b : Int) (g : List S) : sumC (oneW b g) = g.length ∧ sumS (oneW b g) = sumV g := by
  unfold oneW
  split
  · rename_i h; subst h; exact ⟨rfl, rfl⟩
  · simp only [sumC, sumS, List.map_cons, List.map_nil, List.sum_cons, List.sum_nil, Int.add_zero]
    rw [winTo_count, winTo_sumV b g _ (Nat.le_refl _), List.take_length]
    exact ⟨rfl, rfl⟩
theorem winsTo_all {zs : List S} (h : ok zs = true) {f t st : Int} (h0 : 0 < st) (hf : 0 ≤ f) (ht : t ≤ 10000) : ∀ j : Nat, (∀ i : Nat, i < j → f + i * st < t) →
    sumC (winsTo zs f t st j) = (cutL zs f (if t < f + j * st then t else f + j * st)).length ∧ sumS (winsTo zs f t st j) = sumV (cutL zs f (if t < f + j * st then t else f + j * st)) ∧ (∀ x ∈ winsTo zs f t st j, okW x) ∧ (winsTo zs f t st j).Pairwise (fun a b => a.1 < b.1) := by
  intro j
  induction j with
  | zero =>
    intro _
    have : cutL zs f (if t < f + (0 : Nat) * st then t else f + (0 : Nat) * st) = [] := by
      unfold cutL
      rw [List.filter_eq_nil_iff]
      intro x _
      simp only [inT, Bool.and_eq_true, decide_eq_true_eq, not_and]
      intro h1
      split <;> simp <;> omega
    rw [this]
    exact ⟨rfl, rfl, fun x hx => (by cases hx), List.Pairwise.nil⟩
  | succ j ih =>
    intro hj
    have hb := hj j (by omega)
    have e : f + ((j + 1 : Nat) : Int) * st = f + j * st + st := by rw [Int.natCast_add, Int.add_mul]; simp; omega
    obtain ⟨i1, i2, i3, i4⟩ := ih (fun i hi => hj i (by omega))
    rw [if_neg (show ¬ t < f + (j : Int) * st by omega)] at i1 i2
    have hlast := winsTo_from zs (f := f) (t := t) h0 j
    obtain ⟨b, eb⟩ : ∃ b, b = f + (j : Int) * st := ⟨_, rfl⟩
    have hfb : f ≤ b := by rw [eb]; have := Int.mul_nonneg (Int.natCast_nonneg j) (Int.le_of_lt h0); omega
    rw [e, winsTo, ← eb]
    rw [← eb] at i1 i2 hb hlast
    obtain ⟨m, em⟩ : ∃ m, m = (if t < b + st then t else b + st) := ⟨_, rfl⟩
    have hm : b ≤ m ∧ m ≤ b + st := by rw [em]; split <;> omega
    rw [← em, ← cut_parts h hfb hm.1]
    obtain ⟨o1, o2⟩ := oneW_sums b (cutL zs b m)
    have hc := cut_vals h b m
    refine ⟨?_, ?_, ?_, ?_⟩
    · rw [sumC_app, i1, o1, List.length_append]; simp
    · rw [sumS_app, i2, o2, sumV_app]
    · intro x hx
      rcases List.mem_append.1 hx with hx | hx
      · exact i3 x hx
      · unfold oneW at hx
        split at hx
        · cases hx
        · rename_i hne
          have hl := List.length_pos_iff.2 hne
          rw [List.mem_singleton] at hx
          subst hx
          refine ⟨by rw [winTo_from]; omega, by rw [winTo_count]; omega, ?_⟩
          have := winTo_in (b := b) hc.1 ((cutL zs b m).length - 1) (by omega)
          rwa [show (cutL zs b m).length - 1 + 1 = (cutL zs b m).length by omega] at this
    · rw [List.pairwise_append]
      refine ⟨i4, ?_, fun x hx y hy => ?_⟩
      · unfold oneW; split <;> simp
      · rw [oneW_mem hy]; exact hlast x hx
/-- how many whiles there are of some length -/
theorem steps_exist {f t st : Int} (h0 : 0 < st) (h : f ≤ t) : ∃ j : Nat, (∀ i : Nat, i < j → f + i * st < t) ∧ t ≤ f + j * st := by
  obtain ⟨d, hd⟩ : ∃ d : Nat, t - f ≤ d := ⟨(t - f).toNat, by omega⟩
  induction d generalizing t with
  | zero => exact ⟨0, fun i hi => absurd hi (Nat.not_lt_zero _), by omega⟩
  | succ d ih =>
    by_cases hft : f = t
    · exact ⟨0, fun i hi => absurd hi (Nat.not_lt_zero _), by omega⟩
    · obtain ⟨j, h1, h2⟩ := ih (t := t - 1) (by omega) (by omega)
      by_cases h3 : t ≤ f + j * st
      · exact ⟨j, fun i hi => by have := h1 i hi; omega, h3⟩
      · refine ⟨j + 1, fun i hi => ?_, ?_⟩
        · rcases Nat.lt_or_eq_of_le (Nat.le_of_lt_succ hi) with h | h
          · have := h1 i h; omega
          · subst h; omega
        · have e : f + ((j + 1 : Nat) : Int) * st = f + j * st + st := by rw [Int.natCast_add, Int.add_mul]; simp; omega
          omega
theorem wins_says {zs : List S} {f t st : Int} (h : ok zs = true) (ht : timesB f t = true) (hs : thinB st = true) :
    sumC (wins zs f t st) = (cutL zs f t).length ∧ sumS (wins zs f t st) = sumV (cutL zs f t) ∧ (∀ x ∈ wins zs f t st, okW x) ∧ (wins zs f t st).Pairwise (fun a b => a.1 < b.1) := by
  have h0 : 0 < st := by unfold thinB at hs; simp at hs; omega
  have hT := times_is ht
  obtain ⟨j, hj, he⟩ := steps_exist (f := f) (t := t) h0 hT.2.2.1
  rw [wins_all h ht hs hj he]
  have := winsTo_all h (f := f) (t := t) h0 hT.1 hT.2.2.2 j hj
  rw [show (if t < f + (j : Int) * st then t else f + (j : Int) * st) = t by split <;> omega] at this
  exact this
theorem wins_bad {zs : List S} {f t st : Int} (h : ¬ (ok zs = true ∧ timesB f t = true ∧ thinB st = true)) : wins zs f t st = [] := by unfold wins; rw [if_neg h]
theorem wins_okW (zs : List S) (f t st : Int) : (∀ x ∈ wins zs f t st, okW x) ∧ (wins zs f t st).Pairwise (fun a b => a.1 < b.1) := by
  by_cases h : ok zs = true ∧ timesB f t = true ∧ thinB st = true
  · exact (wins_says h.1 h.2.1 h.2.2).2.2
  · rw [wins_bad h]; exact ⟨fun x hx => (by cases hx), List.Pairwise.nil⟩
end Go.Proofs.Ytogdllkbiibicaa.WinM
