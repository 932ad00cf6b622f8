/- My own texts of one claim, laid together by program: TopMath2, InsMath4, AlAt, RaddMath. -/
import Derived.Test.YtncjagdnebpaaaaG99766444a5
import Derived.Test.YtncjagdnebpaaaaG94f9771b75
import Derived.Test.YtncjagdnebpaaaaGe693881e78
import Derived.Test.YtncjagdnebpaaaaGba66025d16
/- The rows with the greatest last numbers: how many there are, that none left out has a greater one. No condition. -/
namespace Go.Proofs.Ytncjagdnebpaaaa.Row
open Go.RowKit Rw
set_option linter.unusedVariables false
/-- rows put to some of them are what they were -/
theorem insAll_sub : ∀ {L T : List E}, T.Sublist L → Fine L → insAll L T = some L := by
  intro L T h
  induction h with
  | slnil => intro _; rfl
  | cons x h ih =>
    intro hL
    have up := (List.pairwise_cons.1 hL.up).1
    rw [insAll_ahead _ (fun y hy => up y (h.subset hy)), ih (fine_tail hL)]; rfl
  | cons_cons x h ih =>
    intro hL
    have up := (List.pairwise_cons.1 hL.up).1
    have hj : jn x x.2 = some x := by unfold jn; rw [SampMath.join_self (hL.sam x (List.mem_cons_self ..)).1]; rfl
    rw [insAll, ins_eq _ (Lab.ordL.self x.1), hj]
    simp only [Option.map_some, Option.bind_some]
    rw [insAll_ahead _ (fun y hy => up y (h.subset hy)), ih (fine_tail hL)]; rfl
theorem join_sub {L T : List E} (h : T.Sublist L) (hL : ok L = true) : join L T = (L, true) := join_yes hL (ok_sub hL h) (insAll_sub h (fine_ok hL)) hL
/-! ### ranks -/
theorem ahead_self (zs : List E) (i : Nat) : ahead zs i i = false := by unfold ahead; simp
theorem ahead_total (zs : List E) {i j : Nat} (h : i ≠ j) : ahead zs i j = true ∨ ahead zs j i = true := by
  unfold ahead
  simp only [Bool.or_eq_true, Bool.and_eq_true, decide_eq_true_eq]
  omega
theorem ahead_trans (zs : List E) {i j k : Nat} (h1 : ahead zs i j = true) (h2 : ahead zs j k = true) : ahead zs i k = true := by
  unfold ahead at *
  simp only [Bool.or_eq_true, Bool.and_eq_true, decide_eq_true_eq] at *
  omega
theorem ahead_last {zs : List E} {i j : Nat} (h : ahead zs i j = true) : lastV (at' zs j) ≤ lastV (at' zs i) := by
  unfold ahead at h
  simp only [Bool.or_eq_true, Bool.and_eq_true, decide_eq_true_eq] at h
  omega
theorem rank_mono (zs : List E) {i j : Nat} (h : ahead zs i j = true) : ∀ k, rankTo zs i k ≤ rankTo zs j k
  | 0 => Nat.le_refl _
  | k + 1 => by
    have ih := rank_mono zs h k
    rw [rankTo, rankTo]
    cases e : ahead zs k i
    · simp only [Bool.false_eq_true, if_false]; omega
    · rw [ahead_trans zs e h]; simp only [if_true]; omega
theorem rank_lt (zs : List E) {i j : Nat} (h : ahead zs i j = true) : ∀ k, i < k → rankTo zs i k < rankTo zs j k
  | 0, hk => by omega
  | k + 1, hk => by
    rw [rankTo, rankTo]
    by_cases e : i = k
    · subst e
      have := rank_mono zs h i
      rw [ahead_self, h]
      simp only [Bool.false_eq_true, if_false, if_true]; omega
    · have ih := rank_lt zs h k (by omega)
      cases e' : ahead zs k i
      · simp only [Bool.false_eq_true, if_false]; omega
      · rw [ahead_trans zs e' h]; simp only [if_true]; omega
theorem rank_small (zs : List E) {i : Nat} : ∀ k, i < k → rankTo zs i k < k
  | 0, h => by omega
  | k + 1, h => by
    rw [rankTo]
    by_cases e : i = k
    · subst e
      have := rankTo_le zs i i
      rw [ahead_self]
      simp only [Bool.false_eq_true, if_false]; omega
    · have := rank_small zs (i := i) k (by omega)
      split <;> omega
theorem rank_inj (zs : List E) {i j n : Nat} (hi : i < n) (hj : j < n) (h : rankTo zs i n = rankTo zs j n) : i = j := by
  by_cases e : i = j
  · exact e
  · rcases ahead_total zs e with h' | h'
    · have := rank_lt zs h' n hi; omega
    · have := rank_lt zs h' n hj; omega
/-! ### counting -/
theorem filter_ne_len : ∀ {l : List Nat} (m : Nat), l.Nodup → l.length ≤ (l.filter fun x => decide (x ≠ m)).length + 1
  | [], m, _ => by simp
  | x :: l, m, h => by
    obtain ⟨h1, h2⟩ := List.nodup_cons.1 h
    by_cases e : x = m
    · have : (l.filter fun y => decide (y ≠ m)) = l := List.filter_eq_self.2 (fun y hy => by simp; intro e'; subst e'; exact h1 (by rw [e]; exact hy))
      rw [List.filter_cons_of_neg (by simp [e]), this, List.length_cons]; omega
    · have := filter_ne_len m h2
      rw [List.filter_cons_of_pos (by simp [e]), List.length_cons, List.length_cons]; omega
theorem nodup_len : ∀ (m : Nat) {l : List Nat}, l.Nodup → (∀ x ∈ l, x < m) → l.length ≤ m
  | 0, l, _, h => by
    cases l with
    | nil => simp
    | cons x l => have := h x (List.mem_cons_self ..); omega
  | m + 1, l, hn, h => by
    have h1 := filter_ne_len m hn
    have h2 := nodup_len m (hn.filter _) (l := l.filter fun x => decide (x ≠ m)) (fun x hx => by
      have hx' := List.mem_filter.1 hx
      have := h x hx'.1
      have hne : x ≠ m := by simpa using hx'.2
      omega)
    omega
/-- how many are let: as many as asked for, or all -/
theorem count_inj {n : Nat} (f : Nat → Nat) (hf : ∀ i, i < n → f i < n) (hi : ∀ i j, i < n → j < n → f i = f j → i = j) (m : Nat) (hm : m ≤ n) : ((List.range n).filter fun i => decide (f i < m)).length = m := by
  have nd : ∀ p : Nat → Bool, (((List.range n).filter p).map f).Nodup := fun p => by
    unfold List.Nodup
    rw [List.pairwise_map]
    refine (List.Pairwise.filter p List.nodup_range).imp_of_mem fun {a b} ha hb hab e => hab ?_
    exact hi a b (List.mem_range.1 (List.mem_filter.1 ha).1) (List.mem_range.1 (List.mem_filter.1 hb).1) e
  have h1 := nodup_len m (nd fun i => decide (f i < m)) (fun x hx => by
    obtain ⟨i, hi, rfl⟩ := List.mem_map.1 hx
    simpa using (List.mem_filter.1 hi).2)
  rw [List.length_map] at h1
  have h2 := nodup_len (n - m) (l := (((List.range n).filter fun i => !decide (f i < m)).map f).map (· - m)) (by
    unfold List.Nodup
    rw [List.pairwise_map]
    refine (nd fun i => !decide (f i < m)).imp_of_mem fun {a b} ha hb hab e => hab ?_
    obtain ⟨i, hi', rfl⟩ := List.mem_map.1 ha
    obtain ⟨j, hj', rfl⟩ := List.mem_map.1 hb
    have hi2 := (List.mem_filter.1 hi').2
    have hj2 := (List.mem_filter.1 hj').2
    simp at hi2 hj2
    omega) (fun x hx => by
    obtain ⟨y, hy, rfl⟩ := List.mem_map.1 hx
    obtain ⟨i, hi', rfl⟩ := List.mem_map.1 hy
    have h3 := (List.mem_filter.1 hi').2
    have h4 := hf i (List.mem_range.1 (List.mem_filter.1 hi').1)
    simp at h3
    omega)
  rw [List.length_map, List.length_map] at h2
  have h3 : ∀ (l : List Nat) (p : Nat → Bool), (l.filter p).length + (l.filter fun x => !p x).length = l.length := by
    intro l p
    induction l with
    | nil => rfl
    | cons x l ih => cases e : p x <;> simp [e] <;> omega
  have h4 := h3 (List.range n) (fun i => decide (f i < m))
  rw [List.length_range] at h4
  omega
theorem topTo_len (zs : List E) (most : Int) : ∀ k, k ≤ zs.length → (topTo zs most k).length = ((List.range k).filter fun i => decide ((rankTo zs i zs.length : Int) < most)).length
  | 0, _ => rfl
  | k + 1, hk => by
    rw [topTo, List.length_append, topTo_len zs most k (by omega), List.range_succ, List.filter_append, List.length_append]
    congr 1
    by_cases h : (rankTo zs k zs.length : Int) < most
    · rw [if_pos h, List.filter_cons_of_pos (by simpa using h)]; rfl
    · rw [if_neg h, List.filter_cons_of_neg (by simpa using h)]; rfl
/-- how many Top answers -/
theorem top_len {zs : List E} (most : Int) (h : ok zs = true) : ((top most zs).length : Int) = if most < 0 then 0 else if (zs.length : Int) < most then (zs.length : Int) else most := by
  have e : top most zs = topTo zs most zs.length := if_pos h
  rw [e, topTo_len zs most _ (Nat.le_refl _)]
  by_cases h0 : most < 0
  · rw [if_pos h0]
    have : ((List.range zs.length).filter fun i => decide ((rankTo zs i zs.length : Int) < most)) = [] := by
      rw [List.filter_eq_nil_iff]; intro i _; simp; omega
    rw [this]; rfl
  · rw [if_neg h0]
    by_cases h1 : (zs.length : Int) < most
    · rw [if_pos h1]
      have : ((List.range zs.length).filter fun i => decide ((rankTo zs i zs.length : Int) < most)) = List.range zs.length := by
        rw [List.filter_eq_self]; intro i _; have := rankTo_le zs i zs.length; simp; omega
      rw [this, List.length_range]
    · rw [if_neg h1]
      obtain ⟨m, rfl⟩ := Int.eq_ofNat_of_zero_le (show 0 ≤ most by omega)
      have := count_inj (n := zs.length) (fun i => rankTo zs i zs.length) (fun i hi => rank_small zs _ hi) (fun i j hi hj h => rank_inj zs hi hj h) m (by omega)
      have e2 : ((List.range zs.length).filter fun i => decide ((rankTo zs i zs.length : Int) < (m : Int))) = ((List.range zs.length).filter fun i => decide (rankTo zs i zs.length < m)) := by
        congr 1; funext i; simp
      rw [e2, this]
/-- made of the same again nothing is left out -/
theorem top_top {zs : List E} (most : Int) (h : ok zs = true) : top most (top most zs) = top most zs := by
  have hT := topTo_ok most h
  have e : top most zs = topTo zs most zs.length := if_pos h
  have hl := top_len most h
  rw [e] at hl ⊢
  generalize topTo zs most zs.length = T at hT hl
  have e2 : top most T = topTo T most T.length := if_pos hT
  rw [e2]
  have all : ∀ k, k ≤ T.length → topTo T most k = T.take k := by
    intro k
    induction k with
    | zero => intro _; rfl
    | succ k ih =>
      intro hk
      have hr := rank_small T (i := k) T.length (by omega)
      rw [topTo_yes (by
        split at hl
        · omega
        · split at hl <;> omega), ih (by omega), at_snoc T k (by omega)]
  rw [all _ (Nat.le_refl _), List.take_of_length_le (Nat.le_refl _)]
/-- a row of those, and one that is left out -/
theorem topTo_mem {zs : List E} {most : Int} {y : E} : ∀ {k : Nat}, k ≤ zs.length → y ∈ topTo zs most k → ∃ i, i < k ∧ y = at' zs i ∧ (rankTo zs i zs.length : Int) < most
  | 0, _, h => by cases h
  | k + 1, hk, h => by
    rw [topTo] at h
    rcases List.mem_append.1 h with h | h
    · obtain ⟨i, hi, e, hr⟩ := topTo_mem (by omega) h
      exact ⟨i, by omega, e, hr⟩
    · split at h
      · rename_i hr; exact ⟨k, by omega, by simpa using h, hr⟩
      · cases h
theorem mem_topTo {zs : List E} {most : Int} {i : Nat} : ∀ {k : Nat}, i < k → (rankTo zs i zs.length : Int) < most → at' zs i ∈ topTo zs most k
  | 0, h, _ => by omega
  | k + 1, h, hr => by
    rw [topTo]
    by_cases e : i = k
    · subst e; rw [if_pos hr]; exact List.mem_append_right _ (by simp)
    · exact List.mem_append_left _ (mem_topTo (by omega) hr)
theorem top_least {zs : List E} {most : Int} (h : ok zs = true) {y : E} (hy : y ∈ top most zs) {i : Nat} (hi : i < zs.length) (hn : at' zs i ∉ top most zs) : lastV (at' zs i) ≤ lastV y := by
  have e : top most zs = topTo zs most zs.length := if_pos h
  rw [e] at hy hn
  obtain ⟨j, hj, rfl, hr⟩ := topTo_mem (Nat.le_refl _) hy
  have hri : ¬ (rankTo zs i zs.length : Int) < most := fun hr' => hn (mem_topTo hi hr')
  have hne : j ≠ i := fun e => by subst e; exact hri hr
  rcases ahead_total zs hne with h' | h'
  · exact ahead_last h'
  · have := rank_lt zs h' zs.length hi; omega
end Go.Proofs.Ytncjagdnebpaaaa.Row

/- Rows joined either way say the same, all that either says, and no more. No condition. -/
namespace Go.Proofs.Ytncjagdnebpaaaa.Row
open Go.RowKit Rw
set_option linter.unusedVariables false
theorem jn_comm {x y : E} (h : x.1 = y.1) : jn x y.2 = jn y x.2 := by unfold jn; rw [SampMath.join_comm x.2 y.2, h]
theorem insAll_nil {b : List E} (h : Fine b) : insAll [] b = some b := by
  have := insAll_end b (L := []) (by simpa using h.up)
  simpa using this
theorem insAll_comm : ∀ (n : Nat) {a b : List E}, a.length + b.length ≤ n → Fine a → Fine b → insAll a b = insAll b a
  | n, [], b, _, _, hb => by rw [insAll_nil hb]; rfl
  | n, x :: a, [], _, ha, _ => by rw [insAll_nil ha]; rfl
  | 0, x :: a, y :: b, h, _, _ => by simp at h
  | n + 1, x :: a, y :: b, h, ha, hb => by
    have pa := List.pairwise_cons.1 ha.up
    have pb := List.pairwise_cons.1 hb.up
    simp only [List.length_cons] at h
    rcases Int.lt_trichotomy (Lab.cmpL x.1 y.1) 0 with hc | hc | hc
    · have h1 : ∀ z ∈ y :: b, Lab.cmpL x.1 z.1 < 0 := fun z hz => by
        rcases List.mem_cons.1 hz with rfl | hz
        · exact hc
        · exact cmp_lt_trans hc (pb.1 z hz)
      have h2 : insAll (y :: b) (x :: a) = (insAll (y :: b) a).map (x :: ·) := by
        rw [insAll, ins_front h1, Option.bind_some, insAll_ahead _ pa.1]
      rw [insAll_ahead _ h1, h2, insAll_comm n (by simp only [List.length_cons]; omega) (fine_tail ha) hb]
    · have e : x.1 = y.1 := Lab.ordL.zero _ _ hc
      have hc' : Lab.cmpL y.1 x.1 = 0 := by have := Lab.ordL.anti x.1 y.1; omega
      rw [insAll, ins_eq a hc, insAll, ins_eq b hc', jn_comm e]
      cases hj : jn y x.2 with
      | none => rfl
      | some z =>
        have hz : z.1 = y.1 := by rw [(jn_some hj).2]
        simp only [Option.map_some, Option.bind_some]
        rw [insAll_ahead b (fun u hu => by rw [hz]; exact pb.1 u hu), insAll_ahead a (fun u hu => by rw [hz, ← e]; exact pa.1 u hu), insAll_comm n (by omega) (fine_tail ha) (fine_tail hb)]
    · have hc2 : Lab.cmpL y.1 x.1 < 0 := by have := Lab.ordL.anti x.1 y.1; omega
      have h1 : ∀ z ∈ x :: a, Lab.cmpL y.1 z.1 < 0 := fun z hz => by
        rcases List.mem_cons.1 hz with rfl | hz
        · exact hc2
        · exact cmp_lt_trans hc2 (pa.1 z hz)
      have h2 : insAll (x :: a) (y :: b) = (insAll (x :: a) b).map (y :: ·) := by
        rw [insAll, ins_front h1, Option.bind_some, insAll_ahead _ pb.1]
      rw [insAll_ahead _ h1, h2, insAll_comm n (by simp only [List.length_cons]; omega) ha (fine_tail hb)]
theorem join_comm (a b : List E) : join a b = join b a := by
  cases ha : ok a
  · rw [join_bad1 ha, join_bad2 ha]
  cases hb : ok b
  · rw [join_bad1 hb, join_bad2 hb]
  rw [join_set ha hb, join_set hb ha, insAll_comm _ (Nat.le_refl _) (fine_ok ha) (fine_ok hb)]
theorem merge_has : ∀ (a b : List SampMath.S) {L : List SampMath.S}, SampMath.merge a b = some L → ∀ z ∈ a, z ∈ L := by
  intro a b
  induction a, b using SampMath.merge.induct with
  | case1 b => intro L _ z hz; cases hz
  | case2 x a => intro L h z hz; rw [SampMath.merge_nil_right] at h; cases h; exact hz
  | case3 x a y b hlt ih =>
    intro L h z hz
    rw [SampMath.merge, if_pos hlt] at h
    obtain ⟨R, h1, rfl⟩ := Option.map_eq_some_iff.1 h
    rcases List.mem_cons.1 hz with rfl | hz
    · exact List.mem_cons_self ..
    · exact List.mem_cons_of_mem _ (ih h1 z hz)
  | case4 x a y b h1 hlt ih =>
    intro L h z hz
    rw [SampMath.merge, if_neg h1, if_pos hlt] at h
    obtain ⟨R, h1, rfl⟩ := Option.map_eq_some_iff.1 h
    exact List.mem_cons_of_mem _ (ih h1 z hz)
  | case5 x a y b h1 h2 hv ih =>
    intro L h z hz
    rw [SampMath.merge, if_neg h1, if_neg h2, if_pos hv] at h
    obtain ⟨R, h1, rfl⟩ := Option.map_eq_some_iff.1 h
    rcases List.mem_cons.1 hz with rfl | hz
    · exact List.mem_cons_self ..
    · exact List.mem_cons_of_mem _ (ih h1 z hz)
  | case6 x a y b h1 h2 hv =>
    intro L h z hz
    rw [SampMath.merge, if_neg h1, if_neg h2, if_neg hv] at h
    cases h
theorem sjoin_has {a b : List SampMath.S} (h : (SampMath.join a b).2 = true) : ∀ z ∈ a, z ∈ (SampMath.join a b).1 := by
  intro z hz
  unfold SampMath.join at h ⊢
  by_cases hk : SampMath.ok a = true ∧ SampMath.ok b = true
  · rw [if_pos hk] at h ⊢
    cases e : SampMath.merge a b with
    | none => rw [e] at h; cases h
    | some L => exact merge_has a b e z hz
  · rw [if_neg hk] at h; cases h
/-- all of a row is in a row of the same labels -/
def Has (R : List E) (y : E) : Prop := ∃ z ∈ R, z.1 = y.1 ∧ ∀ s ∈ y.2, s ∈ z.2
theorem ins_has : ∀ {L : List E} {x : E} {R : List E}, ins L x = some R → ∀ y ∈ L, Has R y
  | [], x, R, h, y, hy => by cases hy
  | u :: L, x, R, h, y, hy => by
    rcases Int.lt_trichotomy (Lab.cmpL u.1 x.1) 0 with hc | hc | hc
    · rw [ins_lt L hc] at h
      obtain ⟨R', h1, rfl⟩ := Option.map_eq_some_iff.1 h
      rcases List.mem_cons.1 hy with rfl | hy
      · exact ⟨_, List.mem_cons_self .., rfl, fun s hs => hs⟩
      · obtain ⟨z, hz, e⟩ := ins_has h1 y hy
        exact ⟨z, List.mem_cons_of_mem _ hz, e⟩
    · rw [ins_eq L hc] at h
      obtain ⟨y', h1, rfl⟩ := Option.map_eq_some_iff.1 h
      obtain ⟨hj, rfl⟩ := jn_some h1
      rcases List.mem_cons.1 hy with rfl | hy
      · exact ⟨_, List.mem_cons_self .., rfl, sjoin_has hj⟩
      · exact ⟨y, List.mem_cons_of_mem _ hy, rfl, fun s hs => hs⟩
    · rw [ins_gt L hc] at h
      cases h
      exact ⟨y, List.mem_cons_of_mem _ hy, rfl, fun s hs => hs⟩
theorem insAll_has : ∀ (b : List E) {L R : List E}, insAll L b = some R → ∀ y ∈ L, Has R y
  | [], L, R, h, y, hy => by cases h; exact ⟨y, hy, rfl, fun s hs => hs⟩
  | x :: b, L, R, h, y, hy => by
    rw [insAll] at h
    obtain ⟨M, h1, h2⟩ := Option.bind_eq_some_iff.1 h
    obtain ⟨z, hz, e, hs⟩ := ins_has h1 y hy
    obtain ⟨z', hz', e', hs'⟩ := insAll_has b h2 z hz
    exact ⟨z', hz', e'.trans e, fun s h => hs' s (hs s h)⟩
theorem join_ins {a b : List E} (h : (join a b).2 = true) : ok a = true ∧ ok b = true ∧ insAll a b = some (join a b).1 ∧ ok (join a b).1 = true := by
  cases ha : ok a
  · rw [join_bad1 ha] at h; cases h
  cases hb : ok b
  · rw [join_bad2 hb] at h; cases h
  cases hi : insAll a b with
  | none => rw [join_no ha hb hi] at h; cases h
  | some R =>
    cases hR : ok R
    · rw [join_many ha hb hi hR] at h; cases h
    · rw [join_yes ha hb hi hR]; exact ⟨rfl, rfl, rfl, hR⟩
theorem join_has {a b : List E} (h : (join a b).2 = true) : ∀ y ∈ b, Has (join a b).1 y := by
  rw [join_comm] at h ⊢
  exact insAll_has _ (join_ins h).2.2.1
/-- one number at a time and labels -/
theorem at_uniq {R : List E} (hF : Fine R) {ls : List Lab.E} {t v v' : Int} (h : ∃ y ∈ R, y.1 = ls ∧ (t, v) ∈ y.2) (h' : ∃ y ∈ R, y.1 = ls ∧ (t, v') ∈ y.2) : v = v' := by
  obtain ⟨y, hy, e, hs⟩ := h
  obtain ⟨y', hy', e', hs'⟩ := h'
  obtain ⟨i, hi, rfl⟩ := List.getElem_of_mem hy
  obtain ⟨j, hj, rfl⟩ := List.getElem_of_mem hy'
  have hij : i = j := by
    rcases Nat.lt_trichotomy i j with h | h | h
    · have := List.pairwise_iff_getElem.1 hF.up i j hi hj h; rw [e, e', Lab.ordL.self] at this; omega
    · exact h
    · have := List.pairwise_iff_getElem.1 hF.up j i hj hi h; rw [e, e', Lab.ordL.self] at this; omega
  subst hij
  have hok := (hF.sam _ hy).1
  obtain ⟨p, hp, ep⟩ := List.getElem_of_mem hs
  obtain ⟨q, hq, eq⟩ := List.getElem_of_mem hs'
  have gp : SampMath.at' (R[i]).2 p = (t, v) := by unfold SampMath.at'; rw [List.getD_eq_getElem?_getD, List.getElem?_eq_getElem hp, Option.getD_some, ep]
  have gq : SampMath.at' (R[i]).2 q = (t, v') := by unfold SampMath.at'; rw [List.getD_eq_getElem?_getD, List.getElem?_eq_getElem hq, Option.getD_some, eq]
  rcases Nat.lt_trichotomy p q with h | h | h
  · have := SampMath.ok_lt hok h hq; rw [gp, gq] at this; simp at this
  · subst h; rw [gp] at gq; exact (Prod.mk.inj gq).2
  · have := SampMath.ok_lt hok h hp; rw [gp, gq] at this; simp at this
theorem ins_cnt : ∀ {L : List E} {x : E} {R : List E}, ins L x = some R → cntS R ≤ cntS L + x.2.length
  | [], x, R, h => by cases h; simp [cntS]
  | u :: L, x, R, h => by
    rcases Int.lt_trichotomy (Lab.cmpL u.1 x.1) 0 with hc | hc | hc
    · rw [ins_lt L hc] at h
      obtain ⟨R', h1, rfl⟩ := Option.map_eq_some_iff.1 h
      have := ins_cnt h1
      rw [cntS_cons, cntS_cons]; omega
    · rw [ins_eq L hc] at h
      obtain ⟨y', h1, rfl⟩ := Option.map_eq_some_iff.1 h
      obtain ⟨hj, rfl⟩ := jn_some h1
      have := SampMath.join_le u.2 x.2
      rw [cntS_cons, cntS_cons]; simp only; omega
    · rw [ins_gt L hc] at h
      cases h
      rw [cntS_cons]; omega
theorem insAll_cnt : ∀ (b : List E) {L R : List E}, insAll L b = some R → cntS R ≤ cntS L + cntS b
  | [], L, R, h => by cases h; omega
  | x :: b, L, R, h => by
    rw [insAll] at h
    obtain ⟨M, h1, h2⟩ := Option.bind_eq_some_iff.1 h
    have := ins_cnt h1
    have := insAll_cnt b h2
    rw [cntS_cons]; omega
theorem join_cntS {a b : List E} (h : (join a b).2 = true) : cntS (join a b).1 ≤ cntS a + cntS b := insAll_cnt b (join_ins h).2.2.1
theorem join_self {a : List E} (h : ok a = true) : join a a = (a, true) := join_sub (List.Sublist.refl a) h
end Go.Proofs.Ytncjagdnebpaaaa.Row

/- The number at a time and labels, as the laws look for it among rows that are ok. -/
namespace Go.Proofs.Ytncjagdnebpaaaa.Row
open Go.RowKit Rw
set_option linter.unusedVariables false
attribute [local go_sem ↓] Go.wp_at_zero Go.wp_at_succ
/-- a row of some that are ok, and its cells -/
structure View (w : World) (b off k : Nat) (x : E) (a0 : Option Addr) (ll q0 b1 o1 m q1 : Nat) : Prop where
  bl : b < w.heap.size
  c0 : w.cell? ⟨b, off + k * 2, none⟩ = some (.slice a0 ll q0)
  c1 : w.cell? ⟨b, off + k * 2 + 1, none⟩ = some (.slice (some ⟨b1, o1, none⟩) m q1)
  b1l : b1 < w.heap.size
  le : m ≤ q1
  mx : q1 ≤ 9223372036854775807
  ml : m = x.2.length
  m1 : 1 ≤ m
  m9 : m ≤ 1000
  sam : ∀ j, j < m → w.cell? ⟨b1, o1 + j * 2, none⟩ = some (.int .i64 (SampMath.at' x.2 j).1) ∧ w.cell? ⟨b1, o1 + j * 2 + 1, none⟩ = some (.int .i64 (SampMath.at' x.2 j).2)
  lab : Lab.Is w (.slice a0 ll q0) x.1
theorem View.below {w w' : World} {b off k : Nat} {x : E} {a0 : Option Addr} {ll q0 b1 o1 m q1 : Nat} (h : View w b off k x a0 ll q0 b1 o1 m q1) (hb : Below w.heap.size w w') : View w' b off k x a0 ll q0 b1 o1 m q1 :=
  ⟨Nat.lt_of_lt_of_le h.bl hb.size, (hb.cell (p := ⟨b, _, none⟩) h.bl).trans h.c0, (hb.cell (p := ⟨b, _, none⟩) h.bl).trans h.c1, Nat.lt_of_lt_of_le h.b1l hb.size, h.le, h.mx, h.ml, h.m1, h.m9, fun j hj => ⟨(hb.cell (p := ⟨b1, _, none⟩) h.b1l).trans (h.sam j hj).1, (hb.cell (p := ⟨b1, _, none⟩) h.b1l).trans (h.sam j hj).2⟩, h.lab.below hb⟩
theorem view_at {w : World} {a : Option Addr} {n cap : Nat} {zs : List E} (h : Is w (.slice a n cap) zs) (hok : ok zs = true) {k : Nat} (hk : k < zs.length) :
    ∃ b off, a = some ⟨b, off, none⟩ ∧ ∃ a0 ll q0 b1 o1 m q1, View w b off k (at' zs k) a0 ll q0 b1 o1 m q1 := by
  obtain ⟨cs, hcs, hL, hE⟩ := h
  obtain ⟨-, a', cap', e, hc, hmx, -, hr⟩ := hL
  simp only [Value.slice.injEq] at e
  obtain ⟨rfl, -, rfl⟩ := e
  obtain ⟨b, off, rfl, hbl, hcells⟩ := hr (by omega)
  have fa := flat_at cs k (by omega)
  have hc0 := hcells (k * 2) _ fa.1
  have hc1 := hcells (k * 2 + 1) _ fa.2
  have hEk := hE k hk
  have hst := step_is (ok_at hok hk)
  obtain ⟨c0, c1, hY⟩ : ∃ c0 c1, (c0, c1) = cat cs k := ⟨_, _, rfl⟩
  rw [← hY] at hc0 hc1 hEk
  have hE1 : Lab.Is w c0 (at' zs k).1 := hEk.1
  have hE2 : Sam.Is w c1 (at' zs k).2 := hEk.2
  obtain ⟨-, a0, q0, e0, -⟩ := id hE1
  obtain ⟨-, a1, q1, e1, h1, h2, -, h3⟩ := id hE2
  obtain ⟨b1, o1, ea, hb1, hx⟩ := h3 (by omega)
  subst ea
  subst e0 e1
  unfold maxLen at h2
  refine ⟨b, off, rfl, a0, (at' zs k).1.length, q0, b1, o1, _, q1, hbl, hc0, hc1, hb1, h1, by omega, rfl, by omega, by omega, fun j hj => ?_, hE1⟩
  have f := Sam.flat_at (at' zs k).2 j hj
  exact ⟨hx (j * 2) _ f.1, hx (j * 2 + 1) _ f.2⟩
def AtSays (zs : List E) (ls : List Lab.E) (T V : Int) (B : Bool) : Prop := (B = true ∧ ∃ y ∈ zs, y.1 = ls ∧ (T, V) ∈ y.2) ∨ (B = false ∧ ∀ y ∈ zs, y.1 = ls → ∀ s ∈ y.2, s.1 ≠ T)
theorem sat_mem {zs : List SampMath.S} {j : Nat} (h : j < zs.length) : SampMath.at' zs j ∈ zs := by
  unfold SampMath.at'; rw [List.getD_eq_getElem?_getD, List.getElem?_eq_getElem h, Option.getD_some]; exact List.getElem_mem h
theorem mem_sat {zs : List SampMath.S} {s : SampMath.S} (h : s ∈ zs) : ∃ j, j < zs.length ∧ SampMath.at' zs j = s := by
  obtain ⟨j, hj, rfl⟩ := List.getElem_of_mem h
  exact ⟨j, hj, by unfold SampMath.at'; rw [List.getD_eq_getElem?_getD, List.getElem?_eq_getElem hj, Option.getD_some]⟩
set_option maxRecDepth 100000 in
set_option maxHeartbeats 8000000 in
theorem al_at {w : World} {v u : Value} {zs : List E} {ls : List Lab.E} (T : Int) (h : Is w v zs) (hok : ok zs = true) (hl : Lab.Is w u ls) :
    Calls Try.prog 10 #[v, u, .int .i64 T] w fun e w' => ∃ (V : Int) (B : Bool), e = .returned (.tuple #[.int .i64 V, .bool B]) ∧ AtSays zs ls T V B ∧ Below w.heap.size w w' := by
  obtain ⟨va, vq, rfl, hcap, hcm⟩ : ∃ a q, v = .slice a zs.length q ∧ zs.length ≤ q ∧ q ≤ maxLen := by obtain ⟨cs, -, hL, -⟩ := id h; obtain ⟨-, a, q, e, h1, h2, -⟩ := hL; exact ⟨a, q, e, h1, h2⟩
  unfold maxLen at hcm
  obtain ⟨ua, uq, rfl⟩ : ∃ a q, u = .slice a ls.length q := by obtain ⟨-, a, q, e, -⟩ := id hl; exact ⟨a, q, e⟩
  have hn10 := ok_len hok
  have HV := hide (fun k (hk : k < zs.length) => view_at h hok hk)
  obtain ⟨n, hn⟩ : ∃ n, n = zs.length := ⟨_, rfl⟩
  obtain ⟨l, hll⟩ : ∃ l, l = ls.length := ⟨_, rfl⟩
  have HN := hide hn
  have HLL := hide hll
  have HLb := hide (fun (W : World) (hb : Below w.heap.size w W) => show Lab.Is W (.slice ua l uq) ls by rw [hll]; exact hl.below hb)
  rw [← hn] at hcap hn10 HV ⊢
  rw [← hll]
  clear hn hll h hl
  go_enter Try.func10, Try.ntmps10
  go_wp2_with fail
  go_loopw [8] (fun i wr => ∃ k : Nat, k ≤ n ∧ i = .int .i64 k ∧ Hid (∀ j, j < k → (at' zs j).1 = ls → ∀ s ∈ (at' zs j).2, s.1 ≠ T) ∧ Below w.heap.size w wr) (fun i _ => n - (intOf i).toNat)
  case atStart => exact ⟨0, Nat.zero_le _, rfl, fun j hj => absurd hj (Nat.not_lt_zero _), Below.refl _ _⟩
  case round =>
    obtain ⟨k, hk, rfl, HNo, hbel⟩ := hrel
    have hk0 : (0 : Int) ≤ (k : Int) := Int.natCast_nonneg _
    by_cases hlt : k < n
    · obtain ⟨b, off, rfl, a0, ll, q0, b1, o1, m, q1, hA⟩ := unhide HV k hlt
      have hkz : k < zs.length := by rw [← unhide HN]; exact hlt
      have hk1 : (k : Int) < (n : Int) := by omega
      have HA := hide hA
      have g1 := hA.le
      have g2 := hA.mx
      have g3 := hA.m9
      have g4 := hA.m1
      obtain ⟨x, hx⟩ : ∃ x, x = at' zs k := ⟨_, rfl⟩
      rw [← hx] at HA
      have HX := hide hx
      have HXm := hide (show x ∈ zs by rw [hx]; exact at_mem zs k hkz)
      have hml := hA.ml
      rw [← hx] at hml
      have HML := hide hml
      obtain ⟨wo, hwo⟩ : ∃ wo, wo = wr := ⟨_, rfl⟩
      subst hwo
      clear hx hA hml
      by_cases heq : x.1 = ls
      · have HEq := hide heq
        clear heq
        go_wp2_with fail
        go_loopw [9] (fun jv wr => ∃ j : Nat, j ≤ m ∧ jv = .int .i64 j ∧ Hid (∀ p, p < j → (SampMath.at' x.2 p).1 ≠ T) ∧ Below w.heap.size w wr) (fun jv _ => m - (intOf jv).toNat)
        case atStart => exact ⟨0, Nat.zero_le _, rfl, fun p hp => absurd hp (Nat.not_lt_zero _), hbel⟩
        case round =>
          obtain ⟨j, hj, rfl, HJ, hbj⟩ := hrel
          have hC := (unhide HA).below hbj
          have k0 := hC.c0
          have k1 := hC.c1
          have hj0 : (0 : Int) ≤ (j : Int) := Int.natCast_nonneg _
          have hzj := hbj.size
          by_cases hjl : j < m
          · have hj1 : (j : Int) < (m : Int) := by omega
            have HAl := hide (al_lab (zs := ls) (by rw [← unhide HEq]; exact hC.lab) (unhide HLb wr hbj))
            have HC := hide hC
            clear hC
            go_wp2_with fail
            refine (unhide HAl).mono ?_
            rintro e w5 ⟨rfl, b5⟩
            have hD := (unhide HC).below b5
            have c5 := hbj.trans (b5.mono hzj)
            have d1 := hD.c1
            have d2 := (hD.sam j hjl).1
            have d3 := (hD.sam j hjl).2
            obtain ⟨T', hT'⟩ : ∃ T', T' = (SampMath.at' x.2 j).1 := ⟨_, rfl⟩
            obtain ⟨V, hV⟩ : ∃ V, V = (SampMath.at' x.2 j).2 := ⟨_, rfl⟩
            rw [← hT'] at d2
            rw [← hV] at d3
            have HT' := hide hT'
            have HV' := hide hV
            clear hT' hV k0 k1 HAl hD HC b5
            by_cases hT : T' = T
            · have hTt : (T' == T) = true := by simp [hT]
              have HS := hide (show AtSays zs ls T V true from .inl ⟨rfl, x, unhide HXm, unhide HEq, by
                have := sat_mem (zs := x.2) (j := j) (by rw [← unhide HML]; exact hjl)
                rwa [show SampMath.at' x.2 j = (T, V) from Prod.ext (by rw [← unhide HT', hT]) (unhide HV').symm] at this⟩)
              clear hT
              go_wp2_with fail
              go_ret2
              exact ⟨V, true, rfl, unhide HS, c5⟩
            · have hTf : (T' == T) = false := by simp [hT]
              have HJ2 := hide (show ∀ p, p < j + 1 → (SampMath.at' x.2 p).1 ≠ T from fun p hp => by
                rcases Nat.lt_or_eq_of_le (Nat.le_of_lt_succ hp) with h | h
                · exact unhide HJ p h
                · subst h; rw [← unhide HT']; exact hT)
              clear hT
              go_wp2_with fail
              go_roundw
              case rel => exact ⟨j + 1, by omega, by go_num, HJ2, c5⟩
              case measure => first | (simp [intOf]; done) | (simp [intOf]; omega)
          · have hjf : decide ((j : Int) < (m : Int)) = false := by simp; omega
            have HNo2 := hide (show ∀ i, i < k + 1 → (at' zs i).1 = ls → ∀ s ∈ (at' zs i).2, s.1 ≠ T from fun i hi => by
              rcases Nat.lt_or_eq_of_le (Nat.le_of_lt_succ hi) with h | h
              · exact unhide HNo i h
              · subst h
                intro _ s hs
                rw [← unhide HX] at hs
                obtain ⟨p, hp, rfl⟩ := mem_sat hs
                exact unhide HJ p (by rw [← unhide HML] at hp; omega))
            clear hC
            go_wp2_with fail
            go_roundw
            case rel => exact ⟨k + 1, by omega, by go_num, HNo2, hbj⟩
            case measure => first | (simp [intOf]; done) | (simp [intOf]; omega)
      · have HNo2 := hide (show ∀ i, i < k + 1 → (at' zs i).1 = ls → ∀ s ∈ (at' zs i).2, s.1 ≠ T from fun i hi => by
          rcases Nat.lt_or_eq_of_le (Nat.le_of_lt_succ hi) with h | h
          · exact unhide HNo i h
          · subst h
            intro e
            rw [← unhide HX] at e
            exact absurd e heq)
        have HNe := hide heq
        clear heq
        go_wp2_with fail
        go_loopw [9] (fun jv wr => jv = .int .i64 0 ∧ Below w.heap.size w wr) (fun jv _ => 0)
        case atStart => exact ⟨rfl, hbel⟩
        case round =>
          obtain ⟨rfl, hbj⟩ := hrel
          have hC := (unhide HA).below hbj
          have k0 := hC.c0
          have k1 := hC.c1
          have hzj := hbj.size
          have hm1 : (0 : Int) < (m : Int) := by omega
          have HAl := hide ((Lab.al_any hC.lab (unhide HLb wr hbj)).mono fun e w' ⟨R, h1, h2, h3⟩ => show e = Ending.returned (.bool false) ∧ Below wr.heap.size wr w' from ⟨by rw [h1]; cases R; rfl; exact absurd (h2.1 rfl) (unhide HNe), h3⟩)
          clear hC
          go_wp2_with fail
          refine (unhide HAl).mono ?_
          rintro e w5 ⟨rfl, b5⟩
          have c5 := hbj.trans (b5.mono hzj)
          clear k0 k1 HAl b5
          go_wp2_with fail
          go_roundw
          case rel => exact ⟨k + 1, by omega, by go_num, HNo2, c5⟩
          case measure => first | (simp [intOf]; done) | (simp [intOf]; omega)
    · have HS := hide (show AtSays zs ls T 0 false from .inr ⟨rfl, fun y hy => by
        obtain ⟨j, hj, rfl⟩ := List.getElem_of_mem hy
        rw [← at_get zs j hj]
        exact unhide HNo j (by rw [← unhide HN] at hj; omega)⟩)
      have hkf : decide ((k : Int) < (n : Int)) = false := by simp; omega
      go_wp2_with fail
      go_ret2
      exact ⟨0, false, rfl, unhide HS, hbel⟩
end Go.Proofs.Ytncjagdnebpaaaa.Row

/- A sample put to rows: how many there are then; put again; another number. No condition. -/
namespace Go.Proofs.Ytncjagdnebpaaaa.Row
open Go.RowKit Rw
set_option linter.unusedVariables false
theorem merge_one_len {s : SampMath.S} : ∀ {a b : List SampMath.S}, a.Pairwise (fun x y => x.1 < y.1) → SampMath.merge a [s] = some b → ((∃ z ∈ a, z.1 = s.1) → b.length = a.length) ∧ ((∀ z ∈ a, z.1 ≠ s.1) → b.length = a.length + 1)
  | [], b, _, h => by
    rw [SampMath.merge] at h
    cases h
    exact ⟨fun ⟨z, hz, _⟩ => (by cases hz), fun _ => rfl⟩
  | x :: a, b, hp, h => by
    obtain ⟨hx, hp'⟩ := List.pairwise_cons.1 hp
    rw [SampMath.merge] at h
    by_cases h1 : x.1 < s.1
    · rw [if_pos h1] at h
      obtain ⟨R, h2, rfl⟩ := Option.map_eq_some_iff.1 h
      obtain ⟨i1, i2⟩ := merge_one_len hp' h2
      refine ⟨fun ⟨z, hz, e⟩ => ?_, fun hn => ?_⟩
      · rcases List.mem_cons.1 hz with rfl | hz
        · omega
        · simp only [List.length_cons]; rw [i1 ⟨z, hz, e⟩]
      · simp only [List.length_cons]; rw [i2 (fun z hz => hn z (List.mem_cons_of_mem _ hz))]
    · rw [if_neg h1] at h
      by_cases h3 : s.1 < x.1
      · rw [if_pos h3, SampMath.merge_nil_right] at h
        cases h
        refine ⟨fun ⟨z, hz, e⟩ => ?_, fun _ => rfl⟩
        rcases List.mem_cons.1 hz with rfl | hz
        · omega
        · have := hx z hz; omega
      · rw [if_neg h3] at h
        split at h
        · rw [SampMath.merge_nil_right] at h
          cases h
          exact ⟨fun _ => rfl, fun hn => absurd (show x.1 = s.1 by omega) (hn x (List.mem_cons_self ..))⟩
        · cases h
theorem sjoin_len {s : SampMath.S} {a : List SampMath.S} (h : (SampMath.join a [s]).2 = true) : ((∃ z ∈ a, z.1 = s.1) → (SampMath.join a [s]).1.length = a.length) ∧ ((∀ z ∈ a, z.1 ≠ s.1) → (SampMath.join a [s]).1.length = a.length + 1) := by
  unfold SampMath.join at h ⊢
  by_cases hk : SampMath.ok a = true ∧ SampMath.ok [s] = true
  · rw [if_pos hk] at h ⊢
    cases e : SampMath.merge a [s] with
    | none => rw [e] at h; cases h
    | some L => exact merge_one_len ((Samp.ok_iff a).1 hk.1).2 e
  · rw [if_neg hk] at h; cases h
theorem behindR {ls : List Lab.E} {x : E} {L : List E} (up : ∀ y ∈ L, Lab.cmpL x.1 y.1 < 0) (hc : 0 ≤ Lab.cmpL x.1 ls) : ∀ y ∈ L, y.1 ≠ ls := fun y hy e => by
  have := up y hy
  rw [e] at this
  omega
theorem ins_one_cnt : ∀ {L R : List E} {ls : List Lab.E} {s : SampMath.S}, Fine L → ins L (ls, [s]) = some R →
    ((∃ y ∈ L, y.1 = ls ∧ ∃ z ∈ y.2, z.1 = s.1) → cntS R = cntS L) ∧ ((∀ y ∈ L, y.1 = ls → ∀ z ∈ y.2, z.1 ≠ s.1) → cntS R = cntS L + 1)
  | [], R, ls, s, _, h => by
    cases h
    exact ⟨fun ⟨y, hy, _⟩ => (by cases hy), fun _ => by simp [cntS]⟩
  | x :: L, R, ls, s, hF, h => by
    have up := (List.pairwise_cons.1 hF.up).1
    rcases Int.lt_trichotomy (Lab.cmpL x.1 ls) 0 with hc | hc | hc
    · rw [ins_lt L hc] at h
      obtain ⟨R', h1, rfl⟩ := Option.map_eq_some_iff.1 h
      obtain ⟨i1, i2⟩ := ins_one_cnt (fine_tail hF) h1
      rw [cntS_cons, cntS_cons]
      refine ⟨fun ⟨y, hy, e, hz⟩ => ?_, fun hn => ?_⟩
      · rcases List.mem_cons.1 hy with rfl | hy
        · rw [e, Lab.ordL.self] at hc; omega
        · rw [i1 ⟨y, hy, e, hz⟩]
      · rw [i2 (fun y hy => hn y (List.mem_cons_of_mem _ hy))]; omega
    · rw [ins_eq L hc] at h
      obtain ⟨y', h1, rfl⟩ := Option.map_eq_some_iff.1 h
      obtain ⟨hj, rfl⟩ := jn_some h1
      have hxl := Lab.ordL.zero _ _ hc
      obtain ⟨i1, i2⟩ := sjoin_len hj
      rw [cntS_cons, cntS_cons]
      refine ⟨fun ⟨y, hy, e, hz⟩ => ?_, fun hn => ?_⟩
      · rcases List.mem_cons.1 hy with rfl | hy
        · simp only; rw [i1 hz]
        · exact absurd e (behindR up (by omega) y hy)
      · simp only; rw [i2 (hn x (List.mem_cons_self ..) hxl)]; omega
    · rw [ins_gt L hc] at h
      cases h
      rw [cntS_cons, cntS_cons]
      refine ⟨fun ⟨y, hy, e, hz⟩ => ?_, fun _ => by simp; omega⟩
      rcases List.mem_cons.1 hy with rfl | hy
      · rw [e, Lab.ordL.self] at hc; omega
      · exact absurd e (behindR up (by omega) y hy)
theorem filt_one {s : SampMath.S} : ∀ {a : List SampMath.S}, a.Pairwise (fun x y => x.1 < y.1) → s ∈ a → a.filter (fun z => z == s) = [s]
  | [], _, h => by cases h
  | x :: a, hp, h => by
    obtain ⟨hx, hp'⟩ := List.pairwise_cons.1 hp
    by_cases e : x = s
    · subst e
      rw [List.filter_cons, if_pos (by simp)]
      have : a.filter (fun z => z == x) = [] := by
        rw [List.filter_eq_nil_iff]
        intro z hz hc
        have := hx z hz
        rw [eq_of_beq hc] at this
        omega
      rw [this]
    · rcases List.mem_cons.1 h with h | h
      · exact absurd h.symm e
      · rw [List.filter_cons, if_neg (by simpa using e)]
        exact filt_one hp' h
/-- what is there, put again, is there -/
theorem sjoin_mem {s : SampMath.S} {a : List SampMath.S} (h : SampMath.ok a = true) (hs : s ∈ a) : SampMath.join a [s] = (a, true) := by
  have hp := ((Samp.ok_iff a).1 h).2
  have hf : a.filter (fun z => z == s) = [s] := filt_one hp hs
  have hm := Samp.merge_filter a (fun _ => true) (fun z => z == s) hp
  rw [hf] at hm
  simp only [Bool.true_or] at hm
  rw [List.filter_eq_self.2 (fun z _ => rfl)] at hm
  refine SampMath.join_some h (SampMath.ok_sub h ?_) hm
  rw [← hf]; exact List.filter_sublist
theorem ins_here : ∀ {L : List E} {ls : List Lab.E} {s : SampMath.S}, Fine L → (∃ y ∈ L, y.1 = ls ∧ s ∈ y.2) → ins L (ls, [s]) = some L
  | [], ls, s, _, h => by obtain ⟨y, hy, _⟩ := h; cases hy
  | x :: L, ls, s, hF, h => by
    have up := (List.pairwise_cons.1 hF.up).1
    obtain ⟨y, hy, e, hs⟩ := h
    rcases List.mem_cons.1 hy with rfl | hy'
    · have hc : Lab.cmpL y.1 ls = 0 := by rw [e]; exact Lab.ordL.self _
      rw [ins_eq (x := (ls, [s])) L hc]
      unfold jn
      rw [sjoin_mem (hF.sam y (List.mem_cons_self ..)).1 hs]
      rfl
    · have hc : Lab.cmpL x.1 ls < 0 := by rw [← e]; exact up y hy'
      rw [ins_lt (x := (ls, [s])) L hc, ins_here (fine_tail hF) ⟨y, hy', e, hs⟩]
      rfl
theorem add_of {L R : List E} {x : E} (h : ins L x = some R) (hR : ok R = true) : add L x = some R := by
  unfold add
  rw [h, Option.bind_some, if_pos (sized_of_ok hR)]
theorem ins_of {L R : List E} {x : E} (h : add L x = some R) : ins L x = some R := by
  unfold add at h
  obtain ⟨M, h1, h2⟩ := Option.bind_eq_some_iff.1 h
  split at h2
  · cases h2; exact h1
  · cases h2
/-- rows to which a sample was put -/
theorem radd_says {L R : List E} {ls : List Lab.E} {T V : Int} (h : radd L ls T V = (R, true)) :
    ok L = true ∧ Lab.ok ls = true ∧ SampMath.inR T V = true ∧ ok R = true ∧ (∃ y ∈ R, y.1 = ls ∧ (T, V) ∈ y.2) ∧ radd R ls T V = (R, true) ∧ (∀ V', SampMath.inR T V' = true → V' ≠ V → radd R ls T V' = (R, false)) ∧
    ∀ (W : Int) (B : Bool), AtSays L ls T W B → cntS R = cntS L + (if B = true then 0 else 1) := by
  by_cases hk : ok L = true ∧ Lab.ok ls = true ∧ SampMath.inR T V = true
  · obtain ⟨h1, h2, h3⟩ := hk
    rw [radd_yes h1 h2 h3] at h
    cases ha : add L (ls, [(T, V)]) with
    | none => rw [ha] at h; simp at h
    | some R2 =>
      rw [ha] at h
      simp only [Prod.mk.injEq, and_true] at h
      subst h
      have hR : ok R2 = true := add_ok h1 (fine_ok (row_ok h2 h3)) ha
      have hi := ins_of ha
      have hj : join L [(ls, [(T, V)])] = (R2, true) := by rw [join_one h1 h2 h3, ha]; rfl
      have hh := join_has (a := L) (b := [(ls, [(T, V)])]) (by rw [hj]) _ (List.mem_singleton.2 rfl)
      rw [hj] at hh
      obtain ⟨y, hy, e1, e2⟩ := hh
      have hhere : ∃ y ∈ R2, y.1 = ls ∧ (T, V) ∈ y.2 := ⟨y, hy, e1, e2 _ (List.mem_singleton.2 rfl)⟩
      refine ⟨h1, h2, h3, hR, hhere, ?_, fun V' hV hne => ?_, fun W B hs => ?_⟩
      · rw [radd_yes hR h2 h3, add_of (ins_here (fine_ok hR) hhere) hR]
      · rw [radd_yes hR h2 hV]
        cases ha2 : add R2 (ls, [(T, V')]) with
        | none => rfl
        | some R3 =>
          have hj3 : join R2 [(ls, [(T, V')])] = (R3, true) := by rw [join_one hR h2 hV, ha2]; rfl
          have hh3 := join_has (a := R2) (b := [(ls, [(T, V')])]) (by rw [hj3]) _ (List.mem_singleton.2 rfl)
          rw [hj3] at hh3
          obtain ⟨z, hz, g1, g2⟩ := hh3
          obtain ⟨y2, hy2, f1, f2⟩ := hhere
          obtain ⟨z2, hz2, k1, k2⟩ := ins_has (ins_of ha2) y2 hy2
          have hR3 : ok R3 = true := add_ok hR (fine_ok (row_ok h2 hV)) ha2
          exact absurd (at_uniq (fine_ok hR3) ⟨z, hz, g1, g2 _ (List.mem_singleton.2 rfl)⟩ ⟨z2, hz2, k1.trans f1, k2 _ f2⟩) hne
      · obtain ⟨c1, c2⟩ := ins_one_cnt (fine_ok h1) hi
        rcases hs with ⟨rfl, y, hy, e, hm⟩ | ⟨rfl, hn⟩
        · rw [c1 ⟨y, hy, e, _, hm, rfl⟩]; rfl
        · rw [c2 hn]; rfl
  · exfalso
    have : ok L = false ∨ Lab.ok ls = false ∨ SampMath.inR T V = false := by
      cases a : ok L
      · exact .inl rfl
      · cases b : Lab.ok ls
        · exact .inr (.inl rfl)
        · cases c : SampMath.inR T V
          · exact .inr (.inr rfl)
          · exact absurd ⟨a, b, c⟩ hk
    rw [radd_no this] at h
    simp at h
end Go.Proofs.Ytncjagdnebpaaaa.Row
