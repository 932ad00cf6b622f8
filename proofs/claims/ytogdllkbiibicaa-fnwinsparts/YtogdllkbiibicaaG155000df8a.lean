/- My own texts of one claim, laid together by program: WinMath5, DrawWinJoin. -/
import Derived.Test.YtogdllkbiibicaaGb543366ceb
import Derived.Test.YtogdllkbiibicaaG341cf6558d
import Derived.Test.YtogdllkbiibicaaG2f43a2a56a
import Derived.Test.YtogdllkbiibicaaGcf87e866eb
/- Whiles of samples: how many, all together, between which; by time. No condition. -/
namespace Go.Proofs.Ytogdllkbiibicaa.WinM
open SampMath Samp
set_option linter.unusedVariables false
def valsW (g : List S) : Prop := ∀ i, i < g.length → 0 ≤ (at' g i).2 ∧ (at' g i).2 ≤ 2147483647
/-- what a while's numbers are to each other -/
def inW (x : W6) : Prop := (0 ≤ x.2.2.2.1 ∧ x.2.2.2.1 ≤ x.2.2.2.2.2 ∧ x.2.2.2.2.2 ≤ x.2.2.2.2.1 ∧ x.2.2.2.2.1 ≤ 2147483647) ∧ x.2.2.2.1 * x.2.1 ≤ x.2.2.1 ∧ x.2.2.1 ≤ x.2.2.2.2.1 * x.2.1
def okW (x : W6) : Prop := (0 ≤ x.1 ∧ x.1 ≤ 9999) ∧ (1 ≤ x.2.1 ∧ x.2.1 ≤ 10000) ∧ inW x
theorem upd_in {a : W6} {v : Int} (h : inW a) (hc : 0 ≤ a.2.1) (v0 : 0 ≤ v) (v1 : v ≤ 2147483647) : inW (upd a v) := by
  obtain ⟨b, c, s, l, u, z⟩ := a
  obtain ⟨⟨h1, h2, h3, h4⟩, h5, h6⟩ := h
  simp only at h1 h2 h3 h4 h5 h6 hc
  unfold inW upd
  simp only
  obtain ⟨l', hl⟩ : ∃ l', l' = (if v < l then v else l) := ⟨_, rfl⟩
  obtain ⟨u', hu⟩ : ∃ u', u' = (if u < v then v else u) := ⟨_, rfl⟩
  rw [← hl, ← hu]
  have a1 : l' ≤ l ∧ l' ≤ v ∧ 0 ≤ l' := by rw [hl]; split <;> omega
  have a2 : u ≤ u' ∧ v ≤ u' ∧ u' ≤ 2147483647 := by rw [hu]; split <;> omega
  have b1 := Int.mul_le_mul_of_nonneg_right a1.1 hc
  have b2 := Int.mul_le_mul_of_nonneg_right a2.1 hc
  rw [Int.mul_add, Int.mul_one, Int.mul_add, Int.mul_one]
  refine ⟨⟨a1.2.2, a1.2.1, a2.2.1, a2.2.2⟩, ?_, ?_⟩ <;> omega
theorem winTo_in {b : Int} {g : List S} (hv : valsW g) : ∀ k, k < g.length → inW (winTo b g (k + 1)) := by
  intro k
  induction k with
  | zero =>
    intro h0
    have := hv 0 h0
    rw [winTo_one]
    unfold inW winOf
    simp only [Int.mul_one]
    omega
  | succ k ih =>
    intro hk
    have c := hv (k + 1) hk
    exact upd_in (ih (by omega)) (by rw [winTo_count]; omega) c.1 c.2
def sumV (g : List S) : Int := (g.map fun x => x.2).sum
theorem sumV_app (g h : List S) : sumV (g ++ h) = sumV g + sumV h := by simp [sumV]
theorem sumV_take (g : List S) (k : Nat) (hk : k < g.length) : sumV (g.take (k + 1)) = sumV (g.take k) + (at' g k).2 := by
  rw [at_snoc g k hk, sumV_app]; simp [sumV]
theorem winTo_sumV (b : Int) (g : List S) : ∀ k, k ≤ g.length → (winTo b g k).2.2.1 = sumV (g.take k) := by
  intro k
  induction k with
  | zero => intro _; rfl
  | succ k ih =>
    intro hk
    rw [sumV_take g k (by omega), ← ih (by omega)]
    rfl
def sumC (L : List W6) : Int := (L.map fun x => x.2.1).sum
def sumS (L : List W6) : Int := (L.map fun x => x.2.2.1).sum
theorem sumC_app (g h : List W6) : sumC (g ++ h) = sumC g + sumC h := by simp [sumC]
theorem sumS_app (g h : List W6) : sumS (g ++ h) = sumS g + sumS h := by simp [sumS]
theorem oneW_sums (b : Int) (g : List S) : sumC (oneW b g) = g.length ∧ sumS (oneW b g) = sumV g := by
  unfold oneW
  split
  · rename_i h; subst h; exact ⟨rfl, rfl⟩
  · simp only [sumC, sumS, List.map_cons, List.map_nil, List.sum_cons, List.sum_nil, Int.add_zero]
    rw [winTo_count, winTo_sumV b g _ (Nat.le_refl _), List.take_length]
    exact ⟨rfl, rfl⟩
theorem winsTo_all {zs : List S} (h : ok zs = true) {f t st : Int} (h0 : 0 < st) (hf : 0 ≤ f) (ht : t ≤ 10000) : ∀ j : Nat, (∀ i : Nat, i < j → f + i * st < t) →
    sumC (winsTo zs f t st j) = (cutL zs f (if t < f + j * st then t else f + j * st)).length ∧ sumS (winsTo zs f t st j) = sumV (cutL zs f (if t < f + j * st then t else f + j * st)) ∧ (∀ x ∈ winsTo zs f t st j, okW x) ∧ (winsTo zs f t st j).Pairwise (fun a b => a.1 < b.1) := by
  intro j
  induction j with
  | zero =>
    intro _
    have : cutL zs f (if t < f + (0 : Nat) * st then t else f + (0 : Nat) * st) = [] := by
      unfold cutL
      rw [List.filter_eq_nil_iff]
      intro x _
      simp only [inT, Bool.and_eq_true, decide_eq_true_eq, not_and]
      intro h1
      split <;> simp <;> omega
    rw [this]
    exact ⟨rfl, rfl, fun x hx => (by cases hx), List.Pairwise.nil⟩
  | succ j ih =>
    intro hj
    have hb := hj j (by omega)
    have e : f + ((j + 1 : Nat) : Int) * st = f + j * st + st := by rw [Int.natCast_add, Int.add_mul]; simp; omega
    obtain ⟨i1, i2, i3, i4⟩ := ih (fun i hi => hj i (by omega))
    rw [if_neg (show ¬ t < f + (j : Int) * st by omega)] at i1 i2
    have hlast := winsTo_from zs (f := f) (t := t) h0 j
    obtain ⟨b, eb⟩ : ∃ b, b = f + (j : Int) * st := ⟨_, rfl⟩
    have hfb : f ≤ b := by rw [eb]; have := Int.mul_nonneg (Int.natCast_nonneg j) (Int.le_of_lt h0); omega
    rw [e, winsTo, ← eb]
    rw [← eb] at i1 i2 hb hlast
    obtain ⟨m, em⟩ : ∃ m, m = (if t < b + st then t else b + st) := ⟨_, rfl⟩
    have hm : b ≤ m ∧ m ≤ b + st := by rw [em]; split <;> omega
    rw [← em, ← cut_parts h hfb hm.1]
    obtain ⟨o1, o2⟩ := oneW_sums b (cutL zs b m)
    have hc := cut_vals h b m
    refine ⟨?_, ?_, ?_, ?_⟩
    · rw [sumC_app, i1, o1, List.length_append]; simp
    · rw [sumS_app, i2, o2, sumV_app]
    · intro x hx
      rcases List.mem_append.1 hx with hx | hx
      · exact i3 x hx
      · unfold oneW at hx
        split at hx
        · cases hx
        · rename_i hne
          have hl := List.length_pos_iff.2 hne
          rw [List.mem_singleton] at hx
          subst hx
          refine ⟨by rw [winTo_from]; omega, by rw [winTo_count]; omega, ?_⟩
          have := winTo_in (b := b) hc.1 ((cutL zs b m).length - 1) (by omega)
          rwa [show (cutL zs b m).length - 1 + 1 = (cutL zs b m).length by omega] at this
    · rw [List.pairwise_append]
      refine ⟨i4, ?_, fun x hx y hy => ?_⟩
      · unfold oneW; split <;> simp
      · rw [oneW_mem hy]; exact hlast x hx
/-- how many whiles there are of some length -/
theorem steps_exist {f t st : Int} (h0 : 0 < st) (h : f ≤ t) : ∃ j : Nat, (∀ i : Nat, i < j → f + i * st < t) ∧ t ≤ f + j * st := by
  obtain ⟨d, hd⟩ : ∃ d : Nat, t - f ≤ d := ⟨(t - f).toNat, by omega⟩
  induction d generalizing t with
  | zero => exact ⟨0, fun i hi => absurd hi (Nat.not_lt_zero _), by omega⟩
  | succ d ih =>
    by_cases hft : f = t
    · exact ⟨0, fun i hi => absurd hi (Nat.not_lt_zero _), by omega⟩
    · obtain ⟨j, h1, h2⟩ := ih (t := t - 1) (by omega) (by omega)
      by_cases h3 : t ≤ f + j * st
      · exact ⟨j, fun i hi => by have := h1 i hi; omega, h3⟩
      · refine ⟨j + 1, fun i hi => ?_, ?_⟩
        · rcases Nat.lt_or_eq_of_le (Nat.le_of_lt_succ hi) with h | h
          · have := h1 i h; omega
          · subst h; omega
        · have e : f + ((j + 1 : Nat) : Int) * st = f + j * st + st := by rw [Int.natCast_add, Int.add_mul]; simp; omega
          omega
theorem wins_says {zs : List S} {f t st : Int} (h : ok zs = true) (ht : timesB f t = true) (hs : thinB st = true) :
    sumC (wins zs f t st) = (cutL zs f t).length ∧ sumS (wins zs f t st) = sumV (cutL zs f t) ∧ (∀ x ∈ wins zs f t st, okW x) ∧ (wins zs f t st).Pairwise (fun a b => a.1 < b.1) := by
  have h0 : 0 < st := by unfold thinB at hs; simp at hs; omega
  have hT := times_is ht
  obtain ⟨j, hj, he⟩ := steps_exist (f := f) (t := t) h0 hT.2.2.1
  rw [wins_all h ht hs hj he]
  have := winsTo_all h (f := f) (t := t) h0 hT.1 hT.2.2.2 j hj
  rw [show (if t < f + (j : Int) * st then t else f + (j : Int) * st) = t by split <;> omega] at this
  exact this
theorem wins_bad {zs : List S} {f t st : Int} (h : ¬ (ok zs = true ∧ timesB f t = true ∧ thinB st = true)) : wins zs f t st = [] := by unfold wins; rw [if_neg h]
theorem wins_okW (zs : List S) (f t st : Int) : (∀ x ∈ wins zs f t st, okW x) ∧ (wins zs f t st).Pairwise (fun a b => a.1 < b.1) := by
  by_cases h : ok zs = true ∧ timesB f t = true ∧ thinB st = true
  · exact (wins_says h.1 h.2.1 h.2.2).2.2
  · rw [wins_bad h]; exact ⟨fun x hx => (by cases hx), List.Pairwise.nil⟩
end Go.Proofs.Ytogdllkbiibicaa.WinM

/- Whiles are drawn, for WinsJoin. -/
namespace Go.Proofs.Ytogdllkbiibicaa.Win
open Go.RowKit Rw
theorem flatOf_set1 {α : Type} {fl : α → List Value} {m : Nat} (hl : ∀ x, (fl x).length = m) {v : Value} {j : Nat} (hj : j < m) {x' : α} : ∀ (zs : List α) (k : Nat) (hk : k < zs.length), fl x' = (fl zs[k]).set j v → flatOf fl (zs.set k x') = (flatOf fl zs).set (k * m + j) v
  | [], k, hk, _ => by simp at hk
  | y :: zs, 0, hk, h => by
    rw [List.set_cons_zero, flatOf_cons, flatOf_cons, Nat.zero_mul, Nat.zero_add, List.set_append_left _ _ (by rw [hl]; exact hj)]
    rw [h]
    rfl
  | y :: zs, k + 1, hk, h => by
    rw [List.set_cons_succ, flatOf_cons, flatOf_cons, flatOf_set1 hl hj zs k (by simpa using hk) (by simpa using h), List.set_append_right _ _ (by rw [hl, Nat.succ_mul]; omega), hl]
    congr 2
    rw [Nat.succ_mul]; omega
theorem flat_set {L : List E} {k j : Nat} {x' : E} {v : Value} (hk : k < L.length) (hj : j < 6) (h : fl x' = (fl (at' L k)).set j v) : flat (L.set k x') = (flat L).set (k * 6 + j) v := by
  rw [at_get L k hk] at h
  exact flatOf_set1 flk hj L k hk h
end Go.Proofs.Ytogdllkbiibicaa.Win
namespace Go.Proofs.Ytogdllkbiibicaa.Draw
open Go.RowKit Samp SampMath Rw
set_option linter.unusedVariables false
attribute [local go_sem ↓] Go.wp_at_zero Go.wp_at_succ
def Winsed (w : World) (e : Ending) (w' : World) : Prop := ∃ (L : List WinM.W6) (v : Value), e = .returned v ∧ L.length ≤ 10000 ∧ Win.Is w' v L ∧ Below w.heap.size w w'
theorem winsed_end {B : Nat} {w w5 : World} {L : List WinM.W6} {n g cp i : Nat} {u : Value} {base : Nat} (hL : L.length ≤ 10000) (hB : B = w.heap.size) (hn : n = L.length) (o : w5.ownsRow base 52 6 (.slice (some ⟨g, 0, none⟩) n cp) n (Win.flat L)) (hg : B ≤ g) (b : Below B w w5) {k j : Nat} {x' : WinM.W6} (hk : k < L.length) (hj : j < 6) (h : Win.fl x' = (Win.fl (Win.at' L k)).set j u) (hi : i = k * 6 + j) :
    Winsed w (.returned (.slice (some ⟨g, 0, none⟩) n cp)) (w5.setCell ⟨g, i, none⟩ u) := by
  subst hi
  have s := (o.stored (k * 6 + j) u).1
  rw [← Win.flat_set hk hj h] at s
  refine ⟨L.set k x', _, rfl, by rw [List.length_set]; exact hL, ?_, ?_⟩
  · refine Win.is_of_own (base := base) ?_
    rw [List.length_set, ← hn]
    exact s
  · rw [← hB]
    exact b.trans (((OnlyAt.refl g w5).setCell (k * 6 + j) u).below hg)
set_option maxRecDepth 100000 in
set_option maxHeartbeats 4000000 in
theorem draw_winsjoin {a : Option Addr} {len cap : Nat} {zs : List Int} (w0 w : World) (h : IsRow .u8 w0 a len cap zs) (hB : Below w0.heap.size w0 w) :
    Calls Try.prog 35 #[.slice a len cap] w (Winsed w) := by
  have HO := hide (open_any w0 w h hB)
  clear h hB
  go_enter Try.func35, Try.ntmps35
  go_wp2_with fail
  refine (unhide HO).mono ?_
  rintro e w1 ⟨rfl, r1, b1⟩
  have hlt := r1.lt
  have hs1 := b1.size
  go_wp2_with fail
  refine (samples_good w.heap.size 0 9 _ r1 (by omega) (by omega)).mono ?_
  rintro e w2 ⟨zs, g, cp, rfl, hl, hSG, o2, ⟨p2, hp2, r2⟩, q2⟩
  have b2 := b1.trans (below_of_grown q2 (Nat.le_refl _) hs1)
  have hs2 := q2.size
  clear r1 HO hSG q2 b1
  have hone := one_new w.heap.size p2 [10, 60, 100, 1000] _ r2 (by omega) (by simp) (by simp)
  simp only [List.map_cons, List.map_nil, List.length_cons, List.length_nil, Nat.zero_add, Nat.reduceAdd] at hone
  have HOne := hide hone
  clear hone
  go_wp2_with fail
  refine (unhide HOne).mono ?_
  rintro e w3 ⟨st, rfl, hst, r3, g3⟩
  have o3 := own_kept o2 g3 hlt
  have hs3 := g3.size
  have b3 := b2.trans (below_of_grown g3 (Nat.le_refl _) b2.size)
  have HW := hide (WinM.spec_wins 0 10000 st (Sam.is_of_own o3) (by omega))
  have hLl := WinM.wins_len zs 0 10000 st
  have hOkW := (WinM.wins_okW zs 0 10000 st).1
  generalize WinM.wins zs 0 10000 st = L at HW hLl hOkW
  have HOkW := hide hOkW
  clear r2 o2 g3 b2 HOne hst hOkW
  go_wp2_with fail
  refine (unhide HW).mono ?_
  rintro e w4 ⟨v, rfl, o4, b4⟩
  have r4 := r3.below b4
  have c4 := b3.trans (b4.mono b3.size)
  have hz3 := b3.size
  obtain ⟨n, hn⟩ : ∃ n, n = L.length := ⟨_, rfl⟩
  rw [← hn] at o4 hLl
  have HN := hide hn
  clear hn HW o3 r3 b4 b3
  rcases n with _ | n
  · obtain ⟨va, vq, rfl⟩ : ∃ a q, v = .slice a 0 q := by obtain ⟨-, a, q, e, -⟩ := lies_of_own o4; exact ⟨a, q, e⟩
    have HI := hide (show Win.Is w4 (.slice va 0 vq) L by refine Win.is_of_own (base := w3.heap.size) ?_; rw [← unhide HN]; exact o4)
    clear o4 r4
    go_wp2_with fail
    go_ret
    exact ⟨L, _, rfl, by rw [← unhide HN]; omega, unhide HI, c4⟩
  obtain ⟨gb, cc, rfl, hcc⟩ : ∃ gb cc, v = .slice (some ⟨gb, 0, none⟩) (n + 1) cc ∧ n + 1 ≤ cc := by
    rcases o4.2 with ⟨-, h2⟩ | ⟨gb, cp', cu, h1, -, -, h4, -⟩
    · omega
    · exact ⟨gb, cp', h1, h4⟩
  have hcm : cc ≤ 9223372036854775807 := by
    obtain ⟨-, a', c', h1, h2, h3, -⟩ := lies_of_own o4
    simp only [Value.slice.injEq] at h1
    unfold maxLen at h3
    omega
  have hge := own_ge o4 gb rfl
  have hn0 : (0 : Int) ≤ (n : Int) := Int.natCast_nonneg _
  have hn1 : (0 : Int) < (n : Int) + 1 := by omega
  go_wp2_with fail
  refine (pick_any w.heap.size (p2 + 1) _ _ r4 (by omega) (by omega)).mono ?_
  rintro e w5 ⟨x, rfl, x0, x1, -, r5, g5⟩
  have o5 := own_kept o4 g5 (by omega)
  have c5 := c4.trans (below_of_grown g5 (Nat.le_refl _) c4.size)
  clear r4 o4 g5 c4 x1
  by_cases hx : x = 0
  · subst hx
    go_wp2_with fail
    refine (pick_any w.heap.size (p2 + 1 + 1) _ _ r5 (by omega) (by omega)).mono ?_
    rintro e w6 ⟨kk, rfl, k0, k1, -, r6, g6⟩
    have k2 : kk < (n : Int) + 1 := k1 (by omega)
    obtain ⟨k, rfl⟩ := Int.eq_ofNat_of_zero_le k0
    have o6 := own_kept o5 g6 (by omega)
    have c6 := c5.trans (below_of_grown g6 (Nat.le_refl _) c5.size)
    clear r5 o5 g6 c5 k1
    go_wp2_with fail
    refine (pick_any w.heap.size (p2 + 1 + 1 + 1) _ _ r6 (by omega) (by omega)).mono ?_
    rintro e w7 ⟨c, rfl, y0, y1, -, r7, g7⟩
    have o7 := own_kept o6 g7 (by omega)
    have c7 := c6.trans (below_of_grown g7 (Nat.le_refl _) c6.size)
    have hkz : k < L.length := by rw [← unhide HN]; omega
    have fa := Win.flat_at L k hkz
    have fz := Win.flat_at L 0 (by rw [← unhide HN]; omega)
    have hok := unhide HOkW _ (Win.at_get L k hkz ▸ List.getElem_mem hkz : Win.at' L k ∈ L)
    obtain ⟨F0, hF0⟩ : ∃ F0, F0 = (Win.at' L 0).1 := ⟨_, rfl⟩
    obtain ⟨⟨F, C, U, Lo, Hi, La⟩, hE⟩ : ∃ x, x = Win.at' L k := ⟨_, rfl⟩
    rw [← hE] at fa hok
    rw [← hF0] at fz
    have hhi : 0 ≤ Hi ∧ Hi ≤ 2147483647 := by obtain ⟨-, -, ⟨h1, h2, h3, h4⟩, -⟩ := hok; simp only at h1 h2 h3 h4; omega
    simp only at fa
    rw [Nat.zero_mul] at fz
    have u0 : w7.cell? ⟨gb, k * 6, none⟩ = some (.int .i64 F) := by rw [o7.cellAt (k * 6) (by omega)]; exact fa.1
    have u1 : w7.cell? ⟨gb, k * 6 + 1, none⟩ = some (.int .i64 C) := by rw [o7.cellAt (k * 6 + 1) (by omega)]; exact fa.2.1
    have u2 : w7.cell? ⟨gb, k * 6 + 2, none⟩ = some (.int .i64 U) := by rw [o7.cellAt (k * 6 + 2) (by omega)]; exact fa.2.2.1
    have u4 : w7.cell? ⟨gb, k * 6 + 4, none⟩ = some (.int .i64 Hi) := by rw [o7.cellAt (k * 6 + 4) (by omega)]; exact fa.2.2.2.2.1
    have u5 : w7.cell? ⟨gb, k * 6 + 5, none⟩ = some (.int .i64 La) := by rw [o7.cellAt (k * 6 + 5) (by omega)]; exact fa.2.2.2.2.2
    have uz : w7.cell? ⟨gb, 0, none⟩ = some (.int .i64 F0) := by rw [o7.cellAt 0 (by omega)]; exact fz.1
    have f0 := o7.frozenAt (k * 6)
    have f1 := o7.frozenAt (k * 6 + 1)
    have f2 := o7.frozenAt (k * 6 + 2)
    have f5 := o7.frozenAt (k * 6 + 5)
    have hk0 : (0 : Int) ≤ (k : Int) := Int.natCast_nonneg _
    have hk1 : (k : Int) < (n : Int) + 1 := by omega
    have O7 := hide o7
    have HE := hide hE
    have hgw : w.heap.size ≤ gb := by omega
    have hL1 : L.length ≤ 10000 := by rw [← unhide HN]; exact hLl
    have hend := fun (u : Value) (j : Nat) (x' : WinM.W6) (i : Nat) (hj : j < 6) (h : Win.fl x' = (Win.fl (F, C, U, Lo, Hi, La)).set j u) (hi : i = k * 6 + j) => winsed_end (w := w) hL1 rfl (unhide HN) (unhide O7) hgw c7 hkz hj (by rw [← unhide HE]; exact h) hi
    have HEnd := hide hend
    clear o6 r6 g7 c6 o7 r7 fa fz hok hF0 hE hend
    by_cases hc0 : c = 0
    · subst hc0
      go_wp2_with fail
      go_ret
      exact unhide HEnd _ 1 (F, 0, U, Lo, Hi, La) _ (by omega) rfl rfl
    have nc0 : (c == 0) = false := by simp; omega
    by_cases hc1 : c = 1
    · subst hc1
      obtain ⟨H1, hH1⟩ : ∃ H1, Hi + 1 = H1 := ⟨_, rfl⟩
      have hw1 : wrap64 H1 = H1 := IntWalk.wrap64_in H1 ⟨by omega, by omega⟩
      go_wp2_with fail
      go_ret
      exact unhide HEnd _ 5 (F, C, U, Lo, Hi, H1) _ (by omega) rfl rfl
    have nc1 : (c == 1) = false := by simp; omega
    by_cases hc2 : c = 2
    · subst hc2
      go_wp2_with fail
      go_ret
      exact unhide HEnd _ 0 (F0, C, U, Lo, Hi, La) _ (by omega) rfl rfl
    have nc2 : (c == 2) = false := by simp; omega
    go_wp2_with fail
    go_ret
    exact unhide HEnd _ 2 (F, C, -1, Lo, Hi, La) _ (by omega) rfl rfl
  · have hx' : (x == 0) = false := by simp; omega
    have HI := hide (show Win.Is w5 (.slice (some ⟨gb, 0, none⟩) (n + 1) cc) L by refine Win.is_of_own (base := w3.heap.size) ?_; rw [← unhide HN]; exact o5)
    clear o5 r5
    go_wp2_with fail
    go_ret
    exact ⟨L, _, rfl, by rw [← unhide HN]; exact hLl, unhide HI, c5⟩
end Go.Proofs.Ytogdllkbiibicaa.Draw
