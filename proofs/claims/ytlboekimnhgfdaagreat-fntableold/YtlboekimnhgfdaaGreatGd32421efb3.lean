/- My own texts of one claim, laid together by program: DrawRows2, DrawRows3, TabDraw, TabBox. -/
import Derived.Test.YtlboekimnhgfdaaGreatG78ace41f95
import Derived.Test.YtlboekimnhgfdaaGreatGfd3a6dd580
import Derived.Test.YtlboekimnhgfdaaGreatG016b64dc06
import Derived.Test.YtlboekimnhgfdaaGreatG7d20644357
/- Rows are drawn, ok or not. -/
namespace Go.Proofs.YtlboekimnhgfdaaGreat.Row
open Go.RowKit Rw
set_option linter.unusedVariables false
theorem flat_set1 (cs : List C) (k : Nat) (hk : k < cs.length) (u : Value) : flatOf cl (cs.set k (u, (cat cs k).2)) = (flatOf cl cs).set (k * 2) u := by
  apply List.ext_getElem?
  intro j
  rw [List.getElem?_set]
  rcases Nat.lt_or_ge j (cs.length * 2) with hj | hj
  · obtain ⟨i, c, rfl, hc⟩ : ∃ i c, j = i * 2 + c ∧ c < 2 := ⟨j / 2, j % 2, by omega, by omega⟩
    have f1 := flat_at (cs.set k (u, (cat cs k).2)) i (by rw [List.length_set]; omega)
    have f2 := flat_at cs i (by omega)
    rw [cat_set _ _ _ _ hk] at f1
    have hfl : (flatOf cl cs).length = cs.length * 2 := flatOf_length clk cs
    rcases (show c = 0 ∨ c = 1 by omega) with rfl | rfl
    · rw [Nat.add_zero]
      by_cases e : i = k
      · subst e
        rw [if_pos rfl] at f1
        rw [f1.1, if_pos rfl, if_pos (by omega)]
      · rw [if_neg e] at f1
        rw [f1.1, if_neg (by omega), f2.1]
    · rw [if_neg (by omega), f1.2, f2.2]
      by_cases e : i = k
      · rw [if_pos e, e]
      · rw [if_neg e]
  · rw [List.getElem?_eq_none (by rw [flatOf_length clk, List.length_set]; omega), if_neg (by omega), List.getElem?_eq_none (by rw [flatOf_length clk]; omega)]
theorem far_of {lo : Nat} {w : World} {c : C} {x : E} (h1 : w.ownsRow lo 64 2 c.1 x.1.length (Lab.flat x.1)) (h2 : w.ownsRow lo 106 2 c.2 x.2.length (Sam.flat x.2)) : Elem w c x ∧ far lo c :=
  ⟨⟨Lab.is_of_own h1, Sam.is_of_own h2⟩, own_ge h1, own_ge h2⟩
theorem Own.isF {lo hi : Nat} {w : World} {v : Value} {zs : List E} (h : Own lo hi w v zs) : IsF lo w v zs := by
  obtain ⟨cs, h1, h2, h3, h4, h5, h6, h7⟩ := h
  exact ⟨cs, h1, lies_of_own h2, own_ge h2, fun i hi => far_of (h7 i hi).1.1 (h7 i hi).1.2⟩
theorem IsF.grown {B g : Nat} {w w' : World} {v : Value} {zs : List E} (h : IsF B w v zs) (hg : w.grownBy w' (some g)) (hb : g < B) : IsF B w' v zs := by
  obtain ⟨cs, h1, h2, h3, h4⟩ := h
  have ne : ∀ {u : Value}, (∀ k, u.ownBlock = some k → B ≤ k) → ∀ k, u.ownBlock = some k → some g ≠ some k := fun hu k hk e => by have := hu k hk; have := Option.some.inj e; omega
  exact ⟨cs, h1, h2.grown hg (ne h3), h3, fun i hi => ⟨⟨(h4 i hi).1.1.grown hg (ne (h4 i hi).2.1), (h4 i hi).1.2.grown hg (ne (h4 i hi).2.2)⟩, (h4 i hi).2⟩⟩
/-- the labels of a row turned -/
theorem setL {lo hi g q k : Nat} {w : World} {L : List E} {ls : List Lab.E} {lv : Value} (h : Own lo hi w (.slice (some ⟨g, 0, none⟩) L.length q) L) (hk : k < L.length) (hx : w.ownsRow lo 64 2 lv ls.length (Lab.flat ls)) :
    IsF lo (w.setCell ⟨g, k * 2, none⟩ lv) (.slice (some ⟨g, 0, none⟩) L.length q) (L.set k (ls, (at' L k).2)) := by
  obtain ⟨cs, h1, h2, h3, h4, h5, h6, h7⟩ := h
  have hst := (h2.stored (k * 2) lv).1
  have ho := (OnlyAt.refl g w).setCell (k * 2) lv
  have keepL : ∀ {n v} {xs : List Value}, w.ownsRow lo 64 2 v n xs → (w.setCell ⟨g, k * 2, none⟩ lv).ownsRow lo 64 2 v n xs := fun h => ho.own h (fun b hb e => own_ne_type h h2 (by decide) b hb (by rw [e]; rfl))
  have keepS : ∀ {n v} {xs : List Value}, w.ownsRow lo 106 2 v n xs → (w.setCell ⟨g, k * 2, none⟩ lv).ownsRow lo 106 2 v n xs := fun h => ho.own h (fun b hb e => own_ne_type h h2 (by decide) b hb (by rw [e]; rfl))
  refine ⟨cs.set k (lv, (cat cs k).2), by simp [h1], by rw [List.length_set, flat_set1 cs k (by omega)]; exact lies_of_own hst, own_ge hst, fun i hi => ?_⟩
  rw [List.length_set] at hi
  rw [cat_set _ _ _ _ (by omega), at_set _ _ _ _ hk]
  have h8 := h7 i hi
  by_cases e : i = k
  · subst e
    rw [if_pos rfl, if_pos rfl]
    exact far_of (keepL hx) (keepS h8.1.2)
  · rw [if_neg e, if_neg e]
    exact far_of (keepL h8.1.1) (keepS h8.1.2)
/-- the samples of a row turned -/
theorem setS {lo hi g q k : Nat} {w : World} {L : List E} {xs : List Sam.E} {xv : Value} (h : Own lo hi w (.slice (some ⟨g, 0, none⟩) L.length q) L) (hk : k < L.length) (hx : w.ownsRow lo 106 2 xv xs.length (Sam.flat xs)) :
    IsF lo (w.setCell ⟨g, k * 2 + 1, none⟩ xv) (.slice (some ⟨g, 0, none⟩) L.length q) (L.set k ((at' L k).1, xs)) := by
  obtain ⟨cs, h1, h2, h3, h4, h5, h6, h7⟩ := h
  have hst := (h2.stored (k * 2 + 1) xv).1
  have ho := (OnlyAt.refl g w).setCell (k * 2 + 1) xv
  have keepL : ∀ {n v} {xs : List Value}, w.ownsRow lo 64 2 v n xs → (w.setCell ⟨g, k * 2 + 1, none⟩ xv).ownsRow lo 64 2 v n xs := fun h => ho.own h (fun b hb e => own_ne_type h h2 (by decide) b hb (by rw [e]; rfl))
  have keepS : ∀ {n v} {ys : List Value}, w.ownsRow lo 106 2 v n ys → (w.setCell ⟨g, k * 2 + 1, none⟩ xv).ownsRow lo 106 2 v n ys := fun h => ho.own h (fun b hb e => own_ne_type h h2 (by decide) b hb (by rw [e]; rfl))
  refine ⟨cs.set k ((cat cs k).1, xv), by simp [h1], by rw [List.length_set, flat_set2 cs k (by omega)]; exact lies_of_own hst, own_ge hst, fun i hi => ?_⟩
  rw [List.length_set] at hi
  rw [cat_set _ _ _ _ (by omega), at_set _ _ _ _ hk]
  have h8 := h7 i hi
  by_cases e : i = k
  · subst e
    rw [if_pos rfl, if_pos rfl]
    exact far_of (keepL h8.1.1) (keepS hx)
  · rw [if_neg e, if_neg e]
    exact far_of (keepL h8.1.1) (keepS h8.1.2)
end Go.Proofs.YtlboekimnhgfdaaGreat.Row

/- Rows are drawn, ok or not: the walk. -/
namespace Go.Proofs.YtlboekimnhgfdaaGreat.Draw
open Go.RowKit Rw
set_option linter.unusedVariables false
attribute [local go_sem ↓] Go.wp_at_zero Go.wp_at_succ
/-- what is drawn is good, and not too much -/
def RG (zs : List Row.E) : Prop := zs.length ≤ 11 ∧ ∀ x ∈ zs, Row.good x ∧ x.1.length ≤ 20 ∧ x.2.length ≤ 1000
theorem rg_ok {L : List Row.E} (h : Row.ok L = true) : RG L := by
  refine ⟨by have := Row.ok_len h; omega, fun x hx => ⟨Row.fine_good (Row.fine_ok h) x hx, ?_⟩⟩
  obtain ⟨i, hi, rfl⟩ := List.getElem_of_mem hx
  have hst := Row.step_is (Row.ok_at h hi)
  rw [Row.at_get L i hi] at hst
  have := (Row.lab_good hst.1).1
  exact ⟨by omega, hst.2.2.1⟩
theorem rg_set {L : List Row.E} {k : Nat} {y : Row.E} (h : RG L) (hy : Row.good y ∧ y.1.length ≤ 20 ∧ y.2.length ≤ 1000) : RG (L.set k y) := by
  refine ⟨by rw [List.length_set]; exact h.1, fun x hx => ?_⟩
  rcases List.mem_or_eq_of_mem_set hx with hx | hx
  · exact h.2 x hx
  · rw [hx]; exact hy
theorem rg_at {L : List Row.E} {k : Nat} (h : RG L) (hk : k < L.length) : Row.good (Row.at' L k) ∧ (Row.at' L k).1.length ≤ 20 ∧ (Row.at' L k).2.length ≤ 1000 := h.2 _ (Row.at_mem L k hk)
theorem good_sg {zs : List Sam.E} (h : SG zs) : ∀ y ∈ zs, Sam.good y := fun y hy => by
  obtain ⟨h1, h2, h3, h4⟩ := h y hy
  exact ⟨Row.wf_i64 (by omega) (by omega), Row.wf_i64 (by omega) (by omega)⟩
set_option maxRecDepth 100000 in
set_option maxHeartbeats 16000000 in
theorem anyrows_any (rb p : Nat) (fr : Int) (w : World) (h : Rd w rb p) (hp : p ≤ 500000) (h0 : 0 ≤ fr) (h1 : fr ≤ 20000) :
    Calls Tryz.prog 94 #[.pointer (some ⟨rb, 0, none⟩), .int .i64 fr] w fun e w' => ∃ (zs : List Row.E) (v : Value), e = .returned v ∧ RG zs ∧ Row.IsF w.heap.size w' v zs ∧ (∃ p', p' ≤ p + 400 ∧ Rd w' rb p') ∧ w.grownBy w' (some rb) := by
  obtain ⟨i0, hi, hz0, hz1, hz2⟩ := info_parts Row.info_e
  have hrl := h.lt
  have HR := hide h
  clear h
  go_enter Tryz.func94, Tryz.ntmps94
  go_wp2_with fail
  refine (rows_any rb p fr _ (unhide HR) (by omega) h0 h1).mono ?_
  rintro e w1 ⟨L, v, rfl, hok, ho, ⟨p1, hp1, r1⟩, q1⟩
  have HRG := hide (rg_ok hok)
  have hn10 := Row.ok_len hok
  have z1 := q1.size
  have HO := hide ho
  have hown := ho
  obtain ⟨cs, g1, g2, -⟩ := hown
  obtain ⟨n, hn⟩ : ∃ n, n = L.length := ⟨_, rfl⟩
  rw [← hn] at g2 hn10
  have HN := hide hn
  have G2 := hide g2
  obtain ⟨a, q, rfl⟩ : ∃ a q, v = .slice a n q := by obtain ⟨-, a, q, e, -⟩ := lies_of_own g2; exact ⟨a, q, e⟩
  clear hok ho g1 g2 hn HR
  rcases n with _ | n
  · go_wp2
    go_ret
    exact ⟨L, _, rfl, unhide HRG, (unhide HO).isF, ⟨p1, by omega, r1⟩, q1⟩
  obtain ⟨g, rfl⟩ : ∃ g, a = some ⟨g, 0, none⟩ := by
    rcases (unhide G2).2 with ⟨e, -⟩ | ⟨g, cap, cur, e, -⟩
    · cases e
    · simp only [Value.slice.injEq] at e; exact ⟨g, e.1⟩
  have hge : w.heap.size ≤ g := own_ge (unhide G2) g rfl
  clear G2
  have hnp : 0 < n + 1 := by omega
  go_wp2_with fail
  refine (pick_any rb p1 _ _ r1 (by omega) (by omega)).mono ?_
  rintro e w2 ⟨kk, rfl, k0, k1, -, r2, g2⟩
  have k2 : kk < ((n + 1 : Nat) : Int) := k1 (by omega)
  obtain ⟨k, rfl⟩ := Int.eq_ofNat_of_zero_le k0
  have HO2 := hide (row_kept (unhide HO) g2 hrl)
  have q2 := grown_trans q1 g2
  clear k1 g2 HO q1 r1
  go_wp2_with fail
  refine (pick_any rb (p1 + 1) _ _ r2 (by omega) (by omega)).mono ?_
  rintro e w3 ⟨c, rfl, c0, c1, -, r3, g3⟩
  have HO3 := hide (row_kept (unhide HO2) g3 hrl)
  have q3 := grown_trans q2 g3
  have z3 := q3.size
  clear c1 g3 HO2 q2 r2
  have hkl : k < L.length := by have := unhide HN; omega
  have hk0 : (0 : Int) ≤ (k : Int) := Int.natCast_nonneg _
  have hk1 : (k : Int) < (n : Int) + 1 := by omega
  by_cases hc0 : c = 0
  · subst hc0
    go_wp2_with fail
    refine (anylabels_any rb (p1 + 1 + 1) _ r3 (by omega)).mono ?_
    rintro e w4 ⟨ls, lv, rfl, hl20, hsm, ol, ⟨p4, hp4, r4⟩, g4⟩
    have HO4 := row_kept (unhide HO3) g4 hrl
    have q4 := grown_trans q3 g4
    obtain ⟨la, lq, rfl⟩ : ∃ a q, lv = .slice a ls.length q := by obtain ⟨-, a, q, e, -⟩ := lies_of_own ol; exact ⟨a, q, e⟩
    obtain ⟨cs, f1, f2, -⟩ := id HO4
    rw [← unhide HN] at f2
    have u0 : w4.cell? ⟨g, k * 2, none⟩ = some (Row.cat cs k).1 := (f2.cellAt (k * 2) (by omega)).trans (Row.flat_at cs k (by omega)).1
    have f0 : w4.frozen? ⟨g, k * 2, none⟩ = false := f2.frozenAt _
    have HF := hide (Row.setL (g := g) (q := q) (k := k) (lv := .slice la ls.length lq) (by rw [← unhide HN]; exact HO4) hkl (own_mono ol z3))
    have HG := hide (rg_set (k := k) (y := (ls, (Row.at' L k).2)) (unhide HRG) ⟨⟨⟨by show ls.length ≤ maxLen; unfold maxLen; omega, fun y hy => good_smallL (hsm y hy)⟩, (rg_at (unhide HRG) hkl).1.2⟩, hl20, (rg_at (unhide HRG) hkl).2.2⟩)
    have gS := grown_only ((OnlyAt.refl g w4).setCell (k * 2) (.slice la ls.length lq))
    have Q := grown_other q4 gS (fun j hj => by cases hj; exact hge)
    have R := r4.grown gS (fun j hj => by cases hj; omega)
    have HL := hide (show (L.set k (ls, (Row.at' L k).2)).length = n + 1 by rw [List.length_set, ← unhide HN])
    rw [← unhide HN] at HF
    clear f1 f2 HO4 ol gS hsm g4
    generalize (Row.cat cs k).1 = uu at u0
    generalize ls.length = ll at *
    go_wp2
    go_ret
    exact ⟨L.set k (ls, (Row.at' L k).2), _, rfl, unhide HG, unhide HF, ⟨p4, by omega, R⟩, Q⟩
  by_cases hc1 : c = 1
  · subst hc1
    go_wp2_with fail
    refine (anysamples_good rb (p1 + 1 + 1) 3 _ r3 (by omega) (by omega)).mono ?_
    rintro e w4 ⟨xs, sg, sq, rfl, hl20, hsm, ol, ⟨p4, hp4, r4⟩, g4⟩
    have HO4 := row_kept (unhide HO3) g4 hrl
    have q4 := grown_trans q3 g4
    obtain ⟨cs, f1, f2, -⟩ := id HO4
    rw [← unhide HN] at f2
    have u0 : w4.cell? ⟨g, k * 2 + 1, none⟩ = some (Row.cat cs k).2 := (f2.cellAt (k * 2 + 1) (by omega)).trans (Row.flat_at cs k (by omega)).2
    have f0 : w4.frozen? ⟨g, k * 2 + 1, none⟩ = false := f2.frozenAt _
    have HF := hide (Row.setS (g := g) (q := q) (k := k) (xv := .slice (some ⟨sg, 0, none⟩) xs.length sq) (by rw [← unhide HN]; exact HO4) hkl (own_mono (by rw [← RSet.flat_eq]; exact ol) z3))
    have HG := hide (rg_set (k := k) (y := ((Row.at' L k).1, xs)) (unhide HRG) ⟨⟨(rg_at (unhide HRG) hkl).1.1, by show xs.length ≤ maxLen; unfold maxLen; omega, good_sg hsm⟩, (rg_at (unhide HRG) hkl).2.1, by show xs.length ≤ 1000; omega⟩)
    have gS := grown_only ((OnlyAt.refl g w4).setCell (k * 2 + 1) (.slice (some ⟨sg, 0, none⟩) xs.length sq))
    have Q := grown_other q4 gS (fun j hj => by cases hj; exact hge)
    have R := r4.grown gS (fun j hj => by cases hj; omega)
    rw [← unhide HN] at HF
    clear f1 f2 HO4 ol gS hsm g4
    generalize (Row.cat cs k).2 = uu at u0
    generalize xs.length = ll at *
    go_wp2
    go_ret
    exact ⟨L.set k ((Row.at' L k).1, xs), _, rfl, unhide HG, unhide HF, ⟨p4, by omega, R⟩, Q⟩
  by_cases hc2 : c = 2
  · subst hc2
    obtain ⟨cs, f1, f2, -, -, -, -, f7⟩ := id (unhide HO3)
    rw [← unhide HN] at f2
    have hgl : g < w3.heap.size := own_block_lt f2 g rfl
    have u0 : w3.cell? ⟨g, 0, none⟩ = some (Row.cat cs 0).1 := (f2.cellAt 0 (by omega)).trans (Row.flat_at cs 0 (by omega)).1
    have u1 : w3.cell? ⟨g, 1, none⟩ = some (Row.cat cs 0).2 := (f2.cellAt 1 (by omega)).trans (Row.flat_at cs 0 (by omega)).2
    have h70 := (f7 0 (by omega)).1
    obtain ⟨-, a0, q0, e0, -⟩ := lies_of_own h70.1
    obtain ⟨-, a1, q1', e1, -⟩ := lies_of_own h70.2
    generalize hl0 : (Row.at' L 0).1.length = l0 at e0
    generalize hl1 : (Row.at' L 0).2.length = l1 at e1
    have HE0 := hide e0
    have HE1 := hide e1
    rw [e0] at u0
    rw [e1] at u1
    have F2 := hide f2
    have F7 := hide f7
    have F1 := hide f1
    have hmx1 : 1 ≤ maxLen := by unfold maxLen; omega
    clear f1 f2 f7 h70 e0 e1 hl0 hl1
    go_wp2_with (at_builtin; refine app_wp _ rfl (.tmp 38) (.tmp 42) _ rfl w.heap.size 93 i0 _ 2 48 Tryz.underlying28 hi hz0 hz1 hz2 rfl (by omega) _ (n + 1) _ rfl (World.ownsRow.alloc (unhide F2) _) _ 1 [.slice a0 l0 q0, .slice a1 l1 q1'] rfl (lies_new (w := w3) (by simp) rfl hmx1) (by simp [Value.oneCell']) (by unfold maxLen; omega) (by omega) (by simp; omega) ?_; intro vn wn on gn an)
    have bA : Below w3.heap.size w3 (w3.alloc (.cells #[.slice a0 l0 q0, .slice a1 l1 q1'] 93)) := (Below.refl _ _).alloc (Nat.le_refl _) _
    have Q : w.grownBy wn (some rb) := grown_other (grown_trans q3 (grown_below bA)) gn (own_ge (unhide F2))
    have R : Rd wn rb (p1 + 1 + 1) := (r3.below bA).grown gn (fun j hj => by have := own_ge (unhide F2) j hj; omega)
    have HF := hide (show Row.IsF w.heap.size wn vn (L ++ [Row.at' L 0]) by
      have f1 := unhide F1
      have f7 := unhide F7
      have hlen : (L ++ [Row.at' L 0]).length = n + 1 + 1 := by rw [List.length_append, ← unhide HN]; rfl
      refine ⟨cs ++ [Row.cat cs 0], by rw [hlen]; simp [f1, ← unhide HN], ?_, own_ge on, fun i hi' => ?_⟩
      · rw [hlen, flatOf_append, flatOf_one]
        have : Row.cl (Row.cat cs 0) = [.slice a0 l0 q0, .slice a1 l1 q1'] := by unfold Row.cl; rw [unhide HE0, unhide HE1]
        rw [this]
        exact lies_of_own on
      · have keep : ∀ j, j < L.length → Row.Elem wn (Row.cat cs j) (Row.at' L j) ∧ Row.far w.heap.size (Row.cat cs j) := fun j hj => by
          have h7 := (f7 j hj).1
          exact Row.far_of (Row.own_grown gn (own_below h7.1 bA) (fun b hb e => own_ne_type h7.1 (unhide F2) (by decide) b hb e)) (Row.own_grown gn (own_below h7.2 bA) (fun b hb e => own_ne_type h7.2 (unhide F2) (by decide) b hb e))
        rw [hlen] at hi'
        by_cases hj : i < L.length
        · rw [Row.cat_lt _ _ _ (by omega), Row.at_lt _ _ _ hj]
          exact keep i hj
        · obtain rfl : i = L.length := by have := unhide HN; omega
          rw [Row.at_last, show Row.cat (cs ++ [Row.cat cs 0]) L.length = Row.cat cs 0 by rw [← f1]; exact Row.cat_last _ _]
          exact keep 0 (by omega))
    have HG := hide (show RG (L ++ [Row.at' L 0]) from ⟨by rw [List.length_append, ← unhide HN]; simp; omega, fun x hx => by
      rcases List.mem_append.1 hx with hx | hx
      · exact (unhide HRG).2 x hx
      · rw [List.mem_singleton.1 hx]; exact rg_at (unhide HRG) (by omega)⟩)
    clear on gn an u0 u1 F2 F7 bA
    go_wp2_with fail
    go_ret
    exact ⟨L ++ [Row.at' L 0], _, rfl, unhide HG, unhide HF, ⟨p1 + 1 + 1, by omega, R⟩, Q⟩
  · have d0 : (c == 0) = false := by simpa using hc0
    have d1 : (c == 1) = false := by simpa using hc1
    have d2 : (c == 2) = false := by simpa using hc2
    go_wp2
    go_ret
    exact ⟨L, _, rfl, unhide HRG, (unhide HO3).isF, ⟨p1 + 1 + 1, by omega, r3⟩, q3⟩
end Go.Proofs.YtlboekimnhgfdaaGreat.Draw

/- A table in a box of the call's own, as draws carry it along. No condition. -/
namespace Go.Proofs.YtlboekimnhgfdaaGreat.Tab
open Go.RowKit Rw Draw
set_option linter.unusedVariables false
/-- a table's box, its rows from a block on -/
def TabAt (B D q : Nat) (wx : World) (ra : Option Addr) (rl rq : Nat) (R : List Row.E) (H F : Int) : Prop :=
  wx.ownsRow B 30 3 (.slice (some ⟨q, 0, none⟩) 1 1) 1 [.slice ra rl rq, .int .i64 H, .int .i64 F] ∧ Row.IsF D wx (.slice ra rl rq) R ∧ tabB (R, H, F)
theorem TabAt.grown {B D q rb : Nat} {w w' : World} {ra : Option Addr} {rl rq : Nat} {R : List Row.E} {H F : Int} (h : TabAt B D q w ra rl rq R H F) (hg : w.grownBy w' (some rb)) (hr : rb < B ∧ rb < D) : TabAt B D q w' ra rl rq R H F :=
  ⟨own_kept h.1 hg hr.1, h.2.1.grown hg hr.2, h.2.2⟩
theorem TabAt.below {B D q : Nat} {w w' : World} {ra : Option Addr} {rl rq : Nat} {R : List Row.E} {H F : Int} (h : TabAt B D q w ra rl rq R H F) (hb : Below w.heap.size w w') : TabAt B D q w' ra rl rq R H F :=
  ⟨own_below h.1 hb, h.2.1.below hb, h.2.2⟩
theorem tabB_good {R : List Row.E} {H F : Int} (h : tabB (R, H, F)) : (∀ x ∈ R, Row.good x) ∧ R.length ≤ maxLen := ⟨Row.fine_good (Row.fine_ok h.1), by have h1 : R.length ≤ 10 := Row.ok_len h.1; unfold maxLen; omega⟩
theorem keep_tab {R : List Row.E} {H F age : Int} (h : tabB (R, H, F)) (h0 : -1 ≤ age) : tabB (keep age R H F) := by
  unfold keep
  split
  · rename_i hT
    split
    · exact h
    · rename_i hn
      refine ⟨Row.drop_ok _ _ h.1 (by decide), h.2.1, ?_⟩
      have hh := h.2.1
      have hf := h.2.2
      simp only at hh hf
      show 0 ≤ keepF H F age ∧ keepF H F age ≤ 9999
      unfold keepF
      simp only
      split <;> split <;> omega
  · exact ⟨by decide, by decide, by decide⟩
theorem new_tab : tabB ([], -1, 0) := ⟨by decide, by decide, by decide⟩
theorem isF_nil (B : Nat) (w : World) : Row.IsF B w (.slice none 0 0) [] := ⟨[], rfl, ⟨by simp [flatOf], none, 0, rfl, Nat.le_refl _, Nat.zero_le _, fun _ => rfl, fun h => absurd h (Nat.lt_irrefl _)⟩, fun k hk => (by cases hk), fun i hi => by simp at hi⟩
end Go.Proofs.YtlboekimnhgfdaaGreat.Tab

/- A table's box: laid new, and laid again. No condition. -/
namespace Go.Proofs.YtlboekimnhgfdaaGreat.Tab
open Go.RowKit Rw
set_option linter.unusedVariables false
theorem box_new {w : World} {base : Nat} (v : Value) (H F : Int) (hb : base ≤ w.heap.size) :
    (w.alloc (.cells #[v, .int .i64 H, .int .i64 0] 30)).cell? ⟨w.heap.size, 2, none⟩ = some (.int .i64 0) ∧ (w.alloc (.cells #[v, .int .i64 H, .int .i64 0] 30)).frozen? ⟨w.heap.size, 2, none⟩ = false ∧
    ((w.alloc (.cells #[v, .int .i64 H, .int .i64 0] 30)).setCell ⟨w.heap.size, 2, none⟩ (.int .i64 F)).ownsRow base 30 3 (.slice (some ⟨w.heap.size, 0, none⟩) 1 1) 1 [v, .int .i64 H, .int .i64 F] ∧
    Below w.heap.size w ((w.alloc (.cells #[v, .int .i64 H, .int .i64 0] 30)).setCell ⟨w.heap.size, 2, none⟩ (.int .i64 F)) ∧ w.heap.size + 1 ≤ ((w.alloc (.cells #[v, .int .i64 H, .int .i64 0] 30)).setCell ⟨w.heap.size, 2, none⟩ (.int .i64 F)).heap.size := by
  obtain ⟨V, hV⟩ : ∃ V, V = w.alloc (.cells #[v, .int .i64 H, .int .i64 0] 30) := ⟨_, rfl⟩
  have OV : V.ownsRow base 30 3 (.slice (some ⟨w.heap.size, 0, none⟩) 1 1) 1 [v, .int .i64 H, .int .i64 0] := by rw [hV]; exact own_new3 hb rfl
  have bV : Below w.heap.size w V := by rw [hV]; exact (Below.refl _ _).alloc (Nat.le_refl _) _
  have zV : V.heap.size = w.heap.size + 1 := by rw [hV]; simp
  rw [← hV]
  have on := (OnlyAt.refl w.heap.size V).setCell 2 (.int .i64 F)
  refine ⟨by rw [OV.cellAt 2 (by omega)]; rfl, OV.frozenAt 2, (OV.stored 2 (.int .i64 F)).1, bV.trans (on.below (Nat.le_refl _)), ?_⟩
  have := on.size
  omega
/-- a box that was laid, laid again -/
theorem box_put {w : World} {base q : Nat} {a b c : Value} (x y z : Value) (h : w.ownsRow base 30 3 (.slice (some ⟨q, 0, none⟩) 1 1) 1 [a, b, c]) :
    (w.cell? ⟨q, 0, none⟩ = some a ∧ w.frozen? ⟨q, 0, none⟩ = false) ∧ ((w.setCell ⟨q, 0, none⟩ x).cell? ⟨q, 1, none⟩ = some b ∧ (w.setCell ⟨q, 0, none⟩ x).frozen? ⟨q, 1, none⟩ = false) ∧
    (((w.setCell ⟨q, 0, none⟩ x).setCell ⟨q, 1, none⟩ y).cell? ⟨q, 2, none⟩ = some c ∧ ((w.setCell ⟨q, 0, none⟩ x).setCell ⟨q, 1, none⟩ y).frozen? ⟨q, 2, none⟩ = false) ∧
    (((w.setCell ⟨q, 0, none⟩ x).setCell ⟨q, 1, none⟩ y).setCell ⟨q, 2, none⟩ z).ownsRow base 30 3 (.slice (some ⟨q, 0, none⟩) 1 1) 1 [x, y, z] ∧ OnlyAt q w (((w.setCell ⟨q, 0, none⟩ x).setCell ⟨q, 1, none⟩ y).setCell ⟨q, 2, none⟩ z) := by
  have h1 := (h.stored 0 x).1
  have h2 : (w.setCell ⟨q, 0, none⟩ x).ownsRow base 30 3 (.slice (some ⟨q, 0, none⟩) 1 1) 1 [x, b, c] := h1
  have h3 := (h2.stored 1 y).1
  have h4 : ((w.setCell ⟨q, 0, none⟩ x).setCell ⟨q, 1, none⟩ y).ownsRow base 30 3 (.slice (some ⟨q, 0, none⟩) 1 1) 1 [x, y, c] := h3
  have h5 := (h4.stored 2 z).1
  exact ⟨⟨by rw [h.cellAt 0 (by omega)]; rfl, h.frozenAt 0⟩, ⟨by rw [h2.cellAt 1 (by omega)]; rfl, h2.frozenAt 1⟩, ⟨by rw [h4.cellAt 2 (by omega)]; rfl, h4.frozenAt 2⟩, h5, (((OnlyAt.refl q w).setCell 0 x).setCell 1 y).setCell 2 z⟩
theorem box_kept {w w' : World} {base q rb : Nat} {xs : List Value} (h : w.ownsRow base 30 3 (.slice (some ⟨q, 0, none⟩) 1 1) 1 xs) (hg : w.grownBy w' (some rb)) (hne : q ≠ rb) : w'.ownsRow base 30 3 (.slice (some ⟨q, 0, none⟩) 1 1) 1 xs :=
  h.kept hg (.inr (fun e => by simp only [Value.ownBlock, Option.some.injEq] at e; omega))
theorem box_three {w : World} {base q : Nat} {a b c : Value} (h : w.ownsRow base 30 3 (.slice (some ⟨q, 0, none⟩) 1 1) 1 [a, b, c]) :
    w.cell? ⟨q, 0, none⟩ = some a ∧ w.cell? ⟨q, 1, none⟩ = some b ∧ w.cell? ⟨q, 2, none⟩ = some c :=
  ⟨by rw [h.cellAt 0 (by omega)]; rfl, by rw [h.cellAt 1 (by omega)]; rfl, by rw [h.cellAt 2 (by omega)]; rfl⟩
end Go.Proofs.YtlboekimnhgfdaaGreat.Tab
