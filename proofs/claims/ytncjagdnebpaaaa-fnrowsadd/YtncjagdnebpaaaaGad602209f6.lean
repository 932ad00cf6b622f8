/- My own texts of one claim, laid together by program: DrawRows2, DrawRows3, GReg, RowSort. -/
import Derived.Test.YtncjagdnebpaaaaGba66025d16
import Derived.Test.YtncjagdnebpaaaaGb216fbfaf6
import Derived.Deep.RegionHeld3
import Derived.Test.YtncjagdnebpaaaaG31fbfc5a42
/- Rows are drawn, ok or not. -/
namespace Go.Proofs.Ytncjagdnebpaaaa.Row
open Go.RowKit Rw
set_option linter.unusedVariables false
theorem flat_set1 (cs : List C) (k : Nat) (hk : k < cs.length) (u : Value) : flatOf cl (cs.set k (u, (cat cs k).2)) = (flatOf cl cs).set (k * 2) u := by
  apply List.ext_getElem?
  intro j
  rw [List.getElem?_set]
  rcases Nat.lt_or_ge j (cs.length * 2) with hj | hj
  · obtain ⟨i, c, rfl, hc⟩ : ∃ i c, j = i * 2 + c ∧ c < 2 := ⟨j / 2, j % 2, by omega, by omega⟩
    have f1 := flat_at (cs.set k (u, (cat cs k).2)) i (by rw [List.length_set]; omega)
    have f2 := flat_at cs i (by omega)
    rw [cat_set _ _ _ _ hk] at f1
    have hfl : (flatOf cl cs).length = cs.length * 2 := flatOf_length clk cs
    rcases (show c = 0 ∨ c = 1 by omega) with rfl | rfl
    · rw [Nat.add_zero]
      by_cases e : i = k
      · subst e
        rw [if_pos rfl] at f1
        rw [f1.1, if_pos rfl, if_pos (by omega)]
      · rw [if_neg e] at f1
        rw [f1.1, if_neg (by omega), f2.1]
    · rw [if_neg (by omega), f1.2, f2.2]
      by_cases e : i = k
      · rw [if_pos e, e]
      · rw [if_neg e]
  · rw [List.getElem?_eq_none (by rw [flatOf_length clk, List.length_set]; omega), if_neg (by omega), List.getElem?_eq_none (by rw [flatOf_length clk]; omega)]
theorem far_of {lo : Nat} {w : World} {c : C} {x : E} (h1 : w.ownsRow lo 47 2 c.1 x.1.length (Lab.flat x.1)) (h2 : w.ownsRow lo 26 2 c.2 x.2.length (Sam.flat x.2)) : Elem w c x ∧ far lo c :=
  ⟨⟨Lab.is_of_own h1, Sam.is_of_own h2⟩, own_ge h1, own_ge h2⟩
theorem Own.isF {lo hi : Nat} {w : World} {v : Value} {zs : List E} (h : Own lo hi w v zs) : IsF lo w v zs := by
  obtain ⟨cs, h1, h2, h3, h4, h5, h6, h7⟩ := h
  exact ⟨cs, h1, lies_of_own h2, own_ge h2, fun i hi => far_of (h7 i hi).1.1 (h7 i hi).1.2⟩
theorem IsF.grown {B g : Nat} {w w' : World} {v : Value} {zs : List E} (h : IsF B w v zs) (hg : w.grownBy w' (some g)) (hb : g < B) : IsF B w' v zs := by
  obtain ⟨cs, h1, h2, h3, h4⟩ := h
  have ne : ∀ {u : Value}, (∀ k, u.ownBlock = some k → B ≤ k) → ∀ k, u.ownBlock = some k → some g ≠ some k := fun hu k hk e => by have := hu k hk; have := Option.some.inj e; omega
  exact ⟨cs, h1, h2.grown hg (ne h3), h3, fun i hi => ⟨⟨(h4 i hi).1.1.grown hg (ne (h4 i hi).2.1), (h4 i hi).1.2.grown hg (ne (h4 i hi).2.2)⟩, (h4 i hi).2⟩⟩
/-- the labels of a row turned -/
theorem setL {lo hi g q k : Nat} {w : World} {L : List E} {ls : List Lab.E} {lv : Value} (h : Own lo hi w (.slice (some ⟨g, 0, none⟩) L.length q) L) (hk : k < L.length) (hx : w.ownsRow lo 47 2 lv ls.length (Lab.flat ls)) :
    IsF lo (w.setCell ⟨g, k * 2, none⟩ lv) (.slice (some ⟨g, 0, none⟩) L.length q) (L.set k (ls, (at' L k).2)) := by
  obtain ⟨cs, h1, h2, h3, h4, h5, h6, h7⟩ := h
  have hst := (h2.stored (k * 2) lv).1
  have ho := (OnlyAt.refl g w).setCell (k * 2) lv
  have keepL : ∀ {n v} {xs : List Value}, w.ownsRow lo 47 2 v n xs → (w.setCell ⟨g, k * 2, none⟩ lv).ownsRow lo 47 2 v n xs := fun h => ho.own h (fun b hb e => own_ne_type h h2 (by decide) b hb (by rw [e]; rfl))
  have keepS : ∀ {n v} {xs : List Value}, w.ownsRow lo 26 2 v n xs → (w.setCell ⟨g, k * 2, none⟩ lv).ownsRow lo 26 2 v n xs := fun h => ho.own h (fun b hb e => own_ne_type h h2 (by decide) b hb (by rw [e]; rfl))
  refine ⟨cs.set k (lv, (cat cs k).2), by simp [h1], by rw [List.length_set, flat_set1 cs k (by omega)]; exact lies_of_own hst, own_ge hst, fun i hi => ?_⟩
  rw [List.length_set] at hi
  rw [cat_set _ _ _ _ (by omega), at_set _ _ _ _ hk]
  have h8 := h7 i hi
  by_cases e : i = k
  · subst e
    rw [if_pos rfl, if_pos rfl]
    exact far_of (keepL hx) (keepS h8.1.2)
  · rw [if_neg e, if_neg e]
    exact far_of (keepL h8.1.1) (keepS h8.1.2)
/-- the samples of a row turned -/
theorem setS {lo hi g q k : Nat} {w : World} {L : List E} {xs : List Sam.E} {xv : Value} (h : Own lo hi w (.slice (some ⟨g, 0, none⟩) L.length q) L) (hk : k < L.length) (hx : w.ownsRow lo 26 2 xv xs.length (Sam.flat xs)) :
    IsF lo (w.setCell ⟨g, k * 2 + 1, none⟩ xv) (.slice (some ⟨g, 0, none⟩) L.length q) (L.set k ((at' L k).1, xs)) := by
  obtain ⟨cs, h1, h2, h3, h4, h5, h6, h7⟩ := h
  have hst := (h2.stored (k * 2 + 1) xv).1
  have ho := (OnlyAt.refl g w).setCell (k * 2 + 1) xv
  have keepL : ∀ {n v} {xs : List Value}, w.ownsRow lo 47 2 v n xs → (w.setCell ⟨g, k * 2 + 1, none⟩ xv).ownsRow lo 47 2 v n xs := fun h => ho.own h (fun b hb e => own_ne_type h h2 (by decide) b hb (by rw [e]; rfl))
  have keepS : ∀ {n v} {ys : List Value}, w.ownsRow lo 26 2 v n ys → (w.setCell ⟨g, k * 2 + 1, none⟩ xv).ownsRow lo 26 2 v n ys := fun h => ho.own h (fun b hb e => own_ne_type h h2 (by decide) b hb (by rw [e]; rfl))
  refine ⟨cs.set k ((cat cs k).1, xv), by simp [h1], by rw [List.length_set, flat_set2 cs k (by omega)]; exact lies_of_own hst, own_ge hst, fun i hi => ?_⟩
  rw [List.length_set] at hi
  rw [cat_set _ _ _ _ (by omega), at_set _ _ _ _ hk]
  have h8 := h7 i hi
  by_cases e : i = k
  · subst e
    rw [if_pos rfl, if_pos rfl]
    exact far_of (keepL h8.1.1) (keepS hx)
  · rw [if_neg e, if_neg e]
    exact far_of (keepL h8.1.1) (keepS h8.1.2)
end Go.Proofs.Ytncjagdnebpaaaa.Row

/- Rows are drawn, ok or not: the walk. -/
namespace Go.Proofs.Ytncjagdnebpaaaa.Draw
open Go.RowKit Rw
set_option linter.unusedVariables false
attribute [local go_sem ↓] Go.wp_at_zero Go.wp_at_succ
/-- what is drawn is good, and not too much -/
def RG (zs : List Row.E) : Prop := zs.length ≤ 11 ∧ ∀ x ∈ zs, Row.good x ∧ x.1.length ≤ 20 ∧ x.2.length ≤ 1000
theorem rg_ok {L : List Row.E} (h : Row.ok L = true) : RG L := by
  refine ⟨by have := Row.ok_len h; omega, fun x hx => ⟨Row.fine_good (Row.fine_ok h) x hx, ?_⟩⟩
  obtain ⟨i, hi, rfl⟩ := List.getElem_of_mem hx
  have hst := Row.step_is (Row.ok_at h hi)
  rw [Row.at_get L i hi] at hst
  have := (Row.lab_good hst.1).1
  exact ⟨by omega, hst.2.2.1⟩
theorem rg_set {L : List Row.E} {k : Nat} {y : Row.E} (h : RG L) (hy : Row.good y ∧ y.1.length ≤ 20 ∧ y.2.length ≤ 1000) : RG (L.set k y) := by
  refine ⟨by rw [List.length_set]; exact h.1, fun x hx => ?_⟩
  rcases List.mem_or_eq_of_mem_set hx with hx | hx
  · exact h.2 x hx
  · rw [hx]; exact hy
theorem rg_at {L : List Row.E} {k : Nat} (h : RG L) (hk : k < L.length) : Row.good (Row.at' L k) ∧ (Row.at' L k).1.length ≤ 20 ∧ (Row.at' L k).2.length ≤ 1000 := h.2 _ (Row.at_mem L k hk)
theorem good_sg {zs : List Sam.E} (h : SG zs) : ∀ y ∈ zs, Sam.good y := fun y hy => by
  obtain ⟨h1, h2, h3, h4⟩ := h y hy
  exact ⟨Row.wf_i64 (by omega) (by omega), Row.wf_i64 (by omega) (by omega)⟩
set_option maxRecDepth 100000 in
set_option maxHeartbeats 16000000 in
theorem anyrows_any (rb p : Nat) (fr : Int) (w : World) (h : Rd w rb p) (hp : p ≤ 500000) (h0 : 0 ≤ fr) (h1 : fr ≤ 20000) :
    Calls Try.prog 13 #[.pointer (some ⟨rb, 0, none⟩), .int .i64 fr] w fun e w' => ∃ (zs : List Row.E) (v : Value), e = .returned v ∧ RG zs ∧ Row.IsF w.heap.size w' v zs ∧ (∃ p', p' ≤ p + 400 ∧ Rd w' rb p') ∧ w.grownBy w' (some rb) := by
  obtain ⟨i0, hi, hz0, hz1, hz2⟩ := info_parts Row.info_e
  have hrl := h.lt
  have HR := hide h
  clear h
  go_enter Try.func13, Try.ntmps13
  go_wp2_with fail
  refine (rows_any rb p fr _ (unhide HR) (by omega) h0 h1).mono ?_
  rintro e w1 ⟨L, v, rfl, hok, ho, ⟨p1, hp1, r1⟩, q1⟩
  have HRG := hide (rg_ok hok)
  have hn10 := Row.ok_len hok
  have z1 := q1.size
  have HO := hide ho
  have hown := ho
  obtain ⟨cs, g1, g2, -⟩ := hown
  obtain ⟨n, hn⟩ : ∃ n, n = L.length := ⟨_, rfl⟩
  rw [← hn] at g2 hn10
  have HN := hide hn
  have G2 := hide g2
  obtain ⟨a, q, rfl⟩ : ∃ a q, v = .slice a n q := by obtain ⟨-, a, q, e, -⟩ := lies_of_own g2; exact ⟨a, q, e⟩
  clear hok ho g1 g2 hn HR
  rcases n with _ | n
  · go_wp2
    go_ret
    exact ⟨L, _, rfl, unhide HRG, (unhide HO).isF, ⟨p1, by omega, r1⟩, q1⟩
  obtain ⟨g, rfl⟩ : ∃ g, a = some ⟨g, 0, none⟩ := by
    rcases (unhide G2).2 with ⟨e, -⟩ | ⟨g, cap, cur, e, -⟩
    · cases e
    · simp only [Value.slice.injEq] at e; exact ⟨g, e.1⟩
  have hge : w.heap.size ≤ g := own_ge (unhide G2) g rfl
  clear G2
  have hnp : 0 < n + 1 := by omega
  go_wp2_with fail
  refine (pick_any rb p1 _ _ r1 (by omega) (by omega)).mono ?_
  rintro e w2 ⟨kk, rfl, k0, k1, -, r2, g2⟩
  have k2 : kk < ((n + 1 : Nat) : Int) := k1 (by omega)
  obtain ⟨k, rfl⟩ := Int.eq_ofNat_of_zero_le k0
  have HO2 := hide (row_kept (unhide HO) g2 hrl)
  have q2 := grown_trans q1 g2
  clear k1 g2 HO q1 r1
  go_wp2_with fail
  refine (pick_any rb (p1 + 1) _ _ r2 (by omega) (by omega)).mono ?_
  rintro e w3 ⟨c, rfl, c0, c1, -, r3, g3⟩
  have HO3 := hide (row_kept (unhide HO2) g3 hrl)
  have q3 := grown_trans q2 g3
  have z3 := q3.size
  clear c1 g3 HO2 q2 r2
  have hkl : k < L.length := by have := unhide HN; omega
  have hk0 : (0 : Int) ≤ (k : Int) := Int.natCast_nonneg _
  have hk1 : (k : Int) < (n : Int) + 1 := by omega
  by_cases hc0 : c = 0
  · subst hc0
    go_wp2_with fail
    refine (anylabels_any rb (p1 + 1 + 1) _ r3 (by omega)).mono ?_
    rintro e w4 ⟨ls, lv, rfl, hl20, hsm, ol, ⟨p4, hp4, r4⟩, g4⟩
    have HO4 := row_kept (unhide HO3) g4 hrl
    have q4 := grown_trans q3 g4
    obtain ⟨la, lq, rfl⟩ : ∃ a q, lv = .slice a ls.length q := by obtain ⟨-, a, q, e, -⟩ := lies_of_own ol; exact ⟨a, q, e⟩
    obtain ⟨cs, f1, f2, -⟩ := id HO4
    rw [← unhide HN] at f2
    have u0 : w4.cell? ⟨g, k * 2, none⟩ = some (Row.cat cs k).1 := (f2.cellAt (k * 2) (by omega)).trans (Row.flat_at cs k (by omega)).1
    have f0 : w4.frozen? ⟨g, k * 2, none⟩ = false := f2.frozenAt _
    have HF := hide (Row.setL (g := g) (q := q) (k := k) (lv := .slice la ls.length lq) (by rw [← unhide HN]; exact HO4) hkl (own_mono ol z3))
    have HG := hide (rg_set (k := k) (y := (ls, (Row.at' L k).2)) (unhide HRG) ⟨⟨⟨by show ls.length ≤ maxLen; unfold maxLen; omega, fun y hy => good_smallL (hsm y hy)⟩, (rg_at (unhide HRG) hkl).1.2⟩, hl20, (rg_at (unhide HRG) hkl).2.2⟩)
    have gS := grown_only ((OnlyAt.refl g w4).setCell (k * 2) (.slice la ls.length lq))
    have Q := grown_other q4 gS (fun j hj => by cases hj; exact hge)
    have R := r4.grown gS (fun j hj => by cases hj; omega)
    have HL := hide (show (L.set k (ls, (Row.at' L k).2)).length = n + 1 by rw [List.length_set, ← unhide HN])
    rw [← unhide HN] at HF
    clear f1 f2 HO4 ol gS hsm g4
    generalize (Row.cat cs k).1 = uu at u0
    generalize ls.length = ll at *
    go_wp2
    go_ret
    exact ⟨L.set k (ls, (Row.at' L k).2), _, rfl, unhide HG, unhide HF, ⟨p4, by omega, R⟩, Q⟩
  by_cases hc1 : c = 1
  · subst hc1
    go_wp2_with fail
    refine (anysamples_good rb (p1 + 1 + 1) 3 _ r3 (by omega) (by omega)).mono ?_
    rintro e w4 ⟨xs, sg, sq, rfl, hl20, hsm, ol, ⟨p4, hp4, r4⟩, g4⟩
    have HO4 := row_kept (unhide HO3) g4 hrl
    have q4 := grown_trans q3 g4
    obtain ⟨cs, f1, f2, -⟩ := id HO4
    rw [← unhide HN] at f2
    have u0 : w4.cell? ⟨g, k * 2 + 1, none⟩ = some (Row.cat cs k).2 := (f2.cellAt (k * 2 + 1) (by omega)).trans (Row.flat_at cs k (by omega)).2
    have f0 : w4.frozen? ⟨g, k * 2 + 1, none⟩ = false := f2.frozenAt _
    have HF := hide (Row.setS (g := g) (q := q) (k := k) (xv := .slice (some ⟨sg, 0, none⟩) xs.length sq) (by rw [← unhide HN]; exact HO4) hkl (own_mono (by rw [← RSet.flat_eq]; exact ol) z3))
    have HG := hide (rg_set (k := k) (y := ((Row.at' L k).1, xs)) (unhide HRG) ⟨⟨(rg_at (unhide HRG) hkl).1.1, by show xs.length ≤ maxLen; unfold maxLen; omega, good_sg hsm⟩, (rg_at (unhide HRG) hkl).2.1, by show xs.length ≤ 1000; omega⟩)
    have gS := grown_only ((OnlyAt.refl g w4).setCell (k * 2 + 1) (.slice (some ⟨sg, 0, none⟩) xs.length sq))
    have Q := grown_other q4 gS (fun j hj => by cases hj; exact hge)
    have R := r4.grown gS (fun j hj => by cases hj; omega)
    rw [← unhide HN] at HF
    clear f1 f2 HO4 ol gS hsm g4
    generalize (Row.cat cs k).2 = uu at u0
    generalize xs.length = ll at *
    go_wp2
    go_ret
    exact ⟨L.set k ((Row.at' L k).1, xs), _, rfl, unhide HG, unhide HF, ⟨p4, by omega, R⟩, Q⟩
  by_cases hc2 : c = 2
  · subst hc2
    obtain ⟨cs, f1, f2, -, -, -, -, f7⟩ := id (unhide HO3)
    rw [← unhide HN] at f2
    have hgl : g < w3.heap.size := own_block_lt f2 g rfl
    have u0 : w3.cell? ⟨g, 0, none⟩ = some (Row.cat cs 0).1 := (f2.cellAt 0 (by omega)).trans (Row.flat_at cs 0 (by omega)).1
    have u1 : w3.cell? ⟨g, 1, none⟩ = some (Row.cat cs 0).2 := (f2.cellAt 1 (by omega)).trans (Row.flat_at cs 0 (by omega)).2
    have h70 := (f7 0 (by omega)).1
    obtain ⟨-, a0, q0, e0, -⟩ := lies_of_own h70.1
    obtain ⟨-, a1, q1', e1, -⟩ := lies_of_own h70.2
    generalize hl0 : (Row.at' L 0).1.length = l0 at e0
    generalize hl1 : (Row.at' L 0).2.length = l1 at e1
    have HE0 := hide e0
    have HE1 := hide e1
    rw [e0] at u0
    rw [e1] at u1
    have F2 := hide f2
    have F7 := hide f7
    have F1 := hide f1
    have hmx1 : 1 ≤ maxLen := by unfold maxLen; omega
    clear f1 f2 f7 h70 e0 e1 hl0 hl1
    go_wp2_with (at_builtin; refine app_wp _ rfl (.tmp 38) (.tmp 42) _ rfl w.heap.size 44 i0 _ 2 48 Try.underlying23 hi hz0 hz1 hz2 rfl (by omega) _ (n + 1) _ rfl (World.ownsRow.alloc (unhide F2) _) _ 1 [.slice a0 l0 q0, .slice a1 l1 q1'] rfl (lies_new (w := w3) (by simp) rfl hmx1) (by simp [Value.oneCell']) (by unfold maxLen; omega) (by omega) (by simp; omega) ?_; intro vn wn on gn an)
    have bA : Below w3.heap.size w3 (w3.alloc (.cells #[.slice a0 l0 q0, .slice a1 l1 q1'] 44)) := (Below.refl _ _).alloc (Nat.le_refl _) _
    have Q : w.grownBy wn (some rb) := grown_other (grown_trans q3 (grown_below bA)) gn (own_ge (unhide F2))
    have R : Rd wn rb (p1 + 1 + 1) := (r3.below bA).grown gn (fun j hj => by have := own_ge (unhide F2) j hj; omega)
    have HF := hide (show Row.IsF w.heap.size wn vn (L ++ [Row.at' L 0]) by
      have f1 := unhide F1
      have f7 := unhide F7
      have hlen : (L ++ [Row.at' L 0]).length = n + 1 + 1 := by rw [List.length_append, ← unhide HN]; rfl
      refine ⟨cs ++ [Row.cat cs 0], by rw [hlen]; simp [f1, ← unhide HN], ?_, own_ge on, fun i hi' => ?_⟩
      · rw [hlen, flatOf_append, flatOf_one]
        have : Row.cl (Row.cat cs 0) = [.slice a0 l0 q0, .slice a1 l1 q1'] := by unfold Row.cl; rw [unhide HE0, unhide HE1]
        rw [this]
        exact lies_of_own on
      · have keep : ∀ j, j < L.length → Row.Elem wn (Row.cat cs j) (Row.at' L j) ∧ Row.far w.heap.size (Row.cat cs j) := fun j hj => by
          have h7 := (f7 j hj).1
          exact Row.far_of (Row.own_grown gn (own_below h7.1 bA) (fun b hb e => own_ne_type h7.1 (unhide F2) (by decide) b hb e)) (Row.own_grown gn (own_below h7.2 bA) (fun b hb e => own_ne_type h7.2 (unhide F2) (by decide) b hb e))
        rw [hlen] at hi'
        by_cases hj : i < L.length
        · rw [Row.cat_lt _ _ _ (by omega), Row.at_lt _ _ _ hj]
          exact keep i hj
        · obtain rfl : i = L.length := by have := unhide HN; omega
          rw [Row.at_last, show Row.cat (cs ++ [Row.cat cs 0]) L.length = Row.cat cs 0 by rw [← f1]; exact Row.cat_last _ _]
          exact keep 0 (by omega))
    have HG := hide (show RG (L ++ [Row.at' L 0]) from ⟨by rw [List.length_append, ← unhide HN]; simp; omega, fun x hx => by
      rcases List.mem_append.1 hx with hx | hx
      · exact (unhide HRG).2 x hx
      · rw [List.mem_singleton.1 hx]; exact rg_at (unhide HRG) (by omega)⟩)
    clear on gn an u0 u1 F2 F7 bA
    go_wp2_with fail
    go_ret
    exact ⟨L ++ [Row.at' L 0], _, rfl, unhide HG, unhide HF, ⟨p1 + 1 + 1, by omega, R⟩, Q⟩
  · have d0 : (c == 0) = false := by simpa using hc0
    have d1 : (c == 1) = false := by simpa using hc1
    have d2 : (c == 2) = false := by simpa using hc2
    go_wp2
    go_ret
    exact ⟨L, _, rfl, unhide HRG, (unhide HO3).isF, ⟨p1 + 1 + 1, by omega, r3⟩, q3⟩
end Go.Proofs.Ytncjagdnebpaaaa.Draw

/- A region that draws its order, walked operation by operation: what is wanted and yields, what is not wanted, what is carried out alone. No condition. -/
namespace Go.Proofs.Ytncjagdnebpaaaa.Grl
open Go.RowKit
section
variable {P : Program} {l : List Oper} {Q : Exit → Act → World → Prop} {md : Region.Mode} {S : World → Prop}
theorem yes (i : Nat) {oi : Oper} {v : Value} {fuel : Nat} {listed : Array Bool} {a : Act} {w : World} (hi : l[i]? = some oi)
    (hs : Region.noSelect l.toArray = true) (hf : Region.free md l.toArray listed i = true) (hr : (Region.ready md l.toArray listed).contains i = true)
    (hQ : ∀ c a w, Q (.panic c) (a.put oi.dst v) w → Q (.panic c) a w) (hw : Region.wanted oi (yielded l.toArray a.tmps) = true) (hy : ∀ w, S w → (execOp a.eval oi).run P w = .ok (.value v) w) (hS : S w)
    (h : wpAnyH P md l.toArray Q S fuel (listed.setIfInBounds i true) (a.put oi.dst v) w) : wpAnyH P md l.toArray Q S (fuel + 1) listed a w :=
  wpAnyH_take (by simpa using hi) hs hf hr hQ (.inl ⟨hw, hy⟩) hS h
theorem no (i : Nat) {oi : Oper} {fuel : Nat} {listed : Array Bool} {a : Act} {w : World} (hi : l[i]? = some oi)
    (hs : Region.noSelect l.toArray = true) (hf : Region.free md l.toArray listed i = true) (hr : (Region.ready md l.toArray listed).contains i = true)
    (hQ : ∀ c a w, Q (.panic c) (a.put oi.dst undef) w → Q (.panic c) a w) (hw : Region.wanted oi (yielded l.toArray a.tmps) = false) (hS : S w)
    (h : wpAnyH P md l.toArray Q S fuel (listed.setIfInBounds i true) (a.put oi.dst undef) w) : wpAnyH P md l.toArray Q S (fuel + 1) listed a w :=
  wpAnyH_take (by simpa using hi) hs hf hr hQ (.inr ⟨hw, rfl⟩) hS h
theorem one (i : Nat) {o : Oper} {fuel : Nat} {listed : Array Bool} {a : Act} {w : World} (hi : l[i]? = some o) (hr : Region.ready md l.toArray listed = [i])
    (h : ∀ K' : Act → World → Prop, Shut (∀ a w, S w → (S w → wpAnyH P md l.toArray Q S fuel (listed.setIfInBounds i true) a w) → K' a w) → if Region.wanted o (yielded l.toArray a.tmps) = true then Oper.wp P o a w K' Q else K' (a.put o.dst undef) w) :
    wpAnyH P md l.toArray Q S (fuel + 1) listed a w :=
  wpAnyH_ready hr (by simp) (AllReadyH.cons (by simpa using hi) h AllReadyH.nil)
theorem two (i j : Nat) {oi oj : Oper} {fuel : Nat} {listed : Array Bool} {a : Act} {w : World} (hi : l[i]? = some oi) (hj : l[j]? = some oj) (hr : Region.ready md l.toArray listed = [i, j])
    (h1 : ∀ K' : Act → World → Prop, Shut (∀ a w, S w → (S w → wpAnyH P md l.toArray Q S fuel (listed.setIfInBounds i true) a w) → K' a w) → if Region.wanted oi (yielded l.toArray a.tmps) = true then Oper.wp P oi a w K' Q else K' (a.put oi.dst undef) w)
    (h2 : ∀ K' : Act → World → Prop, Shut (∀ a w, S w → (S w → wpAnyH P md l.toArray Q S fuel (listed.setIfInBounds j true) a w) → K' a w) → if Region.wanted oj (yielded l.toArray a.tmps) = true then Oper.wp P oj a w K' Q else K' (a.put oj.dst undef) w) :
    wpAnyH P md l.toArray Q S (fuel + 1) listed a w :=
  wpAnyH_ready hr (by simp) (AllReadyH.cons (by simpa using hi) h1 (AllReadyH.cons (by simpa using hj) h2 AllReadyH.nil))
theorem start {id : Nat} {a : Act} {w : World} (hm : P.follows .mixedOrders = true) (hS : S w.drew)
    (h : S w.drew → wpAnyH P .any l.toArray Q S l.length (Array.replicate l.length false) a w.drew) : (Code.region id l.toArray true).wp P Q a w :=
  wp_region_held_drew hm hS (by simpa using h)
end
theorem wrap_ok {n : Int} (h0 : -4611686018427387904 ≤ n) (h1 : n ≤ 4611686018427387904) : IntKind.i64.wrap n = n := by
  have hb : (2 : Int) ^ IntKind.i64.bits = 18446744073709551616 := by decide
  have hb' : (2 : Int) ^ (IntKind.i64.bits - 1) = 9223372036854775808 := by decide
  unfold IntKind.wrap
  simp only [hb, hb']
  have hs : IntKind.i64.signed = true := rfl
  simp only [hs, Bool.true_and, decide_eq_true_eq]
  split <;> omega
end Go.Proofs.Ytncjagdnebpaaaa.Grl

/- Rows that a call has made itself: one turned, two that change places (the model's l13Sort). -/
namespace Go.Proofs.Ytncjagdnebpaaaa.Row
open Go.RowKit Rw
set_option linter.unusedVariables false
set_option linter.unusedSimpArgs false
attribute [local go_sem ↓] Go.wp_at_zero Go.wp_at_succ
/-- rows whose slices the call has made itself (two of them may lie in one) -/
def Dn (lo : Nat) (w : World) (v : Value) (L : List E) : Prop := ∃ cs : List C, cs.length = L.length ∧ w.ownsRow lo 44 2 v L.length (flatOf cl cs) ∧ ∀ i, i < L.length → w.ownsRow lo 47 2 (cat cs i).1 (at' L i).1.length (Lab.flat (at' L i).1) ∧ w.ownsRow lo 26 2 (cat cs i).2 (at' L i).2.length (Sam.flat (at' L i).2)
theorem Own.dn {lo hi : Nat} {w : World} {v : Value} {L : List E} (h : Own lo hi w v L) : Dn lo w v L := by
  obtain ⟨cs, h1, h2, h3, h4, h5, h6, h7⟩ := h
  exact ⟨cs, h1, h2, fun i hi => (h7 i hi).1⟩
theorem Dn.isF {lo : Nat} {w : World} {v : Value} {L : List E} (h : Dn lo w v L) : IsF lo w v L := by
  obtain ⟨cs, h1, h2, h7⟩ := h
  exact ⟨cs, h1, lies_of_own h2, own_ge h2, fun i hi => far_of (h7 i hi).1 (h7 i hi).2⟩
theorem Dn.below {lo : Nat} {w w' : World} {v : Value} {L : List E} (h : Dn lo w v L) (hb : Below w.heap.size w w') : Dn lo w' v L := by
  obtain ⟨cs, h1, h2, h7⟩ := h
  exact ⟨cs, h1, own_below h2 hb, fun i hi => ⟨own_below (h7 i hi).1 hb, own_below (h7 i hi).2 hb⟩⟩
theorem Dn.kept {lo rb : Nat} {w w' : World} {v : Value} {L : List E} (h : Dn lo w v L) (hg : w.grownBy w' (some rb)) (hr : rb < lo) : Dn lo w' v L := by
  obtain ⟨cs, h1, h2, h7⟩ := h
  exact ⟨cs, h1, Draw.own_kept h2 hg hr, fun i hi => ⟨Draw.own_kept (h7 i hi).1 hg hr, Draw.own_kept (h7 i hi).2 hg hr⟩⟩
theorem flat_set (cs : List C) (k : Nat) (hk : k < cs.length) (c : C) : flatOf cl (cs.set k c) = ((flatOf cl cs).set (k * 2) c.1).set (k * 2 + 1) c.2 := by
  have h1 := flat_set1 cs k hk c.1
  have h2 := flat_set2 (cs.set k (c.1, (cat cs k).2)) k (by rw [List.length_set]; exact hk) c.2
  rw [cat_set _ _ _ _ hk, if_pos rfl, List.set_set, h1] at h2
  exact h2
theorem Dn.only {lo g n q k : Nat} {w : World} {L : List E} (h : Dn lo w (.slice (some ⟨g, 0, none⟩) n q) L) {w' : World} (ho : OnlyAt g w w') {m s : Nat} {v : Value} {xs : List Value} {t : TypeId} (ht : t ≠ 44) (hx : w.ownsRow lo t s v m xs) : w'.ownsRow lo t s v m xs := by
  obtain ⟨cs, h1, h2, h7⟩ := h
  exact ho.own hx (fun b hb e => own_ne_type hx h2 ht b hb (by rw [e]; rfl))
/-- a row of them turned -/
theorem Dn.stored {lo g q k n : Nat} {w : World} {L : List E} {x : E} {c0 c1 : Value} (h : Dn lo w (.slice (some ⟨g, 0, none⟩) n q) L) (hn : n = L.length) (hk : k < L.length) (hx : w.ownsRow lo 47 2 c0 x.1.length (Lab.flat x.1) ∧ w.ownsRow lo 26 2 c1 x.2.length (Sam.flat x.2)) :
    Dn lo ((w.setCell ⟨g, k * 2, none⟩ c0).setCell ⟨g, k * 2 + 1, none⟩ c1) (.slice (some ⟨g, 0, none⟩) n q) (L.set k x) := by
  subst hn
  have ho := ((OnlyAt.refl g w).setCell (k * 2) c0).setCell (k * 2 + 1) c1
  have keepL : ∀ {m v} {xs : List Value}, w.ownsRow lo 47 2 v m xs → ((w.setCell ⟨g, k * 2, none⟩ c0).setCell ⟨g, k * 2 + 1, none⟩ c1).ownsRow lo 47 2 v m xs := fun hx => Dn.only (k := k) h ho (by decide) hx
  have keepS : ∀ {m v} {xs : List Value}, w.ownsRow lo 26 2 v m xs → ((w.setCell ⟨g, k * 2, none⟩ c0).setCell ⟨g, k * 2 + 1, none⟩ c1).ownsRow lo 26 2 v m xs := fun hx => Dn.only (k := k) h ho (by decide) hx
  obtain ⟨cs, h1, h2, h7⟩ := h
  have hst := ((h2.stored (k * 2) c0).1.stored (k * 2 + 1) c1).1
  refine ⟨cs.set k (c0, c1), by simp [h1], by rw [List.length_set, flat_set cs k (by omega)]; exact hst, fun i hi => ?_⟩
  rw [List.length_set] at hi
  rw [cat_set _ _ _ _ (by omega), at_set _ _ _ _ hk]
  by_cases e : i = k
  · rw [if_pos e, if_pos e]
    exact ⟨keepL hx.1, keepS hx.2⟩
  · rw [if_neg e, if_neg e]
    exact ⟨keepL (h7 i hi).1, keepS (h7 i hi).2⟩
/-- what one may read of a row of them -/
theorem Dn.at {lo g n q k : Nat} {w : World} {L : List E} (h : Dn lo w (.slice (some ⟨g, 0, none⟩) n q) L) (hn : n = L.length) (hk : k < L.length) : ∃ (a0 : Option Addr) (l0 q0 : Nat) (a1 : Option Addr) (l1 q1 : Nat), Hid (l0 = (at' L k).1.length ∧ l1 = (at' L k).2.length) ∧
    w.cell? ⟨g, k * 2, none⟩ = some (.slice a0 l0 q0) ∧ w.cell? ⟨g, k * 2 + 1, none⟩ = some (.slice a1 l1 q1) ∧ w.frozen? ⟨g, k * 2, none⟩ = false ∧ w.frozen? ⟨g, k * 2 + 1, none⟩ = false ∧ g < w.heap.size ∧ lo ≤ g ∧
    Hid (w.ownsRow lo 47 2 (.slice a0 l0 q0) (at' L k).1.length (Lab.flat (at' L k).1) ∧ w.ownsRow lo 26 2 (.slice a1 l1 q1) (at' L k).2.length (Sam.flat (at' L k).2)) := by
  subst hn
  obtain ⟨cs, h1, h2, h7⟩ := h
  obtain ⟨o1, o2⟩ := h7 k hk
  have f := flat_at cs k (by omega)
  have u0 := (h2.cellAt (k * 2) (by omega)).trans f.1
  have u1 := (h2.cellAt (k * 2 + 1) (by omega)).trans f.2
  obtain ⟨-, a0, q0, e0, -⟩ := lies_of_own o1
  obtain ⟨-, a1, q1, e1, -⟩ := lies_of_own o2
  rw [e0] at u0 o1
  rw [e1] at u1 o2
  exact ⟨a0, _, q0, a1, _, q1, hide ⟨rfl, rfl⟩, u0, u1, h2.frozenAt _, h2.frozenAt _, own_block_lt h2 g rfl, own_ge h2 g rfl, hide ⟨o1, o2⟩⟩
theorem set_sub {L : List E} {k : Nat} {x : E} {P : E → Prop} (h : ∀ y ∈ L, P y) (hx : P x) : ∀ y ∈ L.set k x, P y := fun y hy => by
  rcases List.mem_or_eq_of_mem_set hy with h' | h'
  · exact h y h'
  · rw [h']; exact hx
set_option maxRecDepth 100000 in
set_option maxHeartbeats 4000000 in
theorem sort_any {lo g q n : Nat} {w : World} {L : List E} (h : Dn lo w (.slice (some ⟨g, 0, none⟩) (n + 1) q) L) (hn : L.length = n + 1) (hb : n ≤ 100) :
    Calls Try.prog 17 #[.slice (some ⟨g, 0, none⟩) (n + 1) q] w fun e w' => ∃ L' : List E, e = .returned (.slice (some ⟨g, 0, none⟩) (n + 1) q) ∧ L'.length = n + 1 ∧ (∀ x ∈ L', x ∈ L) ∧ Dn lo w' (.slice (some ⟨g, 0, none⟩) (n + 1) q) L' ∧ w.grownBy w' (some g) := by
  have H0 := hide h
  have HN := hide hn
  clear h hn
  go_enter Try.func17, Try.ntmps17
  have e1 : ((n : Int) + 1) - 1 = (n : Int) := by omega
  go_wp2_with fail
  go_loopw [3] (fun i wr => ∃ (k : Nat) (L' : List E), k < n + 1 ∧ i = .int .i64 k ∧ Hid (L'.length = n + 1) ∧ Hid (∀ x ∈ L', x ∈ L) ∧ Hid (Dn lo wr (.slice (some ⟨g, 0, none⟩) (n + 1) q) L') ∧ w.grownBy wr (some g)) (fun i _ => (intOf i).toNat)
  case atStart => exact ⟨n, L, by omega, rfl, unhide HN, fun x hx => hx, unhide H0, Draw.grown_refl _ _⟩
  case round =>
    obtain ⟨k, L', hk, rfl, HL, HM, HD, hgr⟩ := hrel
    clear H0
    rcases k with _ | j
    · have hd : decide ((0 : Int) < 0) = false := rfl
      go_wp2_with fail
      refine Grl.start (S := fun _ => True) (by kernel_rfl) (by trivial) (fun hHeld => ?_)
      refine Grl.yes 0 (v := ?_) rfl (by kernel_rfl) (by kernel_rfl) (by kernel_rfl) (fun _ _ _ h => h) (by kernel_rfl) ?_ (by assumption) ?_
      rotate_left
      · (intro w hSw; (try dsimp only at hSw); go_simp; try with_reducible rfl)
      simp only [Act.put, List.setIfInBounds_toArray, List.set_cons_zero, List.set_cons_succ]
      refine Grl.yes 1 (v := ?_) rfl (by kernel_rfl) (by kernel_rfl) (by kernel_rfl) (fun _ _ _ h => h) (by kernel_rfl) ?_ (by assumption) ?_
      rotate_left
      · (intro w hSw; (try dsimp only at hSw); go_simp; try with_reducible rfl)
      simp only [Act.put, List.setIfInBounds_toArray, List.set_cons_zero, List.set_cons_succ]
      refine Grl.yes 2 (v := ?_) rfl (by kernel_rfl) (by kernel_rfl) (by kernel_rfl) (fun _ _ _ h => h) (by kernel_rfl) ?_ (by assumption) ?_
      rotate_left
      · (intro w hSw; (try dsimp only at hSw); go_simp; try with_reducible rfl)
      simp only [Act.put, List.setIfInBounds_toArray, List.set_cons_zero, List.set_cons_succ]
      refine Grl.no 3 rfl (by kernel_rfl) (by kernel_rfl) (by kernel_rfl) (fun _ _ _ h => h) (by kernel_rfl) (by assumption) ?_
      simp only [Act.put, List.setIfInBounds_toArray, List.set_cons_zero, List.set_cons_succ]
      refine Grl.no 4 rfl (by kernel_rfl) (by kernel_rfl) (by kernel_rfl) (fun _ _ _ h => h) (by kernel_rfl) (by assumption) ?_
      simp only [Act.put, List.setIfInBounds_toArray, List.set_cons_zero, List.set_cons_succ]
      refine Grl.no 5 rfl (by kernel_rfl) (by kernel_rfl) (by kernel_rfl) (fun _ _ _ h => h) (by kernel_rfl) (by assumption) ?_
      simp only [Act.put, List.setIfInBounds_toArray, List.set_cons_zero, List.set_cons_succ]
      refine Grl.no 6 rfl (by kernel_rfl) (by kernel_rfl) (by kernel_rfl) (fun _ _ _ h => h) (by kernel_rfl) (by assumption) ?_
      simp only [Act.put, List.setIfInBounds_toArray, List.set_cons_zero, List.set_cons_succ]
      refine Grl.no 7 rfl (by kernel_rfl) (by kernel_rfl) (by kernel_rfl) (fun _ _ _ h => h) (by kernel_rfl) (by assumption) ?_
      simp only [Act.put, List.setIfInBounds_toArray, List.set_cons_zero, List.set_cons_succ]
      refine Grl.no 8 rfl (by kernel_rfl) (by kernel_rfl) (by kernel_rfl) (fun _ _ _ h => h) (by kernel_rfl) (by assumption) ?_
      simp only [Act.put, List.setIfInBounds_toArray, List.set_cons_zero, List.set_cons_succ]
      refine Grl.no 9 rfl (by kernel_rfl) (by kernel_rfl) (by kernel_rfl) (fun _ _ _ h => h) (by kernel_rfl) (by assumption) ?_
      simp only [Act.put, List.setIfInBounds_toArray, List.set_cons_zero, List.set_cons_succ]
      refine Grl.no 10 rfl (by kernel_rfl) (by kernel_rfl) (by kernel_rfl) (fun _ _ _ h => h) (by kernel_rfl) (by assumption) ?_
      simp only [Act.put, List.setIfInBounds_toArray, List.set_cons_zero, List.set_cons_succ]
      refine Grl.no 11 rfl (by kernel_rfl) (by kernel_rfl) (by kernel_rfl) (fun _ _ _ h => h) (by kernel_rfl) (by assumption) ?_
      simp only [Act.put, List.setIfInBounds_toArray, List.set_cons_zero, List.set_cons_succ]
      refine Grl.no 12 rfl (by kernel_rfl) (by kernel_rfl) (by kernel_rfl) (fun _ _ _ h => h) (by kernel_rfl) (by assumption) ?_
      simp only [Act.put, List.setIfInBounds_toArray, List.set_cons_zero, List.set_cons_succ]
      refine Grl.no 13 rfl (by kernel_rfl) (by kernel_rfl) (by kernel_rfl) (fun _ _ _ h => h) (by kernel_rfl) (by assumption) ?_
      simp only [Act.put, List.setIfInBounds_toArray, List.set_cons_zero, List.set_cons_succ]
      refine Grl.no 14 rfl (by kernel_rfl) (by kernel_rfl) (by kernel_rfl) (fun _ _ _ h => h) (by kernel_rfl) (by assumption) ?_
      simp only [Act.put, List.setIfInBounds_toArray, List.set_cons_zero, List.set_cons_succ]
      refine Grl.no 15 rfl (by kernel_rfl) (by kernel_rfl) (by kernel_rfl) (fun _ _ _ h => h) (by kernel_rfl) (by assumption) ?_
      simp only [Act.put, List.setIfInBounds_toArray, List.set_cons_zero, List.set_cons_succ]
      refine Grl.yes 16 (v := ?_) rfl (by kernel_rfl) (by kernel_rfl) (by kernel_rfl) (fun _ _ _ h => h) (by kernel_rfl) ?_ (by assumption) ?_
      rotate_left
      · (intro w hSw; (try dsimp only at hSw); go_simp; try with_reducible rfl)
      simp only [Act.put, List.setIfInBounds_toArray, List.set_cons_zero, List.set_cons_succ]
      refine wpAnyH_done (by kernel_rfl) ?_ _

      go_wp2_with fail
      go_ret
      have D1 := (unhide HD).below (Below.refl _ _).drew
      have g1 := Draw.grown_trans hgr (Draw.grown_below (r := some g) (Below.refl _ _).drew)
      first | exact ⟨L', rfl, unhide HL, unhide HM, D1, g1⟩ | exact ⟨rfl, L', unhide HL, unhide HM, D1, g1⟩
    · have HD0 := unhide HD
      have hll := unhide HL
      obtain ⟨a1, l1, q1, s1, m1, p1, -, u10, u11, f10, f11, hgl, hlg, HO1⟩ := HD0.at (k := j + 1) hll.symm (by omega)
      obtain ⟨a0, l0, q0, s0, m0, p0, -, u00, u01, f00, f01, -, -, HO0⟩ := HD0.at (k := j) hll.symm (by omega)
      clear hll HD0
      have HCm := hide (fun W (hb : Below wr.heap.size wr W) => Lab.l3Cmp_any ((Lab.is_of_own (unhide HO1).1).below hb) ((Lab.is_of_own (unhide HO0).1).below hb))
      have hrng := Lab.cmpL_range (at' L' (j + 1)).1 (at' L' j).1
      obtain ⟨C, hC⟩ : ∃ C, C = Lab.cmpL (at' L' (j + 1)).1 (at' L' j).1 := ⟨_, rfl⟩
      rw [← hC] at HCm hrng
      clear hC
      have HCell := hide (fun (X : World) (hX : Below wr.heap.size wr X) => show (X.cell? ⟨g, (j + 1) * 2, none⟩ = some (.slice a1 l1 q1) ∧ X.cell? ⟨g, j * 2, none⟩ = some (.slice a0 l0 q0)) from ⟨(hX.cell (p := ⟨g, _, none⟩) hgl).trans u10, (hX.cell (p := ⟨g, _, none⟩) hgl).trans u00⟩)
      have hj0 : (0 : Int) ≤ (j : Int) := Int.natCast_nonneg _
      have hj1 : (0 : Int) < (j : Int) + 1 := by omega
      have hj2 : (j : Int) < (n : Int) := by omega
      have hj3 : (j : Int) < (n : Int) + 1 := by omega
      have hj5 : (0 : Int) ≤ (j : Int) + 1 := by omega
      have hw : IntKind.i64.wrap (j : Int) = (j : Int) := Grl.wrap_ok (by omega) (by omega)
      have hj4 : (j : Int) + 1 - 1 = (j : Int) := by omega
      go_wp2_with fail
      refine Grl.start (S := fun X => X.cell? ⟨g, (j + 1) * 2, none⟩ = some (.slice a1 l1 q1) ∧ X.cell? ⟨g, j * 2, none⟩ = some (.slice a0 l0 q0)) (by kernel_rfl) (by exact unhide HCell _ (Below.refl _ _).drew) (fun hHeld => ?_)
      refine Grl.yes 0 (v := ?_) rfl (by kernel_rfl) (by kernel_rfl) (by kernel_rfl) (fun _ _ _ h => h) (by kernel_rfl) ?_ (by assumption) ?_
      rotate_left
      · (intro w hSw; (try dsimp only at hSw); go_simp; try with_reducible rfl)
      simp only [Act.put, List.setIfInBounds_toArray, List.set_cons_zero, List.set_cons_succ]
      refine Grl.yes 1 (v := ?_) rfl (by kernel_rfl) (by kernel_rfl) (by kernel_rfl) (fun _ _ _ h => h) (by kernel_rfl) ?_ (by assumption) ?_
      rotate_left
      · (intro w hSw; (try dsimp only at hSw); go_simp; try with_reducible rfl)
      simp only [Act.put, List.setIfInBounds_toArray, List.set_cons_zero, List.set_cons_succ]
      refine Grl.yes 2 (v := ?_) rfl (by kernel_rfl) (by kernel_rfl) (by kernel_rfl) (fun _ _ _ h => h) (by kernel_rfl) ?_ (by assumption) ?_
      rotate_left
      · (intro w hSw; (try dsimp only at hSw); go_simp; try with_reducible rfl)
      simp only [Act.put, List.setIfInBounds_toArray, List.set_cons_zero, List.set_cons_succ]
      refine Grl.yes 3 (v := ?_) rfl (by kernel_rfl) (by kernel_rfl) (by kernel_rfl) (fun _ _ _ h => h) (by kernel_rfl) ?_ (by assumption) ?_
      rotate_left
      · (intro w hSw; (try dsimp only at hSw); go_simp; try with_reducible rfl)
      simp only [Act.put, List.setIfInBounds_toArray, List.set_cons_zero, List.set_cons_succ]
      refine Grl.yes 4 (v := ?_) rfl (by kernel_rfl) (by kernel_rfl) (by kernel_rfl) (fun _ _ _ h => h) (by kernel_rfl) ?_ (by assumption) ?_
      rotate_left
      · (intro w hSw; (try dsimp only at hSw); go_simp; try with_reducible rfl)
      simp only [Act.put, List.setIfInBounds_toArray, List.set_cons_zero, List.set_cons_succ]
      refine Grl.yes 5 (v := ?_) rfl (by kernel_rfl) (by kernel_rfl) (by kernel_rfl) (fun _ _ _ h => h) (by kernel_rfl) ?_ (by assumption) ?_
      rotate_left
      · (intro w hSw; (try dsimp only at hSw); go_simp; try with_reducible rfl)
      simp only [Act.put, List.setIfInBounds_toArray, List.set_cons_zero, List.set_cons_succ]
      refine Grl.yes 6 (v := ?_) rfl (by kernel_rfl) (by kernel_rfl) (by kernel_rfl) (fun _ _ _ h => h) (by kernel_rfl) ?_ (by assumption) ?_
      rotate_left
      · (intro w hSw; (try dsimp only at hSw); go_simp; try with_reducible rfl)
      simp only [Act.put, List.setIfInBounds_toArray, List.set_cons_zero, List.set_cons_succ]
      refine Grl.yes 7 (v := ?_) rfl (by kernel_rfl) (by kernel_rfl) (by kernel_rfl) (fun _ _ _ h => h) (by kernel_rfl) ?_ (by assumption) ?_
      rotate_left
      · (intro w hSw; (try dsimp only at hSw); go_simp; try with_reducible rfl)
      simp only [Act.put, List.setIfInBounds_toArray, List.set_cons_zero, List.set_cons_succ]
      refine Grl.yes 8 (v := ?_) rfl (by kernel_rfl) (by kernel_rfl) (by kernel_rfl) (fun _ _ _ h => h) (by kernel_rfl) ?_ (by assumption) ?_
      rotate_left
      · (intro w hSw; (try dsimp only at hSw); go_simp; try with_reducible rfl)
      simp only [Act.put, List.setIfInBounds_toArray, List.set_cons_zero, List.set_cons_succ]
      refine Grl.yes 9 (v := ?_) rfl (by kernel_rfl) (by kernel_rfl) (by kernel_rfl) (fun _ _ _ h => h) (by kernel_rfl) ?_ (by assumption) ?_
      rotate_left
      · (intro w hSw; (try dsimp only at hSw); go_simp; try with_reducible rfl)
      simp only [Act.put, List.setIfInBounds_toArray, List.set_cons_zero, List.set_cons_succ]
      refine Grl.yes 10 (v := ?_) rfl (by kernel_rfl) (by kernel_rfl) (by kernel_rfl) (fun _ _ _ h => h) (by kernel_rfl) ?_ (by assumption) ?_
      rotate_left
      · (intro w hSw; (try dsimp only at hSw); go_simp; try with_reducible rfl)
      simp only [Act.put, List.setIfInBounds_toArray, List.set_cons_zero, List.set_cons_succ]
      refine Grl.yes 11 (v := ?_) rfl (by kernel_rfl) (by kernel_rfl) (by kernel_rfl) (fun _ _ _ h => h) (by kernel_rfl) ?_ (by assumption) ?_
      rotate_left
      · (intro w hSw; (try dsimp only at hSw); go_simp; try with_reducible rfl)
      simp only [Act.put, List.setIfInBounds_toArray, List.set_cons_zero, List.set_cons_succ]
      refine Grl.yes 12 (v := ?_) rfl (by kernel_rfl) (by kernel_rfl) (by kernel_rfl) (fun _ _ _ h => h) (by kernel_rfl) ?_ (by assumption) ?_
      rotate_left
      · (intro w hSw; (try dsimp only at hSw); go_simp; try with_reducible rfl)
      simp only [Act.put, List.setIfInBounds_toArray, List.set_cons_zero, List.set_cons_succ]
      refine Grl.yes 13 (v := ?_) rfl (by kernel_rfl) (by kernel_rfl) (by kernel_rfl) (fun _ _ _ h => h) (by kernel_rfl) ?_ (by assumption) ?_
      rotate_left
      · (intro w hSw; (try dsimp only at hSw); go_simp; try with_reducible rfl)
      simp only [Act.put, List.setIfInBounds_toArray, List.set_cons_zero, List.set_cons_succ]
      refine Grl.one 14 rfl (by kernel_rfl) (fun K hK => ?_)
      go_simp
      go_wp2_with (refine (unhide HCm _ (Below.refl _ _).drew).mono ?_; rintro e w1 ⟨rfl, b1⟩; have c1 : Below wr.heap.size wr w1 := (Below.refl _ _).drew.trans b1)
      refine hK.out _ _ (by exact unhide HCell _ c1) (fun hHeld => ?_)
      clear hK K
      refine Grl.yes 15 (v := ?_) rfl (by kernel_rfl) (by kernel_rfl) (by kernel_rfl) (fun _ _ _ h => h) (by kernel_rfl) ?_ (by assumption) ?_
      rotate_left
      · (intro w hSw; (try dsimp only at hSw); go_simp; try with_reducible rfl)
      simp only [Act.put, List.setIfInBounds_toArray, List.set_cons_zero, List.set_cons_succ]
      refine Grl.yes 16 (v := ?_) rfl (by kernel_rfl) (by kernel_rfl) (by kernel_rfl) (fun _ _ _ h => h) (by kernel_rfl) ?_ (by assumption) ?_
      rotate_left
      · (intro w hSw; (try dsimp only at hSw); go_simp; try with_reducible rfl)
      simp only [Act.put, List.setIfInBounds_toArray, List.set_cons_zero, List.set_cons_succ]
      refine wpAnyH_done (by kernel_rfl) ?_ _

      by_cases hneg : C < 0
      · obtain ⟨bc, bf⟩ := bcell c1
        have D1 := (unhide HD).below c1
        have g1 := Draw.grown_trans hgr (Draw.grown_below (r := some g) c1)
        have hgl1 : g < w1.heap.size := by have := c1.size; omega
        have hgne : g ≠ w1.heap.size := by omega
        have O0 : w1.ownsRow lo 47 2 (.slice a0 l0 q0) (at' L' j).1.length (Lab.flat (at' L' j).1) ∧ w1.ownsRow lo 26 2 (.slice s0 m0 p0) (at' L' j).2.length (Sam.flat (at' L' j).2) := ⟨own_below (unhide HO0).1 c1, own_below (unhide HO0).2 c1⟩
        have O1 : w1.ownsRow lo 47 2 (.slice a1 l1 q1) (at' L' (j + 1)).1.length (Lab.flat (at' L' (j + 1)).1) ∧ w1.ownsRow lo 26 2 (.slice s1 m1 p1) (at' L' (j + 1)).2.length (Sam.flat (at' L' (j + 1)).2) := ⟨own_below (unhide HO1).1 c1, own_below (unhide HO1).2 c1⟩
        have on1 : OnlyAt g w1 ((w1.setCell ⟨g, (j + 1) * 2, none⟩ (.slice a0 l0 q0)).setCell ⟨g, (j + 1) * 2 + 1, none⟩ (.slice s0 m0 p0)) := ((OnlyAt.refl g _).setCell _ _).setCell _ _
        have D3 := D1.stored (k := j + 1) (x := at' L' j) (unhide HL).symm (by have := unhide HL; omega) ⟨O0.1, O0.2⟩
        have O3 := And.intro (D1.only (k := j) on1 (by decide) (O1.1)) (D1.only (k := j) on1 (by decide) (O1.2))
        have on2 : OnlyAt g ((w1.setCell ⟨g, (j + 1) * 2, none⟩ (.slice a0 l0 q0)).setCell ⟨g, (j + 1) * 2 + 1, none⟩ (.slice s0 m0 p0)) ((((w1.setCell ⟨g, (j + 1) * 2, none⟩ (.slice a0 l0 q0)).setCell ⟨g, (j + 1) * 2 + 1, none⟩ (.slice s0 m0 p0)).setCell ⟨g, j * 2, none⟩ (.slice a1 l1 q1)).setCell ⟨g, j * 2 + 1, none⟩ (.slice s1 m1 p1)) := ((OnlyAt.refl g _).setCell _ _).setCell _ _
        have hl3 : (L'.set (j + 1) (at' L' j)).length = n + 1 := by rw [List.length_set]; exact unhide HL
        have D4 := D3.stored (k := j) (x := at' L' (j + 1)) hl3.symm (by omega) O3
        have HG := hide (Draw.grown_trans (Draw.grown_trans (Draw.grown_trans g1 (Draw.grown_only on1)) (Draw.grown_only on2)) (Draw.grown_below (r := some g) ((Below.refl _ _).alloc (Nat.le_refl _) (.cells #[.slice a1 l1 q1, .slice s1 m1 p1] 44))))
        have HM' := hide (show ∀ x ∈ (L'.set (j + 1) (at' L' j)).set j (at' L' (j + 1)), x ∈ L from set_sub (P := fun x => x ∈ L) (set_sub (P := fun x => x ∈ L) (unhide HM) (unhide HM _ (at_mem L' j (by have := unhide HL; omega)))) (unhide HM _ (at_mem L' (j + 1) (by have := unhide HL; omega))))
        have HL' := hide (show ((L'.set (j + 1) (at' L' j)).set j (at' L' (j + 1))).length = n + 1 by rw [List.length_set]; exact hl3)
        have HD4 := hide (D4.below ((Below.refl _ _).alloc (Nat.le_refl _) (.cells #[.slice a1 l1 q1, .slice s1 m1 p1] 44)))
        clear D1 D3 D4 O0 O1 O3 on1 on2 g1 hl3 HO0 HO1 HM HCm HCell
        go_wp2_with fail
        go_roundw
        case rel => exact ⟨j, _, by omega, by go_num, HL', HM', HD4, unhide HG⟩
        case measure => simp [intOf]
      · have D1 := hide ((unhide HD).below c1)
        have g1 := Draw.grown_trans hgr (Draw.grown_below (r := some g) c1)
        go_wp2_with fail
        go_ret
        first | exact ⟨L', rfl, unhide HL, unhide HM, unhide D1, g1⟩ | exact ⟨rfl, L', unhide HL, fun a b h => unhide HM (a, b) h, unhide D1, g1⟩
end Go.Proofs.Ytncjagdnebpaaaa.Row
