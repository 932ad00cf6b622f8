/- My own texts of one claim, laid together by program: DrawBatch2, DrawBatch3, DrawTab4, TrialOther. -/
import Derived.Test.YtlboekimnhgfdaaGreatG5af8027ad2
import Derived.Test.YtlboekimnhgfdaaGreatG5987eed685
import Derived.Test.YtlboekimnhgfdaaGreatGf3cb340b64
import Derived.Test.YtlboekimnhgfdaaGreatGf4b634e24e
import Derived.Test.YtlboekimnhgfdaaGreatGfbf2e4a745
import Derived.Test.YtlboekimnhgfdaaGreatGb4760d3d53
/- Entries are drawn: one to three of them; entries with one turned. -/
namespace Go.Proofs.YtlboekimnhgfdaaGreat.Draw
open Go.RowKit Rw
set_option linter.unusedVariables false
attribute [local go_sem ↓] Go.wp_at_zero Go.wp_at_succ
theorem ent_cat_set (cs : List Ent.C) (c : Ent.C) (k i : Nat) (hk : k < cs.length) : Ent.cat (cs.set k c) i = if i = k then c else Ent.cat cs i := by
  unfold Ent.cat List.getD
  rw [List.getElem?_set]
  by_cases h : k = i
  · rw [if_pos h, if_pos h.symm, if_pos hk]; rfl
  · rw [if_neg h, if_neg (fun e => h e.symm)]
theorem ent_at_set (cs : List Ent.E) (c : Ent.E) (k i : Nat) (hk : k < cs.length) : Ent.at' (cs.set k c) i = if i = k then c else Ent.at' cs i := by
  unfold Ent.at' List.getD
  rw [List.getElem?_set]
  by_cases h : k = i
  · rw [if_pos h, if_pos h.symm, if_pos hk]; rfl
  · rw [if_neg h, if_neg (fun e => h e.symm)]
theorem ent_flat_set (cs : List Ent.C) (k : Nat) (hk : k < cs.length) (c' : Ent.C) (j : Nat) (hj : j < 3) (x : Value) (hx : Ent.cl c' = (Ent.cl (Ent.cat cs k)).set j x) : flatOf Ent.cl (cs.set k c') = (flatOf Ent.cl cs).set (k * 3 + j) x := by
  have hfl : (flatOf Ent.cl cs).length = cs.length * 3 := flatOf_length Ent.clk cs
  apply List.ext_getElem?
  intro m
  rw [List.getElem?_set]
  rcases Nat.lt_or_ge m (cs.length * 3) with hm | hm
  · obtain ⟨i, c, rfl, hc⟩ : ∃ i c, m = i * 3 + c ∧ c < 3 := ⟨m / 3, m % 3, by omega, by omega⟩
    rw [flatOf_get Ent.clk (cs.set k c') i c (by rw [List.length_set]; omega) hc, flatOf_get Ent.clk cs i c (by omega) hc, List.getElem_set]
    by_cases e : k = i
    · subst e
      rw [if_pos rfl, hx, Ent.cat_get cs k hk, List.getElem?_set]
      by_cases e2 : j = c
      · subst e2
        rw [if_pos rfl, if_pos rfl, if_pos (by rw [Ent.clk]; exact hj), if_pos (by omega)]
      · rw [if_neg e2, if_neg (by omega)]
    · rw [if_neg e, if_neg (by omega)]
  · rw [List.getElem?_eq_none (by rw [flatOf_length Ent.clk, List.length_set]; omega), if_neg (by omega), List.getElem?_eq_none (by omega)]
/-- an element's cell -/
theorem EntOwn.slot {base g q k j : Nat} {w : World} {L : List Ent.E} (h : EntOwn base w (.slice (some ⟨g, 0, none⟩) L.length q) L) (hk : k < L.length) (hj : j < 3) : (∃ u, w.cell? ⟨g, k * 3 + j, none⟩ = some u) ∧ w.frozen? ⟨g, k * 3 + j, none⟩ = false ∧ base ≤ g ∧ g < w.heap.size ∧ L.length ≤ q ∧ q ≤ maxLen := by
  obtain ⟨cs, h1, h2, h3⟩ := h
  have hfl : (flatOf Ent.cl cs).length = cs.length * 3 := flatOf_length Ent.clk cs
  refine ⟨?_, h2.frozenAt _, own_ge h2 g rfl, own_lt h2, ?_⟩
  · rw [h2.cellAt (k * 3 + j) (by omega)]
    obtain ⟨u, hu⟩ : ∃ u, (flatOf Ent.cl cs)[k * 3 + j]? = some u := ⟨_, List.getElem?_eq_getElem (by omega)⟩
    exact ⟨u, hu⟩
  · obtain ⟨-, a', q', e, hq1, hq2, -⟩ := lies_of_own h2
    simp only [Value.slice.injEq, true_and] at e
    omega
theorem ent_set {base g q k : Nat} {w : World} {L : List Ent.E} (h : EntOwn base w (.slice (some ⟨g, 0, none⟩) L.length q) L) (hk : k < L.length) (j : Nat) (x : Value) (e' : Ent.E)
    (hx : (j = 0 ∧ e'.2 = (Ent.at' L k).2 ∧ w.ownsRow base 64 2 x e'.1.length (Lab.flat e'.1)) ∨ (j = 1 ∧ x = .int .i64 e'.2.1 ∧ e'.1 = (Ent.at' L k).1 ∧ e'.2.2 = (Ent.at' L k).2.2) ∨ (j = 2 ∧ x = .int .i64 e'.2.2 ∧ e'.1 = (Ent.at' L k).1 ∧ e'.2.1 = (Ent.at' L k).2.1)) :
    EntOwn base (w.setCell ⟨g, k * 3 + j, none⟩ x) (.slice (some ⟨g, 0, none⟩) L.length q) (L.set k e') := by
  obtain ⟨cs, h1, h2, h3⟩ := h
  have hst := (h2.stored (k * 3 + j) x).1
  have ho := (OnlyAt.refl g w).setCell (k * 3 + j) x
  have keep : ∀ {n v} {xs : List Value}, w.ownsRow base 64 2 v n xs → (w.setCell ⟨g, k * 3 + j, none⟩ x).ownsRow base 64 2 v n xs := fun h => ho.own h (fun b hb e => own_ne_type h h2 (by decide) b hb (by rw [e]; rfl))
  have key : ∃ c', Ent.cl c' = (Ent.cl (Ent.cat cs k)).set j x ∧ j < 3 ∧ w.ownsRow base 64 2 c'.1 e'.1.length (Lab.flat e'.1) ∧ c'.2.1 = .int .i64 e'.2.1 ∧ c'.2.2 = .int .i64 e'.2.2 := by
    obtain ⟨r1, r2, r3⟩ := h3 k hk
    rcases hx with ⟨rfl, e1, e2⟩ | ⟨rfl, e1, e2, e3⟩ | ⟨rfl, e1, e2, e3⟩
    · exact ⟨(x, (Ent.cat cs k).2.1, (Ent.cat cs k).2.2), rfl, by decide, e2, by rw [e1]; exact r2, by rw [e1]; exact r3⟩
    · exact ⟨((Ent.cat cs k).1, x, (Ent.cat cs k).2.2), rfl, by decide, by rw [e2]; exact r1, e1, by rw [e3]; exact r3⟩
    · exact ⟨((Ent.cat cs k).1, (Ent.cat cs k).2.1, x), rfl, by decide, by rw [e2]; exact r1, by rw [e3]; exact r2, e1⟩
  obtain ⟨c', k1, k2, k3, k4, k5⟩ := key
  refine ⟨cs.set k c', by simp [h1], ?_, fun i hi => ?_⟩
  · rw [List.length_set, ent_flat_set cs k (by omega) c' j k2 x k1]
    exact hst
  · rw [List.length_set] at hi
    rw [ent_cat_set _ _ _ _ (by omega), ent_at_set _ _ _ _ hk]
    by_cases e : i = k
    · rw [if_pos e, if_pos e]; exact ⟨keep k3, k4, k5⟩
    · rw [if_neg e, if_neg e]; exact ⟨keep (h3 i hi).1, (h3 i hi).2⟩
set_option maxRecDepth 100000 in
set_option maxHeartbeats 8000000 in
theorem batch_len (rb p : Nat) (now : Int) (w : World) (h : Rd w rb p) (hp : p ≤ 600000) (h0 : 0 ≤ now) (h1 : now ≤ 20000) :
    Calls Tryz.prog 112 #[.pointer (some ⟨rb, 0, none⟩), .int .i64 now] w fun e w' => ∃ (zs : List Ent.E) (v : Value), e = .returned v ∧ (1 ≤ zs.length ∧ zs.length ≤ 3) ∧ (∀ x ∈ zs, entG x) ∧ EntOwn w.heap.size w' v zs ∧ (∃ p', p' ≤ p + 100 ∧ Rd w' rb p') ∧ w.grownBy w' (some rb) := by
  obtain ⟨i0, hi, hz0, hz1, hz2⟩ := info_parts Ent.info_e
  have hrl := h.lt
  have hmx : 1 ≤ maxLen := by unfold maxLen; omega
  have HR := hide h
  clear h
  go_enter Tryz.func112, Tryz.ntmps112
  go_wp2_with fail
  refine (pick_any rb p _ _ ((unhide HR).below ((Below.refl _ _).alloc (Nat.le_refl _) _)) (by omega) (by omega)).mono ?_
  rintro e w1 ⟨n, rfl, n0, n1, -, r1, g1⟩
  have n2 : n < 3 := n1 (by omega)
  have o1 := hide ((ent_nil (w := w) (base := w.heap.size) (Nat.le_refl _)).kept g1 hrl)
  have q1 : w.grownBy w1 (some rb) := grown_trans (grown_below ((Below.refl _ _).alloc (Nat.le_refl _) _)) g1
  clear n1 HR g1
  obtain ⟨N, hN⟩ : ∃ N : Nat, 1 + n = (N : Int) := ⟨(1 + n).toNat, by omega⟩
  go_wp2_with fail
  go_loopw [5, 6] (fun ov kv wr => ∃ (k : Nat) (L : List Ent.E) (p' : Nat), kv = .int .i64 (k : Int) ∧ (∃ a l q, ov = .slice a l q) ∧ (1 ≤ L.length + k ∧ L.length + k ≤ 3) ∧ p' ≤ p + 1 + 20 * L.length ∧ Hid (∀ x ∈ L, entG x) ∧ Hid (EntOwn w.heap.size wr ov L) ∧ Rd wr rb p' ∧ w.grownBy wr (some rb)) (fun _ kv _ => (intOf kv).toNat)
  case atStart => exact ⟨N, [], p + 1, rfl, ⟨_, _, _, rfl⟩, ⟨by simp; omega, by simp; omega⟩, by simp, hide (by simp), o1, r1, q1⟩
  case round =>
    clear o1 q1 r1 hN
    obtain ⟨k, L, p', rfl, ⟨oa, ol, oq, rfl⟩, hk, hp', HM, HO, hrd, hg⟩ := hrel
    have hsz := hg.size
    by_cases hk0 : 0 < k
    · have hk1 : (0 : Int) < (k : Int) := by omega
      have hone := one_new rb p' [0, 1, 10, 37, -20, -150, 60, 0] _ hrd (by omega) (by simp) (by simp)
      simp only [List.map_cons, List.map_nil, List.length_cons, List.length_nil, Nat.zero_add, Nat.reduceAdd] at hone
      have HOne := hide hone
      clear hone
      go_wp2_with fail
      refine (unhide HOne).mono ?_
      rintro e w2 ⟨d, rfl, hd, r2, g2⟩
      have hd' : -150 ≤ d ∧ d ≤ 60 := by simp only [List.mem_cons, List.not_mem_nil, or_false] at hd; omega
      have HO2 := hide ((unhide HO).kept g2 hrl)
      have q2 := grown_trans hg g2
      have hsz2 := q2.size
      obtain ⟨t, ht⟩ : ∃ t, now + d = t := ⟨_, rfl⟩
      have hw : wrap64 t = t := IntWalk.wrap64_in t ⟨by omega, by omega⟩
      clear hd HO hrd hg g2 HOne
      obtain ⟨T, hT⟩ : ∃ T : Int, T = if t < 0 then 0 else if 9999 < t then 9999 else t := ⟨_, rfl⟩
      clear hT
      by_cases h2 : t < 0
      · go_wp2_with fail
        refine (labels_ok rb (p' + 1) _ r2 (by omega)).mono ?_
        rintro e w3 ⟨x, v, rfl, hx0, hx3, hxo, ox, ⟨p3, hp3, r3⟩, g3⟩
        have HO3 := hide ((unhide HO2).kept g3 hrl)
        have q3 := grown_trans q2 g3
        have OX3 := hide (own_mono ox hsz2)
        have HX := hide (show entG (x, 0, 0) from ⟨hx3, hxo⟩)
        obtain ⟨va, vl, vq, rfl⟩ : ∃ a l q, v = .slice a l q := by obtain ⟨-, a, q, e, -⟩ := lies_of_own ox; exact ⟨a, _, q, e⟩
        clear ox hxo HO2 q2 r2 g3 hx0
        go_wp2_with fail
        refine (value_any rb p3 _ r3 (by omega)).mono ?_
        rintro e w4 ⟨V, rfl, V0, V1, r4, g4⟩
        have q4 := grown_trans q3 g4
        have z4 := q4.size
        obtain ⟨cs, hcs, oo, oi⟩ := (unhide HO3).kept g4 hrl
        have oo' := oo
        have OI := hide oi
        have OO := hide oo
        have OX := hide (own_kept (unhide OX3) g4 hrl)
        clear HO3 q3 r3 g4 oi oo OX3
        go_wp2_with (at_builtin; refine app_wp _ rfl _ _ _ rfl w.heap.size 62 i0 _ 3 40 Tryz.underlying34 hi hz0 hz1 hz2 rfl (by omega) _ L.length _ rfl (oo'.alloc _) _ 1 [.slice va vl vq, .int .i64 0, .int .i64 V] rfl (lies_new rfl rfl hmx) (by simp [Value.oneCell']) (by unfold maxLen; omega) (by omega) (by simp; omega) ?_; intro vn w9 on gn an)
        have ge := own_ge oo'
        have hb9 : Below w4.heap.size w4 (w4.alloc (.cells #[.slice va vl vq, .int .i64 0, .int .i64 V] 62)) := (Below.refl _ _).alloc (Nat.le_refl _) _
        have M9 := hide (ent_app (x := (x, 0, V)) hcs (unhide OO) (unhide OI) (unhide OX) hb9 rfl rfl on gn)
        have R := hide (show w.grownBy w9 (some rb) from grown_other (grown_trans q4 (grown_below hb9)) gn ge)
        have R1 := hide (show Rd w9 rb (p3 + 6) from (r4.below hb9).grown gn (fun k hk => by have := ge k hk; omega))
        obtain ⟨na, nl, nq, rfl⟩ : ∃ a l q, vn = .slice a l q := by obtain ⟨-, a, q, e, -⟩ := lies_of_own on; exact ⟨a, _, q, e⟩
        clear on gn ge q4 r4 an OO OI OX oo' hb9
        go_wp2_with fail
        go_roundw
        case rel => exact ⟨k - 1, L ++ [(x, 0, V)], p3 + 6, by go_num, ⟨_, _, _, rfl⟩, ⟨by simp; omega, by simp; omega⟩, by simp; omega, hide (ent_snoc (unhide HM) (unhide HX)), M9, unhide R1, unhide R⟩
        case measure => simp [intOf]; omega
      have n2 : decide (t < 0) = false := decide_eq_false h2
      by_cases h3 : 9999 < t
      · go_wp2_with fail
        refine (labels_ok rb (p' + 1) _ r2 (by omega)).mono ?_
        rintro e w3 ⟨x, v, rfl, hx0, hx3, hxo, ox, ⟨p3, hp3, r3⟩, g3⟩
        have HO3 := hide ((unhide HO2).kept g3 hrl)
        have q3 := grown_trans q2 g3
        have OX3 := hide (own_mono ox hsz2)
        have HX := hide (show entG (x, 9999, 0) from ⟨hx3, hxo⟩)
        obtain ⟨va, vl, vq, rfl⟩ : ∃ a l q, v = .slice a l q := by obtain ⟨-, a, q, e, -⟩ := lies_of_own ox; exact ⟨a, _, q, e⟩
        clear ox hxo HO2 q2 r2 g3 hx0
        go_wp2_with fail
        refine (value_any rb p3 _ r3 (by omega)).mono ?_
        rintro e w4 ⟨V, rfl, V0, V1, r4, g4⟩
        have q4 := grown_trans q3 g4
        have z4 := q4.size
        obtain ⟨cs, hcs, oo, oi⟩ := (unhide HO3).kept g4 hrl
        have oo' := oo
        have OI := hide oi
        have OO := hide oo
        have OX := hide (own_kept (unhide OX3) g4 hrl)
        clear HO3 q3 r3 g4 oi oo OX3
        go_wp2_with (at_builtin; refine app_wp _ rfl _ _ _ rfl w.heap.size 62 i0 _ 3 40 Tryz.underlying34 hi hz0 hz1 hz2 rfl (by omega) _ L.length _ rfl (oo'.alloc _) _ 1 [.slice va vl vq, .int .i64 9999, .int .i64 V] rfl (lies_new rfl rfl hmx) (by simp [Value.oneCell']) (by unfold maxLen; omega) (by omega) (by simp; omega) ?_; intro vn w9 on gn an)
        have ge := own_ge oo'
        have hb9 : Below w4.heap.size w4 (w4.alloc (.cells #[.slice va vl vq, .int .i64 9999, .int .i64 V] 62)) := (Below.refl _ _).alloc (Nat.le_refl _) _
        have M9 := hide (ent_app (x := (x, 9999, V)) hcs (unhide OO) (unhide OI) (unhide OX) hb9 rfl rfl on gn)
        have R := hide (show w.grownBy w9 (some rb) from grown_other (grown_trans q4 (grown_below hb9)) gn ge)
        have R1 := hide (show Rd w9 rb (p3 + 6) from (r4.below hb9).grown gn (fun k hk => by have := ge k hk; omega))
        obtain ⟨na, nl, nq, rfl⟩ : ∃ a l q, vn = .slice a l q := by obtain ⟨-, a, q, e, -⟩ := lies_of_own on; exact ⟨a, _, q, e⟩
        clear on gn ge q4 r4 an OO OI OX oo' hb9
        go_wp2_with fail
        go_roundw
        case rel => exact ⟨k - 1, L ++ [(x, 9999, V)], p3 + 6, by go_num, ⟨_, _, _, rfl⟩, ⟨by simp; omega, by simp; omega⟩, by simp; omega, hide (ent_snoc (unhide HM) (unhide HX)), M9, unhide R1, unhide R⟩
        case measure => simp [intOf]; omega
      have n3 : decide (9999 < t) = false := decide_eq_false h3
      go_wp2_with fail
      refine (labels_ok rb (p' + 1) _ r2 (by omega)).mono ?_
      rintro e w3 ⟨x, v, rfl, hx0, hx3, hxo, ox, ⟨p3, hp3, r3⟩, g3⟩
      have HO3 := hide ((unhide HO2).kept g3 hrl)
      have q3 := grown_trans q2 g3
      have OX3 := hide (own_mono ox hsz2)
      have HX := hide (show entG (x, t, 0) from ⟨hx3, hxo⟩)
      obtain ⟨va, vl, vq, rfl⟩ : ∃ a l q, v = .slice a l q := by obtain ⟨-, a, q, e, -⟩ := lies_of_own ox; exact ⟨a, _, q, e⟩
      clear ox hxo HO2 q2 r2 g3 hx0
      go_wp2_with fail
      refine (value_any rb p3 _ r3 (by omega)).mono ?_
      rintro e w4 ⟨V, rfl, V0, V1, r4, g4⟩
      have q4 := grown_trans q3 g4
      have z4 := q4.size
      obtain ⟨cs, hcs, oo, oi⟩ := (unhide HO3).kept g4 hrl
      have oo' := oo
      have OI := hide oi
      have OO := hide oo
      have OX := hide (own_kept (unhide OX3) g4 hrl)
      clear HO3 q3 r3 g4 oi oo OX3
      go_wp2_with (at_builtin; refine app_wp _ rfl _ _ _ rfl w.heap.size 62 i0 _ 3 40 Tryz.underlying34 hi hz0 hz1 hz2 rfl (by omega) _ L.length _ rfl (oo'.alloc _) _ 1 [.slice va vl vq, .int .i64 t, .int .i64 V] rfl (lies_new rfl rfl hmx) (by simp [Value.oneCell']) (by unfold maxLen; omega) (by omega) (by simp; omega) ?_; intro vn w9 on gn an)
      have ge := own_ge oo'
      have hb9 : Below w4.heap.size w4 (w4.alloc (.cells #[.slice va vl vq, .int .i64 t, .int .i64 V] 62)) := (Below.refl _ _).alloc (Nat.le_refl _) _
      have M9 := hide (ent_app (x := (x, t, V)) hcs (unhide OO) (unhide OI) (unhide OX) hb9 rfl rfl on gn)
      have R := hide (show w.grownBy w9 (some rb) from grown_other (grown_trans q4 (grown_below hb9)) gn ge)
      have R1 := hide (show Rd w9 rb (p3 + 6) from (r4.below hb9).grown gn (fun k hk => by have := ge k hk; omega))
      obtain ⟨na, nl, nq, rfl⟩ : ∃ a l q, vn = .slice a l q := by obtain ⟨-, a, q, e, -⟩ := lies_of_own on; exact ⟨a, _, q, e⟩
      clear on gn ge q4 r4 an OO OI OX oo' hb9
      go_wp2_with fail
      go_roundw
      case rel => exact ⟨k - 1, L ++ [(x, t, V)], p3 + 6, by go_num, ⟨_, _, _, rfl⟩, ⟨by simp; omega, by simp; omega⟩, by simp; omega, hide (ent_snoc (unhide HM) (unhide HX)), M9, unhide R1, unhide R⟩
      case measure => simp [intOf]; omega
    · have hk1 : decide ((0 : Int) < (k : Int)) = false := by simp; omega
      go_wp2_with fail
      go_ret
      exact ⟨L, _, rfl, ⟨by omega, by omega⟩, unhide HM, unhide HO, ⟨p', by omega, hrd⟩, hg⟩
end Go.Proofs.YtlboekimnhgfdaaGreat.Draw

/- Entries are drawn, of whatever kind: l13AnyBatch. -/
namespace Go.Proofs.YtlboekimnhgfdaaGreat.Draw
open Go.RowKit Rw
set_option linter.unusedVariables false
set_option linter.unusedSimpArgs false
attribute [local go_sem ↓] Go.wp_at_zero Go.wp_at_succ
def entB (x : Ent.E) : Prop := (∀ y ∈ x.1, Lab.good y) ∧ x.1.length ≤ 20
theorem entB_of {x : Ent.E} (h : entG x) : entB x := by
  have hs := Row.lab_good h.2
  exact ⟨fun y hy => by have := hs.2 y hy; exact ⟨by unfold maxLen; omega, by unfold maxLen; omega⟩, by have := h.1; omega⟩
theorem entB_okay {L : List Ent.E} (h : ∀ y ∈ L, entB y) : Tab.Okay L := fun e he => ⟨(h e he).1, by have := (h e he).2; unfold maxLen; omega⟩
theorem entB_set {L : List Ent.E} {k : Nat} {e' : Ent.E} (h : ∀ y ∈ L, entB y) (he : entB e') : ∀ y ∈ L.set k e', entB y := fun y hy => by
  rcases List.mem_or_eq_of_mem_set hy with h1 | h1
  · exact h y h1
  · rw [h1]; exact he
theorem good_smallB {x : Lab.E} (h : smallL x) : Lab.good x := ⟨by have := h.1; unfold maxLen; omega, by have := h.2.1; unfold maxLen; omega⟩
theorem EntOwn.form {base : Nat} {w : World} {v : Value} {L : List Ent.E} (h : EntOwn base w v L) (hl : 1 ≤ L.length) : ∃ g q, v = .slice (some ⟨g, 0, none⟩) L.length q := by
  obtain ⟨cs, h1, h2, h3⟩ := h
  rcases h2.2 with ⟨-, e⟩ | ⟨g, cap, cur, e, -⟩
  · omega
  · exact ⟨g, cap, e⟩
theorem EntOwn.only {base g : Nat} {w w' : World} {v : Value} {L : List Ent.E} (h : EntOwn base w v L) (ho : OnlyAt g w w') (hg : g < base) : EntOwn base w' v L := by
  obtain ⟨cs, h1, h2, h3⟩ := h
  exact ⟨cs, h1, ho.own h2 (fun k hk => by have := own_ge h2 k hk; omega), fun i hi => ⟨ho.own (h3 i hi).1 (fun k hk => by have := own_ge (h3 i hi).1 k hk; omega), (h3 i hi).2⟩⟩
theorem EntOwn.below {base : Nat} {w w' : World} {v : Value} {L : List Ent.E} (h : EntOwn base w v L) (hb : Below w.heap.size w w') : EntOwn base w' v L := by
  obtain ⟨cs, h1, h2, h3⟩ := h
  exact ⟨cs, h1, own_below h2 hb, fun i hi => ⟨own_below (h3 i hi).1 hb, (h3 i hi).2⟩⟩
theorem EntOwn.mono {a b : Nat} {w : World} {v : Value} {L : List Ent.E} (h : EntOwn b w v L) (hab : a ≤ b) : EntOwn a w v L := by
  obtain ⟨cs, h1, h2, h3⟩ := h
  exact ⟨cs, h1, own_mono h2 hab, fun i hi => ⟨own_mono (h3 i hi).1 hab, (h3 i hi).2⟩⟩
def roomOf : Value → Nat | .slice _ n _ => 8 - n | _ => 0
set_option maxRecDepth 100000 in
set_option maxHeartbeats 8000000 in
theorem anybatch_any (rb p : Nat) (now : Int) (w : World) (h : Rd w rb p) (hp : p ≤ 600000) (h0 : 0 ≤ now) (h1 : now ≤ 20000) :
    Calls Tryz.prog 77 #[.pointer (some ⟨rb, 0, none⟩), .int .i64 now] w fun e w' => ∃ (zs : List Ent.E) (v : Value), e = .returned v ∧ (zs.length ≤ 7 ∧ ∀ x ∈ zs, entB x) ∧ EntOwn w.heap.size w' v zs ∧ (∃ p', p' ≤ p + 400 ∧ Rd w' rb p') ∧ w.grownBy w' (some rb) := by
  obtain ⟨i0, hi, hz0, hz1, hz2⟩ := info_parts Ent.info_e
  have hrl := h.lt
  have hmx : 1 ≤ maxLen := by unfold maxLen; omega
  go_enter Tryz.func77, Tryz.ntmps77
  go_wp2_with fail
  refine (batch_len rb p now _ h hp h0 h1).mono ?_
  rintro e w1 ⟨L, v, rfl, hl, hE, hO, ⟨p1, hp1, r1⟩, g1⟩
  obtain ⟨g, q, rfl⟩ := hO.form hl.1
  have hEB := hide (fun y (hy : y ∈ L) => entB_of (hE y hy))
  have HO1 := hide hO
  obtain ⟨n, hn⟩ : ∃ n, n = L.length := ⟨_, rfl⟩
  have HN := hide hn
  have hn3 : 1 ≤ n ∧ n ≤ 3 := by omega
  have z1 := g1.size
  rw [← hn]
  clear hO hE h hn hl
  go_wp2_with fail
  refine (pick_any rb p1 _ _ r1 (by omega) (by omega)).mono ?_
  rintro e w2 ⟨K, rfl, K0, K1, -, r2, g2⟩
  have K2 : K < n := K1 (by omega)
  obtain ⟨k, rfl⟩ := Int.eq_ofNat_of_zero_le K0
  have hkL : k < L.length := by rw [← unhide HN]; omega
  have hk1 : (k : Int) < (n : Int) := by omega
  have hk0 : (0 : Int) ≤ (k : Int) := by omega
  have HO2 := hide ((unhide HO1).kept g2 hrl)
  have q2 := grown_trans g1 g2
  clear HO1 g2 g1 r1 K0 K1 K2
  go_wp2_with fail
  refine (pick_any rb (p1 + 1) _ _ r2 (by omega) (by omega)).mono ?_
  rintro e w3 ⟨c, rfl, c0, c1, -, r3, g3⟩
  have HO3 := hide ((unhide HO2).kept g3 hrl)
  have q3 := grown_trans q2 g3
  have z3 := q3.size
  clear HO2 q2 g3 r2 c0 c1
  by_cases hc0 : c = 0
  · subst hc0
    go_wp2_with fail
    refine (anylabels_any rb (p1 + 1 + 1) _ r3 (by omega)).mono ?_
    rintro e w4 ⟨ls, lv, rfl, hls, hlg, hlo, ⟨p4, hp4, r4⟩, g4⟩
    have HO4 := hide ((unhide HO3).kept g4 hrl)
    have q4 := grown_trans q3 g4
    have HL4 := hide (own_mono hlo z3)
    have hge := hide (fun y (hy : y ∈ ls) => good_smallB (hlg y hy))
    obtain ⟨la, lq, rfl⟩ : ∃ a q, lv = .slice a ls.length q := by obtain ⟨-, a, q, e, -⟩ := lies_of_own hlo; exact ⟨a, q, e⟩
    clear HO3 q3 g4 r3 hlo hlg
    have hsl := EntOwn.slot (j := 0) (unhide HO4) hkL (by decide)
    obtain ⟨⟨u, hu⟩, hf, hgb, hgl, hnq, hqm⟩ := hsl
    have hu' : w4.cell? ⟨g, k * 3, none⟩ = some u := hu
    have hf' : w4.frozen? ⟨g, k * 3, none⟩ = false := hf
    obtain ⟨y, hy⟩ : ∃ V, w4.setCell ⟨g, k * 3, none⟩ (.slice la ls.length lq) = V := ⟨_, rfl⟩
    have on := (OnlyAt.refl g w4).setCell (k * 3) (.slice la ls.length lq)
    rw [hy] at on
    have hset := hide (ent_set (k := k) (j := 0) (x := .slice la ls.length lq) (e' := (ls, (Ent.at' L k).2)) (unhide HO4) hkL (.inl ⟨rfl, rfl, unhide HL4⟩))
    have HOy := hide (show EntOwn w.heap.size y (.slice (some ⟨g, 0, none⟩) n q) (L.set k (ls, (Ent.at' L k).2)) by rw [← hy, unhide HN]; exact unhide hset)
    have HBy := hide (entB_set (k := k) (e' := (ls, (Ent.at' L k).2)) (unhide hEB) (⟨unhide hge, hls⟩))
    have ry := hide (show Rd y rb (p4) from r4.grown (grown_only on) (fun j hj => by cases hj; omega))
    have gy := hide (grown_other q4 (grown_only on) (fun j hj => by cases hj; omega))
    rw [← unhide HN] at hnq
    unfold maxLen at hqm
    clear hu hf on hset
    go_wp2_with fail
    go_ret
    exact ⟨L.set k (ls, (Ent.at' L k).2), _, rfl, ⟨by rw [List.length_set, ← unhide HN]; omega, unhide HBy⟩, unhide HOy, ⟨_, by omega, unhide ry⟩, unhide gy⟩
  have hc0' : (c == 0) = false := by simp; omega
  by_cases hc1 : c = 1
  · subst hc1
    obtain ⟨A, hA⟩ : ∃ A, now - 300 = A := ⟨_, rfl⟩
    obtain ⟨B, hB⟩ : ∃ B, A - 1 = B := ⟨_, rfl⟩
    have wA : wrap64 A = A := IntWalk.wrap64_in A ⟨by omega, by omega⟩
    have wB : wrap64 B = B := IntWalk.wrap64_in B ⟨by omega, by omega⟩
    have hone := one_new rb (p1 + 1 + 1) [-1, 10000, A, B] w3 r3 (by omega) (by simp) (by simp)
    simp only [List.map_cons, List.map_nil, List.length_cons, List.length_nil, Nat.zero_add, Nat.reduceAdd] at hone
    have HOne := hide hone
    clear hone
    have hsl0 := EntOwn.slot (j := 0) (unhide HO3) hkL (by decide)
    go_wp2_with fail
    refine (unhide HOne).mono ?_
    rintro e w4 ⟨d, rfl, hd, r4, g4⟩
    have HO4 := hide ((unhide HO3).kept g4 hrl)
    have q4 := grown_trans q3 g4
    clear HOne HO3 q3 g4 r3 hd hsl0
    have hsl := EntOwn.slot (j := 1) (unhide HO4) hkL (by decide)
    obtain ⟨⟨u, hu⟩, hf, hgb, hgl, hnq, hqm⟩ := hsl
    have hu' : w4.cell? ⟨g, k * 3 + 1, none⟩ = some u := hu
    have hf' : w4.frozen? ⟨g, k * 3 + 1, none⟩ = false := hf
    obtain ⟨y, hy⟩ : ∃ V, w4.setCell ⟨g, k * 3 + 1, none⟩ (.int .i64 d) = V := ⟨_, rfl⟩
    have on := (OnlyAt.refl g w4).setCell (k * 3 + 1) (.int .i64 d)
    rw [hy] at on
    have hset := hide (ent_set (k := k) (j := 1) (x := .int .i64 d) (e' := ((Ent.at' L k).1, d, (Ent.at' L k).2.2)) (unhide HO4) hkL (.inr (.inl ⟨rfl, rfl, rfl, rfl⟩)))
    have HOy := hide (show EntOwn w.heap.size y (.slice (some ⟨g, 0, none⟩) n q) (L.set k ((Ent.at' L k).1, d, (Ent.at' L k).2.2)) by rw [← hy, unhide HN]; exact unhide hset)
    have HBy := hide (entB_set (k := k) (e' := ((Ent.at' L k).1, d, (Ent.at' L k).2.2)) (unhide hEB) (⟨(unhide hEB _ (Ent.at_mem L k hkL)).1, (unhide hEB _ (Ent.at_mem L k hkL)).2⟩))
    have ry := hide (show Rd y rb (p1 + 1 + 1 + 1) from r4.grown (grown_only on) (fun j hj => by cases hj; omega))
    have gy := hide (grown_other q4 (grown_only on) (fun j hj => by cases hj; omega))
    rw [← unhide HN] at hnq
    unfold maxLen at hqm
    clear hu hf on hset
    go_wp2_with fail
    go_ret
    exact ⟨L.set k ((Ent.at' L k).1, d, (Ent.at' L k).2.2), _, rfl, ⟨by rw [List.length_set, ← unhide HN]; omega, unhide HBy⟩, unhide HOy, ⟨_, by omega, unhide ry⟩, unhide gy⟩
  have hc1' : (c == 1) = false := by simp; omega
  by_cases hc2 : c = 2
  · subst hc2
    have hone := one_new rb (p1 + 1 + 1) [-1, 2147483648] w3 r3 (by omega) (by simp) (by simp)
    simp only [List.map_cons, List.map_nil, List.length_cons, List.length_nil, Nat.zero_add, Nat.reduceAdd] at hone
    have HOne := hide hone
    clear hone
    have hsl0 := EntOwn.slot (j := 0) (unhide HO3) hkL (by decide)
    go_wp2_with fail
    refine (unhide HOne).mono ?_
    rintro e w4 ⟨d, rfl, hd, r4, g4⟩
    have HO4 := hide ((unhide HO3).kept g4 hrl)
    have q4 := grown_trans q3 g4
    clear HOne HO3 q3 g4 r3 hd hsl0
    have hsl := EntOwn.slot (j := 2) (unhide HO4) hkL (by decide)
    obtain ⟨⟨u, hu⟩, hf, hgb, hgl, hnq, hqm⟩ := hsl
    have hu' : w4.cell? ⟨g, k * 3 + 2, none⟩ = some u := hu
    have hf' : w4.frozen? ⟨g, k * 3 + 2, none⟩ = false := hf
    obtain ⟨y, hy⟩ : ∃ V, w4.setCell ⟨g, k * 3 + 2, none⟩ (.int .i64 d) = V := ⟨_, rfl⟩
    have on := (OnlyAt.refl g w4).setCell (k * 3 + 2) (.int .i64 d)
    rw [hy] at on
    have hset := hide (ent_set (k := k) (j := 2) (x := .int .i64 d) (e' := ((Ent.at' L k).1, (Ent.at' L k).2.1, d)) (unhide HO4) hkL (.inr (.inr ⟨rfl, rfl, rfl, rfl⟩)))
    have HOy := hide (show EntOwn w.heap.size y (.slice (some ⟨g, 0, none⟩) n q) (L.set k ((Ent.at' L k).1, (Ent.at' L k).2.1, d)) by rw [← hy, unhide HN]; exact unhide hset)
    have HBy := hide (entB_set (k := k) (e' := ((Ent.at' L k).1, (Ent.at' L k).2.1, d)) (unhide hEB) (⟨(unhide hEB _ (Ent.at_mem L k hkL)).1, (unhide hEB _ (Ent.at_mem L k hkL)).2⟩))
    have ry := hide (show Rd y rb (p1 + 1 + 1 + 1) from r4.grown (grown_only on) (fun j hj => by cases hj; omega))
    have gy := hide (grown_other q4 (grown_only on) (fun j hj => by cases hj; omega))
    rw [← unhide HN] at hnq
    unfold maxLen at hqm
    clear hu hf on hset
    go_wp2_with fail
    go_ret
    exact ⟨L.set k ((Ent.at' L k).1, (Ent.at' L k).2.1, d), _, rfl, ⟨by rw [List.length_set, ← unhide HN]; omega, unhide HBy⟩, unhide HOy, ⟨_, by omega, unhide ry⟩, unhide gy⟩
  have hc2' : (c == 2) = false := by simp; omega
  by_cases hc3 : c = 3
  · subst hc3
    have HE := hide (ent_nil (w := w3) (base := w.heap.size) z3)
    have b3 : Below w3.heap.size w3 (w3.alloc (.cells #[] 62)) := (Below.refl _ _).alloc (Nat.le_refl _) _
    have r4 := hide (r3.below b3)
    have q4 := hide (grown_trans q3 (grown_below b3))
    clear r3 q3 b3
    go_wp2_with fail
    go_ret
    exact ⟨[], _, rfl, ⟨by simp, by simp⟩, unhide HE, ⟨_, by omega, unhide r4⟩, unhide q4⟩
  have hc3' : (c == 3) = false := by simp; omega
  by_cases hc4 : c = 4
  · subst hc4
    go_wp2_with fail
    go_loopw [5] (fun ov wr => ∃ (M : List Ent.E) (g q p' : Nat), ov = .slice (some ⟨g, 0, none⟩) M.length q ∧ (1 ≤ M.length ∧ M.length ≤ 7) ∧ p' ≤ p1 + 2 + M.length ∧ Hid (∀ y ∈ M, entB y) ∧ Hid (EntOwn w.heap.size wr (.slice (some ⟨g, 0, none⟩) M.length q) M) ∧ Rd wr rb p' ∧ w.grownBy wr (some rb)) (fun ov _ => roomOf ov)
    case atStart => exact ⟨L, g, q, p1 + 1 + 1, by rw [unhide HN], by rw [← unhide HN]; omega, by omega, hEB, HO3, r3, q3⟩
    case round =>
      clear HO3 r3 q3 hEB HN hkL hk1 hk0
      obtain ⟨M, g, q, p', rfl, hm, hp', HB, HO, hrd, hg⟩ := hrel
      obtain ⟨m, hmm⟩ : ∃ m, m = M.length := ⟨_, rfl⟩
      have HM := hide hmm
      rw [← hmm] at hm hp' HO ⊢
      clear hmm
      go_wp2_with fail
      refine (pick_any rb p' _ _ hrd (by omega) (by omega)).mono ?_
      rintro e w4 ⟨x, rfl, x0, x1, -, r4, g4⟩
      have x2 : x < 2 := x1 (by omega)
      have HO4 := hide ((unhide HO).kept g4 hrl)
      have q4 := grown_trans hg g4
      obtain ⟨X, hX⟩ : ∃ X, 6 + x = X := ⟨_, rfl⟩
      have wX : wrap64 X = X := IntWalk.wrap64_in X ⟨by omega, by omega⟩
      clear HO hrd hg g4 x1
      by_cases hlt : (m : Int) < X
      · obtain ⟨cs, hcs, oo, oi⟩ := unhide HO4
        rw [← unhide HM] at oo oi
        have h0m : 0 < M.length := by rw [← unhide HM]; omega
        have e0 := oi 0 (by omega)
        have f0 := flatOf_get Ent.clk cs 0 0 (by omega) (by omega)
        have f1 := flatOf_get Ent.clk cs 0 1 (by omega) (by omega)
        have f2 := flatOf_get Ent.clk cs 0 2 (by omega) (by omega)
        obtain ⟨⟨l0, T0, V0⟩, hC⟩ : ∃ c, c = Ent.cat cs 0 := ⟨_, rfl⟩
        rw [← Ent.cat_get cs 0 (by omega), ← hC] at f0 f1 f2
        rw [← hC] at e0
        obtain ⟨e1, e2, e3⟩ := e0
        simp only at e1 e2 e3
        subst e2 e3
        obtain ⟨la, lq, rfl⟩ : ∃ a q, l0 = .slice a (Ent.at' M 0).1.length q := by obtain ⟨-, a, q, e, -⟩ := lies_of_own e1; exact ⟨a, q, e⟩
        have k0 : w4.cell? ⟨g, 0, none⟩ = some (.slice la (Ent.at' M 0).1.length lq) := by rw [oo.cellAt 0 (by omega)]; exact f0
        have k1 : w4.cell? ⟨g, 1, none⟩ = some (.int .i64 (Ent.at' M 0).2.1) := by rw [oo.cellAt 1 (by omega)]; exact f1
        have k2 : w4.cell? ⟨g, 2, none⟩ = some (.int .i64 (Ent.at' M 0).2.2) := by rw [oo.cellAt 2 (by omega)]; exact f2
        have hx := hide (unhide HB _ (Ent.at_mem M 0 h0m))
        obtain ⟨X0, hX0⟩ : ∃ x, x = Ent.at' M 0 := ⟨_, rfl⟩
        rw [← hX0] at k0 k1 k2 e1 hx
        obtain ⟨ls, T, V⟩ := X0
        simp only at k0 k1 k2 e1
        have hz4 := q4.size
        have oo' := oo
        have OO := hide oo
        have OI := hide oi
        have OX := hide e1
        have hm0 : (0 : Int) < (m : Int) := by omega
        clear f0 f1 f2 hC hX0 oi oo e1 HO4
        go_wp2_with (at_builtin; refine app_wp _ rfl _ _ _ rfl w.heap.size 62 i0 _ 3 40 Tryz.underlying34 hi hz0 hz1 hz2 rfl (by omega) _ m _ rfl (oo'.alloc _) _ 1 [.slice la ls.length lq, .int .i64 T, .int .i64 V] rfl (lies_new rfl rfl hmx) (by simp [Value.oneCell']) (by unfold maxLen; omega) (by omega) (by simp; omega) ?_; intro vn w9 on gn an)
        have ge := own_ge oo'
        have hb9 : Below w4.heap.size w4 (w4.alloc (.cells #[.slice la ls.length lq, .int .i64 T, .int .i64 V] 62)) := (Below.refl _ _).alloc (Nat.le_refl _) _
        have M9 := hide (ent_app (x := (ls, T, V)) hcs (by rw [← unhide HM]; exact unhide OO) (by rw [← unhide HM]; exact unhide OI) (unhide OX) hb9 (by rw [← unhide HM]) rfl on gn)
        have R := hide (show w.grownBy w9 (some rb) from grown_other (grown_trans q4 (grown_below hb9)) gn ge)
        have R1 := hide (show Rd w9 rb (p' + 1) from (r4.below hb9).grown gn (fun k hk => by have := ge k hk; omega))
        have hB9 := hide (show ∀ y ∈ M ++ [(ls, T, V)], entB y from fun y hy => by
          rw [List.mem_append, List.mem_singleton] at hy
          rcases hy with hy | rfl
          · exact unhide HB y hy
          · exact unhide hx)
        obtain ⟨ng, nq, rfl⟩ := (unhide M9).form (by simp)
        have hl9 : (M ++ [(ls, T, V)]).length = m + 1 := by rw [List.length_append, ← unhide HM]; rfl
        rw [hl9] at M9 ⊢
        clear on gn ge q4 r4 an OO OI OX oo' hb9
        go_wp2_with fail
        go_roundw
        case rel => exact ⟨M ++ [(ls, T, V)], ng, nq, p' + 1, by rw [hl9], by rw [hl9]; omega, by rw [hl9]; omega, hB9, by rw [hl9]; exact M9, unhide R1, unhide R⟩
        case measure => simp [roomOf]; omega
      · have hlt' : decide ((m : Int) < X) = false := by simp; omega
        rw [unhide HM] at HO4
        go_wp2_with fail
        go_ret
        exact ⟨M, _, by rw [unhide HM]; rfl, ⟨by rw [← unhide HM]; omega, unhide HB⟩, unhide HO4, ⟨p' + 1, by omega, r4⟩, q4⟩
  have hc4' : (c == 4) = false := by simp; omega
  go_wp2_with fail
  go_ret
  exact ⟨L, _, rfl, ⟨by rw [← unhide HN]; omega, unhide hEB⟩, by have := unhide HO3; rw [← unhide HN] at this; exact this, ⟨_, by omega, r3⟩, q3⟩
end Go.Proofs.YtlboekimnhgfdaaGreat.Draw

/- A table and entries are drawn. -/
namespace Go.Proofs.YtlboekimnhgfdaaGreat.Draw
open Go.RowKit Rw
set_option linter.unusedVariables false
set_option linter.unusedSimpArgs false
attribute [local go_sem ↓] Go.wp_at_zero Go.wp_at_succ
/-- what DrawTableAdd answers -/
def TAdded (w : World) (e : Ending) (w' : World) : Prop :=
  ∃ (L : List Row.E) (v bv : Value) (b : List Ent.E) (H F : Int), e = .returned (.tuple #[.agg #[v, .int .i64 H, .int .i64 F], bv]) ∧ TG L H F ∧ Row.Is w' v L ∧ (b.length ≤ 7 ∧ ∀ x ∈ b, entB x) ∧ Ent.Is w' bv b ∧ Below w.heap.size w w'
theorem ent_form {w : World} {v : Value} {b : List Ent.E} (h : Ent.Is w v b) : ∃ a q, v = .slice a b.length q := by obtain ⟨cs, -, hL, -⟩ := h; obtain ⟨-, a, q, e, -⟩ := hL; exact ⟨a, q, e⟩
set_option maxRecDepth 100000 in
set_option maxHeartbeats 16000000 in
theorem draw_tadd {a : Option Addr} {len cap : Nat} {zs : List Int} (w0 w : World) (h : IsRow .u8 w0 a len cap zs) (hB : Below w0.heap.size w0 w) :
    Calls Tryz.prog 37 #[.slice a len cap] w (TAdded w) := by
  obtain ⟨W, hW⟩ : ∃ W, W = w.alloc (.cells #[.slice none 0 0, .int .i64 0, .int .i64 0] 30) := ⟨_, rfl⟩
  have bW : Below w.heap.size w W := by rw [hW]; exact (Below.refl _ _).alloc (Nat.le_refl _) _
  have zW : W.heap.size = w.heap.size + 1 := by rw [hW]; simp
  have RZ : W.ownsRow w.heap.size 30 3 (.slice (some ⟨w.heap.size, 0, none⟩) 1 1) 1 [.slice none 0 0, .int .i64 0, .int .i64 0] := by rw [hW]; exact Tab.own_new3 (Nat.le_refl _) rfl
  have hne : w.heap.size ≠ W.heap.size := by omega
  have HO := hide (open_any w0 W h (hB.trans (bW.mono hB.size)))
  clear h hB
  go_enter Tryz.func37, Tryz.ntmps37
  go_wp2_with fail
  rw [← hW]
  clear hW
  refine (unhide HO).mono ?_
  rintro e w1 ⟨rfl, r1, b1⟩
  have z1 := r1.lt
  have RZ1 := hide (own_below RZ b1)
  obtain ⟨rb, hrb⟩ : ∃ k, k = W.heap.size := ⟨_, rfl⟩
  have c1 := bW.trans (b1.mono bW.size)
  clear b1 bW
  rw [← hrb] at r1 z1 hne zW ⊢
  have hwb : w.heap.size < rb := by omega
  clear RZ HO hrb zW
  go_wp2_with fail
  refine (anytable_any rb 0 _ r1 (by omega)).mono ?_
  rintro e w2 ⟨L, H, F, now, ra, rl, rq, rfl, hnow, hTG, hF, ⟨p2, hp2, r2⟩, g2⟩
  have z2 := g2.size
  have RZ2 := hide (Tab.box_kept (unhide RZ1) g2 hne)
  have HTG := hide hTG
  obtain ⟨sd2, sf2, so2, bb2, zz2⟩ := Tab.box_new (w := w2) (base := rb + 1) (.slice ra rl rq) H F (by omega)
  obtain ⟨V2, hV2⟩ : ∃ V, w2.alloc (.cells #[.slice ra rl rq, .int .i64 H, .int .i64 0] 30) = V := ⟨_, rfl⟩
  rw [hV2] at sd2 sf2 so2 bb2 zz2
  obtain ⟨W2, hW2⟩ : ∃ V, V2.setCell ⟨w2.heap.size, 2, none⟩ (.int .i64 F) = V := ⟨_, rfl⟩
  rw [hW2] at so2 bb2 zz2
  have r3 := r2.below bb2
  have RZ3 := hide (own_below (unhide RZ2) bb2)
  have g3 := grown_trans g2 (grown_below bb2)
  have k3 := grown_below (r := some rb) bb2
  have HF1 := hide hF
  have HSo := hide so2
  have hrr : rb < rb + 1 := Nat.lt_succ_self _
  clear RZ1 RZ2 r1 r2 g2 bb2 hF hTG so2
  have HS := hide (fun (X : World) (gx : W2.grownBy X (some rb)) => Tab.box_three (own_kept (unhide HSo) gx hrr))
  have gD : W2.grownBy W2.drew (some rb) := grown_below ((Below.refl _ _).drew)
  have rD := rd_drew r3
  have HBt := hide (anybatch_any rb p2 now W2.drew rD (by omega) (by omega) (by omega))
  have hsD := unhide HS W2.drew gD
  have zD : W2.drew.heap.size = W2.heap.size := by simp
  have z22 : w2.heap.size < W2.heap.size := zz2
  clear r3
  go_wp2_with fail
  refine Grl.start (S := fun X => X.cell? ⟨w2.heap.size, 0, none⟩ = some (.slice ra rl rq) ∧ X.cell? ⟨w2.heap.size, 1, none⟩ = some (.int .i64 H) ∧ X.cell? ⟨w2.heap.size, 2, none⟩ = some (.int .i64 F)) (by kernel_rfl) (by exact hsD) (fun hHeld => ?_)
  refine Grl.yes 0 (v := ?_) rfl (by kernel_rfl) (by kernel_rfl) (by kernel_rfl) (fun _ _ _ h => h) (by kernel_rfl) ?_ (by assumption) ?_
  rotate_left
  · (intro w hSw; (try dsimp only at hSw); go_simp; try with_reducible rfl)
  simp only [Act.put, List.setIfInBounds_toArray, List.set_cons_zero, List.set_cons_succ]
  refine Grl.yes 1 (v := ?_) rfl (by kernel_rfl) (by kernel_rfl) (by kernel_rfl) (fun _ _ _ h => h) (by kernel_rfl) ?_ (by assumption) ?_
  rotate_left
  · (intro w hSw; (try dsimp only at hSw); go_simp; try with_reducible rfl)
  simp only [Act.put, List.setIfInBounds_toArray, List.set_cons_zero, List.set_cons_succ]
  refine Grl.yes 2 (v := ?_) rfl (by kernel_rfl) (by kernel_rfl) (by kernel_rfl) (fun _ _ _ h => h) (by kernel_rfl) ?_ (by assumption) ?_
  rotate_left
  · (intro w hSw; (try dsimp only at hSw); go_simp; try with_reducible rfl)
  simp only [Act.put, List.setIfInBounds_toArray, List.set_cons_zero, List.set_cons_succ]
  refine Grl.one 3 rfl (by kernel_rfl) (fun K hK => ?_)
  go_simp
  go_wp2_with (refine (unhide HBt).mono ?_; rintro e w4 ⟨b, bv, rfl, hb7, hbo, ⟨p4, hp4, r4⟩, g4⟩; have gI4 : W2.grownBy w4 (some rb) := grown_trans gD g4; have hs4 := unhide HS w4 gI4; have RZ4 := Tab.box_kept (unhide RZ3) gI4 hne; have hq0 : w.heap.size ≠ w2.heap.size := (by omega); obtain ⟨ba, bq, hbv⟩ := ent_form hbo.is; subst hbv; obtain ⟨⟨pc9a, pf9a⟩, ⟨pc9b, pf9b⟩, ⟨pc9c, pf9c⟩, so9, on9⟩ := Tab.box_put (w := w4) (.slice ra rl rq) (.int .i64 H) (.int .i64 F) RZ4; obtain ⟨y9a, hy9a⟩ : ∃ V, w4.setCell ⟨w.heap.size, 0, none⟩ (.slice ra rl rq) = V := ⟨_, rfl⟩; rw [hy9a] at pc9b pf9b pc9c pf9c so9 on9; obtain ⟨y9b, hy9b⟩ : ∃ V, y9a.setCell ⟨w.heap.size, 1, none⟩ (.int .i64 H) = V := ⟨_, rfl⟩; rw [hy9b] at pc9c pf9c so9 on9; obtain ⟨y9, hy9⟩ : ∃ V, y9b.setCell ⟨w.heap.size, 2, none⟩ (.int .i64 F) = V := ⟨_, rfl⟩; rw [hy9] at so9 on9; have hs9 : y9.cell? ⟨w2.heap.size, 0, none⟩ = some (.slice ra rl rq) ∧ y9.cell? ⟨w2.heap.size, 1, none⟩ = some (.int .i64 H) ∧ y9.cell? ⟨w2.heap.size, 2, none⟩ = some (.int .i64 F) := (And.intro ((World.cell?_of_block (a := ⟨w2.heap.size, 0, none⟩) (on9.block _ (Ne.symm hq0))).trans hs4.1) (And.intro ((World.cell?_of_block (a := ⟨w2.heap.size, 1, none⟩) (on9.block _ (Ne.symm hq0))).trans hs4.2.1) ((World.cell?_of_block (a := ⟨w2.heap.size, 2, none⟩) (on9.block _ (Ne.symm hq0))).trans hs4.2.2))))
  refine hK.out _ _ (by exact hs4) (fun hHeld => ?_)
  clear hK K
  refine Grl.one 4 rfl (by kernel_rfl) (fun K hK => ?_)
  go_simp
  skip
  refine hK.out _ _ (by exact hs9) (fun hHeld => ?_)
  clear hK K
  refine Grl.yes 5 (v := ?_) rfl (by kernel_rfl) (by kernel_rfl) (by kernel_rfl) (fun _ _ _ h => h) (by kernel_rfl) ?_ (by assumption) ?_
  rotate_left
  · (intro w hSw; (try dsimp only at hSw); go_simp; try with_reducible rfl)
  simp only [Act.put, List.setIfInBounds_toArray, List.set_cons_zero, List.set_cons_succ]
  refine wpAnyH_done (by kernel_rfl) ?_ _
  obtain ⟨e0, e1, e2⟩ := Tab.box_three so9
  have z4 := gI4.size
  have HRy := hide ((((unhide HF1).grown (grown_trans k3 gI4) (by omega)).only on9 (by omega)).is)
  have HBy := hide (hbo.only on9 (by omega)).is
  have by9 := hide ((c1.trans (below_of_grown (grown_trans g3 gI4) (show w.heap.size ≤ rb by omega) (by omega))).trans (on9.below (Nat.le_refl _)))
  clear HF1 g3 k3 so9 on9 RZ4 RZ3 HS HSo hbo
  go_wp2_with fail
  refine bodyPost_ret (v := .tuple #[.agg #[.slice ra rl rq, .int .i64 H, .int .i64 F], .slice ba b.length bq]) (by simp [results, Tryz.results37, go_sem, e0, e1, e2]) rfl ?_
  exact ⟨L, _, _, b, H, F, rfl, unhide HTG, unhide HRy, hb7, unhide HBy, unhide by9⟩
end Go.Proofs.YtlboekimnhgfdaaGreat.Draw

/- Whether another number is there already: otherThere of the program. -/
namespace Go.Proofs.YtlboekimnhgfdaaGreat.Tab
open Go.RowKit Rw
set_option linter.unusedVariables false
set_option linter.unusedSimpArgs false
attribute [local go_sem ↓] Go.wp_at_zero Go.wp_at_succ
def firstT (T : Int) (xs : List Sam.E) : Option Sam.E := xs.find? fun z => decide (z.1 = T)
def otherI (ls : List Lab.E) (T V : Int) : List Row.E → Bool
  | [] => false
  | x :: L => if Lab.cmpL x.1 ls = 0 then (match firstT T x.2 with | some z => decide (z.2 ≠ V) | none => otherI ls T V L) else otherI ls T V L
theorem otherI_no {ls : List Lab.E} {T V : Int} : ∀ {L : List Row.E}, (∀ y ∈ L, 0 < Lab.cmpL y.1 ls) → otherI ls T V L = false
  | [], _ => rfl
  | x :: L, h => by rw [otherI, if_neg (by have := h x (List.mem_cons_self ..); omega)]; exact otherI_no (fun y hy => h y (List.mem_cons_of_mem _ hy))
theorem cut_first (T V : Int) (xs : List Sam.E) : (match Samp.cutL xs T (T + 1) with | [] => false | x :: _ => decide (x.2 ≠ V)) = (match firstT T xs with | some z => decide (z.2 ≠ V) | none => false) := by
  have e : Samp.inT T (T + 1) = fun z => decide (z.1 = T) := by
    funext z
    unfold Samp.inT
    rw [Bool.eq_iff_iff]
    simp only [Bool.and_eq_true, decide_eq_true_eq]
    omega
  unfold Samp.cutL firstT
  rw [e, ← List.head?_filter]
  cases List.filter (fun z : Sam.E => decide (z.1 = T)) xs <;> rfl
theorem behind {ls : List Lab.E} {x : Row.E} {L : List Row.E} (up : ∀ y ∈ L, Lab.cmpL x.1 y.1 < 0) (hc : 0 ≤ Lab.cmpL x.1 ls) : ∀ y ∈ L, 0 < Lab.cmpL y.1 ls := fun y hy => by
  have h1 := Lab.ordL.anti x.1 ls
  have h2 := Lab.ordL.trans ls x.1 y.1 (by omega) (by have := up y hy; omega)
  have h3 := Lab.ordL.anti ls y.1
  by_cases h0 : Lab.cmpL ls y.1 = 0
  · have := Lab.ordL.zero _ _ h0
    rw [this] at hc
    have := up y hy
    omega
  · omega
theorem otherI_is {ls : List Lab.E} {T V : Int} : ∀ {L : List Row.E}, Row.Fine L → otherI ls T V L = otherE L ls T V
  | [], _ => by simp [otherI, otherE, Row.there, Row.place]
  | x :: L, h => by
    have ih := otherI_is (ls := ls) (T := T) (V := V) (Row.fine_tail h)
    have up := (List.pairwise_cons.1 h.up).1
    rcases Int.lt_trichotomy (Lab.cmpL x.1 ls) 0 with hc | hc | hc
    · have hp : Row.place (x :: L) ls = Row.place L ls + 1 := by rw [Row.place, if_pos hc]
      have ha : Row.at' (x :: L) (Row.place L ls + 1) = Row.at' L (Row.place L ls) := by simp [Row.at']
      have ht : Row.there (x :: L) ls = Row.there L ls := by unfold Row.there; rw [hp, ha]; simp
      rw [otherI, if_neg (by omega), ih]
      unfold otherE
      rw [ht, hp, ha]
    · have hp : Row.place (x :: L) ls = 0 := by rw [Row.place, if_neg (by omega)]
      have ht : Row.there (x :: L) ls = true := by unfold Row.there; rw [hp]; simp [Row.at', hc]
      have hno : otherI ls T V L = false := otherI_no (behind up (by omega))
      rw [otherI, if_pos hc, hno]
      unfold otherE
      rw [ht, hp, show Row.at' (x :: L) 0 = x from rfl, Bool.true_and]
      exact (cut_first T V x.2).symm
    · have hp : Row.place (x :: L) ls = 0 := by rw [Row.place, if_neg (by omega)]
      have ht : Row.there (x :: L) ls = false := by unfold Row.there; rw [hp]; simp [Row.at']; omega
      have hno : otherI ls T V L = false := otherI_no (behind up (by omega))
      rw [otherI, if_neg (by omega), hno]
      unfold otherE
      rw [ht]; rfl
theorem drop_row {L : List Row.E} {j : Nat} (h : j < L.length) : L.drop j = Row.at' L j :: L.drop (j + 1) := by rw [List.drop_eq_getElem_cons h, Row.at_get L j h]
theorem drop_sam {L : List Sam.E} {j : Nat} (h : j < L.length) : L.drop j = Sam.at' L j :: L.drop (j + 1) := by rw [List.drop_eq_getElem_cons h, Sam.at_get L j h]
theorem firstT_no {T : Int} {xs : List Sam.E} {k : Nat} (hk : k < xs.length) (h : firstT T (xs.drop k) = firstT T xs) (hne : (Sam.at' xs k).1 ≠ T) : firstT T (xs.drop (k + 1)) = firstT T xs := by
  rw [← h, drop_sam hk]
  unfold firstT
  rw [List.find?_cons_of_neg (by simpa using hne)]
theorem firstT_yes {T : Int} {xs : List Sam.E} {k : Nat} (hk : k < xs.length) (h : firstT T (xs.drop k) = firstT T xs) (he : (Sam.at' xs k).1 = T) : firstT T xs = some (Sam.at' xs k) := by
  rw [← h, drop_sam hk]
  unfold firstT
  rw [List.find?_cons_of_pos (by simpa using he)]
set_option maxRecDepth 100000 in
set_option maxHeartbeats 8000000 in
theorem other_any {w : World} {u : Value} {L : List Row.E} {ls : List Lab.E} (tb : Nat) (va : Option Addr) (vn vq : Nat) (T V : Int) (htb : tb < w.heap.size) (hc : w.cell? ⟨tb, 0, none⟩ = some (.slice va vn vq)) (h : Row.Is w (.slice va vn vq) L) (hok : Row.ok L = true) (hl : Lab.Is w u ls) (hlo : Lab.ok ls = true) (hlg : ∀ x ∈ ls, Lab.good x) (hll : ls.length ≤ maxLen) :
    Calls Tryz.prog 149 #[.pointer (some ⟨tb, 0, none⟩), .agg #[u, .int .i64 T, .int .i64 V]] w fun e w' => e = .returned (.bool (otherE L ls T V)) ∧ Below w.heap.size w w' := by
  obtain ⟨au, nu, qu, rfl⟩ : ∃ a n q, u = .slice a n q := by obtain ⟨-, a, q, e, -⟩ := hl; exact ⟨a, _, q, e⟩
  obtain ⟨W, hW⟩ : ∃ W, w.alloc (.cells #[.slice au nu qu, .int .i64 T, .int .i64 V] 62) = W := ⟨_, rfl⟩
  have bW : Below w.heap.size w W := by rw [← hW]; exact (Below.refl _ _).alloc (Nat.le_refl _) _
  have zW : w.heap.size < W.heap.size := by rw [← hW]; simp
  have q0 : W.cell? ⟨w.heap.size, 0, none⟩ = some (.slice au nu qu) := by rw [← hW]; simp [go_sem]
  have q1 : W.cell? ⟨w.heap.size, 1, none⟩ = some (.int .i64 T) := by rw [← hW]; simp [go_sem]
  have q2 : W.cell? ⟨w.heap.size, 2, none⟩ = some (.int .i64 V) := by rw [← hW]; simp [go_sem]
  have hcW : W.cell? ⟨tb, 0, none⟩ = some (.slice va vn vq) := (bW.cell (p := ⟨tb, 0, none⟩) htb).trans hc
  have hI := hide (Row.fine_ok hok)
  have HLab := hide (fun j (hj : j < L.length) (X : World) (v : Value) (hv : Lab.Is X v (Row.at' L j).1) (hu : Lab.Is X (.slice au nu qu) ls) => show Calls Tryz.prog 110 #[v, .slice au nu qu] X (fun e w' => e = .returned (.int .i64 (Lab.cmpL (Row.at' L j).1 ls)) ∧ Below X.heap.size X w') from by
    have hg := Row.fine_good (unhide hI) _ (Row.at_mem L j hj)
    have hx := Lab.impl_cmp hv hu hg.1.2 hlg hg.1.1 hll
    rwa [Lab.cmp_ok ((unhide hI).lab _ (Row.at_mem L j hj)) hlo] at hx)
  have HLs := hide (hl.below bW)
  have HOI := hide (otherI_is (ls := ls) (T := T) (V := V) (unhide hI))
  obtain ⟨cs, hcs, hL, hE⟩ := h.below bW
  have HE := hide hE
  obtain ⟨-, a, cap, ee, hcp, hm, -, hr⟩ := hL
  simp only [Value.slice.injEq] at ee
  obtain ⟨rfl, hvn, rfl⟩ := ee
  unfold maxLen at hm
  rw [← hvn] at hcp hr hcs
  have HN := hide hvn
  have HC := hide hcs
  obtain ⟨R, hR⟩ : ∃ R, R = otherE L ls T V := ⟨_, rfl⟩
  rw [← hR] at HOI ⊢
  clear h hok hl hlo hlg hll hvn hE hcs hR hc hI
  go_enter Tryz.func149, Tryz.ntmps149
  go_wp2_with fail
  go_loopw [15] (fun i wr => ∃ (j : Nat), j ≤ vn ∧ i = .int .i64 j ∧ Hid (otherI ls T V (L.drop j) = R) ∧ Below W.heap.size W wr) (fun i _ => vn - (intOf i).toNat)
  case atStart => exact ⟨0, Nat.zero_le _, rfl, HOI, Below.refl _ _⟩
  case round =>
    obtain ⟨j, hj, rfl, HO, hbel⟩ := hrel
    clear HOI
    obtain ⟨wo, hwo⟩ : ∃ wo, wo = wr := ⟨_, rfl⟩
    subst hwo
    have hsz := hbel.size
    have q0o : wo.cell? ⟨w.heap.size, 0, none⟩ = some (.slice au nu qu) := (hbel.cell (p := ⟨w.heap.size, 0, none⟩) zW).trans q0
    by_cases hlt : j < vn
    · obtain ⟨b, off, rfl, hlb, hcells⟩ := hr (by omega)
      have hjL : j < L.length := by have := unhide HN; omega
      have fa := Row.flat_at cs j (by have := unhide HC; omega)
      have hc1 : wo.cell? ⟨b, off + j * 2 + 1, none⟩ = some (Row.cat cs j).2 := (hbel.cell (p := ⟨b, _, none⟩) hlb).trans (hcells (j * 2 + 1) _ fa.2)
      have hc0 : wo.cell? ⟨b, off + j * 2, none⟩ = some (Row.cat cs j).1 := (hbel.cell (p := ⟨b, _, none⟩) hlb).trans (hcells (j * 2) _ fa.1)
      have hEj := (unhide HE j hjL).below hbel
      obtain ⟨-, a2, q2', f2, g2, g2', -, hr2⟩ := id hEj.2
      obtain ⟨l2, hl2⟩ : ∃ l, l = (Row.at' L j).2.length := ⟨_, rfl⟩
      unfold maxLen at g2'
      rw [f2, ← hl2] at hc1
      rw [← hl2] at g2 hr2
      have HL2 := hide hl2
      have hk0 : (0 : Int) ≤ (j : Int) := Int.natCast_nonneg _
      have hk1 : (j : Int) < (vn : Int) := by omega
      obtain ⟨-, a1, q1', f1, -⟩ := id hEj.1
      obtain ⟨l1, hl1⟩ : ∃ l, l = (Row.at' L j).1.length := ⟨_, rfl⟩
      rw [f1, ← hl1] at hc0
      have hEj1 := hEj.1
      rw [f1, ← hl1] at hEj1
      have ba : Below wo.heap.size wo (wo.alloc (.cells #[.slice a1 l1 q1', .slice a2 l2 q2'] 93)) := (Below.refl _ _).alloc (Nat.le_refl _) _
      have HCmp := hide (unhide HLab j hjL _ _ (hEj1.below ba) (((unhide HLs).below hbel).below ba))
      have HD := hide (drop_row hjL)
      have hno : wo.heap.size ≠ w.heap.size := by omega
      have hno' : w.heap.size ≠ wo.heap.size := by omega
      have hlo' : w.heap.size < wo.heap.size := by omega
      obtain ⟨c, hcc⟩ : ∃ c, c = Lab.cmpL (Row.at' L j).1 ls := ⟨_, rfl⟩
      rw [← hcc] at HCmp
      have HCC := hide hcc
      clear fa hEj hEj1 f1 f2 hl1 hl2 hcc
      go_wp2_with fail
      refine (unhide HCmp).mono ?_
      rintro e w1 ⟨rfl, b1⟩
      have b01 : Below wo.heap.size wo w1 := ba.trans (b1.mono ba.size)
      have z1 := b1.size
      simp only [World.size_alloc] at z1
      have bW1 := hbel.trans (b01.mono hsz)
      have r1 : w1.cell? ⟨wo.heap.size, 1, none⟩ = some (.slice a2 l2 q2') := (b1.cell (p := ⟨wo.heap.size, 1, none⟩) (by simp)).trans (by simp [go_sem])
      have q0' : w1.cell? ⟨w.heap.size, 0, none⟩ = some (.slice au nu qu) := (bW1.cell (p := ⟨w.heap.size, 0, none⟩) zW).trans q0
      clear HCmp b1 ba
      by_cases h0 : c = 0
      · have hcb : (c != 0) = false := by simp [h0]
        have HI := hide (show (match firstT T (Row.at' L j).2 with | some z => decide (z.2 ≠ V) | none => otherI ls T V (L.drop (j + 1))) = R from by
          have := unhide HO
          rw [unhide HD, otherI, if_pos (by rw [← unhide HCC]; exact h0)] at this
          exact this)
        clear h0 HO
        go_wp2_with fail
        go_loopw [28] (fun i wr => ∃ (k : Nat), k ≤ l2 ∧ i = .int .i64 k ∧ Hid (firstT T ((Row.at' L j).2.drop k) = firstT T (Row.at' L j).2) ∧ Below wo.heap.size wo wr) (fun i _ => l2 - (intOf i).toNat)
        case atStart => exact ⟨0, Nat.zero_le _, rfl, hide rfl, b01⟩
        case round =>
          obtain ⟨k, hk, rfl, HK, hbel2⟩ := hrel
          have hsz2 := hbel2.size
          have hbw : Below W.heap.size W wr := hbel.trans (hbel2.mono hsz)
          by_cases hlt2 : k < l2
          · obtain ⟨b2, off2, rfl, hlb2, hcells2⟩ := hr2 (by omega)
            have hkL : k < (Row.at' L j).2.length := by have := unhide HL2; omega
            have fs := Sam.flat_at (Row.at' L j).2 k hkL
            have hx0 : wr.cell? ⟨b2, off2 + k * 2, none⟩ = some (.int .i64 (Sam.at' (Row.at' L j).2 k).1) := (hbel2.cell (p := ⟨b2, _, none⟩) hlb2).trans (hcells2 (k * 2) _ fs.1)
            have hx1 : wr.cell? ⟨b2, off2 + k * 2 + 1, none⟩ = some (.int .i64 (Sam.at' (Row.at' L j).2 k).2) := (hbel2.cell (p := ⟨b2, _, none⟩) hlb2).trans (hcells2 (k * 2 + 1) _ fs.2)
            have HNo := hide (fun h => firstT_no (T := T) hkL (unhide HK) h)
            have HYes := hide (fun h => firstT_yes (T := T) hkL (unhide HK) h)
            obtain ⟨S, hS⟩ : ∃ S, S = Sam.at' (Row.at' L j).2 k := ⟨_, rfl⟩
            rw [← hS] at hx0 hx1 HNo HYes
            obtain ⟨ST, SV⟩ := S
            simp only at hx0 hx1
            have q1r : wr.cell? ⟨w.heap.size, 1, none⟩ = some (.int .i64 T) := (hbw.cell (p := ⟨w.heap.size, 1, none⟩) zW).trans q1
            have q2r : wr.cell? ⟨w.heap.size, 2, none⟩ = some (.int .i64 V) := (hbw.cell (p := ⟨w.heap.size, 2, none⟩) zW).trans q2
            have hlr : w.heap.size < wr.heap.size := by omega
            have hnr : w.heap.size ≠ wr.heap.size := by omega
            have hnr' : wr.heap.size ≠ w.heap.size := by omega
            clear hS fs
            have hm0 : (0 : Int) ≤ (k : Int) := Int.natCast_nonneg _
            have hm1 : (k : Int) < (l2 : Int) := by omega
            have hb9 := bW.trans ((hbw.alloc hbw.size (.cells #[.int .i64 ST, .int .i64 SV] 106)).mono bW.size)
            have hb8 := hbel2.alloc hbel2.size (.cells #[.int .i64 ST, .int .i64 SV] 106)
            by_cases he : ST = T
            · have HF := hide (show (SV != V) = R from by
                have := unhide HI
                rw [unhide HYes he] at this
                simp only at this
                rw [← this, Bool.eq_iff_iff]; simp)
              have heb : (ST == T) = true := by simp [he]
              rw [he] at hb9
              go_wp2_with fail
              go_ret
              exact ⟨ret_bool (unhide HF), hb9⟩
            · have HU := hide (unhide HNo he)
              have heb : (ST == T) = false := by simp [he]
              go_wp2
              go_roundw
              case rel => exact ⟨k + 1, by omega, by go_num, HU, hb8⟩
              case measure => simp [intOf]; omega
          · obtain rfl : k = l2 := by omega
            have HU := hide (show otherI ls T V (L.drop (j + 1)) = R from by
              have h1 := unhide HK
              rw [List.drop_of_length_le (by have := unhide HL2; omega)] at h1
              have := unhide HI
              rw [← h1] at this
              exact this)
            go_wp2
            go_roundw
            case rel => exact ⟨j + 1, by omega, by go_num, HU, hbw⟩
            case measure => simp [intOf]; omega
      · have hcb : (c != 0) = true := by simp [h0]
        have HU := hide (show otherI ls T V (L.drop (j + 1)) = R from by
          have := unhide HO
          rw [unhide HD, otherI, if_neg (by rw [← unhide HCC]; exact h0)] at this
          exact this)
        go_wp2
        go_roundw
        case rel => exact ⟨j + 1, by omega, by go_num, HU, bW1⟩
        case measure => simp [intOf]; omega
    · obtain rfl : j = vn := by omega
      have HU := hide (show R = false by
        have := unhide HO
        rw [List.drop_of_length_le (by have := unhide HN; omega)] at this
        exact this.symm)
      have hb9 := bW.trans (hbel.mono bW.size)
      go_wp2
      go_ret
      exact ⟨ret_bool (unhide HU).symm, hb9⟩
end Go.Proofs.YtlboekimnhgfdaaGreat.Tab
