/- Slices of slices of labels are drawn. -/
import Derived.Test.YtfccibbgjjajjaaDrawLab2
import Derived.Test.YtfccibbgjjajjaaLssLaw
namespace Go.Proofs.Ytfccibbgjjajjaa.Draw
open Go.RowKit Rw
set_option linter.unusedVariables false
attribute [local go_sem ↓] Go.wp_at_zero Go.wp_at_succ
def smallLL (x : Lss.E) : Prop := x.length ≤ 20 ∧ ∀ y ∈ x, smallL y
theorem good_smallLL {x : Lss.E} (h : smallLL x) : Lss.good x := ⟨by have := h.1; unfold maxLen; omega, fun y hy => good_smallL (h.2 y hy)⟩
theorem small_snocLL {L : List Lss.E} {x : Lss.E} (h : ∀ y ∈ L, smallLL y) (hx : smallLL x) : ∀ y ∈ L ++ [x], smallLL y := by
  intro y hy
  rw [List.mem_append, List.mem_singleton] at hy
  rcases hy with hy | rfl
  · exact h y hy
  · exact hx
theorem own_grown {w w' : World} {base n size : Nat} {e : TypeId} {v : Value} {xs : List Value} {row : Option Nat} (h : w.ownsRow base e size v n xs) (hg : w.grownBy w' row) (hne : ∀ k, v.ownBlock = some k → row ≠ some k) : w'.ownsRow base e size v n xs := by
  refine ⟨h.1, ?_⟩
  rcases h.2 with h1 | ⟨c, cap, cur, h1, h2, h3, h4⟩
  · exact .inl h1
  · refine .inr ⟨c, cap, cur, h1, h2, ?_, h4⟩
    have hl := own_block_lt h c (by rw [h1]; rfl)
    rw [hg.block c hl (fun e => hne c (by rw [h1]; rfl) e.symm)]
    exact h3
/-- a slice of slices, all of them rows of the call's own, from a block on -/
def ManyOwn (base : Nat) (w : World) (v : Value) (L : List Lss.E) : Prop := ∃ cs : List Value, cs.length = L.length ∧ w.ownsRow base 56 1 v L.length (flatOf Lss.cl cs) ∧ ∀ i, i < L.length → w.ownsRow base 70 2 (Lss.cat cs i) (Lss.at' L i).length (Lab.flat (Lss.at' L i))
theorem ManyOwn.is {base : Nat} {w : World} {v : Value} {L : List Lss.E} (h : ManyOwn base w v L) : Lss.Is w v L := by
  obtain ⟨cs, h1, h2, h3⟩ := h
  exact ⟨cs, h1, lies_of_own h2, fun i hi => Lab.is_of_own (h3 i hi)⟩
theorem ManyOwn.kept {base rb : Nat} {w w' : World} {v : Value} {L : List Lss.E} (h : ManyOwn base w v L) (hg : w.grownBy w' (some rb)) (hr : rb < base) : ManyOwn base w' v L := by
  obtain ⟨cs, h1, h2, h3⟩ := h
  exact ⟨cs, h1, own_kept h2 hg hr, fun i hi => own_kept (h3 i hi) hg hr⟩
theorem ManyOwn.below {base : Nat} {w w' : World} {v : Value} {L : List Lss.E} (h : ManyOwn base w v L) (hb : Below w.heap.size w w') : ManyOwn base w' v L := by
  obtain ⟨cs, h1, h2, h3⟩ := h
  exact ⟨cs, h1, own_below h2 hb, fun i hi => own_below (h3 i hi) hb⟩
theorem many_nil {w : World} {base : Nat} (hb : base ≤ w.heap.size) : ManyOwn base (w.alloc (.cells #[] 56)) (.slice (some ⟨w.heap.size, 0, none⟩) 0 0) [] := ⟨[], rfl, own_empty hb, fun i h => by cases h⟩
theorem many_app {base : Nat} {w1 w2 w9 : World} {ov vn v : Value} {L : List Lss.E} {x : Lss.E} {n : Nat} {xs : List Value} {cs : List Value} (hcs : cs.length = L.length) (ho : w1.ownsRow base 56 1 ov L.length (flatOf Lss.cl cs))
    (hi : ∀ i, i < L.length → w1.ownsRow base 70 2 (Lss.cat cs i) (Lss.at' L i).length (Lab.flat (Lss.at' L i))) (hx : w1.ownsRow base 70 2 v x.length (Lab.flat x)) (hb : Below w1.heap.size w1 w2)
    (hn : n = L.length + 1) (hxs : xs = flatOf Lss.cl cs ++ [v]) (on : w9.ownsRow base 56 1 vn n xs) (gn : w2.grownBy w9 ov.ownBlock) : ManyOwn base w9 vn (L ++ [x]) := by
  subst hn hxs
  have key : ∀ {u : Value} {m : Nat} {ys : List Value}, w1.ownsRow base 70 2 u m ys → w9.ownsRow base 70 2 u m ys := fun h => own_grown (own_below h hb) gn (fun k hk e => own_ne_type h ho (by decide) k hk e)
  refine ⟨cs ++ [v], by simp [hcs], ?_, fun i hi' => ?_⟩
  · rw [List.length_append, flatOf_append, flatOf_one]; exact on
  · rw [List.length_append] at hi'
    simp only [List.length_cons, List.length_nil] at hi'
    by_cases hl : i < L.length
    · rw [Lss.cat_lt _ _ _ (by omega), show Lss.at' (L ++ [x]) i = Lss.at' L i by simp [Lss.at', List.getD, List.getElem?_append_left hl]]
      exact key (hi i hl)
    · obtain rfl : i = L.length := by omega
      rw [show Lss.cat (cs ++ [v]) L.length = v by rw [← hcs]; exact Lss.cat_last cs v, show Lss.at' (L ++ [x]) L.length = x by simp [Lss.at', List.getD]]
      exact key hx
set_option maxRecDepth 100000 in
set_option maxHeartbeats 4000000 in
theorem drawMany_any (rb p : Nat) (w : World) (h : Rd w rb p) (hp : p ≤ 600000) :
    Calls Try.prog 65 #[.pointer (some ⟨rb, 0, none⟩)] w fun e w' => ∃ (zs : List Lss.E) (v : Value), e = .returned v ∧ zs.length ≤ 7 ∧ (∀ x ∈ zs, smallLL x) ∧ ManyOwn w.heap.size w' v zs ∧ (∃ p', p' ≤ p + 1000 ∧ Rd w' rb p') ∧ w.grownBy w' (some rb) := by
  obtain ⟨i0, hi, hz0, hz1, hz2⟩ := info_parts Lss.info_e
  have hrl := h.lt
  have hmx : 1 ≤ maxLen := by unfold maxLen; omega
  have HR := hide h
  clear h
  go_enter Try.func65, Try.ntmps65
  go_wp2_with fail
  refine (pick_any rb p _ _ ((unhide HR).below ((Below.refl _ _).alloc (Nat.le_refl _) _)) (by omega) (by omega)).mono ?_
  rintro e w1 ⟨n, rfl, n0, n1, -, r1, g1⟩
  have n2 : n < 7 := n1 (by omega)
  have o1 := hide ((many_nil (w := w) (base := w.heap.size) (Nat.le_refl _)).kept g1 hrl)
  have q1 : w.grownBy w1 (some rb) := grown_trans (grown_below ((Below.refl _ _).alloc (Nat.le_refl _) _)) g1
  clear n1 HR g1
  go_wp2_with fail
  go_loopw [3, 4] (fun ov kv wr => ∃ (k : Nat) (L : List Lss.E) (p' : Nat), kv = .int .i64 (k : Int) ∧ (∃ a l q, ov = .slice a l q) ∧ L.length + k ≤ 6 ∧ p' ≤ p + 1 + 10 * L.length ∧ Hid (∀ x ∈ L, smallLL x) ∧ Hid (ManyOwn w.heap.size wr ov L) ∧ Rd wr rb p' ∧ w.grownBy wr (some rb)) (fun _ kv _ => (intOf kv).toNat)
  case atStart => exact ⟨n.toNat, [], p + 1, by rw [Int.toNat_of_nonneg n0], ⟨_, _, _, rfl⟩, by simp; omega, by simp, hide (by simp), o1, r1, q1⟩
  case round =>
    clear o1 q1 r1
    obtain ⟨k, L, p', rfl, ⟨oa, ol, oq, rfl⟩, hk, hp', HM, HO, hrd, hg⟩ := hrel
    have hsz := hg.size
    by_cases hk0 : 0 < k
    · have hk1 : (0 : Int) < (k : Int) := by omega
      go_wp2_with fail
      refine (labels_any rb p' _ hrd (by omega)).mono ?_
      rintro e w2 ⟨x, v, rfl, hx0, hx3, hxs, ox, ⟨p2, hp2, r2⟩, g2⟩
      have q2 := grown_trans hg g2
      have z2 := q2.size
      have zz := g2.size
      obtain ⟨cs, hcs, oo, oi⟩ := (unhide HO).kept g2 hrl
      have oo' := oo
      have OI := hide oi
      have OO := hide oo
      have OX := hide (own_mono ox hsz)
      have HX := hide (show smallLL x from ⟨by omega, hxs⟩)
      obtain ⟨va, vl, vq, rfl⟩ : ∃ a l q, v = .slice a l q := by obtain ⟨-, a, q, e, -⟩ := lies_of_own ox; exact ⟨a, _, q, e⟩
      clear ox hxs HO oi oo hrd hg g2
      go_wp2_with (at_builtin; refine app_wp _ rfl _ _ _ rfl w.heap.size 56 i0 _ 1 24 Try.underlying26 hi hz0 hz1 hz2 rfl (by omega) _ L.length _ rfl (oo'.alloc _) _ 1 [.slice va vl vq] rfl (lies_new rfl rfl hmx) (by simp [Value.oneCell']) (by unfold maxLen; omega) (by omega) (by simp; omega) ?_; intro vn w9 on gn an)
      have ge := own_ge oo'
      have hb9 : Below w2.heap.size w2 (w2.alloc (.cells #[.slice va vl vq] 56)) := (Below.refl _ _).alloc (Nat.le_refl _) _
      have M9 := hide (many_app hcs (unhide OO) (unhide OI) (unhide OX) hb9 rfl rfl on gn)
      have R := hide (show w.grownBy w9 (some rb) from grown_other (grown_trans q2 (grown_below hb9)) gn ge)
      have R1 := hide (show Rd w9 rb p2 from (r2.below hb9).grown gn (fun k hk => by have := ge k hk; omega))
      obtain ⟨na, nl, nq, rfl⟩ : ∃ a l q, vn = .slice a l q := by obtain ⟨-, a, q, e, -⟩ := lies_of_own on; exact ⟨a, _, q, e⟩
      clear on gn ge q2 r2 an OO OI OX oo' hb9
      go_wp2_with fail
      go_roundw
      case rel => exact ⟨k - 1, L ++ [x], p2, by go_num, ⟨_, _, _, rfl⟩, by simp; omega, by simp; omega, hide (small_snocLL (unhide HM) (unhide HX)), M9, unhide R1, unhide R⟩
      case measure => simp [intOf]; omega
    · have hk1 : decide ((0 : Int) < (k : Int)) = false := by simp; omega
      go_wp2_with fail
      refine (pick_any rb p' _ _ hrd (by omega) (by omega)).mono ?_
      rintro e w3 ⟨d, rfl, d0, d1, -, r3, g3⟩
      have HO3 := hide ((unhide HO).kept g3 hrl)
      have q3 := grown_trans hg g3
      have hsz3 := q3.size
      clear HO hrd hg g3 hk1
      by_cases hd : d = 0
      · subst hd
        clear d0 d1
        go_wp2_with fail
        refine (anylabels_any rb (p' + 1) _ r3 (by omega)).mono ?_
        rintro e w2 ⟨x, v, rfl, hx3, hxs, ox, ⟨p2, hp2, r2⟩, g2⟩
        have q2 := grown_trans q3 g2
        have z2 := q2.size
        have zz := g2.size
        obtain ⟨cs, hcs, oo, oi⟩ := (unhide HO3).kept g2 hrl
        have oo' := oo
        have OI := hide oi
        have OO := hide oo
        have OX := hide (own_mono ox hsz3)
        have HX := hide (show smallLL x from ⟨by omega, hxs⟩)
        obtain ⟨va, vl, vq, rfl⟩ : ∃ a l q, v = .slice a l q := by obtain ⟨-, a, q, e, -⟩ := lies_of_own ox; exact ⟨a, _, q, e⟩
        clear ox hxs HO3 oi oo r3 q3 g2
        go_wp2_with (at_builtin; refine app_wp _ rfl _ _ _ rfl w.heap.size 56 i0 _ 1 24 Try.underlying26 hi hz0 hz1 hz2 rfl (by omega) _ L.length _ rfl (oo'.alloc _) _ 1 [.slice va vl vq] rfl (lies_new rfl rfl hmx) (by simp [Value.oneCell']) (by unfold maxLen; omega) (by omega) (by simp; omega) ?_; intro vn w9 on gn an)
        have ge := own_ge oo'
        have hb9 : Below w2.heap.size w2 (w2.alloc (.cells #[.slice va vl vq] 56)) := (Below.refl _ _).alloc (Nat.le_refl _) _
        have M9 := hide (many_app hcs (unhide OO) (unhide OI) (unhide OX) hb9 rfl rfl on gn)
        have R := hide (show w.grownBy w9 (some rb) from grown_other (grown_trans q2 (grown_below hb9)) gn ge)
        have R1 := hide (show Rd w9 rb p2 from (r2.below hb9).grown gn (fun k hk => by have := ge k hk; omega))
        obtain ⟨na, nl, nq, rfl⟩ : ∃ a l q, vn = .slice a l q := by obtain ⟨-, a, q, e, -⟩ := lies_of_own on; exact ⟨a, _, q, e⟩
        clear on gn ge q2 r2 an OO OI OX oo' hb9
        go_wp2_with fail
        go_ret
        exact ⟨L ++ [x], _, rfl, by simp; omega, small_snocLL (unhide HM) (unhide HX), unhide M9, ⟨p2, by omega, unhide R1⟩, unhide R⟩
      · have hd' : (d == 0) = false := by simpa using hd
        clear hd
        go_wp2_with fail
        go_ret
        exact ⟨L, _, rfl, by omega, unhide HM, unhide HO3, ⟨p' + 1, by omega, r3⟩, q3⟩
end Go.Proofs.Ytfccibbgjjajjaa.Draw
