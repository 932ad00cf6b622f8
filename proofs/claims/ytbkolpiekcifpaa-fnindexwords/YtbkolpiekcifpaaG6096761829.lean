/- My own texts of one claim, laid together by program: DrawLab2, DrawMany. -/
import Derived.Test.YtbkolpiekcifpaaG477ebb7667
import Derived.Test.YtbkolpiekcifpaaG5f2156d931
/- Labels are drawn, also such as are none. -/
namespace Go.Proofs.Ytbkolpiekcifpaa.Draw
open Go.RowKit Rw Lab
set_option linter.unusedVariables false
attribute [local go_sem ↓] Go.wp_at_zero Go.wp_at_succ
def slenL : Value → Nat
  | .slice _ n _ => n
  | _ => 0
theorem flat_setA (zs : List Lab.E) (k : Nat) (h : k < zs.length) (A : ByteArray) : Lab.flat (zs.set k (A, (at' zs k).2)) = (Lab.flat zs).set (k * 2) (.string A) := by
  induction zs generalizing k with
  | nil => simp at h
  | cons z zs ih =>
    rcases k with _ | k
    · simp [flatOf, fl, at']
    · have := ih k (by simpa using h)
      have e : (k + 1) * 2 = k * 2 + 1 + 1 := by omega
      have e2 : at' (z :: zs) (k + 1) = at' zs k := by simp [at']
      simp only [Lab.flat, flatOf, fl, List.set_cons_succ, List.flatMap_cons, List.cons_append, List.nil_append, e, e2] at this ⊢
      rw [this]
theorem flat_setB (zs : List Lab.E) (k : Nat) (h : k < zs.length) (B : ByteArray) : Lab.flat (zs.set k ((at' zs k).1, B)) = (Lab.flat zs).set (k * 2 + 1) (.string B) := by
  induction zs generalizing k with
  | nil => simp at h
  | cons z zs ih =>
    rcases k with _ | k
    · simp [flatOf, fl, at']
    · have := ih k (by simpa using h)
      have e : (k + 1) * 2 + 1 = k * 2 + 1 + 1 + 1 := by omega
      have e2 : at' (z :: zs) (k + 1) = at' zs k := by simp [at']
      simp only [Lab.flat, flatOf, fl, List.set_cons_succ, List.flatMap_cons, List.cons_append, List.nil_append, e, e2] at this ⊢
      rw [this]
theorem z_nobody (B : ByteArray) : (⟨#[122]⟩ : ByteArray) ++ B ≠ nobody := by
  intro e
  have := congrArg (fun x : ByteArray => x.data.toList.head?) e
  simp [nobody, ByteArray.data_append] at this
theorem small_set {L : List Lab.E} {k : Nat} {x : Lab.E} (h : ∀ y ∈ L, smallL y) (hx : smallL x) : ∀ y ∈ L.set k x, smallL y := by
  intro y hy
  rcases List.mem_or_eq_of_mem_set hy with hy | rfl
  · exact h y hy
  · exact hx
theorem small_at {L : List Lab.E} {k : Nat} (h : ∀ y ∈ L, smallL y) (hk : k < L.length) : smallL (at' L k) := by
  rw [at_get L k hk]; exact h _ (List.getElem_mem _)
set_option maxRecDepth 100000 in
set_option maxHeartbeats 4000000 in
theorem anylabels_any (rb p : Nat) (w : World) (h : Rd w rb p) (hp : p ≤ 700000) :
    Calls Try.prog 65 #[.pointer (some ⟨rb, 0, none⟩)] w fun e w' => ∃ (zs : List Lab.E) (v : Value), e = .returned v ∧ zs.length ≤ 20 ∧ (∀ x ∈ zs, smallL x) ∧ w'.ownsRow w.heap.size 56 2 v zs.length (Lab.flat zs) ∧ (∃ p', p' ≤ p + 100 ∧ Rd w' rb p') ∧ w.grownBy w' (some rb) := by
  obtain ⟨i0, hi, hz0, hz1, hz2⟩ := info_parts Lab.info_e
  have hrl := h.lt
  have hmx : 1 ≤ maxLen := by unfold maxLen; omega
  have HR := hide h
  clear h
  go_enter Try.func65, Try.ntmps65
  go_wp2_with fail
  refine (labels_any rb p _ (unhide HR) (by omega)).mono ?_
  rintro e w1 ⟨L, v, rfl, hL0, hL, hsm, o1, ⟨p1, hp1, r1⟩, q1⟩
  obtain ⟨g, cp, rfl⟩ : ∃ g cp, v = .slice (some ⟨g, 0, none⟩) L.length cp := by
    rcases o1.2 with ⟨-, h0⟩ | ⟨g, cp, cur, hv, -⟩
    · omega
    · exact ⟨g, cp, hv⟩
  obtain ⟨n, hn⟩ : ∃ n, n = L.length := ⟨_, rfl⟩
  rw [← hn] at hL hL0 o1 ⊢
  have HN := hide hn
  have HM := hide hsm
  clear HR hsm hn
  go_wp2_with fail
  refine (pick_any rb p1 _ _ r1 (by omega) (by omega)).mono ?_
  rintro e w2 ⟨kk, rfl, k0, k1, -, r2, g2⟩
  have k2 : kk < (n : Int) := k1 (by omega)
  obtain ⟨k, rfl⟩ := Int.eq_ofNat_of_zero_le k0
  have o2 := own_kept o1 g2 hrl
  have q2 := grown_trans q1 g2
  clear o1 q1 r1 g2 k1
  go_wp2_with fail
  refine (pick_any rb (p1 + 1) _ _ r2 (by omega) (by omega)).mono ?_
  rintro e w4 ⟨c, rfl, c0, -, -, r4, g4⟩
  have o4 := own_kept o2 g4 hrl
  have q4 := grown_trans q2 g4
  have hsz4 := q4.size
  clear o2 q2 r2 g4
  have hkl : k < L.length := by have := unhide HN; omega
  have hk0 : (0 : Int) ≤ (k : Int) := Int.natCast_nonneg _
  have hk1 : (k : Int) < (n : Int) := by omega
  rcases (show c = 0 ∨ c = 1 ∨ c = 2 ∨ c = 3 ∨ (c ≠ 0 ∧ c ≠ 1 ∧ c ≠ 2 ∧ c ≠ 3) from by omega) with rfl | rfl | rfl | rfl | ⟨e0, e1, e2, e3⟩
  · go_wp2_with fail
    have hof := of_new rb (p1 + 1 + 1) [⟨#[]⟩, ⟨#[65]⟩, ⟨#[116, 111, 111, 108, 111, 110, 103]⟩, ⟨#[122, 122]⟩] _ r4 (by omega) (by simp) (by simp)
    simp only [List.map_cons, List.map_nil, List.length_cons, List.length_nil, Nat.zero_add, Nat.reduceAdd] at hof
    refine hof.mono ?_
    clear hof
    rintro e w5 ⟨x, rfl, hx, r5, g5⟩
    have X0 := hide (show x.size ≤ 100 ∧ x ≠ nobody by
      simp only [List.mem_cons, List.not_mem_nil, or_false] at hx
      rcases hx with rfl | rfl | rfl | rfl <;> decide)
    have o5 := own_kept o4 g5 hrl
    have q5 := grown_trans q4 g5
    have u0 := o5.cellAt (k * 2) (by omega)
    have u1 := o5.cellAt (k * 2 + 1) (by omega)
    rw [(flat_at L k hkl).1] at u0
    rw [(flat_at L k hkl).2] at u1
    have f0 := o5.frozenAt (k * 2)
    have f1 := o5.frozenAt (k * 2 + 1)
    clear o4 q4 r4 g5 hx
    have hge : w.heap.size ≤ g := own_ge o5 g rfl
    have O := hide (show (w5.setCell ⟨g, k * 2, none⟩ (.string x)).ownsRow w.heap.size 56 2 (.slice (some ⟨g, 0, none⟩) n cp) n (Lab.flat (L.set k (x, (at' L k).2))) by
      rw [flat_setA L k hkl x]
      exact (o5.stored (k * 2) (.string x)).1)
    have gS := grown_only ((OnlyAt.refl g w5).setCell (k * 2) (.string x))
    have Q := grown_other q5 gS (fun j hj => by cases hj; exact hge)
    have R := r5.grown gS (fun j hj => by cases hj; omega)
    have HL := hide (show (L.set k (x, (at' L k).2)).length = n by rw [List.length_set, ← unhide HN])
    have HW := hide (show ∀ y ∈ L.set k (x, (at' L k).2), smallL y from small_set (unhide HM) ⟨(unhide X0).1, (small_at (unhide HM) hkl).2.1, (unhide X0).2⟩)
    clear o5 gS
    generalize L.set k (x, (at' L k).2) = M at O HL HW
    go_wp2_with fail
    go_ret
    exact ⟨M, _, rfl, by rw [unhide HL]; omega, unhide HW, by rw [unhide HL]; exact unhide O, ⟨p1 + 1 + 1 + 1, by omega, R⟩, Q⟩
  · go_wp2_with fail
    have hof := of_new rb (p1 + 1 + 1) [⟨#[]⟩, ⟨#[120, 49]⟩, ⟨#[110, 105, 110, 101, 99, 104, 97, 114, 115]⟩, ⟨#[101, 105, 103, 104, 116, 99, 104, 114]⟩] _ r4 (by omega) (by simp) (by simp)
    simp only [List.map_cons, List.map_nil, List.length_cons, List.length_nil, Nat.zero_add, Nat.reduceAdd] at hof
    refine hof.mono ?_
    clear hof
    rintro e w5 ⟨x, rfl, hx, r5, g5⟩
    have X0 := hide (show x.size ≤ 100 ∧ x ≠ nobody by
      simp only [List.mem_cons, List.not_mem_nil, or_false] at hx
      rcases hx with rfl | rfl | rfl | rfl <;> decide)
    have o5 := own_kept o4 g5 hrl
    have q5 := grown_trans q4 g5
    have u0 := o5.cellAt (k * 2) (by omega)
    have u1 := o5.cellAt (k * 2 + 1) (by omega)
    rw [(flat_at L k hkl).1] at u0
    rw [(flat_at L k hkl).2] at u1
    have f0 := o5.frozenAt (k * 2)
    have f1 := o5.frozenAt (k * 2 + 1)
    clear o4 q4 r4 g5 hx
    have hge : w.heap.size ≤ g := own_ge o5 g rfl
    have O := hide (show (w5.setCell ⟨g, k * 2 + 1, none⟩ (.string x)).ownsRow w.heap.size 56 2 (.slice (some ⟨g, 0, none⟩) n cp) n (Lab.flat (L.set k ((at' L k).1, x))) by
      rw [flat_setB L k hkl x]
      exact (o5.stored (k * 2 + 1) (.string x)).1)
    have gS := grown_only ((OnlyAt.refl g w5).setCell (k * 2 + 1) (.string x))
    have Q := grown_other q5 gS (fun j hj => by cases hj; exact hge)
    have R := r5.grown gS (fun j hj => by cases hj; omega)
    have HL := hide (show (L.set k ((at' L k).1, x)).length = n by rw [List.length_set, ← unhide HN])
    have HW := hide (show ∀ y ∈ L.set k ((at' L k).1, x), smallL y from small_set (unhide HM) ⟨(small_at (unhide HM) hkl).1, (unhide X0).1, (small_at (unhide HM) hkl).2.2⟩)
    clear o5 gS
    generalize L.set k ((at' L k).1, x) = M at O HL HW
    go_wp2_with fail
    go_ret
    exact ⟨M, _, rfl, by rw [unhide HL]; omega, unhide HW, by rw [unhide HL]; exact unhide O, ⟨p1 + 1 + 1 + 1, by omega, R⟩, Q⟩
  · clear o4
    have hb : Below w4.heap.size w4 (w4.alloc (.cells #[] 56)) := (Below.refl _ _).alloc (Nat.le_refl _) _
    go_wp2_with fail
    go_ret
    exact ⟨[], _, rfl, by simp, by simp, own_empty hsz4, ⟨p1 + 1 + 1, by omega, r4.below hb⟩, grown_trans q4 (grown_below hb)⟩
  · go_wp2_with fail
    go_loopw [3] (fun ov wr => ∃ (M : List Lab.E) (p2 : Nat) (am : Option Addr) (cm : Nat), ov = .slice am M.length cm ∧ M.length ≤ 10 ∧ p2 ≤ p + 20 + M.length ∧ (∀ x ∈ M, smallL x) ∧ wr.ownsRow w.heap.size 56 2 ov M.length (Lab.flat M) ∧ Rd wr rb p2 ∧ w.grownBy wr (some rb)) (fun ov _ => 100 - slenL ov)
    case atStart => exact ⟨L, p1 + 1 + 1, _, cp, by rw [← unhide HN], by rw [← unhide HN]; omega, by omega, unhide HM, by rw [← unhide HN]; exact o4, r4, q4⟩
    case round =>
      clear o4 r4 q4 hsz4 HM HN hkl
      obtain ⟨M, p2, am, cm, rfl, hM, hp2, hsm, hown, hrd, hg⟩ := hrel
      have HM := hide hsm
      clear hsm
      go_wp2_with fail
      refine (pick_any rb p2 _ _ hrd (by omega) (by omega)).mono ?_
      rintro e w6 ⟨d, rfl, d0, d1, -, r6, g6⟩
      have d2 : d < 2 := d1 (by omega)
      have o6 := own_kept hown g6 hrl
      have q6 := grown_trans hg g6
      have hsz6 := q6.size
      clear hown hg hrd g6 d1
      by_cases hlt : (M.length : Int) < 4 + d
      · have hM2 : M.length ≤ 4 := by omega
        go_wp2_with fail
        refine (many_any M.length w6 hM2).mono ?_
        rintro e w7 ⟨B, rfl, hB, rfl⟩
        have e7 : (⟨#[122]⟩ : ByteArray).size = 1 := rfl
        have B0 := hide (show ((⟨#[122]⟩ : ByteArray) ++ B).size ≤ 100 by rw [ByteArray.size_append, e7]; omega)
        go_wp2_with (at_builtin; refine app_wp _ rfl _ _ _ rfl w.heap.size 56 i0 _ 2 32 Try.underlying44 hi hz0 hz1 hz2 rfl (by omega) _ M.length _ rfl (o6.alloc _) _ 1 [.string (⟨#[122]⟩ ++ B), .string ⟨#[119]⟩] rfl (lies_new rfl rfl hmx) (by simp [Value.oneCell']) (by unfold maxLen; omega) (by omega) (by simp; omega) ?_; intro vn w9 on gn an)
        have ge := own_ge o6
        have R : w.grownBy w9 (some rb) := grown_other (grown_trans q6 (grown_below ((Below.refl _ _).alloc (Nat.le_refl _) _))) gn ge
        have R1 : Rd w9 rb (p2 + 1) := (r6.below ((Below.refl _ _).alloc (Nat.le_refl _) _)).grown gn (fun k hk => by have := ge k hk; omega)
        have R2 := hide (show w9.ownsRow w.heap.size 56 2 vn (M ++ [((⟨#[122]⟩ ++ B, ⟨#[119]⟩) : Lab.E)]).length (Lab.flat (M ++ [((⟨#[122]⟩ ++ B, ⟨#[119]⟩) : Lab.E)])) by rw [List.length_append, flat_snocL]; exact on)
        obtain ⟨an', cn, hvn⟩ : ∃ a c, vn = .slice a (M.length + 1) c := by obtain ⟨-, a, c, e, -⟩ := lies_of_own on; exact ⟨a, c, e⟩
        have HS := hide (show slenL vn = M.length + 1 by rw [hvn]; rfl)
        have HV := hide hvn
        clear on gn ge o6 q6 r6 an hvn
        go_wp2_with fail
        go_roundw
        case rel => exact ⟨M ++ [((⟨#[122]⟩ ++ B, ⟨#[119]⟩) : Lab.E)], p2 + 1, an', cn, by rw [unhide HV]; simp, by simp; omega, by simp; omega, small_snocL (x := ((⟨#[122]⟩ ++ B, ⟨#[119]⟩) : Lab.E)) (unhide HM) ⟨unhide B0, by show ByteArray.size ⟨#[119]⟩ ≤ 100; decide, z_nobody B⟩, unhide R2, R1, R⟩
        case measure => show 100 - slenL vn < 100 - M.length; rw [unhide HS]; omega
      · have hlf : decide ((M.length : Int) < 4 + d) = false := by simpa using hlt
        go_wp2_with fail
        go_ret
        exact ⟨M, _, rfl, by omega, unhide HM, o6, ⟨p2 + 1, by omega, r6⟩, q6⟩
  · have f0 : (c == 0) = false := by simpa using e0
    have f1 : (c == 1) = false := by simpa using e1
    have f2 : (c == 2) = false := by simpa using e2
    have f3 : (c == 3) = false := by simpa using e3
    go_wp2_with fail
    go_ret
    exact ⟨L, _, rfl, by rw [← unhide HN]; omega, unhide HM, by rw [← unhide HN]; exact o4, ⟨p1 + 1 + 1, by omega, r4⟩, q4⟩
end Go.Proofs.Ytbkolpiekcifpaa.Draw

/- Slices of slices of labels are drawn. -/
namespace Go.Proofs.Ytbkolpiekcifpaa.Draw
open Go.RowKit Rw
set_option linter.unusedVariables false
attribute [local go_sem ↓] Go.wp_at_zero Go.wp_at_succ
def smallLL (x : Lss.E) : Prop := x.length ≤ 20 ∧ ∀ y ∈ x, smallL y
theorem good_smallLL {x : Lss.E} (h : smallLL x) : Lss.good x := ⟨by have := h.1; unfold maxLen; omega, fun y hy => good_smallL (h.2 y hy)⟩
theorem small_snocLL {L : List Lss.E} {x : Lss.E} (h : ∀ y ∈ L, smallLL y) (hx : smallLL x) : ∀ y ∈ L ++ [x], smallLL y := by
  intro y hy
  rw [List.mem_append, List.mem_singleton] at hy
  rcases hy with hy | rfl
  · exact h y hy
  · exact hx
theorem own_grown {w w' : World} {base n size : Nat} {e : TypeId} {v : Value} {xs : List Value} {row : Option Nat} (h : w.ownsRow base e size v n xs) (hg : w.grownBy w' row) (hne : ∀ k, v.ownBlock = some k → row ≠ some k) : w'.ownsRow base e size v n xs := by
  refine ⟨h.1, ?_⟩
  rcases h.2 with h1 | ⟨c, cap, cur, h1, h2, h3, h4⟩
  · exact .inl h1
  · refine .inr ⟨c, cap, cur, h1, h2, ?_, h4⟩
    have hl := own_block_lt h c (by rw [h1]; rfl)
    rw [hg.block c hl (fun e => hne c (by rw [h1]; rfl) e.symm)]
    exact h3
/-- a slice of slices, all of them rows of the call's own, from a block on -/
def ManyOwn (base : Nat) (w : World) (v : Value) (L : List Lss.E) : Prop := ∃ cs : List Value, cs.length = L.length ∧ w.ownsRow base 44 1 v L.length (flatOf Lss.cl cs) ∧ ∀ i, i < L.length → w.ownsRow base 56 2 (Lss.cat cs i) (Lss.at' L i).length (Lab.flat (Lss.at' L i))
theorem ManyOwn.is {base : Nat} {w : World} {v : Value} {L : List Lss.E} (h : ManyOwn base w v L) : Lss.Is w v L := by
  obtain ⟨cs, h1, h2, h3⟩ := h
  exact ⟨cs, h1, lies_of_own h2, fun i hi => Lab.is_of_own (h3 i hi)⟩
theorem ManyOwn.kept {base rb : Nat} {w w' : World} {v : Value} {L : List Lss.E} (h : ManyOwn base w v L) (hg : w.grownBy w' (some rb)) (hr : rb < base) : ManyOwn base w' v L := by
  obtain ⟨cs, h1, h2, h3⟩ := h
  exact ⟨cs, h1, own_kept h2 hg hr, fun i hi => own_kept (h3 i hi) hg hr⟩
theorem ManyOwn.below {base : Nat} {w w' : World} {v : Value} {L : List Lss.E} (h : ManyOwn base w v L) (hb : Below w.heap.size w w') : ManyOwn base w' v L := by
  obtain ⟨cs, h1, h2, h3⟩ := h
  exact ⟨cs, h1, own_below h2 hb, fun i hi => own_below (h3 i hi) hb⟩
theorem many_nil {w : World} {base : Nat} (hb : base ≤ w.heap.size) : ManyOwn base (w.alloc (.cells #[] 44)) (.slice (some ⟨w.heap.size, 0, none⟩) 0 0) [] := ⟨[], rfl, own_empty hb, fun i h => by cases h⟩
theorem many_app {base : Nat} {w1 w2 w9 : World} {ov vn v : Value} {L : List Lss.E} {x : Lss.E} {n : Nat} {xs : List Value} {cs : List Value} (hcs : cs.length = L.length) (ho : w1.ownsRow base 44 1 ov L.length (flatOf Lss.cl cs))
    (hi : ∀ i, i < L.length → w1.ownsRow base 56 2 (Lss.cat cs i) (Lss.at' L i).length (Lab.flat (Lss.at' L i))) (hx : w1.ownsRow base 56 2 v x.length (Lab.flat x)) (hb : Below w1.heap.size w1 w2)
    (hn : n = L.length + 1) (hxs : xs = flatOf Lss.cl cs ++ [v]) (on : w9.ownsRow base 44 1 vn n xs) (gn : w2.grownBy w9 ov.ownBlock) : ManyOwn base w9 vn (L ++ [x]) := by
  subst hn hxs
  have key : ∀ {u : Value} {m : Nat} {ys : List Value}, w1.ownsRow base 56 2 u m ys → w9.ownsRow base 56 2 u m ys := fun h => own_grown (own_below h hb) gn (fun k hk e => own_ne_type h ho (by decide) k hk e)
  refine ⟨cs ++ [v], by simp [hcs], ?_, fun i hi' => ?_⟩
  · rw [List.length_append, flatOf_append, flatOf_one]; exact on
  · rw [List.length_append] at hi'
    simp only [List.length_cons, List.length_nil] at hi'
    by_cases hl : i < L.length
    · rw [Lss.cat_lt _ _ _ (by omega), show Lss.at' (L ++ [x]) i = Lss.at' L i by simp [Lss.at', List.getD, List.getElem?_append_left hl]]
      exact key (hi i hl)
    · obtain rfl : i = L.length := by omega
      rw [show Lss.cat (cs ++ [v]) L.length = v by rw [← hcs]; exact Lss.cat_last cs v, show Lss.at' (L ++ [x]) L.length = x by simp [Lss.at', List.getD]]
      exact key hx
set_option maxRecDepth 100000 in
set_option maxHeartbeats 4000000 in
theorem drawMany_any (rb p : Nat) (w : World) (h : Rd w rb p) (hp : p ≤ 600000) :
    Calls Try.prog 39 #[.pointer (some ⟨rb, 0, none⟩)] w fun e w' => ∃ (zs : List Lss.E) (v : Value), e = .returned v ∧ zs.length ≤ 7 ∧ (∀ x ∈ zs, smallLL x) ∧ ManyOwn w.heap.size w' v zs ∧ (∃ p', p' ≤ p + 1000 ∧ Rd w' rb p') ∧ w.grownBy w' (some rb) := by
  obtain ⟨i0, hi, hz0, hz1, hz2⟩ := info_parts Lss.info_e
  have hrl := h.lt
  have hmx : 1 ≤ maxLen := by unfold maxLen; omega
  have HR := hide h
  clear h
  go_enter Try.func39, Try.ntmps39
  go_wp2_with fail
  refine (pick_any rb p _ _ ((unhide HR).below ((Below.refl _ _).alloc (Nat.le_refl _) _)) (by omega) (by omega)).mono ?_
  rintro e w1 ⟨n, rfl, n0, n1, -, r1, g1⟩
  have n2 : n < 7 := n1 (by omega)
  have o1 := hide ((many_nil (w := w) (base := w.heap.size) (Nat.le_refl _)).kept g1 hrl)
  have q1 : w.grownBy w1 (some rb) := grown_trans (grown_below ((Below.refl _ _).alloc (Nat.le_refl _) _)) g1
  clear n1 HR g1
  go_wp2_with fail
  go_loopw [3, 4] (fun ov kv wr => ∃ (k : Nat) (L : List Lss.E) (p' : Nat), kv = .int .i64 (k : Int) ∧ (∃ a l q, ov = .slice a l q) ∧ L.length + k ≤ 6 ∧ p' ≤ p + 1 + 10 * L.length ∧ Hid (∀ x ∈ L, smallLL x) ∧ Hid (ManyOwn w.heap.size wr ov L) ∧ Rd wr rb p' ∧ w.grownBy wr (some rb)) (fun _ kv _ => (intOf kv).toNat)
  case atStart => exact ⟨n.toNat, [], p + 1, by rw [Int.toNat_of_nonneg n0], ⟨_, _, _, rfl⟩, by simp; omega, by simp, hide (by simp), o1, r1, q1⟩
  case round =>
    clear o1 q1 r1
    obtain ⟨k, L, p', rfl, ⟨oa, ol, oq, rfl⟩, hk, hp', HM, HO, hrd, hg⟩ := hrel
    have hsz := hg.size
    by_cases hk0 : 0 < k
    · have hk1 : (0 : Int) < (k : Int) := by omega
      go_wp2_with fail
      refine (labels_any rb p' _ hrd (by omega)).mono ?_
      rintro e w2 ⟨x, v, rfl, hx0, hx3, hxs, ox, ⟨p2, hp2, r2⟩, g2⟩
      have q2 := grown_trans hg g2
      have z2 := q2.size
      have zz := g2.size
      obtain ⟨cs, hcs, oo, oi⟩ := (unhide HO).kept g2 hrl
      have oo' := oo
      have OI := hide oi
      have OO := hide oo
      have OX := hide (own_mono ox hsz)
      have HX := hide (show smallLL x from ⟨by omega, hxs⟩)
      obtain ⟨va, vl, vq, rfl⟩ : ∃ a l q, v = .slice a l q := by obtain ⟨-, a, q, e, -⟩ := lies_of_own ox; exact ⟨a, _, q, e⟩
      clear ox hxs HO oi oo hrd hg g2
      go_wp2_with (at_builtin; refine app_wp _ rfl _ _ _ rfl w.heap.size 44 i0 _ 1 24 Try.underlying26 hi hz0 hz1 hz2 rfl (by omega) _ L.length _ rfl (oo'.alloc _) _ 1 [.slice va vl vq] rfl (lies_new rfl rfl hmx) (by simp [Value.oneCell']) (by unfold maxLen; omega) (by omega) (by simp; omega) ?_; intro vn w9 on gn an)
      have ge := own_ge oo'
      have hb9 : Below w2.heap.size w2 (w2.alloc (.cells #[.slice va vl vq] 44)) := (Below.refl _ _).alloc (Nat.le_refl _) _
      have M9 := hide (many_app hcs (unhide OO) (unhide OI) (unhide OX) hb9 rfl rfl on gn)
      have R := hide (show w.grownBy w9 (some rb) from grown_other (grown_trans q2 (grown_below hb9)) gn ge)
      have R1 := hide (show Rd w9 rb p2 from (r2.below hb9).grown gn (fun k hk => by have := ge k hk; omega))
      obtain ⟨na, nl, nq, rfl⟩ : ∃ a l q, vn = .slice a l q := by obtain ⟨-, a, q, e, -⟩ := lies_of_own on; exact ⟨a, _, q, e⟩
      clear on gn ge q2 r2 an OO OI OX oo' hb9
      go_wp2_with fail
      go_roundw
      case rel => exact ⟨k - 1, L ++ [x], p2, by go_num, ⟨_, _, _, rfl⟩, by simp; omega, by simp; omega, hide (small_snocLL (unhide HM) (unhide HX)), M9, unhide R1, unhide R⟩
      case measure => simp [intOf]; omega
    · have hk1 : decide ((0 : Int) < (k : Int)) = false := by simp; omega
      go_wp2_with fail
      refine (pick_any rb p' _ _ hrd (by omega) (by omega)).mono ?_
      rintro e w3 ⟨d, rfl, d0, d1, -, r3, g3⟩
      have HO3 := hide ((unhide HO).kept g3 hrl)
      have q3 := grown_trans hg g3
      have hsz3 := q3.size
      clear HO hrd hg g3 hk1
      by_cases hd : d = 0
      · subst hd
        clear d0 d1
        go_wp2_with fail
        refine (anylabels_any rb (p' + 1) _ r3 (by omega)).mono ?_
        rintro e w2 ⟨x, v, rfl, hx3, hxs, ox, ⟨p2, hp2, r2⟩, g2⟩
        have q2 := grown_trans q3 g2
        have z2 := q2.size
        have zz := g2.size
        obtain ⟨cs, hcs, oo, oi⟩ := (unhide HO3).kept g2 hrl
        have oo' := oo
        have OI := hide oi
        have OO := hide oo
        have OX := hide (own_mono ox hsz3)
        have HX := hide (show smallLL x from ⟨by omega, hxs⟩)
        obtain ⟨va, vl, vq, rfl⟩ : ∃ a l q, v = .slice a l q := by obtain ⟨-, a, q, e, -⟩ := lies_of_own ox; exact ⟨a, _, q, e⟩
        clear ox hxs HO3 oi oo r3 q3 g2
        go_wp2_with (at_builtin; refine app_wp _ rfl _ _ _ rfl w.heap.size 44 i0 _ 1 24 Try.underlying26 hi hz0 hz1 hz2 rfl (by omega) _ L.length _ rfl (oo'.alloc _) _ 1 [.slice va vl vq] rfl (lies_new rfl rfl hmx) (by simp [Value.oneCell']) (by unfold maxLen; omega) (by omega) (by simp; omega) ?_; intro vn w9 on gn an)
        have ge := own_ge oo'
        have hb9 : Below w2.heap.size w2 (w2.alloc (.cells #[.slice va vl vq] 44)) := (Below.refl _ _).alloc (Nat.le_refl _) _
        have M9 := hide (many_app hcs (unhide OO) (unhide OI) (unhide OX) hb9 rfl rfl on gn)
        have R := hide (show w.grownBy w9 (some rb) from grown_other (grown_trans q2 (grown_below hb9)) gn ge)
        have R1 := hide (show Rd w9 rb p2 from (r2.below hb9).grown gn (fun k hk => by have := ge k hk; omega))
        obtain ⟨na, nl, nq, rfl⟩ : ∃ a l q, vn = .slice a l q := by obtain ⟨-, a, q, e, -⟩ := lies_of_own on; exact ⟨a, _, q, e⟩
        clear on gn ge q2 r2 an OO OI OX oo' hb9
        go_wp2_with fail
        go_ret
        exact ⟨L ++ [x], _, rfl, by simp; omega, small_snocLL (unhide HM) (unhide HX), unhide M9, ⟨p2, by omega, unhide R1⟩, unhide R⟩
      · have hd' : (d == 0) = false := by simpa using hd
        clear hd
        go_wp2_with fail
        go_ret
        exact ⟨L, _, rfl, by omega, unhide HM, unhide HO3, ⟨p' + 1, by omega, r3⟩, q3⟩
end Go.Proofs.Ytbkolpiekcifpaa.Draw
