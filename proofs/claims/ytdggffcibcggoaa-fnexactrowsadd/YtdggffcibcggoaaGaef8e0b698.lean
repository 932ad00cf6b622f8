/- My own texts of one claim, laid together by program: GReg, FnExactRowsAddWalk. -/
import Derived.Test.YtdggffcibcggoaaG1a53b666b4
import Derived.Deep.RegionHeld3
import Derived.Test.YtdggffcibcggoaaGfaa5eb27e5
import Derived.Test.YtdggffcibcggoaaG3b8ea379af
import Derived.Test.YtdggffcibcggoaaGdc1fe76e37
/- A region that draws its order, walked operation by operation: what is wanted and yields, what is not wanted, what is carried out alone. No condition. -/
namespace Go.Proofs.Ytdggffcibcggoaa.Grl
open Go.RowKit
section
variable {P : Program} {l : List Oper} {Q : Exit → Act → World → Prop} {md : Region.Mode} {S : World → Prop}
theorem yes (i : Nat) {oi : Oper} {v : Value} {fuel : Nat} {listed : Array Bool} {a : Act} {w : World} (hi : l[i]? = some oi)
    (hs : Region.noSelect l.toArray = true) (hf : Region.free md l.toArray listed i = true) (hr : (Region.ready md l.toArray listed).contains i = true)
    (hQ : ∀ c a w, Q (.panic c) (a.put oi.dst v) w → Q (.panic c) a w) (hw : Region.wanted oi (yielded l.toArray a.tmps) = true) (hy : ∀ w, S w → (execOp a.eval oi).run P w = .ok (.value v) w) (hS : S w)
    (h : wpAnyH P md l.toArray Q S fuel (listed.setIfInBounds i true) (a.put oi.dst v) w) : wpAnyH P md l.toArray Q S (fuel + 1) listed a w :=
  wpAnyH_take (by simpa using hi) hs hf hr hQ (.inl ⟨hw, hy⟩) hS h
theorem no (i : Nat) {oi : Oper} {fuel : Nat} {listed : Array Bool} {a : Act} {w : World} (hi : l[i]? = some oi)
    (hs : Region.noSelect l.toArray = true) (hf : Region.free md l.toArray listed i = true) (hr : (Region.ready md l.toArray listed).contains i = true)
    (hQ : ∀ c a w, Q (.panic c) (a.put oi.dst undef) w → Q (.panic c) a w) (hw : Region.wanted oi (yielded l.toArray a.tmps) = false) (hS : S w)
    (h : wpAnyH P md l.toArray Q S fuel (listed.setIfInBounds i true) (a.put oi.dst undef) w) : wpAnyH P md l.toArray Q S (fuel + 1) listed a w :=
  wpAnyH_take (by simpa using hi) hs hf hr hQ (.inr ⟨hw, rfl⟩) hS h
theorem one (i : Nat) {o : Oper} {fuel : Nat} {listed : Array Bool} {a : Act} {w : World} (hi : l[i]? = some o) (hr : Region.ready md l.toArray listed = [i])
    (h : ∀ K' : Act → World → Prop, Shut (∀ a w, S w → (S w → wpAnyH P md l.toArray Q S fuel (listed.setIfInBounds i true) a w) → K' a w) → if Region.wanted o (yielded l.toArray a.tmps) = true then Oper.wp P o a w K' Q else K' (a.put o.dst undef) w) :
    wpAnyH P md l.toArray Q S (fuel + 1) listed a w :=
  wpAnyH_ready hr (by simp) (AllReadyH.cons (by simpa using hi) h AllReadyH.nil)
theorem start {id : Nat} {a : Act} {w : World} (hm : P.follows .mixedOrders = true) (hS : S w.drew)
    (h : S w.drew → wpAnyH P .any l.toArray Q S l.length (Array.replicate l.length false) a w.drew) : (Code.region id l.toArray true).wp P Q a w :=
  wp_region_held_drew hm hS (by simpa using h)
end
theorem wrap_ok {n : Int} (h0 : -4611686018427387904 ≤ n) (h1 : n ≤ 4611686018427387904) : IntKind.i64.wrap n = n := by
  have hb : (2 : Int) ^ IntKind.i64.bits = 18446744073709551616 := by decide
  have hb' : (2 : Int) ^ (IntKind.i64.bits - 1) = 9223372036854775808 := by decide
  unfold IntKind.wrap
  simp only [hb, hb']
  have hs : IntKind.i64.signed = true := rfl
  simp only [hs, Bool.true_and, decide_eq_true_eq]
  split <;> omega
end Go.Proofs.Ytdggffcibcggoaa.Grl

/- FnExactRowsAdd returns true at all rows, labels and every sample. -/
namespace Go.Proofs.Ytdggffcibcggoaa
open Go.RowKit Rw
set_option linter.unusedVariables false
set_option maxRecDepth 100000 in
set_option maxHeartbeats 8000000 in
theorem fnExactRowsAdd.walk (a0 : Option Addr) (len0 cap0 : Nat) (z0 : List Row.E) (a1 : Option Addr) (len1 cap1 : Nat) (z1 : List Lab.E) (c2 : Sam1.C) (x2 : Sam1.E) (w : World) (w0 : z0.length = len0 ∧ len0 ≤ maxLen ∧ Row.Is w (.slice a0 len0 cap0) z0 ∧ ∀ x ∈ z0, Row.good x) (w1 : z1.length = len1 ∧ len1 ≤ maxLen ∧ Lies w (.slice a1 len1 cap1) len1 2 (Lab.flat z1) ∧ ∀ x ∈ z1, Lab.good x) (w2 : Sam1.Elem w c2 x2 ∧ Sam1.good x2) :
    Calls Try.prog 4 #[.slice a0 len0 cap0, .slice a1 len1 cap1, .agg #[c2.1, c2.2]] w fun e w' => e = .returned (.bool true) ∧ Below w.heap.size w w' := by
  obtain ⟨aT2, aV2⟩ := x2
  obtain ⟨we2, -⟩ := w2
  unfold Sam1.Elem at we2
  subst we2
  dsimp only
  obtain ⟨e0, m0, h0, g0⟩ := w0
  have s0 : Row.Is w (.slice a0 len0 cap0) z0 := h0
  rw [← e0] at m0
  clear e0 h0
  obtain ⟨e1, m1, h1, g1⟩ := w1
  have s1 : Lab.Is w (.slice a1 len1 cap1) z1 := by rw [← e1] at h1 ⊢; exact h1
  rw [← e1] at m1
  clear e1 h1
  obtain ⟨wx, hwx⟩ : ∃ wx, wx = w.alloc (.cells #[.int .i64 aT2, .int .i64 aV2] 33) := ⟨_, rfl⟩
  have bx : Below w.heap.size w wx := by rw [hwx]; exact (Below.refl _ _).alloc (Nat.le_refl _) _
  have zx : w.heap.size < wx.heap.size := by rw [hwx]; simp
  have P0_0 : wx.cell? ⟨w.heap.size, 0, none⟩ = some (.int .i64 aT2) := by rw [hwx]; simp [go_sem]
  have P1_0 : wx.cell? ⟨w.heap.size, 1, none⟩ = some (.int .i64 aV2) := by rw [hwx]; simp [go_sem]
  replace s0 := s0.below bx
  replace s1 := s1.below bx
  have HS0 := hide (fun W (hB : Below wx.heap.size wx W) (l : Int) (l0 : 0 ≤ l) (l1 : l ≤ 1048576) => Row.sz_any l (s0.below hB) m0 g0 l0 l1)
  obtain ⟨t0, ht0⟩ : ∃ t, t = Row.tot z0 := ⟨_, rfl⟩
  rw [← ht0] at HS0
  have HT0 := hide ht0
  clear ht0
  have HS1 := hide (fun W (hB : Below wx.heap.size wx W) (l : Int) (l0 : 0 ≤ l) (l1 : l ≤ 1048576) => Lab.sz_any l (s1.below hB) m1 g1 l0 l1)
  obtain ⟨t1, ht1⟩ : ∃ t, t = Lab.tot z1 := ⟨_, rfl⟩
  rw [← ht1] at HS1
  have HT1 := hide ht1
  clear ht1
  by_cases hb0 : (1048576 : Int) - (t0 : Int) < 0
  · clear s0 g0 m0 s1 g1 m1
    go_enter Try.func4, Try.ntmps4
    go_wp2_with fail
    rw [← hwx]
    clear hwx
    refine (unhide HS0 _ (Below.refl wx.heap.size wx) (1048576) (by omega) (by omega)).mono ?_
    rintro e u0 ⟨rfl, b0⟩
    have d0 := (Below.refl wx.heap.size wx).trans (b0.mono (Below.refl wx.heap.size wx).size)
    rw [if_pos (by omega)]
    go_wp2_with fail
    go_ret
    exact ⟨rfl, bx.trans ((d0).mono bx.size)⟩
  by_cases hb1 : (1048576 : Int) - (t0 : Int) - (t1 : Int) < 0
  · clear s0 g0 m0 s1 g1 m1
    go_enter Try.func4, Try.ntmps4
    go_wp2_with fail
    rw [← hwx]
    clear hwx
    refine (unhide HS0 _ (Below.refl wx.heap.size wx) (1048576) (by omega) (by omega)).mono ?_
    rintro e u0 ⟨rfl, b0⟩
    have d0 := (Below.refl wx.heap.size wx).trans (b0.mono (Below.refl wx.heap.size wx).size)
    rw [if_neg (by omega)]
    have n0 : decide (1048576 - (t0 : Int) < 0) = false := by simp; omega
    go_wp2_with fail
    refine (unhide HS1 _ d0 (1048576 - (t0 : Int)) (by omega) (by omega)).mono ?_
    rintro e u1 ⟨rfl, b1⟩
    have d1 := d0.trans (b1.mono d0.size)
    rw [if_pos (by omega)]
    go_wp2_with fail
    go_ret
    exact ⟨rfl, bx.trans ((d1).mono bx.size)⟩
  have T0 : Row.tot z0 ≤ 1048576 := by rw [← unhide HT0]; omega
  have HTo0 := hide (fun W (hB : Below wx.heap.size wx W) => Row.toX (s0.below hB) T0)
  have HG0 := hide g0
  have HM0 := hide m0
  have HB0 := hide T0
  clear s0 g0 m0 T0
  have T1 : Lab.tot z1 ≤ 1048576 := by rw [← unhide HT1]; omega
  have HTo1 := hide (fun W (hB : Below wx.heap.size wx W) => Lab.toX (s1.below hB) T1)
  have HG1 := hide g1
  have HM1 := hide m1
  have HB1 := hide T1
  clear s1 g1 m1 T1
  have HRL := hide (show Row.cnt ((Row.radd z0 z1 aT2 aV2).1) ≤ 2097152 ∧ ((Row.radd z0 z1 aT2 aV2).1).length ≤ 2097152 from Row.radd_cnt z0 z1 aT2 aV2)
  obtain ⟨rz, hrz⟩ : ∃ r, r = (Row.radd z0 z1 aT2 aV2).1 := ⟨_, rfl⟩
  rw [← hrz] at HRL
  have HRZ := hide hrz
  clear hrz
  obtain ⟨bz, hbz⟩ : ∃ b, b = (Row.radd z0 z1 aT2 aV2).2 := ⟨_, rfl⟩
  have HBZ := hide hbz
  clear hbz
  have hbb : (bz != bz) = false := by simp
  go_enter Try.func4, Try.ntmps4
  go_wp2_with fail
  rw [← hwx]
  clear hwx
  refine (unhide HS0 _ (Below.refl wx.heap.size wx) (1048576) (by omega) (by omega)).mono ?_
  rintro e u0 ⟨rfl, b0⟩
  have d0 := (Below.refl wx.heap.size wx).trans (b0.mono (Below.refl wx.heap.size wx).size)
  rw [if_neg (by omega)]
  have yy0 := b0.size
  have P0_1 := (b0.cell (p := ⟨w.heap.size, 0, none⟩) (by show w.heap.size < _; omega)).trans P0_0
  have P1_1 := (b0.cell (p := ⟨w.heap.size, 1, none⟩) (by show w.heap.size < _; omega)).trans P1_0
  clear P0_0 P1_0
  have n0 : decide (1048576 - (t0 : Int) < 0) = false := by simp; omega
  go_wp2_with fail
  refine (unhide HS1 _ d0 (1048576 - (t0 : Int)) (by omega) (by omega)).mono ?_
  rintro e u1 ⟨rfl, b1⟩
  have d1 := d0.trans (b1.mono d0.size)
  rw [if_neg (by omega)]
  have yy1 := b1.size
  have P0_2 := (b1.cell (p := ⟨w.heap.size, 0, none⟩) (by show w.heap.size < _; omega)).trans P0_1
  have P1_2 := (b1.cell (p := ⟨w.heap.size, 1, none⟩) (by show w.heap.size < _; omega)).trans P1_1
  clear P0_1 P1_1
  have n1 : decide (1048576 - (t0 : Int) - (t1 : Int) < 0) = false := by simp; omega
  have y0 := b0.size
  have y1 := b1.size
  clear b0 HS0 b1 HS1
  have z0 := d1.size
  have bn : Below u1.heap.size u1 u1.drew := (Below.refl _ _).drew
  have c1 := d1.trans (bn.mono d1.size)
  have z1 := bn.size
  have P0_3 := (bn.cell (p := ⟨w.heap.size, 0, none⟩) (by show w.heap.size < _; omega)).trans P0_2
  have P1_3 := (bn.cell (p := ⟨w.heap.size, 1, none⟩) (by show w.heap.size < _; omega)).trans P1_2
  clear P0_2 P1_2
  clear bn
  go_wp2_with fail
  refine Grl.start (S := fun X => X.cell? ⟨w.heap.size, 0, none⟩ = some (.int .i64 aT2) ∧ X.cell? ⟨w.heap.size, 1, none⟩ = some (.int .i64 aV2)) (by kernel_rfl) (by exact ⟨P0_3, P1_3⟩) (fun hHeld => ?_)
  refine Grl.yes 0 (v := ?_) rfl (by kernel_rfl) (by kernel_rfl) (by kernel_rfl) (fun _ _ _ h => h) (by kernel_rfl) ?_ (by assumption) ?_
  rotate_left
  · (intro wx hSw; (try dsimp only at hSw); go_simp; try with_reducible rfl)
  simp only [Act.put, List.setIfInBounds_toArray, List.set_cons_zero, List.set_cons_succ]
  refine Grl.yes 2 (v := ?_) rfl (by kernel_rfl) (by kernel_rfl) (by kernel_rfl) (fun _ _ _ h => h) (by kernel_rfl) ?_ (by assumption) ?_
  rotate_left
  · (intro wx hSw; (try dsimp only at hSw); go_simp; try with_reducible rfl)
  simp only [Act.put, List.setIfInBounds_toArray, List.set_cons_zero, List.set_cons_succ]
  refine Grl.yes 4 (v := ?_) rfl (by kernel_rfl) (by kernel_rfl) (by kernel_rfl) (fun _ _ _ h => h) (by kernel_rfl) ?_ (by assumption) ?_
  rotate_left
  · (intro wx hSw; (try dsimp only at hSw); go_simp; try with_reducible rfl)
  simp only [Act.put, List.setIfInBounds_toArray, List.set_cons_zero, List.set_cons_succ]
  refine Grl.one 1 rfl (by kernel_rfl) (fun K hK => ?_)
  go_simp
  go_wp2_with (refine (unhide HTo0 _ c1).mono ?_; rintro e w2 ⟨v_p0, rfl, on, bn⟩; have c2 := c1.trans (bn.mono c1.size); have z2 := bn.size; have P0_4 := (bn.cell (p := ⟨w.heap.size, 0, none⟩) (by show w.heap.size < _; omega)).trans P0_3; have P1_4 := (bn.cell (p := ⟨w.heap.size, 1, none⟩) (by show w.heap.size < _; omega)).trans P1_3; clear P0_3 P1_3; obtain ⟨a_p0, l_p0, q_p0, rfl⟩ := Row.Own.form on; have F_p0_2 := on; clear on bn)
  refine hK.out _ _ (by exact ⟨P0_4, P1_4⟩) (fun hHeld => ?_)
  clear hK K
  refine Grl.one 3 rfl (by kernel_rfl) (fun K hK => ?_)
  go_simp
  go_wp2_with (refine (unhide HTo1 _ c2).mono ?_; rintro e w3 ⟨v_p1, rfl, on, bn⟩; have c3 := c2.trans (bn.mono c2.size); have z3 := bn.size; have P0_5 := (bn.cell (p := ⟨w.heap.size, 0, none⟩) (by show w.heap.size < _; omega)).trans P0_4; have P1_5 := (bn.cell (p := ⟨w.heap.size, 1, none⟩) (by show w.heap.size < _; omega)).trans P1_4; clear P0_4 P1_4; have F_p0_3 := F_p0_2.below bn; clear F_p0_2; obtain ⟨a_p1, l_p1, q_p1, rfl⟩ := Lab.Own.form on; have F_p1_3 := on; clear on bn)
  refine hK.out _ _ (by exact ⟨P0_5, P1_5⟩) (fun hHeld => ?_)
  clear hK K
  refine Grl.one 5 rfl (by kernel_rfl) (fun K hK => ?_)
  go_simp
  go_wp2_with (refine (Sam.to_one aT2 aV2 _).mono ?_; rintro e w4 ⟨rfl, bn⟩; have c4 := c3.trans (bn.mono c3.size); have z4 := bn.size; have P0_6 := (bn.cell (p := ⟨w.heap.size, 0, none⟩) (by show w.heap.size < _; omega)).trans P0_5; have P1_6 := (bn.cell (p := ⟨w.heap.size, 1, none⟩) (by show w.heap.size < _; omega)).trans P1_5; clear P0_5 P1_5; have F_p0_4 := F_p0_3.below bn; clear F_p0_3; have F_p1_4 := F_p1_3.below bn; clear F_p1_3; clear bn)
  refine hK.out _ _ (by exact ⟨P0_6, P1_6⟩) (fun hHeld => ?_)
  clear hK K
  refine Grl.one 6 rfl (by kernel_rfl) (fun K hK => ?_)
  go_simp
  go_wp2_with (refine (Row.spec_radd aT2 aV2 F_p0_4.is (unhide HG0) (unhide HM0) F_p1_4.is (unhide HG1) (unhide HM1)).mono ?_; rintro e w5 ⟨v_w, ee, on0, bn⟩; rw [← unhide HBZ] at ee; subst ee; rw [← unhide HRZ] at on0; have on := on0; clear on0; have c5 := c4.trans (bn.mono c4.size); have z5 := bn.size; have P0_7 := (bn.cell (p := ⟨w.heap.size, 0, none⟩) (by show w.heap.size < _; omega)).trans P0_6; have P1_7 := (bn.cell (p := ⟨w.heap.size, 1, none⟩) (by show w.heap.size < _; omega)).trans P1_6; clear P0_6 P1_6; have F_p0_5 := F_p0_4.below bn; clear F_p0_4; have F_p1_5 := F_p1_4.below bn; clear F_p1_4; obtain ⟨a_w, l_w, q_w, rfl⟩ := Row.Own.form on; have F_w_5 := on; clear on bn)
  refine hK.out _ _ (by exact ⟨P0_7, P1_7⟩) (fun hHeld => ?_)
  clear hK K
  refine Grl.yes 7 (v := ?_) rfl (by kernel_rfl) (by kernel_rfl) (by kernel_rfl) (fun _ _ _ h => h) (by kernel_rfl) ?_ (by assumption) ?_
  rotate_left
  · (intro wx hSw; (try dsimp only at hSw); go_simp; try with_reducible rfl)
  simp only [Act.put, List.setIfInBounds_toArray, List.set_cons_zero, List.set_cons_succ]
  refine Grl.yes 8 (v := ?_) rfl (by kernel_rfl) (by kernel_rfl) (by kernel_rfl) (fun _ _ _ h => h) (by kernel_rfl) ?_ (by assumption) ?_
  rotate_left
  · (intro wx hSw; (try dsimp only at hSw); go_simp; try with_reducible rfl)
  simp only [Act.put, List.setIfInBounds_toArray, List.set_cons_zero, List.set_cons_succ]
  refine Grl.yes 9 (v := ?_) rfl (by kernel_rfl) (by kernel_rfl) (by kernel_rfl) (fun _ _ _ h => h) (by kernel_rfl) ?_ (by assumption) ?_
  rotate_left
  · (intro wx hSw; (try dsimp only at hSw); go_simp; try with_reducible rfl)
  simp only [Act.put, List.setIfInBounds_toArray, List.set_cons_zero, List.set_cons_succ]
  refine Grl.yes 10 (v := ?_) rfl (by kernel_rfl) (by kernel_rfl) (by kernel_rfl) (fun _ _ _ h => h) (by kernel_rfl) ?_ (by assumption) ?_
  rotate_left
  · (intro wx hSw; (try dsimp only at hSw); go_simp; try with_reducible rfl)
  simp only [Act.put, List.setIfInBounds_toArray, List.set_cons_zero, List.set_cons_succ]
  refine Grl.yes 11 (v := ?_) rfl (by kernel_rfl) (by kernel_rfl) (by kernel_rfl) (fun _ _ _ h => h) (by kernel_rfl) ?_ (by assumption) ?_
  rotate_left
  · (intro wx hSw; (try dsimp only at hSw); go_simp; try with_reducible rfl)
  simp only [Act.put, List.setIfInBounds_toArray, List.set_cons_zero, List.set_cons_succ]
  refine wpAnyH_done (by kernel_rfl) ?_ _
  clear F_p0_5
  clear F_p1_5
  go_wp2_with fail
  refine (unhide HTo0 _ c5).mono ?_
  rintro e w6 ⟨v_x0, rfl, on, bn⟩
  have c6 := c5.trans (bn.mono c5.size)
  have z6 := bn.size
  have P0_8 := (bn.cell (p := ⟨w.heap.size, 0, none⟩) (by show w.heap.size < _; omega)).trans P0_7
  have P1_8 := (bn.cell (p := ⟨w.heap.size, 1, none⟩) (by show w.heap.size < _; omega)).trans P1_7
  clear P0_7 P1_7
  have F_w_6 := F_w_5.below bn
  clear F_w_5
  obtain ⟨a_x0, l_x0, q_x0, rfl⟩ := Row.Own.form on
  have F_x0_6 := on
  clear on bn
  go_wp2_with fail
  refine (unhide HTo1 _ c6).mono ?_
  rintro e w7 ⟨v_x1, rfl, on, bn⟩
  have c7 := c6.trans (bn.mono c6.size)
  have z7 := bn.size
  have P0_9 := (bn.cell (p := ⟨w.heap.size, 0, none⟩) (by show w.heap.size < _; omega)).trans P0_8
  have P1_9 := (bn.cell (p := ⟨w.heap.size, 1, none⟩) (by show w.heap.size < _; omega)).trans P1_8
  clear P0_8 P1_8
  have F_w_7 := F_w_6.below bn
  clear F_w_6
  have F_x0_7 := F_x0_6.below bn
  clear F_x0_6
  obtain ⟨a_x1, l_x1, q_x1, rfl⟩ := Lab.Own.form on
  have F_x1_7 := on
  clear on bn
  go_wp2_with fail
  refine (Sam.to_one aT2 aV2 _).mono ?_
  rintro e w8 ⟨rfl, bn⟩
  have c8 := c7.trans (bn.mono c7.size)
  have z8 := bn.size
  have P0_10 := (bn.cell (p := ⟨w.heap.size, 0, none⟩) (by show w.heap.size < _; omega)).trans P0_9
  have P1_10 := (bn.cell (p := ⟨w.heap.size, 1, none⟩) (by show w.heap.size < _; omega)).trans P1_9
  clear P0_9 P1_9
  have F_w_8 := F_w_7.below bn
  clear F_w_7
  have F_x0_8 := F_x0_7.below bn
  clear F_x0_7
  have F_x1_8 := F_x1_7.below bn
  clear F_x1_7
  clear bn
  go_wp2_with fail
  refine (Row.impl_radd aT2 aV2 F_x0_8.is (unhide HG0) (unhide HM0) F_x1_8.is (unhide HG1)).mono ?_
  rintro e w9 ⟨v_g, ee, on0, bn⟩
  rw [← unhide HBZ] at ee
  subst ee
  rw [← unhide HRZ] at on0
  have on := on0
  clear on0
  have c9 := c8.trans (bn.mono c8.size)
  have z9 := bn.size
  have P0_11 := (bn.cell (p := ⟨w.heap.size, 0, none⟩) (by show w.heap.size < _; omega)).trans P0_10
  have P1_11 := (bn.cell (p := ⟨w.heap.size, 1, none⟩) (by show w.heap.size < _; omega)).trans P1_10
  clear P0_10 P1_10
  have F_w_9 := F_w_8.below bn
  clear F_w_8
  have F_x0_9 := F_x0_8.below bn
  clear F_x0_8
  have F_x1_9 := F_x1_8.below bn
  clear F_x1_8
  obtain ⟨a_g, l_g, q_g, rfl⟩ := Row.Own.form on
  have F_g_9 := on
  clear on bn
  go_wp2_with fail
  refine (Row.eqX F_g_9.is F_w_9.is).mono ?_
  rintro e w10 ⟨rfl, bn⟩
  have c10 := c9.trans (bn.mono c9.size)
  have z10 := bn.size
  have P0_12 := (bn.cell (p := ⟨w.heap.size, 0, none⟩) (by show w.heap.size < _; omega)).trans P0_11
  have P1_12 := (bn.cell (p := ⟨w.heap.size, 1, none⟩) (by show w.heap.size < _; omega)).trans P1_11
  clear P0_11 P1_11
  have F_w_10 := F_w_9.below bn
  clear F_w_9
  have F_x0_10 := F_x0_9.below bn
  clear F_x0_9
  have F_x1_10 := F_x1_9.below bn
  clear F_x1_9
  have F_g_10 := F_g_9.below bn
  clear F_g_9
  clear bn
  go_wp2_with fail
  refine (unhide HTo0 _ c10).mono ?_
  rintro e w11 ⟨v_r0, rfl, on, bn⟩
  have c11 := c10.trans (bn.mono c10.size)
  have z11 := bn.size
  have P0_13 := (bn.cell (p := ⟨w.heap.size, 0, none⟩) (by show w.heap.size < _; omega)).trans P0_12
  have P1_13 := (bn.cell (p := ⟨w.heap.size, 1, none⟩) (by show w.heap.size < _; omega)).trans P1_12
  clear P0_12 P1_12
  have F_w_11 := F_w_10.below bn
  clear F_w_10
  have F_x0_11 := F_x0_10.below bn
  clear F_x0_10
  have F_x1_11 := F_x1_10.below bn
  clear F_x1_10
  have F_g_11 := F_g_10.below bn
  clear F_g_10
  obtain ⟨a_r0, l_r0, q_r0, rfl⟩ := Row.Own.form on
  have F_r0_11 := on
  clear on bn
  go_wp2_with fail
  refine (Row.eqX F_x0_11.is F_r0_11.is).mono ?_
  rintro e w12 ⟨rfl, bn⟩
  have c12 := c11.trans (bn.mono c11.size)
  have z12 := bn.size
  have P0_14 := (bn.cell (p := ⟨w.heap.size, 0, none⟩) (by show w.heap.size < _; omega)).trans P0_13
  have P1_14 := (bn.cell (p := ⟨w.heap.size, 1, none⟩) (by show w.heap.size < _; omega)).trans P1_13
  clear P0_13 P1_13
  have F_w_12 := F_w_11.below bn
  clear F_w_11
  have F_x0_12 := F_x0_11.below bn
  clear F_x0_11
  have F_x1_12 := F_x1_11.below bn
  clear F_x1_11
  have F_g_12 := F_g_11.below bn
  clear F_g_11
  have F_r0_12 := F_r0_11.below bn
  clear F_r0_11
  clear bn
  clear F_r0_12
  go_wp2_with fail
  refine (unhide HTo1 _ c12).mono ?_
  rintro e w13 ⟨v_r1, rfl, on, bn⟩
  have c13 := c12.trans (bn.mono c12.size)
  have z13 := bn.size
  have P0_15 := (bn.cell (p := ⟨w.heap.size, 0, none⟩) (by show w.heap.size < _; omega)).trans P0_14
  have P1_15 := (bn.cell (p := ⟨w.heap.size, 1, none⟩) (by show w.heap.size < _; omega)).trans P1_14
  clear P0_14 P1_14
  have F_w_13 := F_w_12.below bn
  clear F_w_12
  have F_x0_13 := F_x0_12.below bn
  clear F_x0_12
  have F_x1_13 := F_x1_12.below bn
  clear F_x1_12
  have F_g_13 := F_g_12.below bn
  clear F_g_12
  obtain ⟨a_r1, l_r1, q_r1, rfl⟩ := Lab.Own.form on
  have F_r1_13 := on
  clear on bn
  go_wp2_with fail
  refine (Lab.eqX F_x1_13.is F_r1_13.is).mono ?_
  rintro e w14 ⟨rfl, bn⟩
  have c14 := c13.trans (bn.mono c13.size)
  have z14 := bn.size
  have P0_16 := (bn.cell (p := ⟨w.heap.size, 0, none⟩) (by show w.heap.size < _; omega)).trans P0_15
  have P1_16 := (bn.cell (p := ⟨w.heap.size, 1, none⟩) (by show w.heap.size < _; omega)).trans P1_15
  clear P0_15 P1_15
  have F_w_14 := F_w_13.below bn
  clear F_w_13
  have F_x0_14 := F_x0_13.below bn
  clear F_x0_13
  have F_x1_14 := F_x1_13.below bn
  clear F_x1_13
  have F_g_14 := F_g_13.below bn
  clear F_g_13
  have F_r1_14 := F_r1_13.below bn
  clear F_r1_13
  clear bn
  clear F_r1_14
  go_wp2_with fail
  refine (Row.markA 1 (by omega) (by omega) (unhide HB0) F_x0_14).mono ?_
  rintro e w15 ⟨k0, rfl, ka0, kb0, zn⟩
  clear F_x0_14
  have c15 := c14.trans (zn.below (by omega) (by omega))
  have z15 := zn.size
  have P0_17 := (World.cell?_of_block (a := ⟨w.heap.size, 0, none⟩) (zn.block w.heap.size (by omega) (.inl (by omega)))).trans P0_16
  have P1_17 := (World.cell?_of_block (a := ⟨w.heap.size, 1, none⟩) (zn.block w.heap.size (by omega) (.inl (by omega)))).trans P1_16
  clear P0_16 P1_16
  have F_w_15 := F_w_14.zone zn (by omega)
  clear F_w_14
  have F_x1_15 := F_x1_14.zone zn (by omega)
  clear F_x1_14
  have F_g_15 := F_g_14.zone zn (by omega)
  clear F_g_14
  clear zn
  go_wp2_with fail
  refine (Lab.markA k0 (by omega) (by omega) (unhide HB1) F_x1_15).mono ?_
  rintro e w16 ⟨k1, rfl, ka1, kb1, zn⟩
  clear F_x1_15
  have c16 := c15.trans (zn.below (by omega) (by omega))
  have z16 := zn.size
  have P0_18 := (World.cell?_of_block (a := ⟨w.heap.size, 0, none⟩) (zn.block w.heap.size (by omega) (.inl (by omega)))).trans P0_17
  have P1_18 := (World.cell?_of_block (a := ⟨w.heap.size, 1, none⟩) (zn.block w.heap.size (by omega) (.inl (by omega)))).trans P1_17
  clear P0_17 P1_17
  have F_w_16 := F_w_15.zone zn (by omega)
  clear F_w_15
  have F_g_16 := F_g_15.zone zn (by omega)
  clear F_g_15
  clear zn
  have hkn : decide ((k1 : Int) < 0) = false := by simp
  go_wp2_with fail
  refine (Row.eqX F_g_16.is F_w_16.is).mono ?_
  rintro e w17 ⟨rfl, bn⟩
  have c17 := c16.trans (bn.mono c16.size)
  have z17 := bn.size
  have P0_19 := (bn.cell (p := ⟨w.heap.size, 0, none⟩) (by show w.heap.size < _; omega)).trans P0_18
  have P1_19 := (bn.cell (p := ⟨w.heap.size, 1, none⟩) (by show w.heap.size < _; omega)).trans P1_18
  clear P0_18 P1_18
  have F_w_17 := F_w_16.below bn
  clear F_w_16
  have F_g_17 := F_g_16.below bn
  clear F_g_16
  clear bn
  clear hkn
  go_wp2_with fail
  refine (Row.markX 1 (by omega) (by omega) (unhide HRL) F_g_17).mono ?_
  rintro e w18 ⟨km, rfl, ekm, on, zn⟩
  clear F_g_17
  have c18 := c17.trans (zn.below (by omega) (by omega))
  have z18 := zn.size
  have P0_20 := (World.cell?_of_block (a := ⟨w.heap.size, 0, none⟩) (zn.block w.heap.size (by omega) (.inl (by omega)))).trans P0_19
  have P1_20 := (World.cell?_of_block (a := ⟨w.heap.size, 1, none⟩) (zn.block w.heap.size (by omega) (.inl (by omega)))).trans P1_19
  clear P0_19 P1_19
  have F_w_18 := F_w_17.zone zn (by omega)
  clear F_w_17
  have F_g_18 := on
  have HKM := hide ekm
  clear on zn ekm
  go_wp2_with fail
  refine (Row.heldX 1 (by omega) (by omega) (unhide HRL) F_g_18.is).mono ?_
  rintro e w19 ⟨kq, rfl, ekq, bn⟩
  obtain rfl : kq = km := by rw [ekq, unhide HKM]
  have c19 := c18.trans (bn.mono c18.size)
  have z19 := bn.size
  have P0_21 := (bn.cell (p := ⟨w.heap.size, 0, none⟩) (by show w.heap.size < _; omega)).trans P0_20
  have P1_21 := (bn.cell (p := ⟨w.heap.size, 1, none⟩) (by show w.heap.size < _; omega)).trans P1_20
  clear P0_20 P1_20
  have F_w_19 := F_w_18.below bn
  clear F_w_18
  have F_g_19 := F_g_18.below bn
  clear F_g_18
  clear bn ekq
  have hkn : decide ((kq : Int) < 0) = false := by simp
  have HKM' := hide (unhide HKM)
  have bn : Below w19.heap.size w19 w19.drew := (Below.refl _ _).drew
  have c20 := c19.trans (bn.mono c19.size)
  have z20 := bn.size
  have P0_22 := (bn.cell (p := ⟨w.heap.size, 0, none⟩) (by show w.heap.size < _; omega)).trans P0_21
  have P1_22 := (bn.cell (p := ⟨w.heap.size, 1, none⟩) (by show w.heap.size < _; omega)).trans P1_21
  clear P0_21 P1_21
  have F_w_20 := F_w_19.below bn
  clear F_w_19
  have F_g_20 := F_g_19.below bn
  clear F_g_19
  clear bn
  go_wp2_with fail
  refine Grl.start (S := fun X => X.cell? ⟨w.heap.size, 0, none⟩ = some (.int .i64 aT2) ∧ X.cell? ⟨w.heap.size, 1, none⟩ = some (.int .i64 aV2)) (by kernel_rfl) (by exact ⟨P0_22, P1_22⟩) (fun hHeld => ?_)
  refine Grl.yes 0 (v := ?_) rfl (by kernel_rfl) (by kernel_rfl) (by kernel_rfl) (fun _ _ _ h => h) (by kernel_rfl) ?_ (by assumption) ?_
  rotate_left
  · (intro wx hSw; (try dsimp only at hSw); go_simp; try with_reducible rfl)
  simp only [Act.put, List.setIfInBounds_toArray, List.set_cons_zero, List.set_cons_succ]
  refine Grl.yes 2 (v := ?_) rfl (by kernel_rfl) (by kernel_rfl) (by kernel_rfl) (fun _ _ _ h => h) (by kernel_rfl) ?_ (by assumption) ?_
  rotate_left
  · (intro wx hSw; (try dsimp only at hSw); go_simp; try with_reducible rfl)
  simp only [Act.put, List.setIfInBounds_toArray, List.set_cons_zero, List.set_cons_succ]
  refine Grl.yes 4 (v := ?_) rfl (by kernel_rfl) (by kernel_rfl) (by kernel_rfl) (fun _ _ _ h => h) (by kernel_rfl) ?_ (by assumption) ?_
  rotate_left
  · (intro wx hSw; (try dsimp only at hSw); go_simp; try with_reducible rfl)
  simp only [Act.put, List.setIfInBounds_toArray, List.set_cons_zero, List.set_cons_succ]
  refine Grl.one 1 rfl (by kernel_rfl) (fun K hK => ?_)
  go_simp
  go_wp2_with (refine (unhide HTo0 _ c20).mono ?_; rintro e w21 ⟨v_b0, rfl, on, bn⟩; have c21 := c20.trans (bn.mono c20.size); have z21 := bn.size; have P0_23 := (bn.cell (p := ⟨w.heap.size, 0, none⟩) (by show w.heap.size < _; omega)).trans P0_22; have P1_23 := (bn.cell (p := ⟨w.heap.size, 1, none⟩) (by show w.heap.size < _; omega)).trans P1_22; clear P0_22 P1_22; have F_w_21 := F_w_20.below bn; clear F_w_20; have F_g_21 := F_g_20.below bn; clear F_g_20; obtain ⟨a_b0, l_b0, q_b0, rfl⟩ := Row.Own.form on; have F_b0_21 := on; clear on bn)
  refine hK.out _ _ (by exact ⟨P0_23, P1_23⟩) (fun hHeld => ?_)
  clear hK K
  refine Grl.one 3 rfl (by kernel_rfl) (fun K hK => ?_)
  go_simp
  go_wp2_with (refine (unhide HTo1 _ c21).mono ?_; rintro e w22 ⟨v_b1, rfl, on, bn⟩; have c22 := c21.trans (bn.mono c21.size); have z22 := bn.size; have P0_24 := (bn.cell (p := ⟨w.heap.size, 0, none⟩) (by show w.heap.size < _; omega)).trans P0_23; have P1_24 := (bn.cell (p := ⟨w.heap.size, 1, none⟩) (by show w.heap.size < _; omega)).trans P1_23; clear P0_23 P1_23; have F_w_22 := F_w_21.below bn; clear F_w_21; have F_g_22 := F_g_21.below bn; clear F_g_21; have F_b0_22 := F_b0_21.below bn; clear F_b0_21; obtain ⟨a_b1, l_b1, q_b1, rfl⟩ := Lab.Own.form on; have F_b1_22 := on; clear on bn)
  refine hK.out _ _ (by exact ⟨P0_24, P1_24⟩) (fun hHeld => ?_)
  clear hK K
  refine Grl.one 5 rfl (by kernel_rfl) (fun K hK => ?_)
  go_simp
  go_wp2_with (refine (Sam.to_one aT2 aV2 _).mono ?_; rintro e w23 ⟨rfl, bn⟩; have c23 := c22.trans (bn.mono c22.size); have z23 := bn.size; have P0_25 := (bn.cell (p := ⟨w.heap.size, 0, none⟩) (by show w.heap.size < _; omega)).trans P0_24; have P1_25 := (bn.cell (p := ⟨w.heap.size, 1, none⟩) (by show w.heap.size < _; omega)).trans P1_24; clear P0_24 P1_24; have F_w_23 := F_w_22.below bn; clear F_w_22; have F_g_23 := F_g_22.below bn; clear F_g_22; have F_b0_23 := F_b0_22.below bn; clear F_b0_22; have F_b1_23 := F_b1_22.below bn; clear F_b1_22; clear bn)
  refine hK.out _ _ (by exact ⟨P0_25, P1_25⟩) (fun hHeld => ?_)
  clear hK K
  refine Grl.one 6 rfl (by kernel_rfl) (fun K hK => ?_)
  go_simp
  go_wp2_with (refine (Row.impl_radd aT2 aV2 F_b0_23.is (unhide HG0) (unhide HM0) F_b1_23.is (unhide HG1)).mono ?_; rintro e w24 ⟨v_h, ee, on0, bn⟩; rw [← unhide HBZ] at ee; subst ee; rw [← unhide HRZ] at on0; have on := on0; clear on0; have c24 := c23.trans (bn.mono c23.size); have z24 := bn.size; have P0_26 := (bn.cell (p := ⟨w.heap.size, 0, none⟩) (by show w.heap.size < _; omega)).trans P0_25; have P1_26 := (bn.cell (p := ⟨w.heap.size, 1, none⟩) (by show w.heap.size < _; omega)).trans P1_25; clear P0_25 P1_25; have F_w_24 := F_w_23.below bn; clear F_w_23; have F_g_24 := F_g_23.below bn; clear F_g_23; have F_b0_24 := F_b0_23.below bn; clear F_b0_23; have F_b1_24 := F_b1_23.below bn; clear F_b1_23; obtain ⟨a_h, l_h, q_h, rfl⟩ := Row.Own.form on; have F_h_24 := on; clear on bn)
  refine hK.out _ _ (by exact ⟨P0_26, P1_26⟩) (fun hHeld => ?_)
  clear hK K
  refine Grl.yes 7 (v := ?_) rfl (by kernel_rfl) (by kernel_rfl) (by kernel_rfl) (fun _ _ _ h => h) (by kernel_rfl) ?_ (by assumption) ?_
  rotate_left
  · (intro wx hSw; (try dsimp only at hSw); go_simp; try with_reducible rfl)
  simp only [Act.put, List.setIfInBounds_toArray, List.set_cons_zero, List.set_cons_succ]
  refine Grl.yes 8 (v := ?_) rfl (by kernel_rfl) (by kernel_rfl) (by kernel_rfl) (fun _ _ _ h => h) (by kernel_rfl) ?_ (by assumption) ?_
  rotate_left
  · (intro wx hSw; (try dsimp only at hSw); go_simp; try with_reducible rfl)
  simp only [Act.put, List.setIfInBounds_toArray, List.set_cons_zero, List.set_cons_succ]
  refine Grl.yes 9 (v := ?_) rfl (by kernel_rfl) (by kernel_rfl) (by kernel_rfl) (fun _ _ _ h => h) (by kernel_rfl) ?_ (by assumption) ?_
  rotate_left
  · (intro wx hSw; (try dsimp only at hSw); go_simp; try with_reducible rfl)
  simp only [Act.put, List.setIfInBounds_toArray, List.set_cons_zero, List.set_cons_succ]
  refine Grl.yes 10 (v := ?_) rfl (by kernel_rfl) (by kernel_rfl) (by kernel_rfl) (fun _ _ _ h => h) (by kernel_rfl) ?_ (by assumption) ?_
  rotate_left
  · (intro wx hSw; (try dsimp only at hSw); go_simp; try with_reducible rfl)
  simp only [Act.put, List.setIfInBounds_toArray, List.set_cons_zero, List.set_cons_succ]
  refine Grl.yes 11 (v := ?_) rfl (by kernel_rfl) (by kernel_rfl) (by kernel_rfl) (fun _ _ _ h => h) (by kernel_rfl) ?_ (by assumption) ?_
  rotate_left
  · (intro wx hSw; (try dsimp only at hSw); go_simp; try with_reducible rfl)
  simp only [Act.put, List.setIfInBounds_toArray, List.set_cons_zero, List.set_cons_succ]
  refine wpAnyH_done (by kernel_rfl) ?_ _
  clear F_b0_24
  clear F_b1_24
  go_wp2_with fail
  refine (Row.eqX F_h_24.is F_w_24.is).mono ?_
  rintro e w25 ⟨rfl, bn⟩
  have c25 := c24.trans (bn.mono c24.size)
  have z25 := bn.size
  have P0_27 := (bn.cell (p := ⟨w.heap.size, 0, none⟩) (by show w.heap.size < _; omega)).trans P0_26
  have P1_27 := (bn.cell (p := ⟨w.heap.size, 1, none⟩) (by show w.heap.size < _; omega)).trans P1_26
  clear P0_26 P1_26
  have F_w_25 := F_w_24.below bn
  clear F_w_24
  have F_g_25 := F_g_24.below bn
  clear F_g_24
  have F_h_25 := F_h_24.below bn
  clear F_h_24
  clear bn
  clear F_h_25
  go_wp2_with fail
  refine (Row.heldX 1 (by omega) (by omega) (unhide HRL) F_g_25.is).mono ?_
  rintro e w26 ⟨kr, rfl, ekr, bn⟩
  obtain rfl : kr = kq := by rw [ekr, unhide HKM']
  have c26 := c25.trans (bn.mono c25.size)
  have z26 := bn.size
  have P0_28 := (bn.cell (p := ⟨w.heap.size, 0, none⟩) (by show w.heap.size < _; omega)).trans P0_27
  have P1_28 := (bn.cell (p := ⟨w.heap.size, 1, none⟩) (by show w.heap.size < _; omega)).trans P1_27
  clear P0_27 P1_27
  have F_w_26 := F_w_25.below bn
  clear F_w_25
  have F_g_26 := F_g_25.below bn
  clear F_g_25
  clear bn ekr
  have hkn' : decide ((kr : Int) < 0) = false := by simp
  go_wp2_with fail
  go_ret
  exact ⟨rfl, bx.trans ((c26).mono bx.size)⟩
end Go.Proofs.Ytdggffcibcggoaa
