/- My own texts of one claim, laid together by program: MatUni, FnExactTableDropWalk. -/
import Derived.Test.YtomncodkbcngmaaGreatG0159c0b34a
import Derived.Test.YtomncodkbcngmaaGreatGc449cc2923
/- One face for what the laws' helpers do with slices of impl.Match. -/
namespace Go.Proofs.YtomncodkbcngmaaGreat.Mat
open Go.RowKit Rw
set_option linter.unusedVariables false
/-- a row of its own, in a block from lo on, ahead of hi -/
def Own (lo hi : Nat) (w : World) (v : Value) (zs : List E) : Prop := w.ownsRow lo 62 3 v zs.length (flat zs) ∧ (∀ k, v.ownBlock = some k → k < hi) ∧ hi ≤ w.heap.size
theorem Own.is {lo hi : Nat} {w : World} {v : Value} {zs : List E} (h : Own lo hi w v zs) : Is w v zs := is_of_own h.1
theorem Own.below {lo hi : Nat} {w w' : World} {v : Value} {zs : List E} (h : Own lo hi w v zs) (hb : Below w.heap.size w w') : Own lo hi w' v zs := ⟨own_below h.1 hb, h.2.1, Nat.le_trans h.2.2 hb.size⟩
theorem Own.zone {lo hi a b : Nat} {w w' : World} {v : Value} {zs : List E} (h : Own lo hi w v zs) (hz : Zone a b w w') (ho : hi ≤ a ∨ b ≤ lo) : Own lo hi w' v zs :=
  ⟨hz.own h.1 (fun k hk => by have := h.2.1 k hk; have := own_ge h.1 k hk; omega), h.2.1, Nat.le_trans h.2.2 hz.size⟩
theorem Own.form {lo hi : Nat} {w : World} {v : Value} {zs : List E} (h : Own lo hi w v zs) : ∃ a l q, v = .slice a l q := by
  obtain ⟨-, a, q, e, -⟩ := lies_of_own h.1
  exact ⟨a, _, q, e⟩
theorem Own.of {lo : Nat} {w : World} {v : Value} {zs : List E} (h : w.ownsRow lo 62 3 v zs.length (flat zs)) : Own lo w.heap.size w v zs := ⟨h, own_block_lt h, Nat.le_refl _⟩
theorem eqX {v u : Value} {zs : List E} {w : World} (h : Is w v zs) (h' : Is w u zs) : Calls Tryz.prog 15 #[v, u] w fun e w' => e = .returned (.bool true) ∧ Below w.heap.size w w' := eq_any h h'
theorem toX {w : World} {v : Value} {zs : List E} (h : Is w v zs) (ht : tot zs ≤ 1048576) : Calls Tryz.prog 11 #[v] w fun e w' => ∃ v', e = .returned v' ∧ Own w.heap.size w'.heap.size w' v' zs ∧ Below w.heap.size w w' := by
  refine (to_any h (by have := tot_len zs; omega)).mono ?_
  rintro e w' ⟨rfl, o, b⟩
  exact ⟨_, rfl, Own.of o, b⟩
theorem markA {lo hi : Nat} {v : Value} {zs : List E} {w : World} (k0 : Nat) (hk1 : 1 ≤ k0) (hk2 : k0 ≤ 100000000) (ht : tot zs ≤ 1048576) (h : Own lo hi w v zs) :
    Calls Tryz.prog 17 #[v, .int .i64 k0] w fun e w' => ∃ k : Nat, e = .returned (.int .i64 k) ∧ 1 ≤ k ∧ k ≤ k0 + 4194304 ∧ Zone lo hi w w' := by
  have hl := tot_len zs
  refine (mark_any k0 hk1 (by omega) (by omega) h.1 (lo := lo) (hi := hi) (fun k hk => ⟨own_ge h.1 k hk, h.2.1 k hk⟩)).mono ?_
  rintro e w' ⟨rfl, -, z⟩
  exact ⟨_, rfl, by omega, by omega, z⟩
def cnt (zs : List E) : Nat := 3 * zs.length
def mk (k0 : Nat) (zs : List E) : List E := marks k0 zs.length
theorem mk_length (k0 : Nat) (zs : List E) : (mk k0 zs).length = zs.length := marks_length _ _
theorem markX {lo hi : Nat} {v : Value} {zs : List E} {w : World} (k0 : Nat) (hk1 : 1 ≤ k0) (hk2 : k0 ≤ 100000000) (hc : zs.length ≤ 2097152) (h : Own lo hi w v zs) :
    Calls Tryz.prog 17 #[v, .int .i64 k0] w fun e w' => ∃ k : Nat, e = .returned (.int .i64 k) ∧ k = k0 + cnt zs ∧ Own lo hi w' v (mk k0 zs) ∧ Zone lo hi w w' := by
  refine (mark_any k0 hk1 (by omega) (by omega) h.1 (lo := lo) (hi := hi) (fun k hk => ⟨own_ge h.1 k hk, h.2.1 k hk⟩)).mono ?_
  rintro e w' ⟨rfl, o, z⟩
  exact ⟨_, rfl, rfl, ⟨by rw [mk_length]; exact o, h.2.1, Nat.le_trans h.2.2 z.size⟩, z⟩
end Go.Proofs.YtomncodkbcngmaaGreat.Mat

/- FnExactTableDrop returns true at all tables, matches and times. -/
namespace Go.Proofs.YtomncodkbcngmaaGreat
open Go.RowKit Rw
set_option linter.unusedVariables false
set_option maxRecDepth 100000 in
set_option maxHeartbeats 16000000 in
theorem fnExactTableDrop.walk (c0 : Tab.C) (x0 : Tab.E) (a1 : Option Addr) (len1 cap1 : Nat) (z1 : List Mat.E) (a2 : Int) (a3 : Int) (w : World) (w0 : Tab.Elem w c0 x0 ∧ Tab.good x0) (w1 : z1.length = len1 ∧ len1 ≤ maxLen ∧ Lies w (.slice a1 len1 cap1) len1 3 (Mat.flat z1) ∧ ∀ x ∈ z1, Mat.good x) (w2 : (Lit.int .i64 a2).wf = true) (w3 : (Lit.int .i64 a3).wf = true) :
    Calls Tryz.prog 4 #[.agg #[c0.1, c0.2.1, c0.2.2], .slice a1 len1 cap1, .int .i64 a2, .int .i64 a3] w fun e w' => e = .returned (.bool true) ∧ Below w.heap.size w w' := by
  obtain ⟨vv, cH, cF⟩ := c0
  obtain ⟨z0, H, F⟩ := x0
  obtain ⟨⟨s0, eH, eF⟩, hg0⟩ := w0
  simp only at s0 eH eF
  subst eH eF
  have g0 : ∀ x ∈ z0, Row.good x := hg0.1.2
  have m0 : z0.length ≤ maxLen := hg0.1.1
  obtain ⟨a0, len0, cap0, e0⟩ : ∃ a n c, vv = .slice a n c := by obtain ⟨cs, -, hL, -⟩ := s0; obtain ⟨-, a, c, e, -⟩ := hL; exact ⟨a, _, c, e⟩
  subst e0
  obtain ⟨e1, m1, h1, g1⟩ := w1
  have s1 : Mat.Is w (.slice a1 len1 cap1) z1 := by rw [← e1] at h1 ⊢; exact h1
  rw [← e1] at m1
  clear e1 h1
  obtain ⟨wa, hwa⟩ : ∃ wa, wa = w.alloc (.cells #[.slice a0 len0 cap0, .int .i64 H, .int .i64 F] 24) := ⟨_, rfl⟩
  have BA : Below w.heap.size w wa := by rw [hwa]; exact (Below.refl _ _).alloc (Nat.le_refl _) _
  have za : w.heap.size < wa.heap.size := by rw [hwa]; simp
  have A0 : wa.cell? ⟨w.heap.size, 0, none⟩ = some (.slice a0 len0 cap0) := by rw [hwa]; simp [go_sem]
  have A1 : wa.cell? ⟨w.heap.size, 1, none⟩ = some (.int .i64 H) := by rw [hwa]; simp [go_sem]
  have A2 : wa.cell? ⟨w.heap.size, 2, none⟩ = some (.int .i64 F) := by rw [hwa]; simp [go_sem]
  have HS0 := hide (fun W (hB : Below w.heap.size w W) (l : Int) (l0 : 0 ≤ l) (l1 : l ≤ 1048576) => Tab.szX (N1 := H) (N2 := F) l (s0.below hB) hg0 l0 l1)
  obtain ⟨t0, ht0⟩ : ∃ t, t = Row.tot z0 := ⟨_, rfl⟩
  rw [← ht0] at HS0
  have HT0 := hide ht0
  clear ht0
  have HS1 := hide (fun W (hB : Below w.heap.size w W) (l : Int) (l0 : 0 ≤ l) (l1 : l ≤ 1048576) => Mat.sz_any l (s1.below hB) m1 g1 l0 l1)
  obtain ⟨t1, ht1⟩ : ∃ t, t = Mat.tot z1 := ⟨_, rfl⟩
  rw [← ht1] at HS1
  have HT1 := hide ht1
  clear ht1
  by_cases hb0 : (1048576 : Int) - (t0 : Int) < 0
  · clear s0 g0 m0 s1 g1 m1 hg0
    go_enter Tryz.func4, Tryz.ntmps4
    go_wp2_with fail
    rw [← hwa]
    clear hwa
    refine (unhide HS0 _ BA (1048576) (by omega) (by omega)).mono ?_
    rintro e u0 ⟨rfl, b0⟩
    have d0 := BA.trans (b0.mono BA.size)
    have y0 := b0.size
    have A0_u0 := (b0.cell (p := ⟨w.heap.size, 0, none⟩) (by show w.heap.size < _; omega)).trans A0
    have A1_u0 := (b0.cell (p := ⟨w.heap.size, 1, none⟩) (by show w.heap.size < _; omega)).trans A1
    have A2_u0 := (b0.cell (p := ⟨w.heap.size, 2, none⟩) (by show w.heap.size < _; omega)).trans A2
    clear A0 A1 A2
    rw [if_pos (by omega)]
    go_wp2_with fail
    go_ret
    exact ⟨rfl, d0⟩
  by_cases hb1 : (1048576 : Int) - (t0 : Int) - (t1 : Int) < 0
  · clear s0 g0 m0 s1 g1 m1 hg0
    go_enter Tryz.func4, Tryz.ntmps4
    go_wp2_with fail
    rw [← hwa]
    clear hwa
    refine (unhide HS0 _ BA (1048576) (by omega) (by omega)).mono ?_
    rintro e u0 ⟨rfl, b0⟩
    have d0 := BA.trans (b0.mono BA.size)
    have y0 := b0.size
    have A0_u0 := (b0.cell (p := ⟨w.heap.size, 0, none⟩) (by show w.heap.size < _; omega)).trans A0
    have A1_u0 := (b0.cell (p := ⟨w.heap.size, 1, none⟩) (by show w.heap.size < _; omega)).trans A1
    have A2_u0 := (b0.cell (p := ⟨w.heap.size, 2, none⟩) (by show w.heap.size < _; omega)).trans A2
    clear A0 A1 A2
    rw [if_neg (by omega)]
    have n0 : decide (1048576 - (t0 : Int) < 0) = false := by simp; omega
    go_wp2_with fail
    refine (unhide HS1 _ d0 (1048576 - (t0 : Int)) (by omega) (by omega)).mono ?_
    rintro e u1 ⟨rfl, b1⟩
    have d1 := d0.trans (b1.mono d0.size)
    have y1 := b1.size
    have A0_u1 := (b1.cell (p := ⟨w.heap.size, 0, none⟩) (by show w.heap.size < _; omega)).trans A0_u0
    have A1_u1 := (b1.cell (p := ⟨w.heap.size, 1, none⟩) (by show w.heap.size < _; omega)).trans A1_u0
    have A2_u1 := (b1.cell (p := ⟨w.heap.size, 2, none⟩) (by show w.heap.size < _; omega)).trans A2_u0
    clear A0_u0 A1_u0 A2_u0
    rw [if_pos (by omega)]
    go_wp2_with fail
    go_ret
    exact ⟨rfl, d1⟩
  have T0 : Row.tot z0 ≤ 1048576 := by rw [← unhide HT0]; omega
  have HTo0 := hide (fun W (hB : Below w.heap.size w W) => Tab.toX H F (s0.below hB) T0)
  have HG0 := hide g0
  have HM0 := hide m0
  have HB0 := hide T0
  clear s0 g0 m0 T0 hg0
  have T1 : Mat.tot z1 ≤ 1048576 := by rw [← unhide HT1]; omega
  have HTo1 := hide (fun W (hB : Below w.heap.size w W) => Mat.toX (s1.below hB) T1)
  have HG1 := hide g1
  have HM1 := hide m1
  have HB1 := hide T1
  clear s1 g1 m1 T1
  have HRL := hide (show Row.cnt (Tab.drop z1 a2 a3 z0 H F).1 ≤ 2097152 ∧ (Tab.drop z1 a2 a3 z0 H F).1.length ≤ 2097152 from Tab.drop_cnt z1 a2 a3 z0 H F)
  obtain ⟨rz, RH, RF, hrz⟩ : ∃ a b c, (a, b, c) = Tab.drop z1 a2 a3 z0 H F := ⟨_, _, _, rfl⟩
  rw [← hrz] at HRL
  simp only at HRL
  have HRZ := hide hrz
  clear hrz
  go_enter Tryz.func4, Tryz.ntmps4
  go_wp2_with fail
  rw [← hwa]
  clear hwa
  refine (unhide HS0 _ BA (1048576) (by omega) (by omega)).mono ?_
  rintro e u0 ⟨rfl, b0⟩
  have d0 := BA.trans (b0.mono BA.size)
  have y0 := b0.size
  have A0_u0 := (b0.cell (p := ⟨w.heap.size, 0, none⟩) (by show w.heap.size < _; omega)).trans A0
  have A1_u0 := (b0.cell (p := ⟨w.heap.size, 1, none⟩) (by show w.heap.size < _; omega)).trans A1
  have A2_u0 := (b0.cell (p := ⟨w.heap.size, 2, none⟩) (by show w.heap.size < _; omega)).trans A2
  clear A0 A1 A2
  rw [if_neg (by omega)]
  have n0 : decide (1048576 - (t0 : Int) < 0) = false := by simp; omega
  go_wp2_with fail
  refine (unhide HS1 _ d0 (1048576 - (t0 : Int)) (by omega) (by omega)).mono ?_
  rintro e u1 ⟨rfl, b1⟩
  have d1 := d0.trans (b1.mono d0.size)
  have y1 := b1.size
  have A0_u1 := (b1.cell (p := ⟨w.heap.size, 0, none⟩) (by show w.heap.size < _; omega)).trans A0_u0
  have A1_u1 := (b1.cell (p := ⟨w.heap.size, 1, none⟩) (by show w.heap.size < _; omega)).trans A1_u0
  have A2_u1 := (b1.cell (p := ⟨w.heap.size, 2, none⟩) (by show w.heap.size < _; omega)).trans A2_u0
  clear A0_u0 A1_u0 A2_u0
  rw [if_neg (by omega)]
  have n1 : decide (1048576 - (t0 : Int) - (t1 : Int) < 0) = false := by simp; omega
  clear b0 HS0 b1 HS1
  have z0' := d1.size
  go_wp2_with fail
  refine (unhide HTo0 _ d1).mono ?_
  rintro e w1 ⟨v_p0, rfl, on, bn⟩
  have c1 := d1.trans (bn.mono d1.size)
  have z1' := bn.size
  have A0_1 := (bn.cell (p := ⟨w.heap.size, 0, none⟩) (by show w.heap.size < _; omega)).trans A0_u1
  have A1_1 := (bn.cell (p := ⟨w.heap.size, 1, none⟩) (by show w.heap.size < _; omega)).trans A1_u1
  have A2_1 := (bn.cell (p := ⟨w.heap.size, 2, none⟩) (by show w.heap.size < _; omega)).trans A2_u1
  clear A0_u1 A1_u1 A2_u1
  obtain ⟨a_p0, l_p0, q_p0, rfl⟩ := Row.Own.form on
  have F_p0_1 := on
  clear on bn
  go_wp2_with fail
  refine (unhide HTo1 _ c1).mono ?_
  rintro e w2 ⟨v_p1, rfl, on, bn⟩
  have c2 := c1.trans (bn.mono c1.size)
  have z2' := bn.size
  have F_p0_2 := F_p0_1.below bn
  clear F_p0_1
  have A0_2 := (bn.cell (p := ⟨w.heap.size, 0, none⟩) (by show w.heap.size < _; omega)).trans A0_1
  have A1_2 := (bn.cell (p := ⟨w.heap.size, 1, none⟩) (by show w.heap.size < _; omega)).trans A1_1
  have A2_2 := (bn.cell (p := ⟨w.heap.size, 2, none⟩) (by show w.heap.size < _; omega)).trans A2_1
  clear A0_1 A1_1 A2_1
  obtain ⟨a_p1, l_p1, q_p1, rfl⟩ := Mat.Own.form on
  have F_p1_2 := on
  clear on bn
  go_wp2_with fail
  have Q := hide (Tab.spec_drop a2 a3 H F F_p0_2.is F_p1_2.is (unhide HG0) (unhide HM0) (unhide HG1) (unhide HM1))
  rw [← unhide HRZ] at Q
  simp only at Q
  refine (unhide Q).mono ?_
  rintro e w3 ⟨v_w, rfl, on0, bn⟩
  have on := on0
  clear on0 Q
  have c3 := c2.trans (bn.mono c2.size)
  have z3' := bn.size
  have F_p0_3 := F_p0_2.below bn
  clear F_p0_2
  have F_p1_3 := F_p1_2.below bn
  clear F_p1_2
  have A0_3 := (bn.cell (p := ⟨w.heap.size, 0, none⟩) (by show w.heap.size < _; omega)).trans A0_2
  have A1_3 := (bn.cell (p := ⟨w.heap.size, 1, none⟩) (by show w.heap.size < _; omega)).trans A1_2
  have A2_3 := (bn.cell (p := ⟨w.heap.size, 2, none⟩) (by show w.heap.size < _; omega)).trans A2_2
  clear A0_2 A1_2 A2_2
  obtain ⟨a_w, l_w, q_w, rfl⟩ := Row.Own.form on
  have F_w_3 := on
  clear on bn
  obtain ⟨w4, hw4⟩ : ∃ w', w' = w3.alloc (.cells #[.slice a_w l_w q_w, .int .i64 RH, .int .i64 RF] 31) := ⟨_, rfl⟩
  have bn : Below w3.heap.size w3 w4 := by rw [hw4]; exact (Below.refl _ _).alloc (Nat.le_refl _) _
  have zz4 : w3.heap.size < w4.heap.size := by rw [hw4]; simp
  have V0_4 : w4.cell? ⟨w3.heap.size, 0, none⟩ = some (.slice a_w l_w q_w) := by rw [hw4]; simp [go_sem]
  have V1_4 : w4.cell? ⟨w3.heap.size, 1, none⟩ = some (.int .i64 RH) := by rw [hw4]; simp [go_sem]
  have V2_4 : w4.cell? ⟨w3.heap.size, 2, none⟩ = some (.int .i64 RF) := by rw [hw4]; simp [go_sem]
  have c4 := c3.trans (bn.mono c3.size)
  have z4' := bn.size
  have F_p0_4 := F_p0_3.below bn
  clear F_p0_3
  have F_p1_4 := F_p1_3.below bn
  clear F_p1_3
  have F_w_4 := F_w_3.below bn
  clear F_w_3
  have A0_4 := (bn.cell (p := ⟨w.heap.size, 0, none⟩) (by show w.heap.size < _; omega)).trans A0_3
  have A1_4 := (bn.cell (p := ⟨w.heap.size, 1, none⟩) (by show w.heap.size < _; omega)).trans A1_3
  have A2_4 := (bn.cell (p := ⟨w.heap.size, 2, none⟩) (by show w.heap.size < _; omega)).trans A2_3
  clear A0_3 A1_3 A2_3
  clear bn
  have hs4 := hw4.symm
  clear hw4
  clear F_p0_4
  clear F_p1_4
  go_wp2_with fail
  try rw [hs4]
  clear hs4
  refine (unhide HTo0 _ c4).mono ?_
  rintro e w5 ⟨v_x0, rfl, on, bn⟩
  have c5 := c4.trans (bn.mono c4.size)
  have z5' := bn.size
  have F_w_5 := F_w_4.below bn
  clear F_w_4
  have A0_5 := (bn.cell (p := ⟨w.heap.size, 0, none⟩) (by show w.heap.size < _; omega)).trans A0_4
  have A1_5 := (bn.cell (p := ⟨w.heap.size, 1, none⟩) (by show w.heap.size < _; omega)).trans A1_4
  have A2_5 := (bn.cell (p := ⟨w.heap.size, 2, none⟩) (by show w.heap.size < _; omega)).trans A2_4
  clear A0_4 A1_4 A2_4
  have V0_5 := (bn.cell (p := ⟨w3.heap.size, 0, none⟩) (by show w3.heap.size < _; omega)).trans V0_4
  have V1_5 := (bn.cell (p := ⟨w3.heap.size, 1, none⟩) (by show w3.heap.size < _; omega)).trans V1_4
  have V2_5 := (bn.cell (p := ⟨w3.heap.size, 2, none⟩) (by show w3.heap.size < _; omega)).trans V2_4
  clear V0_4 V1_4 V2_4
  obtain ⟨a_x0, l_x0, q_x0, rfl⟩ := Row.Own.form on
  have F_x0_5 := on
  clear on bn
  obtain ⟨w6, hw6⟩ : ∃ w', w' = w5.alloc (.cells #[.slice a_x0 l_x0 q_x0, .int .i64 H, .int .i64 F] 31) := ⟨_, rfl⟩
  have bn : Below w5.heap.size w5 w6 := by rw [hw6]; exact (Below.refl _ _).alloc (Nat.le_refl _) _
  have zz6 : w5.heap.size < w6.heap.size := by rw [hw6]; simp
  have X0_6 : w6.cell? ⟨w5.heap.size, 0, none⟩ = some (.slice a_x0 l_x0 q_x0) := by rw [hw6]; simp [go_sem]
  have X1_6 : w6.cell? ⟨w5.heap.size, 1, none⟩ = some (.int .i64 H) := by rw [hw6]; simp [go_sem]
  have X2_6 : w6.cell? ⟨w5.heap.size, 2, none⟩ = some (.int .i64 F) := by rw [hw6]; simp [go_sem]
  have c6 := c5.trans (bn.mono c5.size)
  have z6' := bn.size
  have F_w_6 := F_w_5.below bn
  clear F_w_5
  have F_x0_6 := F_x0_5.below bn
  clear F_x0_5
  have A0_6 := (bn.cell (p := ⟨w.heap.size, 0, none⟩) (by show w.heap.size < _; omega)).trans A0_5
  have A1_6 := (bn.cell (p := ⟨w.heap.size, 1, none⟩) (by show w.heap.size < _; omega)).trans A1_5
  have A2_6 := (bn.cell (p := ⟨w.heap.size, 2, none⟩) (by show w.heap.size < _; omega)).trans A2_5
  clear A0_5 A1_5 A2_5
  have V0_6 := (bn.cell (p := ⟨w3.heap.size, 0, none⟩) (by show w3.heap.size < _; omega)).trans V0_5
  have V1_6 := (bn.cell (p := ⟨w3.heap.size, 1, none⟩) (by show w3.heap.size < _; omega)).trans V1_5
  have V2_6 := (bn.cell (p := ⟨w3.heap.size, 2, none⟩) (by show w3.heap.size < _; omega)).trans V2_5
  clear V0_5 V1_5 V2_5
  clear bn
  have hs6 := hw6.symm
  clear hw6
  go_wp2_with fail
  try rw [hs6]
  clear hs6
  refine (unhide HTo1 _ c6).mono ?_
  rintro e w7 ⟨v_x1, rfl, on, bn⟩
  have c7 := c6.trans (bn.mono c6.size)
  have z7' := bn.size
  have F_w_7 := F_w_6.below bn
  clear F_w_6
  have F_x0_7 := F_x0_6.below bn
  clear F_x0_6
  have A0_7 := (bn.cell (p := ⟨w.heap.size, 0, none⟩) (by show w.heap.size < _; omega)).trans A0_6
  have A1_7 := (bn.cell (p := ⟨w.heap.size, 1, none⟩) (by show w.heap.size < _; omega)).trans A1_6
  have A2_7 := (bn.cell (p := ⟨w.heap.size, 2, none⟩) (by show w.heap.size < _; omega)).trans A2_6
  clear A0_6 A1_6 A2_6
  have V0_7 := (bn.cell (p := ⟨w3.heap.size, 0, none⟩) (by show w3.heap.size < _; omega)).trans V0_6
  have V1_7 := (bn.cell (p := ⟨w3.heap.size, 1, none⟩) (by show w3.heap.size < _; omega)).trans V1_6
  have V2_7 := (bn.cell (p := ⟨w3.heap.size, 2, none⟩) (by show w3.heap.size < _; omega)).trans V2_6
  clear V0_6 V1_6 V2_6
  have X0_7 := (bn.cell (p := ⟨w5.heap.size, 0, none⟩) (by show w5.heap.size < _; omega)).trans X0_6
  have X1_7 := (bn.cell (p := ⟨w5.heap.size, 1, none⟩) (by show w5.heap.size < _; omega)).trans X1_6
  have X2_7 := (bn.cell (p := ⟨w5.heap.size, 2, none⟩) (by show w5.heap.size < _; omega)).trans X2_6
  clear X0_6 X1_6 X2_6
  obtain ⟨a_x1, l_x1, q_x1, rfl⟩ := Mat.Own.form on
  have F_x1_7 := on
  clear on bn
  go_wp2_with fail
  have Q := hide (Tab.impl_drop a2 a3 H F F_x0_7.is F_x1_7.is (unhide HG0) (unhide HM0) (unhide HG1) (unhide HM1))
  rw [← unhide HRZ] at Q
  simp only at Q
  refine (unhide Q).mono ?_
  rintro e w8 ⟨v_g, rfl, on0, bn⟩
  have on := on0
  clear on0 Q
  have c8 := c7.trans (bn.mono c7.size)
  have z8' := bn.size
  have F_w_8 := F_w_7.below bn
  clear F_w_7
  have F_x0_8 := F_x0_7.below bn
  clear F_x0_7
  have F_x1_8 := F_x1_7.below bn
  clear F_x1_7
  have A0_8 := (bn.cell (p := ⟨w.heap.size, 0, none⟩) (by show w.heap.size < _; omega)).trans A0_7
  have A1_8 := (bn.cell (p := ⟨w.heap.size, 1, none⟩) (by show w.heap.size < _; omega)).trans A1_7
  have A2_8 := (bn.cell (p := ⟨w.heap.size, 2, none⟩) (by show w.heap.size < _; omega)).trans A2_7
  clear A0_7 A1_7 A2_7
  have V0_8 := (bn.cell (p := ⟨w3.heap.size, 0, none⟩) (by show w3.heap.size < _; omega)).trans V0_7
  have V1_8 := (bn.cell (p := ⟨w3.heap.size, 1, none⟩) (by show w3.heap.size < _; omega)).trans V1_7
  have V2_8 := (bn.cell (p := ⟨w3.heap.size, 2, none⟩) (by show w3.heap.size < _; omega)).trans V2_7
  clear V0_7 V1_7 V2_7
  have X0_8 := (bn.cell (p := ⟨w5.heap.size, 0, none⟩) (by show w5.heap.size < _; omega)).trans X0_7
  have X1_8 := (bn.cell (p := ⟨w5.heap.size, 1, none⟩) (by show w5.heap.size < _; omega)).trans X1_7
  have X2_8 := (bn.cell (p := ⟨w5.heap.size, 2, none⟩) (by show w5.heap.size < _; omega)).trans X2_7
  clear X0_7 X1_7 X2_7
  obtain ⟨a_g, l_g, q_g, rfl⟩ := Row.Own.form on
  have F_g_8 := on
  clear on bn
  obtain ⟨w9, hw9⟩ : ∃ w', w' = w8.alloc (.cells #[.slice a_g l_g q_g, .int .i64 RH, .int .i64 RF] 31) := ⟨_, rfl⟩
  have bn : Below w8.heap.size w8 w9 := by rw [hw9]; exact (Below.refl _ _).alloc (Nat.le_refl _) _
  have zz9 : w8.heap.size < w9.heap.size := by rw [hw9]; simp
  have G0_9 : w9.cell? ⟨w8.heap.size, 0, none⟩ = some (.slice a_g l_g q_g) := by rw [hw9]; simp [go_sem]
  have G1_9 : w9.cell? ⟨w8.heap.size, 1, none⟩ = some (.int .i64 RH) := by rw [hw9]; simp [go_sem]
  have G2_9 : w9.cell? ⟨w8.heap.size, 2, none⟩ = some (.int .i64 RF) := by rw [hw9]; simp [go_sem]
  have c9 := c8.trans (bn.mono c8.size)
  have z9' := bn.size
  have F_w_9 := F_w_8.below bn
  clear F_w_8
  have F_x0_9 := F_x0_8.below bn
  clear F_x0_8
  have F_x1_9 := F_x1_8.below bn
  clear F_x1_8
  have F_g_9 := F_g_8.below bn
  clear F_g_8
  have A0_9 := (bn.cell (p := ⟨w.heap.size, 0, none⟩) (by show w.heap.size < _; omega)).trans A0_8
  have A1_9 := (bn.cell (p := ⟨w.heap.size, 1, none⟩) (by show w.heap.size < _; omega)).trans A1_8
  have A2_9 := (bn.cell (p := ⟨w.heap.size, 2, none⟩) (by show w.heap.size < _; omega)).trans A2_8
  clear A0_8 A1_8 A2_8
  have V0_9 := (bn.cell (p := ⟨w3.heap.size, 0, none⟩) (by show w3.heap.size < _; omega)).trans V0_8
  have V1_9 := (bn.cell (p := ⟨w3.heap.size, 1, none⟩) (by show w3.heap.size < _; omega)).trans V1_8
  have V2_9 := (bn.cell (p := ⟨w3.heap.size, 2, none⟩) (by show w3.heap.size < _; omega)).trans V2_8
  clear V0_8 V1_8 V2_8
  have X0_9 := (bn.cell (p := ⟨w5.heap.size, 0, none⟩) (by show w5.heap.size < _; omega)).trans X0_8
  have X1_9 := (bn.cell (p := ⟨w5.heap.size, 1, none⟩) (by show w5.heap.size < _; omega)).trans X1_8
  have X2_9 := (bn.cell (p := ⟨w5.heap.size, 2, none⟩) (by show w5.heap.size < _; omega)).trans X2_8
  clear X0_8 X1_8 X2_8
  clear bn
  have hs9 := hw9.symm
  clear hw9
  go_wp2_with fail
  try rw [hs9]
  clear hs9
  refine (Tab.eqX (N1 := RH) (N2 := RF) F_g_9.is F_w_9.is).mono ?_
  rintro e w10 ⟨rfl, bn⟩
  have c10 := c9.trans (bn.mono c9.size)
  have z10' := bn.size
  have F_w_10 := F_w_9.below bn
  clear F_w_9
  have F_x0_10 := F_x0_9.below bn
  clear F_x0_9
  have F_x1_10 := F_x1_9.below bn
  clear F_x1_9
  have F_g_10 := F_g_9.below bn
  clear F_g_9
  have A0_10 := (bn.cell (p := ⟨w.heap.size, 0, none⟩) (by show w.heap.size < _; omega)).trans A0_9
  have A1_10 := (bn.cell (p := ⟨w.heap.size, 1, none⟩) (by show w.heap.size < _; omega)).trans A1_9
  have A2_10 := (bn.cell (p := ⟨w.heap.size, 2, none⟩) (by show w.heap.size < _; omega)).trans A2_9
  clear A0_9 A1_9 A2_9
  have V0_10 := (bn.cell (p := ⟨w3.heap.size, 0, none⟩) (by show w3.heap.size < _; omega)).trans V0_9
  have V1_10 := (bn.cell (p := ⟨w3.heap.size, 1, none⟩) (by show w3.heap.size < _; omega)).trans V1_9
  have V2_10 := (bn.cell (p := ⟨w3.heap.size, 2, none⟩) (by show w3.heap.size < _; omega)).trans V2_9
  clear V0_9 V1_9 V2_9
  have X0_10 := (bn.cell (p := ⟨w5.heap.size, 0, none⟩) (by show w5.heap.size < _; omega)).trans X0_9
  have X1_10 := (bn.cell (p := ⟨w5.heap.size, 1, none⟩) (by show w5.heap.size < _; omega)).trans X1_9
  have X2_10 := (bn.cell (p := ⟨w5.heap.size, 2, none⟩) (by show w5.heap.size < _; omega)).trans X2_9
  clear X0_9 X1_9 X2_9
  have G0_10 := (bn.cell (p := ⟨w8.heap.size, 0, none⟩) (by show w8.heap.size < _; omega)).trans G0_9
  have G1_10 := (bn.cell (p := ⟨w8.heap.size, 1, none⟩) (by show w8.heap.size < _; omega)).trans G1_9
  have G2_10 := (bn.cell (p := ⟨w8.heap.size, 2, none⟩) (by show w8.heap.size < _; omega)).trans G2_9
  clear G0_9 G1_9 G2_9
  clear bn
  have S6 : (fun W : World => W.cell? ⟨w.heap.size, 0, none⟩ = some (.slice a0 len0 cap0) ∧ W.cell? ⟨w.heap.size, 1, none⟩ = some (.int .i64 H) ∧ W.cell? ⟨w.heap.size, 2, none⟩ = some (.int .i64 F) ∧ W.cell? ⟨w5.heap.size, 0, none⟩ = some (.slice a_x0 l_x0 q_x0) ∧ W.cell? ⟨w5.heap.size, 1, none⟩ = some (.int .i64 H) ∧ W.cell? ⟨w5.heap.size, 2, none⟩ = some (.int .i64 F)) w10.drew := ⟨by simpa using A0_10, by simpa using A1_10, by simpa using A2_10, by simpa using X0_10, by simpa using X1_10, by simpa using X2_10⟩
  have cd := c10.drew
  have HT6 := hide (unhide HTo0 w10.drew cd)
  have FX := F_x0_10.is.below (Below.refl w10.heap.size w10).drew
  go_wp2_with fail
  go_region_held3 (fun W => W.cell? ⟨w.heap.size, 0, none⟩ = some (.slice a0 len0 cap0) ∧ W.cell? ⟨w.heap.size, 1, none⟩ = some (.int .i64 H) ∧ W.cell? ⟨w.heap.size, 2, none⟩ = some (.int .i64 F) ∧ W.cell? ⟨w5.heap.size, 0, none⟩ = some (.slice a_x0 l_x0 q_x0) ∧ W.cell? ⟨w5.heap.size, 1, none⟩ = some (.int .i64 H) ∧ W.cell? ⟨w5.heap.size, 2, none⟩ = some (.int .i64 F)) (first | exact S6 | exact S7 | exact S8) ((first | (go_at_call 10; refine (unhide HT6).mono ?_; rintro e w7' ⟨vq, rfl, oq, b7⟩; have z7 := b7.size; simp only [World.size_drew] at z7; have S7 : (fun W : World => W.cell? ⟨w.heap.size, 0, none⟩ = some (.slice a0 len0 cap0) ∧ W.cell? ⟨w.heap.size, 1, none⟩ = some (.int .i64 H) ∧ W.cell? ⟨w.heap.size, 2, none⟩ = some (.int .i64 F) ∧ W.cell? ⟨w5.heap.size, 0, none⟩ = some (.slice a_x0 l_x0 q_x0) ∧ W.cell? ⟨w5.heap.size, 1, none⟩ = some (.int .i64 H) ∧ W.cell? ⟨w5.heap.size, 2, none⟩ = some (.int .i64 F)) w7' := ⟨(b7.cell (p := ⟨w.heap.size, 0, none⟩) (by simp; omega)).trans S6.1, (b7.cell (p := ⟨w.heap.size, 1, none⟩) (by simp; omega)).trans S6.2.1, (b7.cell (p := ⟨w.heap.size, 2, none⟩) (by simp; omega)).trans S6.2.2.1, (b7.cell (p := ⟨w5.heap.size, 0, none⟩) (by simp; omega)).trans S6.2.2.2.1, (b7.cell (p := ⟨w5.heap.size, 1, none⟩) (by simp; omega)).trans S6.2.2.2.2.1, (b7.cell (p := ⟨w5.heap.size, 2, none⟩) (by simp; omega)).trans S6.2.2.2.2.2⟩) | (go_at_call 14; refine (Tab.eqX (FX.below b7) oq.is).mono ?_; rintro e w8' ⟨rfl, b8⟩; have z8 := b8.size; have S8 : (fun W : World => W.cell? ⟨w.heap.size, 0, none⟩ = some (.slice a0 len0 cap0) ∧ W.cell? ⟨w.heap.size, 1, none⟩ = some (.int .i64 H) ∧ W.cell? ⟨w.heap.size, 2, none⟩ = some (.int .i64 F) ∧ W.cell? ⟨w5.heap.size, 0, none⟩ = some (.slice a_x0 l_x0 q_x0) ∧ W.cell? ⟨w5.heap.size, 1, none⟩ = some (.int .i64 H) ∧ W.cell? ⟨w5.heap.size, 2, none⟩ = some (.int .i64 F)) w8' := ⟨(b8.cell (p := ⟨w.heap.size, 0, none⟩) (by simp; omega)).trans S7.1, (b8.cell (p := ⟨w.heap.size, 1, none⟩) (by simp; omega)).trans S7.2.1, (b8.cell (p := ⟨w.heap.size, 2, none⟩) (by simp; omega)).trans S7.2.2.1, (b8.cell (p := ⟨w5.heap.size, 0, none⟩) (by simp; omega)).trans S7.2.2.2.1, (b8.cell (p := ⟨w5.heap.size, 1, none⟩) (by simp; omega)).trans S7.2.2.2.2.1, (b8.cell (p := ⟨w5.heap.size, 2, none⟩) (by simp; omega)).trans S7.2.2.2.2.2⟩)))
  obtain ⟨w11, hw11⟩ : ∃ w', w' = w8' := ⟨_, rfl⟩
  subst hw11
  have bn : Below w10.heap.size w10 w11 := ((Below.refl w10.heap.size w10).drew.trans b7).trans (b8.mono (by simpa using b7.size))
  clear S6 S7 S8 HT6 FX oq cd b7 b8
  have c11 := c10.trans (bn.mono c10.size)
  have z11' := bn.size
  have F_w_11 := F_w_10.below bn
  clear F_w_10
  have F_x0_11 := F_x0_10.below bn
  clear F_x0_10
  have F_x1_11 := F_x1_10.below bn
  clear F_x1_10
  have F_g_11 := F_g_10.below bn
  clear F_g_10
  have A0_11 := (bn.cell (p := ⟨w.heap.size, 0, none⟩) (by show w.heap.size < _; omega)).trans A0_10
  have A1_11 := (bn.cell (p := ⟨w.heap.size, 1, none⟩) (by show w.heap.size < _; omega)).trans A1_10
  have A2_11 := (bn.cell (p := ⟨w.heap.size, 2, none⟩) (by show w.heap.size < _; omega)).trans A2_10
  clear A0_10 A1_10 A2_10
  have V0_11 := (bn.cell (p := ⟨w3.heap.size, 0, none⟩) (by show w3.heap.size < _; omega)).trans V0_10
  have V1_11 := (bn.cell (p := ⟨w3.heap.size, 1, none⟩) (by show w3.heap.size < _; omega)).trans V1_10
  have V2_11 := (bn.cell (p := ⟨w3.heap.size, 2, none⟩) (by show w3.heap.size < _; omega)).trans V2_10
  clear V0_10 V1_10 V2_10
  have X0_11 := (bn.cell (p := ⟨w5.heap.size, 0, none⟩) (by show w5.heap.size < _; omega)).trans X0_10
  have X1_11 := (bn.cell (p := ⟨w5.heap.size, 1, none⟩) (by show w5.heap.size < _; omega)).trans X1_10
  have X2_11 := (bn.cell (p := ⟨w5.heap.size, 2, none⟩) (by show w5.heap.size < _; omega)).trans X2_10
  clear X0_10 X1_10 X2_10
  have G0_11 := (bn.cell (p := ⟨w8.heap.size, 0, none⟩) (by show w8.heap.size < _; omega)).trans G0_10
  have G1_11 := (bn.cell (p := ⟨w8.heap.size, 1, none⟩) (by show w8.heap.size < _; omega)).trans G1_10
  have G2_11 := (bn.cell (p := ⟨w8.heap.size, 2, none⟩) (by show w8.heap.size < _; omega)).trans G2_10
  clear G0_10 G1_10 G2_10
  clear bn
  go_wp2_with fail
  refine (unhide HTo1 _ c11).mono ?_
  rintro e w12 ⟨v_r1, rfl, on, bn⟩
  have c12 := c11.trans (bn.mono c11.size)
  have z12' := bn.size
  have F_w_12 := F_w_11.below bn
  clear F_w_11
  have F_x0_12 := F_x0_11.below bn
  clear F_x0_11
  have F_x1_12 := F_x1_11.below bn
  clear F_x1_11
  have F_g_12 := F_g_11.below bn
  clear F_g_11
  have A0_12 := (bn.cell (p := ⟨w.heap.size, 0, none⟩) (by show w.heap.size < _; omega)).trans A0_11
  have A1_12 := (bn.cell (p := ⟨w.heap.size, 1, none⟩) (by show w.heap.size < _; omega)).trans A1_11
  have A2_12 := (bn.cell (p := ⟨w.heap.size, 2, none⟩) (by show w.heap.size < _; omega)).trans A2_11
  clear A0_11 A1_11 A2_11
  have V0_12 := (bn.cell (p := ⟨w3.heap.size, 0, none⟩) (by show w3.heap.size < _; omega)).trans V0_11
  have V1_12 := (bn.cell (p := ⟨w3.heap.size, 1, none⟩) (by show w3.heap.size < _; omega)).trans V1_11
  have V2_12 := (bn.cell (p := ⟨w3.heap.size, 2, none⟩) (by show w3.heap.size < _; omega)).trans V2_11
  clear V0_11 V1_11 V2_11
  have X0_12 := (bn.cell (p := ⟨w5.heap.size, 0, none⟩) (by show w5.heap.size < _; omega)).trans X0_11
  have X1_12 := (bn.cell (p := ⟨w5.heap.size, 1, none⟩) (by show w5.heap.size < _; omega)).trans X1_11
  have X2_12 := (bn.cell (p := ⟨w5.heap.size, 2, none⟩) (by show w5.heap.size < _; omega)).trans X2_11
  clear X0_11 X1_11 X2_11
  have G0_12 := (bn.cell (p := ⟨w8.heap.size, 0, none⟩) (by show w8.heap.size < _; omega)).trans G0_11
  have G1_12 := (bn.cell (p := ⟨w8.heap.size, 1, none⟩) (by show w8.heap.size < _; omega)).trans G1_11
  have G2_12 := (bn.cell (p := ⟨w8.heap.size, 2, none⟩) (by show w8.heap.size < _; omega)).trans G2_11
  clear G0_11 G1_11 G2_11
  obtain ⟨a_r1, l_r1, q_r1, rfl⟩ := Mat.Own.form on
  have F_r1_12 := on
  clear on bn
  go_wp2_with fail
  refine (Mat.eqX F_x1_12.is F_r1_12.is).mono ?_
  rintro e w13 ⟨rfl, bn⟩
  have c13 := c12.trans (bn.mono c12.size)
  have z13' := bn.size
  have F_w_13 := F_w_12.below bn
  clear F_w_12
  have F_x0_13 := F_x0_12.below bn
  clear F_x0_12
  have F_x1_13 := F_x1_12.below bn
  clear F_x1_12
  have F_g_13 := F_g_12.below bn
  clear F_g_12
  have F_r1_13 := F_r1_12.below bn
  clear F_r1_12
  have A0_13 := (bn.cell (p := ⟨w.heap.size, 0, none⟩) (by show w.heap.size < _; omega)).trans A0_12
  have A1_13 := (bn.cell (p := ⟨w.heap.size, 1, none⟩) (by show w.heap.size < _; omega)).trans A1_12
  have A2_13 := (bn.cell (p := ⟨w.heap.size, 2, none⟩) (by show w.heap.size < _; omega)).trans A2_12
  clear A0_12 A1_12 A2_12
  have V0_13 := (bn.cell (p := ⟨w3.heap.size, 0, none⟩) (by show w3.heap.size < _; omega)).trans V0_12
  have V1_13 := (bn.cell (p := ⟨w3.heap.size, 1, none⟩) (by show w3.heap.size < _; omega)).trans V1_12
  have V2_13 := (bn.cell (p := ⟨w3.heap.size, 2, none⟩) (by show w3.heap.size < _; omega)).trans V2_12
  clear V0_12 V1_12 V2_12
  have X0_13 := (bn.cell (p := ⟨w5.heap.size, 0, none⟩) (by show w5.heap.size < _; omega)).trans X0_12
  have X1_13 := (bn.cell (p := ⟨w5.heap.size, 1, none⟩) (by show w5.heap.size < _; omega)).trans X1_12
  have X2_13 := (bn.cell (p := ⟨w5.heap.size, 2, none⟩) (by show w5.heap.size < _; omega)).trans X2_12
  clear X0_12 X1_12 X2_12
  have G0_13 := (bn.cell (p := ⟨w8.heap.size, 0, none⟩) (by show w8.heap.size < _; omega)).trans G0_12
  have G1_13 := (bn.cell (p := ⟨w8.heap.size, 1, none⟩) (by show w8.heap.size < _; omega)).trans G1_12
  have G2_13 := (bn.cell (p := ⟨w8.heap.size, 2, none⟩) (by show w8.heap.size < _; omega)).trans G2_12
  clear G0_12 G1_12 G2_12
  clear bn
  clear F_r1_13
  go_wp2_with fail
  refine (Tab.markA (N1 := H) (N2 := F) 1 (by omega) (by omega) (unhide HB0) F_x0_13).mono ?_
  rintro e w14 ⟨k0, rfl, ka0, kb0, zn⟩
  clear F_x0_13
  have c14 := c13.trans (zn.below (by omega) (by omega))
  have z14' := zn.size
  have F_w_14 := F_w_13.zone zn (by omega)
  clear F_w_13
  have F_x1_14 := F_x1_13.zone zn (by omega)
  clear F_x1_13
  have F_g_14 := F_g_13.zone zn (by omega)
  clear F_g_13
  have A0_14 := (World.cell?_of_block (a := ⟨w.heap.size, 0, none⟩) (zn.block w.heap.size (by omega) (by omega))).trans A0_13
  have A1_14 := (World.cell?_of_block (a := ⟨w.heap.size, 1, none⟩) (zn.block w.heap.size (by omega) (by omega))).trans A1_13
  have A2_14 := (World.cell?_of_block (a := ⟨w.heap.size, 2, none⟩) (zn.block w.heap.size (by omega) (by omega))).trans A2_13
  clear A0_13 A1_13 A2_13
  have V0_14 := (World.cell?_of_block (a := ⟨w3.heap.size, 0, none⟩) (zn.block w3.heap.size (by omega) (by omega))).trans V0_13
  have V1_14 := (World.cell?_of_block (a := ⟨w3.heap.size, 1, none⟩) (zn.block w3.heap.size (by omega) (by omega))).trans V1_13
  have V2_14 := (World.cell?_of_block (a := ⟨w3.heap.size, 2, none⟩) (zn.block w3.heap.size (by omega) (by omega))).trans V2_13
  clear V0_13 V1_13 V2_13
  have X0_14 := (World.cell?_of_block (a := ⟨w5.heap.size, 0, none⟩) (zn.block w5.heap.size (by omega) (by omega))).trans X0_13
  have X1_14 := (World.cell?_of_block (a := ⟨w5.heap.size, 1, none⟩) (zn.block w5.heap.size (by omega) (by omega))).trans X1_13
  have X2_14 := (World.cell?_of_block (a := ⟨w5.heap.size, 2, none⟩) (zn.block w5.heap.size (by omega) (by omega))).trans X2_13
  clear X0_13 X1_13 X2_13
  have G0_14 := (World.cell?_of_block (a := ⟨w8.heap.size, 0, none⟩) (zn.block w8.heap.size (by omega) (by omega))).trans G0_13
  have G1_14 := (World.cell?_of_block (a := ⟨w8.heap.size, 1, none⟩) (zn.block w8.heap.size (by omega) (by omega))).trans G1_13
  have G2_14 := (World.cell?_of_block (a := ⟨w8.heap.size, 2, none⟩) (zn.block w8.heap.size (by omega) (by omega))).trans G2_13
  clear G0_13 G1_13 G2_13
  clear zn
  go_wp2_with fail
  refine (Mat.markA k0 (by omega) (by omega) (unhide HB1) F_x1_14).mono ?_
  rintro e w15 ⟨k1, rfl, ka1, kb1, zn⟩
  clear F_x1_14
  have c15 := c14.trans (zn.below (by omega) (by omega))
  have z15' := zn.size
  have F_w_15 := F_w_14.zone zn (by omega)
  clear F_w_14
  have F_g_15 := F_g_14.zone zn (by omega)
  clear F_g_14
  have A0_15 := (World.cell?_of_block (a := ⟨w.heap.size, 0, none⟩) (zn.block w.heap.size (by omega) (by omega))).trans A0_14
  have A1_15 := (World.cell?_of_block (a := ⟨w.heap.size, 1, none⟩) (zn.block w.heap.size (by omega) (by omega))).trans A1_14
  have A2_15 := (World.cell?_of_block (a := ⟨w.heap.size, 2, none⟩) (zn.block w.heap.size (by omega) (by omega))).trans A2_14
  clear A0_14 A1_14 A2_14
  have V0_15 := (World.cell?_of_block (a := ⟨w3.heap.size, 0, none⟩) (zn.block w3.heap.size (by omega) (by omega))).trans V0_14
  have V1_15 := (World.cell?_of_block (a := ⟨w3.heap.size, 1, none⟩) (zn.block w3.heap.size (by omega) (by omega))).trans V1_14
  have V2_15 := (World.cell?_of_block (a := ⟨w3.heap.size, 2, none⟩) (zn.block w3.heap.size (by omega) (by omega))).trans V2_14
  clear V0_14 V1_14 V2_14
  have X0_15 := (World.cell?_of_block (a := ⟨w5.heap.size, 0, none⟩) (zn.block w5.heap.size (by omega) (by omega))).trans X0_14
  have X1_15 := (World.cell?_of_block (a := ⟨w5.heap.size, 1, none⟩) (zn.block w5.heap.size (by omega) (by omega))).trans X1_14
  have X2_15 := (World.cell?_of_block (a := ⟨w5.heap.size, 2, none⟩) (zn.block w5.heap.size (by omega) (by omega))).trans X2_14
  clear X0_14 X1_14 X2_14
  have G0_15 := (World.cell?_of_block (a := ⟨w8.heap.size, 0, none⟩) (zn.block w8.heap.size (by omega) (by omega))).trans G0_14
  have G1_15 := (World.cell?_of_block (a := ⟨w8.heap.size, 1, none⟩) (zn.block w8.heap.size (by omega) (by omega))).trans G1_14
  have G2_15 := (World.cell?_of_block (a := ⟨w8.heap.size, 2, none⟩) (zn.block w8.heap.size (by omega) (by omega))).trans G2_14
  clear G0_14 G1_14 G2_14
  clear zn
  have hkn : decide ((k1 : Int) < 0) = false := by simp
  go_wp2_with fail
  refine (Tab.eqX (N1 := RH) (N2 := RF) F_g_15.is F_w_15.is).mono ?_
  rintro e w16 ⟨rfl, bn⟩
  have c16 := c15.trans (bn.mono c15.size)
  have z16' := bn.size
  have F_w_16 := F_w_15.below bn
  clear F_w_15
  have F_g_16 := F_g_15.below bn
  clear F_g_15
  have A0_16 := (bn.cell (p := ⟨w.heap.size, 0, none⟩) (by show w.heap.size < _; omega)).trans A0_15
  have A1_16 := (bn.cell (p := ⟨w.heap.size, 1, none⟩) (by show w.heap.size < _; omega)).trans A1_15
  have A2_16 := (bn.cell (p := ⟨w.heap.size, 2, none⟩) (by show w.heap.size < _; omega)).trans A2_15
  clear A0_15 A1_15 A2_15
  have V0_16 := (bn.cell (p := ⟨w3.heap.size, 0, none⟩) (by show w3.heap.size < _; omega)).trans V0_15
  have V1_16 := (bn.cell (p := ⟨w3.heap.size, 1, none⟩) (by show w3.heap.size < _; omega)).trans V1_15
  have V2_16 := (bn.cell (p := ⟨w3.heap.size, 2, none⟩) (by show w3.heap.size < _; omega)).trans V2_15
  clear V0_15 V1_15 V2_15
  have X0_16 := (bn.cell (p := ⟨w5.heap.size, 0, none⟩) (by show w5.heap.size < _; omega)).trans X0_15
  have X1_16 := (bn.cell (p := ⟨w5.heap.size, 1, none⟩) (by show w5.heap.size < _; omega)).trans X1_15
  have X2_16 := (bn.cell (p := ⟨w5.heap.size, 2, none⟩) (by show w5.heap.size < _; omega)).trans X2_15
  clear X0_15 X1_15 X2_15
  have G0_16 := (bn.cell (p := ⟨w8.heap.size, 0, none⟩) (by show w8.heap.size < _; omega)).trans G0_15
  have G1_16 := (bn.cell (p := ⟨w8.heap.size, 1, none⟩) (by show w8.heap.size < _; omega)).trans G1_15
  have G2_16 := (bn.cell (p := ⟨w8.heap.size, 2, none⟩) (by show w8.heap.size < _; omega)).trans G2_15
  clear G0_15 G1_15 G2_15
  clear bn
  clear hkn
  go_wp2_with fail
  refine (Tab.markX 1 (by omega) (by omega) (unhide HRL) F_g_16).mono ?_
  rintro e w17 ⟨km, rfl, ekm, on, zn⟩
  clear F_g_16
  have c17 := c16.trans (zn.below (by omega) (by omega))
  have z17' := zn.size
  have F_w_17 := F_w_16.zone zn (by omega)
  clear F_w_16
  have A0_17 := (World.cell?_of_block (a := ⟨w.heap.size, 0, none⟩) (zn.block w.heap.size (by omega) (by omega))).trans A0_16
  have A1_17 := (World.cell?_of_block (a := ⟨w.heap.size, 1, none⟩) (zn.block w.heap.size (by omega) (by omega))).trans A1_16
  have A2_17 := (World.cell?_of_block (a := ⟨w.heap.size, 2, none⟩) (zn.block w.heap.size (by omega) (by omega))).trans A2_16
  clear A0_16 A1_16 A2_16
  have V0_17 := (World.cell?_of_block (a := ⟨w3.heap.size, 0, none⟩) (zn.block w3.heap.size (by omega) (by omega))).trans V0_16
  have V1_17 := (World.cell?_of_block (a := ⟨w3.heap.size, 1, none⟩) (zn.block w3.heap.size (by omega) (by omega))).trans V1_16
  have V2_17 := (World.cell?_of_block (a := ⟨w3.heap.size, 2, none⟩) (zn.block w3.heap.size (by omega) (by omega))).trans V2_16
  clear V0_16 V1_16 V2_16
  have X0_17 := (World.cell?_of_block (a := ⟨w5.heap.size, 0, none⟩) (zn.block w5.heap.size (by omega) (by omega))).trans X0_16
  have X1_17 := (World.cell?_of_block (a := ⟨w5.heap.size, 1, none⟩) (zn.block w5.heap.size (by omega) (by omega))).trans X1_16
  have X2_17 := (World.cell?_of_block (a := ⟨w5.heap.size, 2, none⟩) (zn.block w5.heap.size (by omega) (by omega))).trans X2_16
  clear X0_16 X1_16 X2_16
  have G0_17 := (World.cell?_of_block (a := ⟨w8.heap.size, 0, none⟩) (zn.block w8.heap.size (by omega) (by omega))).trans G0_16
  have G1_17 := (World.cell?_of_block (a := ⟨w8.heap.size, 1, none⟩) (zn.block w8.heap.size (by omega) (by omega))).trans G1_16
  have G2_17 := (World.cell?_of_block (a := ⟨w8.heap.size, 2, none⟩) (zn.block w8.heap.size (by omega) (by omega))).trans G2_16
  clear G0_16 G1_16 G2_16
  have F_g_17 := on
  have HKM := hide ekm
  clear on zn ekm
  go_wp2_with fail
  refine (Tab.heldX 1 (by omega) (by omega) (unhide HRL) F_g_17.is).mono ?_
  rintro e w18 ⟨kq, rfl, ekq, bn⟩
  obtain rfl : kq = km := by rw [ekq, unhide HKM]
  have c18 := c17.trans (bn.mono c17.size)
  have z18' := bn.size
  have F_w_18 := F_w_17.below bn
  clear F_w_17
  have F_g_18 := F_g_17.below bn
  clear F_g_17
  have A0_18 := (bn.cell (p := ⟨w.heap.size, 0, none⟩) (by show w.heap.size < _; omega)).trans A0_17
  have A1_18 := (bn.cell (p := ⟨w.heap.size, 1, none⟩) (by show w.heap.size < _; omega)).trans A1_17
  have A2_18 := (bn.cell (p := ⟨w.heap.size, 2, none⟩) (by show w.heap.size < _; omega)).trans A2_17
  clear A0_17 A1_17 A2_17
  have V0_18 := (bn.cell (p := ⟨w3.heap.size, 0, none⟩) (by show w3.heap.size < _; omega)).trans V0_17
  have V1_18 := (bn.cell (p := ⟨w3.heap.size, 1, none⟩) (by show w3.heap.size < _; omega)).trans V1_17
  have V2_18 := (bn.cell (p := ⟨w3.heap.size, 2, none⟩) (by show w3.heap.size < _; omega)).trans V2_17
  clear V0_17 V1_17 V2_17
  have X0_18 := (bn.cell (p := ⟨w5.heap.size, 0, none⟩) (by show w5.heap.size < _; omega)).trans X0_17
  have X1_18 := (bn.cell (p := ⟨w5.heap.size, 1, none⟩) (by show w5.heap.size < _; omega)).trans X1_17
  have X2_18 := (bn.cell (p := ⟨w5.heap.size, 2, none⟩) (by show w5.heap.size < _; omega)).trans X2_17
  clear X0_17 X1_17 X2_17
  have G0_18 := (bn.cell (p := ⟨w8.heap.size, 0, none⟩) (by show w8.heap.size < _; omega)).trans G0_17
  have G1_18 := (bn.cell (p := ⟨w8.heap.size, 1, none⟩) (by show w8.heap.size < _; omega)).trans G1_17
  have G2_18 := (bn.cell (p := ⟨w8.heap.size, 2, none⟩) (by show w8.heap.size < _; omega)).trans G2_17
  clear G0_17 G1_17 G2_17
  clear bn ekq
  have hkn : decide ((kq : Int) < 0) = false := by simp
  have HKM' := hide (unhide HKM)
  go_wp2_with fail
  refine (unhide HTo0 _ c18).mono ?_
  rintro e w19 ⟨v_b0, rfl, on, bn⟩
  have c19 := c18.trans (bn.mono c18.size)
  have z19' := bn.size
  have F_w_19 := F_w_18.below bn
  clear F_w_18
  have F_g_19 := F_g_18.below bn
  clear F_g_18
  have A0_19 := (bn.cell (p := ⟨w.heap.size, 0, none⟩) (by show w.heap.size < _; omega)).trans A0_18
  have A1_19 := (bn.cell (p := ⟨w.heap.size, 1, none⟩) (by show w.heap.size < _; omega)).trans A1_18
  have A2_19 := (bn.cell (p := ⟨w.heap.size, 2, none⟩) (by show w.heap.size < _; omega)).trans A2_18
  clear A0_18 A1_18 A2_18
  have V0_19 := (bn.cell (p := ⟨w3.heap.size, 0, none⟩) (by show w3.heap.size < _; omega)).trans V0_18
  have V1_19 := (bn.cell (p := ⟨w3.heap.size, 1, none⟩) (by show w3.heap.size < _; omega)).trans V1_18
  have V2_19 := (bn.cell (p := ⟨w3.heap.size, 2, none⟩) (by show w3.heap.size < _; omega)).trans V2_18
  clear V0_18 V1_18 V2_18
  have X0_19 := (bn.cell (p := ⟨w5.heap.size, 0, none⟩) (by show w5.heap.size < _; omega)).trans X0_18
  have X1_19 := (bn.cell (p := ⟨w5.heap.size, 1, none⟩) (by show w5.heap.size < _; omega)).trans X1_18
  have X2_19 := (bn.cell (p := ⟨w5.heap.size, 2, none⟩) (by show w5.heap.size < _; omega)).trans X2_18
  clear X0_18 X1_18 X2_18
  have G0_19 := (bn.cell (p := ⟨w8.heap.size, 0, none⟩) (by show w8.heap.size < _; omega)).trans G0_18
  have G1_19 := (bn.cell (p := ⟨w8.heap.size, 1, none⟩) (by show w8.heap.size < _; omega)).trans G1_18
  have G2_19 := (bn.cell (p := ⟨w8.heap.size, 2, none⟩) (by show w8.heap.size < _; omega)).trans G2_18
  clear G0_18 G1_18 G2_18
  obtain ⟨a_b0, l_b0, q_b0, rfl⟩ := Row.Own.form on
  have F_b0_19 := on
  clear on bn
  go_wp2_with fail
  refine (unhide HTo1 _ c19).mono ?_
  rintro e w20 ⟨v_b1, rfl, on, bn⟩
  have c20 := c19.trans (bn.mono c19.size)
  have z20' := bn.size
  have F_w_20 := F_w_19.below bn
  clear F_w_19
  have F_g_20 := F_g_19.below bn
  clear F_g_19
  have F_b0_20 := F_b0_19.below bn
  clear F_b0_19
  have A0_20 := (bn.cell (p := ⟨w.heap.size, 0, none⟩) (by show w.heap.size < _; omega)).trans A0_19
  have A1_20 := (bn.cell (p := ⟨w.heap.size, 1, none⟩) (by show w.heap.size < _; omega)).trans A1_19
  have A2_20 := (bn.cell (p := ⟨w.heap.size, 2, none⟩) (by show w.heap.size < _; omega)).trans A2_19
  clear A0_19 A1_19 A2_19
  have V0_20 := (bn.cell (p := ⟨w3.heap.size, 0, none⟩) (by show w3.heap.size < _; omega)).trans V0_19
  have V1_20 := (bn.cell (p := ⟨w3.heap.size, 1, none⟩) (by show w3.heap.size < _; omega)).trans V1_19
  have V2_20 := (bn.cell (p := ⟨w3.heap.size, 2, none⟩) (by show w3.heap.size < _; omega)).trans V2_19
  clear V0_19 V1_19 V2_19
  have X0_20 := (bn.cell (p := ⟨w5.heap.size, 0, none⟩) (by show w5.heap.size < _; omega)).trans X0_19
  have X1_20 := (bn.cell (p := ⟨w5.heap.size, 1, none⟩) (by show w5.heap.size < _; omega)).trans X1_19
  have X2_20 := (bn.cell (p := ⟨w5.heap.size, 2, none⟩) (by show w5.heap.size < _; omega)).trans X2_19
  clear X0_19 X1_19 X2_19
  have G0_20 := (bn.cell (p := ⟨w8.heap.size, 0, none⟩) (by show w8.heap.size < _; omega)).trans G0_19
  have G1_20 := (bn.cell (p := ⟨w8.heap.size, 1, none⟩) (by show w8.heap.size < _; omega)).trans G1_19
  have G2_20 := (bn.cell (p := ⟨w8.heap.size, 2, none⟩) (by show w8.heap.size < _; omega)).trans G2_19
  clear G0_19 G1_19 G2_19
  obtain ⟨a_b1, l_b1, q_b1, rfl⟩ := Mat.Own.form on
  have F_b1_20 := on
  clear on bn
  go_wp2_with fail
  have Q := hide (Tab.impl_drop a2 a3 H F F_b0_20.is F_b1_20.is (unhide HG0) (unhide HM0) (unhide HG1) (unhide HM1))
  rw [← unhide HRZ] at Q
  simp only at Q
  refine (unhide Q).mono ?_
  rintro e w21 ⟨v_h, rfl, on0, bn⟩
  have on := on0
  clear on0 Q
  have c21 := c20.trans (bn.mono c20.size)
  have z21' := bn.size
  have F_w_21 := F_w_20.below bn
  clear F_w_20
  have F_g_21 := F_g_20.below bn
  clear F_g_20
  have F_b0_21 := F_b0_20.below bn
  clear F_b0_20
  have F_b1_21 := F_b1_20.below bn
  clear F_b1_20
  have A0_21 := (bn.cell (p := ⟨w.heap.size, 0, none⟩) (by show w.heap.size < _; omega)).trans A0_20
  have A1_21 := (bn.cell (p := ⟨w.heap.size, 1, none⟩) (by show w.heap.size < _; omega)).trans A1_20
  have A2_21 := (bn.cell (p := ⟨w.heap.size, 2, none⟩) (by show w.heap.size < _; omega)).trans A2_20
  clear A0_20 A1_20 A2_20
  have V0_21 := (bn.cell (p := ⟨w3.heap.size, 0, none⟩) (by show w3.heap.size < _; omega)).trans V0_20
  have V1_21 := (bn.cell (p := ⟨w3.heap.size, 1, none⟩) (by show w3.heap.size < _; omega)).trans V1_20
  have V2_21 := (bn.cell (p := ⟨w3.heap.size, 2, none⟩) (by show w3.heap.size < _; omega)).trans V2_20
  clear V0_20 V1_20 V2_20
  have X0_21 := (bn.cell (p := ⟨w5.heap.size, 0, none⟩) (by show w5.heap.size < _; omega)).trans X0_20
  have X1_21 := (bn.cell (p := ⟨w5.heap.size, 1, none⟩) (by show w5.heap.size < _; omega)).trans X1_20
  have X2_21 := (bn.cell (p := ⟨w5.heap.size, 2, none⟩) (by show w5.heap.size < _; omega)).trans X2_20
  clear X0_20 X1_20 X2_20
  have G0_21 := (bn.cell (p := ⟨w8.heap.size, 0, none⟩) (by show w8.heap.size < _; omega)).trans G0_20
  have G1_21 := (bn.cell (p := ⟨w8.heap.size, 1, none⟩) (by show w8.heap.size < _; omega)).trans G1_20
  have G2_21 := (bn.cell (p := ⟨w8.heap.size, 2, none⟩) (by show w8.heap.size < _; omega)).trans G2_20
  clear G0_20 G1_20 G2_20
  obtain ⟨a_h, l_h, q_h, rfl⟩ := Row.Own.form on
  have F_h_21 := on
  clear on bn
  obtain ⟨w22, hw22⟩ : ∃ w', w' = w21.alloc (.cells #[.slice a_h l_h q_h, .int .i64 RH, .int .i64 RF] 31) := ⟨_, rfl⟩
  have bn : Below w21.heap.size w21 w22 := by rw [hw22]; exact (Below.refl _ _).alloc (Nat.le_refl _) _
  have zz22 : w21.heap.size < w22.heap.size := by rw [hw22]; simp
  have Y0_22 : w22.cell? ⟨w21.heap.size, 0, none⟩ = some (.slice a_h l_h q_h) := by rw [hw22]; simp [go_sem]
  have Y1_22 : w22.cell? ⟨w21.heap.size, 1, none⟩ = some (.int .i64 RH) := by rw [hw22]; simp [go_sem]
  have Y2_22 : w22.cell? ⟨w21.heap.size, 2, none⟩ = some (.int .i64 RF) := by rw [hw22]; simp [go_sem]
  have c22 := c21.trans (bn.mono c21.size)
  have z22' := bn.size
  have F_w_22 := F_w_21.below bn
  clear F_w_21
  have F_g_22 := F_g_21.below bn
  clear F_g_21
  have F_b0_22 := F_b0_21.below bn
  clear F_b0_21
  have F_b1_22 := F_b1_21.below bn
  clear F_b1_21
  have F_h_22 := F_h_21.below bn
  clear F_h_21
  have A0_22 := (bn.cell (p := ⟨w.heap.size, 0, none⟩) (by show w.heap.size < _; omega)).trans A0_21
  have A1_22 := (bn.cell (p := ⟨w.heap.size, 1, none⟩) (by show w.heap.size < _; omega)).trans A1_21
  have A2_22 := (bn.cell (p := ⟨w.heap.size, 2, none⟩) (by show w.heap.size < _; omega)).trans A2_21
  clear A0_21 A1_21 A2_21
  have V0_22 := (bn.cell (p := ⟨w3.heap.size, 0, none⟩) (by show w3.heap.size < _; omega)).trans V0_21
  have V1_22 := (bn.cell (p := ⟨w3.heap.size, 1, none⟩) (by show w3.heap.size < _; omega)).trans V1_21
  have V2_22 := (bn.cell (p := ⟨w3.heap.size, 2, none⟩) (by show w3.heap.size < _; omega)).trans V2_21
  clear V0_21 V1_21 V2_21
  have X0_22 := (bn.cell (p := ⟨w5.heap.size, 0, none⟩) (by show w5.heap.size < _; omega)).trans X0_21
  have X1_22 := (bn.cell (p := ⟨w5.heap.size, 1, none⟩) (by show w5.heap.size < _; omega)).trans X1_21
  have X2_22 := (bn.cell (p := ⟨w5.heap.size, 2, none⟩) (by show w5.heap.size < _; omega)).trans X2_21
  clear X0_21 X1_21 X2_21
  have G0_22 := (bn.cell (p := ⟨w8.heap.size, 0, none⟩) (by show w8.heap.size < _; omega)).trans G0_21
  have G1_22 := (bn.cell (p := ⟨w8.heap.size, 1, none⟩) (by show w8.heap.size < _; omega)).trans G1_21
  have G2_22 := (bn.cell (p := ⟨w8.heap.size, 2, none⟩) (by show w8.heap.size < _; omega)).trans G2_21
  clear G0_21 G1_21 G2_21
  clear bn
  have hs22 := hw22.symm
  clear hw22
  clear F_b0_22
  clear F_b1_22
  go_wp2_with fail
  try rw [hs22]
  clear hs22
  refine (Tab.eqX (N1 := RH) (N2 := RF) F_h_22.is F_w_22.is).mono ?_
  rintro e w23 ⟨rfl, bn⟩
  have c23 := c22.trans (bn.mono c22.size)
  have z23' := bn.size
  have F_w_23 := F_w_22.below bn
  clear F_w_22
  have F_g_23 := F_g_22.below bn
  clear F_g_22
  have F_h_23 := F_h_22.below bn
  clear F_h_22
  have A0_23 := (bn.cell (p := ⟨w.heap.size, 0, none⟩) (by show w.heap.size < _; omega)).trans A0_22
  have A1_23 := (bn.cell (p := ⟨w.heap.size, 1, none⟩) (by show w.heap.size < _; omega)).trans A1_22
  have A2_23 := (bn.cell (p := ⟨w.heap.size, 2, none⟩) (by show w.heap.size < _; omega)).trans A2_22
  clear A0_22 A1_22 A2_22
  have V0_23 := (bn.cell (p := ⟨w3.heap.size, 0, none⟩) (by show w3.heap.size < _; omega)).trans V0_22
  have V1_23 := (bn.cell (p := ⟨w3.heap.size, 1, none⟩) (by show w3.heap.size < _; omega)).trans V1_22
  have V2_23 := (bn.cell (p := ⟨w3.heap.size, 2, none⟩) (by show w3.heap.size < _; omega)).trans V2_22
  clear V0_22 V1_22 V2_22
  have X0_23 := (bn.cell (p := ⟨w5.heap.size, 0, none⟩) (by show w5.heap.size < _; omega)).trans X0_22
  have X1_23 := (bn.cell (p := ⟨w5.heap.size, 1, none⟩) (by show w5.heap.size < _; omega)).trans X1_22
  have X2_23 := (bn.cell (p := ⟨w5.heap.size, 2, none⟩) (by show w5.heap.size < _; omega)).trans X2_22
  clear X0_22 X1_22 X2_22
  have G0_23 := (bn.cell (p := ⟨w8.heap.size, 0, none⟩) (by show w8.heap.size < _; omega)).trans G0_22
  have G1_23 := (bn.cell (p := ⟨w8.heap.size, 1, none⟩) (by show w8.heap.size < _; omega)).trans G1_22
  have G2_23 := (bn.cell (p := ⟨w8.heap.size, 2, none⟩) (by show w8.heap.size < _; omega)).trans G2_22
  clear G0_22 G1_22 G2_22
  have Y0_23 := (bn.cell (p := ⟨w21.heap.size, 0, none⟩) (by show w21.heap.size < _; omega)).trans Y0_22
  have Y1_23 := (bn.cell (p := ⟨w21.heap.size, 1, none⟩) (by show w21.heap.size < _; omega)).trans Y1_22
  have Y2_23 := (bn.cell (p := ⟨w21.heap.size, 2, none⟩) (by show w21.heap.size < _; omega)).trans Y2_22
  clear Y0_22 Y1_22 Y2_22
  clear bn
  clear F_h_23
  go_wp2_with fail
  refine (Tab.heldX 1 (by omega) (by omega) (unhide HRL) F_g_23.is).mono ?_
  rintro e w24 ⟨kr, rfl, ekr, bn⟩
  obtain rfl : kr = kq := by rw [ekr, unhide HKM']
  have c24 := c23.trans (bn.mono c23.size)
  have z24' := bn.size
  have F_w_24 := F_w_23.below bn
  clear F_w_23
  have F_g_24 := F_g_23.below bn
  clear F_g_23
  have A0_24 := (bn.cell (p := ⟨w.heap.size, 0, none⟩) (by show w.heap.size < _; omega)).trans A0_23
  have A1_24 := (bn.cell (p := ⟨w.heap.size, 1, none⟩) (by show w.heap.size < _; omega)).trans A1_23
  have A2_24 := (bn.cell (p := ⟨w.heap.size, 2, none⟩) (by show w.heap.size < _; omega)).trans A2_23
  clear A0_23 A1_23 A2_23
  have V0_24 := (bn.cell (p := ⟨w3.heap.size, 0, none⟩) (by show w3.heap.size < _; omega)).trans V0_23
  have V1_24 := (bn.cell (p := ⟨w3.heap.size, 1, none⟩) (by show w3.heap.size < _; omega)).trans V1_23
  have V2_24 := (bn.cell (p := ⟨w3.heap.size, 2, none⟩) (by show w3.heap.size < _; omega)).trans V2_23
  clear V0_23 V1_23 V2_23
  have X0_24 := (bn.cell (p := ⟨w5.heap.size, 0, none⟩) (by show w5.heap.size < _; omega)).trans X0_23
  have X1_24 := (bn.cell (p := ⟨w5.heap.size, 1, none⟩) (by show w5.heap.size < _; omega)).trans X1_23
  have X2_24 := (bn.cell (p := ⟨w5.heap.size, 2, none⟩) (by show w5.heap.size < _; omega)).trans X2_23
  clear X0_23 X1_23 X2_23
  have G0_24 := (bn.cell (p := ⟨w8.heap.size, 0, none⟩) (by show w8.heap.size < _; omega)).trans G0_23
  have G1_24 := (bn.cell (p := ⟨w8.heap.size, 1, none⟩) (by show w8.heap.size < _; omega)).trans G1_23
  have G2_24 := (bn.cell (p := ⟨w8.heap.size, 2, none⟩) (by show w8.heap.size < _; omega)).trans G2_23
  clear G0_23 G1_23 G2_23
  have Y0_24 := (bn.cell (p := ⟨w21.heap.size, 0, none⟩) (by show w21.heap.size < _; omega)).trans Y0_23
  have Y1_24 := (bn.cell (p := ⟨w21.heap.size, 1, none⟩) (by show w21.heap.size < _; omega)).trans Y1_23
  have Y2_24 := (bn.cell (p := ⟨w21.heap.size, 2, none⟩) (by show w21.heap.size < _; omega)).trans Y2_23
  clear Y0_23 Y1_23 Y2_23
  clear bn ekr
  have hkn' : decide ((kr : Int) < 0) = false := by simp
  go_wp2_with fail
  go_ret
  exact ⟨rfl, c24⟩
end Go.Proofs.YtomncodkbcngmaaGreat
