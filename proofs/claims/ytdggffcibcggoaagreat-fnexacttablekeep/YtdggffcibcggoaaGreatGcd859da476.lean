/- My own texts of one claim, laid together by program: TabRes, KeepCnt, FnExactTableKeepWalk. -/
import Derived.Test.YtdggffcibcggoaaGreatG819f54d614
import Derived.Test.YtdggffcibcggoaaGreatG252f3a8cf9
import Derived.Test.YtdggffcibcggoaaGreatGa0085373af
/- A table as an answer: its marks are laid, and held; how much there is in it at most. -/
namespace Go.Proofs.YtdggffcibcggoaaGreat.Tab
open Go.RowKit Rw
set_option linter.unusedVariables false
attribute [local go_sem ↓] Go.wp_at_zero Go.wp_at_succ
theorem markX {lo hi : Nat} {v : Value} {zs : List Row.E} {N1 N2 : Int} {w : World} (k0 : Nat) (hk1 : 1 ≤ k0) (hk2 : k0 ≤ 100000000) (hc : Row.cnt zs ≤ 2097152 ∧ zs.length ≤ 2097152) (h : Row.Own lo hi w v zs) :
    Calls Tryz.prog 13 #[.agg #[v, .int .i64 N1, .int .i64 N2], .int .i64 k0] w fun e w' => ∃ k : Nat, e = .returned (.int .i64 k) ∧ k = k0 + Row.cnt zs ∧ Row.Own lo hi w' v (Row.mk k0 zs) ∧ Zone lo hi w w' := by
  obtain ⟨ra, rl, rq, rfl⟩ := Row.Own.form h
  have b : Below w.heap.size w (w.alloc (.cells #[.slice ra rl rq, .int .i64 N1, .int .i64 N2] 28)) := (Below.refl _ _).alloc (Nat.le_refl _) _
  have H := hide (Row.markX k0 hk1 hk2 hc (h.below b))
  have zb : Zone lo hi w (w.alloc (.cells #[.slice ra rl rq, .int .i64 N1, .int .i64 N2] 28)) := Zone.of_below b
  clear h hc b
  go_enter Tryz.func13, Tryz.ntmps13
  go_wp2_with fail
  refine (unhide H).mono ?_
  rintro e v0 ⟨k, rfl, h1, o, z⟩
  have O := hide o
  have E := hide h1
  clear o h1
  go_wp2_with fail
  go_ret
  exact ⟨k, rfl, unhide E, unhide O, zb.trans z⟩
theorem heldX {v : Value} {zs : List Row.E} {N1 N2 : Int} {w : World} (k0 : Nat) (hk1 : 1 ≤ k0) (hk2 : k0 ≤ 100000000) (hc : Row.cnt zs ≤ 2097152 ∧ zs.length ≤ 2097152) (h : Row.Is w v (Row.mk k0 zs)) :
    Calls Tryz.prog 14 #[.agg #[v, .int .i64 N1, .int .i64 N2], .int .i64 k0] w fun e w' => ∃ k : Nat, e = .returned (.int .i64 k) ∧ k = k0 + Row.cnt zs ∧ Below w.heap.size w w' := by
  obtain ⟨ra, rl, rq, rfl⟩ : ∃ a n c, v = .slice a n c := by obtain ⟨cs, -, hL, -⟩ := h; obtain ⟨-, a, c, e, -⟩ := hL; exact ⟨a, _, c, e⟩
  have b : Below w.heap.size w (w.alloc (.cells #[.slice ra rl rq, .int .i64 N1, .int .i64 N2] 28)) := (Below.refl _ _).alloc (Nat.le_refl _) _
  have H := hide (Row.heldX k0 hk1 hk2 hc (h.below b))
  clear h hc
  go_enter Tryz.func14, Tryz.ntmps14
  go_wp2_with fail
  refine (unhide H).mono ?_
  rintro e v0 ⟨k, rfl, h1, b1⟩
  have E := hide h1
  have bn := b.trans (b1.mono b.size)
  have hkn : decide ((k : Int) < 0) = false := by simp
  clear h1 b1
  go_wp2_with fail
  go_ret
  exact ⟨k, rfl, unhide E, bn⟩
theorem rows_cnt {zs : List Row.E} (h : Row.ok zs = true) : Row.cnt zs ≤ 2097152 ∧ zs.length ≤ 2097152 := by
  have h10 := Row.ok_len h
  have h1 := Row.cnt_le zs 6000 (fun y hy => by
    obtain ⟨i, hi, rfl⟩ := List.getElem_of_mem hy
    have hs := Row.step_is (Row.ok_at h hi)
    rw [Row.at_get zs i hi] at hs
    have := (Lab.ok_small hs.1).1
    have := hs.2.2.1
    unfold Row.cntE
    omega)
  have h2 : zs.length * 6000 ≤ 10 * 6000 := Nat.mul_le_mul_right _ (by omega)
  omega
theorem drop_cnt (ms : List Mat.E) (f t : Int) (zs : List Row.E) (H F : Int) : Row.cnt (drop ms f t zs H F).1 ≤ 2097152 ∧ (drop ms f t zs H F).1.length ≤ 2097152 := by
  unfold drop
  split
  · rename_i h
    split
    · exact Row.drop_cnt ms f t zs
    · exact rows_cnt (table_ok h)
  · simp [Row.cnt, Row.cntTo]
end Go.Proofs.YtdggffcibcggoaaGreat.Tab

/- How much there is at most in a table that was kept. -/
namespace Go.Proofs.YtdggffcibcggoaaGreat.Tab
open Go.RowKit Rw
theorem keep_cnt (age : Int) (zs : List Row.E) (H F : Int) : Row.cnt (keep age zs H F).1 ≤ 2097152 ∧ (keep age zs H F).1.length ≤ 2097152 := by
  unfold keep
  split
  · rename_i h
    split
    · exact rows_cnt (table_ok h)
    · exact Row.drop_cnt [] 0 _ zs
  · simp [Row.cnt, Row.cntTo]
end Go.Proofs.YtdggffcibcggoaaGreat.Tab

/- FnExactTableKeep returns true at all tables and ages. -/
namespace Go.Proofs.YtdggffcibcggoaaGreat
open Go.RowKit Rw
set_option linter.unusedVariables false
set_option maxRecDepth 100000 in
set_option maxHeartbeats 16000000 in
theorem fnExactTableKeep.walk (c0 : Tab.C) (x0 : Tab.E) (a1 : Int) (w : World) (w0 : Tab.Elem w c0 x0 ∧ Tab.good x0) (w1 : (Lit.int .i64 a1).wf = true) :
    Calls Tryz.prog 3 #[.agg #[c0.1, c0.2.1, c0.2.2], .int .i64 a1] w fun e w' => e = .returned (.bool true) ∧ Below w.heap.size w w' := by
  obtain ⟨vv, cH, cF⟩ := c0
  obtain ⟨z0, H, F⟩ := x0
  obtain ⟨⟨s0, eH, eF⟩, hg0⟩ := w0
  simp only at s0 eH eF
  subst eH eF
  have g0 : ∀ x ∈ z0, Row.good x := hg0.1.2
  have m0 : z0.length ≤ maxLen := hg0.1.1
  obtain ⟨a0, len0, cap0, e0⟩ : ∃ a n c, vv = .slice a n c := by obtain ⟨cs, -, hL, -⟩ := s0; obtain ⟨-, a, c, e, -⟩ := hL; exact ⟨a, _, c, e⟩
  subst e0
  obtain ⟨wa, hwa⟩ : ∃ wa, wa = w.alloc (.cells #[.slice a0 len0 cap0, .int .i64 H, .int .i64 F] 24) := ⟨_, rfl⟩
  have BA : Below w.heap.size w wa := by rw [hwa]; exact (Below.refl _ _).alloc (Nat.le_refl _) _
  have za : w.heap.size < wa.heap.size := by rw [hwa]; simp
  have A0 : wa.cell? ⟨w.heap.size, 0, none⟩ = some (.slice a0 len0 cap0) := by rw [hwa]; simp [go_sem]
  have A1 : wa.cell? ⟨w.heap.size, 1, none⟩ = some (.int .i64 H) := by rw [hwa]; simp [go_sem]
  have A2 : wa.cell? ⟨w.heap.size, 2, none⟩ = some (.int .i64 F) := by rw [hwa]; simp [go_sem]
  have HS0 := hide (fun W (hB : Below w.heap.size w W) (l : Int) (l0 : 0 ≤ l) (l1 : l ≤ 1048576) => Tab.szX (N1 := H) (N2 := F) l (s0.below hB) hg0 l0 l1)
  obtain ⟨t0, ht0⟩ : ∃ t, t = Row.tot z0 := ⟨_, rfl⟩
  rw [← ht0] at HS0
  have HT0 := hide ht0
  clear ht0
  by_cases hb0 : (1048576 : Int) - (t0 : Int) < 0
  · clear s0 g0 m0 hg0
    go_enter Tryz.func3, Tryz.ntmps3
    go_wp2_with fail
    rw [← hwa]
    clear hwa
    refine (unhide HS0 _ BA (1048576) (by omega) (by omega)).mono ?_
    rintro e u0 ⟨rfl, b0⟩
    have d0 := BA.trans (b0.mono BA.size)
    have y0 := b0.size
    have A0_u0 := (b0.cell (p := ⟨w.heap.size, 0, none⟩) (by show w.heap.size < _; omega)).trans A0
    have A1_u0 := (b0.cell (p := ⟨w.heap.size, 1, none⟩) (by show w.heap.size < _; omega)).trans A1
    have A2_u0 := (b0.cell (p := ⟨w.heap.size, 2, none⟩) (by show w.heap.size < _; omega)).trans A2
    clear A0 A1 A2
    rw [if_pos (by omega)]
    go_wp2_with fail
    go_ret
    exact ⟨rfl, d0⟩
  have T0 : Row.tot z0 ≤ 1048576 := by rw [← unhide HT0]; omega
  have HTo0 := hide (fun W (hB : Below w.heap.size w W) => Tab.toX H F (s0.below hB) T0)
  have HG0 := hide g0
  have HM0 := hide m0
  have HB0 := hide T0
  clear s0 g0 m0 T0 hg0
  have HRL := hide (show Row.cnt (Tab.keep a1 z0 H F).1 ≤ 2097152 ∧ (Tab.keep a1 z0 H F).1.length ≤ 2097152 from Tab.keep_cnt a1 z0 H F)
  obtain ⟨rz, RH, RF, hrz⟩ : ∃ a b c, (a, b, c) = Tab.keep a1 z0 H F := ⟨_, _, _, rfl⟩
  rw [← hrz] at HRL
  simp only at HRL
  have HRZ := hide hrz
  clear hrz
  go_enter Tryz.func3, Tryz.ntmps3
  go_wp2_with fail
  rw [← hwa]
  clear hwa
  refine (unhide HS0 _ BA (1048576) (by omega) (by omega)).mono ?_
  rintro e u0 ⟨rfl, b0⟩
  have d0 := BA.trans (b0.mono BA.size)
  have y0 := b0.size
  have A0_u0 := (b0.cell (p := ⟨w.heap.size, 0, none⟩) (by show w.heap.size < _; omega)).trans A0
  have A1_u0 := (b0.cell (p := ⟨w.heap.size, 1, none⟩) (by show w.heap.size < _; omega)).trans A1
  have A2_u0 := (b0.cell (p := ⟨w.heap.size, 2, none⟩) (by show w.heap.size < _; omega)).trans A2
  clear A0 A1 A2
  rw [if_neg (by omega)]
  have n0 : decide (1048576 - (t0 : Int) < 0) = false := by simp; omega
  clear b0 HS0
  have z0' := d0.size
  go_wp2_with fail
  refine (unhide HTo0 _ d0).mono ?_
  rintro e w1 ⟨v_p0, rfl, on, bn⟩
  have c1 := d0.trans (bn.mono d0.size)
  have z1' := bn.size
  have A0_1 := (bn.cell (p := ⟨w.heap.size, 0, none⟩) (by show w.heap.size < _; omega)).trans A0_u0
  have A1_1 := (bn.cell (p := ⟨w.heap.size, 1, none⟩) (by show w.heap.size < _; omega)).trans A1_u0
  have A2_1 := (bn.cell (p := ⟨w.heap.size, 2, none⟩) (by show w.heap.size < _; omega)).trans A2_u0
  clear A0_u0 A1_u0 A2_u0
  obtain ⟨a_p0, l_p0, q_p0, rfl⟩ := Row.Own.form on
  have F_p0_1 := on
  clear on bn
  go_wp2_with fail
  have Q := hide (Tab.spec_keep a1 H F (Tab.wf_le (by assumption)) F_p0_1.is (unhide HG0) (unhide HM0))
  rw [← unhide HRZ] at Q
  simp only at Q
  refine (unhide Q).mono ?_
  rintro e w2 ⟨v_w, rfl, on0, bn⟩
  have on := on0
  clear on0 Q
  have c2 := c1.trans (bn.mono c1.size)
  have z2' := bn.size
  have F_p0_2 := F_p0_1.below bn
  clear F_p0_1
  have A0_2 := (bn.cell (p := ⟨w.heap.size, 0, none⟩) (by show w.heap.size < _; omega)).trans A0_1
  have A1_2 := (bn.cell (p := ⟨w.heap.size, 1, none⟩) (by show w.heap.size < _; omega)).trans A1_1
  have A2_2 := (bn.cell (p := ⟨w.heap.size, 2, none⟩) (by show w.heap.size < _; omega)).trans A2_1
  clear A0_1 A1_1 A2_1
  obtain ⟨a_w, l_w, q_w, rfl⟩ := Row.Own.form on
  have F_w_2 := on
  clear on bn
  obtain ⟨w3, hw3⟩ : ∃ w', w' = w2.alloc (.cells #[.slice a_w l_w q_w, .int .i64 RH, .int .i64 RF] 28) := ⟨_, rfl⟩
  have bn : Below w2.heap.size w2 w3 := by rw [hw3]; exact (Below.refl _ _).alloc (Nat.le_refl _) _
  have zz3 : w2.heap.size < w3.heap.size := by rw [hw3]; simp
  have V0_3 : w3.cell? ⟨w2.heap.size, 0, none⟩ = some (.slice a_w l_w q_w) := by rw [hw3]; simp [go_sem]
  have V1_3 : w3.cell? ⟨w2.heap.size, 1, none⟩ = some (.int .i64 RH) := by rw [hw3]; simp [go_sem]
  have V2_3 : w3.cell? ⟨w2.heap.size, 2, none⟩ = some (.int .i64 RF) := by rw [hw3]; simp [go_sem]
  have c3 := c2.trans (bn.mono c2.size)
  have z3' := bn.size
  have F_p0_3 := F_p0_2.below bn
  clear F_p0_2
  have F_w_3 := F_w_2.below bn
  clear F_w_2
  have A0_3 := (bn.cell (p := ⟨w.heap.size, 0, none⟩) (by show w.heap.size < _; omega)).trans A0_2
  have A1_3 := (bn.cell (p := ⟨w.heap.size, 1, none⟩) (by show w.heap.size < _; omega)).trans A1_2
  have A2_3 := (bn.cell (p := ⟨w.heap.size, 2, none⟩) (by show w.heap.size < _; omega)).trans A2_2
  clear A0_2 A1_2 A2_2
  clear bn
  have hs3 := hw3.symm
  clear hw3
  clear F_p0_3
  go_wp2_with fail
  try rw [hs3]
  clear hs3
  refine (unhide HTo0 _ c3).mono ?_
  rintro e w4 ⟨v_x0, rfl, on, bn⟩
  have c4 := c3.trans (bn.mono c3.size)
  have z4' := bn.size
  have F_w_4 := F_w_3.below bn
  clear F_w_3
  have A0_4 := (bn.cell (p := ⟨w.heap.size, 0, none⟩) (by show w.heap.size < _; omega)).trans A0_3
  have A1_4 := (bn.cell (p := ⟨w.heap.size, 1, none⟩) (by show w.heap.size < _; omega)).trans A1_3
  have A2_4 := (bn.cell (p := ⟨w.heap.size, 2, none⟩) (by show w.heap.size < _; omega)).trans A2_3
  clear A0_3 A1_3 A2_3
  have V0_4 := (bn.cell (p := ⟨w2.heap.size, 0, none⟩) (by show w2.heap.size < _; omega)).trans V0_3
  have V1_4 := (bn.cell (p := ⟨w2.heap.size, 1, none⟩) (by show w2.heap.size < _; omega)).trans V1_3
  have V2_4 := (bn.cell (p := ⟨w2.heap.size, 2, none⟩) (by show w2.heap.size < _; omega)).trans V2_3
  clear V0_3 V1_3 V2_3
  obtain ⟨a_x0, l_x0, q_x0, rfl⟩ := Row.Own.form on
  have F_x0_4 := on
  clear on bn
  obtain ⟨w5, hw5⟩ : ∃ w', w' = w4.alloc (.cells #[.slice a_x0 l_x0 q_x0, .int .i64 H, .int .i64 F] 28) := ⟨_, rfl⟩
  have bn : Below w4.heap.size w4 w5 := by rw [hw5]; exact (Below.refl _ _).alloc (Nat.le_refl _) _
  have zz5 : w4.heap.size < w5.heap.size := by rw [hw5]; simp
  have X0_5 : w5.cell? ⟨w4.heap.size, 0, none⟩ = some (.slice a_x0 l_x0 q_x0) := by rw [hw5]; simp [go_sem]
  have X1_5 : w5.cell? ⟨w4.heap.size, 1, none⟩ = some (.int .i64 H) := by rw [hw5]; simp [go_sem]
  have X2_5 : w5.cell? ⟨w4.heap.size, 2, none⟩ = some (.int .i64 F) := by rw [hw5]; simp [go_sem]
  have c5 := c4.trans (bn.mono c4.size)
  have z5' := bn.size
  have F_w_5 := F_w_4.below bn
  clear F_w_4
  have F_x0_5 := F_x0_4.below bn
  clear F_x0_4
  have A0_5 := (bn.cell (p := ⟨w.heap.size, 0, none⟩) (by show w.heap.size < _; omega)).trans A0_4
  have A1_5 := (bn.cell (p := ⟨w.heap.size, 1, none⟩) (by show w.heap.size < _; omega)).trans A1_4
  have A2_5 := (bn.cell (p := ⟨w.heap.size, 2, none⟩) (by show w.heap.size < _; omega)).trans A2_4
  clear A0_4 A1_4 A2_4
  have V0_5 := (bn.cell (p := ⟨w2.heap.size, 0, none⟩) (by show w2.heap.size < _; omega)).trans V0_4
  have V1_5 := (bn.cell (p := ⟨w2.heap.size, 1, none⟩) (by show w2.heap.size < _; omega)).trans V1_4
  have V2_5 := (bn.cell (p := ⟨w2.heap.size, 2, none⟩) (by show w2.heap.size < _; omega)).trans V2_4
  clear V0_4 V1_4 V2_4
  clear bn
  have hs5 := hw5.symm
  clear hw5
  go_wp2_with fail
  try rw [hs5]
  clear hs5
  have Q := hide (Tab.impl_keep a1 H F (Tab.wf_le (by assumption)) F_x0_5.is (unhide HG0) (unhide HM0))
  rw [← unhide HRZ] at Q
  simp only at Q
  refine (unhide Q).mono ?_
  rintro e w6 ⟨v_g, rfl, on0, bn⟩
  have on := on0
  clear on0 Q
  have c6 := c5.trans (bn.mono c5.size)
  have z6' := bn.size
  have F_w_6 := F_w_5.below bn
  clear F_w_5
  have F_x0_6 := F_x0_5.below bn
  clear F_x0_5
  have A0_6 := (bn.cell (p := ⟨w.heap.size, 0, none⟩) (by show w.heap.size < _; omega)).trans A0_5
  have A1_6 := (bn.cell (p := ⟨w.heap.size, 1, none⟩) (by show w.heap.size < _; omega)).trans A1_5
  have A2_6 := (bn.cell (p := ⟨w.heap.size, 2, none⟩) (by show w.heap.size < _; omega)).trans A2_5
  clear A0_5 A1_5 A2_5
  have V0_6 := (bn.cell (p := ⟨w2.heap.size, 0, none⟩) (by show w2.heap.size < _; omega)).trans V0_5
  have V1_6 := (bn.cell (p := ⟨w2.heap.size, 1, none⟩) (by show w2.heap.size < _; omega)).trans V1_5
  have V2_6 := (bn.cell (p := ⟨w2.heap.size, 2, none⟩) (by show w2.heap.size < _; omega)).trans V2_5
  clear V0_5 V1_5 V2_5
  have X0_6 := (bn.cell (p := ⟨w4.heap.size, 0, none⟩) (by show w4.heap.size < _; omega)).trans X0_5
  have X1_6 := (bn.cell (p := ⟨w4.heap.size, 1, none⟩) (by show w4.heap.size < _; omega)).trans X1_5
  have X2_6 := (bn.cell (p := ⟨w4.heap.size, 2, none⟩) (by show w4.heap.size < _; omega)).trans X2_5
  clear X0_5 X1_5 X2_5
  obtain ⟨a_g, l_g, q_g, rfl⟩ := Row.Own.form on
  have F_g_6 := on
  clear on bn
  obtain ⟨w7, hw7⟩ : ∃ w', w' = w6.alloc (.cells #[.slice a_g l_g q_g, .int .i64 RH, .int .i64 RF] 28) := ⟨_, rfl⟩
  have bn : Below w6.heap.size w6 w7 := by rw [hw7]; exact (Below.refl _ _).alloc (Nat.le_refl _) _
  have zz7 : w6.heap.size < w7.heap.size := by rw [hw7]; simp
  have G0_7 : w7.cell? ⟨w6.heap.size, 0, none⟩ = some (.slice a_g l_g q_g) := by rw [hw7]; simp [go_sem]
  have G1_7 : w7.cell? ⟨w6.heap.size, 1, none⟩ = some (.int .i64 RH) := by rw [hw7]; simp [go_sem]
  have G2_7 : w7.cell? ⟨w6.heap.size, 2, none⟩ = some (.int .i64 RF) := by rw [hw7]; simp [go_sem]
  have c7 := c6.trans (bn.mono c6.size)
  have z7' := bn.size
  have F_w_7 := F_w_6.below bn
  clear F_w_6
  have F_x0_7 := F_x0_6.below bn
  clear F_x0_6
  have F_g_7 := F_g_6.below bn
  clear F_g_6
  have A0_7 := (bn.cell (p := ⟨w.heap.size, 0, none⟩) (by show w.heap.size < _; omega)).trans A0_6
  have A1_7 := (bn.cell (p := ⟨w.heap.size, 1, none⟩) (by show w.heap.size < _; omega)).trans A1_6
  have A2_7 := (bn.cell (p := ⟨w.heap.size, 2, none⟩) (by show w.heap.size < _; omega)).trans A2_6
  clear A0_6 A1_6 A2_6
  have V0_7 := (bn.cell (p := ⟨w2.heap.size, 0, none⟩) (by show w2.heap.size < _; omega)).trans V0_6
  have V1_7 := (bn.cell (p := ⟨w2.heap.size, 1, none⟩) (by show w2.heap.size < _; omega)).trans V1_6
  have V2_7 := (bn.cell (p := ⟨w2.heap.size, 2, none⟩) (by show w2.heap.size < _; omega)).trans V2_6
  clear V0_6 V1_6 V2_6
  have X0_7 := (bn.cell (p := ⟨w4.heap.size, 0, none⟩) (by show w4.heap.size < _; omega)).trans X0_6
  have X1_7 := (bn.cell (p := ⟨w4.heap.size, 1, none⟩) (by show w4.heap.size < _; omega)).trans X1_6
  have X2_7 := (bn.cell (p := ⟨w4.heap.size, 2, none⟩) (by show w4.heap.size < _; omega)).trans X2_6
  clear X0_6 X1_6 X2_6
  clear bn
  have hs7 := hw7.symm
  clear hw7
  go_wp2_with fail
  try rw [hs7]
  clear hs7
  refine (Tab.eqX (N1 := RH) (N2 := RF) F_g_7.is F_w_7.is).mono ?_
  rintro e w8 ⟨rfl, bn⟩
  have c8 := c7.trans (bn.mono c7.size)
  have z8' := bn.size
  have F_w_8 := F_w_7.below bn
  clear F_w_7
  have F_x0_8 := F_x0_7.below bn
  clear F_x0_7
  have F_g_8 := F_g_7.below bn
  clear F_g_7
  have A0_8 := (bn.cell (p := ⟨w.heap.size, 0, none⟩) (by show w.heap.size < _; omega)).trans A0_7
  have A1_8 := (bn.cell (p := ⟨w.heap.size, 1, none⟩) (by show w.heap.size < _; omega)).trans A1_7
  have A2_8 := (bn.cell (p := ⟨w.heap.size, 2, none⟩) (by show w.heap.size < _; omega)).trans A2_7
  clear A0_7 A1_7 A2_7
  have V0_8 := (bn.cell (p := ⟨w2.heap.size, 0, none⟩) (by show w2.heap.size < _; omega)).trans V0_7
  have V1_8 := (bn.cell (p := ⟨w2.heap.size, 1, none⟩) (by show w2.heap.size < _; omega)).trans V1_7
  have V2_8 := (bn.cell (p := ⟨w2.heap.size, 2, none⟩) (by show w2.heap.size < _; omega)).trans V2_7
  clear V0_7 V1_7 V2_7
  have X0_8 := (bn.cell (p := ⟨w4.heap.size, 0, none⟩) (by show w4.heap.size < _; omega)).trans X0_7
  have X1_8 := (bn.cell (p := ⟨w4.heap.size, 1, none⟩) (by show w4.heap.size < _; omega)).trans X1_7
  have X2_8 := (bn.cell (p := ⟨w4.heap.size, 2, none⟩) (by show w4.heap.size < _; omega)).trans X2_7
  clear X0_7 X1_7 X2_7
  have G0_8 := (bn.cell (p := ⟨w6.heap.size, 0, none⟩) (by show w6.heap.size < _; omega)).trans G0_7
  have G1_8 := (bn.cell (p := ⟨w6.heap.size, 1, none⟩) (by show w6.heap.size < _; omega)).trans G1_7
  have G2_8 := (bn.cell (p := ⟨w6.heap.size, 2, none⟩) (by show w6.heap.size < _; omega)).trans G2_7
  clear G0_7 G1_7 G2_7
  clear bn
  have S6 : (fun W : World => W.cell? ⟨w.heap.size, 0, none⟩ = some (.slice a0 len0 cap0) ∧ W.cell? ⟨w.heap.size, 1, none⟩ = some (.int .i64 H) ∧ W.cell? ⟨w.heap.size, 2, none⟩ = some (.int .i64 F) ∧ W.cell? ⟨w4.heap.size, 0, none⟩ = some (.slice a_x0 l_x0 q_x0) ∧ W.cell? ⟨w4.heap.size, 1, none⟩ = some (.int .i64 H) ∧ W.cell? ⟨w4.heap.size, 2, none⟩ = some (.int .i64 F)) w8.drew := ⟨by simpa using A0_8, by simpa using A1_8, by simpa using A2_8, by simpa using X0_8, by simpa using X1_8, by simpa using X2_8⟩
  have cd := c8.drew
  have HT6 := hide (unhide HTo0 w8.drew cd)
  have FX := F_x0_8.is.below (Below.refl w8.heap.size w8).drew
  go_wp2_with fail
  go_region_held3 (fun W => W.cell? ⟨w.heap.size, 0, none⟩ = some (.slice a0 len0 cap0) ∧ W.cell? ⟨w.heap.size, 1, none⟩ = some (.int .i64 H) ∧ W.cell? ⟨w.heap.size, 2, none⟩ = some (.int .i64 F) ∧ W.cell? ⟨w4.heap.size, 0, none⟩ = some (.slice a_x0 l_x0 q_x0) ∧ W.cell? ⟨w4.heap.size, 1, none⟩ = some (.int .i64 H) ∧ W.cell? ⟨w4.heap.size, 2, none⟩ = some (.int .i64 F)) (first | exact S6 | exact S7 | exact S8) ((first | (go_at_call 10; refine (unhide HT6).mono ?_; rintro e w7' ⟨vq, rfl, oq, b7⟩; have z7 := b7.size; simp only [World.size_drew] at z7; have S7 : (fun W : World => W.cell? ⟨w.heap.size, 0, none⟩ = some (.slice a0 len0 cap0) ∧ W.cell? ⟨w.heap.size, 1, none⟩ = some (.int .i64 H) ∧ W.cell? ⟨w.heap.size, 2, none⟩ = some (.int .i64 F) ∧ W.cell? ⟨w4.heap.size, 0, none⟩ = some (.slice a_x0 l_x0 q_x0) ∧ W.cell? ⟨w4.heap.size, 1, none⟩ = some (.int .i64 H) ∧ W.cell? ⟨w4.heap.size, 2, none⟩ = some (.int .i64 F)) w7' := ⟨(b7.cell (p := ⟨w.heap.size, 0, none⟩) (by simp; omega)).trans S6.1, (b7.cell (p := ⟨w.heap.size, 1, none⟩) (by simp; omega)).trans S6.2.1, (b7.cell (p := ⟨w.heap.size, 2, none⟩) (by simp; omega)).trans S6.2.2.1, (b7.cell (p := ⟨w4.heap.size, 0, none⟩) (by simp; omega)).trans S6.2.2.2.1, (b7.cell (p := ⟨w4.heap.size, 1, none⟩) (by simp; omega)).trans S6.2.2.2.2.1, (b7.cell (p := ⟨w4.heap.size, 2, none⟩) (by simp; omega)).trans S6.2.2.2.2.2⟩) | (go_at_call 12; refine (Tab.eqX (FX.below b7) oq.is).mono ?_; rintro e w8' ⟨rfl, b8⟩; have z8 := b8.size; have S8 : (fun W : World => W.cell? ⟨w.heap.size, 0, none⟩ = some (.slice a0 len0 cap0) ∧ W.cell? ⟨w.heap.size, 1, none⟩ = some (.int .i64 H) ∧ W.cell? ⟨w.heap.size, 2, none⟩ = some (.int .i64 F) ∧ W.cell? ⟨w4.heap.size, 0, none⟩ = some (.slice a_x0 l_x0 q_x0) ∧ W.cell? ⟨w4.heap.size, 1, none⟩ = some (.int .i64 H) ∧ W.cell? ⟨w4.heap.size, 2, none⟩ = some (.int .i64 F)) w8' := ⟨(b8.cell (p := ⟨w.heap.size, 0, none⟩) (by simp; omega)).trans S7.1, (b8.cell (p := ⟨w.heap.size, 1, none⟩) (by simp; omega)).trans S7.2.1, (b8.cell (p := ⟨w.heap.size, 2, none⟩) (by simp; omega)).trans S7.2.2.1, (b8.cell (p := ⟨w4.heap.size, 0, none⟩) (by simp; omega)).trans S7.2.2.2.1, (b8.cell (p := ⟨w4.heap.size, 1, none⟩) (by simp; omega)).trans S7.2.2.2.2.1, (b8.cell (p := ⟨w4.heap.size, 2, none⟩) (by simp; omega)).trans S7.2.2.2.2.2⟩)))
  obtain ⟨w9, hw9⟩ : ∃ w', w' = w8' := ⟨_, rfl⟩
  subst hw9
  have bn : Below w8.heap.size w8 w9 := ((Below.refl w8.heap.size w8).drew.trans b7).trans (b8.mono (by simpa using b7.size))
  clear S6 S7 S8 HT6 FX oq cd b7 b8
  have c9 := c8.trans (bn.mono c8.size)
  have z9' := bn.size
  have F_w_9 := F_w_8.below bn
  clear F_w_8
  have F_x0_9 := F_x0_8.below bn
  clear F_x0_8
  have F_g_9 := F_g_8.below bn
  clear F_g_8
  have A0_9 := (bn.cell (p := ⟨w.heap.size, 0, none⟩) (by show w.heap.size < _; omega)).trans A0_8
  have A1_9 := (bn.cell (p := ⟨w.heap.size, 1, none⟩) (by show w.heap.size < _; omega)).trans A1_8
  have A2_9 := (bn.cell (p := ⟨w.heap.size, 2, none⟩) (by show w.heap.size < _; omega)).trans A2_8
  clear A0_8 A1_8 A2_8
  have V0_9 := (bn.cell (p := ⟨w2.heap.size, 0, none⟩) (by show w2.heap.size < _; omega)).trans V0_8
  have V1_9 := (bn.cell (p := ⟨w2.heap.size, 1, none⟩) (by show w2.heap.size < _; omega)).trans V1_8
  have V2_9 := (bn.cell (p := ⟨w2.heap.size, 2, none⟩) (by show w2.heap.size < _; omega)).trans V2_8
  clear V0_8 V1_8 V2_8
  have X0_9 := (bn.cell (p := ⟨w4.heap.size, 0, none⟩) (by show w4.heap.size < _; omega)).trans X0_8
  have X1_9 := (bn.cell (p := ⟨w4.heap.size, 1, none⟩) (by show w4.heap.size < _; omega)).trans X1_8
  have X2_9 := (bn.cell (p := ⟨w4.heap.size, 2, none⟩) (by show w4.heap.size < _; omega)).trans X2_8
  clear X0_8 X1_8 X2_8
  have G0_9 := (bn.cell (p := ⟨w6.heap.size, 0, none⟩) (by show w6.heap.size < _; omega)).trans G0_8
  have G1_9 := (bn.cell (p := ⟨w6.heap.size, 1, none⟩) (by show w6.heap.size < _; omega)).trans G1_8
  have G2_9 := (bn.cell (p := ⟨w6.heap.size, 2, none⟩) (by show w6.heap.size < _; omega)).trans G2_8
  clear G0_8 G1_8 G2_8
  clear bn
  go_wp2_with fail
  refine (Tab.markA (N1 := H) (N2 := F) 1 (by omega) (by omega) (unhide HB0) F_x0_9).mono ?_
  rintro e w10 ⟨k0, rfl, ka0, kb0, zn⟩
  clear F_x0_9
  have c10 := c9.trans (zn.below (by omega) (by omega))
  have z10' := zn.size
  have F_w_10 := F_w_9.zone zn (by omega)
  clear F_w_9
  have F_g_10 := F_g_9.zone zn (by omega)
  clear F_g_9
  have A0_10 := (World.cell?_of_block (a := ⟨w.heap.size, 0, none⟩) (zn.block w.heap.size (by omega) (by omega))).trans A0_9
  have A1_10 := (World.cell?_of_block (a := ⟨w.heap.size, 1, none⟩) (zn.block w.heap.size (by omega) (by omega))).trans A1_9
  have A2_10 := (World.cell?_of_block (a := ⟨w.heap.size, 2, none⟩) (zn.block w.heap.size (by omega) (by omega))).trans A2_9
  clear A0_9 A1_9 A2_9
  have V0_10 := (World.cell?_of_block (a := ⟨w2.heap.size, 0, none⟩) (zn.block w2.heap.size (by omega) (by omega))).trans V0_9
  have V1_10 := (World.cell?_of_block (a := ⟨w2.heap.size, 1, none⟩) (zn.block w2.heap.size (by omega) (by omega))).trans V1_9
  have V2_10 := (World.cell?_of_block (a := ⟨w2.heap.size, 2, none⟩) (zn.block w2.heap.size (by omega) (by omega))).trans V2_9
  clear V0_9 V1_9 V2_9
  have X0_10 := (World.cell?_of_block (a := ⟨w4.heap.size, 0, none⟩) (zn.block w4.heap.size (by omega) (by omega))).trans X0_9
  have X1_10 := (World.cell?_of_block (a := ⟨w4.heap.size, 1, none⟩) (zn.block w4.heap.size (by omega) (by omega))).trans X1_9
  have X2_10 := (World.cell?_of_block (a := ⟨w4.heap.size, 2, none⟩) (zn.block w4.heap.size (by omega) (by omega))).trans X2_9
  clear X0_9 X1_9 X2_9
  have G0_10 := (World.cell?_of_block (a := ⟨w6.heap.size, 0, none⟩) (zn.block w6.heap.size (by omega) (by omega))).trans G0_9
  have G1_10 := (World.cell?_of_block (a := ⟨w6.heap.size, 1, none⟩) (zn.block w6.heap.size (by omega) (by omega))).trans G1_9
  have G2_10 := (World.cell?_of_block (a := ⟨w6.heap.size, 2, none⟩) (zn.block w6.heap.size (by omega) (by omega))).trans G2_9
  clear G0_9 G1_9 G2_9
  clear zn
  have hkn : decide ((k0 : Int) < 0) = false := by simp
  go_wp2_with fail
  refine (Tab.eqX (N1 := RH) (N2 := RF) F_g_10.is F_w_10.is).mono ?_
  rintro e w11 ⟨rfl, bn⟩
  have c11 := c10.trans (bn.mono c10.size)
  have z11' := bn.size
  have F_w_11 := F_w_10.below bn
  clear F_w_10
  have F_g_11 := F_g_10.below bn
  clear F_g_10
  have A0_11 := (bn.cell (p := ⟨w.heap.size, 0, none⟩) (by show w.heap.size < _; omega)).trans A0_10
  have A1_11 := (bn.cell (p := ⟨w.heap.size, 1, none⟩) (by show w.heap.size < _; omega)).trans A1_10
  have A2_11 := (bn.cell (p := ⟨w.heap.size, 2, none⟩) (by show w.heap.size < _; omega)).trans A2_10
  clear A0_10 A1_10 A2_10
  have V0_11 := (bn.cell (p := ⟨w2.heap.size, 0, none⟩) (by show w2.heap.size < _; omega)).trans V0_10
  have V1_11 := (bn.cell (p := ⟨w2.heap.size, 1, none⟩) (by show w2.heap.size < _; omega)).trans V1_10
  have V2_11 := (bn.cell (p := ⟨w2.heap.size, 2, none⟩) (by show w2.heap.size < _; omega)).trans V2_10
  clear V0_10 V1_10 V2_10
  have X0_11 := (bn.cell (p := ⟨w4.heap.size, 0, none⟩) (by show w4.heap.size < _; omega)).trans X0_10
  have X1_11 := (bn.cell (p := ⟨w4.heap.size, 1, none⟩) (by show w4.heap.size < _; omega)).trans X1_10
  have X2_11 := (bn.cell (p := ⟨w4.heap.size, 2, none⟩) (by show w4.heap.size < _; omega)).trans X2_10
  clear X0_10 X1_10 X2_10
  have G0_11 := (bn.cell (p := ⟨w6.heap.size, 0, none⟩) (by show w6.heap.size < _; omega)).trans G0_10
  have G1_11 := (bn.cell (p := ⟨w6.heap.size, 1, none⟩) (by show w6.heap.size < _; omega)).trans G1_10
  have G2_11 := (bn.cell (p := ⟨w6.heap.size, 2, none⟩) (by show w6.heap.size < _; omega)).trans G2_10
  clear G0_10 G1_10 G2_10
  clear bn
  clear hkn
  go_wp2_with fail
  refine (Tab.markX 1 (by omega) (by omega) (unhide HRL) F_g_11).mono ?_
  rintro e w12 ⟨km, rfl, ekm, on, zn⟩
  clear F_g_11
  have c12 := c11.trans (zn.below (by omega) (by omega))
  have z12' := zn.size
  have F_w_12 := F_w_11.zone zn (by omega)
  clear F_w_11
  have A0_12 := (World.cell?_of_block (a := ⟨w.heap.size, 0, none⟩) (zn.block w.heap.size (by omega) (by omega))).trans A0_11
  have A1_12 := (World.cell?_of_block (a := ⟨w.heap.size, 1, none⟩) (zn.block w.heap.size (by omega) (by omega))).trans A1_11
  have A2_12 := (World.cell?_of_block (a := ⟨w.heap.size, 2, none⟩) (zn.block w.heap.size (by omega) (by omega))).trans A2_11
  clear A0_11 A1_11 A2_11
  have V0_12 := (World.cell?_of_block (a := ⟨w2.heap.size, 0, none⟩) (zn.block w2.heap.size (by omega) (by omega))).trans V0_11
  have V1_12 := (World.cell?_of_block (a := ⟨w2.heap.size, 1, none⟩) (zn.block w2.heap.size (by omega) (by omega))).trans V1_11
  have V2_12 := (World.cell?_of_block (a := ⟨w2.heap.size, 2, none⟩) (zn.block w2.heap.size (by omega) (by omega))).trans V2_11
  clear V0_11 V1_11 V2_11
  have X0_12 := (World.cell?_of_block (a := ⟨w4.heap.size, 0, none⟩) (zn.block w4.heap.size (by omega) (by omega))).trans X0_11
  have X1_12 := (World.cell?_of_block (a := ⟨w4.heap.size, 1, none⟩) (zn.block w4.heap.size (by omega) (by omega))).trans X1_11
  have X2_12 := (World.cell?_of_block (a := ⟨w4.heap.size, 2, none⟩) (zn.block w4.heap.size (by omega) (by omega))).trans X2_11
  clear X0_11 X1_11 X2_11
  have G0_12 := (World.cell?_of_block (a := ⟨w6.heap.size, 0, none⟩) (zn.block w6.heap.size (by omega) (by omega))).trans G0_11
  have G1_12 := (World.cell?_of_block (a := ⟨w6.heap.size, 1, none⟩) (zn.block w6.heap.size (by omega) (by omega))).trans G1_11
  have G2_12 := (World.cell?_of_block (a := ⟨w6.heap.size, 2, none⟩) (zn.block w6.heap.size (by omega) (by omega))).trans G2_11
  clear G0_11 G1_11 G2_11
  have F_g_12 := on
  have HKM := hide ekm
  clear on zn ekm
  go_wp2_with fail
  refine (Tab.heldX 1 (by omega) (by omega) (unhide HRL) F_g_12.is).mono ?_
  rintro e w13 ⟨kq, rfl, ekq, bn⟩
  obtain rfl : kq = km := by rw [ekq, unhide HKM]
  have c13 := c12.trans (bn.mono c12.size)
  have z13' := bn.size
  have F_w_13 := F_w_12.below bn
  clear F_w_12
  have F_g_13 := F_g_12.below bn
  clear F_g_12
  have A0_13 := (bn.cell (p := ⟨w.heap.size, 0, none⟩) (by show w.heap.size < _; omega)).trans A0_12
  have A1_13 := (bn.cell (p := ⟨w.heap.size, 1, none⟩) (by show w.heap.size < _; omega)).trans A1_12
  have A2_13 := (bn.cell (p := ⟨w.heap.size, 2, none⟩) (by show w.heap.size < _; omega)).trans A2_12
  clear A0_12 A1_12 A2_12
  have V0_13 := (bn.cell (p := ⟨w2.heap.size, 0, none⟩) (by show w2.heap.size < _; omega)).trans V0_12
  have V1_13 := (bn.cell (p := ⟨w2.heap.size, 1, none⟩) (by show w2.heap.size < _; omega)).trans V1_12
  have V2_13 := (bn.cell (p := ⟨w2.heap.size, 2, none⟩) (by show w2.heap.size < _; omega)).trans V2_12
  clear V0_12 V1_12 V2_12
  have X0_13 := (bn.cell (p := ⟨w4.heap.size, 0, none⟩) (by show w4.heap.size < _; omega)).trans X0_12
  have X1_13 := (bn.cell (p := ⟨w4.heap.size, 1, none⟩) (by show w4.heap.size < _; omega)).trans X1_12
  have X2_13 := (bn.cell (p := ⟨w4.heap.size, 2, none⟩) (by show w4.heap.size < _; omega)).trans X2_12
  clear X0_12 X1_12 X2_12
  have G0_13 := (bn.cell (p := ⟨w6.heap.size, 0, none⟩) (by show w6.heap.size < _; omega)).trans G0_12
  have G1_13 := (bn.cell (p := ⟨w6.heap.size, 1, none⟩) (by show w6.heap.size < _; omega)).trans G1_12
  have G2_13 := (bn.cell (p := ⟨w6.heap.size, 2, none⟩) (by show w6.heap.size < _; omega)).trans G2_12
  clear G0_12 G1_12 G2_12
  clear bn ekq
  have hkn : decide ((kq : Int) < 0) = false := by simp
  have HKM' := hide (unhide HKM)
  go_wp2_with fail
  refine (unhide HTo0 _ c13).mono ?_
  rintro e w14 ⟨v_b0, rfl, on, bn⟩
  have c14 := c13.trans (bn.mono c13.size)
  have z14' := bn.size
  have F_w_14 := F_w_13.below bn
  clear F_w_13
  have F_g_14 := F_g_13.below bn
  clear F_g_13
  have A0_14 := (bn.cell (p := ⟨w.heap.size, 0, none⟩) (by show w.heap.size < _; omega)).trans A0_13
  have A1_14 := (bn.cell (p := ⟨w.heap.size, 1, none⟩) (by show w.heap.size < _; omega)).trans A1_13
  have A2_14 := (bn.cell (p := ⟨w.heap.size, 2, none⟩) (by show w.heap.size < _; omega)).trans A2_13
  clear A0_13 A1_13 A2_13
  have V0_14 := (bn.cell (p := ⟨w2.heap.size, 0, none⟩) (by show w2.heap.size < _; omega)).trans V0_13
  have V1_14 := (bn.cell (p := ⟨w2.heap.size, 1, none⟩) (by show w2.heap.size < _; omega)).trans V1_13
  have V2_14 := (bn.cell (p := ⟨w2.heap.size, 2, none⟩) (by show w2.heap.size < _; omega)).trans V2_13
  clear V0_13 V1_13 V2_13
  have X0_14 := (bn.cell (p := ⟨w4.heap.size, 0, none⟩) (by show w4.heap.size < _; omega)).trans X0_13
  have X1_14 := (bn.cell (p := ⟨w4.heap.size, 1, none⟩) (by show w4.heap.size < _; omega)).trans X1_13
  have X2_14 := (bn.cell (p := ⟨w4.heap.size, 2, none⟩) (by show w4.heap.size < _; omega)).trans X2_13
  clear X0_13 X1_13 X2_13
  have G0_14 := (bn.cell (p := ⟨w6.heap.size, 0, none⟩) (by show w6.heap.size < _; omega)).trans G0_13
  have G1_14 := (bn.cell (p := ⟨w6.heap.size, 1, none⟩) (by show w6.heap.size < _; omega)).trans G1_13
  have G2_14 := (bn.cell (p := ⟨w6.heap.size, 2, none⟩) (by show w6.heap.size < _; omega)).trans G2_13
  clear G0_13 G1_13 G2_13
  obtain ⟨a_b0, l_b0, q_b0, rfl⟩ := Row.Own.form on
  have F_b0_14 := on
  clear on bn
  go_wp2_with fail
  have Q := hide (Tab.impl_keep a1 H F (Tab.wf_le (by assumption)) F_b0_14.is (unhide HG0) (unhide HM0))
  rw [← unhide HRZ] at Q
  simp only at Q
  refine (unhide Q).mono ?_
  rintro e w15 ⟨v_h, rfl, on0, bn⟩
  have on := on0
  clear on0 Q
  have c15 := c14.trans (bn.mono c14.size)
  have z15' := bn.size
  have F_w_15 := F_w_14.below bn
  clear F_w_14
  have F_g_15 := F_g_14.below bn
  clear F_g_14
  have F_b0_15 := F_b0_14.below bn
  clear F_b0_14
  have A0_15 := (bn.cell (p := ⟨w.heap.size, 0, none⟩) (by show w.heap.size < _; omega)).trans A0_14
  have A1_15 := (bn.cell (p := ⟨w.heap.size, 1, none⟩) (by show w.heap.size < _; omega)).trans A1_14
  have A2_15 := (bn.cell (p := ⟨w.heap.size, 2, none⟩) (by show w.heap.size < _; omega)).trans A2_14
  clear A0_14 A1_14 A2_14
  have V0_15 := (bn.cell (p := ⟨w2.heap.size, 0, none⟩) (by show w2.heap.size < _; omega)).trans V0_14
  have V1_15 := (bn.cell (p := ⟨w2.heap.size, 1, none⟩) (by show w2.heap.size < _; omega)).trans V1_14
  have V2_15 := (bn.cell (p := ⟨w2.heap.size, 2, none⟩) (by show w2.heap.size < _; omega)).trans V2_14
  clear V0_14 V1_14 V2_14
  have X0_15 := (bn.cell (p := ⟨w4.heap.size, 0, none⟩) (by show w4.heap.size < _; omega)).trans X0_14
  have X1_15 := (bn.cell (p := ⟨w4.heap.size, 1, none⟩) (by show w4.heap.size < _; omega)).trans X1_14
  have X2_15 := (bn.cell (p := ⟨w4.heap.size, 2, none⟩) (by show w4.heap.size < _; omega)).trans X2_14
  clear X0_14 X1_14 X2_14
  have G0_15 := (bn.cell (p := ⟨w6.heap.size, 0, none⟩) (by show w6.heap.size < _; omega)).trans G0_14
  have G1_15 := (bn.cell (p := ⟨w6.heap.size, 1, none⟩) (by show w6.heap.size < _; omega)).trans G1_14
  have G2_15 := (bn.cell (p := ⟨w6.heap.size, 2, none⟩) (by show w6.heap.size < _; omega)).trans G2_14
  clear G0_14 G1_14 G2_14
  obtain ⟨a_h, l_h, q_h, rfl⟩ := Row.Own.form on
  have F_h_15 := on
  clear on bn
  obtain ⟨w16, hw16⟩ : ∃ w', w' = w15.alloc (.cells #[.slice a_h l_h q_h, .int .i64 RH, .int .i64 RF] 28) := ⟨_, rfl⟩
  have bn : Below w15.heap.size w15 w16 := by rw [hw16]; exact (Below.refl _ _).alloc (Nat.le_refl _) _
  have zz16 : w15.heap.size < w16.heap.size := by rw [hw16]; simp
  have Y0_16 : w16.cell? ⟨w15.heap.size, 0, none⟩ = some (.slice a_h l_h q_h) := by rw [hw16]; simp [go_sem]
  have Y1_16 : w16.cell? ⟨w15.heap.size, 1, none⟩ = some (.int .i64 RH) := by rw [hw16]; simp [go_sem]
  have Y2_16 : w16.cell? ⟨w15.heap.size, 2, none⟩ = some (.int .i64 RF) := by rw [hw16]; simp [go_sem]
  have c16 := c15.trans (bn.mono c15.size)
  have z16' := bn.size
  have F_w_16 := F_w_15.below bn
  clear F_w_15
  have F_g_16 := F_g_15.below bn
  clear F_g_15
  have F_b0_16 := F_b0_15.below bn
  clear F_b0_15
  have F_h_16 := F_h_15.below bn
  clear F_h_15
  have A0_16 := (bn.cell (p := ⟨w.heap.size, 0, none⟩) (by show w.heap.size < _; omega)).trans A0_15
  have A1_16 := (bn.cell (p := ⟨w.heap.size, 1, none⟩) (by show w.heap.size < _; omega)).trans A1_15
  have A2_16 := (bn.cell (p := ⟨w.heap.size, 2, none⟩) (by show w.heap.size < _; omega)).trans A2_15
  clear A0_15 A1_15 A2_15
  have V0_16 := (bn.cell (p := ⟨w2.heap.size, 0, none⟩) (by show w2.heap.size < _; omega)).trans V0_15
  have V1_16 := (bn.cell (p := ⟨w2.heap.size, 1, none⟩) (by show w2.heap.size < _; omega)).trans V1_15
  have V2_16 := (bn.cell (p := ⟨w2.heap.size, 2, none⟩) (by show w2.heap.size < _; omega)).trans V2_15
  clear V0_15 V1_15 V2_15
  have X0_16 := (bn.cell (p := ⟨w4.heap.size, 0, none⟩) (by show w4.heap.size < _; omega)).trans X0_15
  have X1_16 := (bn.cell (p := ⟨w4.heap.size, 1, none⟩) (by show w4.heap.size < _; omega)).trans X1_15
  have X2_16 := (bn.cell (p := ⟨w4.heap.size, 2, none⟩) (by show w4.heap.size < _; omega)).trans X2_15
  clear X0_15 X1_15 X2_15
  have G0_16 := (bn.cell (p := ⟨w6.heap.size, 0, none⟩) (by show w6.heap.size < _; omega)).trans G0_15
  have G1_16 := (bn.cell (p := ⟨w6.heap.size, 1, none⟩) (by show w6.heap.size < _; omega)).trans G1_15
  have G2_16 := (bn.cell (p := ⟨w6.heap.size, 2, none⟩) (by show w6.heap.size < _; omega)).trans G2_15
  clear G0_15 G1_15 G2_15
  clear bn
  have hs16 := hw16.symm
  clear hw16
  clear F_b0_16
  go_wp2_with fail
  try rw [hs16]
  clear hs16
  refine (Tab.eqX (N1 := RH) (N2 := RF) F_h_16.is F_w_16.is).mono ?_
  rintro e w17 ⟨rfl, bn⟩
  have c17 := c16.trans (bn.mono c16.size)
  have z17' := bn.size
  have F_w_17 := F_w_16.below bn
  clear F_w_16
  have F_g_17 := F_g_16.below bn
  clear F_g_16
  have F_h_17 := F_h_16.below bn
  clear F_h_16
  have A0_17 := (bn.cell (p := ⟨w.heap.size, 0, none⟩) (by show w.heap.size < _; omega)).trans A0_16
  have A1_17 := (bn.cell (p := ⟨w.heap.size, 1, none⟩) (by show w.heap.size < _; omega)).trans A1_16
  have A2_17 := (bn.cell (p := ⟨w.heap.size, 2, none⟩) (by show w.heap.size < _; omega)).trans A2_16
  clear A0_16 A1_16 A2_16
  have V0_17 := (bn.cell (p := ⟨w2.heap.size, 0, none⟩) (by show w2.heap.size < _; omega)).trans V0_16
  have V1_17 := (bn.cell (p := ⟨w2.heap.size, 1, none⟩) (by show w2.heap.size < _; omega)).trans V1_16
  have V2_17 := (bn.cell (p := ⟨w2.heap.size, 2, none⟩) (by show w2.heap.size < _; omega)).trans V2_16
  clear V0_16 V1_16 V2_16
  have X0_17 := (bn.cell (p := ⟨w4.heap.size, 0, none⟩) (by show w4.heap.size < _; omega)).trans X0_16
  have X1_17 := (bn.cell (p := ⟨w4.heap.size, 1, none⟩) (by show w4.heap.size < _; omega)).trans X1_16
  have X2_17 := (bn.cell (p := ⟨w4.heap.size, 2, none⟩) (by show w4.heap.size < _; omega)).trans X2_16
  clear X0_16 X1_16 X2_16
  have G0_17 := (bn.cell (p := ⟨w6.heap.size, 0, none⟩) (by show w6.heap.size < _; omega)).trans G0_16
  have G1_17 := (bn.cell (p := ⟨w6.heap.size, 1, none⟩) (by show w6.heap.size < _; omega)).trans G1_16
  have G2_17 := (bn.cell (p := ⟨w6.heap.size, 2, none⟩) (by show w6.heap.size < _; omega)).trans G2_16
  clear G0_16 G1_16 G2_16
  have Y0_17 := (bn.cell (p := ⟨w15.heap.size, 0, none⟩) (by show w15.heap.size < _; omega)).trans Y0_16
  have Y1_17 := (bn.cell (p := ⟨w15.heap.size, 1, none⟩) (by show w15.heap.size < _; omega)).trans Y1_16
  have Y2_17 := (bn.cell (p := ⟨w15.heap.size, 2, none⟩) (by show w15.heap.size < _; omega)).trans Y2_16
  clear Y0_16 Y1_16 Y2_16
  clear bn
  clear F_h_17
  go_wp2_with fail
  refine (Tab.heldX 1 (by omega) (by omega) (unhide HRL) F_g_17.is).mono ?_
  rintro e w18 ⟨kr, rfl, ekr, bn⟩
  obtain rfl : kr = kq := by rw [ekr, unhide HKM']
  have c18 := c17.trans (bn.mono c17.size)
  have z18' := bn.size
  have F_w_18 := F_w_17.below bn
  clear F_w_17
  have F_g_18 := F_g_17.below bn
  clear F_g_17
  have A0_18 := (bn.cell (p := ⟨w.heap.size, 0, none⟩) (by show w.heap.size < _; omega)).trans A0_17
  have A1_18 := (bn.cell (p := ⟨w.heap.size, 1, none⟩) (by show w.heap.size < _; omega)).trans A1_17
  have A2_18 := (bn.cell (p := ⟨w.heap.size, 2, none⟩) (by show w.heap.size < _; omega)).trans A2_17
  clear A0_17 A1_17 A2_17
  have V0_18 := (bn.cell (p := ⟨w2.heap.size, 0, none⟩) (by show w2.heap.size < _; omega)).trans V0_17
  have V1_18 := (bn.cell (p := ⟨w2.heap.size, 1, none⟩) (by show w2.heap.size < _; omega)).trans V1_17
  have V2_18 := (bn.cell (p := ⟨w2.heap.size, 2, none⟩) (by show w2.heap.size < _; omega)).trans V2_17
  clear V0_17 V1_17 V2_17
  have X0_18 := (bn.cell (p := ⟨w4.heap.size, 0, none⟩) (by show w4.heap.size < _; omega)).trans X0_17
  have X1_18 := (bn.cell (p := ⟨w4.heap.size, 1, none⟩) (by show w4.heap.size < _; omega)).trans X1_17
  have X2_18 := (bn.cell (p := ⟨w4.heap.size, 2, none⟩) (by show w4.heap.size < _; omega)).trans X2_17
  clear X0_17 X1_17 X2_17
  have G0_18 := (bn.cell (p := ⟨w6.heap.size, 0, none⟩) (by show w6.heap.size < _; omega)).trans G0_17
  have G1_18 := (bn.cell (p := ⟨w6.heap.size, 1, none⟩) (by show w6.heap.size < _; omega)).trans G1_17
  have G2_18 := (bn.cell (p := ⟨w6.heap.size, 2, none⟩) (by show w6.heap.size < _; omega)).trans G2_17
  clear G0_17 G1_17 G2_17
  have Y0_18 := (bn.cell (p := ⟨w15.heap.size, 0, none⟩) (by show w15.heap.size < _; omega)).trans Y0_17
  have Y1_18 := (bn.cell (p := ⟨w15.heap.size, 1, none⟩) (by show w15.heap.size < _; omega)).trans Y1_17
  have Y2_18 := (bn.cell (p := ⟨w15.heap.size, 2, none⟩) (by show w15.heap.size < _; omega)).trans Y2_17
  clear Y0_17 Y1_17 Y2_17
  clear bn ekr
  have hkn' : decide ((kr : Int) < 0) = false := by simp
  go_wp2_with fail
  go_ret
  exact ⟨rfl, c18⟩
end Go.Proofs.YtdggffcibcggoaaGreat
