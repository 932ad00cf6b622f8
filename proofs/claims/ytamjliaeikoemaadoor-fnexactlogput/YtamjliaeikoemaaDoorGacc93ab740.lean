/- My own texts of one claim, laid together by program: LogPut3, FnExactLogPutWalk, LaidDrop. -/
import Derived.Test.YtamjliaeikoemaaDoorGeabb3e326c
import Derived.Test.YtamjliaeikoemaaDoorG9087951762
import Derived.Test.YtamjliaeikoemaaDoorRows
import Derived.Lib.LaidTab
import Derived.Lib.LaidIn
/- LogPut of the program, at every number and record. What it asks: the library's table of powers of ten as its text lays it. -/
namespace Go.Proofs.YtamjliaeikoemaaDoor.Rec
open Go.RowKit Rw PutMath Dec
set_option linter.unusedVariables false
set_option linter.unusedSimpArgs false
attribute [local go_sem ↓] Go.wp_at_zero Go.wp_at_succ
set_option maxRecDepth 100000 in
set_option maxHeartbeats 8000000 in
theorem impl_log {w : World} {vb vl : Value} {zb : List Ent.E} {zl : List Mat.E} (n K F T : Int) (hb : Ent.Is w vb zb) (hl : Mat.Is w vl zl) (gb : ∀ y ∈ zb, Ent.good y) (gl : ∀ y ∈ zl, Mat.good y) (ll : zl.length ≤ maxLen) (ht : Tb w) :
    Calls Tryd.prog 11 #[.int .i64 n, .agg #[.int .i64 K, vb, vl, .int .i64 F, .int .i64 T]] w fun e w' => e = .returned (.string (logT n (K, zb, zl, F, T))) ∧ Below w.heap.size w w' := by
  have CO := hide (fun W (hB : Below w.heap.size w W) => impl_ok K F T (hb.below hB) (hl.below hB) gb gl ll)
  have CT := hide (fun W (hB : Below w.heap.size w W) (h : recB (K, zb, zl, F, T) = true) => show Calls Tryd.prog 8 #[.agg #[.int .i64 K, vb, vl, .int .i64 F, .int .i64 T]] W fun e w' => e = .returned (.string (textR (K, zb, zl, F, T))) ∧ Below W.heap.size W w' from by rw [← put_yes h]; exact impl_put K F T (hb.below hB) (hl.below hB) gb gl ll (ht.below hB))
  have CI := hide (fun (m : Int) W (hB : Below w.heap.size w W) (h0 : 0 ≤ m) (h1 : m ≤ 4294967296) => itoa_int (n := m) W h0 h1 (ht.below hB))
  clear hb hl gb gl ll ht
  obtain ⟨rb, hrb⟩ : ∃ rb, rb = recB (K, zb, zl, F, T) := ⟨_, rfl⟩
  rw [← hrb] at CO CT
  obtain ⟨wa, hwa⟩ : ∃ wa, wa = w.alloc (.cells #[.int .i64 K, vb, vl, .int .i64 F, .int .i64 T] 31) := ⟨_, rfl⟩
  have B : Below w.heap.size w wa := by rw [hwa]; exact (Below.refl _ _).alloc (Nat.le_refl _) _
  have za : w.heap.size < wa.heap.size := by rw [hwa]; simp
  have A0 : wa.cell? ⟨w.heap.size, 0, none⟩ = some (.int .i64 K) := by rw [hwa]; simp [go_sem]
  have A1 : wa.cell? ⟨w.heap.size, 1, none⟩ = some vb := by rw [hwa]; simp [go_sem]
  have A2 : wa.cell? ⟨w.heap.size, 2, none⟩ = some vl := by rw [hwa]; simp [go_sem]
  have A3 : wa.cell? ⟨w.heap.size, 3, none⟩ = some (.int .i64 F) := by rw [hwa]; simp [go_sem]
  have A4 : wa.cell? ⟨w.heap.size, 4, none⟩ = some (.int .i64 T) := by rw [hwa]; simp [go_sem]
  have CN := hide (fun (h : recB (K, zb, zl, F, T) = false ∨ n < 0 ∨ 9999 < n) => log_no h)
  have CY := hide (fun (h : recB (K, zb, zl, F, T) = true) (h0 : 0 ≤ n) (h1 : n ≤ 9999) => log_yes h h0 h1)
  have CS := hide (fun (h : recB (K, zb, zl, F, T) = true) => text_size h)
  rw [← hrb] at CN CY CS
  clear hrb
  generalize textR (K, zb, zl, F, T) = S at CT CY CS
  cases rb
  · have HR := hide (unhide CN (.inl rfl))
    clear CT CN CY CS CI
    go_enter Tryd.func11, Tryd.ntmps11
    go_wp2_with fail
    rw [← hwa]
    clear hwa
    refine (unhide CO _ B).mono ?_
    rintro e w1 ⟨rfl, b1⟩
    have B1 := B.trans (b1.mono B.size)
    go_wp2_with fail
    go_ret
    exact ⟨ret_dec (unhide HR), B1⟩
  by_cases hr : n < 0
  · have HR := hide (unhide CN (.inr (.inl hr)))
    clear CT CN CY CS CI
    go_enter Tryd.func11, Tryd.ntmps11
    go_wp2_with fail
    rw [← hwa]
    clear hwa
    refine (unhide CO _ B).mono ?_
    rintro e w1 ⟨rfl, b1⟩
    have B1 := B.trans (b1.mono B.size)
    go_wp2_with fail
    go_ret
    exact ⟨ret_dec (unhide HR), B1⟩
  have hrf : decide (n < 0) = false := by simp; omega
  by_cases hr2 : 9999 < n
  · have HR := hide (unhide CN (.inr (.inr hr2)))
    clear CT CN CY CS CI
    go_enter Tryd.func11, Tryd.ntmps11
    go_wp2_with fail
    rw [← hwa]
    clear hwa
    refine (unhide CO _ B).mono ?_
    rintro e w1 ⟨rfl, b1⟩
    have B1 := B.trans (b1.mono B.size)
    go_wp2_with fail
    go_ret
    exact ⟨ret_dec (unhide HR), B1⟩
  have hrg : decide (9999 < n) = false := by simp; omega
  have n0 : 0 ≤ n := by omega
  have n1 : n ≤ 9999 := by omega
  have HR := hide (unhide CY rfl n0 n1)
  have hs := unhide CS rfl
  have CT2 := hide (fun (W : World) (hB : Below w.heap.size w W) => unhide CT W hB rfl)
  have HN := hide (fun (W : World) (hB : Below w.heap.size w W) => unhide CI n W hB n0 (by omega))
  have HL := hide (fun (W : World) (hB : Below w.heap.size w W) => unhide CI (S.size : Int) W hB (by omega) (by omega))
  have HC := hide (fun (W : World) (hB : Below w.heap.size w W) => unhide CI (sumOf n S : Int) W hB (by omega) (by have := crc_small (bare n S).data.toList; unfold sumOf; omega))
  have hNs := ofI_size (n := n) (by omega)
  have hLs := ofI_size (n := (S.size : Int)) (by omega)
  have hCs := ofI_size (n := (sumOf n S : Int)) (by have := crc_small (bare n S).data.toList; unfold sumOf; omega)
  have HEq := hide (show line n S = ofI n ++ sp ++ ofI (S.size : Int) ++ sp ++ S ++ sp ++ ofI (sumOf n S : Int) ++ ⟨#[10]⟩ from rfl)
  have HS0 := hide (fun W => Crc.impl_crc (bare n S) W (bare_size n1 hs))
  obtain ⟨X, hX⟩ : ∃ X, X = sumOf n S := ⟨_, rfl⟩
  have HS := hide (fun W => show Calls Tryd.prog 26 #[.string (ofI n ++ sp ++ S)] W fun e w' => e = .returned (.int .i64 (X : Int)) ∧ w' = W by rw [hX]; exact unhide HS0 W)
  rw [← hX] at HC hCs HEq
  clear hX HS0
  generalize line n S = R at HR HEq
  generalize ofI (X : Int) = C at HC hCs HEq
  generalize ofI (S.size : Int) = L at HL hLs HEq
  generalize ofI n = N at HN hNs HEq HS
  obtain ⟨A1', A2', A3', A4', A5', A6', A7', hA7, s1, s2, s3, s4, s5, s6, s7, s8⟩ := sums3 hNs hLs hs hCs
  rw [← hA7] at HEq
  clear hA7 hNs hLs hCs CT CN CY CS CI hr hr2 n0 n1
  generalize N ++ sp ++ S = U at HS s8
  go_enter Tryd.func11, Tryd.ntmps11
  go_wp2_with fail
  rw [← hwa]
  clear hwa
  refine (unhide CO _ B).mono ?_
  rintro e w1 ⟨rfl, b1⟩
  have hz := b1.size
  have A0 := (b1.cell (p := ⟨w.heap.size, 0, none⟩) (by show w.heap.size < _; omega)).trans A0
  have A1 := (b1.cell (p := ⟨w.heap.size, 1, none⟩) (by show w.heap.size < _; omega)).trans A1
  have A2 := (b1.cell (p := ⟨w.heap.size, 2, none⟩) (by show w.heap.size < _; omega)).trans A2
  have A3 := (b1.cell (p := ⟨w.heap.size, 3, none⟩) (by show w.heap.size < _; omega)).trans A3
  have A4 := (b1.cell (p := ⟨w.heap.size, 4, none⟩) (by show w.heap.size < _; omega)).trans A4
  have B1 := B.trans (b1.mono B.size)
  have hz : w.heap.size < w1.heap.size := by omega
  clear b1 CO B
  have eD : Below w1.heap.size w1 w1.drew := (Below.refl _ _).drew
  have HB := hide (fun (Y : World) (h : Below w1.heap.size w1 Y) => B1.trans (h.mono B1.size))
  have HK := hide (fun (X : World) (h : Below w1.heap.size w1 X) => show X.cell? ⟨w.heap.size, 0, none⟩ = some (.int .i64 K) ∧ X.cell? ⟨w.heap.size, 1, none⟩ = some vb ∧ X.cell? ⟨w.heap.size, 2, none⟩ = some vl ∧ X.cell? ⟨w.heap.size, 3, none⟩ = some (.int .i64 F) ∧ X.cell? ⟨w.heap.size, 4, none⟩ = some (.int .i64 T) from ⟨(h.cell (p := ⟨_, _, none⟩) hz).trans A0, (h.cell (p := ⟨_, _, none⟩) hz).trans A1, (h.cell (p := ⟨_, _, none⟩) hz).trans A2, (h.cell (p := ⟨_, _, none⟩) hz).trans A3, (h.cell (p := ⟨_, _, none⟩) hz).trans A4⟩)
  obtain ⟨d0, d1, d2, d3, d4⟩ := unhide HK _ eD
  go_wp2_with fail
  go_region_with ((first | (go_at_call 21; refine (unhide HN _ (unhide HB _ eD)).mono ?_; rintro e x1 ⟨rfl, y1⟩; have e1 := eD.trans (y1.mono eD.size); obtain ⟨r0, r1, r2, r3, r4⟩ := unhide HK _ e1) | (go_at_call 8; refine (unhide CT2 _ (unhide HB _ e1)).mono ?_; rintro e x2 ⟨rfl, y2⟩; have e2 := e1.trans (y2.mono e1.size))))
  all_goals (
    have w2' := unhide HB _ e2
    clear HK HB HN CT2
    go_wp2_with fail
    refine (unhide HS _).mono ?_
    rintro e w3 ⟨rfl, rfl⟩
    go_wp2_with fail
    refine (unhide HL _ w2').mono ?_
    rintro e w4 ⟨rfl, b4⟩
    have w4' := w2'.trans (b4.mono w2'.size)
    go_wp2_with fail
    refine (unhide HC _ w4').mono ?_
    rintro e w5 ⟨rfl, b5⟩
    have w5' := w4'.trans (b5.mono w4'.size)
    go_wp2_with fail
    go_ret
    exact ⟨ret_dec ((unhide HR).trans (unhide HEq)), w5'⟩)
end Go.Proofs.YtamjliaeikoemaaDoor.Rec

/- FnExactLogPut returns true at every number and record, where the library's table of powers of ten lies as its text lays it. -/
namespace Go.Proofs.YtamjliaeikoemaaDoor
open Go.RowKit Rw
set_option linter.unusedVariables false
set_option maxRecDepth 100000 in
set_option maxHeartbeats 8000000 in
theorem fnExactLogPut.walk (nn : Int) (c : Rec.C) (x : Rec.E) (w : World) (w0 : Rec.Elem w c x ∧ Rec.good x) (tab : Dec.Tb w) :
    Calls Tryd.prog 4 #[.int .i64 nn, .agg #[c.1, c.2.1, c.2.2.1, c.2.2.2.1, c.2.2.2.2]] w fun e w' => e = .returned (.bool true) ∧ Below w.heap.size w w' := by
  have HTab := hide tab
  clear tab
  obtain ⟨hE, hG⟩ := w0
  obtain ⟨cv0, cv1, cv2, cv3, cv4⟩ := c
  have hF := hE
  obtain ⟨e0, -, -, e3, e4⟩ := hF
  simp only at e0 e3 e4
  subst e0
  subst e3
  subst e4
  obtain ⟨N0, hN0⟩ : ∃ N, N = x.1 := ⟨_, rfl⟩
  obtain ⟨N3, hN3⟩ : ∃ N, N = x.2.2.2.1 := ⟨_, rfl⟩
  obtain ⟨N4, hN4⟩ : ∃ N, N = x.2.2.2.2 := ⟨_, rfl⟩
  rw [← hN0, ← hN3, ← hN4] at hE
  simp only [← hN0, ← hN3, ← hN4]
  have HN0 := hide hN0
  have HN3 := hide hN3
  have HN4 := hide hN4
  clear hN0 hN3 hN4
  have HS := hide (fun W (hB : Below w.heap.size w W) => Rec.sz_one (c := (.int .i64 N0, cv1, cv2, .int .i64 N3, .int .i64 N4)) (x := x) 1048576 (hE.below hB) hG (by omega) (by omega))
  obtain ⟨wa, hwa⟩ : ∃ wa, wa = w.alloc (.cells #[.int .i64 N0, cv1, cv2, .int .i64 N3, .int .i64 N4] 25) := ⟨_, rfl⟩
  have B : Below w.heap.size w wa := by rw [hwa]; exact (Below.refl _ _).alloc (Nat.le_refl _) _
  have za : w.heap.size < wa.heap.size := by rw [hwa]; simp
  have A0 : wa.cell? ⟨w.heap.size, 0, none⟩ = some (.int .i64 N0) ∧ wa.cell? ⟨w.heap.size, 1, none⟩ = some (cv1) ∧ wa.cell? ⟨w.heap.size, 2, none⟩ = some (cv2) ∧ wa.cell? ⟨w.heap.size, 3, none⟩ = some (.int .i64 N3) ∧ wa.cell? ⟨w.heap.size, 4, none⟩ = some (.int .i64 N4) := by rw [hwa]; refine ⟨?_, ?_, ?_, ?_, ?_⟩ <;> simp [go_sem]
  by_cases hb : (1048576 : Int) - (Rec.tot x : Int) < 0
  · clear hE hG
    obtain ⟨a0, a1, a2, a3, a4⟩ := A0
    go_enter Tryd.func4, Tryd.ntmps4
    go_wp2_with fail
    rw [← hwa]
    clear hwa
    refine (unhide HS _ B).mono ?_
    rintro e w1 ⟨rfl, b1⟩
    rw [if_pos hb]
    have b2 := B.trans (b1.mono B.size)
    go_wp2_with fail
    go_ret
    exact ⟨rfl, b2⟩
  have tn : Rec.tiny x := ⟨Ent.tiny_of (by unfold Rec.tot at hb; omega), by have := Mat.tot_len x.2.2.1; unfold Rec.tot at hb; omega⟩
  have HTo := hide (fun W (hB : Below w.heap.size w W) => Rec.to_one (c := (.int .i64 N0, cv1, cv2, .int .i64 N3, .int .i64 N4)) (x := x) (hE.below hB) tn)
  have HG := hide hG
  clear hE hG tn
  obtain ⟨a0, a1, a2, a3, a4⟩ := A0
  go_enter Tryd.func4, Tryd.ntmps4
  go_wp2_with fail
  rw [← hwa]
  clear hwa
  refine (unhide HS _ B).mono ?_
  rintro e w1 ⟨rfl, b1⟩
  rw [if_neg (show ¬ (1048576 : Int) - (Rec.tot x : Int) < 0 by omega)]
  have hnn : decide ((1048576 : Int) - (Rec.tot x : Int) < 0) = false := by simp; omega
  have a0_1 := (b1.cell (p := ⟨w.heap.size, 0, none⟩) (by show w.heap.size < _; omega)).trans a0
  have a1_1 := (b1.cell (p := ⟨w.heap.size, 1, none⟩) (by show w.heap.size < _; omega)).trans a1
  have a2_1 := (b1.cell (p := ⟨w.heap.size, 2, none⟩) (by show w.heap.size < _; omega)).trans a2
  have a3_1 := (b1.cell (p := ⟨w.heap.size, 3, none⟩) (by show w.heap.size < _; omega)).trans a3
  have a4_1 := (b1.cell (p := ⟨w.heap.size, 4, none⟩) (by show w.heap.size < _; omega)).trans a4
  have z1 := b1.size
  have c1 := B.trans (b1.mono B.size)
  clear b1 a0 a1 a2 a3 a4
  go_wp2_with fail
  clear hnn hb
  refine (unhide HTo _ c1).mono ?_
  rintro e w2 ⟨⟨f0, f1, f2, f3, f4⟩, rfl, hD, b2⟩
  obtain ⟨e0, kf1, kf2, e3, e4⟩ := hD
  simp only at e0 e3 e4 kf1 kf2 ⊢
  rw [← unhide HN0] at e0
  subst e0
  rw [← unhide HN3] at e3
  subst e3
  rw [← unhide HN4] at e4
  subst e4
  have a0_2 := (b2.cell (p := ⟨w.heap.size, 0, none⟩) (by show w.heap.size < _; omega)).trans a0_1
  have a1_2 := (b2.cell (p := ⟨w.heap.size, 1, none⟩) (by show w.heap.size < _; omega)).trans a1_1
  have a2_2 := (b2.cell (p := ⟨w.heap.size, 2, none⟩) (by show w.heap.size < _; omega)).trans a2_1
  have a3_2 := (b2.cell (p := ⟨w.heap.size, 3, none⟩) (by show w.heap.size < _; omega)).trans a3_1
  have a4_2 := (b2.cell (p := ⟨w.heap.size, 4, none⟩) (by show w.heap.size < _; omega)).trans a4_1
  have z2 := b2.size
  have c2 := c1.trans (b2.mono c1.size)
  clear b2 a0_1 a1_1 a2_1 a3_1 a4_1
  go_wp2_with fail
  refine (Rec.spec_log nn N0 N3 N4 kf1 kf2 (unhide HG).2.1.2 (unhide HG).2.2.1.2 (unhide HG).2.2.1.1).mono ?_
  rintro e w3 ⟨rfl, b3⟩
  have a0_3 := (b3.cell (p := ⟨w.heap.size, 0, none⟩) (by show w.heap.size < _; omega)).trans a0_2
  have a1_3 := (b3.cell (p := ⟨w.heap.size, 1, none⟩) (by show w.heap.size < _; omega)).trans a1_2
  have a2_3 := (b3.cell (p := ⟨w.heap.size, 2, none⟩) (by show w.heap.size < _; omega)).trans a2_2
  have a3_3 := (b3.cell (p := ⟨w.heap.size, 3, none⟩) (by show w.heap.size < _; omega)).trans a3_2
  have a4_3 := (b3.cell (p := ⟨w.heap.size, 4, none⟩) (by show w.heap.size < _; omega)).trans a4_2
  have z3 := b3.size
  have c3 := c2.trans (b3.mono c2.size)
  clear b3 a0_2 a1_2 a2_2 a3_2 a4_2 kf1 kf2
  go_wp2_with fail
  refine (unhide HTo _ c3).mono ?_
  rintro e w4 ⟨⟨g0, g1, g2, g3, g4⟩, rfl, hD, b4⟩
  obtain ⟨e0, kg1, kg2, e3, e4⟩ := hD
  simp only at e0 e3 e4 kg1 kg2 ⊢
  rw [← unhide HN0] at e0
  subst e0
  rw [← unhide HN3] at e3
  subst e3
  rw [← unhide HN4] at e4
  subst e4
  obtain ⟨ga1, gl1, gq1, rfl⟩ : ∃ a l q, g1 = .slice a l q := by first | (obtain ⟨a, q, e, -⟩ := kg1.form; exact ⟨a, _, q, e⟩) | (obtain ⟨cs, -, hL, -⟩ := kg1; obtain ⟨a, q, e, -⟩ := hL.form; exact ⟨a, _, q, e⟩)
  obtain ⟨ga2, gl2, gq2, rfl⟩ : ∃ a l q, g2 = .slice a l q := by first | (obtain ⟨a, q, e, -⟩ := kg2.form; exact ⟨a, _, q, e⟩) | (obtain ⟨cs, -, hL, -⟩ := kg2; obtain ⟨a, q, e, -⟩ := hL.form; exact ⟨a, _, q, e⟩)
  have a0_4 := (b4.cell (p := ⟨w.heap.size, 0, none⟩) (by show w.heap.size < _; omega)).trans a0_3
  have a1_4 := (b4.cell (p := ⟨w.heap.size, 1, none⟩) (by show w.heap.size < _; omega)).trans a1_3
  have a2_4 := (b4.cell (p := ⟨w.heap.size, 2, none⟩) (by show w.heap.size < _; omega)).trans a2_3
  have a3_4 := (b4.cell (p := ⟨w.heap.size, 3, none⟩) (by show w.heap.size < _; omega)).trans a3_3
  have a4_4 := (b4.cell (p := ⟨w.heap.size, 4, none⟩) (by show w.heap.size < _; omega)).trans a4_3
  have z4 := b4.size
  have c4 := c3.trans (b4.mono c3.size)
  clear b4 a0_3 a1_3 a2_3 a3_3 a4_3
  obtain ⟨w5, hw5⟩ : ∃ w5, w5 = w4.alloc (.cells #[.int .i64 N0, .slice ga1 gl1 gq1, .slice ga2 gl2 gq2, .int .i64 N3, .int .i64 N4] 31) := ⟨_, rfl⟩
  have b5 : Below w4.heap.size w4 w5 := by rw [hw5]; exact (Below.refl _ _).alloc (Nat.le_refl _) _
  have z5 : w4.heap.size < w5.heap.size := by rw [hw5]; simp
  have d0 : w5.cell? ⟨w4.heap.size, 0, none⟩ = some (.int .i64 N0) := by rw [hw5]; simp [go_sem]
  have d1 : w5.cell? ⟨w4.heap.size, 1, none⟩ = some (.slice ga1 gl1 gq1) := by rw [hw5]; simp [go_sem]
  have d2 : w5.cell? ⟨w4.heap.size, 2, none⟩ = some (.slice ga2 gl2 gq2) := by rw [hw5]; simp [go_sem]
  have d3 : w5.cell? ⟨w4.heap.size, 3, none⟩ = some (.int .i64 N3) := by rw [hw5]; simp [go_sem]
  have d4 : w5.cell? ⟨w4.heap.size, 4, none⟩ = some (.int .i64 N4) := by rw [hw5]; simp [go_sem]
  have a0_5 := (b5.cell (p := ⟨w.heap.size, 0, none⟩) (by show w.heap.size < _; omega)).trans a0_4
  have a1_5 := (b5.cell (p := ⟨w.heap.size, 1, none⟩) (by show w.heap.size < _; omega)).trans a1_4
  have a2_5 := (b5.cell (p := ⟨w.heap.size, 2, none⟩) (by show w.heap.size < _; omega)).trans a2_4
  have a3_5 := (b5.cell (p := ⟨w.heap.size, 3, none⟩) (by show w.heap.size < _; omega)).trans a3_4
  have a4_5 := (b5.cell (p := ⟨w.heap.size, 4, none⟩) (by show w.heap.size < _; omega)).trans a4_4
  have c5 := c4.trans (b5.mono c4.size)
  have kh1 := kg1.below b5
  have kh2 := kg2.below b5
  clear b5 a0_4 a1_4 a2_4 a3_4 a4_4 kg1 kg2
  go_wp2_with fail
  rw [← hw5]
  clear hw5
  refine (Rec.impl_log nn N0 N3 N4 kh1 kh2 (unhide HG).2.1.2 (unhide HG).2.2.1.2 (unhide HG).2.2.1.1 ((unhide HTab).below c5)).mono ?_
  rintro e w6 ⟨rfl, b6⟩
  have a0_6 := (b6.cell (p := ⟨w.heap.size, 0, none⟩) (by show w.heap.size < _; omega)).trans a0_5
  have a1_6 := (b6.cell (p := ⟨w.heap.size, 1, none⟩) (by show w.heap.size < _; omega)).trans a1_5
  have a2_6 := (b6.cell (p := ⟨w.heap.size, 2, none⟩) (by show w.heap.size < _; omega)).trans a2_5
  have a3_6 := (b6.cell (p := ⟨w.heap.size, 3, none⟩) (by show w.heap.size < _; omega)).trans a3_5
  have a4_6 := (b6.cell (p := ⟨w.heap.size, 4, none⟩) (by show w.heap.size < _; omega)).trans a4_5
  have d0_6 := (b6.cell (p := ⟨w4.heap.size, 0, none⟩) (by show w4.heap.size < _; omega)).trans d0
  have d1_6 := (b6.cell (p := ⟨w4.heap.size, 1, none⟩) (by show w4.heap.size < _; omega)).trans d1
  have d2_6 := (b6.cell (p := ⟨w4.heap.size, 2, none⟩) (by show w4.heap.size < _; omega)).trans d2
  have d3_6 := (b6.cell (p := ⟨w4.heap.size, 3, none⟩) (by show w4.heap.size < _; omega)).trans d3
  have d4_6 := (b6.cell (p := ⟨w4.heap.size, 4, none⟩) (by show w4.heap.size < _; omega)).trans d4
  have z6 := b6.size
  have c6 := c5.trans (b6.mono c5.size)
  have ki1 := kh1.below b6
  have ki2 := kh2.below b6
  clear b6 a0_5 a1_5 a2_5 a3_5 a4_5 d0 d1 d2 d3 d4 kh1 kh2
  have S6 : (fun W : World => W.cell? ⟨w.heap.size, 0, none⟩ = some (.int .i64 N0) ∧ W.cell? ⟨w.heap.size, 1, none⟩ = some (cv1) ∧ W.cell? ⟨w.heap.size, 2, none⟩ = some (cv2) ∧ W.cell? ⟨w.heap.size, 3, none⟩ = some (.int .i64 N3) ∧ W.cell? ⟨w.heap.size, 4, none⟩ = some (.int .i64 N4) ∧ W.cell? ⟨w4.heap.size, 0, none⟩ = some (.int .i64 N0) ∧ W.cell? ⟨w4.heap.size, 1, none⟩ = some (.slice ga1 gl1 gq1) ∧ W.cell? ⟨w4.heap.size, 2, none⟩ = some (.slice ga2 gl2 gq2) ∧ W.cell? ⟨w4.heap.size, 3, none⟩ = some (.int .i64 N3) ∧ W.cell? ⟨w4.heap.size, 4, none⟩ = some (.int .i64 N4)) w6.drew := ⟨by simpa using a0_6, by simpa using a1_6, by simpa using a2_6, by simpa using a3_6, by simpa using a4_6, by simpa using d0_6, by simpa using d1_6, by simpa using d2_6, by simpa using d3_6, by simpa using d4_6⟩
  have HE6 := hide (show Rec.Elem w6.drew (.int .i64 N0, .slice ga1 gl1 gq1, .slice ga2 gl2 gq2, .int .i64 N3, .int .i64 N4) x from ⟨by show Value.int .i64 N0 = _; rw [unhide HN0], ki1.below (Below.refl _ _).drew, ki2.below (Below.refl _ _).drew, by show Value.int .i64 N3 = _; rw [unhide HN3], by show Value.int .i64 N4 = _; rw [unhide HN4]⟩)
  have c6d := c6.drew
  have HT6 := hide (unhide HTo w6.drew c6d)
  clear ki1 ki2
  go_wp2_with fail
  go_region_held3 (fun W => W.cell? ⟨w.heap.size, 0, none⟩ = some (.int .i64 N0) ∧ W.cell? ⟨w.heap.size, 1, none⟩ = some (cv1) ∧ W.cell? ⟨w.heap.size, 2, none⟩ = some (cv2) ∧ W.cell? ⟨w.heap.size, 3, none⟩ = some (.int .i64 N3) ∧ W.cell? ⟨w.heap.size, 4, none⟩ = some (.int .i64 N4) ∧ W.cell? ⟨w4.heap.size, 0, none⟩ = some (.int .i64 N0) ∧ W.cell? ⟨w4.heap.size, 1, none⟩ = some (.slice ga1 gl1 gq1) ∧ W.cell? ⟨w4.heap.size, 2, none⟩ = some (.slice ga2 gl2 gq2) ∧ W.cell? ⟨w4.heap.size, 3, none⟩ = some (.int .i64 N3) ∧ W.cell? ⟨w4.heap.size, 4, none⟩ = some (.int .i64 N4)) (first | exact ⟨a0_6, a1_6, a2_6, a3_6, a4_6, d0_6, d1_6, d2_6, d3_6, d4_6⟩ | exact S6 | exact S7 | exact S8) ((first | (go_at_call 7; refine (unhide HT6).mono ?_; rintro e w7 ⟨⟨q0, q1, q2, q3, q4⟩, rfl, hD7, b7⟩; have z7 := b7.size; simp only [World.size_drew] at z7; have S7 : (fun W : World => W.cell? ⟨w.heap.size, 0, none⟩ = some (.int .i64 N0) ∧ W.cell? ⟨w.heap.size, 1, none⟩ = some (cv1) ∧ W.cell? ⟨w.heap.size, 2, none⟩ = some (cv2) ∧ W.cell? ⟨w.heap.size, 3, none⟩ = some (.int .i64 N3) ∧ W.cell? ⟨w.heap.size, 4, none⟩ = some (.int .i64 N4) ∧ W.cell? ⟨w4.heap.size, 0, none⟩ = some (.int .i64 N0) ∧ W.cell? ⟨w4.heap.size, 1, none⟩ = some (.slice ga1 gl1 gq1) ∧ W.cell? ⟨w4.heap.size, 2, none⟩ = some (.slice ga2 gl2 gq2) ∧ W.cell? ⟨w4.heap.size, 3, none⟩ = some (.int .i64 N3) ∧ W.cell? ⟨w4.heap.size, 4, none⟩ = some (.int .i64 N4)) w7 := ⟨(b7.cell (p := ⟨w.heap.size, 0, none⟩) (by simp; omega)).trans S6.1, (b7.cell (p := ⟨w.heap.size, 1, none⟩) (by simp; omega)).trans S6.2.1, (b7.cell (p := ⟨w.heap.size, 2, none⟩) (by simp; omega)).trans S6.2.2.1, (b7.cell (p := ⟨w.heap.size, 3, none⟩) (by simp; omega)).trans S6.2.2.2.1, (b7.cell (p := ⟨w.heap.size, 4, none⟩) (by simp; omega)).trans S6.2.2.2.2.1, (b7.cell (p := ⟨w4.heap.size, 0, none⟩) (by simp; omega)).trans S6.2.2.2.2.2.1, (b7.cell (p := ⟨w4.heap.size, 1, none⟩) (by simp; omega)).trans S6.2.2.2.2.2.2.1, (b7.cell (p := ⟨w4.heap.size, 2, none⟩) (by simp; omega)).trans S6.2.2.2.2.2.2.2.1, (b7.cell (p := ⟨w4.heap.size, 3, none⟩) (by simp; omega)).trans S6.2.2.2.2.2.2.2.2.1, (b7.cell (p := ⟨w4.heap.size, 4, none⟩) (by simp; omega)).trans S6.2.2.2.2.2.2.2.2.2⟩) | (go_at_call 9; refine (Rec.eq_one ((unhide HE6).below b7) hD7).mono ?_; rintro e w8 ⟨rfl, b8⟩; have S8 : (fun W : World => W.cell? ⟨w.heap.size, 0, none⟩ = some (.int .i64 N0) ∧ W.cell? ⟨w.heap.size, 1, none⟩ = some (cv1) ∧ W.cell? ⟨w.heap.size, 2, none⟩ = some (cv2) ∧ W.cell? ⟨w.heap.size, 3, none⟩ = some (.int .i64 N3) ∧ W.cell? ⟨w.heap.size, 4, none⟩ = some (.int .i64 N4) ∧ W.cell? ⟨w4.heap.size, 0, none⟩ = some (.int .i64 N0) ∧ W.cell? ⟨w4.heap.size, 1, none⟩ = some (.slice ga1 gl1 gq1) ∧ W.cell? ⟨w4.heap.size, 2, none⟩ = some (.slice ga2 gl2 gq2) ∧ W.cell? ⟨w4.heap.size, 3, none⟩ = some (.int .i64 N3) ∧ W.cell? ⟨w4.heap.size, 4, none⟩ = some (.int .i64 N4)) w8 := ⟨(b8.cell (p := ⟨w.heap.size, 0, none⟩) (by simp; omega)).trans S7.1, (b8.cell (p := ⟨w.heap.size, 1, none⟩) (by simp; omega)).trans S7.2.1, (b8.cell (p := ⟨w.heap.size, 2, none⟩) (by simp; omega)).trans S7.2.2.1, (b8.cell (p := ⟨w.heap.size, 3, none⟩) (by simp; omega)).trans S7.2.2.2.1, (b8.cell (p := ⟨w.heap.size, 4, none⟩) (by simp; omega)).trans S7.2.2.2.2.1, (b8.cell (p := ⟨w4.heap.size, 0, none⟩) (by simp; omega)).trans S7.2.2.2.2.2.1, (b8.cell (p := ⟨w4.heap.size, 1, none⟩) (by simp; omega)).trans S7.2.2.2.2.2.2.1, (b8.cell (p := ⟨w4.heap.size, 2, none⟩) (by simp; omega)).trans S7.2.2.2.2.2.2.2.1, (b8.cell (p := ⟨w4.heap.size, 3, none⟩) (by simp; omega)).trans S7.2.2.2.2.2.2.2.2.1, (b8.cell (p := ⟨w4.heap.size, 4, none⟩) (by simp; omega)).trans S7.2.2.2.2.2.2.2.2.2⟩)))
  have c7 := c6d.trans (b7.mono c6d.size)
  have c8 := c7.trans (b8.mono c7.size)
  go_wp2
  go_ret
  exact ⟨rfl, c8⟩
end Go.Proofs.YtamjliaeikoemaaDoor

/- What a list of laid variables says of those behind its first. No condition. -/
namespace Go.Proofs.YtamjliaeikoemaaDoor
theorem laid_tail {P : Program} {x : String × DataW Unit} {l : List (String × DataW Unit)} {W : World} (h : laidMet P (x :: l) W) : laidMet P l W := by
  obtain ⟨n, d⟩ := x
  obtain ⟨ps, ⟨g, t, cs, fuel, p, q, h1, h2, h3, h4, h5, rfl⟩, hnd, hc⟩ := h
  exact ⟨q, h5, (List.nodup_append.1 hnd).2.1, fun b off hm => hc b off (List.mem_append_right _ hm)⟩
end Go.Proofs.YtamjliaeikoemaaDoor
