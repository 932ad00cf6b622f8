/- FnExactDiskOk returns true at every disk. -/
import Derived.Test.YtgaecdihjgabaaaDskOk
namespace Go.Proofs.Ytgaecdihjgabaaa
open Go.RowKit Rw
set_option linter.unusedVariables false
set_option maxRecDepth 100000 in
set_option maxHeartbeats 8000000 in
theorem fnExactDiskOk.walk (c : Dsk.C) (x : Dsk.E) (w : World) (w0 : Dsk.Elem w c x ∧ Dsk.good x) :
    Calls Try.prog 4 #[.agg #[c.1, c.2.1, c.2.2]] w fun e w' => e = .returned (.bool true) ∧ Below w.heap.size w w' := by
  obtain ⟨hE, hG⟩ := w0
  obtain ⟨cv0, cv1, cv2⟩ := c
  have hF := hE
  obtain ⟨e0, e1, -⟩ := hF
  simp only at e0 e1
  subst e0
  subst e1
  obtain ⟨N0, hN0⟩ : ∃ N, N = x.1 := ⟨_, rfl⟩
  obtain ⟨N1, hN1⟩ : ∃ N, N = x.2.1 := ⟨_, rfl⟩
  rw [← hN0, ← hN1] at hE
  simp only [← hN0, ← hN1]
  have HN0 := hide hN0
  have HN1 := hide hN1
  clear hN0 hN1
  have HS := hide (fun W (hB : Below w.heap.size w W) => Dsk.sz_one (c := (.string N0, .string N1, cv2)) (x := x) 1048576 (hE.below hB) hG (by omega) (by omega))
  obtain ⟨wa, hwa⟩ : ∃ wa, wa = w.alloc (.cells #[.string N0, .string N1, cv2] 35) := ⟨_, rfl⟩
  have B : Below w.heap.size w wa := by rw [hwa]; exact (Below.refl _ _).alloc (Nat.le_refl _) _
  have za : w.heap.size < wa.heap.size := by rw [hwa]; simp
  have A0 : wa.cell? ⟨w.heap.size, 0, none⟩ = some (.string N0) ∧ wa.cell? ⟨w.heap.size, 1, none⟩ = some (.string N1) ∧ wa.cell? ⟨w.heap.size, 2, none⟩ = some (cv2) := by rw [hwa]; refine ⟨?_, ?_, ?_⟩ <;> simp [go_sem]
  by_cases hb : (1048576 : Int) - (Dsk.tot x : Int) < 0
  · clear hE hG
    obtain ⟨a0, a1, a2⟩ := A0
    go_enter Try.func4, Try.ntmps4
    go_wp2_with fail
    rw [← hwa]
    clear hwa
    refine (unhide HS _ B).mono ?_
    rintro e w1 ⟨rfl, b1⟩
    rw [if_pos hb]
    have b2 := B.trans (b1.mono B.size)
    go_wp2_with fail
    go_ret
    exact ⟨rfl, b2⟩
  have tn : Dsk.tiny x := by have := Fil.tot_len x.2.2; unfold Dsk.tot at hb; unfold Dsk.tiny; omega
  have HTo := hide (fun W (hB : Below w.heap.size w W) => Dsk.to_one (c := (.string N0, .string N1, cv2)) (x := x) (hE.below hB) tn)
  have HG := hide hG
  clear hE hG tn
  obtain ⟨a0, a1, a2⟩ := A0
  go_enter Try.func4, Try.ntmps4
  go_wp2_with fail
  rw [← hwa]
  clear hwa
  refine (unhide HS _ B).mono ?_
  rintro e w1 ⟨rfl, b1⟩
  rw [if_neg (show ¬ (1048576 : Int) - (Dsk.tot x : Int) < 0 by omega)]
  have hnn : decide ((1048576 : Int) - (Dsk.tot x : Int) < 0) = false := by simp; omega
  have a0_1 := (b1.cell (p := ⟨w.heap.size, 0, none⟩) (by show w.heap.size < _; omega)).trans a0
  have a1_1 := (b1.cell (p := ⟨w.heap.size, 1, none⟩) (by show w.heap.size < _; omega)).trans a1
  have a2_1 := (b1.cell (p := ⟨w.heap.size, 2, none⟩) (by show w.heap.size < _; omega)).trans a2
  have z1 := b1.size
  have c1 := B.trans (b1.mono B.size)
  clear b1 a0 a1 a2
  go_wp2_with fail
  clear hnn hb
  refine (unhide HTo _ c1).mono ?_
  rintro e w2 ⟨⟨f0, f1, f2⟩, rfl, hD, b2⟩
  obtain ⟨e0, e1, kf2⟩ := hD
  simp only at e0 e1 kf2 ⊢
  rw [← unhide HN0] at e0
  subst e0
  rw [← unhide HN1] at e1
  subst e1
  have a0_2 := (b2.cell (p := ⟨w.heap.size, 0, none⟩) (by show w.heap.size < _; omega)).trans a0_1
  have a1_2 := (b2.cell (p := ⟨w.heap.size, 1, none⟩) (by show w.heap.size < _; omega)).trans a1_1
  have a2_2 := (b2.cell (p := ⟨w.heap.size, 2, none⟩) (by show w.heap.size < _; omega)).trans a2_1
  have z2 := b2.size
  have c2 := c1.trans (b2.mono c1.size)
  clear b2 a0_1 a1_1 a2_1
  go_wp2_with fail
  refine (Dsk.spec_disk kf2 (by rw [unhide HN0]; exact (unhide HG).1)).mono ?_
  rintro e w3 ⟨rfl, b3⟩
  have a0_3 := (b3.cell (p := ⟨w.heap.size, 0, none⟩) (by show w.heap.size < _; omega)).trans a0_2
  have a1_3 := (b3.cell (p := ⟨w.heap.size, 1, none⟩) (by show w.heap.size < _; omega)).trans a1_2
  have a2_3 := (b3.cell (p := ⟨w.heap.size, 2, none⟩) (by show w.heap.size < _; omega)).trans a2_2
  have z3 := b3.size
  have c3 := c2.trans (b3.mono c2.size)
  clear b3 a0_2 a1_2 a2_2 kf2
  go_wp2_with fail
  refine (unhide HTo _ c3).mono ?_
  rintro e w4 ⟨⟨g0, g1, g2⟩, rfl, hD, b4⟩
  obtain ⟨e0, e1, kg2⟩ := hD
  simp only at e0 e1 kg2 ⊢
  rw [← unhide HN0] at e0
  subst e0
  rw [← unhide HN1] at e1
  subst e1
  obtain ⟨ga2, gl2, gq2, rfl⟩ : ∃ a l q, g2 = .slice a l q := by first | (obtain ⟨a, q, e, -⟩ := kg2.form; exact ⟨a, _, q, e⟩) | (obtain ⟨cs, -, hL, -⟩ := kg2; obtain ⟨a, q, e, -⟩ := hL.form; exact ⟨a, _, q, e⟩)
  have a0_4 := (b4.cell (p := ⟨w.heap.size, 0, none⟩) (by show w.heap.size < _; omega)).trans a0_3
  have a1_4 := (b4.cell (p := ⟨w.heap.size, 1, none⟩) (by show w.heap.size < _; omega)).trans a1_3
  have a2_4 := (b4.cell (p := ⟨w.heap.size, 2, none⟩) (by show w.heap.size < _; omega)).trans a2_3
  have z4 := b4.size
  have c4 := c3.trans (b4.mono c3.size)
  clear b4 a0_3 a1_3 a2_3
  obtain ⟨w5, hw5⟩ : ∃ w5, w5 = w4.alloc (.cells #[.string N0, .string N1, .slice ga2 gl2 gq2] 40) := ⟨_, rfl⟩
  have b5 : Below w4.heap.size w4 w5 := by rw [hw5]; exact (Below.refl _ _).alloc (Nat.le_refl _) _
  have z5 : w4.heap.size < w5.heap.size := by rw [hw5]; simp
  have d0 : w5.cell? ⟨w4.heap.size, 0, none⟩ = some (.string N0) := by rw [hw5]; simp [go_sem]
  have d1 : w5.cell? ⟨w4.heap.size, 1, none⟩ = some (.string N1) := by rw [hw5]; simp [go_sem]
  have d2 : w5.cell? ⟨w4.heap.size, 2, none⟩ = some (.slice ga2 gl2 gq2) := by rw [hw5]; simp [go_sem]
  have a0_5 := (b5.cell (p := ⟨w.heap.size, 0, none⟩) (by show w.heap.size < _; omega)).trans a0_4
  have a1_5 := (b5.cell (p := ⟨w.heap.size, 1, none⟩) (by show w.heap.size < _; omega)).trans a1_4
  have a2_5 := (b5.cell (p := ⟨w.heap.size, 2, none⟩) (by show w.heap.size < _; omega)).trans a2_4
  have c5 := c4.trans (b5.mono c4.size)
  have kh2 := kg2.below b5
  clear b5 a0_4 a1_4 a2_4 kg2
  go_wp2_with fail
  rw [← hw5]
  clear hw5
  refine (Dsk.impl_disk kh2 (by rw [unhide HN0]; exact (unhide HG).1)).mono ?_
  rintro e w6 ⟨rfl, b6⟩
  have a0_6 := (b6.cell (p := ⟨w.heap.size, 0, none⟩) (by show w.heap.size < _; omega)).trans a0_5
  have a1_6 := (b6.cell (p := ⟨w.heap.size, 1, none⟩) (by show w.heap.size < _; omega)).trans a1_5
  have a2_6 := (b6.cell (p := ⟨w.heap.size, 2, none⟩) (by show w.heap.size < _; omega)).trans a2_5
  have d0_6 := (b6.cell (p := ⟨w4.heap.size, 0, none⟩) (by show w4.heap.size < _; omega)).trans d0
  have d1_6 := (b6.cell (p := ⟨w4.heap.size, 1, none⟩) (by show w4.heap.size < _; omega)).trans d1
  have d2_6 := (b6.cell (p := ⟨w4.heap.size, 2, none⟩) (by show w4.heap.size < _; omega)).trans d2
  have z6 := b6.size
  have c6 := c5.trans (b6.mono c5.size)
  have ki2 := kh2.below b6
  clear b6 a0_5 a1_5 a2_5 d0 d1 d2 kh2
  have S6 : (fun W : World => W.cell? ⟨w.heap.size, 0, none⟩ = some (.string N0) ∧ W.cell? ⟨w.heap.size, 1, none⟩ = some (.string N1) ∧ W.cell? ⟨w.heap.size, 2, none⟩ = some (cv2) ∧ W.cell? ⟨w4.heap.size, 0, none⟩ = some (.string N0) ∧ W.cell? ⟨w4.heap.size, 1, none⟩ = some (.string N1) ∧ W.cell? ⟨w4.heap.size, 2, none⟩ = some (.slice ga2 gl2 gq2)) w6.drew := ⟨by simpa using a0_6, by simpa using a1_6, by simpa using a2_6, by simpa using d0_6, by simpa using d1_6, by simpa using d2_6⟩
  have HE6 := hide (show Dsk.Elem w6.drew (.string N0, .string N1, .slice ga2 gl2 gq2) x from ⟨by show Value.string N0 = _; rw [unhide HN0], by show Value.string N1 = _; rw [unhide HN1], ki2.below (Below.refl _ _).drew⟩)
  have c6d := c6.drew
  have HT6 := hide (unhide HTo w6.drew c6d)
  clear ki2
  go_wp2_with fail
  go_region_held3 (fun W => W.cell? ⟨w.heap.size, 0, none⟩ = some (.string N0) ∧ W.cell? ⟨w.heap.size, 1, none⟩ = some (.string N1) ∧ W.cell? ⟨w.heap.size, 2, none⟩ = some (cv2) ∧ W.cell? ⟨w4.heap.size, 0, none⟩ = some (.string N0) ∧ W.cell? ⟨w4.heap.size, 1, none⟩ = some (.string N1) ∧ W.cell? ⟨w4.heap.size, 2, none⟩ = some (.slice ga2 gl2 gq2)) (first | exact ⟨a0_6, a1_6, a2_6, d0_6, d1_6, d2_6⟩ | exact S6 | exact S7 | exact S8) ((first | (go_at_call 14; refine (unhide HT6).mono ?_; rintro e w7 ⟨⟨q0, q1, q2⟩, rfl, hD7, b7⟩; have z7 := b7.size; simp only [World.size_drew] at z7; have S7 : (fun W : World => W.cell? ⟨w.heap.size, 0, none⟩ = some (.string N0) ∧ W.cell? ⟨w.heap.size, 1, none⟩ = some (.string N1) ∧ W.cell? ⟨w.heap.size, 2, none⟩ = some (cv2) ∧ W.cell? ⟨w4.heap.size, 0, none⟩ = some (.string N0) ∧ W.cell? ⟨w4.heap.size, 1, none⟩ = some (.string N1) ∧ W.cell? ⟨w4.heap.size, 2, none⟩ = some (.slice ga2 gl2 gq2)) w7 := ⟨(b7.cell (p := ⟨w.heap.size, 0, none⟩) (by simp; omega)).trans S6.1, (b7.cell (p := ⟨w.heap.size, 1, none⟩) (by simp; omega)).trans S6.2.1, (b7.cell (p := ⟨w.heap.size, 2, none⟩) (by simp; omega)).trans S6.2.2.1, (b7.cell (p := ⟨w4.heap.size, 0, none⟩) (by simp; omega)).trans S6.2.2.2.1, (b7.cell (p := ⟨w4.heap.size, 1, none⟩) (by simp; omega)).trans S6.2.2.2.2.1, (b7.cell (p := ⟨w4.heap.size, 2, none⟩) (by simp; omega)).trans S6.2.2.2.2.2⟩) | (go_at_call 16; refine (Dsk.eq_one ((unhide HE6).below b7) hD7).mono ?_; rintro e w8 ⟨rfl, b8⟩; have S8 : (fun W : World => W.cell? ⟨w.heap.size, 0, none⟩ = some (.string N0) ∧ W.cell? ⟨w.heap.size, 1, none⟩ = some (.string N1) ∧ W.cell? ⟨w.heap.size, 2, none⟩ = some (cv2) ∧ W.cell? ⟨w4.heap.size, 0, none⟩ = some (.string N0) ∧ W.cell? ⟨w4.heap.size, 1, none⟩ = some (.string N1) ∧ W.cell? ⟨w4.heap.size, 2, none⟩ = some (.slice ga2 gl2 gq2)) w8 := ⟨(b8.cell (p := ⟨w.heap.size, 0, none⟩) (by simp; omega)).trans S7.1, (b8.cell (p := ⟨w.heap.size, 1, none⟩) (by simp; omega)).trans S7.2.1, (b8.cell (p := ⟨w.heap.size, 2, none⟩) (by simp; omega)).trans S7.2.2.1, (b8.cell (p := ⟨w4.heap.size, 0, none⟩) (by simp; omega)).trans S7.2.2.2.1, (b8.cell (p := ⟨w4.heap.size, 1, none⟩) (by simp; omega)).trans S7.2.2.2.2.1, (b8.cell (p := ⟨w4.heap.size, 2, none⟩) (by simp; omega)).trans S7.2.2.2.2.2⟩)))
  have c7 := c6d.trans (b7.mono c6d.size)
  have c8 := c7.trans (b8.mono c7.size)
  go_wp2
  go_ret
  exact ⟨rfl, c8⟩
end Go.Proofs.Ytgaecdihjgabaaa
