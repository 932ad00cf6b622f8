/- What the laws' own helpers do with impl.Rec: it is copied, held against another, and counted. -/
import Derived.Test.YtpfllejfbmgbpaaEntTiny
import Derived.Test.YtpfllejfbmgbpaaMatLaw
namespace Go.Proofs.Ytpfllejfbmgbpaa.Rec
open Go.RowKit Rw
set_option linter.unusedVariables false
attribute [local go_sem ↓] Go.wp_at_zero Go.wp_at_succ
abbrev E := Int × List Ent.E × List Mat.E × Int × Int
abbrev C := Value × Value × Value × Value × Value
def Elem (w : World) (c : C) (x : E) : Prop := c.1 = .int .i64 (x.1) ∧ Ent.Is w (c.2.1) (x.2.1) ∧ Mat.Is w (c.2.2.1) (x.2.2.1) ∧ c.2.2.2.1 = .int .i64 (x.2.2.2.1) ∧ c.2.2.2.2 = .int .i64 (x.2.2.2.2)
theorem Elem.below {w w' : World} {c : C} {x : E} (h : Elem w c x) (hb : Below w.heap.size w w') : Elem w' c x := ⟨h.1, (h.2.1).below hb, (h.2.2.1).below hb, h.2.2.2.1, h.2.2.2.2⟩
def good (x : E) : Prop := (Lit.int .i64 (x.1)).wf = true ∧ ((x.2.1).length ≤ maxLen ∧ ∀ y ∈ x.2.1, Ent.good y) ∧ ((x.2.2.1).length ≤ maxLen ∧ ∀ y ∈ x.2.2.1, Mat.good y) ∧ (Lit.int .i64 (x.2.2.2.1)).wf = true ∧ (Lit.int .i64 (x.2.2.2.2)).wf = true
set_option maxRecDepth 100000 in
theorem open_cells {H : Type} {enc : TypeId × Value → H} {W : World} {n : Nat} {cs : List Value} {y : DataW H × List MemPlace} (h : DataW.trod enc Try.prog W 0 (fun _ => true) true n 72 cs = some y) : ∃ (c : C) (x : E), cs = [c.1, c.2.1, c.2.2.1, c.2.2.2.1, c.2.2.2.2] ∧ Elem W c x ∧ good x := by
  have hl : cs.length = 5 := by
    obtain ⟨xs, m, -, -, hl, hxl, hf⟩ := DataW.trod_struct Try.underlying72 h
    rw [hl]; kernel_rfl
  obtain ⟨xs, m, -, -, -, hxl, hf⟩ := DataW.trod_struct Try.underlying72 h
  match cs, hl, xs, hxl with
  | [c0, c1, c2, c3, c4], _, [y0, y1, y2, y3, y4], _ =>
    have g0 := hf 0 _ rfl
    have g1 := hf 1 _ rfl
    have g2 := hf 2 _ rfl
    have g3 := hf 3 _ rfl
    have g4 := hf 4 _ rfl
    have ce0 : Try.prog.cellsOf 3 = 1 := by kernel_rfl
    have ce1 : Try.prog.cellsOf 70 = 1 := by kernel_rfl
    have ce2 : Try.prog.cellsOf 43 = 1 := by kernel_rfl
    simp [ce0, ce1, ce2] at g0 g1 g2 g3 g4
    obtain ⟨s0, e0, -, w0⟩ := DataW.trod_int Try.underlying3 g0
    simp only [List.cons.injEq, and_true] at e0
    obtain ⟨a1, l1, k1, e1, t1⟩ := slice_cell Try.underlying70 g1
    obtain ⟨s1, n1, m1, i1, w1⟩ := Ent.open_arg t1
    obtain ⟨a2, l2, k2, e2, t2⟩ := slice_cell Try.underlying43 g2
    obtain ⟨s2, n2, m2, i2, w2⟩ := Mat.open_arg t2
    rw [← n2] at i2
    obtain ⟨s3, e3, -, w3⟩ := DataW.trod_int Try.underlying3 g3
    simp only [List.cons.injEq, and_true] at e3
    obtain ⟨s4, e4, -, w4⟩ := DataW.trod_int Try.underlying3 g4
    simp only [List.cons.injEq, and_true] at e4
    subst e0 e1 e2 e3 e4
    subst n1
    subst n2
    exact ⟨(.int .i64 s0, .slice a1 s1.length k1, .slice a2 s2.length k2, .int .i64 s3, .int .i64 s4), (s0, s1, s2, s3, s4), rfl, ⟨rfl, i1, i2, rfl, rfl⟩, ⟨w0, ⟨m1, w1⟩, ⟨m2, w2⟩, w3, w4⟩⟩
def tiny (x : E) : Prop := ((x.2.1).length ≤ 2097152 ∧ ∀ y ∈ x.2.1, Ent.tiny y) ∧ (x.2.2.1).length ≤ 4194304
set_option maxHeartbeats 2000000 in
theorem to_one {c : C} {x : E} {w : World} (h : Elem w c x) (ht : tiny x) : Calls Try.prog 52 #[.agg #[c.1, c.2.1, c.2.2.1, c.2.2.2.1, c.2.2.2.2]] w fun e w' => ∃ c' : C, e = .returned (.agg #[c'.1, c'.2.1, c'.2.2.1, c'.2.2.2.1, c'.2.2.2.2]) ∧ Elem w' c' x ∧ Below w.heap.size w w' := by
  obtain ⟨c0, c1, c2, c3, c4⟩ := c
  obtain ⟨h0, h1, h2, h3, h4⟩ := h
  simp only at h0 h1 h2 h3 h4
  subst h0
  subst h3
  subst h4
  have T1 := hide (fun W (hb : Below w.heap.size w W) => Ent.to_any (h1.below hb) (ht.1).1 (ht.1).2)
  have T2 := hide (fun W (hb : Below w.heap.size w W) => Mat.to_any (h2.below hb) (ht.2))
  clear h1 h2 ht
  obtain ⟨l1, hl1⟩ : ∃ l, l = (x.2.1).length := ⟨_, rfl⟩
  rw [← hl1] at T1
  have HL1 := hide hl1
  clear hl1
  obtain ⟨l2, hl2⟩ : ∃ l, l = (x.2.2.1).length := ⟨_, rfl⟩
  rw [← hl2] at T2
  have HL2 := hide hl2
  clear hl2
  obtain ⟨N0, hN0⟩ : ∃ N, N = x.1 := ⟨_, rfl⟩
  rw [← hN0]
  have HN0 := hide hN0
  clear hN0
  obtain ⟨N3, hN3⟩ : ∃ N, N = x.2.2.2.1 := ⟨_, rfl⟩
  rw [← hN3]
  have HN3 := hide hN3
  clear hN3
  obtain ⟨N4, hN4⟩ : ∃ N, N = x.2.2.2.2 := ⟨_, rfl⟩
  rw [← hN4]
  have HN4 := hide hN4
  clear hN4
  have B := (((Below.refl w.heap.size w).alloc (Nat.le_refl _) (.cells #[.int .i64 N0, c1, c2, .int .i64 N3, .int .i64 N4] 72)).alloc (by simp) (.cells #[.int .i64 0, .slice none 0 0, .slice none 0 0, .int .i64 0, .int .i64 0] 77)).alloc (by simp; omega) (.cells #[.int .i64 N0, .slice none 0 0, .slice none 0 0, .int .i64 0, .int .i64 0] 77)
  go_enter Try.func52, Try.ntmps52
  go_wp2_with fail
  refine (unhide T1 _ B).mono ?_
  rintro e v1 ⟨rfl, r1, b1⟩
  obtain ⟨bc1, bf1⟩ := bcell b1
  have z1 := b1.size
  have B1 := B.trans (b1.mono B.size)
  simp only [World.size_alloc] at z1 bc1 bf1 r1 ⊢
  clear b1
  have I1 := hide r1
  clear r1
  have Bs1 := B1.setCell (p := ⟨w.heap.size + 1 + 1, 1, none⟩) (by show w.heap.size ≤ w.heap.size + 1 + 1; omega) (.slice (some ⟨w.heap.size + 1 + 1 + 1, 0, none⟩) l1 l1)
  clear B1
  have I1 := hide ((unhide I1).only ((OnlyAt.refl (w.heap.size + 1 + 1) _).setCell 1 (.slice (some ⟨w.heap.size + 1 + 1 + 1, 0, none⟩) l1 l1)) (by omega))
  go_wp2_with fail
  refine (unhide T2 _ Bs1).mono ?_
  rintro e v2 ⟨rfl, r2, b2⟩
  obtain ⟨bc2, bf2⟩ := bcell b2
  have z2 := b2.size
  have B2 := Bs1.trans (b2.mono Bs1.size)
  have I1 := hide ((unhide I1).below b2)
  simp only [World.size_setCell] at z2 bc2 bf2 r2 ⊢
  clear b2
  have bd2 : ∀ b o, b < w.heap.size + 1 + 1 + 1 → v2.cell? ⟨b, o, none⟩ = _ := fun b o h => bc2 b o (by omega)
  have be2 : ∀ b o, b < w.heap.size + 1 + 1 + 1 → v2.frozen? ⟨b, o, none⟩ = v1.frozen? ⟨b, o, none⟩ := fun b o h => (bf2 b o (by omega)).trans (World.frozen?_setCell _ _ _ _)
  clear bc2 bf2
  have I2 := hide (show Mat.Is v2 (.slice (some ⟨v1.heap.size, 0, none⟩) l2 l2) (x.2.2.1) by rw [unhide HL2] at r2 ⊢; exact Mat.is_of_own r2)
  clear r2
  have Bs2 := B2.setCell (p := ⟨w.heap.size + 1 + 1, 2, none⟩) (by show w.heap.size ≤ w.heap.size + 1 + 1; omega) (.slice (some ⟨v1.heap.size, 0, none⟩) l2 l2)
  clear B2
  have I1 := hide ((unhide I1).only ((OnlyAt.refl (w.heap.size + 1 + 1) _).setCell 2 (.slice (some ⟨v1.heap.size, 0, none⟩) l2 l2)) (by omega))
  have I2 := hide (((OnlyAt.refl (w.heap.size + 1 + 1) _).setCell 2 (.slice (some ⟨v1.heap.size, 0, none⟩) l2 l2)).lies (unhide I2) (fun k hk => by cases hk; dsimp only; omega))
  have Bs3 := Bs2.setCell (p := ⟨w.heap.size + 1 + 1, 3, none⟩) (by show w.heap.size ≤ w.heap.size + 1 + 1; omega) (.int .i64 N3)
  clear Bs2
  have I1 := hide ((unhide I1).only ((OnlyAt.refl (w.heap.size + 1 + 1) _).setCell 3 (.int .i64 N3)) (by omega))
  have I2 := hide (((OnlyAt.refl (w.heap.size + 1 + 1) _).setCell 3 (.int .i64 N3)).lies (unhide I2) (fun k hk => by cases hk; dsimp only; omega))
  have Bs4 := Bs3.setCell (p := ⟨w.heap.size + 1 + 1, 4, none⟩) (by show w.heap.size ≤ w.heap.size + 1 + 1; omega) (.int .i64 N4)
  clear Bs3
  have I1 := hide ((unhide I1).only ((OnlyAt.refl (w.heap.size + 1 + 1) _).setCell 4 (.int .i64 N4)) (by omega))
  have I2 := hide (((OnlyAt.refl (w.heap.size + 1 + 1) _).setCell 4 (.int .i64 N4)).lies (unhide I2) (fun k hk => by cases hk; dsimp only; omega))
  have Br0 := Bs4.setCell (p := ⟨w.heap.size + 1, 0, none⟩) (by show w.heap.size ≤ w.heap.size + 1; omega) (.int .i64 N0)
  clear Bs4
  have I1 := hide ((unhide I1).only ((OnlyAt.refl (w.heap.size + 1) _).setCell 0 (.int .i64 N0)) (by omega))
  have I2 := hide (((OnlyAt.refl (w.heap.size + 1) _).setCell 0 (.int .i64 N0)).lies (unhide I2) (fun k hk => by cases hk; dsimp only; omega))
  have Br1 := Br0.setCell (p := ⟨w.heap.size + 1, 1, none⟩) (by show w.heap.size ≤ w.heap.size + 1; omega) (.slice (some ⟨w.heap.size + 1 + 1 + 1, 0, none⟩) l1 l1)
  clear Br0
  have I1 := hide ((unhide I1).only ((OnlyAt.refl (w.heap.size + 1) _).setCell 1 (.slice (some ⟨w.heap.size + 1 + 1 + 1, 0, none⟩) l1 l1)) (by omega))
  have I2 := hide (((OnlyAt.refl (w.heap.size + 1) _).setCell 1 (.slice (some ⟨w.heap.size + 1 + 1 + 1, 0, none⟩) l1 l1)).lies (unhide I2) (fun k hk => by cases hk; dsimp only; omega))
  have Br2 := Br1.setCell (p := ⟨w.heap.size + 1, 2, none⟩) (by show w.heap.size ≤ w.heap.size + 1; omega) (.slice (some ⟨v1.heap.size, 0, none⟩) l2 l2)
  clear Br1
  have I1 := hide ((unhide I1).only ((OnlyAt.refl (w.heap.size + 1) _).setCell 2 (.slice (some ⟨v1.heap.size, 0, none⟩) l2 l2)) (by omega))
  have I2 := hide (((OnlyAt.refl (w.heap.size + 1) _).setCell 2 (.slice (some ⟨v1.heap.size, 0, none⟩) l2 l2)).lies (unhide I2) (fun k hk => by cases hk; dsimp only; omega))
  have Br3 := Br2.setCell (p := ⟨w.heap.size + 1, 3, none⟩) (by show w.heap.size ≤ w.heap.size + 1; omega) (.int .i64 N3)
  clear Br2
  have I1 := hide ((unhide I1).only ((OnlyAt.refl (w.heap.size + 1) _).setCell 3 (.int .i64 N3)) (by omega))
  have I2 := hide (((OnlyAt.refl (w.heap.size + 1) _).setCell 3 (.int .i64 N3)).lies (unhide I2) (fun k hk => by cases hk; dsimp only; omega))
  have Br4 := Br3.setCell (p := ⟨w.heap.size + 1, 4, none⟩) (by show w.heap.size ≤ w.heap.size + 1; omega) (.int .i64 N4)
  clear Br3
  have I1 := hide ((unhide I1).only ((OnlyAt.refl (w.heap.size + 1) _).setCell 4 (.int .i64 N4)) (by omega))
  have I2 := hide (((OnlyAt.refl (w.heap.size + 1) _).setCell 4 (.int .i64 N4)).lies (unhide I2) (fun k hk => by cases hk; dsimp only; omega))
  go_wp2
  refine bodyPost_ret (v := .agg #[(.int .i64 N0), (.slice (some ⟨w.heap.size + 1 + 1 + 1, 0, none⟩) l1 l1), (.slice (some ⟨v1.heap.size, 0, none⟩) l2 l2), (.int .i64 N3), (.int .i64 N4)]) (by simp [results, Try.results52, go_sem, bc1, bd2]) rfl ⟨((.int .i64 N0), (.slice (some ⟨w.heap.size + 1 + 1 + 1, 0, none⟩) l1 l1), (.slice (some ⟨v1.heap.size, 0, none⟩) l2 l2), (.int .i64 N3), (.int .i64 N4)), rfl, ⟨by simp only; rw [unhide HN0], (unhide I1).is, unhide I2, by simp only; rw [unhide HN3], by simp only; rw [unhide HN4]⟩, Br4⟩
set_option maxHeartbeats 2000000 in
theorem eq_one {c d : C} {x : E} {w : World} (h : Elem w c x) (h' : Elem w d x) : Calls Try.prog 54 #[.agg #[c.1, c.2.1, c.2.2.1, c.2.2.2.1, c.2.2.2.2], .agg #[d.1, d.2.1, d.2.2.1, d.2.2.2.1, d.2.2.2.2]] w fun e w' => e = .returned (.bool true) ∧ Below w.heap.size w w' := by
  obtain ⟨c0, c1, c2, c3, c4⟩ := c
  obtain ⟨d0, d1, d2, d3, d4⟩ := d
  obtain ⟨h0, h1, h2, h3, h4⟩ := h
  obtain ⟨g0, g1, g2, g3, g4⟩ := h'
  simp only at h0 h1 h2 h3 h4 g0 g1 g2 g3 g4
  subst h0 g0
  subst h3 g3
  subst h4 g4
  have T1 := hide (fun W (hb : Below w.heap.size w W) => Ent.eq_any (h1.below hb) (g1.below hb))
  have T2 := hide (fun W (hb : Below w.heap.size w W) => Mat.eq_any (h2.below hb) (g2.below hb))
  clear h1 g1 h2 g2
  generalize x.1 = N0
  generalize x.2.2.2.1 = N3
  generalize x.2.2.2.2 = N4
  have B := ((Below.refl w.heap.size w).alloc (Nat.le_refl _) (.cells #[.int .i64 N0, c1, c2, .int .i64 N3, .int .i64 N4] 77)).alloc (by simp) (.cells #[.int .i64 N0, d1, d2, .int .i64 N3, .int .i64 N4] 77)
  go_enter Try.func54, Try.ntmps54
  go_wp2_with fail
  refine (unhide T1 _ B).mono ?_
  rintro e v1 ⟨rfl, b1⟩
  obtain ⟨bc1, bf1⟩ := bcell b1
  have z1 := b1.size
  have B1 := B.trans (b1.mono B.size)
  simp only [World.size_alloc] at z1 bc1 bf1
  go_wp2_with fail
  refine (unhide T2 _ B1).mono ?_
  rintro e v2 ⟨rfl, b2⟩
  obtain ⟨bc2, bf2⟩ := bcell b2
  have z2 := b2.size
  have B2 := B1.trans (b2.mono B1.size)
  have bd2 : ∀ b o, b < w.heap.size + 1 + 1 → v2.cell? ⟨b, o, none⟩ = v1.cell? ⟨b, o, none⟩ := fun b o h => bc2 b o (by omega)
  clear bc2 bf2
  go_wp2
  go_ret
  exact ⟨rfl, B2⟩
def tot (x : E) : Nat := Ent.tot (x.2.1) + Mat.tot (x.2.2.1)
set_option maxHeartbeats 2000000 in
theorem sz_one {c : C} {x : E} {w : World} (left : Int) (h : Elem w c x) (hg : good x) (h0 : 0 ≤ left) (h1 : left ≤ 1048576) :
    Calls Try.prog 50 #[.agg #[c.1, c.2.1, c.2.2.1, c.2.2.2.1, c.2.2.2.2], .int .i64 left] w fun e w' => e = .returned (.int .i64 (if left - (tot x : Int) < 0 then -1 else left - (tot x : Int))) ∧ Below w.heap.size w w' := by
  obtain ⟨c0, c1, c2, c3, c4⟩ := c
  obtain ⟨e0, e1, e2, e3, e4⟩ := h
  obtain ⟨g0, g1, g2, g3, g4⟩ := hg
  simp only at e0 e1 e2 e3 e4
  subst e0
  subst e3
  subst e4
  have T1 := hide (fun W (hb : Below w.heap.size w W) (l : Int) (p0 : 0 ≤ l) (p1 : l ≤ 1048576) => Ent.sz_any l (e1.below hb) g1.1 g1.2 p0 p1)
  obtain ⟨t1, ht1⟩ : ∃ t, t = Ent.tot (x.2.1) := ⟨_, rfl⟩
  rw [← ht1] at T1
  have T2 := hide (fun W (hb : Below w.heap.size w W) (l : Int) (p0 : 0 ≤ l) (p1 : l ≤ 1048576) => Mat.sz_any l (e2.below hb) g2.1 g2.2 p0 p1)
  obtain ⟨t2, ht2⟩ : ∃ t, t = Mat.tot (x.2.2.1) := ⟨_, rfl⟩
  rw [← ht2] at T2
  have HS : tot x = t1 + t2 := by unfold tot; rw [ht1, ht2]
  rw [HS]
  clear HS ht1 e1 g1 ht2 e2 g2 g0 g3 g4
  generalize x.1 = N0
  generalize x.2.2.2.1 = N3
  generalize x.2.2.2.2 = N4
  have B := (Below.refl w.heap.size w).alloc (Nat.le_refl _) (.cells #[.int .i64 N0, c1, c2, .int .i64 N3, .int .i64 N4] 72)
  by_cases k1 : left - (t1 : Int) < 0
  · rw [if_pos (by omega)]
    go_enter Try.func50, Try.ntmps50
    go_wp2_with fail
    refine (unhide T1 _ B (left) (by omega) (by omega)).mono ?_
    rintro e v1 ⟨rfl, b1⟩
    have B1 := B.trans (b1.mono B.size)
    obtain ⟨bc1, bf1⟩ := bcell b1
    have z1 := b1.size
    simp only [World.size_alloc] at z1 bc1 bf1
    rw [if_pos (by omega)]
    go_wp2_with fail
    go_ret
    exact ⟨rfl, B1⟩
  by_cases k2 : left - (t1 : Int) - (t2 : Int) < 0
  · rw [if_pos (by omega)]
    go_enter Try.func50, Try.ntmps50
    go_wp2_with fail
    refine (unhide T1 _ B (left) (by omega) (by omega)).mono ?_
    rintro e v1 ⟨rfl, b1⟩
    have B1 := B.trans (b1.mono B.size)
    obtain ⟨bc1, bf1⟩ := bcell b1
    have z1 := b1.size
    simp only [World.size_alloc] at z1 bc1 bf1
    rw [if_neg (by omega)]
    have n1 : 0 ≤ left - (t1 : Int) := by omega
    go_wp2_with fail
    refine (unhide T2 _ B1 (left - (t1 : Int)) (by omega) (by omega)).mono ?_
    rintro e v2 ⟨rfl, b2⟩
    have B2 := B1.trans (b2.mono B1.size)
    obtain ⟨bc2, bf2⟩ := bcell b2
    have z2 := b2.size
    have bd2 : ∀ b o, b < w.heap.size + 1 → v2.cell? ⟨b, o, none⟩ = v1.cell? ⟨b, o, none⟩ := fun b o h => bc2 b o (by omega)
    clear bc2 bf2
    rw [if_pos (by omega)]
    go_wp2_with fail
    go_ret
    exact ⟨rfl, B2⟩
  rw [if_neg (by omega), show left - ((t1 + t2 : Nat) : Int) = left - (t1 : Int) - (t2 : Int) from by omega]
  go_enter Try.func50, Try.ntmps50
  go_wp2_with fail
  refine (unhide T1 _ B (left) (by omega) (by omega)).mono ?_
  rintro e v1 ⟨rfl, b1⟩
  have B1 := B.trans (b1.mono B.size)
  obtain ⟨bc1, bf1⟩ := bcell b1
  have z1 := b1.size
  simp only [World.size_alloc] at z1 bc1 bf1
  rw [if_neg (by omega)]
  have n1 : 0 ≤ left - (t1 : Int) := by omega
  go_wp2_with fail
  refine (unhide T2 _ B1 (left - (t1 : Int)) (by omega) (by omega)).mono ?_
  rintro e v2 ⟨rfl, b2⟩
  have B2 := B1.trans (b2.mono B1.size)
  obtain ⟨bc2, bf2⟩ := bcell b2
  have z2 := b2.size
  have bd2 : ∀ b o, b < w.heap.size + 1 → v2.cell? ⟨b, o, none⟩ = v1.cell? ⟨b, o, none⟩ := fun b o h => bc2 b o (by omega)
  clear bc2 bf2
  rw [if_neg (by omega)]
  have n2 : 0 ≤ left - (t1 : Int) - (t2 : Int) := by omega
  go_wp2_with fail
  go_ret
  exact ⟨rfl, B2⟩
end Go.Proofs.Ytpfllejfbmgbpaa.Rec
