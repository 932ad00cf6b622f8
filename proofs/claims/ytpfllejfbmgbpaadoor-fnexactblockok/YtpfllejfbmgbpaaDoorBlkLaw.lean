/- What the laws' own helpers do with impl.Block: it is copied, held against another, and counted. -/
import Derived.Test.YtpfllejfbmgbpaaDoorRowTiny
namespace Go.Proofs.YtpfllejfbmgbpaaDoor.Blk
open Go.RowKit Rw
set_option linter.unusedVariables false
attribute [local go_sem ↓] Go.wp_at_zero Go.wp_at_succ
abbrev E := Int × Int × List Row.E
abbrev C := Value × Value × Value
def Elem (w : World) (c : C) (x : E) : Prop := c.1 = .int .i64 (x.1) ∧ c.2.1 = .int .i64 (x.2.1) ∧ Row.Is w (c.2.2) (x.2.2)
theorem Elem.below {w w' : World} {c : C} {x : E} (h : Elem w c x) (hb : Below w.heap.size w w') : Elem w' c x := ⟨h.1, h.2.1, (h.2.2).below hb⟩
def good (x : E) : Prop := (Lit.int .i64 (x.1)).wf = true ∧ (Lit.int .i64 (x.2.1)).wf = true ∧ ((x.2.2).length ≤ maxLen ∧ ∀ y ∈ x.2.2, Row.good y)
set_option maxRecDepth 100000 in
theorem open_cells {H : Type} {enc : TypeId × Value → H} {W : World} {n : Nat} {cs : List Value} {y : DataW H × List MemPlace} (h : DataW.trod enc Tryd.prog W 0 (fun _ => true) true n 24 cs = some y) : ∃ (c : C) (x : E), cs = [c.1, c.2.1, c.2.2] ∧ Elem W c x ∧ good x := by
  have hl : cs.length = 3 := by
    obtain ⟨xs, m, -, -, hl, hxl, hf⟩ := DataW.trod_struct Tryd.underlying24 h
    rw [hl]; kernel_rfl
  obtain ⟨xs, m, -, -, -, hxl, hf⟩ := DataW.trod_struct Tryd.underlying24 h
  match cs, hl, xs, hxl with
  | [c0, c1, c2], _, [y0, y1, y2], _ =>
    have g0 := hf 0 _ rfl
    have g1 := hf 1 _ rfl
    have g2 := hf 2 _ rfl
    have ce0 : Tryd.prog.cellsOf 3 = 1 := by kernel_rfl
    have ce2 : Tryd.prog.cellsOf 22 = 1 := by kernel_rfl
    simp [ce0, ce2] at g0 g1 g2
    obtain ⟨s0, e0, -, w0⟩ := DataW.trod_int Tryd.underlying3 g0
    simp only [List.cons.injEq, and_true] at e0
    obtain ⟨s1, e1, -, w1⟩ := DataW.trod_int Tryd.underlying3 g1
    simp only [List.cons.injEq, and_true] at e1
    obtain ⟨a2, l2, k2, e2, t2⟩ := slice_cell Tryd.underlying22 g2
    obtain ⟨s2, n2, m2, i2, w2⟩ := Row.open_arg t2
    subst e0 e1 e2
    subst n2
    exact ⟨(.int .i64 s0, .int .i64 s1, .slice a2 s2.length k2), (s0, s1, s2), rfl, ⟨rfl, rfl, i2⟩, ⟨w0, w1, ⟨m2, w2⟩⟩⟩
def tiny (x : E) : Prop := ((x.2.2).length ≤ 2097152 ∧ ∀ y ∈ x.2.2, Row.tiny y)
set_option maxHeartbeats 2000000 in
theorem to_one {c : C} {x : E} {w : World} (h : Elem w c x) (ht : tiny x) : Calls Tryd.prog 8 #[.agg #[c.1, c.2.1, c.2.2]] w fun e w' => ∃ c' : C, e = .returned (.agg #[c'.1, c'.2.1, c'.2.2]) ∧ Elem w' c' x ∧ Below w.heap.size w w' := by
  obtain ⟨c0, c1, c2⟩ := c
  obtain ⟨h0, h1, h2⟩ := h
  simp only at h0 h1 h2
  subst h0
  subst h1
  have T2 := hide (fun W (hb : Below w.heap.size w W) => Row.to_any (h2.below hb) (ht).1 (ht).2)
  clear h2 ht
  obtain ⟨l2, hl2⟩ : ∃ l, l = (x.2.2).length := ⟨_, rfl⟩
  rw [← hl2] at T2
  have HL2 := hide hl2
  clear hl2
  obtain ⟨N0, hN0⟩ : ∃ N, N = x.1 := ⟨_, rfl⟩
  rw [← hN0]
  have HN0 := hide hN0
  clear hN0
  obtain ⟨N1, hN1⟩ : ∃ N, N = x.2.1 := ⟨_, rfl⟩
  rw [← hN1]
  have HN1 := hide hN1
  clear hN1
  have B := (((Below.refl w.heap.size w).alloc (Nat.le_refl _) (.cells #[.int .i64 N0, .int .i64 N1, c2] 24)).alloc (by simp) (.cells #[.int .i64 0, .int .i64 0, .slice none 0 0] 29)).alloc (by simp; omega) (.cells #[.int .i64 N0, .int .i64 N1, .slice none 0 0] 29)
  go_enter Tryd.func8, Tryd.ntmps8
  go_wp2_with fail
  refine (unhide T2 _ B).mono ?_
  rintro e v2 ⟨rfl, r2, b2⟩
  obtain ⟨bc2, bf2⟩ := bcell b2
  have z2 := b2.size
  have B2 := B.trans (b2.mono B.size)
  simp only [World.size_alloc] at z2 bc2 bf2 r2 ⊢
  clear b2
  have I2 := hide r2
  clear r2
  have Bs2 := B2.setCell (p := ⟨w.heap.size + 1 + 1, 2, none⟩) (by show w.heap.size ≤ w.heap.size + 1 + 1; omega) (.slice (some ⟨w.heap.size + 1 + 1 + 1, 0, none⟩) l2 l2)
  clear B2
  have I2 := hide ((unhide I2).only ((OnlyAt.refl (w.heap.size + 1 + 1) _).setCell 2 (.slice (some ⟨w.heap.size + 1 + 1 + 1, 0, none⟩) l2 l2)) (by omega))
  have Br0 := Bs2.setCell (p := ⟨w.heap.size + 1, 0, none⟩) (by show w.heap.size ≤ w.heap.size + 1; omega) (.int .i64 N0)
  clear Bs2
  have I2 := hide ((unhide I2).only ((OnlyAt.refl (w.heap.size + 1) _).setCell 0 (.int .i64 N0)) (by omega))
  have Br1 := Br0.setCell (p := ⟨w.heap.size + 1, 1, none⟩) (by show w.heap.size ≤ w.heap.size + 1; omega) (.int .i64 N1)
  clear Br0
  have I2 := hide ((unhide I2).only ((OnlyAt.refl (w.heap.size + 1) _).setCell 1 (.int .i64 N1)) (by omega))
  have Br2 := Br1.setCell (p := ⟨w.heap.size + 1, 2, none⟩) (by show w.heap.size ≤ w.heap.size + 1; omega) (.slice (some ⟨w.heap.size + 1 + 1 + 1, 0, none⟩) l2 l2)
  clear Br1
  have I2 := hide ((unhide I2).only ((OnlyAt.refl (w.heap.size + 1) _).setCell 2 (.slice (some ⟨w.heap.size + 1 + 1 + 1, 0, none⟩) l2 l2)) (by omega))
  go_wp2
  refine bodyPost_ret (v := .agg #[(.int .i64 N0), (.int .i64 N1), (.slice (some ⟨w.heap.size + 1 + 1 + 1, 0, none⟩) l2 l2)]) (by simp [results, Tryd.results8, go_sem, bc2]) rfl ⟨((.int .i64 N0), (.int .i64 N1), (.slice (some ⟨w.heap.size + 1 + 1 + 1, 0, none⟩) l2 l2)), rfl, ⟨by simp only; rw [unhide HN0], by simp only; rw [unhide HN1], (unhide I2).is⟩, Br2⟩
set_option maxHeartbeats 2000000 in
theorem eq_one {c d : C} {x : E} {w : World} (h : Elem w c x) (h' : Elem w d x) : Calls Tryd.prog 10 #[.agg #[c.1, c.2.1, c.2.2], .agg #[d.1, d.2.1, d.2.2]] w fun e w' => e = .returned (.bool true) ∧ Below w.heap.size w w' := by
  obtain ⟨c0, c1, c2⟩ := c
  obtain ⟨d0, d1, d2⟩ := d
  obtain ⟨h0, h1, h2⟩ := h
  obtain ⟨g0, g1, g2⟩ := h'
  simp only at h0 h1 h2 g0 g1 g2
  subst h0 g0
  subst h1 g1
  have T2 := hide (fun W (hb : Below w.heap.size w W) => Row.eq_any (h2.below hb) (g2.below hb))
  clear h2 g2
  generalize x.1 = N0
  generalize x.2.1 = N1
  have B := ((Below.refl w.heap.size w).alloc (Nat.le_refl _) (.cells #[.int .i64 N0, .int .i64 N1, c2] 29)).alloc (by simp) (.cells #[.int .i64 N0, .int .i64 N1, d2] 29)
  go_enter Tryd.func10, Tryd.ntmps10
  go_wp2_with fail
  refine (unhide T2 _ B).mono ?_
  rintro e v2 ⟨rfl, b2⟩
  obtain ⟨bc2, bf2⟩ := bcell b2
  have z2 := b2.size
  have B2 := B.trans (b2.mono B.size)
  simp only [World.size_alloc] at z2 bc2 bf2
  go_wp2
  go_ret
  exact ⟨rfl, B2⟩
def tot (x : E) : Nat := Row.tot (x.2.2)
set_option maxHeartbeats 2000000 in
theorem sz_one {c : C} {x : E} {w : World} (left : Int) (h : Elem w c x) (hg : good x) (h0 : 0 ≤ left) (h1 : left ≤ 1048576) :
    Calls Tryd.prog 6 #[.agg #[c.1, c.2.1, c.2.2], .int .i64 left] w fun e w' => e = .returned (.int .i64 (if left - (tot x : Int) < 0 then -1 else left - (tot x : Int))) ∧ Below w.heap.size w w' := by
  obtain ⟨c0, c1, c2⟩ := c
  obtain ⟨e0, e1, e2⟩ := h
  obtain ⟨g0, g1, g2⟩ := hg
  simp only at e0 e1 e2
  subst e0
  subst e1
  have T2 := hide (fun W (hb : Below w.heap.size w W) (l : Int) (p0 : 0 ≤ l) (p1 : l ≤ 1048576) => Row.sz_any l (e2.below hb) g2.1 g2.2 p0 p1)
  obtain ⟨t2, ht2⟩ : ∃ t, t = Row.tot (x.2.2) := ⟨_, rfl⟩
  rw [← ht2] at T2
  have HS : tot x = t2 := by unfold tot; rw [ht2]
  rw [HS]
  clear HS ht2 e2 g2 g0 g1
  generalize x.1 = N0
  generalize x.2.1 = N1
  have B := (Below.refl w.heap.size w).alloc (Nat.le_refl _) (.cells #[.int .i64 N0, .int .i64 N1, c2] 24)
  by_cases k2 : left - (t2 : Int) < 0
  · rw [if_pos (by omega)]
    go_enter Tryd.func6, Tryd.ntmps6
    go_wp2_with fail
    refine (unhide T2 _ B (left) (by omega) (by omega)).mono ?_
    rintro e v2 ⟨rfl, b2⟩
    have B2 := B.trans (b2.mono B.size)
    obtain ⟨bc2, bf2⟩ := bcell b2
    have z2 := b2.size
    simp only [World.size_alloc] at z2 bc2 bf2
    rw [if_pos (by omega)]
    go_wp2_with fail
    go_ret
    exact ⟨rfl, B2⟩
  rw [if_neg (by omega)]
  go_enter Tryd.func6, Tryd.ntmps6
  go_wp2_with fail
  refine (unhide T2 _ B (left) (by omega) (by omega)).mono ?_
  rintro e v2 ⟨rfl, b2⟩
  have B2 := B.trans (b2.mono B.size)
  obtain ⟨bc2, bf2⟩ := bcell b2
  have z2 := b2.size
  simp only [World.size_alloc] at z2 bc2 bf2
  rw [if_neg (by omega)]
  have n2 : 0 ≤ left - (t2 : Int) := by omega
  go_wp2_with fail
  go_ret
  exact ⟨rfl, B2⟩
end Go.Proofs.YtpfllejfbmgbpaaDoor.Blk
