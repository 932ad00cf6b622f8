/- What the laws' own helpers do with impl.Disk: it is copied, held against another, and counted. -/
import Derived.Test.YtgaecdihjgabaaaFilLaw
import Derived.Test.YtgaecdihjgabaaaNest
namespace Go.Proofs.Ytgaecdihjgabaaa.Dsk
open Go.RowKit Rw
set_option linter.unusedVariables false
attribute [local go_sem ↓] Go.wp_at_zero Go.wp_at_succ
abbrev E := ByteArray × ByteArray × List Fil.E
abbrev C := Value × Value × Value
def Elem (w : World) (c : C) (x : E) : Prop := c.1 = .string (x.1) ∧ c.2.1 = .string (x.2.1) ∧ Fil.Is w (c.2.2) (x.2.2)
theorem Elem.below {w w' : World} {c : C} {x : E} (h : Elem w c x) (hb : Below w.heap.size w w') : Elem w' c x := ⟨h.1, h.2.1, (h.2.2).below hb⟩
def good (x : E) : Prop := (x.1).size ≤ maxLen ∧ (x.2.1).size ≤ maxLen ∧ ((x.2.2).length ≤ maxLen ∧ ∀ y ∈ x.2.2, Fil.good y)
set_option maxRecDepth 100000 in
theorem open_cells {H : Type} {enc : TypeId × Value → H} {W : World} {n : Nat} {cs : List Value} {y : DataW H × List MemPlace} (h : DataW.trod enc Try.prog W 0 (fun _ => true) true n 35 cs = some y) : ∃ (c : C) (x : E), cs = [c.1, c.2.1, c.2.2] ∧ Elem W c x ∧ good x := by
  have hl : cs.length = 3 := by
    obtain ⟨xs, m, -, -, hl, hxl, hf⟩ := DataW.trod_struct Try.underlying35 h
    rw [hl]; kernel_rfl
  obtain ⟨xs, m, -, -, -, hxl, hf⟩ := DataW.trod_struct Try.underlying35 h
  match cs, hl, xs, hxl with
  | [c0, c1, c2], _, [y0, y1, y2], _ =>
    have g0 := hf 0 _ rfl
    have g1 := hf 1 _ rfl
    have g2 := hf 2 _ rfl
    have ce0 : Try.prog.cellsOf 9 = 1 := by kernel_rfl
    have ce2 : Try.prog.cellsOf 33 = 1 := by kernel_rfl
    simp [ce0, ce2] at g0 g1 g2
    obtain ⟨s0, e0, -, w0⟩ := DataW.trod_string Try.underlying9 g0
    simp only [List.cons.injEq, and_true] at e0
    obtain ⟨s1, e1, -, w1⟩ := DataW.trod_string Try.underlying9 g1
    simp only [List.cons.injEq, and_true] at e1
    obtain ⟨a2, l2, k2, e2, t2⟩ := slice_cell Try.underlying33 g2
    obtain ⟨s2, n2, m2, i2, w2⟩ := Fil.open_arg t2
    rw [← n2] at i2
    subst e0 e1 e2
    subst n2
    exact ⟨(.string s0, .string s1, .slice a2 s2.length k2), (s0, s1, s2), rfl, ⟨rfl, rfl, i2⟩, ⟨w0, w1, ⟨m2, w2⟩⟩⟩
def tiny (x : E) : Prop := (x.2.2).length ≤ 4194304
set_option maxHeartbeats 2000000 in
theorem to_one {c : C} {x : E} {w : World} (h : Elem w c x) (ht : tiny x) : Calls Try.prog 14 #[.agg #[c.1, c.2.1, c.2.2]] w fun e w' => ∃ c' : C, e = .returned (.agg #[c'.1, c'.2.1, c'.2.2]) ∧ Elem w' c' x ∧ Below w.heap.size w w' := by
  obtain ⟨c0, c1, c2⟩ := c
  obtain ⟨h0, h1, h2⟩ := h
  simp only at h0 h1 h2
  subst h0
  subst h1
  have T2 := hide (fun W (hb : Below w.heap.size w W) => Fil.to_any (h2.below hb) (ht))
  clear h2 ht
  obtain ⟨l2, hl2⟩ : ∃ l, l = (x.2.2).length := ⟨_, rfl⟩
  rw [← hl2] at T2
  have HL2 := hide hl2
  clear hl2
  obtain ⟨N0, hN0⟩ : ∃ N, N = x.1 := ⟨_, rfl⟩
  rw [← hN0]
  have HN0 := hide hN0
  clear hN0
  obtain ⟨N1, hN1⟩ : ∃ N, N = x.2.1 := ⟨_, rfl⟩
  rw [← hN1]
  have HN1 := hide hN1
  clear hN1
  have B := (((Below.refl w.heap.size w).alloc (Nat.le_refl _) (.cells #[.string N0, .string N1, c2] 35)).alloc (by simp) (.cells #[.string ByteArray.empty, .string ByteArray.empty, .slice none 0 0] 40)).alloc (by simp; omega) (.cells #[.string N0, .string N1, .slice none 0 0] 40)
  go_enter Try.func14, Try.ntmps14
  go_wp2_with fail
  refine (unhide T2 _ B).mono ?_
  rintro e v2 ⟨rfl, r2, b2⟩
  obtain ⟨bc2, bf2⟩ := bcell b2
  have z2 := b2.size
  have B2 := B.trans (b2.mono B.size)
  simp only [World.size_alloc] at z2 bc2 bf2 r2 ⊢
  clear b2
  have I2 := hide (show Fil.Is v2 (.slice (some ⟨w.heap.size + 1 + 1 + 1, 0, none⟩) l2 l2) (x.2.2) by rw [unhide HL2] at r2 ⊢; exact Fil.is_of_own r2)
  clear r2
  have Bs2 := B2.setCell (p := ⟨w.heap.size + 1 + 1, 2, none⟩) (by show w.heap.size ≤ w.heap.size + 1 + 1; omega) (.slice (some ⟨w.heap.size + 1 + 1 + 1, 0, none⟩) l2 l2)
  clear B2
  have I2 := hide (((OnlyAt.refl (w.heap.size + 1 + 1) _).setCell 2 (.slice (some ⟨w.heap.size + 1 + 1 + 1, 0, none⟩) l2 l2)).lies (unhide I2) (fun k hk => by cases hk; dsimp only; omega))
  have Br0 := Bs2.setCell (p := ⟨w.heap.size + 1, 0, none⟩) (by show w.heap.size ≤ w.heap.size + 1; omega) (.string N0)
  clear Bs2
  have I2 := hide (((OnlyAt.refl (w.heap.size + 1) _).setCell 0 (.string N0)).lies (unhide I2) (fun k hk => by cases hk; dsimp only; omega))
  have Br1 := Br0.setCell (p := ⟨w.heap.size + 1, 1, none⟩) (by show w.heap.size ≤ w.heap.size + 1; omega) (.string N1)
  clear Br0
  have I2 := hide (((OnlyAt.refl (w.heap.size + 1) _).setCell 1 (.string N1)).lies (unhide I2) (fun k hk => by cases hk; dsimp only; omega))
  have Br2 := Br1.setCell (p := ⟨w.heap.size + 1, 2, none⟩) (by show w.heap.size ≤ w.heap.size + 1; omega) (.slice (some ⟨w.heap.size + 1 + 1 + 1, 0, none⟩) l2 l2)
  clear Br1
  have I2 := hide (((OnlyAt.refl (w.heap.size + 1) _).setCell 2 (.slice (some ⟨w.heap.size + 1 + 1 + 1, 0, none⟩) l2 l2)).lies (unhide I2) (fun k hk => by cases hk; dsimp only; omega))
  go_wp2
  refine bodyPost_ret (v := .agg #[(.string N0), (.string N1), (.slice (some ⟨w.heap.size + 1 + 1 + 1, 0, none⟩) l2 l2)]) (by simp [results, Try.results14, go_sem, bc2]) rfl ⟨((.string N0), (.string N1), (.slice (some ⟨w.heap.size + 1 + 1 + 1, 0, none⟩) l2 l2)), rfl, ⟨by simp only; rw [unhide HN0], by simp only; rw [unhide HN1], unhide I2⟩, Br2⟩
set_option maxHeartbeats 2000000 in
theorem eq_one {c d : C} {x : E} {w : World} (h : Elem w c x) (h' : Elem w d x) : Calls Try.prog 16 #[.agg #[c.1, c.2.1, c.2.2], .agg #[d.1, d.2.1, d.2.2]] w fun e w' => e = .returned (.bool true) ∧ Below w.heap.size w w' := by
  obtain ⟨c0, c1, c2⟩ := c
  obtain ⟨d0, d1, d2⟩ := d
  obtain ⟨h0, h1, h2⟩ := h
  obtain ⟨g0, g1, g2⟩ := h'
  simp only at h0 h1 h2 g0 g1 g2
  subst h0 g0
  subst h1 g1
  have T2 := hide (fun W (hb : Below w.heap.size w W) => Fil.eq_any (h2.below hb) (g2.below hb))
  clear h2 g2
  generalize x.1 = N0
  generalize x.2.1 = N1
  have B := ((Below.refl w.heap.size w).alloc (Nat.le_refl _) (.cells #[.string N0, .string N1, c2] 40)).alloc (by simp) (.cells #[.string N0, .string N1, d2] 40)
  go_enter Try.func16, Try.ntmps16
  go_wp2_with fail
  refine (unhide T2 _ B).mono ?_
  rintro e v2 ⟨rfl, b2⟩
  obtain ⟨bc2, bf2⟩ := bcell b2
  have z2 := b2.size
  have B2 := B.trans (b2.mono B.size)
  simp only [World.size_alloc] at z2 bc2 bf2
  go_wp2
  go_ret
  exact ⟨rfl, B2⟩
def tot (x : E) : Nat := (x.1).size + (x.2.1).size + Fil.tot (x.2.2)
set_option maxHeartbeats 2000000 in
theorem sz_one {c : C} {x : E} {w : World} (left : Int) (h : Elem w c x) (hg : good x) (h0 : 0 ≤ left) (h1 : left ≤ 1048576) :
    Calls Try.prog 12 #[.agg #[c.1, c.2.1, c.2.2], .int .i64 left] w fun e w' => e = .returned (.int .i64 (if left - (tot x : Int) < 0 then -1 else left - (tot x : Int))) ∧ Below w.heap.size w w' := by
  obtain ⟨c0, c1, c2⟩ := c
  obtain ⟨e0, e1, e2⟩ := h
  obtain ⟨g0, g1, g2⟩ := hg
  simp only at e0 e1 e2
  subst e0
  subst e1
  have T2 := hide (fun W (hb : Below w.heap.size w W) (l : Int) (p0 : 0 ≤ l) (p1 : l ≤ 1048576) => Fil.sz_any l (e2.below hb) g2.1 g2.2 p0 p1)
  obtain ⟨t2, ht2⟩ : ∃ t, t = Fil.tot (x.2.2) := ⟨_, rfl⟩
  rw [← ht2] at T2
  have HS : tot x = (x.1).size + (x.2.1).size + t2 := by unfold tot; rw [ht2]
  rw [HS]
  clear HS ht2 e2 g2
  unfold maxLen at g0
  generalize x.1 = N0 at g0 ⊢
  unfold maxLen at g1
  generalize x.2.1 = N1 at g1 ⊢
  have B := (Below.refl w.heap.size w).alloc (Nat.le_refl _) (.cells #[.string N0, .string N1, c2] 35)
  by_cases k0 : left - (N0.size : Int) < 0
  · rw [if_pos (by omega)]
    go_enter Try.func12, Try.ntmps12
    go_wp2_with fail
    go_ret
    exact ⟨rfl, B⟩
  by_cases k1 : left - (N0.size : Int) - (N1.size : Int) < 0
  · rw [if_pos (by omega)]
    go_enter Try.func12, Try.ntmps12
    go_wp2_with fail
    go_ret
    exact ⟨rfl, B⟩
  by_cases k2 : left - (N0.size : Int) - (N1.size : Int) - (t2 : Int) < 0
  · rw [if_pos (by omega)]
    go_enter Try.func12, Try.ntmps12
    go_wp2_with fail
    refine (unhide T2 _ B (left - (N0.size : Int) - (N1.size : Int)) (by omega) (by omega)).mono ?_
    rintro e v2 ⟨rfl, b2⟩
    have B2 := B.trans (b2.mono B.size)
    obtain ⟨bc2, bf2⟩ := bcell b2
    have z2 := b2.size
    simp only [World.size_alloc] at z2 bc2 bf2
    rw [if_pos (by omega)]
    go_wp2_with fail
    go_ret
    exact ⟨rfl, B2⟩
  rw [if_neg (by omega), show left - ((N0.size + N1.size + t2 : Nat) : Int) = left - (N0.size : Int) - (N1.size : Int) - (t2 : Int) from by omega]
  go_enter Try.func12, Try.ntmps12
  go_wp2_with fail
  refine (unhide T2 _ B (left - (N0.size : Int) - (N1.size : Int)) (by omega) (by omega)).mono ?_
  rintro e v2 ⟨rfl, b2⟩
  have B2 := B.trans (b2.mono B.size)
  obtain ⟨bc2, bf2⟩ := bcell b2
  have z2 := b2.size
  simp only [World.size_alloc] at z2 bc2 bf2
  rw [if_neg (by omega)]
  have n2 : 0 ≤ left - (N0.size : Int) - (N1.size : Int) - (t2 : Int) := by omega
  go_wp2_with fail
  go_ret
  exact ⟨rfl, B2⟩
end Go.Proofs.Ytgaecdihjgabaaa.Dsk
