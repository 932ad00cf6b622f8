/- My own texts of one claim, laid together by program: RowTiny, TabLaw, TabOk. -/
import Derived.Test.YtdggffcibcggoaaGreatG9b03cbfdba
import Derived.Test.YtdggffcibcggoaaGreatG2ec3ce7ec5
import Derived.Test.YtdggffcibcggoaaGreatGc8a31c483f
/- What is counted is small enough to be copied. No condition. -/
namespace Go.Proofs.YtdggffcibcggoaaGreat.Row
open Go.RowKit Rw
theorem tiny_of {zs : List E} (h : tot zs ≤ 1048576) : zs.length ≤ 2097152 ∧ ∀ x ∈ zs, tiny x := by
  refine ⟨by have := tot_len zs; omega, fun x hx => ?_⟩
  obtain ⟨i, hi, rfl⟩ := List.getElem_of_mem hx
  have h1 := tot_at zs i hi
  rw [at_get zs i hi] at h1
  have h2 := Lab.tot_len (zs[i]).1
  unfold szOf Sam.tot at h1
  exact ⟨by omega, by omega⟩
end Go.Proofs.YtdggffcibcggoaaGreat.Row

/- What the laws' own helpers do with impl.Table: it is copied, held against another, and counted. -/
namespace Go.Proofs.YtdggffcibcggoaaGreat.Tab
open Go.RowKit Rw
set_option linter.unusedVariables false
attribute [local go_sem ↓] Go.wp_at_zero Go.wp_at_succ
abbrev E := List Row.E × Int × Int
abbrev C := Value × Value × Value
def Elem (w : World) (c : C) (x : E) : Prop := Row.Is w (c.1) (x.1) ∧ c.2.1 = .int .i64 (x.2.1) ∧ c.2.2 = .int .i64 (x.2.2)
theorem Elem.below {w w' : World} {c : C} {x : E} (h : Elem w c x) (hb : Below w.heap.size w w') : Elem w' c x := ⟨(h.1).below hb, h.2.1, h.2.2⟩
def good (x : E) : Prop := ((x.1).length ≤ maxLen ∧ ∀ y ∈ x.1, Row.good y) ∧ (Lit.int .i64 (x.2.1)).wf = true ∧ (Lit.int .i64 (x.2.2)).wf = true
set_option maxRecDepth 100000 in
theorem open_cells {H : Type} {enc : TypeId × Value → H} {W : World} {n : Nat} {cs : List Value} {y : DataW H × List MemPlace} (h : DataW.trod enc Tryz.prog W 0 (fun _ => true) true n 24 cs = some y) : ∃ (c : C) (x : E), cs = [c.1, c.2.1, c.2.2] ∧ Elem W c x ∧ good x := by
  have hl : cs.length = 3 := by
    obtain ⟨xs, m, -, -, hl, hxl, hf⟩ := DataW.trod_struct Tryz.underlying24 h
    rw [hl]; kernel_rfl
  obtain ⟨xs, m, -, -, -, hxl, hf⟩ := DataW.trod_struct Tryz.underlying24 h
  match cs, hl, xs, hxl with
  | [c0, c1, c2], _, [y0, y1, y2], _ =>
    have g0 := hf 0 _ rfl
    have g1 := hf 1 _ rfl
    have g2 := hf 2 _ rfl
    have ce0 : Tryz.prog.cellsOf 22 = 1 := by kernel_rfl
    have ce1 : Tryz.prog.cellsOf 3 = 1 := by kernel_rfl
    simp [ce0, ce1] at g0 g1 g2
    obtain ⟨a0, l0, k0, e0, t0⟩ := slice_cell Tryz.underlying22 g0
    obtain ⟨s0, n0, m0, i0, w0⟩ := Row.open_arg t0
    obtain ⟨s1, e1, -, w1⟩ := DataW.trod_int Tryz.underlying3 g1
    simp only [List.cons.injEq, and_true] at e1
    obtain ⟨s2, e2, -, w2⟩ := DataW.trod_int Tryz.underlying3 g2
    simp only [List.cons.injEq, and_true] at e2
    subst e0 e1 e2
    subst n0
    exact ⟨(.slice a0 s0.length k0, .int .i64 s1, .int .i64 s2), (s0, s1, s2), rfl, ⟨i0, rfl, rfl⟩, ⟨⟨m0, w0⟩, w1, w2⟩⟩
def tiny (x : E) : Prop := ((x.1).length ≤ 2097152 ∧ ∀ y ∈ x.1, Row.tiny y)
set_option maxHeartbeats 2000000 in
theorem to_one {c : C} {x : E} {w : World} (h : Elem w c x) (ht : tiny x) : Calls Tryz.prog 10 #[.agg #[c.1, c.2.1, c.2.2]] w fun e w' => ∃ c' : C, e = .returned (.agg #[c'.1, c'.2.1, c'.2.2]) ∧ Elem w' c' x ∧ Below w.heap.size w w' := by
  obtain ⟨c0, c1, c2⟩ := c
  obtain ⟨h0, h1, h2⟩ := h
  simp only at h0 h1 h2
  subst h1
  subst h2
  have T0 := hide (fun W (hb : Below w.heap.size w W) => Row.to_any (h0.below hb) (ht).1 (ht).2)
  clear h0 ht
  obtain ⟨l0, hl0⟩ : ∃ l, l = (x.1).length := ⟨_, rfl⟩
  rw [← hl0] at T0
  have HL0 := hide hl0
  clear hl0
  obtain ⟨N1, hN1⟩ : ∃ N, N = x.2.1 := ⟨_, rfl⟩
  rw [← hN1]
  have HN1 := hide hN1
  clear hN1
  obtain ⟨N2, hN2⟩ : ∃ N, N = x.2.2 := ⟨_, rfl⟩
  rw [← hN2]
  have HN2 := hide hN2
  clear hN2
  have B := (((Below.refl w.heap.size w).alloc (Nat.le_refl _) (.cells #[c0, .int .i64 N1, .int .i64 N2] 24)).alloc (by simp) (.cells #[.slice none 0 0, .int .i64 0, .int .i64 0] 28)).alloc (by simp; omega) (.cells #[.slice none 0 0, .int .i64 0, .int .i64 0] 28)
  go_enter Tryz.func10, Tryz.ntmps10
  go_wp2_with fail
  refine (unhide T0 _ B).mono ?_
  rintro e v0 ⟨rfl, r0, b0⟩
  obtain ⟨bc0, bf0⟩ := bcell b0
  have z0 := b0.size
  have B0 := B.trans (b0.mono B.size)
  simp only [World.size_alloc] at z0 bc0 bf0 r0 ⊢
  clear b0
  have I0 := hide r0
  clear r0
  have Bs0 := B0.setCell (p := ⟨w.heap.size + 1 + 1, 0, none⟩) (by show w.heap.size ≤ w.heap.size + 1 + 1; omega) (.slice (some ⟨w.heap.size + 1 + 1 + 1, 0, none⟩) l0 l0)
  clear B0
  have I0 := hide ((unhide I0).only ((OnlyAt.refl (w.heap.size + 1 + 1) _).setCell 0 (.slice (some ⟨w.heap.size + 1 + 1 + 1, 0, none⟩) l0 l0)) (by omega))
  have Bs1 := Bs0.setCell (p := ⟨w.heap.size + 1 + 1, 1, none⟩) (by show w.heap.size ≤ w.heap.size + 1 + 1; omega) (.int .i64 N1)
  clear Bs0
  have I0 := hide ((unhide I0).only ((OnlyAt.refl (w.heap.size + 1 + 1) _).setCell 1 (.int .i64 N1)) (by omega))
  have Bs2 := Bs1.setCell (p := ⟨w.heap.size + 1 + 1, 2, none⟩) (by show w.heap.size ≤ w.heap.size + 1 + 1; omega) (.int .i64 N2)
  clear Bs1
  have I0 := hide ((unhide I0).only ((OnlyAt.refl (w.heap.size + 1 + 1) _).setCell 2 (.int .i64 N2)) (by omega))
  have Br0 := Bs2.setCell (p := ⟨w.heap.size + 1, 0, none⟩) (by show w.heap.size ≤ w.heap.size + 1; omega) (.slice (some ⟨w.heap.size + 1 + 1 + 1, 0, none⟩) l0 l0)
  clear Bs2
  have I0 := hide ((unhide I0).only ((OnlyAt.refl (w.heap.size + 1) _).setCell 0 (.slice (some ⟨w.heap.size + 1 + 1 + 1, 0, none⟩) l0 l0)) (by omega))
  have Br1 := Br0.setCell (p := ⟨w.heap.size + 1, 1, none⟩) (by show w.heap.size ≤ w.heap.size + 1; omega) (.int .i64 N1)
  clear Br0
  have I0 := hide ((unhide I0).only ((OnlyAt.refl (w.heap.size + 1) _).setCell 1 (.int .i64 N1)) (by omega))
  have Br2 := Br1.setCell (p := ⟨w.heap.size + 1, 2, none⟩) (by show w.heap.size ≤ w.heap.size + 1; omega) (.int .i64 N2)
  clear Br1
  have I0 := hide ((unhide I0).only ((OnlyAt.refl (w.heap.size + 1) _).setCell 2 (.int .i64 N2)) (by omega))
  go_wp2
  refine bodyPost_ret (v := .agg #[(.slice (some ⟨w.heap.size + 1 + 1 + 1, 0, none⟩) l0 l0), (.int .i64 N1), (.int .i64 N2)]) (by simp [results, Tryz.results10, go_sem, bc0]) rfl ⟨((.slice (some ⟨w.heap.size + 1 + 1 + 1, 0, none⟩) l0 l0), (.int .i64 N1), (.int .i64 N2)), rfl, ⟨(unhide I0).is, by simp only; rw [unhide HN1], by simp only; rw [unhide HN2]⟩, Br2⟩
set_option maxHeartbeats 2000000 in
theorem eq_one {c d : C} {x : E} {w : World} (h : Elem w c x) (h' : Elem w d x) : Calls Tryz.prog 12 #[.agg #[c.1, c.2.1, c.2.2], .agg #[d.1, d.2.1, d.2.2]] w fun e w' => e = .returned (.bool true) ∧ Below w.heap.size w w' := by
  obtain ⟨c0, c1, c2⟩ := c
  obtain ⟨d0, d1, d2⟩ := d
  obtain ⟨h0, h1, h2⟩ := h
  obtain ⟨g0, g1, g2⟩ := h'
  simp only at h0 h1 h2 g0 g1 g2
  subst h1 g1
  subst h2 g2
  have T0 := hide (fun W (hb : Below w.heap.size w W) => Row.eq_any (h0.below hb) (g0.below hb))
  clear h0 g0
  generalize x.2.1 = N1
  generalize x.2.2 = N2
  have B := ((Below.refl w.heap.size w).alloc (Nat.le_refl _) (.cells #[c0, .int .i64 N1, .int .i64 N2] 28)).alloc (by simp) (.cells #[d0, .int .i64 N1, .int .i64 N2] 28)
  go_enter Tryz.func12, Tryz.ntmps12
  go_wp2_with fail
  refine (unhide T0 _ B).mono ?_
  rintro e v0 ⟨rfl, b0⟩
  obtain ⟨bc0, bf0⟩ := bcell b0
  have z0 := b0.size
  have B0 := B.trans (b0.mono B.size)
  simp only [World.size_alloc] at z0 bc0 bf0
  go_wp2
  go_ret
  exact ⟨rfl, B0⟩
def tot (x : E) : Nat := Row.tot (x.1)
set_option maxHeartbeats 2000000 in
theorem sz_one {c : C} {x : E} {w : World} (left : Int) (h : Elem w c x) (hg : good x) (h0 : 0 ≤ left) (h1 : left ≤ 1048576) :
    Calls Tryz.prog 8 #[.agg #[c.1, c.2.1, c.2.2], .int .i64 left] w fun e w' => e = .returned (.int .i64 (if left - (tot x : Int) < 0 then -1 else left - (tot x : Int))) ∧ Below w.heap.size w w' := by
  obtain ⟨c0, c1, c2⟩ := c
  obtain ⟨e0, e1, e2⟩ := h
  obtain ⟨g0, g1, g2⟩ := hg
  simp only at e0 e1 e2
  subst e1
  subst e2
  have T0 := hide (fun W (hb : Below w.heap.size w W) (l : Int) (p0 : 0 ≤ l) (p1 : l ≤ 1048576) => Row.sz_any l (e0.below hb) g0.1 g0.2 p0 p1)
  obtain ⟨t0, ht0⟩ : ∃ t, t = Row.tot (x.1) := ⟨_, rfl⟩
  rw [← ht0] at T0
  have HS : tot x = t0 := by unfold tot; rw [ht0]
  rw [HS]
  clear HS ht0 e0 g0 g1 g2
  generalize x.2.1 = N1
  generalize x.2.2 = N2
  have B := (Below.refl w.heap.size w).alloc (Nat.le_refl _) (.cells #[c0, .int .i64 N1, .int .i64 N2] 24)
  by_cases k0 : left - (t0 : Int) < 0
  · rw [if_pos (by omega)]
    go_enter Tryz.func8, Tryz.ntmps8
    go_wp2_with fail
    refine (unhide T0 _ B (left) (by omega) (by omega)).mono ?_
    rintro e v0 ⟨rfl, b0⟩
    have B0 := B.trans (b0.mono B.size)
    obtain ⟨bc0, bf0⟩ := bcell b0
    have z0 := b0.size
    simp only [World.size_alloc] at z0 bc0 bf0
    rw [if_pos (by omega)]
    go_wp2_with fail
    go_ret
    exact ⟨rfl, B0⟩
  rw [if_neg (by omega)]
  go_enter Tryz.func8, Tryz.ntmps8
  go_wp2_with fail
  refine (unhide T0 _ B (left) (by omega) (by omega)).mono ?_
  rintro e v0 ⟨rfl, b0⟩
  have B0 := B.trans (b0.mono B.size)
  obtain ⟨bc0, bf0⟩ := bcell b0
  have z0 := b0.size
  simp only [World.size_alloc] at z0 bc0 bf0
  rw [if_neg (by omega)]
  have n0 : 0 ≤ left - (t0 : Int) := by omega
  go_wp2_with fail
  go_ret
  exact ⟨rfl, B0⟩
end Go.Proofs.YtdggffcibcggoaaGreat.Tab

/- TableOk of the program, at every table. -/
namespace Go.Proofs.YtdggffcibcggoaaGreat.Row
open Go.RowKit Rw
set_option linter.unusedVariables false
attribute [local go_sem ↓] Go.wp_at_zero Go.wp_at_succ
theorem floorB_yes {F : Int} (h0 : 0 ≤ F) (h1 : F ≤ 9999) (h2 : F.tmod 100 = 0) : floorB F = true := by unfold floorB; rw [decide_eq_true h0, decide_eq_true h1, decide_eq_true h2]; rfl
theorem floorB_no {F : Int} (h : ¬ (0 ≤ F ∧ F ≤ 9999 ∧ F.tmod 100 = 0)) : floorB F = false := by
  cases hf : floorB F
  · rfl
  · unfold floorB at hf
    simp only [Bool.and_eq_true, decide_eq_true_eq] at hf
    exact absurd ⟨hf.1.1, hf.1.2, hf.2⟩ h
theorem floor_any (F : Int) (w : World) : Calls Tryz.prog 63 #[.int .i64 F] w fun e w' => e = .returned (.bool (floorB F)) ∧ w' = w := by
  by_cases h0 : 0 ≤ F
  · by_cases h1 : F ≤ 9999
    · obtain ⟨R, hR⟩ : ∃ R, F.tmod 100 = R := ⟨_, rfl⟩
      by_cases h2 : R = 0
      · subst h2
        have HR := hide (floorB_yes h0 h1 hR)
        go_enter Tryz.func63, Tryz.ntmps63
        go_wp2
        go_ret
        exact ⟨ret_bool (unhide HR).symm, rfl⟩
      · have HR := hide (floorB_no (F := F) (fun h => h2 (hR.symm.trans h.2.2)))
        have h2f : (R == 0) = false := by simpa using h2
        go_enter Tryz.func63, Tryz.ntmps63
        go_wp2
        go_ret
        exact ⟨ret_bool (unhide HR).symm, rfl⟩
    · have HR := hide (floorB_no (F := F) (fun h => h1 h.2.1))
      go_enter Tryz.func63, Tryz.ntmps63
      go_wp2
      go_ret
      exact ⟨ret_bool (unhide HR).symm, rfl⟩
  · have HR := hide (floorB_no (F := F) (fun h => h0 h.1))
    go_enter Tryz.func63, Tryz.ntmps63
    go_wp2
    go_ret
    exact ⟨ret_bool (unhide HR).symm, rfl⟩
theorem tableB_no {zs : List E} {H F : Int} (h : ¬ (-1 ≤ H ∧ H ≤ 9999 ∧ floorB F = true ∧ (F = 0 ∨ F ≤ H) ∧ ok zs = true ∧ within zs F (H + 1) = true)) : tableB zs H F = false := by
  cases hf : tableB zs H F
  · rfl
  · unfold tableB at hf
    simp only [Bool.and_eq_true, Bool.or_eq_true, decide_eq_true_eq] at hf
    obtain ⟨⟨⟨⟨⟨a, b⟩, c⟩, d⟩, e⟩, g⟩ := hf
    exact absurd ⟨a, b, c, d, e, g⟩ h
theorem tableB_yes {zs : List E} {H F : Int} (h1 : -1 ≤ H) (h2 : H ≤ 9999) (h3 : floorB F = true) (h4 : F = 0 ∨ F ≤ H) (h5 : ok zs = true) (h6 : within zs F (H + 1) = true) : tableB zs H F = true := by
  unfold tableB
  rw [decide_eq_true h1, decide_eq_true h2, h3, h5, h6]
  rcases h4 with h | h <;> simp [h]
set_option maxRecDepth 100000 in
set_option maxHeartbeats 4000000 in
theorem impl_table {w : World} {v : Value} {zs : List E} {H F : Int} (h : Is w v zs) (hg : ∀ x ∈ zs, good x) (hlen : zs.length ≤ maxLen) : Calls Tryz.prog 28 #[.agg #[v, .int .i64 H, .int .i64 F]] w fun e w' => e = .returned (.bool (tableB zs H F)) ∧ Below w.heap.size w w' := by
  have C1 := hide (fun W (hb : Below w.heap.size w W) => impl_ok (h.below hb) hg hlen)
  have C2 := hide (fun W (hb : Below w.heap.size w W) => within_any F (H + 1) (h.below hb))
  have C3 := hide (fun W => floor_any F W)
  clear h hg hlen
  have B := (Below.refl w.heap.size w).alloc (Nat.le_refl _) (.cells #[v, .int .i64 H, .int .i64 F] 28)
  by_cases h1 : H < -1
  · have HR := hide (tableB_no (zs := zs) (H := H) (F := F) (fun h => by omega))
    go_enter Tryz.func28, Tryz.ntmps28
    go_wp2_with fail
    go_ret
    exact ⟨ret_bool (unhide HR).symm, B⟩
  by_cases h2 : 9999 < H
  · have HR := hide (tableB_no (zs := zs) (H := H) (F := F) (fun h => by omega))
    go_enter Tryz.func28, Tryz.ntmps28
    go_wp2_with fail
    go_ret
    exact ⟨ret_bool (unhide HR).symm, B⟩
  cases h3 : floorB F
  · have HR := hide (tableB_no (zs := zs) (H := H) (F := F) (fun h => by rw [h3] at h; exact absurd h.2.2.1 (by simp)))
    rw [h3] at C3
    clear h3
    go_enter Tryz.func28, Tryz.ntmps28
    go_wp2_with fail
    refine (unhide C3 _).mono ?_
    rintro e v1 ⟨rfl, rfl⟩
    go_wp2_with fail
    go_ret
    exact ⟨ret_bool (unhide HR).symm, B⟩
  rw [h3] at C3
  have h3n : 0 ≤ F := by unfold floorB at h3; simp only [Bool.and_eq_true, decide_eq_true_eq] at h3; exact h3.1.1
  by_cases h4 : 0 < F ∧ H < F
  · have HR := hide (tableB_no (zs := zs) (H := H) (F := F) (fun h => by omega))
    obtain ⟨h4a, h4b⟩ := h4
    clear h3
    go_enter Tryz.func28, Tryz.ntmps28
    go_wp2_with fail
    refine (unhide C3 _).mono ?_
    rintro e v1 ⟨rfl, rfl⟩
    go_wp2_with fail
    go_ret
    exact ⟨ret_bool (unhide HR).symm, B⟩
  by_cases h0 : F = 0
  · subst h0
    clear h4 h3n
    cases h5 : ok zs
    · have HR := hide (tableB_no (zs := zs) (H := H) (F := 0) (fun h => by rw [h5] at h; exact absurd h.2.2.2.2.1 (by simp)))
      rw [h5] at C1
      clear h3 h5
      go_enter Tryz.func28, Tryz.ntmps28
      go_wp2_with fail
      refine (unhide C3 _).mono ?_
      rintro e v1 ⟨rfl, rfl⟩
      go_wp2_with fail
      refine (unhide C1 _ B).mono ?_
      rintro e v2 ⟨rfl, b2⟩
      have B2 := B.trans (b2.mono B.size)
      obtain ⟨bc, bf⟩ := bcell b2
      simp only [World.size_alloc] at bc bf
      go_wp2_with fail
      go_ret
      exact ⟨ret_bool (unhide HR).symm, B2⟩
    · rw [h5] at C1
      cases h6 : within zs 0 (H + 1)
      · have HR := hide (tableB_no (zs := zs) (H := H) (F := 0) (fun h => by rw [h6] at h; exact absurd h.2.2.2.2.2 (by simp)))
        rw [h6] at C2
        clear h3 h5 h6
        go_enter Tryz.func28, Tryz.ntmps28
        go_wp2_with fail
        refine (unhide C3 _).mono ?_
        rintro e v1 ⟨rfl, rfl⟩
        go_wp2_with fail
        refine (unhide C1 _ B).mono ?_
        rintro e v2 ⟨rfl, b2⟩
        have B2 := B.trans (b2.mono B.size)
        obtain ⟨bc, bf⟩ := bcell b2
        simp only [World.size_alloc] at bc bf
        go_wp2_with fail
        refine (unhide C2 _ B2).mono ?_
        rintro e v3 ⟨rfl, b3⟩
        have B3 := B2.trans (b3.mono B2.size)
        go_wp2_with fail
        go_ret
        exact ⟨ret_bool (unhide HR).symm, B3⟩
      · have HR := hide (tableB_yes (zs := zs) (H := H) (F := 0) (by omega) (by omega) h3 (.inl rfl) h5 h6)
        rw [h6] at C2
        clear h3 h5 h6
        go_enter Tryz.func28, Tryz.ntmps28
        go_wp2_with fail
        refine (unhide C3 _).mono ?_
        rintro e v1 ⟨rfl, rfl⟩
        go_wp2_with fail
        refine (unhide C1 _ B).mono ?_
        rintro e v2 ⟨rfl, b2⟩
        have B2 := B.trans (b2.mono B.size)
        obtain ⟨bc, bf⟩ := bcell b2
        simp only [World.size_alloc] at bc bf
        go_wp2_with fail
        refine (unhide C2 _ B2).mono ?_
        rintro e v3 ⟨rfl, b3⟩
        have B3 := B2.trans (b3.mono B2.size)
        go_wp2_with fail
        go_ret
        exact ⟨ret_bool (unhide HR).symm, B3⟩
  · have h0p : 0 < F := by omega
    have h0q : ¬ H < F := by omega
    clear h4
    cases h5 : ok zs
    · have HR := hide (tableB_no (zs := zs) (H := H) (F := F) (fun h => by rw [h5] at h; exact absurd h.2.2.2.2.1 (by simp)))
      rw [h5] at C1
      clear h3 h5
      go_enter Tryz.func28, Tryz.ntmps28
      go_wp2_with fail
      refine (unhide C3 _).mono ?_
      rintro e v1 ⟨rfl, rfl⟩
      go_wp2_with fail
      refine (unhide C1 _ B).mono ?_
      rintro e v2 ⟨rfl, b2⟩
      have B2 := B.trans (b2.mono B.size)
      obtain ⟨bc, bf⟩ := bcell b2
      simp only [World.size_alloc] at bc bf
      go_wp2_with fail
      go_ret
      exact ⟨ret_bool (unhide HR).symm, B2⟩
    · rw [h5] at C1
      cases h6 : within zs F (H + 1)
      · have HR := hide (tableB_no (zs := zs) (H := H) (F := F) (fun h => by rw [h6] at h; exact absurd h.2.2.2.2.2 (by simp)))
        rw [h6] at C2
        clear h3 h5 h6
        go_enter Tryz.func28, Tryz.ntmps28
        go_wp2_with fail
        refine (unhide C3 _).mono ?_
        rintro e v1 ⟨rfl, rfl⟩
        go_wp2_with fail
        refine (unhide C1 _ B).mono ?_
        rintro e v2 ⟨rfl, b2⟩
        have B2 := B.trans (b2.mono B.size)
        obtain ⟨bc, bf⟩ := bcell b2
        simp only [World.size_alloc] at bc bf
        go_wp2_with fail
        refine (unhide C2 _ B2).mono ?_
        rintro e v3 ⟨rfl, b3⟩
        have B3 := B2.trans (b3.mono B2.size)
        go_wp2_with fail
        go_ret
        exact ⟨ret_bool (unhide HR).symm, B3⟩
      · have HR := hide (tableB_yes (zs := zs) (H := H) (F := F) (by omega) (by omega) h3 (by omega) h5 h6)
        rw [h6] at C2
        clear h3 h5 h6
        go_enter Tryz.func28, Tryz.ntmps28
        go_wp2_with fail
        refine (unhide C3 _).mono ?_
        rintro e v1 ⟨rfl, rfl⟩
        go_wp2_with fail
        refine (unhide C1 _ B).mono ?_
        rintro e v2 ⟨rfl, b2⟩
        have B2 := B.trans (b2.mono B.size)
        obtain ⟨bc, bf⟩ := bcell b2
        simp only [World.size_alloc] at bc bf
        go_wp2_with fail
        refine (unhide C2 _ B2).mono ?_
        rintro e v3 ⟨rfl, b3⟩
        have B3 := B2.trans (b3.mono B2.size)
        go_wp2_with fail
        go_ret
        exact ⟨ret_bool (unhide HR).symm, B3⟩
end Go.Proofs.YtdggffcibcggoaaGreat.Row
