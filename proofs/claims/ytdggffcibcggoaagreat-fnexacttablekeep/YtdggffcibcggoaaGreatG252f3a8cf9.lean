/- My own texts of one claim, laid together by program: TabKeep2, AskCnt, DropCnt. -/
import Derived.Test.YtdggffcibcggoaaGreatG819f54d614
import Derived.Test.YtdggffcibcggoaaGreatGbc1f47bdd4
import Derived.Test.YtdggffcibcggoaaGreatGa0085373af
import Derived.Test.YtdggffcibcggoaaGreatGb7880294f4
/- TableKeep of the model. -/
namespace Go.Proofs.YtdggffcibcggoaaGreat.Tab
open Go.RowKit Rw
set_option linter.unusedVariables false
attribute [local go_sem ↓] Go.wp_at_zero Go.wp_at_succ
set_option maxRecDepth 100000 in
set_option maxHeartbeats 8000000 in
theorem spec_keep {w : World} {v : Value} {zs : List Row.E} (age H F : Int) (hage : age ≤ 9223372036854775807) (h : Row.Is w v zs) (hg : ∀ x ∈ zs, Row.good x) (hlen : zs.length ≤ maxLen) :
    Calls Tryz.prog 9 #[.agg #[v, .int .i64 H, .int .i64 F], .int .i64 age] w fun e w' => ∃ r, e = .returned (.agg #[r, .int .i64 (keep age zs H F).2.1, .int .i64 (keep age zs H F).2.2]) ∧ Row.Own w.heap.size w'.heap.size w' r (keep age zs H F).1 ∧ Below w.heap.size w w' := by
  have H1 := hide (fun W (hb : Below w.heap.size w W) => Row.spec_table (H := H) (F := F) (h.below hb) hg hlen)
  have H3 := hide (fun W (hb : Below w.heap.size w W) (hok : Row.ok zs = true) => spec_copy H F (h.below hb) hok)
  have H4 := hide (fun W (hb : Below w.heap.size w W) (hok : Row.ok zs = true) (G : Int) (u : Value) (hu : Mat.Is W u []) => (by have := Row.l5drop (ms := []) 0 G (h.below hb) hu hg (fun x hx => by cases hx) hok rfl; rw [← l5drop_is hok rfl] at this; exact this))
  obtain ⟨av, nv, cv, ev⟩ : ∃ a n c, v = .slice a n c := by obtain ⟨cs, -, hL, -⟩ := h; obtain ⟨-, a, c, e, -⟩ := hL; exact ⟨a, _, c, e⟩
  clear h hg hlen
  subst ev
  obtain ⟨W, hW⟩ : ∃ W, W = (w.alloc (.cells #[.slice av nv cv, .int .i64 H, .int .i64 F] 28)).alloc (.cells #[.slice none 0 0, .int .i64 0, .int .i64 0] 28) := ⟨_, rfl⟩
  have bW : Below w.heap.size w W := by rw [hW]; exact ((Below.refl _ _).alloc (Nat.le_refl _) _).alloc (by simp) _
  have zW : W.heap.size = w.heap.size + 1 + 1 := by rw [hW]; simp
  have x0_0 : W.cell? ⟨w.heap.size + 1, 0, none⟩ = some (.slice none 0 0) := by rw [hW]; simp [go_sem]
  have g0_0 : W.frozen? ⟨w.heap.size + 1, 0, none⟩ = false := by rw [hW]; simp [go_sem]
  have a0_0 : W.cell? ⟨w.heap.size, 0, none⟩ = some (.slice av nv cv) := by rw [hW]; simp [go_sem]
  have x1_0 : W.cell? ⟨w.heap.size + 1, 1, none⟩ = some (.int .i64 0) := by rw [hW]; simp [go_sem]
  have g1_0 : W.frozen? ⟨w.heap.size + 1, 1, none⟩ = false := by rw [hW]; simp [go_sem]
  have a1_0 : W.cell? ⟨w.heap.size, 1, none⟩ = some (.int .i64 H) := by rw [hW]; simp [go_sem]
  have x2_0 : W.cell? ⟨w.heap.size + 1, 2, none⟩ = some (.int .i64 0) := by rw [hW]; simp [go_sem]
  have g2_0 : W.frozen? ⟨w.heap.size + 1, 2, none⟩ = false := by rw [hW]; simp [go_sem]
  have a2_0 : W.cell? ⟨w.heap.size, 2, none⟩ = some (.int .i64 F) := by rw [hW]; simp [go_sem]
  cases ho : Row.tableB zs H F
  · have HR := hide (show keep age zs H F = ([], 0, 0) by unfold keep; rw [ho]; rfl)
    rw [ho] at H1
    rw [unhide HR]
    clear ho H3 H4 HR
    go_enter Tryz.func9, Tryz.ntmps9
    go_wp2_with fail
    rw [← hW]
    clear hW
    refine (unhide H1 W bW).mono ?_
    rintro e w1 ⟨rfl, b1⟩
    have z1 := b1.size
    have c1 := bW.trans (b1.mono (by omega))
    have x0_1 := (b1.cell (p := ⟨w.heap.size + 1, 0, none⟩) (by show w.heap.size + 1 < _; omega)).trans x0_0
    have g0_1 := (b1.frozen (p := ⟨w.heap.size + 1, 0, none⟩) (by show w.heap.size + 1 < _; omega)).trans g0_0
    have a0_1 := (b1.cell (p := ⟨w.heap.size, 0, none⟩) (by show w.heap.size < _; omega)).trans a0_0
    have x1_1 := (b1.cell (p := ⟨w.heap.size + 1, 1, none⟩) (by show w.heap.size + 1 < _; omega)).trans x1_0
    have g1_1 := (b1.frozen (p := ⟨w.heap.size + 1, 1, none⟩) (by show w.heap.size + 1 < _; omega)).trans g1_0
    have a1_1 := (b1.cell (p := ⟨w.heap.size, 1, none⟩) (by show w.heap.size < _; omega)).trans a1_0
    have x2_1 := (b1.cell (p := ⟨w.heap.size + 1, 2, none⟩) (by show w.heap.size + 1 < _; omega)).trans x2_0
    have g2_1 := (b1.frozen (p := ⟨w.heap.size + 1, 2, none⟩) (by show w.heap.size + 1 < _; omega)).trans g2_0
    have a2_1 := (b1.cell (p := ⟨w.heap.size, 2, none⟩) (by show w.heap.size < _; omega)).trans a2_0
    clear x0_0 x1_0 x2_0 g0_0 g1_0 g2_0 a0_0 a1_0 a2_0
    have on : OnlyAt (w.heap.size + 1) w1 (((w1.setCell ⟨w.heap.size + 1, 0, none⟩ (.slice none 0 0)).setCell ⟨w.heap.size + 1, 1, none⟩ (.int .i64 0)).setCell ⟨w.heap.size + 1, 2, none⟩ (.int .i64 0)) := (((OnlyAt.refl _ _).setCell 0 _).setCell 1 _).setCell 2 _
    have bn := c1.trans (on.below (show w.heap.size ≤ w.heap.size + 1 by omega))
    have On := hide (Row.own_nil w.heap.size (((w1.setCell ⟨w.heap.size + 1, 0, none⟩ (.slice none 0 0)).setCell ⟨w.heap.size + 1, 1, none⟩ (.int .i64 0)).setCell ⟨w.heap.size + 1, 2, none⟩ (.int .i64 0)))
    go_wp2_with fail
    refine bodyPost_ret (v := .agg #[.slice none 0 0, .int .i64 0, .int .i64 0]) (by simp [results, Tryz.results9, go_sem, x0_1, x1_1, x2_1]) rfl ⟨.slice none 0 0, rfl, unhide On, bn⟩
  have hrk := table_ok ho
  have hHF := table_ends ho
  rw [ho] at H1
  by_cases hneg : age < 0
  · have HR := hide (show keep age zs H F = (zs, H, F) by unfold keep; rw [ho, if_pos hneg]; rfl)
    rw [unhide HR]
    have H3' := hide (fun W hb => unhide H3 W hb hrk)
    clear ho hrk hHF H3 H4 HR
    go_enter Tryz.func9, Tryz.ntmps9
    go_wp2_with fail
    rw [← hW]
    clear hW
    refine (unhide H1 W bW).mono ?_
    rintro e w1 ⟨rfl, b1⟩
    have z1 := b1.size
    have c1 := bW.trans (b1.mono (by omega))
    have x0_1 := (b1.cell (p := ⟨w.heap.size + 1, 0, none⟩) (by show w.heap.size + 1 < _; omega)).trans x0_0
    have g0_1 := (b1.frozen (p := ⟨w.heap.size + 1, 0, none⟩) (by show w.heap.size + 1 < _; omega)).trans g0_0
    have a0_1 := (b1.cell (p := ⟨w.heap.size, 0, none⟩) (by show w.heap.size < _; omega)).trans a0_0
    have x1_1 := (b1.cell (p := ⟨w.heap.size + 1, 1, none⟩) (by show w.heap.size + 1 < _; omega)).trans x1_0
    have g1_1 := (b1.frozen (p := ⟨w.heap.size + 1, 1, none⟩) (by show w.heap.size + 1 < _; omega)).trans g1_0
    have a1_1 := (b1.cell (p := ⟨w.heap.size, 1, none⟩) (by show w.heap.size < _; omega)).trans a1_0
    have x2_1 := (b1.cell (p := ⟨w.heap.size + 1, 2, none⟩) (by show w.heap.size + 1 < _; omega)).trans x2_0
    have g2_1 := (b1.frozen (p := ⟨w.heap.size + 1, 2, none⟩) (by show w.heap.size + 1 < _; omega)).trans g2_0
    have a2_1 := (b1.cell (p := ⟨w.heap.size, 2, none⟩) (by show w.heap.size < _; omega)).trans a2_0
    clear x0_0 x1_0 x2_0 g0_0 g1_0 g2_0 a0_0 a1_0 a2_0
    go_wp2_with fail
    refine (unhide H3' w1 c1).mono ?_
    rintro e w3 ⟨r, rfl, o3, b3⟩
    obtain ⟨ra, rl, rq, rfl⟩ := Row.Own.form o3
    have z3 := b3.size
    have x0_3 := (b3.cell (p := ⟨w.heap.size + 1, 0, none⟩) (by show w.heap.size + 1 < _; omega)).trans x0_1
    have g0_3 := (b3.frozen (p := ⟨w.heap.size + 1, 0, none⟩) (by show w.heap.size + 1 < _; omega)).trans g0_1
    have a0_3 := (b3.cell (p := ⟨w.heap.size, 0, none⟩) (by show w.heap.size < _; omega)).trans a0_1
    have x1_3 := (b3.cell (p := ⟨w.heap.size + 1, 1, none⟩) (by show w.heap.size + 1 < _; omega)).trans x1_1
    have g1_3 := (b3.frozen (p := ⟨w.heap.size + 1, 1, none⟩) (by show w.heap.size + 1 < _; omega)).trans g1_1
    have a1_3 := (b3.cell (p := ⟨w.heap.size, 1, none⟩) (by show w.heap.size < _; omega)).trans a1_1
    have x2_3 := (b3.cell (p := ⟨w.heap.size + 1, 2, none⟩) (by show w.heap.size + 1 < _; omega)).trans x2_1
    have g2_3 := (b3.frozen (p := ⟨w.heap.size + 1, 2, none⟩) (by show w.heap.size + 1 < _; omega)).trans g2_1
    have a2_3 := (b3.cell (p := ⟨w.heap.size, 2, none⟩) (by show w.heap.size < _; omega)).trans a2_1
    clear x0_1 x1_1 x2_1 g0_1 g1_1 g2_1 a0_1 a1_1 a2_1
    have on : OnlyAt (w.heap.size + 1) w3 (((w3.setCell ⟨w.heap.size + 1, 0, none⟩ (.slice ra rl rq)).setCell ⟨w.heap.size + 1, 1, none⟩ (.int .i64 H)).setCell ⟨w.heap.size + 1, 2, none⟩ (.int .i64 F)) := (((OnlyAt.refl _ _).setCell 0 _).setCell 1 _).setCell 2 _
    have bn := (c1.trans (b3.mono (by omega))).trans (on.below (show w.heap.size ≤ w.heap.size + 1 by omega))
    have On := hide (o3.zone (Zone.of_only on (Nat.le_refl _) (Nat.lt_succ_self _)) (.inr (by omega)))
    clear o3
    go_wp2_with fail
    refine bodyPost_ret (v := .agg #[.slice ra rl rq, .int .i64 H, .int .i64 F]) (by simp [results, Tryz.results9, go_sem, x0_3, x1_3, x2_3]) rfl ⟨.slice ra rl rq, rfl, (unhide On).wide (by omega) (by simp) (Nat.le_refl _), bn⟩
  have hgn : decide (age < 0) = false := by simp; omega
  obtain ⟨G, hG⟩ : ∃ G, G = keepF H F age := ⟨_, rfl⟩
  have HR := hide (show keep age zs H F = (Row.drop [] 0 G zs, H, G) by unfold keep; rw [ho, if_neg hneg, hG]; rfl)
  rw [unhide HR]
  have H4' := hide (fun W hb u hu => unhide H4 W hb hrk G u hu)
  clear ho hrk H3 H4 HR
  have HFl := hide (fun W' => l6floor H F age av nv cv W' hage (by omega) hHF)
  rw [← hG] at HFl
  clear hG hHF
  go_enter Tryz.func9, Tryz.ntmps9
  go_wp2_with fail
  rw [← hW]
  clear hW
  refine (unhide H1 W bW).mono ?_
  rintro e w1 ⟨rfl, b1⟩
  have z1 := b1.size
  have c1 := bW.trans (b1.mono (by omega))
  have x0_1 := (b1.cell (p := ⟨w.heap.size + 1, 0, none⟩) (by show w.heap.size + 1 < _; omega)).trans x0_0
  have g0_1 := (b1.frozen (p := ⟨w.heap.size + 1, 0, none⟩) (by show w.heap.size + 1 < _; omega)).trans g0_0
  have a0_1 := (b1.cell (p := ⟨w.heap.size, 0, none⟩) (by show w.heap.size < _; omega)).trans a0_0
  have x1_1 := (b1.cell (p := ⟨w.heap.size + 1, 1, none⟩) (by show w.heap.size + 1 < _; omega)).trans x1_0
  have g1_1 := (b1.frozen (p := ⟨w.heap.size + 1, 1, none⟩) (by show w.heap.size + 1 < _; omega)).trans g1_0
  have a1_1 := (b1.cell (p := ⟨w.heap.size, 1, none⟩) (by show w.heap.size < _; omega)).trans a1_0
  have x2_1 := (b1.cell (p := ⟨w.heap.size + 1, 2, none⟩) (by show w.heap.size + 1 < _; omega)).trans x2_0
  have g2_1 := (b1.frozen (p := ⟨w.heap.size + 1, 2, none⟩) (by show w.heap.size + 1 < _; omega)).trans g2_0
  have a2_1 := (b1.cell (p := ⟨w.heap.size, 2, none⟩) (by show w.heap.size < _; omega)).trans a2_0
  clear x0_0 x1_0 x2_0 g0_0 g1_0 g2_0 a0_0 a1_0 a2_0
  go_wp2_with fail
  refine (unhide HFl w1).mono ?_
  rintro e w2 ⟨rfl, b2⟩
  have z2 := b2.size
  have c2 := c1.trans (b2.mono (by omega))
  have x0_2 := (b2.cell (p := ⟨w.heap.size + 1, 0, none⟩) (by show w.heap.size + 1 < _; omega)).trans x0_1
  have g0_2 := (b2.frozen (p := ⟨w.heap.size + 1, 0, none⟩) (by show w.heap.size + 1 < _; omega)).trans g0_1
  have a0_2 := (b2.cell (p := ⟨w.heap.size, 0, none⟩) (by show w.heap.size < _; omega)).trans a0_1
  have x1_2 := (b2.cell (p := ⟨w.heap.size + 1, 1, none⟩) (by show w.heap.size + 1 < _; omega)).trans x1_1
  have g1_2 := (b2.frozen (p := ⟨w.heap.size + 1, 1, none⟩) (by show w.heap.size + 1 < _; omega)).trans g1_1
  have a1_2 := (b2.cell (p := ⟨w.heap.size, 1, none⟩) (by show w.heap.size < _; omega)).trans a1_1
  have x2_2 := (b2.cell (p := ⟨w.heap.size + 1, 2, none⟩) (by show w.heap.size + 1 < _; omega)).trans x2_1
  have g2_2 := (b2.frozen (p := ⟨w.heap.size + 1, 2, none⟩) (by show w.heap.size + 1 < _; omega)).trans g2_1
  have a2_2 := (b2.cell (p := ⟨w.heap.size, 2, none⟩) (by show w.heap.size < _; omega)).trans a2_1
  clear x0_1 x1_1 x2_1 g0_1 g1_1 g2_1 a0_1 a1_1 a2_1
  have S6 : (fun W : World => W.cell? ⟨w.heap.size, 0, none⟩ = some (.slice av nv cv) ∧ W.cell? ⟨w.heap.size, 1, none⟩ = some (.int .i64 H) ∧ W.cell? ⟨w.heap.size, 2, none⟩ = some (.int .i64 F)) w2.drew := ⟨by simpa using a0_2, by simpa using a1_2, by simpa using a2_2⟩
  have c2d := c2.drew
  obtain ⟨w6, hw6⟩ : ∃ w6, w6 = w2.drew.alloc (.cells #[] 81) := ⟨_, rfl⟩
  have b6 : Below w2.drew.heap.size w2.drew w6 := by rw [hw6]; exact (Below.refl _ _).alloc (Nat.le_refl _) _
  have c6 := c2d.trans (b6.mono (by simp; omega))
  have z6 := b6.size
  simp only [World.size_drew] at z6
  have hz6 : w6.heap.size = w2.heap.size + 1 := by rw [hw6]; simp
  have H46 := hide (unhide H4' w6 c6 (.slice (some ⟨w2.heap.size, 0, none⟩) 0 0) (by rw [hw6]; exact Mat.is_of_own (own_empty (w := w2.drew) (base := 0) (Nat.zero_le _))))
  rw [hw6] at H46
  have S6b : (fun W : World => W.cell? ⟨w.heap.size, 0, none⟩ = some (.slice av nv cv) ∧ W.cell? ⟨w.heap.size, 1, none⟩ = some (.int .i64 H) ∧ W.cell? ⟨w.heap.size, 2, none⟩ = some (.int .i64 F)) (w2.drew.alloc (.cells #[] 81)) := by rw [← hw6]; exact ⟨(b6.cell (p := ⟨w.heap.size, 0, none⟩) (by show w.heap.size < _; simp; omega)).trans S6.1, (b6.cell (p := ⟨w.heap.size, 1, none⟩) (by show w.heap.size < _; simp; omega)).trans S6.2.1, (b6.cell (p := ⟨w.heap.size, 2, none⟩) (by show w.heap.size < _; simp; omega)).trans S6.2.2⟩
  have y0 : (w2.drew.alloc (.cells #[] 81)).cell? ⟨w.heap.size + 1, 0, none⟩ = some (.slice none 0 0) := by rw [← hw6]; exact (b6.cell (p := ⟨w.heap.size + 1, 0, none⟩) (by show w.heap.size + 1 < _; simp; omega)).trans (by simpa using x0_2)
  have k0 : (w2.drew.alloc (.cells #[] 81)).frozen? ⟨w.heap.size + 1, 0, none⟩ = false := by rw [← hw6]; exact (b6.frozen (p := ⟨w.heap.size + 1, 0, none⟩) (by show w.heap.size + 1 < _; simp; omega)).trans (by simpa using g0_2)
  have y1 : (w2.drew.alloc (.cells #[] 81)).cell? ⟨w.heap.size + 1, 1, none⟩ = some (.int .i64 0) := by rw [← hw6]; exact (b6.cell (p := ⟨w.heap.size + 1, 1, none⟩) (by show w.heap.size + 1 < _; simp; omega)).trans (by simpa using x1_2)
  have k1 : (w2.drew.alloc (.cells #[] 81)).frozen? ⟨w.heap.size + 1, 1, none⟩ = false := by rw [← hw6]; exact (b6.frozen (p := ⟨w.heap.size + 1, 1, none⟩) (by show w.heap.size + 1 < _; simp; omega)).trans (by simpa using g1_2)
  have y2 : (w2.drew.alloc (.cells #[] 81)).cell? ⟨w.heap.size + 1, 2, none⟩ = some (.int .i64 0) := by rw [← hw6]; exact (b6.cell (p := ⟨w.heap.size + 1, 2, none⟩) (by show w.heap.size + 1 < _; simp; omega)).trans (by simpa using x2_2)
  have k2 : (w2.drew.alloc (.cells #[] 81)).frozen? ⟨w.heap.size + 1, 2, none⟩ = false := by rw [← hw6]; exact (b6.frozen (p := ⟨w.heap.size + 1, 2, none⟩) (by show w.heap.size + 1 < _; simp; omega)).trans (by simpa using g2_2)
  clear H4'
  go_wp2_with fail
  go_region_held3 (fun W => W.cell? ⟨w.heap.size, 0, none⟩ = some (.slice av nv cv) ∧ W.cell? ⟨w.heap.size, 1, none⟩ = some (.int .i64 H) ∧ W.cell? ⟨w.heap.size, 2, none⟩ = some (.int .i64 F)) (first | exact S6 | exact S6b | exact S7 | exact S8) ((go_at_call 38; refine (unhide H46).mono ?_; rintro e w7 ⟨r, rfl, o7, b7⟩; obtain ⟨ra, rl, rq, rfl⟩ := Row.Own.form o7; have z7 := b7.size; simp only [World.size_drew, World.size_alloc] at z7; have x0 := (b7.cell (p := ⟨w.heap.size + 1, 0, none⟩) (by show w.heap.size + 1 < _; simp; omega)).trans y0; have g0 := (b7.frozen (p := ⟨w.heap.size + 1, 0, none⟩) (by show w.heap.size + 1 < _; simp; omega)).trans k0; have x1 := (b7.cell (p := ⟨w.heap.size + 1, 1, none⟩) (by show w.heap.size + 1 < _; simp; omega)).trans y1; have g1 := (b7.frozen (p := ⟨w.heap.size + 1, 1, none⟩) (by show w.heap.size + 1 < _; simp; omega)).trans k1; have x2 := (b7.cell (p := ⟨w.heap.size + 1, 2, none⟩) (by show w.heap.size + 1 < _; simp; omega)).trans y2; have g2 := (b7.frozen (p := ⟨w.heap.size + 1, 2, none⟩) (by show w.heap.size + 1 < _; simp; omega)).trans k2; have S7 : (fun W : World => W.cell? ⟨w.heap.size, 0, none⟩ = some (.slice av nv cv) ∧ W.cell? ⟨w.heap.size, 1, none⟩ = some (.int .i64 H) ∧ W.cell? ⟨w.heap.size, 2, none⟩ = some (.int .i64 F)) w7 := ⟨(b7.cell (p := ⟨w.heap.size, 0, none⟩) (by show w.heap.size < _; simp; omega)).trans S6b.1, (b7.cell (p := ⟨w.heap.size, 1, none⟩) (by show w.heap.size < _; simp; omega)).trans S6b.2.1, (b7.cell (p := ⟨w.heap.size, 2, none⟩) (by show w.heap.size < _; simp; omega)).trans S6b.2.2⟩; have on8 : OnlyAt (w.heap.size + 1) w7 (((w7.setCell ⟨w.heap.size + 1, 0, none⟩ (.slice ra rl rq)).setCell ⟨w.heap.size + 1, 1, none⟩ (.int .i64 H)).setCell ⟨w.heap.size + 1, 2, none⟩ (.int .i64 G)) := (((OnlyAt.refl _ _).setCell 0 _).setCell 1 _).setCell 2 _; have S8 : (fun W : World => W.cell? ⟨w.heap.size, 0, none⟩ = some (.slice av nv cv) ∧ W.cell? ⟨w.heap.size, 1, none⟩ = some (.int .i64 H) ∧ W.cell? ⟨w.heap.size, 2, none⟩ = some (.int .i64 F)) (((w7.setCell ⟨w.heap.size + 1, 0, none⟩ (.slice ra rl rq)).setCell ⟨w.heap.size + 1, 1, none⟩ (.int .i64 H)).setCell ⟨w.heap.size + 1, 2, none⟩ (.int .i64 G)) := ⟨(World.cell?_of_block (a := ⟨w.heap.size, 0, none⟩) (on8.block w.heap.size (show w.heap.size ≠ w.heap.size + 1 by omega))).trans S7.1, (World.cell?_of_block (a := ⟨w.heap.size, 1, none⟩) (on8.block w.heap.size (show w.heap.size ≠ w.heap.size + 1 by omega))).trans S7.2.1, (World.cell?_of_block (a := ⟨w.heap.size, 2, none⟩) (on8.block w.heap.size (show w.heap.size ≠ w.heap.size + 1 by omega))).trans S7.2.2⟩))
  rw [← hw6] at b7
  have cc := c6.trans (b7.mono c6.size)
  have bn := cc.trans (on8.below (show w.heap.size ≤ w.heap.size + 1 by omega))
  have On := hide (o7.zone (Zone.of_only on8 (Nat.le_refl _) (Nat.lt_succ_self _)) (.inr (by simp; omega)))
  clear o7
  go_wp2_with fail
  refine bodyPost_ret (v := .agg #[.slice ra rl rq, .int .i64 H, .int .i64 G]) (by simp [results, Tryz.results9, go_sem, x0, x1, x2]) rfl ⟨.slice ra rl rq, rfl, (unhide On).wide (by simp; omega) (by simp) (Nat.le_refl _), bn⟩
end Go.Proofs.YtdggffcibcggoaaGreat.Tab

/- How much there is at most in what is asked for. -/
namespace Go.Proofs.YtdggffcibcggoaaGreat.Row
open Go.RowKit Rw
theorem cnt_le (L : List E) (M : Nat) (h : ∀ y ∈ L, cntE y ≤ M) : cnt L ≤ L.length * M := by
  unfold cnt cntTo
  rw [List.take_of_length_le (Nat.le_refl _)]
  induction L with
  | nil => simp
  | cons x L ih =>
    have h1 := h x (List.mem_cons_self ..)
    have h2 := ih (fun y hy => h y (List.mem_cons_of_mem _ hy))
    rw [List.map_cons, List.sum_cons, List.length_cons, Nat.succ_mul]
    omega
theorem outL_cnt {g : E → List Sam.E} {zs : List E} (h : ok zs = true) (hg : ∀ i, i < zs.length → (g (at' zs i)).length ≤ 2000) : cnt (outL g zs) ≤ 2097152 ∧ (outL g zs).length ≤ 2097152 := by
  have hl := outL_len g zs
  have h10 := ok_len h
  have h1 := cnt_le (outL g zs) 6000 (fun y hy => by
    rw [← List.take_of_length_le (Nat.le_refl zs.length)] at hy
    obtain ⟨i, hi, e, -⟩ := outL_mem (Nat.le_refl _) hy
    have hs := (Lab.ok_small (step_is (ok_at h hi)).1).1
    have := hg i hi
    rw [e]
    unfold cntE
    simp only
    omega)
  have h2 : (outL g zs).length * 6000 ≤ 10 * 6000 := Nat.mul_le_mul_right _ (by omega)
  omega
theorem ask_cnt (ms : List Mat.E) (f t : Int) (zs : List E) : cnt (ask ms f t zs) ≤ 2097152 ∧ (ask ms f t zs).length ≤ 2097152 := by
  unfold ask
  cases ho : ok zs
  · simp [cnt, cntTo]
  · simp only [if_true]
    refine outL_cnt ho (fun i hi => ?_)
    have := (step_is (ok_at ho hi)).2.2.1
    unfold askG
    split
    · exact Nat.le_trans (List.length_filter_le _ _) (by omega)
    · simp
end Go.Proofs.YtdggffcibcggoaaGreat.Row

/- How much there is at most in what is left. -/
namespace Go.Proofs.YtdggffcibcggoaaGreat.Row
open Go.RowKit Rw
theorem drop_cnt (ms : List Mat.E) (f t : Int) (zs : List E) : cnt (drop ms f t zs) ≤ 2097152 ∧ (drop ms f t zs).length ≤ 2097152 := by
  unfold drop
  by_cases h : ok zs = true ∧ Mat.ok ms = true
  · rw [if_pos h]
    refine outL_cnt h.1 (fun i hi => ?_)
    have := (step_is (ok_at h.1 hi)).2.2.1
    unfold dropG
    split
    · exact Nat.le_trans (List.length_filter_le _ _) (by omega)
    · omega
  · rw [if_neg h]
    simp [cnt, cntTo]
end Go.Proofs.YtdggffcibcggoaaGreat.Row
