/- My own texts of one claim, laid together by program: TabKeep2, TabNew, DrawSampG, DrawRows. -/
import Derived.Test.YtlboekimnhgfdaaGreatGb95247b3ff
import Derived.Test.YtlboekimnhgfdaaGreatG4314fff0a5
import Derived.Test.YtlboekimnhgfdaaGreatGb44f913d17
import Derived.Test.YtlboekimnhgfdaaGreatG914d26d0fc
import Derived.Test.YtlboekimnhgfdaaGreatGa36464ee95
/- TableKeep of the model. -/
namespace Go.Proofs.YtlboekimnhgfdaaGreat.Tab
open Go.RowKit Rw
set_option linter.unusedVariables false
attribute [local go_sem ↓] Go.wp_at_zero Go.wp_at_succ
set_option maxRecDepth 100000 in
set_option maxHeartbeats 8000000 in
theorem spec_keep {w : World} {v : Value} {zs : List Row.E} (age H F : Int) (hage : age ≤ 9223372036854775807) (h : Row.Is w v zs) (hg : ∀ x ∈ zs, Row.good x) (hlen : zs.length ≤ maxLen) :
    Calls Tryz.prog 36 #[.agg #[v, .int .i64 H, .int .i64 F], .int .i64 age] w fun e w' => ∃ r, e = .returned (.agg #[r, .int .i64 (keep age zs H F).2.1, .int .i64 (keep age zs H F).2.2]) ∧ Row.Own w.heap.size w'.heap.size w' r (keep age zs H F).1 ∧ Below w.heap.size w w' := by
  have H1 := hide (fun W (hb : Below w.heap.size w W) => Row.spec_table (H := H) (F := F) (h.below hb) hg hlen)
  have H3 := hide (fun W (hb : Below w.heap.size w W) (hok : Row.ok zs = true) => spec_copy H F (h.below hb) hok)
  have H4 := hide (fun W (hb : Below w.heap.size w W) (hok : Row.ok zs = true) (G : Int) (u : Value) (hu : Mat.Is W u []) => (by have := Row.l5drop (ms := []) 0 G (h.below hb) hu hg (fun x hx => by cases hx) hok rfl; rw [← l5drop_is hok rfl] at this; exact this))
  obtain ⟨av, nv, cv, ev⟩ : ∃ a n c, v = .slice a n c := by obtain ⟨cs, -, hL, -⟩ := h; obtain ⟨-, a, c, e, -⟩ := hL; exact ⟨a, _, c, e⟩
  clear h hg hlen
  subst ev
  obtain ⟨W, hW⟩ : ∃ W, W = (w.alloc (.cells #[.slice av nv cv, .int .i64 H, .int .i64 F] 30)).alloc (.cells #[.slice none 0 0, .int .i64 0, .int .i64 0] 30) := ⟨_, rfl⟩
  have bW : Below w.heap.size w W := by rw [hW]; exact ((Below.refl _ _).alloc (Nat.le_refl _) _).alloc (by simp) _
  have zW : W.heap.size = w.heap.size + 1 + 1 := by rw [hW]; simp
  have x0_0 : W.cell? ⟨w.heap.size + 1, 0, none⟩ = some (.slice none 0 0) := by rw [hW]; simp [go_sem]
  have g0_0 : W.frozen? ⟨w.heap.size + 1, 0, none⟩ = false := by rw [hW]; simp [go_sem]
  have a0_0 : W.cell? ⟨w.heap.size, 0, none⟩ = some (.slice av nv cv) := by rw [hW]; simp [go_sem]
  have x1_0 : W.cell? ⟨w.heap.size + 1, 1, none⟩ = some (.int .i64 0) := by rw [hW]; simp [go_sem]
  have g1_0 : W.frozen? ⟨w.heap.size + 1, 1, none⟩ = false := by rw [hW]; simp [go_sem]
  have a1_0 : W.cell? ⟨w.heap.size, 1, none⟩ = some (.int .i64 H) := by rw [hW]; simp [go_sem]
  have x2_0 : W.cell? ⟨w.heap.size + 1, 2, none⟩ = some (.int .i64 0) := by rw [hW]; simp [go_sem]
  have g2_0 : W.frozen? ⟨w.heap.size + 1, 2, none⟩ = false := by rw [hW]; simp [go_sem]
  have a2_0 : W.cell? ⟨w.heap.size, 2, none⟩ = some (.int .i64 F) := by rw [hW]; simp [go_sem]
  cases ho : Row.tableB zs H F
  · have HR := hide (show keep age zs H F = ([], 0, 0) by unfold keep; rw [ho]; rfl)
    rw [ho] at H1
    rw [unhide HR]
    clear ho H3 H4 HR
    go_enter Tryz.func36, Tryz.ntmps36
    go_wp2_with fail
    rw [← hW]
    clear hW
    refine (unhide H1 W bW).mono ?_
    rintro e w1 ⟨rfl, b1⟩
    have z1 := b1.size
    have c1 := bW.trans (b1.mono (by omega))
    have x0_1 := (b1.cell (p := ⟨w.heap.size + 1, 0, none⟩) (by show w.heap.size + 1 < _; omega)).trans x0_0
    have g0_1 := (b1.frozen (p := ⟨w.heap.size + 1, 0, none⟩) (by show w.heap.size + 1 < _; omega)).trans g0_0
    have a0_1 := (b1.cell (p := ⟨w.heap.size, 0, none⟩) (by show w.heap.size < _; omega)).trans a0_0
    have x1_1 := (b1.cell (p := ⟨w.heap.size + 1, 1, none⟩) (by show w.heap.size + 1 < _; omega)).trans x1_0
    have g1_1 := (b1.frozen (p := ⟨w.heap.size + 1, 1, none⟩) (by show w.heap.size + 1 < _; omega)).trans g1_0
    have a1_1 := (b1.cell (p := ⟨w.heap.size, 1, none⟩) (by show w.heap.size < _; omega)).trans a1_0
    have x2_1 := (b1.cell (p := ⟨w.heap.size + 1, 2, none⟩) (by show w.heap.size + 1 < _; omega)).trans x2_0
    have g2_1 := (b1.frozen (p := ⟨w.heap.size + 1, 2, none⟩) (by show w.heap.size + 1 < _; omega)).trans g2_0
    have a2_1 := (b1.cell (p := ⟨w.heap.size, 2, none⟩) (by show w.heap.size < _; omega)).trans a2_0
    clear x0_0 x1_0 x2_0 g0_0 g1_0 g2_0 a0_0 a1_0 a2_0
    have on : OnlyAt (w.heap.size + 1) w1 (((w1.setCell ⟨w.heap.size + 1, 0, none⟩ (.slice none 0 0)).setCell ⟨w.heap.size + 1, 1, none⟩ (.int .i64 0)).setCell ⟨w.heap.size + 1, 2, none⟩ (.int .i64 0)) := (((OnlyAt.refl _ _).setCell 0 _).setCell 1 _).setCell 2 _
    have bn := c1.trans (on.below (show w.heap.size ≤ w.heap.size + 1 by omega))
    have On := hide (Row.own_nil w.heap.size (((w1.setCell ⟨w.heap.size + 1, 0, none⟩ (.slice none 0 0)).setCell ⟨w.heap.size + 1, 1, none⟩ (.int .i64 0)).setCell ⟨w.heap.size + 1, 2, none⟩ (.int .i64 0)))
    go_wp2_with fail
    refine bodyPost_ret (v := .agg #[.slice none 0 0, .int .i64 0, .int .i64 0]) (by simp [results, Tryz.results36, go_sem, x0_1, x1_1, x2_1]) rfl ⟨.slice none 0 0, rfl, unhide On, bn⟩
  have hrk := table_ok ho
  have hHF := table_ends ho
  rw [ho] at H1
  by_cases hneg : age < 0
  · have HR := hide (show keep age zs H F = (zs, H, F) by unfold keep; rw [ho, if_pos hneg]; rfl)
    rw [unhide HR]
    have H3' := hide (fun W hb => unhide H3 W hb hrk)
    clear ho hrk hHF H3 H4 HR
    go_enter Tryz.func36, Tryz.ntmps36
    go_wp2_with fail
    rw [← hW]
    clear hW
    refine (unhide H1 W bW).mono ?_
    rintro e w1 ⟨rfl, b1⟩
    have z1 := b1.size
    have c1 := bW.trans (b1.mono (by omega))
    have x0_1 := (b1.cell (p := ⟨w.heap.size + 1, 0, none⟩) (by show w.heap.size + 1 < _; omega)).trans x0_0
    have g0_1 := (b1.frozen (p := ⟨w.heap.size + 1, 0, none⟩) (by show w.heap.size + 1 < _; omega)).trans g0_0
    have a0_1 := (b1.cell (p := ⟨w.heap.size, 0, none⟩) (by show w.heap.size < _; omega)).trans a0_0
    have x1_1 := (b1.cell (p := ⟨w.heap.size + 1, 1, none⟩) (by show w.heap.size + 1 < _; omega)).trans x1_0
    have g1_1 := (b1.frozen (p := ⟨w.heap.size + 1, 1, none⟩) (by show w.heap.size + 1 < _; omega)).trans g1_0
    have a1_1 := (b1.cell (p := ⟨w.heap.size, 1, none⟩) (by show w.heap.size < _; omega)).trans a1_0
    have x2_1 := (b1.cell (p := ⟨w.heap.size + 1, 2, none⟩) (by show w.heap.size + 1 < _; omega)).trans x2_0
    have g2_1 := (b1.frozen (p := ⟨w.heap.size + 1, 2, none⟩) (by show w.heap.size + 1 < _; omega)).trans g2_0
    have a2_1 := (b1.cell (p := ⟨w.heap.size, 2, none⟩) (by show w.heap.size < _; omega)).trans a2_0
    clear x0_0 x1_0 x2_0 g0_0 g1_0 g2_0 a0_0 a1_0 a2_0
    go_wp2_with fail
    refine (unhide H3' w1 c1).mono ?_
    rintro e w3 ⟨r, rfl, o3, b3⟩
    obtain ⟨ra, rl, rq, rfl⟩ := Row.Own.form o3
    have z3 := b3.size
    have x0_3 := (b3.cell (p := ⟨w.heap.size + 1, 0, none⟩) (by show w.heap.size + 1 < _; omega)).trans x0_1
    have g0_3 := (b3.frozen (p := ⟨w.heap.size + 1, 0, none⟩) (by show w.heap.size + 1 < _; omega)).trans g0_1
    have a0_3 := (b3.cell (p := ⟨w.heap.size, 0, none⟩) (by show w.heap.size < _; omega)).trans a0_1
    have x1_3 := (b3.cell (p := ⟨w.heap.size + 1, 1, none⟩) (by show w.heap.size + 1 < _; omega)).trans x1_1
    have g1_3 := (b3.frozen (p := ⟨w.heap.size + 1, 1, none⟩) (by show w.heap.size + 1 < _; omega)).trans g1_1
    have a1_3 := (b3.cell (p := ⟨w.heap.size, 1, none⟩) (by show w.heap.size < _; omega)).trans a1_1
    have x2_3 := (b3.cell (p := ⟨w.heap.size + 1, 2, none⟩) (by show w.heap.size + 1 < _; omega)).trans x2_1
    have g2_3 := (b3.frozen (p := ⟨w.heap.size + 1, 2, none⟩) (by show w.heap.size + 1 < _; omega)).trans g2_1
    have a2_3 := (b3.cell (p := ⟨w.heap.size, 2, none⟩) (by show w.heap.size < _; omega)).trans a2_1
    clear x0_1 x1_1 x2_1 g0_1 g1_1 g2_1 a0_1 a1_1 a2_1
    have on : OnlyAt (w.heap.size + 1) w3 (((w3.setCell ⟨w.heap.size + 1, 0, none⟩ (.slice ra rl rq)).setCell ⟨w.heap.size + 1, 1, none⟩ (.int .i64 H)).setCell ⟨w.heap.size + 1, 2, none⟩ (.int .i64 F)) := (((OnlyAt.refl _ _).setCell 0 _).setCell 1 _).setCell 2 _
    have bn := (c1.trans (b3.mono (by omega))).trans (on.below (show w.heap.size ≤ w.heap.size + 1 by omega))
    have On := hide (o3.zone (Zone.of_only on (Nat.le_refl _) (Nat.lt_succ_self _)) (.inr (by omega)))
    clear o3
    go_wp2_with fail
    refine bodyPost_ret (v := .agg #[.slice ra rl rq, .int .i64 H, .int .i64 F]) (by simp [results, Tryz.results36, go_sem, x0_3, x1_3, x2_3]) rfl ⟨.slice ra rl rq, rfl, (unhide On).wide (by omega) (by simp) (Nat.le_refl _), bn⟩
  have hgn : decide (age < 0) = false := by simp; omega
  obtain ⟨G, hG⟩ : ∃ G, G = keepF H F age := ⟨_, rfl⟩
  have HR := hide (show keep age zs H F = (Row.drop [] 0 G zs, H, G) by unfold keep; rw [ho, if_neg hneg, hG]; rfl)
  rw [unhide HR]
  have H4' := hide (fun W hb u hu => unhide H4 W hb hrk G u hu)
  clear ho hrk H3 H4 HR
  have HFl := hide (fun W' => l6floor H F age av nv cv W' hage (by omega) hHF)
  rw [← hG] at HFl
  clear hG hHF
  go_enter Tryz.func36, Tryz.ntmps36
  go_wp2_with fail
  rw [← hW]
  clear hW
  refine (unhide H1 W bW).mono ?_
  rintro e w1 ⟨rfl, b1⟩
  have z1 := b1.size
  have c1 := bW.trans (b1.mono (by omega))
  have x0_1 := (b1.cell (p := ⟨w.heap.size + 1, 0, none⟩) (by show w.heap.size + 1 < _; omega)).trans x0_0
  have g0_1 := (b1.frozen (p := ⟨w.heap.size + 1, 0, none⟩) (by show w.heap.size + 1 < _; omega)).trans g0_0
  have a0_1 := (b1.cell (p := ⟨w.heap.size, 0, none⟩) (by show w.heap.size < _; omega)).trans a0_0
  have x1_1 := (b1.cell (p := ⟨w.heap.size + 1, 1, none⟩) (by show w.heap.size + 1 < _; omega)).trans x1_0
  have g1_1 := (b1.frozen (p := ⟨w.heap.size + 1, 1, none⟩) (by show w.heap.size + 1 < _; omega)).trans g1_0
  have a1_1 := (b1.cell (p := ⟨w.heap.size, 1, none⟩) (by show w.heap.size < _; omega)).trans a1_0
  have x2_1 := (b1.cell (p := ⟨w.heap.size + 1, 2, none⟩) (by show w.heap.size + 1 < _; omega)).trans x2_0
  have g2_1 := (b1.frozen (p := ⟨w.heap.size + 1, 2, none⟩) (by show w.heap.size + 1 < _; omega)).trans g2_0
  have a2_1 := (b1.cell (p := ⟨w.heap.size, 2, none⟩) (by show w.heap.size < _; omega)).trans a2_0
  clear x0_0 x1_0 x2_0 g0_0 g1_0 g2_0 a0_0 a1_0 a2_0
  go_wp2_with fail
  refine (unhide HFl w1).mono ?_
  rintro e w2 ⟨rfl, b2⟩
  have z2 := b2.size
  have c2 := c1.trans (b2.mono (by omega))
  have x0_2 := (b2.cell (p := ⟨w.heap.size + 1, 0, none⟩) (by show w.heap.size + 1 < _; omega)).trans x0_1
  have g0_2 := (b2.frozen (p := ⟨w.heap.size + 1, 0, none⟩) (by show w.heap.size + 1 < _; omega)).trans g0_1
  have a0_2 := (b2.cell (p := ⟨w.heap.size, 0, none⟩) (by show w.heap.size < _; omega)).trans a0_1
  have x1_2 := (b2.cell (p := ⟨w.heap.size + 1, 1, none⟩) (by show w.heap.size + 1 < _; omega)).trans x1_1
  have g1_2 := (b2.frozen (p := ⟨w.heap.size + 1, 1, none⟩) (by show w.heap.size + 1 < _; omega)).trans g1_1
  have a1_2 := (b2.cell (p := ⟨w.heap.size, 1, none⟩) (by show w.heap.size < _; omega)).trans a1_1
  have x2_2 := (b2.cell (p := ⟨w.heap.size + 1, 2, none⟩) (by show w.heap.size + 1 < _; omega)).trans x2_1
  have g2_2 := (b2.frozen (p := ⟨w.heap.size + 1, 2, none⟩) (by show w.heap.size + 1 < _; omega)).trans g2_1
  have a2_2 := (b2.cell (p := ⟨w.heap.size, 2, none⟩) (by show w.heap.size < _; omega)).trans a2_1
  clear x0_1 x1_1 x2_1 g0_1 g1_1 g2_1 a0_1 a1_1 a2_1
  have S6 : (fun W : World => W.cell? ⟨w.heap.size, 0, none⟩ = some (.slice av nv cv) ∧ W.cell? ⟨w.heap.size, 1, none⟩ = some (.int .i64 H) ∧ W.cell? ⟨w.heap.size, 2, none⟩ = some (.int .i64 F)) w2.drew := ⟨by simpa using a0_2, by simpa using a1_2, by simpa using a2_2⟩
  have c2d := c2.drew
  obtain ⟨w6, hw6⟩ : ∃ w6, w6 = w2.drew.alloc (.cells #[] 86) := ⟨_, rfl⟩
  have b6 : Below w2.drew.heap.size w2.drew w6 := by rw [hw6]; exact (Below.refl _ _).alloc (Nat.le_refl _) _
  have c6 := c2d.trans (b6.mono (by simp; omega))
  have z6 := b6.size
  simp only [World.size_drew] at z6
  have hz6 : w6.heap.size = w2.heap.size + 1 := by rw [hw6]; simp
  have H46 := hide (unhide H4' w6 c6 (.slice (some ⟨w2.heap.size, 0, none⟩) 0 0) (by rw [hw6]; exact Mat.is_of_own (own_empty (w := w2.drew) (base := 0) (Nat.zero_le _))))
  rw [hw6] at H46
  have S6b : (fun W : World => W.cell? ⟨w.heap.size, 0, none⟩ = some (.slice av nv cv) ∧ W.cell? ⟨w.heap.size, 1, none⟩ = some (.int .i64 H) ∧ W.cell? ⟨w.heap.size, 2, none⟩ = some (.int .i64 F)) (w2.drew.alloc (.cells #[] 86)) := by rw [← hw6]; exact ⟨(b6.cell (p := ⟨w.heap.size, 0, none⟩) (by show w.heap.size < _; simp; omega)).trans S6.1, (b6.cell (p := ⟨w.heap.size, 1, none⟩) (by show w.heap.size < _; simp; omega)).trans S6.2.1, (b6.cell (p := ⟨w.heap.size, 2, none⟩) (by show w.heap.size < _; simp; omega)).trans S6.2.2⟩
  have y0 : (w2.drew.alloc (.cells #[] 86)).cell? ⟨w.heap.size + 1, 0, none⟩ = some (.slice none 0 0) := by rw [← hw6]; exact (b6.cell (p := ⟨w.heap.size + 1, 0, none⟩) (by show w.heap.size + 1 < _; simp; omega)).trans (by simpa using x0_2)
  have k0 : (w2.drew.alloc (.cells #[] 86)).frozen? ⟨w.heap.size + 1, 0, none⟩ = false := by rw [← hw6]; exact (b6.frozen (p := ⟨w.heap.size + 1, 0, none⟩) (by show w.heap.size + 1 < _; simp; omega)).trans (by simpa using g0_2)
  have y1 : (w2.drew.alloc (.cells #[] 86)).cell? ⟨w.heap.size + 1, 1, none⟩ = some (.int .i64 0) := by rw [← hw6]; exact (b6.cell (p := ⟨w.heap.size + 1, 1, none⟩) (by show w.heap.size + 1 < _; simp; omega)).trans (by simpa using x1_2)
  have k1 : (w2.drew.alloc (.cells #[] 86)).frozen? ⟨w.heap.size + 1, 1, none⟩ = false := by rw [← hw6]; exact (b6.frozen (p := ⟨w.heap.size + 1, 1, none⟩) (by show w.heap.size + 1 < _; simp; omega)).trans (by simpa using g1_2)
  have y2 : (w2.drew.alloc (.cells #[] 86)).cell? ⟨w.heap.size + 1, 2, none⟩ = some (.int .i64 0) := by rw [← hw6]; exact (b6.cell (p := ⟨w.heap.size + 1, 2, none⟩) (by show w.heap.size + 1 < _; simp; omega)).trans (by simpa using x2_2)
  have k2 : (w2.drew.alloc (.cells #[] 86)).frozen? ⟨w.heap.size + 1, 2, none⟩ = false := by rw [← hw6]; exact (b6.frozen (p := ⟨w.heap.size + 1, 2, none⟩) (by show w.heap.size + 1 < _; simp; omega)).trans (by simpa using g2_2)
  clear H4'
  go_wp2_with fail
  go_region_held3 (fun W => W.cell? ⟨w.heap.size, 0, none⟩ = some (.slice av nv cv) ∧ W.cell? ⟨w.heap.size, 1, none⟩ = some (.int .i64 H) ∧ W.cell? ⟨w.heap.size, 2, none⟩ = some (.int .i64 F)) (first | exact S6 | exact S6b | exact S7 | exact S8) ((go_at_call 58; refine (unhide H46).mono ?_; rintro e w7 ⟨r, rfl, o7, b7⟩; obtain ⟨ra, rl, rq, rfl⟩ := Row.Own.form o7; have z7 := b7.size; simp only [World.size_drew, World.size_alloc] at z7; have x0 := (b7.cell (p := ⟨w.heap.size + 1, 0, none⟩) (by show w.heap.size + 1 < _; simp; omega)).trans y0; have g0 := (b7.frozen (p := ⟨w.heap.size + 1, 0, none⟩) (by show w.heap.size + 1 < _; simp; omega)).trans k0; have x1 := (b7.cell (p := ⟨w.heap.size + 1, 1, none⟩) (by show w.heap.size + 1 < _; simp; omega)).trans y1; have g1 := (b7.frozen (p := ⟨w.heap.size + 1, 1, none⟩) (by show w.heap.size + 1 < _; simp; omega)).trans k1; have x2 := (b7.cell (p := ⟨w.heap.size + 1, 2, none⟩) (by show w.heap.size + 1 < _; simp; omega)).trans y2; have g2 := (b7.frozen (p := ⟨w.heap.size + 1, 2, none⟩) (by show w.heap.size + 1 < _; simp; omega)).trans k2; have S7 : (fun W : World => W.cell? ⟨w.heap.size, 0, none⟩ = some (.slice av nv cv) ∧ W.cell? ⟨w.heap.size, 1, none⟩ = some (.int .i64 H) ∧ W.cell? ⟨w.heap.size, 2, none⟩ = some (.int .i64 F)) w7 := ⟨(b7.cell (p := ⟨w.heap.size, 0, none⟩) (by show w.heap.size < _; simp; omega)).trans S6b.1, (b7.cell (p := ⟨w.heap.size, 1, none⟩) (by show w.heap.size < _; simp; omega)).trans S6b.2.1, (b7.cell (p := ⟨w.heap.size, 2, none⟩) (by show w.heap.size < _; simp; omega)).trans S6b.2.2⟩; have on8 : OnlyAt (w.heap.size + 1) w7 (((w7.setCell ⟨w.heap.size + 1, 0, none⟩ (.slice ra rl rq)).setCell ⟨w.heap.size + 1, 1, none⟩ (.int .i64 H)).setCell ⟨w.heap.size + 1, 2, none⟩ (.int .i64 G)) := (((OnlyAt.refl _ _).setCell 0 _).setCell 1 _).setCell 2 _; have S8 : (fun W : World => W.cell? ⟨w.heap.size, 0, none⟩ = some (.slice av nv cv) ∧ W.cell? ⟨w.heap.size, 1, none⟩ = some (.int .i64 H) ∧ W.cell? ⟨w.heap.size, 2, none⟩ = some (.int .i64 F)) (((w7.setCell ⟨w.heap.size + 1, 0, none⟩ (.slice ra rl rq)).setCell ⟨w.heap.size + 1, 1, none⟩ (.int .i64 H)).setCell ⟨w.heap.size + 1, 2, none⟩ (.int .i64 G)) := ⟨(World.cell?_of_block (a := ⟨w.heap.size, 0, none⟩) (on8.block w.heap.size (show w.heap.size ≠ w.heap.size + 1 by omega))).trans S7.1, (World.cell?_of_block (a := ⟨w.heap.size, 1, none⟩) (on8.block w.heap.size (show w.heap.size ≠ w.heap.size + 1 by omega))).trans S7.2.1, (World.cell?_of_block (a := ⟨w.heap.size, 2, none⟩) (on8.block w.heap.size (show w.heap.size ≠ w.heap.size + 1 by omega))).trans S7.2.2⟩))
  rw [← hw6] at b7
  have cc := c6.trans (b7.mono c6.size)
  have bn := cc.trans (on8.below (show w.heap.size ≤ w.heap.size + 1 by omega))
  have On := hide (o7.zone (Zone.of_only on8 (Nat.le_refl _) (Nat.lt_succ_self _)) (.inr (by simp; omega)))
  clear o7
  go_wp2_with fail
  refine bodyPost_ret (v := .agg #[.slice ra rl rq, .int .i64 H, .int .i64 G]) (by simp [results, Tryz.results36, go_sem, x0, x1, x2]) rfl ⟨.slice ra rl rq, rfl, (unhide On).wide (by simp; omega) (by simp) (Nat.le_refl _), bn⟩
end Go.Proofs.YtlboekimnhgfdaaGreat.Tab

/- FnExactTableNew returns true. -/
namespace Go.Proofs.YtlboekimnhgfdaaGreat.Tab
open Go.RowKit Rw
set_option linter.unusedVariables false
attribute [local go_sem ↓] Go.wp_at_zero Go.wp_at_succ
theorem rows_nil (w : World) : Row.Is w (.slice none 0 0) [] := ⟨[], rfl, ⟨by simp [flatOf], none, 0, rfl, Nat.le_refl _, Nat.zero_le _, fun _ => rfl, fun h => by simp at h⟩, fun i hi => by simp at hi⟩
theorem elem_nil (w : World) : Elem w (.slice none 0 0, .int .i64 (-1), .int .i64 0) ([], -1, 0) := ⟨rows_nil w, rfl, rfl⟩
theorem spec_new (w : World) : Calls Tryz.prog 128 #[] w fun e w' => e = .returned (.agg #[.slice none 0 0, .int .i64 (-1), .int .i64 0]) ∧ Below w.heap.size w w' := by
  go_enter Tryz.func128, Tryz.ntmps128
  go_wp2
  first
    | (refine bodyPost_ret (v := .agg #[.slice none 0 0, .int .i64 (-1), .int .i64 0]) (by simp [results, Tryz.results128, go_sem]) rfl ⟨rfl, ?_⟩
       exact (Below.refl _ _).alloc (Nat.le_refl _) _)
    | trace_state
theorem markS_nil (k : Int) (w : World) : Calls Tryz.prog 48 #[.slice none 0 0, .int .i64 k] w fun e w' => e = .returned (.int .i64 k) ∧ Below w.heap.size w w' := by
  go_enter Tryz.func48, Tryz.ntmps48
  go_wp2
  refine wp_loop_rounds 1 ?_
  rw [rounds_succ]
  go_wp2
  go_ret
  exact ⟨rfl, Below.refl _ _⟩
theorem heldS_nil (k : Int) (w : World) : Calls Tryz.prog 50 #[.slice none 0 0, .int .i64 k] w fun e w' => e = .returned (.int .i64 k) ∧ Below w.heap.size w w' := by
  go_enter Tryz.func50, Tryz.ntmps50
  go_wp2
  refine wp_loop_rounds 1 ?_
  rw [rounds_succ]
  go_wp2
  go_ret
  exact ⟨rfl, Below.refl _ _⟩
theorem mark_nil (k H F : Int) (w : World) : Calls Tryz.prog 18 #[.agg #[.slice none 0 0, .int .i64 H, .int .i64 F], .int .i64 k] w fun e w' => e = .returned (.int .i64 k) ∧ Below w.heap.size w w' := by
  have B := (Below.refl w.heap.size w).alloc (Nat.le_refl _) (.cells #[.slice none 0 0, .int .i64 H, .int .i64 F] 30)
  go_enter Tryz.func18, Tryz.ntmps18
  go_wp2_with fail
  refine (markS_nil k _).mono ?_
  rintro e v ⟨rfl, b⟩
  go_wp2
  go_ret
  exact ⟨rfl, B.trans (b.mono B.size)⟩
theorem held_nil (k H F : Int) (w : World) (hk : 0 ≤ k) : Calls Tryz.prog 20 #[.agg #[.slice none 0 0, .int .i64 H, .int .i64 F], .int .i64 k] w fun e w' => e = .returned (.int .i64 k) ∧ Below w.heap.size w w' := by
  have B := (Below.refl w.heap.size w).alloc (Nat.le_refl _) (.cells #[.slice none 0 0, .int .i64 H, .int .i64 F] 30)
  go_enter Tryz.func20, Tryz.ntmps20
  go_wp2_with fail
  refine (heldS_nil k _).mono ?_
  rintro e v ⟨rfl, b⟩
  go_wp2
  go_ret
  exact ⟨rfl, B.trans (b.mono B.size)⟩
end Go.Proofs.YtlboekimnhgfdaaGreat.Tab

/- Samples that are drawn lie between bounds. -/
namespace Go.Proofs.YtlboekimnhgfdaaGreat.Draw
open Go.RowKit Samp SampMath Rw
set_option linter.unusedVariables false
attribute [local go_sem ↓] Go.wp_at_zero Go.wp_at_succ
def sgood (z : S) : Prop := -1 ≤ z.1 ∧ z.1 ≤ 20000 ∧ -1 ≤ z.2 ∧ z.2 ≤ 2147483648
def SG (L : List S) : Prop := ∀ z ∈ L, sgood z
theorem sg_snoc {L : List S} {x : S} (h : ∀ z ∈ L, sgood z) (hx : sgood x) : ∀ z ∈ L ++ [x], sgood z := by
  intro z hz
  rcases List.mem_append.1 hz with hz | hz
  · exact h z hz
  · rw [List.mem_singleton.1 hz]; exact hx
theorem sg_at {zs : List S} {k : Nat} (h : ∀ z ∈ zs, sgood z) (hk : k < zs.length) : sgood (at' zs k) := by
  have e : at' zs k = zs[k] := by simp [at', List.getD, hk]
  rw [e]; exact h _ (List.getElem_mem hk)
theorem sg_set {zs : List S} {k : Nat} {x : S} (h : ∀ z ∈ zs, sgood z) (hx : sgood x) : ∀ z ∈ zs.set k x, sgood z := by
  intro z hz
  rcases List.mem_or_eq_of_mem_set hz with hz | hz
  · exact h z hz
  · rw [hz]; exact hx
set_option maxRecDepth 100000 in
set_option maxHeartbeats 4000000 in
theorem samples_good (rb p most : Nat) (w : World) (h : Rd w rb p) (hp : p ≤ 700000) (hmost : most ≤ 1000) :
    Calls Tryz.prog 151 #[.pointer (some ⟨rb, 0, none⟩), .int .i64 most] w fun e w' => ∃ (zs : List S) (g cp : Nat), e = .returned (.slice (some ⟨g, 0, none⟩) zs.length cp) ∧ zs.length ≤ most ∧ SG zs ∧ w'.ownsRow w.heap.size 106 2 (.slice (some ⟨g, 0, none⟩) zs.length cp) zs.length (flat zs) ∧ (∃ p', p' ≤ p + 9 + 8 * most ∧ Rd w' rb p') ∧ w.grownBy w' (some rb) := by
  obtain ⟨i0, hi, hz0, hz1, hz2⟩ := info_parts info_sample
  have hrl := h.lt
  have HR := hide h
  clear h
  go_enter Tryz.func151, Tryz.ntmps151
  go_wp2_with fail
  refine (pick_any rb p _ _ ((unhide HR).below ((Below.refl _ _).alloc (Nat.le_refl _) _)) (by omega) (by omega)).mono ?_
  rintro e w1 ⟨x, rfl, x0, x1, -, r1, g1⟩
  have x2 : x < 300 := x1 (by omega)
  have o1 := own_kept (own_empty (w := w) (base := w.heap.size) (e := 106) (size := 2) (Nat.le_refl _)) g1 hrl
  have q1 : w.grownBy w1 (some rb) := grown_trans (grown_below ((Below.refl _ _).alloc (Nat.le_refl _) _)) g1
  clear x1 HR g1
  go_wp2_with fail
  have hone := one_new rb (p + 1) [0, x, 9000, 5000] _ r1 (by omega) (by simp) (by simp)
  simp only [List.map_cons, List.map_nil, List.length_cons, List.length_nil, Nat.zero_add, Nat.reduceAdd] at hone
  refine hone.mono ?_
  clear hone
  rintro e w2 ⟨t, rfl, ht, r2, g2⟩
  have t0 : 0 ≤ t ∧ t ≤ 9000 := by
    simp only [List.mem_cons, List.not_mem_nil, or_false] at ht
    omega
  have o2 := own_kept o1 g2 hrl
  have q2 := grown_trans q1 g2
  clear ht o1 q1 r1 g2
  go_wp2_with fail
  refine (value_any rb (p + 1 + 1) _ r2 (by omega)).mono ?_
  rintro e w3 ⟨v, rfl, v0, v1, r3, g3⟩
  have o3 := own_kept o2 g3 hrl
  have q3 := grown_trans q2 g3
  clear o2 q2 r2 g3
  go_wp2_with fail
  refine (pick_any rb (p + 1 + 1 + 6) _ _ r3 (by omega) (by omega)).mono ?_
  rintro e w4 ⟨n, rfl, n0, n1, -, r4, g4⟩
  have n2 : n < (most : Int) + 1 := n1 (by omega)
  have o4 := own_kept o3 g4 hrl
  have q4 := grown_trans q3 g4
  clear o3 q3 r3 g4 n1
  go_wp2_with fail
  go_loopw [5, 6, 7, 8] (fun ov tv vv nv wr => ∃ (k : Nat) (L : List S) (p' g cp : Nat) (T V : Int), nv = .int .i64 (k : Int) ∧ L.length + k ≤ most ∧ p' ≤ p + 9 + 8 * L.length ∧ ov = .slice (some ⟨g, 0, none⟩) L.length cp ∧ tv = .int .i64 T ∧ vv = .int .i64 V ∧ 0 ≤ T ∧ T ≤ 20000 ∧ 0 ≤ V ∧ V ≤ 2147483647 ∧ SG L ∧ wr.ownsRow w.heap.size 106 2 ov L.length (flat L) ∧ Rd wr rb p' ∧ w.grownBy wr (some rb)) (fun _ _ _ nv _ => (intOf nv).toNat)
  case atStart => exact ⟨n.toNat, [], p + 1 + 1 + 6 + 1, w.heap.size, 0, t, v, by rw [Int.toNat_of_nonneg n0], by simp; omega, by simp, rfl, rfl, rfl, t0.1, by omega, v0, v1, (fun z hz => (by cases hz)), o4, r4, q4⟩
  case round =>
    clear o4 q4 r4
    obtain ⟨k, L, p', g, cp, T, V, rfl, hk, hp', rfl, rfl, rfl, hT0, hT1, hV0, hV1, HG, hown, hrd, hg⟩ := hrel
    have hsz := hg.size
    by_cases hk0 : 0 < k
    · have hk1 : (0 : Int) < (k : Int) := by omega
      by_cases hT9 : T ≤ 9999
      · have HG2 : SG (L ++ [(T, V)]) := sg_snoc (x := (T, V)) HG ⟨by show -1 ≤ T; omega, hT1, by show -1 ≤ V; omega, by show V ≤ 2147483648; omega⟩
        go_wp2_with (at_builtin; refine wpList_append_lies _ rfl _ _ _ rfl w.heap.size 106 i0 _ 2 16 Tryz.underlying91 hi hz0 hz1 hz2 rfl (by omega) _ L.length _ rfl (hown.alloc _) _ 1 1 [.int .i64 T, .int .i64 V] rfl rfl (World.news_of_block (cs := #[.int .i64 T, .int .i64 V]) (t := 106) (fr := (0, 0)) (heap_alloc_new _ _)) (by simp [Value.oneCell']) (by omega) (by unfold maxLen; omega) (by omega) (by simp; omega) _ rfl ?_; intro gg cap2 w9 hown2 hgrow hat hlt2)
        have ge := own_ge hown
        have gA : wr.grownBy (wr.alloc (.cells #[.int .i64 T, .int .i64 V] 106)) (some rb) := grown_below ((Below.refl _ _).alloc (Nat.le_refl _) _)
        have R : w.grownBy w9 (some rb) := grown_other (grown_trans hg gA) hgrow ge
        have R1 : Rd w9 rb p' := (hrd.below ((Below.refl _ _).alloc (Nat.le_refl _) _)).grown hgrow (fun k hk => by have := ge k hk; omega)
        have R2 : w9.ownsRow w.heap.size 106 2 (.slice (some ⟨gg, 0, none⟩) (L.length + 1) cap2) (L ++ [(T, V)]).length (flat (L ++ [(T, V)])) := by
          rw [List.length_append, flat_append]; exact hown2
        clear hown2 hgrow ge gA hown hg hrd
        have hone := one_new rb p' [1, 1, 10, 10, 10, 63, 64, 65, 130, 700] _ R1 (by omega) (by simp) (by simp)
        simp only [List.map_cons, List.map_nil, List.length_cons, List.length_nil, Nat.zero_add, Nat.reduceAdd] at hone
        refine hone.mono ?_
        clear hone
        rintro e w5 ⟨d, rfl, hd, r5, g5⟩
        have d0 : 1 ≤ d ∧ d ≤ 700 := by
          simp only [List.mem_cons, List.not_mem_nil, or_false] at hd
          omega
        obtain ⟨d1, d2⟩ := d0
        have o5 := own_kept R2 g5 hrl
        have q5 := grown_trans R g5
        clear hd R R1 R2 g5
        go_wp2_with fail
        refine (pick_any rb (p' + 1) _ _ r5 (by omega) (by omega)).mono ?_
        rintro e w6 ⟨m, rfl, m0, m1, -, r6, g6⟩
        have o6 := own_kept o5 g6 hrl
        have q6 := grown_trans q5 g6
        clear o5 q5 r5 g6 m1
        by_cases hm : 0 < m
        · go_wp2_with fail
          refine (value_any rb (p' + 1 + 1) _ r6 (by omega)).mono ?_
          rintro e w7 ⟨v', rfl, v0', v1', r7, g7⟩
          have o7 := own_kept o6 g7 hrl
          have q7 := grown_trans q6 g7
          have HO := hide o7
          clear o6 q6 r6 g7 o7
          go_wp2
          go_roundw
          case rel => exact ⟨k - 1, L ++ [(T, V)], p' + 1 + 1 + 6, gg, cap2, T + d, v', by go_num, by simp; omega, by simp; omega, by simp, by go_num, rfl, by omega, by omega, v0', v1', HG2, by simpa using unhide HO, r7, q7⟩
          case measure => simp [intOf]; omega
        · have HO := hide o6
          clear o6
          go_wp2
          go_roundw
          case rel => exact ⟨k - 1, L ++ [(T, V)], p' + 1 + 1, gg, cap2, T + d, V, by go_num, by simp; omega, by simp; omega, by simp, by go_num, rfl, by omega, by omega, hV0, hV1, HG2, by simpa using unhide HO, r6, q6⟩
          case measure => simp [intOf]; omega
      · go_wp2
        go_ret
        exact ⟨L, g, cp, rfl, by omega, HG, hown, ⟨p', by omega, hrd⟩, hg⟩
    · go_wp2
      go_ret
      exact ⟨L, g, cp, rfl, by omega, HG, hown, ⟨p', by omega, hrd⟩, hg⟩
set_option maxRecDepth 100000 in
set_option maxHeartbeats 4000000 in
theorem anysamples_good (rb p most : Nat) (w : World) (h : Rd w rb p) (hp : p ≤ 600000) (hmost : most ≤ 1000) :
    Calls Tryz.prog 130 #[.pointer (some ⟨rb, 0, none⟩), .int .i64 most] w fun e w' => ∃ (zs : List S) (g cp : Nat), e = .returned (.slice (some ⟨g, 0, none⟩) zs.length cp) ∧ zs.length ≤ most ∧ SG zs ∧ w'.ownsRow w.heap.size 106 2 (.slice (some ⟨g, 0, none⟩) zs.length cp) zs.length (flat zs) ∧ (∃ p', p' ≤ p + 20 + 8 * most ∧ Rd w' rb p') ∧ w.grownBy w' (some rb) := by
  have hrl := h.lt
  have HR := hide h
  clear h
  go_enter Tryz.func130, Tryz.ntmps130
  go_wp2_with fail
  refine (samples_good rb p most _ (unhide HR) (by omega) hmost).mono ?_
  rintro e w1 ⟨zs, g, cp, rfl, hl, hsg, o1, ⟨p1, hp1, r1⟩, q1⟩
  have HSG := hide hsg
  clear hsg
  obtain ⟨n, hn⟩ : ∃ n, n = zs.length := ⟨_, rfl⟩
  rw [← hn] at hl o1 ⊢
  have HN := hide hn
  clear hn HR
  rcases n with _ | n
  · go_wp2
    go_ret
    exact ⟨zs, g, cp, by rw [← unhide HN]; rfl, by have := unhide HN; omega, unhide HSG, by rw [← unhide HN]; exact o1, ⟨p1, by omega, r1⟩, q1⟩
  · have hnp : 0 < n + 1 := by omega
    go_wp2_with fail
    refine (pick_any rb p1 _ _ r1 (by omega) (by omega)).mono ?_
    rintro e w2 ⟨m, rfl, m0, m1, -, r2, g2⟩
    have o2 := own_kept o1 g2 hrl
    have q2 := grown_trans q1 g2
    clear o1 q1 r1 g2 m1
    by_cases hm : m = 0
    · subst hm
      go_wp2_with fail
      refine (pick_any rb (p1 + 1) _ _ r2 (by omega) (by omega)).mono ?_
      rintro e w3 ⟨kk, rfl, k0, k1, -, r3, g3⟩
      have k2 : kk < ((n + 1 : Nat) : Int) := k1 (by omega)
      obtain ⟨k, rfl⟩ := Int.eq_ofNat_of_zero_le k0
      have o3 := own_kept o2 g3 hrl
      have q3 := grown_trans q2 g3
      clear o2 q2 r2 g3 k1
      go_wp2_with fail
      refine (pick_any rb (p1 + 1 + 1) _ _ r3 (by omega) (by omega)).mono ?_
      rintro e w4 ⟨c, rfl, c0, c1, -, r4, g4⟩
      have o4 := own_kept o3 g4 hrl
      have q4 := grown_trans q3 g4
      clear o3 q3 r3 g4 c1
      have hkl : k < zs.length := by have := unhide HN; omega
      have hk0 : (0 : Int) ≤ (k : Int) := Int.natCast_nonneg _
      have hk1 : (k : Int) < (n : Int) + 1 := by omega
      by_cases hc0 : c = 0
      · subst hc0
        go_wp2_with fail
        have hone := one_new rb (p1 + 1 + 1 + 1) [-1, 10000, 0] _ r4 (by omega) (by simp) (by simp)
        simp only [List.map_cons, List.map_nil, List.length_cons, List.length_nil, Nat.zero_add, Nat.reduceAdd] at hone
        refine hone.mono ?_
        clear hone
        rintro e w5 ⟨x, rfl, hx, r5, g5⟩
        have o5 := own_kept o4 g5 hrl
        have q5 := grown_trans q4 g5
        have u0 := o5.cellAt (k * 2) (by omega)
        have u1 := o5.cellAt (k * 2 + 1) (by omega)
        rw [(flat_get zs k hkl).1] at u0
        rw [(flat_get zs k hkl).2] at u1
        have f0 := o5.frozenAt (k * 2)
        have f1 := o5.frozenAt (k * 2 + 1)
        have HX := hide (show sgood (x, (at' zs k).2) by
          simp only [List.mem_cons, List.not_mem_nil, or_false] at hx
          have := sg_at (unhide HSG) hkl
          exact ⟨by show -1 ≤ x; omega, by show x ≤ 20000; omega, this.2.2⟩)
        clear o4 q4 r4 g5 hx
        have hge : w.heap.size ≤ g := own_ge o5 g rfl
        have O := hide (show (w5.setCell ⟨g, k * 2, none⟩ (.int .i64 x)).ownsRow w.heap.size 106 2 (.slice (some ⟨g, 0, none⟩) (n + 1) cp) (n + 1) (flat (zs.set k (x, (at' zs k).2))) by
          rw [flat_setT zs k hkl x]
          exact (o5.stored (k * 2) (.int .i64 x)).1)
        have gS := grown_only ((OnlyAt.refl g w5).setCell (k * 2) (.int .i64 x))
        have Q := grown_other q5 gS (fun j hj => by cases hj; exact hge)
        have R := r5.grown gS (fun j hj => by cases hj; omega)
        have HL := hide (show (zs.set k (x, (at' zs k).2)).length = n + 1 by rw [List.length_set, ← unhide HN])
        clear o5 gS
        go_wp2
        go_ret
        exact ⟨zs.set k (x, (at' zs k).2), g, cp, by rw [unhide HL]; rfl, by rw [unhide HL]; omega, sg_set (unhide HSG) (unhide HX), by rw [unhide HL]; exact unhide O, ⟨p1 + 1 + 1 + 1 + 1, by omega, R⟩, Q⟩
      by_cases hc1 : c = 1
      · subst hc1
        go_wp2_with fail
        have hone := one_new rb (p1 + 1 + 1 + 1) [-1, 2147483648] _ r4 (by omega) (by simp) (by simp)
        simp only [List.map_cons, List.map_nil, List.length_cons, List.length_nil, Nat.zero_add, Nat.reduceAdd] at hone
        refine hone.mono ?_
        clear hone
        rintro e w5 ⟨x, rfl, hx, r5, g5⟩
        have o5 := own_kept o4 g5 hrl
        have q5 := grown_trans q4 g5
        have u0 := o5.cellAt (k * 2) (by omega)
        have u1 := o5.cellAt (k * 2 + 1) (by omega)
        rw [(flat_get zs k hkl).1] at u0
        rw [(flat_get zs k hkl).2] at u1
        have f0 := o5.frozenAt (k * 2)
        have f1 := o5.frozenAt (k * 2 + 1)
        have HX := hide (show sgood ((at' zs k).1, x) by
          simp only [List.mem_cons, List.not_mem_nil, or_false] at hx
          have := sg_at (unhide HSG) hkl
          exact ⟨this.1, this.2.1, by show -1 ≤ x; omega, by show x ≤ 2147483648; omega⟩)
        clear o4 q4 r4 g5 hx
        have hge : w.heap.size ≤ g := own_ge o5 g rfl
        have O := hide (show (w5.setCell ⟨g, k * 2 + 1, none⟩ (.int .i64 x)).ownsRow w.heap.size 106 2 (.slice (some ⟨g, 0, none⟩) (n + 1) cp) (n + 1) (flat (zs.set k ((at' zs k).1, x))) by
          rw [flat_setV zs k hkl x]
          exact (o5.stored (k * 2 + 1) (.int .i64 x)).1)
        have gS := grown_only ((OnlyAt.refl g w5).setCell (k * 2 + 1) (.int .i64 x))
        have Q := grown_other q5 gS (fun j hj => by cases hj; exact hge)
        have R := r5.grown gS (fun j hj => by cases hj; omega)
        have HL := hide (show (zs.set k ((at' zs k).1, x)).length = n + 1 by rw [List.length_set, ← unhide HN])
        clear o5 gS
        go_wp2
        go_ret
        exact ⟨zs.set k ((at' zs k).1, x), g, cp, by rw [unhide HL]; rfl, by rw [unhide HL]; omega, sg_set (unhide HSG) (unhide HX), by rw [unhide HL]; exact unhide O, ⟨p1 + 1 + 1 + 1 + 1, by omega, R⟩, Q⟩
      have v0 := o4.cellAt 0 (by omega)
      have u0 := o4.cellAt (k * 2) (by omega)
      rw [(flat_get zs k hkl).1] at u0
      have hz := (flat_get zs 0 (by omega)).1
      rw [Nat.zero_mul] at hz
      rw [hz] at v0
      have f0 := o4.frozenAt (k * 2)
      obtain ⟨T, hT⟩ : ∃ T, T = (at' zs 0).1 := ⟨_, rfl⟩
      rw [← hT] at v0
      have HX := hide (show sgood (T, (at' zs k).2) by
        have h1 := sg_at (unhide HSG) hkl
        have h2 := sg_at (unhide HSG) (k := 0) (by omega)
        exact ⟨by show -1 ≤ T; rw [hT]; exact h2.1, by show T ≤ 20000; rw [hT]; exact h2.2.1, h1.2.2⟩)
      clear hT hz
      have hge : w.heap.size ≤ g := own_ge o4 g rfl
      have O := hide (show (w4.setCell ⟨g, k * 2, none⟩ (.int .i64 T)).ownsRow w.heap.size 106 2 (.slice (some ⟨g, 0, none⟩) (n + 1) cp) (n + 1) (flat (zs.set k (T, (at' zs k).2))) by
        rw [flat_setT zs k hkl T]
        exact (o4.stored (k * 2) (.int .i64 T)).1)
      have gS := grown_only ((OnlyAt.refl g w4).setCell (k * 2) (.int .i64 T))
      have Q := grown_other q4 gS (fun j hj => by cases hj; exact hge)
      have R := r4.grown gS (fun j hj => by cases hj; omega)
      have HL := hide (show (zs.set k (T, (at' zs k).2)).length = n + 1 by rw [List.length_set, ← unhide HN])
      clear o4 gS
      go_wp2
      go_ret
      exact ⟨zs.set k (T, (at' zs k).2), g, cp, by rw [unhide HL]; rfl, by rw [unhide HL]; omega, sg_set (unhide HSG) (unhide HX), by rw [unhide HL]; exact unhide O, ⟨p1 + 1 + 1 + 1, by omega, R⟩, Q⟩
    · go_wp2
      go_ret
      exact ⟨zs, g, cp, by rw [← unhide HN]; rfl, by have := unhide HN; omega, unhide HSG, by rw [← unhide HN]; exact o2, ⟨p1 + 1, by omega, r2⟩, q2⟩
end Go.Proofs.YtlboekimnhgfdaaGreat.Draw

/- Rows are drawn: by the model, and ok. -/
namespace Go.Proofs.YtlboekimnhgfdaaGreat.Draw
open Go.RowKit Rw
set_option linter.unusedVariables false
attribute [local go_sem ↓] Go.wp_at_zero Go.wp_at_succ
theorem zone_of_grown {a b : World} {g : Nat} (h : a.grownBy b (some g)) : Zone g (g + 1) a b := ⟨h.os, h.tape, h.output, h.size, fun k hk ho => h.block k hk (fun e => by have := Option.some.inj e; omega)⟩
theorem row_kept {w w' : World} {lo hi rb : Nat} {v : Value} {zs : List Row.E} (h : Row.Own lo hi w v zs) (hg : w.grownBy w' (some rb)) (hr : rb < lo) : Row.Own lo hi w' v zs := h.zone (zone_of_grown hg) (.inr hr)
theorem own_nil' (lo : Nat) (W : World) (hb : lo ≤ W.heap.size) : Row.Own lo (W.alloc (.cells #[] 93)).heap.size (W.alloc (.cells #[] 93)) (.slice (some ⟨W.heap.size, 0, none⟩) 0 0) [] :=
  ⟨[], rfl, own_mono (own_empty (Nat.le_refl _)) hb, own_block_lt (own_empty (base := W.heap.size) (e := 93) (size := 2) (Nat.le_refl _)), Nat.le_refl _, fun i j _ h => absurd h (Nat.not_lt_zero _), fun i j _ h => absurd h (Nat.not_lt_zero _), fun i h => absurd h (Nat.not_lt_zero _)⟩
set_option maxRecDepth 100000 in
set_option maxHeartbeats 16000000 in
theorem rows_any (rb p : Nat) (fr : Int) (w : World) (h : Rd w rb p) (hp : p ≤ 600000) (h0 : 0 ≤ fr) (h1 : fr ≤ 20000) :
    Calls Tryz.prog 129 #[.pointer (some ⟨rb, 0, none⟩), .int .i64 fr] w fun e w' => ∃ (L : List Row.E) (v : Value), e = .returned v ∧ Row.ok L = true ∧ Row.Own w.heap.size w'.heap.size w' v L ∧ (∃ p', p' ≤ p + 200 ∧ Rd w' rb p') ∧ w.grownBy w' (some rb) := by
  have hrl := h.lt
  have HR := hide h
  have HE0 := hide (own_nil' w.heap.size w (Nat.le_refl _))
  have hb1 : Below w.heap.size w (w.alloc (.cells #[] 93)) := (Below.refl _ _).alloc (Nat.le_refl _) _
  clear h
  go_enter Tryz.func129, Tryz.ntmps129
  go_wp2_with fail
  refine (pick_any rb p _ _ ((unhide HR).below hb1) (by omega) (by omega)).mono ?_
  rintro e w1 ⟨x, rfl, x0, x1, -, r1, g1⟩
  have x2 : x < 4 := x1 (by omega)
  have q1 : w.grownBy w1 (some rb) := grown_trans (grown_below hb1) g1
  have O1 := hide (Row.own_wide (row_kept (unhide HE0) g1 hrl) (Nat.le_refl _) g1.size (Nat.le_refl _))
  obtain ⟨n, rfl⟩ := Int.eq_ofNat_of_zero_le x0
  clear x1 HR HE0 g1 hb1
  go_wp2_with fail
  go_loopw [5, 6] (fun ov nv wr => ∃ (n : Nat) (L : List Row.E) (p' : Nat) (a : Option Addr) (l q : Nat), nv = .int .i64 (n : Int) ∧ n ≤ 3 ∧ ov = .slice a l q ∧ Hid (Row.ok L = true) ∧ Hid (Row.Own w.heap.size wr.heap.size wr ov L) ∧ p' + 60 * n ≤ p + 190 ∧ Rd wr rb p' ∧ w.grownBy wr (some rb)) (fun _ nv _ => (intOf nv).toNat)
  case atStart => exact ⟨n, [], p + 1, _, _, _, rfl, by omega, rfl, (show Row.ok [] = true from rfl), O1, by omega, r1, q1⟩
  case round =>
    clear O1 q1 r1 x0 x2
    obtain ⟨n, L, p', a, l, q, rfl, hn3, rfl, HK, HO, hp', hrd, hg⟩ := hrel
    have hsz := hg.size
    by_cases hn0 : 0 < n
    · have hn1 : (0 : Int) < (n : Int) := by omega
      go_wp2_with fail
      refine (labels_ok rb p' _ hrd (by omega)).mono ?_
      rintro e w2 ⟨ls, lv, rfl, hl0, hl3, hlo, ol, ⟨p2, hp2, r2⟩, g2⟩
      obtain ⟨la, lq, rfl⟩ : ∃ a q, lv = .slice a ls.length q := by obtain ⟨-, a, q, e, -⟩ := lies_of_own ol; exact ⟨a, q, e⟩
      have z2 := g2.size
      have HO2 := hide (row_kept (unhide HO) g2 hrl)
      have q2 := grown_trans hg g2
      have HLo := hide hlo
      have HLn := hide (show ls.length = ls.length from rfl)
      have OL := hide (own_mono ol hsz)
      generalize hll : ls.length = ll at *
      have HLL := hide hll
      clear ol hlo hrd g2 hg HO hl0 hl3 HLn hll
      go_wp2_with fail
      refine (pick_any rb p2 _ _ r2 (by omega) (by omega)).mono ?_
      rintro e w3 ⟨y, rfl, y0, y1, -, r3, g3⟩
      have y2 : y < 120 := y1 (by omega)
      have HO3 := hide (row_kept (unhide HO2) g3 hrl)
      have OL3 := hide (own_kept (unhide OL) g3 hrl)
      have q3 := grown_trans q2 g3
      have z3 := g3.size
      clear y1 r2 g3 HO2 OL q2
      go_wp2_with fail
      refine (pick_any rb (p2 + 1) _ _ r3 (by omega) (by omega)).mono ?_
      rintro e w4 ⟨u, rfl, u0, u1, -, r4, g4⟩
      have u2 : u < 4 := u1 (by omega)
      have HO4 := hide (Row.own_wide (row_kept (unhide HO3) g4 hrl) (Nat.le_refl _) (Nat.le_trans (Nat.le_trans z2 z3) g4.size) (Nat.le_refl _))
      have OL4 := hide (own_kept (unhide OL3) g4 hrl)
      have q4 := grown_trans q3 g4
      have z4 := g4.size
      obtain ⟨k0, rfl⟩ := Int.eq_ofNat_of_zero_le u0
      obtain ⟨t, ht⟩ : ∃ t, t = fr + y := ⟨_, rfl⟩
      have ht0 : 0 ≤ t ∧ t ≤ 20120 := by omega
      have HP2 := hide hp2
      clear u1 r3 g4 HO3 OL3 q3 z2 z3 z4 hp2
      obtain ⟨wo, hwo⟩ : ∃ wo, wo = wr := ⟨_, rfl⟩
      subst hwo
      go_wp2_with fail
      go_loopw [5, 8, 9] (fun ov tv kv wi => ∃ (k : Nat) (L' : List Row.E) (p3 : Nat) (T : Int) (a : Option Addr) (l q : Nat), kv = .int .i64 (k : Int) ∧ k ≤ 4 ∧ tv = .int .i64 T ∧ 0 ≤ T ∧ T ≤ 20120 ∧ ov = .slice a l q ∧ Hid (Row.ok L' = true) ∧ Hid (Row.Own w.heap.size wi.heap.size wi ov L') ∧ Hid (wi.ownsRow w.heap.size 64 2 (.slice la ll lq) ll (Lab.flat ls)) ∧ p3 + 8 * k ≤ p2 + 2 + 32 ∧ Rd wi rb p3 ∧ w.grownBy wi (some rb)) (fun _ _ kv _ => (intOf kv).toNat)
      case atStart => exact ⟨k0 + 1, L, p2 + 1 + 1, t, _, _, _, by go_num, by omega, by rw [ht], ht0.1, ht0.2, rfl, HK, HO4, OL4, by omega, r4, q4⟩
      case round =>
        clear HK HO4 OL4 q4 r4 ht ht0 u0 u2 y0 y2
        obtain ⟨k, L', p3, T, a', l', q', rfl, hk4, rfl, hT0, hT1, rfl, HK, HO, OL, hp3, hrd3, hg3⟩ := hrel
        have hsz3 := hg3.size
        have hp2' := unhide HP2
        by_cases hk0 : 0 < k ∧ T ≤ 9999
        · obtain ⟨hk0, hT9⟩ := hk0
          have hk1 : (0 : Int) < (k : Int) := by omega
          go_wp2_with fail
          refine (value_any rb p3 _ hrd3 (by omega)).mono ?_
          rintro e w5 ⟨V, rfl, v0, v1, r5, g5⟩
          have q5 := grown_trans hg3 g5
          have z5 := q5.size
          have z5' := g5.size
          have HO5 := row_kept (unhide HO) g5 hrl
          have OL5 := own_kept (unhide OL) g5 hrl
          have b5 : Below w5.heap.size w5 (w5.alloc (.cells #[.int .i64 T, .int .i64 V] 106)) := (Below.refl _ _).alloc (Nat.le_refl _) _
          have hin : SampMath.inR T V = true := SampMath.inR_yes hT0 hT9 v0 v1
          have hLI : Lab.Is (w5.alloc (.cells #[.int .i64 T, .int .i64 V] 106)) (.slice la ll lq) ls := by
            have := lies_of_own (own_below OL5 b5)
            unfold Lab.Is
            rw [unhide HLL]
            exact this
          have HAd := hide (Row.l5add (w := w5.alloc (.cells #[.int .i64 T, .int .i64 V] 106)) (s := .slice (some ⟨w5.heap.size, 0, none⟩) 1 1) (xs := [(T, V)]) (HO5.is.below b5) (unhide HK) hLI (unhide HLo) (lies_new (w := w5) (cs := #[.int .i64 T, .int .i64 V]) (t := 106) (n := 1) (size := 2) rfl rfl (by unfold maxLen; omega)) (by rw [Row.one_ok]; exact hin))
          have HFx := hide (Row.fine_one (Row.fine_ok (Row.row_ok (unhide HLo) hin)) (List.mem_singleton.2 rfl))
          have HO5' := hide (HO5.below b5)
          have OL5' := hide (own_below OL5 b5)
          have r5' := r5.below b5
          have q5' := grown_trans q5 (grown_below b5)
          clear HO OL hrd3 hg3 r5 q5 HO5 OL5 hLI b5 hin g5
          go_wp2_with fail
          refine (unhide HAd).mono ?_
          rintro e w6 ⟨r, rfl, ho, b6⟩
          have r6 := r5'.below b6
          have q6 := grown_trans q5' (grown_below b6)
          have OL6 := hide (own_below (unhide OL5') b6)
          have z6 := b6.size
          simp only [World.size_alloc] at z6
          cases hadd : Row.add L' (ls, [(T, V)]) with
          | none =>
            have HO6 := hide (Row.own_wide ((unhide HO5').below b6) (Nat.le_refl _) (by omega) (Nat.le_refl _))
            rw [hadd] at ho
            clear ho b6 r5' q5' OL5' HO5' hadd HAd
            go_wp2_with fail
            refine (pick_any rb (p3 + 6) _ _ r6 (by omega) (by omega)).mono ?_
            rintro e w7 ⟨y, rfl, y0, y1, -, r7, g7⟩
            have y2 : y < 80 := y1 (by omega)
            have HO7 := hide (Row.own_wide (row_kept (unhide HO6) g7 hrl) (Nat.le_refl _) g7.size (Nat.le_refl _))
            have OL7 := hide (own_kept (unhide OL6) g7 hrl)
            have q7 := grown_trans q6 g7
            clear y1 r6 g7 HO6 OL6 q6
            go_wp2_with fail
            go_roundw
            case rel => exact ⟨k - 1, L', p3 + 6 + 1, T + 1 + y, _, _, _, by go_num, by omega, by go_num, by omega, by omega, rfl, HK, HO7, OL7, by omega, r7, q7⟩
            case measure => simp [intOf]; omega
          | some R =>
            have ho' := ho R hadd
            have HK' := hide (Row.add_ok (unhide HK) (unhide HFx) hadd)
            obtain ⟨ra, rl, rq, rfl⟩ := ho'.form
            have HO6 := hide (Row.own_wide ho' (lo' := w.heap.size) (hi' := w6.heap.size) (by simp; omega) (Nat.le_refl _) (Nat.le_refl _))
            clear ho ho' b6 r5' q5' OL5' HO5' hadd HAd
            go_wp2_with fail
            refine (pick_any rb (p3 + 6) _ _ r6 (by omega) (by omega)).mono ?_
            rintro e w7 ⟨y, rfl, y0, y1, -, r7, g7⟩
            have y2 : y < 80 := y1 (by omega)
            have HO7 := hide (Row.own_wide (row_kept (unhide HO6) g7 hrl) (Nat.le_refl _) g7.size (Nat.le_refl _))
            have OL7 := hide (own_kept (unhide OL6) g7 hrl)
            have q7 := grown_trans q6 g7
            clear y1 r6 g7 HO6 OL6 q6
            go_wp2_with fail
            go_roundw
            case rel => exact ⟨k - 1, R, p3 + 6 + 1, T + 1 + y, _, _, _, by go_num, by omega, by go_num, by omega, by omega, rfl, HK', HO7, OL7, by omega, r7, q7⟩
            case measure => simp [intOf]; omega
        · rcases (show k = 0 ∨ (0 < k ∧ 9999 < T) by omega) with rfl | ⟨hk1, hT9⟩
          · go_wp2_with fail
            go_roundw
            case rel => exact ⟨n - 1, L', p3, _, _, _, by go_num, by omega, rfl, HK, HO, by omega, hrd3, hg3⟩
            case measure => simp [intOf]; omega
          · have hk2 : (0 : Int) < (k : Int) := by omega
            go_wp2_with fail
            go_roundw
            case rel => exact ⟨n - 1, L', p3, _, _, _, by go_num, by omega, rfl, HK, HO, by omega, hrd3, hg3⟩
            case measure => simp [intOf]; omega
    · obtain rfl : n = 0 := by omega
      go_wp2_with fail
      go_ret
      exact ⟨L, _, rfl, unhide HK, unhide HO, ⟨p', by omega, hrd⟩, hg⟩
end Go.Proofs.YtlboekimnhgfdaaGreat.Draw
