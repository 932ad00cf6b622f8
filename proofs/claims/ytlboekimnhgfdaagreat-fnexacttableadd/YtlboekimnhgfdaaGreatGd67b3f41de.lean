/- My own texts of one claim, laid together by program: TableAdd, DropCnt, TabRes, TaddCnt. -/
import Derived.Test.YtlboekimnhgfdaaGreatGec19d5217c
import Derived.Test.YtlboekimnhgfdaaGreatG53c016a3b0
import Derived.Test.YtlboekimnhgfdaaGreatGca9424efef
import Derived.Test.YtlboekimnhgfdaaGreatG3314a58633
import Derived.Test.YtlboekimnhgfdaaGreatGd8269a4317
import Derived.Test.YtlboekimnhgfdaaGreatG2c63d1bf77
import Derived.Test.YtlboekimnhgfdaaGreatGef33893e54
/- TableAdd of the program and of the model. -/
namespace Go.Proofs.YtlboekimnhgfdaaGreat.Tab
open Go.RowKit Rw
set_option linter.unusedVariables false
set_option linter.unusedSimpArgs false
attribute [local go_sem ↓] Go.wp_at_zero Go.wp_at_succ
/-- what TableAdd answers -/
def tadd (L : List Row.E) (H F : Int) (b : List En) : T3 × Int := if Row.tableB L H F = true then addE (L, H, F) b else (([], 0, 0), 1)
theorem tadd_no {L : List Row.E} {H F : Int} {b : List En} (h : Row.tableB L H F = false) : tadd L H F b = (([], 0, 0), 1) := by unfold tadd; rw [h]; rfl
theorem tadd_yes {L : List Row.E} {H F : Int} {b : List En} (h : Row.tableB L H F = true) : tadd L H F b = addE (L, H, F) b := by unfold tadd; rw [if_pos h]
theorem addE_try {t : T3} {b : List En} (h : 1 ≤ b.length ∧ b.length ≤ 6) : addE t b = tryE t b := by unfold addE tryE; rw [if_pos h]
theorem tab_of {L : List Row.E} {H F : Int} (h : Row.tableB L H F = true) : tabB (L, H, F) := by
  unfold Row.tableB Row.floorB at h
  simp only [Bool.and_eq_true, decide_eq_true_eq] at h
  obtain ⟨⟨⟨⟨⟨h1, h2⟩, ⟨⟨h3, h4⟩, h5⟩⟩, h6⟩, h7⟩, h8⟩ := h
  exact ⟨h7, ⟨h1, h2⟩, ⟨h3, h4⟩⟩
set_option maxRecDepth 100000 in
set_option maxHeartbeats 8000000 in
theorem impl_tadd {w : World} {v bv : Value} {L : List Row.E} {b : List En} (H F : Int) (h : Row.Is w v L) (hgL : ∀ x ∈ L, Row.good x) (hlL : L.length ≤ maxLen) (hb : Ent.Is w bv b) (hg : Okay b) :
    Calls Tryz.prog 15 #[.agg #[v, .int .i64 H, .int .i64 F], bv] w fun e w' => ∃ r, e = .returned (.tuple #[.agg #[r, .int .i64 (tadd L H F b).1.2.1, .int .i64 (tadd L H F b).1.2.2], .int .i64 (tadd L H F b).2]) ∧ Row.Own w.heap.size w'.heap.size w' r (tadd L H F b).1.1 ∧ Below w.heap.size w w' := by
  obtain ⟨av, nv, cv, rfl⟩ : ∃ a n c, v = .slice a n c := by obtain ⟨cs, -, hL, -⟩ := h; obtain ⟨-, a, c, e, -⟩ := hL; exact ⟨a, _, c, e⟩
  obtain ⟨W, hW⟩ : ∃ V, ((w.alloc (.cells #[.slice av nv cv, .int .i64 H, .int .i64 F] 30)).alloc (.cells #[.slice none 0 0, .int .i64 0, .int .i64 0] 30)) = V := ⟨_, rfl⟩
  have bW : Below w.heap.size w W := by rw [← hW]; exact ((Below.refl _ _).alloc (Nat.le_refl _) _).alloc (by simp) _
  have zW : W.heap.size = w.heap.size + 1 + 1 := by rw [← hW]; simp
  have RT : W.ownsRow w.heap.size 30 3 (.slice (some ⟨w.heap.size, 0, none⟩) 1 1) 1 [.slice av nv cv, .int .i64 H, .int .i64 F] := by
    rw [← hW]
    exact own_below (own_new3 (Nat.le_refl _) rfl) ((Below.refl _ _).alloc (Nat.le_refl _) _)
  have RO : W.ownsRow w.heap.size 30 3 (.slice (some ⟨w.heap.size + 1, 0, none⟩) 1 1) 1 [.slice none 0 0, .int .i64 0, .int .i64 0] := by
    rw [← hW]
    have := own_new3 (w := w.alloc (.cells #[.slice av nv cv, .int .i64 H, .int .i64 F] 30)) (base := w.heap.size) (t := 30) (cs := #[.slice none 0 0, .int .i64 0, .int .i64 0]) (by simp) rfl
    simp only [World.size_alloc] at this
    exact this
  have HOk := hide (Row.impl_table (H := H) (F := F) (h.below bW) hgL hlL)
  have HCp := hide (fun (ht : Row.tableB L H F = true) X (hx : Below W.heap.size W X) => impl_copy (w := X) H F ((h.below bW).below hx) (tab_of ht).1)
  have HTr := hide (fun (ht : Row.tableB L H F = true) (hn6 : b.length ≤ 6) X (hx : Below W.heap.size W X) => try_any (w := X) av nv cv H F ((h.below bW).below hx) (tab_of ht) ((hb.below bW).below hx) hg hn6)
  obtain ⟨ab, qb, ee, hbq⟩ : ∃ a q, bv = .slice a b.length q ∧ b.length ≤ q ∧ q ≤ maxLen := by obtain ⟨cs, -, hL, -⟩ := hb; obtain ⟨-, a, q, e, h1, h2, -⟩ := hL; exact ⟨a, q, e, h1, h2⟩
  subst ee
  unfold maxLen at hbq
  obtain ⟨n, hn⟩ : ∃ n, n = b.length := ⟨_, rfl⟩
  have HN := hide hn
  rw [← hn] at hbq HTr ⊢
  obtain ⟨res, hres⟩ : ∃ x, x = tadd L H F b := ⟨_, rfl⟩
  rw [← hres]
  have HRes := hide hres
  obtain ⟨x0, x1, x2⟩ := box_three RT
  clear h hgL hlL hb hg hn hres
  go_enter Tryz.func15, Tryz.ntmps15
  go_wp2_with fail
  refine (unhide HOk).mono ?_
  rintro e w1 ⟨rfl, b1⟩
  have d1 := bW.trans (b1.mono bW.size)
  have z1 := b1.size
  cases hT : Row.tableB L H F
  · have hr : res = (([], 0, 0), 1) := by rw [unhide HRes]; exact tadd_no hT
    subst hr
    obtain ⟨⟨pca, pfa⟩, ⟨pcb, pfb⟩, ⟨pcc, pfc⟩, so9, on9⟩ := Tab.box_put (w := w1) (.slice none 0 0) (.int .i64 0) (.int .i64 0) (own_below RO b1)
    obtain ⟨y9a, hy9a⟩ : ∃ V, w1.setCell ⟨w.heap.size + 1, 0, none⟩ (.slice none 0 0) = V := ⟨_, rfl⟩
    rw [hy9a] at pcb pfb pcc pfc so9 on9
    obtain ⟨y9b, hy9b⟩ : ∃ V, y9a.setCell ⟨w.heap.size + 1, 1, none⟩ (.int .i64 0) = V := ⟨_, rfl⟩
    rw [hy9b] at pcc pfc so9 on9
    obtain ⟨y9, hy9⟩ : ∃ V, y9b.setCell ⟨w.heap.size + 1, 2, none⟩ (.int .i64 0) = V := ⟨_, rfl⟩
    rw [hy9] at so9 on9
    obtain ⟨e0, e1, e2⟩ := Tab.box_three so9
    have o4 := hide (Row.own_nil w.heap.size y9)
    have d4 := hide (d1.trans (on9.below (show w.heap.size ≤ w.heap.size + 1 by omega)))
    clear hT HCp HTr HOk so9 on9
    go_wp2_with fail
    refine bodyPost_ret (v := .tuple #[.agg #[.slice none 0 0, .int .i64 0, .int .i64 0], .int .i64 1]) (by simp [results, Tryz.results15, go_sem, e0, e1, e2]) rfl ⟨_, rfl, unhide o4, unhide d4⟩
  have HTT := hide hT
  clear hT HOk x0 x1 x2
  obtain ⟨x0, x1, x2⟩ := box_three (own_below RT b1)
  by_cases hl : 1 ≤ n ∧ n ≤ 6
  · have hl' : 1 ≤ b.length ∧ b.length ≤ 6 := by rw [← unhide HN]; exact hl
    have hr : res = tryE (L, H, F) b := by rw [unhide HRes, tadd_yes (unhide HTT)]; exact addE_try hl'
    have HTr2 := hide (unhide HTr (unhide HTT) hl.2 w1 b1)
    rw [← hr] at HTr2
    have hd1 : decide ((n : Int) < 1) = false := by simp; omega
    have hd2 : decide ((6 : Int) < (n : Int)) = false := by simp; omega
    have hn1 : ¬ (n : Int) < 1 := by omega
    have hn2 : ¬ (6 : Int) < (n : Int) := by omega
    clear HTr HCp hr hl'
    go_wp2_with fail
    refine (unhide HTr2).mono ?_
    rintro e w2 ⟨r, rfl, o2, b2⟩
    obtain ⟨ra, rl, rq, rfl⟩ := o2.form
    have b12 := b1.trans (b2.mono b1.size)
    have z2 := b2.size
    obtain ⟨⟨pca, pfa⟩, ⟨pcb, pfb⟩, ⟨pcc, pfc⟩, so9, on9⟩ := Tab.box_put (w := w2) (.slice ra rl rq) (.int .i64 res.1.2.1) (.int .i64 res.1.2.2) (own_below RO b12)
    obtain ⟨y9a, hy9a⟩ : ∃ V, w2.setCell ⟨w.heap.size + 1, 0, none⟩ (.slice ra rl rq) = V := ⟨_, rfl⟩
    rw [hy9a] at pcb pfb pcc pfc so9 on9
    obtain ⟨y9b, hy9b⟩ : ∃ V, y9a.setCell ⟨w.heap.size + 1, 1, none⟩ (.int .i64 res.1.2.1) = V := ⟨_, rfl⟩
    rw [hy9b] at pcc pfc so9 on9
    obtain ⟨y9, hy9⟩ : ∃ V, y9b.setCell ⟨w.heap.size + 1, 2, none⟩ (.int .i64 res.1.2.2) = V := ⟨_, rfl⟩
    rw [hy9] at so9 on9
    obtain ⟨e0, e1, e2⟩ := Tab.box_three so9
    have o4 := hide ((o2.zone (Zone.of_only on9 (Nat.le_refl _) (Nat.lt_succ_self _)) (.inr (by omega))).wide (lo' := w.heap.size) (hi' := y9.heap.size) (by omega) (by have := on9.size; omega) (Nat.le_refl _))
    have d4 := hide ((d1.trans (b2.mono d1.size)).trans (on9.below (show w.heap.size ≤ w.heap.size + 1 by omega)))
    clear HTr2 o2 so9 on9
    go_wp2_with fail
    refine bodyPost_ret (v := .tuple #[.agg #[.slice ra rl rq, .int .i64 res.1.2.1, .int .i64 res.1.2.2], .int .i64 res.2]) (by simp [results, Tryz.results15, go_sem, e0, e1, e2]) rfl ⟨_, rfl, unhide o4, unhide d4⟩
  · have hr : res = ((L, H, F), 1) := by rw [unhide HRes, tadd_yes (unhide HTT)]; exact addE_bad (by rw [← unhide HN]; exact hl)
    subst hr
    have HCp2 := hide (unhide HCp (unhide HTT) w1 b1)
    clear HTr HCp
    by_cases hn1 : (n : Int) < 1
    · go_wp2_with fail
      refine (unhide HCp2).mono ?_
      rintro e w2 ⟨r, rfl, o2, b2⟩
      obtain ⟨ra, rl, rq, rfl⟩ := o2.form
      have b12 := b1.trans (b2.mono b1.size)
      have z2 := b2.size
      obtain ⟨⟨pca, pfa⟩, ⟨pcb, pfb⟩, ⟨pcc, pfc⟩, so9, on9⟩ := Tab.box_put (w := w2) (.slice ra rl rq) (.int .i64 H) (.int .i64 F) (own_below RO b12)
      obtain ⟨y9a, hy9a⟩ : ∃ V, w2.setCell ⟨w.heap.size + 1, 0, none⟩ (.slice ra rl rq) = V := ⟨_, rfl⟩
      rw [hy9a] at pcb pfb pcc pfc so9 on9
      obtain ⟨y9b, hy9b⟩ : ∃ V, y9a.setCell ⟨w.heap.size + 1, 1, none⟩ (.int .i64 H) = V := ⟨_, rfl⟩
      rw [hy9b] at pcc pfc so9 on9
      obtain ⟨y9, hy9⟩ : ∃ V, y9b.setCell ⟨w.heap.size + 1, 2, none⟩ (.int .i64 F) = V := ⟨_, rfl⟩
      rw [hy9] at so9 on9
      obtain ⟨e0, e1, e2⟩ := Tab.box_three so9
      have o4 := hide ((o2.zone (Zone.of_only on9 (Nat.le_refl _) (Nat.lt_succ_self _)) (.inr (by omega))).wide (lo' := w.heap.size) (hi' := y9.heap.size) (by omega) (by have := on9.size; omega) (Nat.le_refl _))
      have d4 := hide ((d1.trans (b2.mono d1.size)).trans (on9.below (show w.heap.size ≤ w.heap.size + 1 by omega)))
      clear HCp2 o2 so9 on9
      go_wp2_with fail
      refine bodyPost_ret (v := .tuple #[.agg #[.slice ra rl rq, .int .i64 H, .int .i64 F], .int .i64 1]) (by simp [results, Tryz.results15, go_sem, e0, e1, e2]) rfl ⟨_, rfl, unhide o4, unhide d4⟩
    · have hn2 : (6 : Int) < (n : Int) := by omega
      go_wp2_with fail
      refine (unhide HCp2).mono ?_
      rintro e w2 ⟨r, rfl, o2, b2⟩
      obtain ⟨ra, rl, rq, rfl⟩ := o2.form
      have b12 := b1.trans (b2.mono b1.size)
      have z2 := b2.size
      obtain ⟨⟨pca, pfa⟩, ⟨pcb, pfb⟩, ⟨pcc, pfc⟩, so9, on9⟩ := Tab.box_put (w := w2) (.slice ra rl rq) (.int .i64 H) (.int .i64 F) (own_below RO b12)
      obtain ⟨y9a, hy9a⟩ : ∃ V, w2.setCell ⟨w.heap.size + 1, 0, none⟩ (.slice ra rl rq) = V := ⟨_, rfl⟩
      rw [hy9a] at pcb pfb pcc pfc so9 on9
      obtain ⟨y9b, hy9b⟩ : ∃ V, y9a.setCell ⟨w.heap.size + 1, 1, none⟩ (.int .i64 H) = V := ⟨_, rfl⟩
      rw [hy9b] at pcc pfc so9 on9
      obtain ⟨y9, hy9⟩ : ∃ V, y9b.setCell ⟨w.heap.size + 1, 2, none⟩ (.int .i64 F) = V := ⟨_, rfl⟩
      rw [hy9] at so9 on9
      obtain ⟨e0, e1, e2⟩ := Tab.box_three so9
      have o4 := hide ((o2.zone (Zone.of_only on9 (Nat.le_refl _) (Nat.lt_succ_self _)) (.inr (by omega))).wide (lo' := w.heap.size) (hi' := y9.heap.size) (by omega) (by have := on9.size; omega) (Nat.le_refl _))
      have d4 := hide ((d1.trans (b2.mono d1.size)).trans (on9.below (show w.heap.size ≤ w.heap.size + 1 by omega)))
      clear HCp2 o2 so9 on9
      go_wp2_with fail
      refine bodyPost_ret (v := .tuple #[.agg #[.slice ra rl rq, .int .i64 H, .int .i64 F], .int .i64 1]) (by simp [results, Tryz.results15, go_sem, e0, e1, e2]) rfl ⟨_, rfl, unhide o4, unhide d4⟩
set_option maxRecDepth 100000 in
set_option maxHeartbeats 8000000 in
theorem spec_tadd {w : World} {v bv : Value} {L : List Row.E} {b : List En} (H F : Int) (h : Row.Is w v L) (hgL : ∀ x ∈ L, Row.good x) (hlL : L.length ≤ maxLen) (hb : Ent.Is w bv b) (hg : Okay b) :
    Calls Tryz.prog 12 #[.agg #[v, .int .i64 H, .int .i64 F], bv] w fun e w' => ∃ r, e = .returned (.tuple #[.agg #[r, .int .i64 (tadd L H F b).1.2.1, .int .i64 (tadd L H F b).1.2.2], .int .i64 (tadd L H F b).2]) ∧ Row.Own w.heap.size w'.heap.size w' r (tadd L H F b).1.1 ∧ Below w.heap.size w w' := by
  obtain ⟨av, nv, cv, rfl⟩ : ∃ a n c, v = .slice a n c := by obtain ⟨cs, -, hL, -⟩ := h; obtain ⟨-, a, c, e, -⟩ := hL; exact ⟨a, _, c, e⟩
  obtain ⟨W, hW⟩ : ∃ V, ((w.alloc (.cells #[.slice av nv cv, .int .i64 H, .int .i64 F] 30)).alloc (.cells #[.slice none 0 0, .int .i64 0, .int .i64 0] 30)) = V := ⟨_, rfl⟩
  have bW : Below w.heap.size w W := by rw [← hW]; exact ((Below.refl _ _).alloc (Nat.le_refl _) _).alloc (by simp) _
  have zW : W.heap.size = w.heap.size + 1 + 1 := by rw [← hW]; simp
  have RT : W.ownsRow w.heap.size 30 3 (.slice (some ⟨w.heap.size, 0, none⟩) 1 1) 1 [.slice av nv cv, .int .i64 H, .int .i64 F] := by
    rw [← hW]
    exact own_below (own_new3 (Nat.le_refl _) rfl) ((Below.refl _ _).alloc (Nat.le_refl _) _)
  have RO : W.ownsRow w.heap.size 30 3 (.slice (some ⟨w.heap.size + 1, 0, none⟩) 1 1) 1 [.slice none 0 0, .int .i64 0, .int .i64 0] := by
    rw [← hW]
    have := own_new3 (w := w.alloc (.cells #[.slice av nv cv, .int .i64 H, .int .i64 F] 30)) (base := w.heap.size) (t := 30) (cs := #[.slice none 0 0, .int .i64 0, .int .i64 0]) (by simp) rfl
    simp only [World.size_alloc] at this
    exact this
  have HOk := hide (Row.spec_table (H := H) (F := F) (h.below bW) hgL hlL)
  have HTr := hide (fun (ht : Row.tableB L H F = true) X (hx : Below W.heap.size W X) => l6add (w := X) av nv cv H F ((h.below bW).below hx) (tab_of ht) ((hb.below bW).below hx) hg)
  obtain ⟨ab, qb, ee⟩ : ∃ a q, bv = .slice a b.length q := by obtain ⟨cs, -, hL, -⟩ := hb; obtain ⟨-, a, q, e, -⟩ := hL; exact ⟨a, q, e⟩
  subst ee
  obtain ⟨n, hn⟩ : ∃ n, n = b.length := ⟨_, rfl⟩
  rw [← hn] at HTr ⊢
  obtain ⟨res, hres⟩ : ∃ x, x = tadd L H F b := ⟨_, rfl⟩
  rw [← hres]
  have HRes := hide hres
  obtain ⟨x0, x1, x2⟩ := box_three RT
  clear h hgL hlL hb hg hn hres
  go_enter Tryz.func12, Tryz.ntmps12
  go_wp2_with fail
  refine (unhide HOk).mono ?_
  rintro e w1 ⟨rfl, b1⟩
  have d1 := bW.trans (b1.mono bW.size)
  have z1 := b1.size
  cases hT : Row.tableB L H F
  · have hr : res = (([], 0, 0), 1) := by rw [unhide HRes]; exact tadd_no hT
    subst hr
    obtain ⟨⟨pca, pfa⟩, ⟨pcb, pfb⟩, ⟨pcc, pfc⟩, so9, on9⟩ := Tab.box_put (w := w1) (.slice none 0 0) (.int .i64 0) (.int .i64 0) (own_below RO b1)
    obtain ⟨y9a, hy9a⟩ : ∃ V, w1.setCell ⟨w.heap.size + 1, 0, none⟩ (.slice none 0 0) = V := ⟨_, rfl⟩
    rw [hy9a] at pcb pfb pcc pfc so9 on9
    obtain ⟨y9b, hy9b⟩ : ∃ V, y9a.setCell ⟨w.heap.size + 1, 1, none⟩ (.int .i64 0) = V := ⟨_, rfl⟩
    rw [hy9b] at pcc pfc so9 on9
    obtain ⟨y9, hy9⟩ : ∃ V, y9b.setCell ⟨w.heap.size + 1, 2, none⟩ (.int .i64 0) = V := ⟨_, rfl⟩
    rw [hy9] at so9 on9
    obtain ⟨e0, e1, e2⟩ := Tab.box_three so9
    have o4 := hide (Row.own_nil w.heap.size y9)
    have d4 := hide (d1.trans (on9.below (show w.heap.size ≤ w.heap.size + 1 by omega)))
    clear hT HTr HOk so9 on9
    go_wp2_with fail
    refine bodyPost_ret (v := .tuple #[.agg #[.slice none 0 0, .int .i64 0, .int .i64 0], .int .i64 1]) (by simp [results, Tryz.results12, go_sem, e0, e1, e2]) rfl ⟨_, rfl, unhide o4, unhide d4⟩
  have HTT := hide hT
  clear hT HOk x0 x1 x2
  obtain ⟨x0, x1, x2⟩ := box_three (own_below RT b1)
  have hr : res = addE (L, H, F) b := by rw [unhide HRes]; exact tadd_yes (unhide HTT)
  have HTr2 := hide (unhide HTr (unhide HTT) w1 b1)
  rw [← hr] at HTr2
  clear HTr hr
  go_wp2_with fail
  refine (unhide HTr2).mono ?_
  rintro e w2 ⟨r, rfl, o2, b2⟩
  obtain ⟨ra, rl, rq, rfl⟩ := o2.form
  have b12 := b1.trans (b2.mono b1.size)
  have z2 := b2.size
  obtain ⟨⟨pca, pfa⟩, ⟨pcb, pfb⟩, ⟨pcc, pfc⟩, so9, on9⟩ := Tab.box_put (w := w2) (.slice ra rl rq) (.int .i64 res.1.2.1) (.int .i64 res.1.2.2) (own_below RO b12)
  obtain ⟨y9a, hy9a⟩ : ∃ V, w2.setCell ⟨w.heap.size + 1, 0, none⟩ (.slice ra rl rq) = V := ⟨_, rfl⟩
  rw [hy9a] at pcb pfb pcc pfc so9 on9
  obtain ⟨y9b, hy9b⟩ : ∃ V, y9a.setCell ⟨w.heap.size + 1, 1, none⟩ (.int .i64 res.1.2.1) = V := ⟨_, rfl⟩
  rw [hy9b] at pcc pfc so9 on9
  obtain ⟨y9, hy9⟩ : ∃ V, y9b.setCell ⟨w.heap.size + 1, 2, none⟩ (.int .i64 res.1.2.2) = V := ⟨_, rfl⟩
  rw [hy9] at so9 on9
  obtain ⟨e0, e1, e2⟩ := Tab.box_three so9
  have o4 := hide ((o2.zone (Zone.of_only on9 (Nat.le_refl _) (Nat.lt_succ_self _)) (.inr (by omega))).wide (lo' := w.heap.size) (hi' := y9.heap.size) (by omega) (by have := on9.size; omega) (Nat.le_refl _))
  have d4 := hide ((d1.trans (b2.mono d1.size)).trans (on9.below (show w.heap.size ≤ w.heap.size + 1 by omega)))
  clear HTr2 o2 so9 on9
  go_wp2_with fail
  refine bodyPost_ret (v := .tuple #[.agg #[.slice ra rl rq, .int .i64 res.1.2.1, .int .i64 res.1.2.2], .int .i64 res.2]) (by simp [results, Tryz.results12, go_sem, e0, e1, e2]) rfl ⟨_, rfl, unhide o4, unhide d4⟩
end Go.Proofs.YtlboekimnhgfdaaGreat.Tab

/- How much there is at most in what is left. -/
namespace Go.Proofs.YtlboekimnhgfdaaGreat.Row
open Go.RowKit Rw
theorem drop_cnt (ms : List Mat.E) (f t : Int) (zs : List E) : cnt (drop ms f t zs) ≤ 2097152 ∧ (drop ms f t zs).length ≤ 2097152 := by
  unfold drop
  by_cases h : ok zs = true ∧ Mat.ok ms = true
  · rw [if_pos h]
    refine outL_cnt h.1 (fun i hi => ?_)
    have := (step_is (ok_at h.1 hi)).2.2.1
    unfold dropG
    split
    · exact Nat.le_trans (List.length_filter_le _ _) (by omega)
    · omega
  · rw [if_neg h]
    simp [cnt, cntTo]
end Go.Proofs.YtlboekimnhgfdaaGreat.Row

/- A table as an answer: its marks are laid, and held; how much there is in it at most. -/
namespace Go.Proofs.YtlboekimnhgfdaaGreat.Tab
open Go.RowKit Rw
set_option linter.unusedVariables false
attribute [local go_sem ↓] Go.wp_at_zero Go.wp_at_succ
theorem markX {lo hi : Nat} {v : Value} {zs : List Row.E} {N1 N2 : Int} {w : World} (k0 : Nat) (hk1 : 1 ≤ k0) (hk2 : k0 ≤ 100000000) (hc : Row.cnt zs ≤ 2097152 ∧ zs.length ≤ 2097152) (h : Row.Own lo hi w v zs) :
    Calls Tryz.prog 18 #[.agg #[v, .int .i64 N1, .int .i64 N2], .int .i64 k0] w fun e w' => ∃ k : Nat, e = .returned (.int .i64 k) ∧ k = k0 + Row.cnt zs ∧ Row.Own lo hi w' v (Row.mk k0 zs) ∧ Zone lo hi w w' := by
  obtain ⟨ra, rl, rq, rfl⟩ := Row.Own.form h
  have b : Below w.heap.size w (w.alloc (.cells #[.slice ra rl rq, .int .i64 N1, .int .i64 N2] 30)) := (Below.refl _ _).alloc (Nat.le_refl _) _
  have H := hide (Row.markX k0 hk1 hk2 hc (h.below b))
  have zb : Zone lo hi w (w.alloc (.cells #[.slice ra rl rq, .int .i64 N1, .int .i64 N2] 30)) := Zone.of_below b
  clear h hc b
  go_enter Tryz.func18, Tryz.ntmps18
  go_wp2_with fail
  refine (unhide H).mono ?_
  rintro e v0 ⟨k, rfl, h1, o, z⟩
  have O := hide o
  have E := hide h1
  clear o h1
  go_wp2_with fail
  go_ret
  exact ⟨k, rfl, unhide E, unhide O, zb.trans z⟩
theorem heldX {v : Value} {zs : List Row.E} {N1 N2 : Int} {w : World} (k0 : Nat) (hk1 : 1 ≤ k0) (hk2 : k0 ≤ 100000000) (hc : Row.cnt zs ≤ 2097152 ∧ zs.length ≤ 2097152) (h : Row.Is w v (Row.mk k0 zs)) :
    Calls Tryz.prog 20 #[.agg #[v, .int .i64 N1, .int .i64 N2], .int .i64 k0] w fun e w' => ∃ k : Nat, e = .returned (.int .i64 k) ∧ k = k0 + Row.cnt zs ∧ Below w.heap.size w w' := by
  obtain ⟨ra, rl, rq, rfl⟩ : ∃ a n c, v = .slice a n c := by obtain ⟨cs, -, hL, -⟩ := h; obtain ⟨-, a, c, e, -⟩ := hL; exact ⟨a, _, c, e⟩
  have b : Below w.heap.size w (w.alloc (.cells #[.slice ra rl rq, .int .i64 N1, .int .i64 N2] 30)) := (Below.refl _ _).alloc (Nat.le_refl _) _
  have H := hide (Row.heldX k0 hk1 hk2 hc (h.below b))
  clear h hc
  go_enter Tryz.func20, Tryz.ntmps20
  go_wp2_with fail
  refine (unhide H).mono ?_
  rintro e v0 ⟨k, rfl, h1, b1⟩
  have E := hide h1
  have bn := b.trans (b1.mono b.size)
  have hkn : decide ((k : Int) < 0) = false := by simp
  clear h1 b1
  go_wp2_with fail
  go_ret
  exact ⟨k, rfl, unhide E, bn⟩
theorem rows_cnt {zs : List Row.E} (h : Row.ok zs = true) : Row.cnt zs ≤ 2097152 ∧ zs.length ≤ 2097152 := by
  have h10 := Row.ok_len h
  have h1 := Row.cnt_le zs 6000 (fun y hy => by
    obtain ⟨i, hi, rfl⟩ := List.getElem_of_mem hy
    have hs := Row.step_is (Row.ok_at h hi)
    rw [Row.at_get zs i hi] at hs
    have := (Lab.ok_small hs.1).1
    have := hs.2.2.1
    unfold Row.cntE
    omega)
  have h2 : zs.length * 6000 ≤ 10 * 6000 := Nat.mul_le_mul_right _ (by omega)
  omega
theorem drop_cnt (ms : List Mat.E) (f t : Int) (zs : List Row.E) (H F : Int) : Row.cnt (drop ms f t zs H F).1 ≤ 2097152 ∧ (drop ms f t zs H F).1.length ≤ 2097152 := by
  unfold drop
  split
  · rename_i h
    split
    · exact Row.drop_cnt ms f t zs
    · exact rows_cnt (table_ok h)
  · simp [Row.cnt, Row.cntTo]
end Go.Proofs.YtlboekimnhgfdaaGreat.Tab

/- How much there is at most in a table that was added to. -/
namespace Go.Proofs.YtlboekimnhgfdaaGreat.Tab
open Go.RowKit Rw
theorem tadd_cnt (zs : List Row.E) (H F : Int) (b : List En) : Row.cnt (tadd zs H F b).1.1 ≤ 2097152 ∧ (tadd zs H F b).1.1.length ≤ 2097152 := by
  unfold tadd
  split
  · rename_i h
    exact rows_cnt (addE_tab (b := b) (tab_of h)).1
  · simp [Row.cnt, Row.cntTo]
theorem okay_of {b : List En} (h : ∀ x ∈ b, Ent.good x) : Okay b := fun e he => ⟨(h e he).1.2, (h e he).1.1⟩
end Go.Proofs.YtlboekimnhgfdaaGreat.Tab
