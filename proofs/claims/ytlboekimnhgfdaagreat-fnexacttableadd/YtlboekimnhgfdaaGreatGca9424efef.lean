/- My own texts of one claim, laid together by program: TabOk2, TabUni, TabCopy, LabEq. -/
import Derived.Test.YtlboekimnhgfdaaGreatG3314a58633
import Derived.Test.YtlboekimnhgfdaaGreatG32b7cddec7
import Derived.Test.YtlboekimnhgfdaaGreatGf7ca62e939
import Derived.Test.YtlboekimnhgfdaaGreatGb649170687
import Derived.Laws.StructEq
/- TableOk of the model, at every table. -/
namespace Go.Proofs.YtlboekimnhgfdaaGreat.Row
open Go.RowKit Rw
set_option linter.unusedVariables false
attribute [local go_sem ↓] Go.wp_at_zero Go.wp_at_succ
set_option maxRecDepth 100000 in
set_option maxHeartbeats 8000000 in
theorem spec_table {w : World} {v : Value} {zs : List E} {H F : Int} (h : Is w v zs) (hg : ∀ x ∈ zs, good x) (hlen : zs.length ≤ maxLen) : Calls Tryz.prog 25 #[.agg #[v, .int .i64 H, .int .i64 F]] w fun e w' => e = .returned (.bool (tableB zs H F)) ∧ Below w.heap.size w w' := by
  obtain ⟨wa, hwa⟩ : ∃ wa, wa = w.alloc (.cells #[v, .int .i64 H, .int .i64 F] 30) := ⟨_, rfl⟩
  have B : Below w.heap.size w wa := by rw [hwa]; exact (Below.refl _ _).alloc (Nat.le_refl _) _
  have za : w.heap.size < wa.heap.size := by rw [hwa]; simp
  have hq0 : ∀ x : Cls wa.heap.size wa, x.val.cell? ⟨w.heap.size, 0, none⟩ = some v := fun x => by rw [x.cell (by omega), hwa]; simp [go_sem]
  have hq1 : ∀ x : Cls wa.heap.size wa, x.val.cell? ⟨w.heap.size, 1, none⟩ = some (.int .i64 H) := fun x => by rw [x.cell (by omega), hwa]; simp [go_sem]
  have hq2 : ∀ x : Cls wa.heap.size wa, x.val.cell? ⟨w.heap.size, 2, none⟩ = some (.int .i64 F) := fun x => by rw [x.cell (by omega), hwa]; simp [go_sem]
  have hne := cls_nonempty wa.heap.size wa
  have ha := h.below B
  have C1 := hide (fun x : Cls wa.heap.size wa => spec_ok (ha.below x.isBelow) hg hlen)
  have HLa := hide (fun (hok : ok zs = true) (x : Cls wa.heap.size wa) => last_any (ha.below x.isBelow) hok)
  have HFi := hide (fun (hok : ok zs = true) (x : Cls wa.heap.size wa) => first_any (ha.below x.isBelow) hok)
  clear h hg hlen ha
  obtain ⟨R, hR⟩ : ∃ R, F.tmod 100 = R := ⟨_, rfl⟩
  cases h5 : ok zs
  · have HR := hide (tableB_no (zs := zs) (H := H) (F := F) (fun h => by rw [h5] at h; exact absurd h.2.2.2.2.1 (by simp)))
    rw [h5] at C1
    have C4 := hide trivial
    have C5 := hide trivial
    clear h5
    have I1 := hide (rfl : Zig.inB H (-1) 9999 = Zig.inB H (-1) 9999)
    have I2 := hide (rfl : Zig.inB F 0 9999 = Zig.inB F 0 9999)
    go_enter Tryz.func25, Tryz.ntmps25
    go_wp2_with fail
    rw [← hwa]
    clear hwa
    refine region_cls (by kernel_rfl) (by kernel_rfl) ?_
    repeat (go_big_quiet_step (first | (go_at_call 59; exact cls_call (Nat.le_refl _) (unhide C1 _)) | (go_at_call_of 60 H; exact cls_same (Samp.in_is H _ _ _ _ (unhide I1))) | (go_at_call 60; exact cls_same (Samp.in_is F _ _ _ _ (unhide I2))) | (go_at_call 61; exact cls_same (unhide C4 _)) | (go_at_call 62; exact cls_same (unhide C5 _))))
    refine wpQuiet_nil ?_
    rintro wq ⟨⟨_, hq⟩, rfl⟩
    have hbq := B.trans (hq.mono B.size)
    go_wp2
    go_ret
    exact ⟨ret_bool (unhide HR).symm, hbq⟩
  rw [h5] at C1
  have C4 := hide (unhide HLa h5)
  have C5 := hide (unhide HFi h5)
  clear HLa HFi
  by_cases hH : -1 ≤ H ∧ H ≤ 9999
  · have I1 := hide (Samp.inB_true (n := H) (lo := (-1)) (hi := 9999) (by omega) (by omega))
    by_cases hF : 0 ≤ F ∧ F ≤ 9999
    · have I2 := hide (Samp.inB_true (n := F) (lo := 0) (hi := 9999) (by omega) (by omega))
      by_cases h2 : R = 0
      · subst h2
        have h3 := floorB_yes hF.1 hF.2 hR
        have HWi := within_iff h5 (H := H) (F := F) hH.1 (by omega)
        obtain ⟨L, hL⟩ : ∃ L, L = lastR zs := ⟨_, rfl⟩
        obtain ⟨M, hM⟩ : ∃ M, M = firstR zs := ⟨_, rfl⟩
        rw [← hL] at C4 HWi
        rw [← hM] at C5 HWi
        clear hL hM
        by_cases h0 : F = 0
        · subst h0
          clear hR
          by_cases hL : L ≤ H
          · by_cases hM : (0 : Int) ≤ M
            · have HR := hide (tableB_yes (zs := zs) (H := H) (F := 0) hH.1 hH.2 h3 (by omega) h5 (HWi.2 ⟨hL, hM⟩))
              clear HWi h3 h5
              go_enter Tryz.func25, Tryz.ntmps25
              go_wp2_with fail
              rw [← hwa]
              clear hwa
              refine region_cls (by kernel_rfl) (by kernel_rfl) ?_
              repeat (go_big_quiet_step (first | (go_at_call 59; exact cls_call (Nat.le_refl _) (unhide C1 _)) | (go_at_call_of 60 H; exact cls_same (Samp.in_is H _ _ _ _ (unhide I1))) | (go_at_call 60; exact cls_same (Samp.in_is 0 _ _ _ _ (unhide I2))) | (go_at_call 61; exact cls_same (unhide C4 _)) | (go_at_call 62; exact cls_same (unhide C5 _))))
              refine wpQuiet_nil ?_
              rintro wq ⟨⟨_, hq⟩, rfl⟩
              have hbq := B.trans (hq.mono B.size)
              go_wp2
              go_ret
              exact ⟨ret_bool (unhide HR).symm, hbq⟩
            · have HR := hide (tableB_no (zs := zs) (H := H) (F := 0) (fun h => by exact hM (HWi.1 h.2.2.2.2.2).2))
              have hMd : decide ((0 : Int) ≤ M) = false := by simp; omega
              clear HWi h3 h5 hM
              go_enter Tryz.func25, Tryz.ntmps25
              go_wp2_with fail
              rw [← hwa]
              clear hwa
              refine region_cls (by kernel_rfl) (by kernel_rfl) ?_
              repeat (go_big_quiet_step (first | (go_at_call 59; exact cls_call (Nat.le_refl _) (unhide C1 _)) | (go_at_call_of 60 H; exact cls_same (Samp.in_is H _ _ _ _ (unhide I1))) | (go_at_call 60; exact cls_same (Samp.in_is 0 _ _ _ _ (unhide I2))) | (go_at_call 61; exact cls_same (unhide C4 _)) | (go_at_call 62; exact cls_same (unhide C5 _))))
              refine wpQuiet_nil ?_
              rintro wq ⟨⟨_, hq⟩, rfl⟩
              have hbq := B.trans (hq.mono B.size)
              go_wp2
              go_ret
              exact ⟨ret_bool (unhide HR).symm, hbq⟩
          · have HR := hide (tableB_no (zs := zs) (H := H) (F := 0) (fun h => by exact hL (HWi.1 h.2.2.2.2.2).1))
            have hLd : decide (L ≤ H) = false := by simp; omega
            clear HWi h3 h5 hL
            go_enter Tryz.func25, Tryz.ntmps25
            go_wp2_with fail
            rw [← hwa]
            clear hwa
            refine region_cls (by kernel_rfl) (by kernel_rfl) ?_
            repeat (go_big_quiet_step (first | (go_at_call 59; exact cls_call (Nat.le_refl _) (unhide C1 _)) | (go_at_call_of 60 H; exact cls_same (Samp.in_is H _ _ _ _ (unhide I1))) | (go_at_call 60; exact cls_same (Samp.in_is 0 _ _ _ _ (unhide I2))) | (go_at_call 61; exact cls_same (unhide C4 _)) | (go_at_call 62; exact cls_same (unhide C5 _))))
            refine wpQuiet_nil ?_
            rintro wq ⟨⟨_, hq⟩, rfl⟩
            have hbq := B.trans (hq.mono B.size)
            go_wp2
            go_ret
            exact ⟨ret_bool (unhide HR).symm, hbq⟩
        · have h0f : (F == 0) = false := by simpa using h0
          by_cases h4 : F ≤ H
          · skip
            by_cases hL : L ≤ H
            · by_cases hM : F ≤ M
              · have HR := hide (tableB_yes (zs := zs) (H := H) (F := F) hH.1 hH.2 h3 (by omega) h5 (HWi.2 ⟨hL, hM⟩))
                clear HWi h3 h5
                go_enter Tryz.func25, Tryz.ntmps25
                go_wp2_with fail
                rw [← hwa]
                clear hwa
                refine region_cls (by kernel_rfl) (by kernel_rfl) ?_
                repeat (go_big_quiet_step (first | (go_at_call 59; exact cls_call (Nat.le_refl _) (unhide C1 _)) | (go_at_call_of 60 H; exact cls_same (Samp.in_is H _ _ _ _ (unhide I1))) | (go_at_call 60; exact cls_same (Samp.in_is F _ _ _ _ (unhide I2))) | (go_at_call 61; exact cls_same (unhide C4 _)) | (go_at_call 62; exact cls_same (unhide C5 _))))
                refine wpQuiet_nil ?_
                rintro wq ⟨⟨_, hq⟩, rfl⟩
                have hbq := B.trans (hq.mono B.size)
                go_wp2
                go_ret
                exact ⟨ret_bool (unhide HR).symm, hbq⟩
              · have HR := hide (tableB_no (zs := zs) (H := H) (F := F) (fun h => by exact hM (HWi.1 h.2.2.2.2.2).2))
                have hMd : decide (F ≤ M) = false := by simp; omega
                clear HWi h3 h5 hM
                go_enter Tryz.func25, Tryz.ntmps25
                go_wp2_with fail
                rw [← hwa]
                clear hwa
                refine region_cls (by kernel_rfl) (by kernel_rfl) ?_
                repeat (go_big_quiet_step (first | (go_at_call 59; exact cls_call (Nat.le_refl _) (unhide C1 _)) | (go_at_call_of 60 H; exact cls_same (Samp.in_is H _ _ _ _ (unhide I1))) | (go_at_call 60; exact cls_same (Samp.in_is F _ _ _ _ (unhide I2))) | (go_at_call 61; exact cls_same (unhide C4 _)) | (go_at_call 62; exact cls_same (unhide C5 _))))
                refine wpQuiet_nil ?_
                rintro wq ⟨⟨_, hq⟩, rfl⟩
                have hbq := B.trans (hq.mono B.size)
                go_wp2
                go_ret
                exact ⟨ret_bool (unhide HR).symm, hbq⟩
            · have HR := hide (tableB_no (zs := zs) (H := H) (F := F) (fun h => by exact hL (HWi.1 h.2.2.2.2.2).1))
              have hLd : decide (L ≤ H) = false := by simp; omega
              clear HWi h3 h5 hL
              go_enter Tryz.func25, Tryz.ntmps25
              go_wp2_with fail
              rw [← hwa]
              clear hwa
              refine region_cls (by kernel_rfl) (by kernel_rfl) ?_
              repeat (go_big_quiet_step (first | (go_at_call 59; exact cls_call (Nat.le_refl _) (unhide C1 _)) | (go_at_call_of 60 H; exact cls_same (Samp.in_is H _ _ _ _ (unhide I1))) | (go_at_call 60; exact cls_same (Samp.in_is F _ _ _ _ (unhide I2))) | (go_at_call 61; exact cls_same (unhide C4 _)) | (go_at_call 62; exact cls_same (unhide C5 _))))
              refine wpQuiet_nil ?_
              rintro wq ⟨⟨_, hq⟩, rfl⟩
              have hbq := B.trans (hq.mono B.size)
              go_wp2
              go_ret
              exact ⟨ret_bool (unhide HR).symm, hbq⟩
          · have HR := hide (tableB_no (zs := zs) (H := H) (F := F) (fun h => by omega))
            have h4d : decide (F ≤ H) = false := by simp; omega
            clear HWi h3 h5 h4
            go_enter Tryz.func25, Tryz.ntmps25
            go_wp2_with fail
            rw [← hwa]
            clear hwa
            refine region_cls (by kernel_rfl) (by kernel_rfl) ?_
            repeat (go_big_quiet_step (first | (go_at_call 59; exact cls_call (Nat.le_refl _) (unhide C1 _)) | (go_at_call_of 60 H; exact cls_same (Samp.in_is H _ _ _ _ (unhide I1))) | (go_at_call 60; exact cls_same (Samp.in_is F _ _ _ _ (unhide I2))) | (go_at_call 61; exact cls_same (unhide C4 _)) | (go_at_call 62; exact cls_same (unhide C5 _))))
            refine wpQuiet_nil ?_
            rintro wq ⟨⟨_, hq⟩, rfl⟩
            have hbq := B.trans (hq.mono B.size)
            go_wp2
            go_ret
            exact ⟨ret_bool (unhide HR).symm, hbq⟩
      · have HR := hide (tableB_no (zs := zs) (H := H) (F := F) (fun h => by have h6 := h.2.2.1; unfold floorB at h6; simp only [Bool.and_eq_true, decide_eq_true_eq] at h6; exact h2 (hR.symm.trans h6.2)))
        have h2f : (R == 0) = false := by simpa using h2
        clear h5
        go_enter Tryz.func25, Tryz.ntmps25
        go_wp2_with fail
        rw [← hwa]
        clear hwa
        refine region_cls (by kernel_rfl) (by kernel_rfl) ?_
        repeat (go_big_quiet_step (first | (go_at_call 59; exact cls_call (Nat.le_refl _) (unhide C1 _)) | (go_at_call_of 60 H; exact cls_same (Samp.in_is H _ _ _ _ (unhide I1))) | (go_at_call 60; exact cls_same (Samp.in_is F _ _ _ _ (unhide I2))) | (go_at_call 61; exact cls_same (unhide C4 _)) | (go_at_call 62; exact cls_same (unhide C5 _))))
        refine wpQuiet_nil ?_
        rintro wq ⟨⟨_, hq⟩, rfl⟩
        have hbq := B.trans (hq.mono B.size)
        go_wp2
        go_ret
        exact ⟨ret_bool (unhide HR).symm, hbq⟩
    · have I2 := hide (Samp.inB_false (n := F) (lo := 0) (hi := 9999) (by omega))
      have HR := hide (tableB_no (zs := zs) (H := H) (F := F) (fun h => by have h6 := h.2.2.1; unfold floorB at h6; simp only [Bool.and_eq_true, decide_eq_true_eq] at h6; exact hF h6.1))
      clear h5
      go_enter Tryz.func25, Tryz.ntmps25
      go_wp2_with fail
      rw [← hwa]
      clear hwa
      refine region_cls (by kernel_rfl) (by kernel_rfl) ?_
      repeat (go_big_quiet_step (first | (go_at_call 59; exact cls_call (Nat.le_refl _) (unhide C1 _)) | (go_at_call_of 60 H; exact cls_same (Samp.in_is H _ _ _ _ (unhide I1))) | (go_at_call 60; exact cls_same (Samp.in_is F _ _ _ _ (unhide I2))) | (go_at_call 61; exact cls_same (unhide C4 _)) | (go_at_call 62; exact cls_same (unhide C5 _))))
      refine wpQuiet_nil ?_
      rintro wq ⟨⟨_, hq⟩, rfl⟩
      have hbq := B.trans (hq.mono B.size)
      go_wp2
      go_ret
      exact ⟨ret_bool (unhide HR).symm, hbq⟩
  · have I1 := hide (Samp.inB_false (n := H) (lo := (-1)) (hi := 9999) (by omega))
    have I2 := hide (rfl : Zig.inB F 0 9999 = Zig.inB F 0 9999)
    have HR := hide (tableB_no (zs := zs) (H := H) (F := F) (fun h => by exact hH ⟨h.1, h.2.1⟩))
    clear h5
    go_enter Tryz.func25, Tryz.ntmps25
    go_wp2_with fail
    rw [← hwa]
    clear hwa
    refine region_cls (by kernel_rfl) (by kernel_rfl) ?_
    repeat (go_big_quiet_step (first | (go_at_call 59; exact cls_call (Nat.le_refl _) (unhide C1 _)) | (go_at_call_of 60 H; exact cls_same (Samp.in_is H _ _ _ _ (unhide I1))) | (go_at_call 60; exact cls_same (Samp.in_is F _ _ _ _ (unhide I2))) | (go_at_call 61; exact cls_same (unhide C4 _)) | (go_at_call 62; exact cls_same (unhide C5 _))))
    refine wpQuiet_nil ?_
    rintro wq ⟨⟨_, hq⟩, rfl⟩
    have hbq := B.trans (hq.mono B.size)
    go_wp2
    go_ret
    exact ⟨ret_bool (unhide HR).symm, hbq⟩
end Go.Proofs.YtlboekimnhgfdaaGreat.Row

/- What the laws' helpers do with a table whose rows are the call's own; TableAsk of the program and of the model. -/
namespace Go.Proofs.YtlboekimnhgfdaaGreat.Row
open Go.RowKit Rw
theorem Own.wide {lo hi lo' hi' : Nat} {w : World} {v : Value} {zs : List E} (h : Own lo hi w v zs) (h1 : lo' ≤ lo) (h2 : hi ≤ hi') (h3 : hi' ≤ w.heap.size) : Own lo' hi' w v zs := by
  obtain ⟨cs, g1, g2, g3, g4, g5, g6, g7⟩ := h
  exact ⟨cs, g1, own_mono g2 h1, fun k hk => by have := g3 k hk; omega, h3, g5, g6, fun i hi => ⟨⟨own_mono (g7 i hi).1.1 h1, own_mono (g7 i hi).1.2 h1⟩, fun k hk => by have := (g7 i hi).2.1 k hk; omega, fun k hk => by have := (g7 i hi).2.2 k hk; omega⟩⟩
end Go.Proofs.YtlboekimnhgfdaaGreat.Row
namespace Go.Proofs.YtlboekimnhgfdaaGreat.Tab
open Go.RowKit Rw
set_option linter.unusedVariables false
attribute [local go_sem ↓] Go.wp_at_zero Go.wp_at_succ
set_option maxHeartbeats 4000000 in
theorem toX {v : Value} {zs : List Row.E} (N1 N2 : Int) {w : World} (h : Row.Is w v zs) (ht : Row.tot zs ≤ 1048576) : Calls Tryz.prog 13 #[.agg #[v, .int .i64 N1, .int .i64 N2]] w fun e w' => ∃ r, e = .returned (.agg #[r, .int .i64 N1, .int .i64 N2]) ∧ Row.Own w.heap.size w'.heap.size w' r zs ∧ Below w.heap.size w w' := by
  have T0 := hide (fun W (hb : Below w.heap.size w W) => Row.toX (h.below hb) ht)
  clear h ht
  have B := (((Below.refl w.heap.size w).alloc (Nat.le_refl _) (.cells #[v, .int .i64 N1, .int .i64 N2] 24)).alloc (by simp) (.cells #[.slice none 0 0, .int .i64 0, .int .i64 0] 30)).alloc (by simp; omega) (.cells #[.slice none 0 0, .int .i64 0, .int .i64 0] 30)
  go_enter Tryz.func13, Tryz.ntmps13
  go_wp2_with fail
  refine (unhide T0 _ B).mono ?_
  rintro e v0 ⟨r, rfl, o0, b0⟩
  obtain ⟨ra, rl, rq, rfl⟩ := Row.Own.form o0
  obtain ⟨bc0, bf0⟩ := bcell b0
  have z0 := b0.size
  have B0 := B.trans (b0.mono B.size)
  simp only [World.size_alloc] at z0 bc0 bf0 o0 ⊢
  clear b0
  have I := hide o0
  clear o0
  have Bs0 := B0.setCell (p := ⟨w.heap.size + 1 + 1, 0, none⟩) (by show w.heap.size ≤ w.heap.size + 1 + 1; omega) (.slice ra rl rq)
  have I0 := hide ((unhide I).zone (Zone.of_only ((OnlyAt.refl (w.heap.size + 1 + 1) _).setCell 0 (.slice ra rl rq)) (Nat.le_refl _) (Nat.lt_succ_self _)) (.inr (by omega)))
  have Bs1 := Bs0.setCell (p := ⟨w.heap.size + 1 + 1, 1, none⟩) (by show w.heap.size ≤ w.heap.size + 1 + 1; omega) (.int .i64 N1)
  have I1 := hide ((unhide I0).zone (Zone.of_only ((OnlyAt.refl (w.heap.size + 1 + 1) _).setCell 1 (.int .i64 N1)) (Nat.le_refl _) (Nat.lt_succ_self _)) (.inr (by omega)))
  have Bs2 := Bs1.setCell (p := ⟨w.heap.size + 1 + 1, 2, none⟩) (by show w.heap.size ≤ w.heap.size + 1 + 1; omega) (.int .i64 N2)
  have I2 := hide ((unhide I1).zone (Zone.of_only ((OnlyAt.refl (w.heap.size + 1 + 1) _).setCell 2 (.int .i64 N2)) (Nat.le_refl _) (Nat.lt_succ_self _)) (.inr (by omega)))
  have Br0 := Bs2.setCell (p := ⟨w.heap.size + 1, 0, none⟩) (by show w.heap.size ≤ w.heap.size + 1; omega) (.slice ra rl rq)
  have I3 := hide ((unhide I2).zone (Zone.of_only ((OnlyAt.refl (w.heap.size + 1) _).setCell 0 (.slice ra rl rq)) (Nat.le_refl _) (Nat.lt_succ_self _)) (.inr (by omega)))
  have Br1 := Br0.setCell (p := ⟨w.heap.size + 1, 1, none⟩) (by show w.heap.size ≤ w.heap.size + 1; omega) (.int .i64 N1)
  have I4 := hide ((unhide I3).zone (Zone.of_only ((OnlyAt.refl (w.heap.size + 1) _).setCell 1 (.int .i64 N1)) (Nat.le_refl _) (Nat.lt_succ_self _)) (.inr (by omega)))
  have Br2 := Br1.setCell (p := ⟨w.heap.size + 1, 2, none⟩) (by show w.heap.size ≤ w.heap.size + 1; omega) (.int .i64 N2)
  have I5 := hide ((unhide I4).zone (Zone.of_only ((OnlyAt.refl (w.heap.size + 1) _).setCell 2 (.int .i64 N2)) (Nat.le_refl _) (Nat.lt_succ_self _)) (.inr (by omega)))
  clear B0 Bs0 Bs1 Bs2 Br0 Br1 I I0 I1 I2 I3 I4
  go_wp2
  refine bodyPost_ret (v := .agg #[.slice ra rl rq, .int .i64 N1, .int .i64 N2]) (by simp [results, Tryz.results13, go_sem, bc0]) rfl ⟨.slice ra rl rq, rfl, (unhide I5).wide (by omega) (by simp) (Nat.le_refl _), Br2⟩
theorem eqX {v u : Value} {zs : List Row.E} {N1 N2 : Int} {w : World} (h : Row.Is w v zs) (h' : Row.Is w u zs) : Calls Tryz.prog 16 #[.agg #[v, .int .i64 N1, .int .i64 N2], .agg #[u, .int .i64 N1, .int .i64 N2]] w fun e w' => e = .returned (.bool true) ∧ Below w.heap.size w w' :=
  eq_one (c := (v, .int .i64 N1, .int .i64 N2)) (d := (u, .int .i64 N1, .int .i64 N2)) (x := (zs, N1, N2)) ⟨h, rfl, rfl⟩ ⟨h', rfl, rfl⟩
theorem szX {v : Value} {zs : List Row.E} {N1 N2 : Int} {w : World} (left : Int) (h : Row.Is w v zs) (hg : good (zs, N1, N2)) (h0 : 0 ≤ left) (h1 : left ≤ 1048576) : Calls Tryz.prog 10 #[.agg #[v, .int .i64 N1, .int .i64 N2], .int .i64 left] w fun e w' => e = .returned (.int .i64 (if left - (Row.tot zs : Int) < 0 then -1 else left - (Row.tot zs : Int))) ∧ Below w.heap.size w w' :=
  sz_one (c := (v, .int .i64 N1, .int .i64 N2)) (x := (zs, N1, N2)) left ⟨h, rfl, rfl⟩ hg h0 h1
theorem markA {lo hi : Nat} {v : Value} {zs : List Row.E} {N1 N2 : Int} {w : World} (k0 : Nat) (hk1 : 1 ≤ k0) (hk2 : k0 ≤ 100000000) (ht : Row.tot zs ≤ 1048576) (h : Row.Own lo hi w v zs) :
    Calls Tryz.prog 18 #[.agg #[v, .int .i64 N1, .int .i64 N2], .int .i64 k0] w fun e w' => ∃ k : Nat, e = .returned (.int .i64 k) ∧ 1 ≤ k ∧ k ≤ k0 + 4194304 ∧ Zone lo hi w w' := by
  obtain ⟨ra, rl, rq, rfl⟩ := Row.Own.form h
  have b : Below w.heap.size w (w.alloc (.cells #[.slice ra rl rq, .int .i64 N1, .int .i64 N2] 30)) := (Below.refl _ _).alloc (Nat.le_refl _) _
  have H := hide (Row.markA k0 hk1 hk2 ht (h.below b))
  have zb : Zone lo hi w (w.alloc (.cells #[.slice ra rl rq, .int .i64 N1, .int .i64 N2] 30)) := Zone.of_below b
  clear h ht b
  go_enter Tryz.func18, Tryz.ntmps18
  go_wp2_with fail
  refine (unhide H).mono ?_
  rintro e v0 ⟨k, rfl, h1, h2, z⟩
  go_wp2_with fail
  go_ret
  exact ⟨k, rfl, h1, h2, zb.trans z⟩
def ask (ms : List Mat.E) (f t : Int) (zs : List Row.E) (H F : Int) : List Row.E := if Row.tableB zs H F = true then Row.ask ms f t zs else []
set_option maxHeartbeats 4000000 in
theorem impl_ask {w : World} {v u : Value} {zs : List Row.E} {ms : List Mat.E} (f t H F : Int) (h : Row.Is w v zs) (hm : Mat.Is w u ms) (hg : ∀ x ∈ zs, Row.good x) (hlen : zs.length ≤ maxLen) (hmg : ∀ x ∈ ms, Mat.good x) (hml : ms.length ≤ maxLen) :
    Calls Tryz.prog 27 #[.agg #[v, .int .i64 H, .int .i64 F], u, .int .i64 f, .int .i64 t] w fun e w' => ∃ r, e = .returned r ∧ Row.Own w.heap.size w'.heap.size w' r (ask ms f t zs H F) ∧ Below w.heap.size w w' := by
  have H1 := hide (fun W (hb : Below w.heap.size w W) => Row.impl_table (H := H) (F := F) (h.below hb) hg hlen)
  have H2 := hide (fun W (hb : Below w.heap.size w W) => Row.impl_ask f t (h.below hb) (hm.below hb) hg hlen hmg hml)
  obtain ⟨av, nv, cv, ev⟩ : ∃ a n c, v = .slice a n c := by obtain ⟨cs, -, hL, -⟩ := h; obtain ⟨-, a, c, e, -⟩ := hL; exact ⟨a, _, c, e⟩
  obtain ⟨au, nu, cu, eu⟩ : ∃ a n c, u = .slice a n c := by obtain ⟨-, a, c, e, -⟩ := hm; exact ⟨a, _, c, e⟩
  clear h hm hg hlen hmg hml
  subst ev eu
  have b0 : Below w.heap.size w (w.alloc (.cells #[.slice av nv cv, .int .i64 H, .int .i64 F] 30)) := (Below.refl _ _).alloc (Nat.le_refl _) _
  cases ho : Row.tableB zs H F
  · have HR := hide (show ask ms f t zs H F = [] by unfold ask; rw [ho]; rfl)
    rw [ho] at H1
    clear ho
    go_enter Tryz.func27, Tryz.ntmps27
    go_wp2_with fail
    refine (unhide H1 _ b0).mono ?_
    rintro e w1 ⟨rfl, b1⟩
    have b01 := b0.trans (b1.mono b0.size)
    go_wp2_with fail
    go_ret
    exact ⟨_, rfl, by rw [unhide HR]; have := Row.own_nil w.heap.size w1; exact this, b01⟩
  · have HR := hide (show ask ms f t zs H F = Row.ask ms f t zs by unfold ask; rw [ho]; rfl)
    rw [ho] at H1
    clear ho
    go_enter Tryz.func27, Tryz.ntmps27
    go_wp2_with fail
    refine (unhide H1 _ b0).mono ?_
    rintro e w1 ⟨rfl, b1⟩
    have b01 := b0.trans (b1.mono b0.size)
    obtain ⟨bc, bf⟩ := bcell b1
    simp only [World.size_alloc] at bc bf
    go_wp2_with fail
    refine (unhide H2 _ b01).mono ?_
    rintro e w2 ⟨r, rfl, o2, b2⟩
    have b02 := b01.trans (b2.mono b01.size)
    have O2 := hide (show Row.Own w.heap.size w2.heap.size w2 r (ask ms f t zs H F) by rw [unhide HR]; exact o2.wide b01.size (Nat.le_refl _) (Nat.le_refl _))
    clear o2 b2
    go_wp2_with fail
    go_ret
    exact ⟨r, rfl, unhide O2, b02⟩
theorem table_ok {zs : List Row.E} {H F : Int} (h : Row.tableB zs H F = true) : Row.ok zs = true := by
  unfold Row.tableB at h
  simp only [Bool.and_eq_true] at h
  exact h.1.2
set_option maxHeartbeats 4000000 in
theorem spec_ask {w : World} {v u : Value} {zs : List Row.E} {ms : List Mat.E} (f t H F : Int) (h : Row.Is w v zs) (hm : Mat.Is w u ms) (hg : ∀ x ∈ zs, Row.good x) (hlen : zs.length ≤ maxLen) (hmg : ∀ x ∈ ms, Mat.good x) (hml : ms.length ≤ maxLen) :
    Calls Tryz.prog 32 #[.agg #[v, .int .i64 H, .int .i64 F], u, .int .i64 f, .int .i64 t] w fun e w' => ∃ r, e = .returned r ∧ Row.Own w.heap.size w'.heap.size w' r (ask ms f t zs H F) ∧ Below w.heap.size w w' := by
  have H1 := hide (fun W (hb : Below w.heap.size w W) => Row.spec_table (H := H) (F := F) (h.below hb) hg hlen)
  have H2 := hide (fun W (hb : Below w.heap.size w W) => Mat.spec_ok (hm.below hb) hmg hml)
  have H3 := hide (fun W (hb : Below w.heap.size w W) (ho : Row.ok zs = true) (hmo : Mat.ok ms = true) => Row.l5ask f t (h.below hb) (hm.below hb) hg hmg ho hmo)
  obtain ⟨av, nv, cv, ev⟩ : ∃ a n c, v = .slice a n c := by obtain ⟨cs, -, hL, -⟩ := h; obtain ⟨-, a, c, e, -⟩ := hL; exact ⟨a, _, c, e⟩
  obtain ⟨au, nu, cu, eu⟩ : ∃ a n c, u = .slice a n c := by obtain ⟨-, a, c, e, -⟩ := hm; exact ⟨a, _, c, e⟩
  clear h hm hg hlen hmg hml
  subst ev eu
  have b0 : Below w.heap.size w (w.alloc (.cells #[.slice av nv cv, .int .i64 H, .int .i64 F] 30)) := (Below.refl _ _).alloc (Nat.le_refl _) _
  have HEm := hide (fun (w1 : World) (b1 : Below w.heap.size w w1) => show Row.Own w.heap.size (w1.alloc (.cells #[] 93)).heap.size (w1.alloc (.cells #[] 93)) (.slice (some ⟨w1.heap.size, 0, none⟩) 0 0) [] from ⟨[], rfl, own_empty b1.size, own_block_lt (own_empty (base := w.heap.size) (e := 93) (size := 2) b1.size), Nat.le_refl _, fun i j _ h => absurd h (Nat.not_lt_zero _), fun i j _ h => absurd h (Nat.not_lt_zero _), fun i h => absurd h (Nat.not_lt_zero _)⟩)
  cases ho : Row.tableB zs H F
  · have HR := hide (show ask ms f t zs H F = [] by unfold ask; rw [ho]; rfl)
    rw [ho] at H1
    clear ho H3
    go_enter Tryz.func32, Tryz.ntmps32
    go_wp2_with fail
    refine (unhide H1 _ b0).mono ?_
    rintro e w1 ⟨rfl, b1⟩
    have b01 := b0.trans (b1.mono b0.size)
    have he := hide (unhide HEm w1 b01)
    have b3 := b01.alloc b01.size (.cells #[] 93)
    clear HEm
    go_wp2_with fail
    go_ret
    exact ⟨_, rfl, by rw [unhide HR]; exact unhide he, b3⟩
  have hrk := table_ok ho
  cases hmo : Mat.ok ms
  · have HR := hide (show ask ms f t zs H F = [] by
      unfold ask Row.ask
      rw [ho, hrk]
      simp only [if_true]
      unfold Row.outL
      rw [List.flatMap_eq_nil_iff]
      intro x _
      rw [if_pos (show Row.askG ms f t x = [] by unfold Row.askG Mat.mlet; rw [hmo]; rfl)])
    rw [ho] at H1
    rw [hmo] at H2
    clear ho H3 hmo hrk
    go_enter Tryz.func32, Tryz.ntmps32
    go_wp2_with fail
    refine (unhide H1 _ b0).mono ?_
    rintro e w1 ⟨rfl, b1⟩
    have b01 := b0.trans (b1.mono b0.size)
    go_wp2_with fail
    refine (unhide H2 w1 b01).mono ?_
    rintro e w2 ⟨rfl, b2⟩
    have b02 := b01.trans (b2.mono b01.size)
    have he := hide (unhide HEm w2 b02)
    have b3 := b02.alloc b02.size (.cells #[] 93)
    clear HEm
    go_wp2_with fail
    go_ret
    exact ⟨_, rfl, by rw [unhide HR]; exact unhide he, b3⟩
  · have HR := hide (show ask ms f t zs H F = Row.outL (Row.askG ms f t) zs by unfold ask Row.ask; rw [ho, hrk]; rfl)
    have H4 := hide (fun W hb => unhide H3 W hb hrk hmo)
    rw [ho] at H1
    rw [hmo] at H2
    clear ho H3 hmo hrk HEm
    go_enter Tryz.func32, Tryz.ntmps32
    go_wp2_with fail
    refine (unhide H1 _ b0).mono ?_
    rintro e w1 ⟨rfl, b1⟩
    have b01 := b0.trans (b1.mono b0.size)
    obtain ⟨bc, bf⟩ := bcell b1
    simp only [World.size_alloc] at bc bf
    have z1 := b1.size
    simp only [World.size_alloc] at z1
    go_wp2_with fail
    refine (unhide H2 w1 b01).mono ?_
    rintro e w2 ⟨rfl, b2⟩
    have b02 := b01.trans (b2.mono b01.size)
    have hcv : w2.cell? ⟨w.heap.size, 0, none⟩ = some (.slice av nv cv) := (b2.cell (p := ⟨w.heap.size, 0, none⟩) (by show w.heap.size < _; omega)).trans ((bc _ _ (by omega)).trans (by simp [go_sem]))
    clear bc bf
    go_wp2_with fail
    refine (unhide H4 _ b02).mono ?_
    rintro e w3 ⟨r, rfl, o3, b3⟩
    have b03 := b02.trans (b3.mono b02.size)
    have O3 := hide (show Row.Own w.heap.size w3.heap.size w3 r (ask ms f t zs H F) by rw [unhide HR]; exact o3.wide b02.size (Nat.le_refl _) (Nat.le_refl _))
    clear o3 b3
    go_wp2_with fail
    go_ret
    exact ⟨r, rfl, unhide O3, b03⟩
end Go.Proofs.YtlboekimnhgfdaaGreat.Tab

/- A copy of a table whose rows are ok, by the program and by the model. -/
namespace Go.Proofs.YtlboekimnhgfdaaGreat.Tab
open Go.RowKit Rw
set_option linter.unusedVariables false
attribute [local go_sem ↓] Go.wp_at_zero Go.wp_at_succ
set_option maxRecDepth 100000 in
set_option maxHeartbeats 4000000 in
theorem impl_copy {w : World} {v : Value} {zs : List Row.E} (H F : Int) (h : Row.Is w v zs) (hok : Row.ok zs = true) : Calls Tryz.prog 44 #[.agg #[v, .int .i64 H, .int .i64 F]] w fun e w' => ∃ r, e = .returned (.agg #[r, .int .i64 H, .int .i64 F]) ∧ Row.Own w.heap.size w'.heap.size w' r zs ∧ Below w.heap.size w w' := by
  have HC := hide (fun W (hb : Below w.heap.size w W) => Row.copy_any (h.below hb) hok)
  obtain ⟨av, nv, cv, ev⟩ : ∃ a n c, v = .slice a n c := by obtain ⟨cs, -, hL, -⟩ := h; obtain ⟨-, a, c, e, -⟩ := hL; exact ⟨a, _, c, e⟩
  clear h hok
  subst ev
  obtain ⟨W, hW⟩ : ∃ W, W = (w.alloc (.cells #[.slice av nv cv, .int .i64 H, .int .i64 F] 30)).alloc (.cells #[.slice none 0 0, .int .i64 0, .int .i64 0] 30) := ⟨_, rfl⟩
  have bW : Below w.heap.size w W := by rw [hW]; exact ((Below.refl _ _).alloc (Nat.le_refl _) _).alloc (by simp) _
  have zW : W.heap.size = w.heap.size + 1 + 1 := by rw [hW]; simp
  have S6 : (fun W : World => W.cell? ⟨w.heap.size, 0, none⟩ = some (.slice av nv cv) ∧ W.cell? ⟨w.heap.size, 1, none⟩ = some (.int .i64 H) ∧ W.cell? ⟨w.heap.size, 2, none⟩ = some (.int .i64 F)) W.drew := by rw [hW]; exact ⟨by simp [go_sem], by simp [go_sem], by simp [go_sem]⟩
  have y0 : W.drew.cell? ⟨w.heap.size + 1, 0, none⟩ = some (.slice none 0 0) := by rw [hW]; simp [go_sem]
  have y1 : W.drew.cell? ⟨w.heap.size + 1, 1, none⟩ = some (.int .i64 0) := by rw [hW]; simp [go_sem]
  have y2 : W.drew.cell? ⟨w.heap.size + 1, 2, none⟩ = some (.int .i64 0) := by rw [hW]; simp [go_sem]
  have f0 : ∀ o, W.drew.frozen? ⟨w.heap.size + 1, o, none⟩ = false := by intro o; rw [hW]; simp [go_sem]
  have HC6 := hide (unhide HC W.drew bW.drew)
  clear HC
  go_enter Tryz.func44, Tryz.ntmps44
  go_wp2_with fail
  rw [← hW]
  clear hW
  go_region_held3 (fun W => W.cell? ⟨w.heap.size, 0, none⟩ = some (.slice av nv cv) ∧ W.cell? ⟨w.heap.size, 1, none⟩ = some (.int .i64 H) ∧ W.cell? ⟨w.heap.size, 2, none⟩ = some (.int .i64 F)) (first | exact S6 | exact S7 | exact S8) ((go_at_call 83; refine (unhide HC6).mono ?_; rintro e w7 ⟨r, rfl, o7, b7⟩; obtain ⟨ra, rl, rq, rfl⟩ := Row.Own.form o7; have z7 := b7.size; simp only [World.size_drew] at z7; have x0 := (b7.cell (p := ⟨w.heap.size + 1, 0, none⟩) (by show w.heap.size + 1 < _; simp; omega)).trans y0; have x1 := (b7.cell (p := ⟨w.heap.size + 1, 1, none⟩) (by show w.heap.size + 1 < _; simp; omega)).trans y1; have x2 := (b7.cell (p := ⟨w.heap.size + 1, 2, none⟩) (by show w.heap.size + 1 < _; simp; omega)).trans y2; have g0 := (b7.frozen (p := ⟨w.heap.size + 1, 0, none⟩) (by show w.heap.size + 1 < _; simp; omega)).trans (f0 0); have g1 := (b7.frozen (p := ⟨w.heap.size + 1, 1, none⟩) (by show w.heap.size + 1 < _; simp; omega)).trans (f0 1); have g2 := (b7.frozen (p := ⟨w.heap.size + 1, 2, none⟩) (by show w.heap.size + 1 < _; simp; omega)).trans (f0 2); have S7 : (fun W : World => W.cell? ⟨w.heap.size, 0, none⟩ = some (.slice av nv cv) ∧ W.cell? ⟨w.heap.size, 1, none⟩ = some (.int .i64 H) ∧ W.cell? ⟨w.heap.size, 2, none⟩ = some (.int .i64 F)) w7 := ⟨(b7.cell (p := ⟨w.heap.size, 0, none⟩) (by show w.heap.size < _; simp; omega)).trans S6.1, (b7.cell (p := ⟨w.heap.size, 1, none⟩) (by show w.heap.size < _; simp; omega)).trans S6.2.1, (b7.cell (p := ⟨w.heap.size, 2, none⟩) (by show w.heap.size < _; simp; omega)).trans S6.2.2⟩; have on8 : OnlyAt (w.heap.size + 1) w7 (((w7.setCell ⟨w.heap.size + 1, 0, none⟩ (.slice ra rl rq)).setCell ⟨w.heap.size + 1, 1, none⟩ (.int .i64 H)).setCell ⟨w.heap.size + 1, 2, none⟩ (.int .i64 F)) := (((OnlyAt.refl _ _).setCell 0 _).setCell 1 _).setCell 2 _; have S8 : (fun W : World => W.cell? ⟨w.heap.size, 0, none⟩ = some (.slice av nv cv) ∧ W.cell? ⟨w.heap.size, 1, none⟩ = some (.int .i64 H) ∧ W.cell? ⟨w.heap.size, 2, none⟩ = some (.int .i64 F)) (((w7.setCell ⟨w.heap.size + 1, 0, none⟩ (.slice ra rl rq)).setCell ⟨w.heap.size + 1, 1, none⟩ (.int .i64 H)).setCell ⟨w.heap.size + 1, 2, none⟩ (.int .i64 F)) := ⟨(World.cell?_of_block (a := ⟨w.heap.size, 0, none⟩) (on8.block w.heap.size (show w.heap.size ≠ w.heap.size + 1 by omega))).trans S7.1, (World.cell?_of_block (a := ⟨w.heap.size, 1, none⟩) (on8.block w.heap.size (show w.heap.size ≠ w.heap.size + 1 by omega))).trans S7.2.1, (World.cell?_of_block (a := ⟨w.heap.size, 2, none⟩) (on8.block w.heap.size (show w.heap.size ≠ w.heap.size + 1 by omega))).trans S7.2.2⟩))
  have bn : Below w.heap.size w (((w7.setCell ⟨w.heap.size + 1, 0, none⟩ (.slice ra rl rq)).setCell ⟨w.heap.size + 1, 1, none⟩ (.int .i64 H)).setCell ⟨w.heap.size + 1, 2, none⟩ (.int .i64 F)) := (bW.drew.trans (b7.mono (by simp; omega))).trans (on8.below (by omega))
  have O8 := hide (o7.zone (Zone.of_only on8 (Nat.le_refl _) (Nat.lt_succ_self _)) (.inr (by simp; omega)))
  go_wp2_with fail
  refine bodyPost_ret (v := .agg #[.slice ra rl rq, .int .i64 H, .int .i64 F]) (by simp [results, Tryz.results44, go_sem, x0, x1, x2]) rfl ⟨.slice ra rl rq, rfl, (unhide O8).wide (by simp; omega) (by simp) (Nat.le_refl _), bn⟩
set_option maxRecDepth 100000 in
set_option maxHeartbeats 4000000 in
theorem spec_copy {w : World} {v : Value} {zs : List Row.E} (H F : Int) (h : Row.Is w v zs) (hok : Row.ok zs = true) : Calls Tryz.prog 57 #[.agg #[v, .int .i64 H, .int .i64 F]] w fun e w' => ∃ r, e = .returned (.agg #[r, .int .i64 H, .int .i64 F]) ∧ Row.Own w.heap.size w'.heap.size w' r zs ∧ Below w.heap.size w w' := by
  have HC := hide (fun W (hb : Below w.heap.size w W) => Row.l5copy (h.below hb) hok)
  obtain ⟨av, nv, cv, ev⟩ : ∃ a n c, v = .slice a n c := by obtain ⟨cs, -, hL, -⟩ := h; obtain ⟨-, a, c, e, -⟩ := hL; exact ⟨a, _, c, e⟩
  clear h hok
  subst ev
  obtain ⟨W, hW⟩ : ∃ W, W = (w.alloc (.cells #[.slice av nv cv, .int .i64 H, .int .i64 F] 30)).alloc (.cells #[.slice none 0 0, .int .i64 0, .int .i64 0] 30) := ⟨_, rfl⟩
  have bW : Below w.heap.size w W := by rw [hW]; exact ((Below.refl _ _).alloc (Nat.le_refl _) _).alloc (by simp) _
  have zW : W.heap.size = w.heap.size + 1 + 1 := by rw [hW]; simp
  have S6 : (fun W : World => W.cell? ⟨w.heap.size, 0, none⟩ = some (.slice av nv cv) ∧ W.cell? ⟨w.heap.size, 1, none⟩ = some (.int .i64 H) ∧ W.cell? ⟨w.heap.size, 2, none⟩ = some (.int .i64 F)) W.drew := by rw [hW]; exact ⟨by simp [go_sem], by simp [go_sem], by simp [go_sem]⟩
  have y0 : W.drew.cell? ⟨w.heap.size + 1, 0, none⟩ = some (.slice none 0 0) := by rw [hW]; simp [go_sem]
  have y1 : W.drew.cell? ⟨w.heap.size + 1, 1, none⟩ = some (.int .i64 0) := by rw [hW]; simp [go_sem]
  have y2 : W.drew.cell? ⟨w.heap.size + 1, 2, none⟩ = some (.int .i64 0) := by rw [hW]; simp [go_sem]
  have f0 : ∀ o, W.drew.frozen? ⟨w.heap.size + 1, o, none⟩ = false := by intro o; rw [hW]; simp [go_sem]
  have HC6 := hide (unhide HC W.drew bW.drew)
  clear HC
  go_enter Tryz.func57, Tryz.ntmps57
  go_wp2_with fail
  rw [← hW]
  clear hW
  go_region_held3 (fun W => W.cell? ⟨w.heap.size, 0, none⟩ = some (.slice av nv cv) ∧ W.cell? ⟨w.heap.size, 1, none⟩ = some (.int .i64 H) ∧ W.cell? ⟨w.heap.size, 2, none⟩ = some (.int .i64 F)) (first | exact S6 | exact S7 | exact S8) ((go_at_call 103; refine (unhide HC6).mono ?_; rintro e w7 ⟨r, rfl, o7, b7⟩; obtain ⟨ra, rl, rq, rfl⟩ := Row.Own.form o7; have z7 := b7.size; simp only [World.size_drew] at z7; have x0 := (b7.cell (p := ⟨w.heap.size + 1, 0, none⟩) (by show w.heap.size + 1 < _; simp; omega)).trans y0; have x1 := (b7.cell (p := ⟨w.heap.size + 1, 1, none⟩) (by show w.heap.size + 1 < _; simp; omega)).trans y1; have x2 := (b7.cell (p := ⟨w.heap.size + 1, 2, none⟩) (by show w.heap.size + 1 < _; simp; omega)).trans y2; have g0 := (b7.frozen (p := ⟨w.heap.size + 1, 0, none⟩) (by show w.heap.size + 1 < _; simp; omega)).trans (f0 0); have g1 := (b7.frozen (p := ⟨w.heap.size + 1, 1, none⟩) (by show w.heap.size + 1 < _; simp; omega)).trans (f0 1); have g2 := (b7.frozen (p := ⟨w.heap.size + 1, 2, none⟩) (by show w.heap.size + 1 < _; simp; omega)).trans (f0 2); have S7 : (fun W : World => W.cell? ⟨w.heap.size, 0, none⟩ = some (.slice av nv cv) ∧ W.cell? ⟨w.heap.size, 1, none⟩ = some (.int .i64 H) ∧ W.cell? ⟨w.heap.size, 2, none⟩ = some (.int .i64 F)) w7 := ⟨(b7.cell (p := ⟨w.heap.size, 0, none⟩) (by show w.heap.size < _; simp; omega)).trans S6.1, (b7.cell (p := ⟨w.heap.size, 1, none⟩) (by show w.heap.size < _; simp; omega)).trans S6.2.1, (b7.cell (p := ⟨w.heap.size, 2, none⟩) (by show w.heap.size < _; simp; omega)).trans S6.2.2⟩; have on8 : OnlyAt (w.heap.size + 1) w7 (((w7.setCell ⟨w.heap.size + 1, 0, none⟩ (.slice ra rl rq)).setCell ⟨w.heap.size + 1, 1, none⟩ (.int .i64 H)).setCell ⟨w.heap.size + 1, 2, none⟩ (.int .i64 F)) := (((OnlyAt.refl _ _).setCell 0 _).setCell 1 _).setCell 2 _; have S8 : (fun W : World => W.cell? ⟨w.heap.size, 0, none⟩ = some (.slice av nv cv) ∧ W.cell? ⟨w.heap.size, 1, none⟩ = some (.int .i64 H) ∧ W.cell? ⟨w.heap.size, 2, none⟩ = some (.int .i64 F)) (((w7.setCell ⟨w.heap.size + 1, 0, none⟩ (.slice ra rl rq)).setCell ⟨w.heap.size + 1, 1, none⟩ (.int .i64 H)).setCell ⟨w.heap.size + 1, 2, none⟩ (.int .i64 F)) := ⟨(World.cell?_of_block (a := ⟨w.heap.size, 0, none⟩) (on8.block w.heap.size (show w.heap.size ≠ w.heap.size + 1 by omega))).trans S7.1, (World.cell?_of_block (a := ⟨w.heap.size, 1, none⟩) (on8.block w.heap.size (show w.heap.size ≠ w.heap.size + 1 by omega))).trans S7.2.1, (World.cell?_of_block (a := ⟨w.heap.size, 2, none⟩) (on8.block w.heap.size (show w.heap.size ≠ w.heap.size + 1 by omega))).trans S7.2.2⟩))
  have bn : Below w.heap.size w (((w7.setCell ⟨w.heap.size + 1, 0, none⟩ (.slice ra rl rq)).setCell ⟨w.heap.size + 1, 1, none⟩ (.int .i64 H)).setCell ⟨w.heap.size + 1, 2, none⟩ (.int .i64 F)) := (bW.drew.trans (b7.mono (by simp; omega))).trans (on8.below (by omega))
  have O8 := hide (o7.zone (Zone.of_only on8 (Nat.le_refl _) (Nat.lt_succ_self _)) (.inr (by simp; omega)))
  go_wp2_with fail
  refine bodyPost_ret (v := .agg #[.slice ra rl rq, .int .i64 H, .int .i64 F]) (by simp [results, Tryz.results57, go_sem, x0, x1, x2]) rfl ⟨.slice ra rl rq, rfl, (unhide O8).wide (by simp; omega) (by simp) (Nat.le_refl _), bn⟩
end Go.Proofs.YtlboekimnhgfdaaGreat.Tab

/- Whether a label is another. -/
namespace Go.Proofs.YtlboekimnhgfdaaGreat.Lab
open Go.RowKit Rw
set_option linter.unusedVariables false
attribute [local go_sem ↓] Go.wp_at_zero Go.wp_at_succ
theorem eqLab (A B C D : ByteArray) (w : World) : (Op.equalIn 10000 64 (.agg #[.string A, .string B]) (.agg #[.string C, .string D])).run Tryz.prog w = .ok (A.toList == C.toList && B.toList == D.toList) w := by
  have u3 := Tryz.underlying9
  have a3 := Tryz.isAgg9
  have z3 := Tryz.sizeOf9
  have hS : Tryz.prog.underlying 64 = some (.struct (Tryz.prog.fieldsOf 64)) := by kernel_rfl
  have hp : Tryz.prog.stoodInHeld 64 = false := by kernel_rfl
  rw [show (10000 : Nat) = 9999 + 1 from rfl, run_equalIn_agg w 9999 64 _ _ hS hp]
  simp only [Program.fieldsOf, Tryz.underlying64]
  go_simp
  cases h1 : (A.toList == C.toList) <;> cases h2 : (B.toList == D.toList) <;> simp_all
theorem run_neL (A B C D : ByteArray) (R : Bool) (h : R = !(A.toList == C.toList && B.toList == D.toList)) (W : World) : (binOp .neq 64 (.agg #[.string A, .string B]) (.agg #[.string C, .string D])).run Tryz.prog W = .ok (.bool R) W := by
  rw [run_neq_struct, eqLab, h]; rfl
end Go.Proofs.YtlboekimnhgfdaaGreat.Lab
