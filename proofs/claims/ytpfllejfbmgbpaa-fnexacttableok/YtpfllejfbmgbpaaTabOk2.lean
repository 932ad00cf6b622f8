/- TableOk of the model, at every table. -/
import Derived.Test.YtpfllejfbmgbpaaTabOk
import Derived.Test.YtpfllejfbmgbpaaRowOk2
namespace Go.Proofs.Ytpfllejfbmgbpaa.Row
open Go.RowKit Rw
set_option linter.unusedVariables false
attribute [local go_sem ↓] Go.wp_at_zero Go.wp_at_succ
set_option maxRecDepth 100000 in
set_option maxHeartbeats 8000000 in
theorem spec_table {w : World} {v : Value} {zs : List E} {H F : Int} (h : Is w v zs) (hg : ∀ x ∈ zs, good x) (hlen : zs.length ≤ maxLen) : Calls Try.prog 42 #[.agg #[v, .int .i64 H, .int .i64 F]] w fun e w' => e = .returned (.bool (tableB zs H F)) ∧ Below w.heap.size w w' := by
  obtain ⟨wa, hwa⟩ : ∃ wa, wa = w.alloc (.cells #[v, .int .i64 H, .int .i64 F] 54) := ⟨_, rfl⟩
  have B : Below w.heap.size w wa := by rw [hwa]; exact (Below.refl _ _).alloc (Nat.le_refl _) _
  have za : w.heap.size < wa.heap.size := by rw [hwa]; simp
  have hq0 : ∀ x : Cls wa.heap.size wa, x.val.cell? ⟨w.heap.size, 0, none⟩ = some v := fun x => by rw [x.cell (by omega), hwa]; simp [go_sem]
  have hq1 : ∀ x : Cls wa.heap.size wa, x.val.cell? ⟨w.heap.size, 1, none⟩ = some (.int .i64 H) := fun x => by rw [x.cell (by omega), hwa]; simp [go_sem]
  have hq2 : ∀ x : Cls wa.heap.size wa, x.val.cell? ⟨w.heap.size, 2, none⟩ = some (.int .i64 F) := fun x => by rw [x.cell (by omega), hwa]; simp [go_sem]
  have hne := cls_nonempty wa.heap.size wa
  have ha := h.below B
  have C1 := hide (fun x : Cls wa.heap.size wa => spec_ok (ha.below x.isBelow) hg hlen)
  have HLa := hide (fun (hok : ok zs = true) (x : Cls wa.heap.size wa) => last_any (ha.below x.isBelow) hok)
  have HFi := hide (fun (hok : ok zs = true) (x : Cls wa.heap.size wa) => first_any (ha.below x.isBelow) hok)
  clear h hg hlen ha
  obtain ⟨R, hR⟩ : ∃ R, F.tmod 100 = R := ⟨_, rfl⟩
  cases h5 : ok zs
  · have HR := hide (tableB_no (zs := zs) (H := H) (F := F) (fun h => by rw [h5] at h; exact absurd h.2.2.2.2.1 (by simp)))
    rw [h5] at C1
    have C4 := hide trivial
    have C5 := hide trivial
    clear h5
    have I1 := hide (rfl : Zig.inB H (-1) 9999 = Zig.inB H (-1) 9999)
    have I2 := hide (rfl : Zig.inB F 0 9999 = Zig.inB F 0 9999)
    go_enter Try.func42, Try.ntmps42
    go_wp2_with fail
    rw [← hwa]
    clear hwa
    refine region_cls (by kernel_rfl) (by kernel_rfl) ?_
    repeat (go_big_quiet_step (first | (go_at_call 13; exact cls_call (Nat.le_refl _) (unhide C1 _)) | (go_at_call_of 58 H; exact cls_same (Samp.in_is H _ _ _ _ (unhide I1))) | (go_at_call 58; exact cls_same (Samp.in_is F _ _ _ _ (unhide I2))) | (go_at_call 90; exact cls_same (unhide C4 _)) | (go_at_call 91; exact cls_same (unhide C5 _))))
    refine wpQuiet_nil ?_
    rintro wq ⟨⟨_, hq⟩, rfl⟩
    have hbq := B.trans (hq.mono B.size)
    go_wp2
    go_ret
    exact ⟨ret_bool (unhide HR).symm, hbq⟩
  rw [h5] at C1
  have C4 := hide (unhide HLa h5)
  have C5 := hide (unhide HFi h5)
  clear HLa HFi
  by_cases hH : -1 ≤ H ∧ H ≤ 9999
  · have I1 := hide (Samp.inB_true (n := H) (lo := (-1)) (hi := 9999) (by omega) (by omega))
    by_cases hF : 0 ≤ F ∧ F ≤ 9999
    · have I2 := hide (Samp.inB_true (n := F) (lo := 0) (hi := 9999) (by omega) (by omega))
      by_cases h2 : R = 0
      · subst h2
        have h3 := floorB_yes hF.1 hF.2 hR
        have HWi := within_iff h5 (H := H) (F := F) hH.1 (by omega)
        obtain ⟨L, hL⟩ : ∃ L, L = lastR zs := ⟨_, rfl⟩
        obtain ⟨M, hM⟩ : ∃ M, M = firstR zs := ⟨_, rfl⟩
        rw [← hL] at C4 HWi
        rw [← hM] at C5 HWi
        clear hL hM
        by_cases h0 : F = 0
        · subst h0
          clear hR
          by_cases hL : L ≤ H
          · by_cases hM : (0 : Int) ≤ M
            · have HR := hide (tableB_yes (zs := zs) (H := H) (F := 0) hH.1 hH.2 h3 (by omega) h5 (HWi.2 ⟨hL, hM⟩))
              clear HWi h3 h5
              go_enter Try.func42, Try.ntmps42
              go_wp2_with fail
              rw [← hwa]
              clear hwa
              refine region_cls (by kernel_rfl) (by kernel_rfl) ?_
              repeat (go_big_quiet_step (first | (go_at_call 13; exact cls_call (Nat.le_refl _) (unhide C1 _)) | (go_at_call_of 58 H; exact cls_same (Samp.in_is H _ _ _ _ (unhide I1))) | (go_at_call 58; exact cls_same (Samp.in_is 0 _ _ _ _ (unhide I2))) | (go_at_call 90; exact cls_same (unhide C4 _)) | (go_at_call 91; exact cls_same (unhide C5 _))))
              refine wpQuiet_nil ?_
              rintro wq ⟨⟨_, hq⟩, rfl⟩
              have hbq := B.trans (hq.mono B.size)
              go_wp2
              go_ret
              exact ⟨ret_bool (unhide HR).symm, hbq⟩
            · have HR := hide (tableB_no (zs := zs) (H := H) (F := 0) (fun h => by exact hM (HWi.1 h.2.2.2.2.2).2))
              have hMd : decide ((0 : Int) ≤ M) = false := by simp; omega
              clear HWi h3 h5 hM
              go_enter Try.func42, Try.ntmps42
              go_wp2_with fail
              rw [← hwa]
              clear hwa
              refine region_cls (by kernel_rfl) (by kernel_rfl) ?_
              repeat (go_big_quiet_step (first | (go_at_call 13; exact cls_call (Nat.le_refl _) (unhide C1 _)) | (go_at_call_of 58 H; exact cls_same (Samp.in_is H _ _ _ _ (unhide I1))) | (go_at_call 58; exact cls_same (Samp.in_is 0 _ _ _ _ (unhide I2))) | (go_at_call 90; exact cls_same (unhide C4 _)) | (go_at_call 91; exact cls_same (unhide C5 _))))
              refine wpQuiet_nil ?_
              rintro wq ⟨⟨_, hq⟩, rfl⟩
              have hbq := B.trans (hq.mono B.size)
              go_wp2
              go_ret
              exact ⟨ret_bool (unhide HR).symm, hbq⟩
          · have HR := hide (tableB_no (zs := zs) (H := H) (F := 0) (fun h => by exact hL (HWi.1 h.2.2.2.2.2).1))
            have hLd : decide (L ≤ H) = false := by simp; omega
            clear HWi h3 h5 hL
            go_enter Try.func42, Try.ntmps42
            go_wp2_with fail
            rw [← hwa]
            clear hwa
            refine region_cls (by kernel_rfl) (by kernel_rfl) ?_
            repeat (go_big_quiet_step (first | (go_at_call 13; exact cls_call (Nat.le_refl _) (unhide C1 _)) | (go_at_call_of 58 H; exact cls_same (Samp.in_is H _ _ _ _ (unhide I1))) | (go_at_call 58; exact cls_same (Samp.in_is 0 _ _ _ _ (unhide I2))) | (go_at_call 90; exact cls_same (unhide C4 _)) | (go_at_call 91; exact cls_same (unhide C5 _))))
            refine wpQuiet_nil ?_
            rintro wq ⟨⟨_, hq⟩, rfl⟩
            have hbq := B.trans (hq.mono B.size)
            go_wp2
            go_ret
            exact ⟨ret_bool (unhide HR).symm, hbq⟩
        · have h0f : (F == 0) = false := by simpa using h0
          by_cases h4 : F ≤ H
          · skip
            by_cases hL : L ≤ H
            · by_cases hM : F ≤ M
              · have HR := hide (tableB_yes (zs := zs) (H := H) (F := F) hH.1 hH.2 h3 (by omega) h5 (HWi.2 ⟨hL, hM⟩))
                clear HWi h3 h5
                go_enter Try.func42, Try.ntmps42
                go_wp2_with fail
                rw [← hwa]
                clear hwa
                refine region_cls (by kernel_rfl) (by kernel_rfl) ?_
                repeat (go_big_quiet_step (first | (go_at_call 13; exact cls_call (Nat.le_refl _) (unhide C1 _)) | (go_at_call_of 58 H; exact cls_same (Samp.in_is H _ _ _ _ (unhide I1))) | (go_at_call 58; exact cls_same (Samp.in_is F _ _ _ _ (unhide I2))) | (go_at_call 90; exact cls_same (unhide C4 _)) | (go_at_call 91; exact cls_same (unhide C5 _))))
                refine wpQuiet_nil ?_
                rintro wq ⟨⟨_, hq⟩, rfl⟩
                have hbq := B.trans (hq.mono B.size)
                go_wp2
                go_ret
                exact ⟨ret_bool (unhide HR).symm, hbq⟩
              · have HR := hide (tableB_no (zs := zs) (H := H) (F := F) (fun h => by exact hM (HWi.1 h.2.2.2.2.2).2))
                have hMd : decide (F ≤ M) = false := by simp; omega
                clear HWi h3 h5 hM
                go_enter Try.func42, Try.ntmps42
                go_wp2_with fail
                rw [← hwa]
                clear hwa
                refine region_cls (by kernel_rfl) (by kernel_rfl) ?_
                repeat (go_big_quiet_step (first | (go_at_call 13; exact cls_call (Nat.le_refl _) (unhide C1 _)) | (go_at_call_of 58 H; exact cls_same (Samp.in_is H _ _ _ _ (unhide I1))) | (go_at_call 58; exact cls_same (Samp.in_is F _ _ _ _ (unhide I2))) | (go_at_call 90; exact cls_same (unhide C4 _)) | (go_at_call 91; exact cls_same (unhide C5 _))))
                refine wpQuiet_nil ?_
                rintro wq ⟨⟨_, hq⟩, rfl⟩
                have hbq := B.trans (hq.mono B.size)
                go_wp2
                go_ret
                exact ⟨ret_bool (unhide HR).symm, hbq⟩
            · have HR := hide (tableB_no (zs := zs) (H := H) (F := F) (fun h => by exact hL (HWi.1 h.2.2.2.2.2).1))
              have hLd : decide (L ≤ H) = false := by simp; omega
              clear HWi h3 h5 hL
              go_enter Try.func42, Try.ntmps42
              go_wp2_with fail
              rw [← hwa]
              clear hwa
              refine region_cls (by kernel_rfl) (by kernel_rfl) ?_
              repeat (go_big_quiet_step (first | (go_at_call 13; exact cls_call (Nat.le_refl _) (unhide C1 _)) | (go_at_call_of 58 H; exact cls_same (Samp.in_is H _ _ _ _ (unhide I1))) | (go_at_call 58; exact cls_same (Samp.in_is F _ _ _ _ (unhide I2))) | (go_at_call 90; exact cls_same (unhide C4 _)) | (go_at_call 91; exact cls_same (unhide C5 _))))
              refine wpQuiet_nil ?_
              rintro wq ⟨⟨_, hq⟩, rfl⟩
              have hbq := B.trans (hq.mono B.size)
              go_wp2
              go_ret
              exact ⟨ret_bool (unhide HR).symm, hbq⟩
          · have HR := hide (tableB_no (zs := zs) (H := H) (F := F) (fun h => by omega))
            have h4d : decide (F ≤ H) = false := by simp; omega
            clear HWi h3 h5 h4
            go_enter Try.func42, Try.ntmps42
            go_wp2_with fail
            rw [← hwa]
            clear hwa
            refine region_cls (by kernel_rfl) (by kernel_rfl) ?_
            repeat (go_big_quiet_step (first | (go_at_call 13; exact cls_call (Nat.le_refl _) (unhide C1 _)) | (go_at_call_of 58 H; exact cls_same (Samp.in_is H _ _ _ _ (unhide I1))) | (go_at_call 58; exact cls_same (Samp.in_is F _ _ _ _ (unhide I2))) | (go_at_call 90; exact cls_same (unhide C4 _)) | (go_at_call 91; exact cls_same (unhide C5 _))))
            refine wpQuiet_nil ?_
            rintro wq ⟨⟨_, hq⟩, rfl⟩
            have hbq := B.trans (hq.mono B.size)
            go_wp2
            go_ret
            exact ⟨ret_bool (unhide HR).symm, hbq⟩
      · have HR := hide (tableB_no (zs := zs) (H := H) (F := F) (fun h => by have h6 := h.2.2.1; unfold floorB at h6; simp only [Bool.and_eq_true, decide_eq_true_eq] at h6; exact h2 (hR.symm.trans h6.2)))
        have h2f : (R == 0) = false := by simpa using h2
        clear h5
        go_enter Try.func42, Try.ntmps42
        go_wp2_with fail
        rw [← hwa]
        clear hwa
        refine region_cls (by kernel_rfl) (by kernel_rfl) ?_
        repeat (go_big_quiet_step (first | (go_at_call 13; exact cls_call (Nat.le_refl _) (unhide C1 _)) | (go_at_call_of 58 H; exact cls_same (Samp.in_is H _ _ _ _ (unhide I1))) | (go_at_call 58; exact cls_same (Samp.in_is F _ _ _ _ (unhide I2))) | (go_at_call 90; exact cls_same (unhide C4 _)) | (go_at_call 91; exact cls_same (unhide C5 _))))
        refine wpQuiet_nil ?_
        rintro wq ⟨⟨_, hq⟩, rfl⟩
        have hbq := B.trans (hq.mono B.size)
        go_wp2
        go_ret
        exact ⟨ret_bool (unhide HR).symm, hbq⟩
    · have I2 := hide (Samp.inB_false (n := F) (lo := 0) (hi := 9999) (by omega))
      have HR := hide (tableB_no (zs := zs) (H := H) (F := F) (fun h => by have h6 := h.2.2.1; unfold floorB at h6; simp only [Bool.and_eq_true, decide_eq_true_eq] at h6; exact hF h6.1))
      clear h5
      go_enter Try.func42, Try.ntmps42
      go_wp2_with fail
      rw [← hwa]
      clear hwa
      refine region_cls (by kernel_rfl) (by kernel_rfl) ?_
      repeat (go_big_quiet_step (first | (go_at_call 13; exact cls_call (Nat.le_refl _) (unhide C1 _)) | (go_at_call_of 58 H; exact cls_same (Samp.in_is H _ _ _ _ (unhide I1))) | (go_at_call 58; exact cls_same (Samp.in_is F _ _ _ _ (unhide I2))) | (go_at_call 90; exact cls_same (unhide C4 _)) | (go_at_call 91; exact cls_same (unhide C5 _))))
      refine wpQuiet_nil ?_
      rintro wq ⟨⟨_, hq⟩, rfl⟩
      have hbq := B.trans (hq.mono B.size)
      go_wp2
      go_ret
      exact ⟨ret_bool (unhide HR).symm, hbq⟩
  · have I1 := hide (Samp.inB_false (n := H) (lo := (-1)) (hi := 9999) (by omega))
    have I2 := hide (rfl : Zig.inB F 0 9999 = Zig.inB F 0 9999)
    have HR := hide (tableB_no (zs := zs) (H := H) (F := F) (fun h => by exact hH ⟨h.1, h.2.1⟩))
    clear h5
    go_enter Try.func42, Try.ntmps42
    go_wp2_with fail
    rw [← hwa]
    clear hwa
    refine region_cls (by kernel_rfl) (by kernel_rfl) ?_
    repeat (go_big_quiet_step (first | (go_at_call 13; exact cls_call (Nat.le_refl _) (unhide C1 _)) | (go_at_call_of 58 H; exact cls_same (Samp.in_is H _ _ _ _ (unhide I1))) | (go_at_call 58; exact cls_same (Samp.in_is F _ _ _ _ (unhide I2))) | (go_at_call 90; exact cls_same (unhide C4 _)) | (go_at_call 91; exact cls_same (unhide C5 _))))
    refine wpQuiet_nil ?_
    rintro wq ⟨⟨_, hq⟩, rfl⟩
    have hbq := B.trans (hq.mono B.size)
    go_wp2
    go_ret
    exact ⟨ret_bool (unhide HR).symm, hbq⟩
end Go.Proofs.Ytpfllejfbmgbpaa.Row
