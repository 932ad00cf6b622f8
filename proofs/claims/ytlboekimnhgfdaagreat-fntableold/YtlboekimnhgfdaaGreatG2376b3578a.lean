/- My own texts of one claim, laid together by program: TabOk, RowOk2, TabOk2, Zone. -/
import Derived.Test.YtlboekimnhgfdaaGreatG5cddafb44b
import Derived.Test.YtlboekimnhgfdaaGreatG7c8bd49666
import Derived.Test.YtlboekimnhgfdaaGreatG4314fff0a5
import Derived.Test.YtlboekimnhgfdaaGreatG0fdbb44230
import Derived.Test.YtlboekimnhgfdaaGreatG2606c8666b
import Derived.Test.YtlboekimnhgfdaaGreatG54bfd16f94
/- TableOk of the program, at every table. -/
namespace Go.Proofs.YtlboekimnhgfdaaGreat.Row
open Go.RowKit Rw
set_option linter.unusedVariables false
attribute [local go_sem ↓] Go.wp_at_zero Go.wp_at_succ
theorem floorB_yes {F : Int} (h0 : 0 ≤ F) (h1 : F ≤ 9999) (h2 : F.tmod 100 = 0) : floorB F = true := by unfold floorB; rw [decide_eq_true h0, decide_eq_true h1, decide_eq_true h2]; rfl
theorem floorB_no {F : Int} (h : ¬ (0 ≤ F ∧ F ≤ 9999 ∧ F.tmod 100 = 0)) : floorB F = false := by
  cases hf : floorB F
  · rfl
  · unfold floorB at hf
    simp only [Bool.and_eq_true, decide_eq_true_eq] at hf
    exact absurd ⟨hf.1.1, hf.1.2, hf.2⟩ h
theorem floor_any (F : Int) (w : World) : Calls Tryz.prog 66 #[.int .i64 F] w fun e w' => e = .returned (.bool (floorB F)) ∧ w' = w := by
  by_cases h0 : 0 ≤ F
  · by_cases h1 : F ≤ 9999
    · obtain ⟨R, hR⟩ : ∃ R, F.tmod 100 = R := ⟨_, rfl⟩
      by_cases h2 : R = 0
      · subst h2
        have HR := hide (floorB_yes h0 h1 hR)
        go_enter Tryz.func66, Tryz.ntmps66
        go_wp2
        go_ret
        exact ⟨ret_bool (unhide HR).symm, rfl⟩
      · have HR := hide (floorB_no (F := F) (fun h => h2 (hR.symm.trans h.2.2)))
        have h2f : (R == 0) = false := by simpa using h2
        go_enter Tryz.func66, Tryz.ntmps66
        go_wp2
        go_ret
        exact ⟨ret_bool (unhide HR).symm, rfl⟩
    · have HR := hide (floorB_no (F := F) (fun h => h1 h.2.1))
      go_enter Tryz.func66, Tryz.ntmps66
      go_wp2
      go_ret
      exact ⟨ret_bool (unhide HR).symm, rfl⟩
  · have HR := hide (floorB_no (F := F) (fun h => h0 h.1))
    go_enter Tryz.func66, Tryz.ntmps66
    go_wp2
    go_ret
    exact ⟨ret_bool (unhide HR).symm, rfl⟩
theorem tableB_no {zs : List E} {H F : Int} (h : ¬ (-1 ≤ H ∧ H ≤ 9999 ∧ floorB F = true ∧ (F = 0 ∨ F ≤ H) ∧ ok zs = true ∧ within zs F (H + 1) = true)) : tableB zs H F = false := by
  cases hf : tableB zs H F
  · rfl
  · unfold tableB at hf
    simp only [Bool.and_eq_true, Bool.or_eq_true, decide_eq_true_eq] at hf
    obtain ⟨⟨⟨⟨⟨a, b⟩, c⟩, d⟩, e⟩, g⟩ := hf
    exact absurd ⟨a, b, c, d, e, g⟩ h
theorem tableB_yes {zs : List E} {H F : Int} (h1 : -1 ≤ H) (h2 : H ≤ 9999) (h3 : floorB F = true) (h4 : F = 0 ∨ F ≤ H) (h5 : ok zs = true) (h6 : within zs F (H + 1) = true) : tableB zs H F = true := by
  unfold tableB
  rw [decide_eq_true h1, decide_eq_true h2, h3, h5, h6]
  rcases h4 with h | h <;> simp [h]
set_option maxRecDepth 100000 in
set_option maxHeartbeats 4000000 in
theorem impl_table {w : World} {v : Value} {zs : List E} {H F : Int} (h : Is w v zs) (hg : ∀ x ∈ zs, good x) (hlen : zs.length ≤ maxLen) : Calls Tryz.prog 28 #[.agg #[v, .int .i64 H, .int .i64 F]] w fun e w' => e = .returned (.bool (tableB zs H F)) ∧ Below w.heap.size w w' := by
  have C1 := hide (fun W (hb : Below w.heap.size w W) => impl_ok (h.below hb) hg hlen)
  have C2 := hide (fun W (hb : Below w.heap.size w W) => within_any F (H + 1) (h.below hb))
  have C3 := hide (fun W => floor_any F W)
  clear h hg hlen
  have B := (Below.refl w.heap.size w).alloc (Nat.le_refl _) (.cells #[v, .int .i64 H, .int .i64 F] 30)
  by_cases h1 : H < -1
  · have HR := hide (tableB_no (zs := zs) (H := H) (F := F) (fun h => by omega))
    go_enter Tryz.func28, Tryz.ntmps28
    go_wp2_with fail
    go_ret
    exact ⟨ret_bool (unhide HR).symm, B⟩
  by_cases h2 : 9999 < H
  · have HR := hide (tableB_no (zs := zs) (H := H) (F := F) (fun h => by omega))
    go_enter Tryz.func28, Tryz.ntmps28
    go_wp2_with fail
    go_ret
    exact ⟨ret_bool (unhide HR).symm, B⟩
  cases h3 : floorB F
  · have HR := hide (tableB_no (zs := zs) (H := H) (F := F) (fun h => by rw [h3] at h; exact absurd h.2.2.1 (by simp)))
    rw [h3] at C3
    clear h3
    go_enter Tryz.func28, Tryz.ntmps28
    go_wp2_with fail
    refine (unhide C3 _).mono ?_
    rintro e v1 ⟨rfl, rfl⟩
    go_wp2_with fail
    go_ret
    exact ⟨ret_bool (unhide HR).symm, B⟩
  rw [h3] at C3
  have h3n : 0 ≤ F := by unfold floorB at h3; simp only [Bool.and_eq_true, decide_eq_true_eq] at h3; exact h3.1.1
  by_cases h4 : 0 < F ∧ H < F
  · have HR := hide (tableB_no (zs := zs) (H := H) (F := F) (fun h => by omega))
    obtain ⟨h4a, h4b⟩ := h4
    clear h3
    go_enter Tryz.func28, Tryz.ntmps28
    go_wp2_with fail
    refine (unhide C3 _).mono ?_
    rintro e v1 ⟨rfl, rfl⟩
    go_wp2_with fail
    go_ret
    exact ⟨ret_bool (unhide HR).symm, B⟩
  by_cases h0 : F = 0
  · subst h0
    clear h4 h3n
    cases h5 : ok zs
    · have HR := hide (tableB_no (zs := zs) (H := H) (F := 0) (fun h => by rw [h5] at h; exact absurd h.2.2.2.2.1 (by simp)))
      rw [h5] at C1
      clear h3 h5
      go_enter Tryz.func28, Tryz.ntmps28
      go_wp2_with fail
      refine (unhide C3 _).mono ?_
      rintro e v1 ⟨rfl, rfl⟩
      go_wp2_with fail
      refine (unhide C1 _ B).mono ?_
      rintro e v2 ⟨rfl, b2⟩
      have B2 := B.trans (b2.mono B.size)
      obtain ⟨bc, bf⟩ := bcell b2
      simp only [World.size_alloc] at bc bf
      go_wp2_with fail
      go_ret
      exact ⟨ret_bool (unhide HR).symm, B2⟩
    · rw [h5] at C1
      cases h6 : within zs 0 (H + 1)
      · have HR := hide (tableB_no (zs := zs) (H := H) (F := 0) (fun h => by rw [h6] at h; exact absurd h.2.2.2.2.2 (by simp)))
        rw [h6] at C2
        clear h3 h5 h6
        go_enter Tryz.func28, Tryz.ntmps28
        go_wp2_with fail
        refine (unhide C3 _).mono ?_
        rintro e v1 ⟨rfl, rfl⟩
        go_wp2_with fail
        refine (unhide C1 _ B).mono ?_
        rintro e v2 ⟨rfl, b2⟩
        have B2 := B.trans (b2.mono B.size)
        obtain ⟨bc, bf⟩ := bcell b2
        simp only [World.size_alloc] at bc bf
        go_wp2_with fail
        refine (unhide C2 _ B2).mono ?_
        rintro e v3 ⟨rfl, b3⟩
        have B3 := B2.trans (b3.mono B2.size)
        go_wp2_with fail
        go_ret
        exact ⟨ret_bool (unhide HR).symm, B3⟩
      · have HR := hide (tableB_yes (zs := zs) (H := H) (F := 0) (by omega) (by omega) h3 (.inl rfl) h5 h6)
        rw [h6] at C2
        clear h3 h5 h6
        go_enter Tryz.func28, Tryz.ntmps28
        go_wp2_with fail
        refine (unhide C3 _).mono ?_
        rintro e v1 ⟨rfl, rfl⟩
        go_wp2_with fail
        refine (unhide C1 _ B).mono ?_
        rintro e v2 ⟨rfl, b2⟩
        have B2 := B.trans (b2.mono B.size)
        obtain ⟨bc, bf⟩ := bcell b2
        simp only [World.size_alloc] at bc bf
        go_wp2_with fail
        refine (unhide C2 _ B2).mono ?_
        rintro e v3 ⟨rfl, b3⟩
        have B3 := B2.trans (b3.mono B2.size)
        go_wp2_with fail
        go_ret
        exact ⟨ret_bool (unhide HR).symm, B3⟩
  · have h0p : 0 < F := by omega
    have h0q : ¬ H < F := by omega
    clear h4
    cases h5 : ok zs
    · have HR := hide (tableB_no (zs := zs) (H := H) (F := F) (fun h => by rw [h5] at h; exact absurd h.2.2.2.2.1 (by simp)))
      rw [h5] at C1
      clear h3 h5
      go_enter Tryz.func28, Tryz.ntmps28
      go_wp2_with fail
      refine (unhide C3 _).mono ?_
      rintro e v1 ⟨rfl, rfl⟩
      go_wp2_with fail
      refine (unhide C1 _ B).mono ?_
      rintro e v2 ⟨rfl, b2⟩
      have B2 := B.trans (b2.mono B.size)
      obtain ⟨bc, bf⟩ := bcell b2
      simp only [World.size_alloc] at bc bf
      go_wp2_with fail
      go_ret
      exact ⟨ret_bool (unhide HR).symm, B2⟩
    · rw [h5] at C1
      cases h6 : within zs F (H + 1)
      · have HR := hide (tableB_no (zs := zs) (H := H) (F := F) (fun h => by rw [h6] at h; exact absurd h.2.2.2.2.2 (by simp)))
        rw [h6] at C2
        clear h3 h5 h6
        go_enter Tryz.func28, Tryz.ntmps28
        go_wp2_with fail
        refine (unhide C3 _).mono ?_
        rintro e v1 ⟨rfl, rfl⟩
        go_wp2_with fail
        refine (unhide C1 _ B).mono ?_
        rintro e v2 ⟨rfl, b2⟩
        have B2 := B.trans (b2.mono B.size)
        obtain ⟨bc, bf⟩ := bcell b2
        simp only [World.size_alloc] at bc bf
        go_wp2_with fail
        refine (unhide C2 _ B2).mono ?_
        rintro e v3 ⟨rfl, b3⟩
        have B3 := B2.trans (b3.mono B2.size)
        go_wp2_with fail
        go_ret
        exact ⟨ret_bool (unhide HR).symm, B3⟩
      · have HR := hide (tableB_yes (zs := zs) (H := H) (F := F) (by omega) (by omega) h3 (by omega) h5 h6)
        rw [h6] at C2
        clear h3 h5 h6
        go_enter Tryz.func28, Tryz.ntmps28
        go_wp2_with fail
        refine (unhide C3 _).mono ?_
        rintro e v1 ⟨rfl, rfl⟩
        go_wp2_with fail
        refine (unhide C1 _ B).mono ?_
        rintro e v2 ⟨rfl, b2⟩
        have B2 := B.trans (b2.mono B.size)
        obtain ⟨bc, bf⟩ := bcell b2
        simp only [World.size_alloc] at bc bf
        go_wp2_with fail
        refine (unhide C2 _ B2).mono ?_
        rintro e v3 ⟨rfl, b3⟩
        have B3 := B2.trans (b3.mono B2.size)
        go_wp2_with fail
        go_ret
        exact ⟨ret_bool (unhide HR).symm, B3⟩
end Go.Proofs.YtlboekimnhgfdaaGreat.Row

/- RowsOk of the model, at every slice of rows. -/
namespace Go.Proofs.YtlboekimnhgfdaaGreat.Row
open Go.RowKit Rw
set_option linter.unusedVariables false
attribute [local go_sem ↓] Go.wp_at_zero Go.wp_at_succ
set_option maxRecDepth 100000 in
set_option maxHeartbeats 8000000 in
theorem spec_ok {w : World} {v : Value} {zs : List E} (h : Is w v zs) (hg : ∀ x ∈ zs, good x) (hlen : zs.length ≤ maxLen) : Calls Tryz.prog 59 #[v] w fun e w' => e = .returned (.bool (ok zs)) ∧ Below w.heap.size w w' := by
  obtain ⟨cs, hcs, hL, hE⟩ := h
  have HE := hide hE
  have HG := hide hg
  obtain ⟨-, a, cap, rfl, hc, hm, -, hr⟩ := hL
  unfold maxLen at hm hlen
  obtain ⟨n, hn⟩ : ∃ n, n = zs.length := ⟨_, rfl⟩
  rw [← hn] at hc hr hcs hlen ⊢
  have HN := hide hn
  have HC := hide hcs
  clear hn hE hg hcs
  go_enter Tryz.func59, Tryz.ntmps59
  go_wp2_with fail
  go_loopw [3] (fun i wr => ∃ (j : Nat), j ≤ n ∧ i = .int .i64 j ∧ Hid (okTo zs j = true) ∧ Below w.heap.size w wr) (fun i _ => n - (intOf i).toNat)
  case atStart => exact ⟨0, Nat.zero_le _, rfl, hide rfl, Below.refl _ _⟩
  case round =>
    obtain ⟨j, hj, rfl, HO, hbel⟩ := hrel
    have hsz := hbel.size
    by_cases hlt : j < n
    · obtain ⟨b, off, rfl, hl, hcells⟩ := hr (by omega)
      have fa := flat_at cs j (by have := unhide HC; omega)
      have hc0 : wr.cell? ⟨b, off + j * 2, none⟩ = some (cat cs j).1 := (hbel.cell (p := ⟨b, _, none⟩) hl).trans (hcells (j * 2) _ fa.1)
      have hc1 : wr.cell? ⟨b, off + j * 2 + 1, none⟩ = some (cat cs j).2 := (hbel.cell (p := ⟨b, _, none⟩) hl).trans (hcells (j * 2 + 1) _ fa.2)
      have hEj := (unhide HE j (by have := unhide HN; omega)).below hbel
      have hGj := unhide HG _ (at_mem zs j (by have := unhide HN; omega))
      obtain ⟨a1, q1, f1, g1, g1'⟩ := hEj.1.form
      obtain ⟨a2, q2, f2, g2, g2'⟩ := hEj.2.form
      obtain ⟨l1, hl1⟩ : ∃ l, l = (at' zs j).1.length := ⟨_, rfl⟩
      obtain ⟨l2, hl2⟩ : ∃ l, l = (at' zs j).2.length := ⟨_, rfl⟩
      unfold maxLen at g1' g2'
      rw [f1, ← hl1] at hc0
      rw [f2, ← hl2] at hc1
      rw [← hl1] at g1
      rw [← hl2] at g2
      have HI1 := hide (show Lab.Is wr (.slice a1 l1 q1) (at' zs j).1 by rw [hl1, ← f1]; exact hEj.1)
      have HI2 := hide (show Sam.Is wr (.slice a2 l2 q2) (at' zs j).2 by rw [hl2, ← f2]; exact hEj.2)
      have HL1 := hide hl1
      have HL2 := hide hl2
      have hk0 : (0 : Int) ≤ (j : Int) := Int.natCast_nonneg _
      have hk1 : (j : Int) < (n : Int) := by omega
      have hq0 : ∀ x : Cls wr.heap.size wr, x.val.cell? ⟨b, off + j * 2, none⟩ = some (.slice a1 l1 q1) := fun x => by rw [x.cell (by omega)]; exact hc0
      have hq1 : ∀ x : Cls wr.heap.size wr, x.val.cell? ⟨b, off + j * 2 + 1, none⟩ = some (.slice a2 l2 q2) := fun x => by rw [x.cell (by omega)]; exact hc1
      have hne := cls_nonempty wr.heap.size wr
      clear fa hEj f1 f2 hl1 hl2 hc0 hc1
      have CL := hide (fun x : Cls wr.heap.size wr => Lab.spec_ok ((unhide HI1).below x.isBelow) hGj.1.2 hGj.1.1)
      have CS := hide (fun x : Cls wr.heap.size wr => Sam.l2ok ((unhide HI2).below x.isBelow))
      have CI := hide (fun x : Cls wr.heap.size wr => Zig.in_any (l2 : Int) 1 1000 x.val)
      cases hlab : Lab.ok (at' zs j).1
      · have HF := hide (ok_of_bad (zs := zs) (k := j) (by have := unhide HN; omega) (step_lab hlab))
        rw [hlab] at CL
        clear hlab
        go_wp2_with fail
        refine region_cls (by kernel_rfl) (by kernel_rfl) ?_
        repeat (go_big_quiet_step (first | (go_at_call 106; exact cls_call (Nat.le_refl _) (unhide CL _)) | (go_at_call 107; exact cls_call (Nat.le_refl _) (unhide CS _)) | (go_at_call 60; exact cls_same (unhide CI _))))
        refine wpQuiet_nil ?_
        rintro wq ⟨⟨_, hq⟩, rfl⟩
        have hbq := hbel.trans (hq.mono hsz)
        go_wp2_with fail
        go_ret
        exact ⟨ret_bool (unhide HF).symm, hbq⟩
      · rw [hlab] at CL
        have HLk := hide hlab
        cases hsam : SampMath.ok (at' zs j).2
        · have HF := hide (ok_of_bad (zs := zs) (k := j) (by have := unhide HN; omega) (step_sam hsam))
          rw [hsam] at CS
          clear hlab hsam
          go_wp2_with fail
          refine region_cls (by kernel_rfl) (by kernel_rfl) ?_
          repeat (go_big_quiet_step (first | (go_at_call 106; exact cls_call (Nat.le_refl _) (unhide CL _)) | (go_at_call 107; exact cls_call (Nat.le_refl _) (unhide CS _)) | (go_at_call 60; exact cls_same (unhide CI _))))
          refine wpQuiet_nil ?_
          rintro wq ⟨⟨_, hq⟩, rfl⟩
          have hbq := hbel.trans (hq.mono hsz)
          go_wp2_with fail
          go_ret
          exact ⟨ret_bool (unhide HF).symm, hbq⟩
        · rw [hsam] at CS
          have HSk := hide hsam
          clear hsam
          by_cases hs : 1 ≤ l2 ∧ l2 ≤ 1000
          · rw [show Zig.inB (l2 : Int) 1 1000 = true from by unfold Zig.inB; rw [decide_eq_true (by omega), decide_eq_true (by omega)]; rfl] at CI
            rcases j with _ | j
            · simp only [Nat.zero_mul, Nat.add_zero] at hq0 hq1
              have HU := hide (show okTo zs (0 + 1) = true by rw [okTo_succ, unhide HO, step_yes (unhide HLk) (by rw [← unhide HL2]; exact hs.1) (by rw [← unhide HL2]; exact hs.2) (unhide HSk) (.inl rfl)]; rfl)
              clear hlab hs
              go_wp2_with fail
              refine region_cls (by kernel_rfl) (by kernel_rfl) ?_
              repeat (go_big_quiet_step (first | (go_at_call 106; exact cls_call (Nat.le_refl _) (unhide CL _)) | (go_at_call 107; exact cls_call (Nat.le_refl _) (unhide CS _)) | (go_at_call 60; exact cls_same (unhide CI _))))
              refine wpQuiet_nil ?_
              rintro wq ⟨⟨_, hq⟩, rfl⟩
              have hbq := hbel.trans (hq.mono hsz)
              go_wp2
              go_roundw
              case rel => exact ⟨0 + 1, by omega, by go_num, HU, hbq⟩
              case measure => simp [intOf]; omega
            · have fp := flat_at cs j (by have := unhide HC; omega)
              have hEp := (unhide HE j (by have := unhide HN; omega)).below hbel
              have hp0 : ∀ x : Cls wr.heap.size wr, x.val.cell? ⟨b, off + j * 2, none⟩ = some (cat cs j).1 := fun x => by rw [x.cell (by omega)]; exact (hbel.cell (p := ⟨b, _, none⟩) hl).trans (hcells (j * 2) _ fp.1)
              have HCm := hide (fun x : Cls wr.heap.size wr => Lab.l3Cmp_any (hEp.1.below x.isBelow) ((unhide HI1).below x.isBelow))
              obtain ⟨a0, q0, f0, -, -⟩ := hEp.1.form
              obtain ⟨l0, hl0⟩ : ∃ l, l = (at' zs j).1.length := ⟨_, rfl⟩
              rw [← hl0] at f0
              rw [f0] at hp0 HCm
              clear fp hEp hlab f0 hl0
              have hj0 : (0 : Int) ≤ (j : Int) := Int.natCast_nonneg _
              have hj1 : (j : Int) < (n : Int) := by omega
              have hj2 : (((j + 1 : Nat) : Int)) - 1 = (j : Int) := by omega
              have HSt := hide (fun h => step_cmp (zs := zs) (k := j + 1) (by omega) h)
              simp only [Nat.add_sub_cancel] at HSt
              have hrg := Lab.cmpL_range (at' zs j).1 (at' zs (j + 1)).1
              obtain ⟨M, hM0⟩ : ∃ M, M = Lab.cmpL (at' zs j).1 (at' zs (j + 1)).1 := ⟨_, rfl⟩
              rw [← hM0] at HCm HSt hrg
              have HM0 := hide hM0
              clear hM0
              by_cases hM : M < 0
              · have HU := hide (show okTo zs (j + 1 + 1) = true by rw [okTo_succ, unhide HO, step_yes (unhide HLk) (by rw [← unhide HL2]; exact hs.1) (by rw [← unhide HL2]; exact hs.2) (unhide HSk) (.inr (by show Lab.cmpL (at' zs j).1 _ < 0; rw [← unhide HM0]; exact hM))]; rfl)
                have hM2 : ¬ 0 ≤ M := by omega
                clear hs
                go_wp2_with fail
                refine region_cls (by kernel_rfl) (by kernel_rfl) ?_
                repeat (go_big_quiet_step (first | (go_at_call 106; exact cls_call (Nat.le_refl _) (unhide CL _)) | (go_at_call 107; exact cls_call (Nat.le_refl _) (unhide CS _)) | (go_at_call 60; exact cls_same (unhide CI _)) | (go_at_call 108; exact cls_call (Nat.le_refl _) (unhide HCm _))))
                refine wpQuiet_nil ?_
                rintro wq ⟨⟨_, hq⟩, rfl⟩
                have hbq := hbel.trans (hq.mono hsz)
                go_wp2
                go_roundw
                case rel => exact ⟨j + 1 + 1, by omega, by go_num, HU, hbq⟩
                case measure => simp [intOf]; omega
              · have HF := hide (ok_of_bad (zs := zs) (k := j + 1) (by have := unhide HN; omega) (unhide HSt hM))
                have hM2 : 0 ≤ M := by omega
                clear hs
                go_wp2_with fail
                refine region_cls (by kernel_rfl) (by kernel_rfl) ?_
                repeat (go_big_quiet_step (first | (go_at_call 106; exact cls_call (Nat.le_refl _) (unhide CL _)) | (go_at_call 107; exact cls_call (Nat.le_refl _) (unhide CS _)) | (go_at_call 60; exact cls_same (unhide CI _)) | (go_at_call 108; exact cls_call (Nat.le_refl _) (unhide HCm _))))
                refine wpQuiet_nil ?_
                rintro wq ⟨⟨_, hq⟩, rfl⟩
                have hbq := hbel.trans (hq.mono hsz)
                go_wp2_with fail
                go_ret
                exact ⟨ret_bool (unhide HF).symm, hbq⟩
          · have HF := hide (ok_of_bad (zs := zs) (k := j) (by have := unhide HN; omega) (step_len (by rw [← unhide HL2]; omega)))
            rw [show Zig.inB (l2 : Int) 1 1000 = false from by unfold Zig.inB; rw [Bool.and_eq_false_iff, decide_eq_false_iff_not, decide_eq_false_iff_not]; omega] at CI
            clear hs hlab
            go_wp2_with fail
            refine region_cls (by kernel_rfl) (by kernel_rfl) ?_
            repeat (go_big_quiet_step (first | (go_at_call 106; exact cls_call (Nat.le_refl _) (unhide CL _)) | (go_at_call 107; exact cls_call (Nat.le_refl _) (unhide CS _)) | (go_at_call 60; exact cls_same (unhide CI _))))
            refine wpQuiet_nil ?_
            rintro wq ⟨⟨_, hq⟩, rfl⟩
            have hbq := hbel.trans (hq.mono hsz)
            go_wp2_with fail
            go_ret
            exact ⟨ret_bool (unhide HF).symm, hbq⟩
    · obtain rfl : j = n := by omega
      by_cases hbig : 10 < j
      · have HR := hide (show ok zs = false from ok_long (by have := unhide HN; omega))
        go_wp2
        go_ret
        exact ⟨ret_bool (by rw [unhide HR]; exact decide_eq_false (by omega)), hbel⟩
      · have HU := hide (show ok zs = true by unfold ok; rw [← unhide HN, unhide HO, decide_eq_true (by omega)]; rfl)
        go_wp2
        go_ret
        exact ⟨ret_bool (by rw [unhide HU]; exact decide_eq_true (by omega)), hbel⟩
end Go.Proofs.YtlboekimnhgfdaaGreat.Row

/- TableOk of the model, at every table. -/
namespace Go.Proofs.YtlboekimnhgfdaaGreat.Row
open Go.RowKit Rw
set_option linter.unusedVariables false
attribute [local go_sem ↓] Go.wp_at_zero Go.wp_at_succ
set_option maxRecDepth 100000 in
set_option maxHeartbeats 8000000 in
theorem spec_table {w : World} {v : Value} {zs : List E} {H F : Int} (h : Is w v zs) (hg : ∀ x ∈ zs, good x) (hlen : zs.length ≤ maxLen) : Calls Tryz.prog 25 #[.agg #[v, .int .i64 H, .int .i64 F]] w fun e w' => e = .returned (.bool (tableB zs H F)) ∧ Below w.heap.size w w' := by
  obtain ⟨wa, hwa⟩ : ∃ wa, wa = w.alloc (.cells #[v, .int .i64 H, .int .i64 F] 30) := ⟨_, rfl⟩
  have B : Below w.heap.size w wa := by rw [hwa]; exact (Below.refl _ _).alloc (Nat.le_refl _) _
  have za : w.heap.size < wa.heap.size := by rw [hwa]; simp
  have hq0 : ∀ x : Cls wa.heap.size wa, x.val.cell? ⟨w.heap.size, 0, none⟩ = some v := fun x => by rw [x.cell (by omega), hwa]; simp [go_sem]
  have hq1 : ∀ x : Cls wa.heap.size wa, x.val.cell? ⟨w.heap.size, 1, none⟩ = some (.int .i64 H) := fun x => by rw [x.cell (by omega), hwa]; simp [go_sem]
  have hq2 : ∀ x : Cls wa.heap.size wa, x.val.cell? ⟨w.heap.size, 2, none⟩ = some (.int .i64 F) := fun x => by rw [x.cell (by omega), hwa]; simp [go_sem]
  have hne := cls_nonempty wa.heap.size wa
  have ha := h.below B
  have C1 := hide (fun x : Cls wa.heap.size wa => spec_ok (ha.below x.isBelow) hg hlen)
  have HLa := hide (fun (hok : ok zs = true) (x : Cls wa.heap.size wa) => last_any (ha.below x.isBelow) hok)
  have HFi := hide (fun (hok : ok zs = true) (x : Cls wa.heap.size wa) => first_any (ha.below x.isBelow) hok)
  clear h hg hlen ha
  obtain ⟨R, hR⟩ : ∃ R, F.tmod 100 = R := ⟨_, rfl⟩
  cases h5 : ok zs
  · have HR := hide (tableB_no (zs := zs) (H := H) (F := F) (fun h => by rw [h5] at h; exact absurd h.2.2.2.2.1 (by simp)))
    rw [h5] at C1
    have C4 := hide trivial
    have C5 := hide trivial
    clear h5
    have I1 := hide (rfl : Zig.inB H (-1) 9999 = Zig.inB H (-1) 9999)
    have I2 := hide (rfl : Zig.inB F 0 9999 = Zig.inB F 0 9999)
    go_enter Tryz.func25, Tryz.ntmps25
    go_wp2_with fail
    rw [← hwa]
    clear hwa
    refine region_cls (by kernel_rfl) (by kernel_rfl) ?_
    repeat (go_big_quiet_step (first | (go_at_call 59; exact cls_call (Nat.le_refl _) (unhide C1 _)) | (go_at_call_of 60 H; exact cls_same (Samp.in_is H _ _ _ _ (unhide I1))) | (go_at_call 60; exact cls_same (Samp.in_is F _ _ _ _ (unhide I2))) | (go_at_call 61; exact cls_same (unhide C4 _)) | (go_at_call 62; exact cls_same (unhide C5 _))))
    refine wpQuiet_nil ?_
    rintro wq ⟨⟨_, hq⟩, rfl⟩
    have hbq := B.trans (hq.mono B.size)
    go_wp2
    go_ret
    exact ⟨ret_bool (unhide HR).symm, hbq⟩
  rw [h5] at C1
  have C4 := hide (unhide HLa h5)
  have C5 := hide (unhide HFi h5)
  clear HLa HFi
  by_cases hH : -1 ≤ H ∧ H ≤ 9999
  · have I1 := hide (Samp.inB_true (n := H) (lo := (-1)) (hi := 9999) (by omega) (by omega))
    by_cases hF : 0 ≤ F ∧ F ≤ 9999
    · have I2 := hide (Samp.inB_true (n := F) (lo := 0) (hi := 9999) (by omega) (by omega))
      by_cases h2 : R = 0
      · subst h2
        have h3 := floorB_yes hF.1 hF.2 hR
        have HWi := within_iff h5 (H := H) (F := F) hH.1 (by omega)
        obtain ⟨L, hL⟩ : ∃ L, L = lastR zs := ⟨_, rfl⟩
        obtain ⟨M, hM⟩ : ∃ M, M = firstR zs := ⟨_, rfl⟩
        rw [← hL] at C4 HWi
        rw [← hM] at C5 HWi
        clear hL hM
        by_cases h0 : F = 0
        · subst h0
          clear hR
          by_cases hL : L ≤ H
          · by_cases hM : (0 : Int) ≤ M
            · have HR := hide (tableB_yes (zs := zs) (H := H) (F := 0) hH.1 hH.2 h3 (by omega) h5 (HWi.2 ⟨hL, hM⟩))
              clear HWi h3 h5
              go_enter Tryz.func25, Tryz.ntmps25
              go_wp2_with fail
              rw [← hwa]
              clear hwa
              refine region_cls (by kernel_rfl) (by kernel_rfl) ?_
              repeat (go_big_quiet_step (first | (go_at_call 59; exact cls_call (Nat.le_refl _) (unhide C1 _)) | (go_at_call_of 60 H; exact cls_same (Samp.in_is H _ _ _ _ (unhide I1))) | (go_at_call 60; exact cls_same (Samp.in_is 0 _ _ _ _ (unhide I2))) | (go_at_call 61; exact cls_same (unhide C4 _)) | (go_at_call 62; exact cls_same (unhide C5 _))))
              refine wpQuiet_nil ?_
              rintro wq ⟨⟨_, hq⟩, rfl⟩
              have hbq := B.trans (hq.mono B.size)
              go_wp2
              go_ret
              exact ⟨ret_bool (unhide HR).symm, hbq⟩
            · have HR := hide (tableB_no (zs := zs) (H := H) (F := 0) (fun h => by exact hM (HWi.1 h.2.2.2.2.2).2))
              have hMd : decide ((0 : Int) ≤ M) = false := by simp; omega
              clear HWi h3 h5 hM
              go_enter Tryz.func25, Tryz.ntmps25
              go_wp2_with fail
              rw [← hwa]
              clear hwa
              refine region_cls (by kernel_rfl) (by kernel_rfl) ?_
              repeat (go_big_quiet_step (first | (go_at_call 59; exact cls_call (Nat.le_refl _) (unhide C1 _)) | (go_at_call_of 60 H; exact cls_same (Samp.in_is H _ _ _ _ (unhide I1))) | (go_at_call 60; exact cls_same (Samp.in_is 0 _ _ _ _ (unhide I2))) | (go_at_call 61; exact cls_same (unhide C4 _)) | (go_at_call 62; exact cls_same (unhide C5 _))))
              refine wpQuiet_nil ?_
              rintro wq ⟨⟨_, hq⟩, rfl⟩
              have hbq := B.trans (hq.mono B.size)
              go_wp2
              go_ret
              exact ⟨ret_bool (unhide HR).symm, hbq⟩
          · have HR := hide (tableB_no (zs := zs) (H := H) (F := 0) (fun h => by exact hL (HWi.1 h.2.2.2.2.2).1))
            have hLd : decide (L ≤ H) = false := by simp; omega
            clear HWi h3 h5 hL
            go_enter Tryz.func25, Tryz.ntmps25
            go_wp2_with fail
            rw [← hwa]
            clear hwa
            refine region_cls (by kernel_rfl) (by kernel_rfl) ?_
            repeat (go_big_quiet_step (first | (go_at_call 59; exact cls_call (Nat.le_refl _) (unhide C1 _)) | (go_at_call_of 60 H; exact cls_same (Samp.in_is H _ _ _ _ (unhide I1))) | (go_at_call 60; exact cls_same (Samp.in_is 0 _ _ _ _ (unhide I2))) | (go_at_call 61; exact cls_same (unhide C4 _)) | (go_at_call 62; exact cls_same (unhide C5 _))))
            refine wpQuiet_nil ?_
            rintro wq ⟨⟨_, hq⟩, rfl⟩
            have hbq := B.trans (hq.mono B.size)
            go_wp2
            go_ret
            exact ⟨ret_bool (unhide HR).symm, hbq⟩
        · have h0f : (F == 0) = false := by simpa using h0
          by_cases h4 : F ≤ H
          · skip
            by_cases hL : L ≤ H
            · by_cases hM : F ≤ M
              · have HR := hide (tableB_yes (zs := zs) (H := H) (F := F) hH.1 hH.2 h3 (by omega) h5 (HWi.2 ⟨hL, hM⟩))
                clear HWi h3 h5
                go_enter Tryz.func25, Tryz.ntmps25
                go_wp2_with fail
                rw [← hwa]
                clear hwa
                refine region_cls (by kernel_rfl) (by kernel_rfl) ?_
                repeat (go_big_quiet_step (first | (go_at_call 59; exact cls_call (Nat.le_refl _) (unhide C1 _)) | (go_at_call_of 60 H; exact cls_same (Samp.in_is H _ _ _ _ (unhide I1))) | (go_at_call 60; exact cls_same (Samp.in_is F _ _ _ _ (unhide I2))) | (go_at_call 61; exact cls_same (unhide C4 _)) | (go_at_call 62; exact cls_same (unhide C5 _))))
                refine wpQuiet_nil ?_
                rintro wq ⟨⟨_, hq⟩, rfl⟩
                have hbq := B.trans (hq.mono B.size)
                go_wp2
                go_ret
                exact ⟨ret_bool (unhide HR).symm, hbq⟩
              · have HR := hide (tableB_no (zs := zs) (H := H) (F := F) (fun h => by exact hM (HWi.1 h.2.2.2.2.2).2))
                have hMd : decide (F ≤ M) = false := by simp; omega
                clear HWi h3 h5 hM
                go_enter Tryz.func25, Tryz.ntmps25
                go_wp2_with fail
                rw [← hwa]
                clear hwa
                refine region_cls (by kernel_rfl) (by kernel_rfl) ?_
                repeat (go_big_quiet_step (first | (go_at_call 59; exact cls_call (Nat.le_refl _) (unhide C1 _)) | (go_at_call_of 60 H; exact cls_same (Samp.in_is H _ _ _ _ (unhide I1))) | (go_at_call 60; exact cls_same (Samp.in_is F _ _ _ _ (unhide I2))) | (go_at_call 61; exact cls_same (unhide C4 _)) | (go_at_call 62; exact cls_same (unhide C5 _))))
                refine wpQuiet_nil ?_
                rintro wq ⟨⟨_, hq⟩, rfl⟩
                have hbq := B.trans (hq.mono B.size)
                go_wp2
                go_ret
                exact ⟨ret_bool (unhide HR).symm, hbq⟩
            · have HR := hide (tableB_no (zs := zs) (H := H) (F := F) (fun h => by exact hL (HWi.1 h.2.2.2.2.2).1))
              have hLd : decide (L ≤ H) = false := by simp; omega
              clear HWi h3 h5 hL
              go_enter Tryz.func25, Tryz.ntmps25
              go_wp2_with fail
              rw [← hwa]
              clear hwa
              refine region_cls (by kernel_rfl) (by kernel_rfl) ?_
              repeat (go_big_quiet_step (first | (go_at_call 59; exact cls_call (Nat.le_refl _) (unhide C1 _)) | (go_at_call_of 60 H; exact cls_same (Samp.in_is H _ _ _ _ (unhide I1))) | (go_at_call 60; exact cls_same (Samp.in_is F _ _ _ _ (unhide I2))) | (go_at_call 61; exact cls_same (unhide C4 _)) | (go_at_call 62; exact cls_same (unhide C5 _))))
              refine wpQuiet_nil ?_
              rintro wq ⟨⟨_, hq⟩, rfl⟩
              have hbq := B.trans (hq.mono B.size)
              go_wp2
              go_ret
              exact ⟨ret_bool (unhide HR).symm, hbq⟩
          · have HR := hide (tableB_no (zs := zs) (H := H) (F := F) (fun h => by omega))
            have h4d : decide (F ≤ H) = false := by simp; omega
            clear HWi h3 h5 h4
            go_enter Tryz.func25, Tryz.ntmps25
            go_wp2_with fail
            rw [← hwa]
            clear hwa
            refine region_cls (by kernel_rfl) (by kernel_rfl) ?_
            repeat (go_big_quiet_step (first | (go_at_call 59; exact cls_call (Nat.le_refl _) (unhide C1 _)) | (go_at_call_of 60 H; exact cls_same (Samp.in_is H _ _ _ _ (unhide I1))) | (go_at_call 60; exact cls_same (Samp.in_is F _ _ _ _ (unhide I2))) | (go_at_call 61; exact cls_same (unhide C4 _)) | (go_at_call 62; exact cls_same (unhide C5 _))))
            refine wpQuiet_nil ?_
            rintro wq ⟨⟨_, hq⟩, rfl⟩
            have hbq := B.trans (hq.mono B.size)
            go_wp2
            go_ret
            exact ⟨ret_bool (unhide HR).symm, hbq⟩
      · have HR := hide (tableB_no (zs := zs) (H := H) (F := F) (fun h => by have h6 := h.2.2.1; unfold floorB at h6; simp only [Bool.and_eq_true, decide_eq_true_eq] at h6; exact h2 (hR.symm.trans h6.2)))
        have h2f : (R == 0) = false := by simpa using h2
        clear h5
        go_enter Tryz.func25, Tryz.ntmps25
        go_wp2_with fail
        rw [← hwa]
        clear hwa
        refine region_cls (by kernel_rfl) (by kernel_rfl) ?_
        repeat (go_big_quiet_step (first | (go_at_call 59; exact cls_call (Nat.le_refl _) (unhide C1 _)) | (go_at_call_of 60 H; exact cls_same (Samp.in_is H _ _ _ _ (unhide I1))) | (go_at_call 60; exact cls_same (Samp.in_is F _ _ _ _ (unhide I2))) | (go_at_call 61; exact cls_same (unhide C4 _)) | (go_at_call 62; exact cls_same (unhide C5 _))))
        refine wpQuiet_nil ?_
        rintro wq ⟨⟨_, hq⟩, rfl⟩
        have hbq := B.trans (hq.mono B.size)
        go_wp2
        go_ret
        exact ⟨ret_bool (unhide HR).symm, hbq⟩
    · have I2 := hide (Samp.inB_false (n := F) (lo := 0) (hi := 9999) (by omega))
      have HR := hide (tableB_no (zs := zs) (H := H) (F := F) (fun h => by have h6 := h.2.2.1; unfold floorB at h6; simp only [Bool.and_eq_true, decide_eq_true_eq] at h6; exact hF h6.1))
      clear h5
      go_enter Tryz.func25, Tryz.ntmps25
      go_wp2_with fail
      rw [← hwa]
      clear hwa
      refine region_cls (by kernel_rfl) (by kernel_rfl) ?_
      repeat (go_big_quiet_step (first | (go_at_call 59; exact cls_call (Nat.le_refl _) (unhide C1 _)) | (go_at_call_of 60 H; exact cls_same (Samp.in_is H _ _ _ _ (unhide I1))) | (go_at_call 60; exact cls_same (Samp.in_is F _ _ _ _ (unhide I2))) | (go_at_call 61; exact cls_same (unhide C4 _)) | (go_at_call 62; exact cls_same (unhide C5 _))))
      refine wpQuiet_nil ?_
      rintro wq ⟨⟨_, hq⟩, rfl⟩
      have hbq := B.trans (hq.mono B.size)
      go_wp2
      go_ret
      exact ⟨ret_bool (unhide HR).symm, hbq⟩
  · have I1 := hide (Samp.inB_false (n := H) (lo := (-1)) (hi := 9999) (by omega))
    have I2 := hide (rfl : Zig.inB F 0 9999 = Zig.inB F 0 9999)
    have HR := hide (tableB_no (zs := zs) (H := H) (F := F) (fun h => by exact hH ⟨h.1, h.2.1⟩))
    clear h5
    go_enter Tryz.func25, Tryz.ntmps25
    go_wp2_with fail
    rw [← hwa]
    clear hwa
    refine region_cls (by kernel_rfl) (by kernel_rfl) ?_
    repeat (go_big_quiet_step (first | (go_at_call 59; exact cls_call (Nat.le_refl _) (unhide C1 _)) | (go_at_call_of 60 H; exact cls_same (Samp.in_is H _ _ _ _ (unhide I1))) | (go_at_call 60; exact cls_same (Samp.in_is F _ _ _ _ (unhide I2))) | (go_at_call 61; exact cls_same (unhide C4 _)) | (go_at_call 62; exact cls_same (unhide C5 _))))
    refine wpQuiet_nil ?_
    rintro wq ⟨⟨_, hq⟩, rfl⟩
    have hbq := B.trans (hq.mono B.size)
    go_wp2
    go_ret
    exact ⟨ret_bool (unhide HR).symm, hbq⟩
end Go.Proofs.YtlboekimnhgfdaaGreat.Row

/- What a call leaves as it was, but for some blocks. No condition. -/
namespace Go.Proofs.YtlboekimnhgfdaaGreat.Rw
open Go.RowKit
/-- all that was there is as it was, but for blocks from lo on, ahead of hi -/
structure Zone (lo hi : Nat) (w w' : World) : Prop where
  os : w'.os = w.os
  tape : w'.tape = w.tape
  output : w'.output = w.output
  size : w.heap.size ≤ w'.heap.size
  block : ∀ k, k < w.heap.size → (k < lo ∨ hi ≤ k) → w'.heap[k]? = w.heap[k]?
theorem Zone.refl (lo hi : Nat) (w : World) : Zone lo hi w w := ⟨rfl, rfl, rfl, Nat.le_refl _, fun _ _ _ => rfl⟩
theorem Zone.trans {lo hi : Nat} {a b c : World} (h : Zone lo hi a b) (h' : Zone lo hi b c) : Zone lo hi a c :=
  ⟨h'.os.trans h.os, h'.tape.trans h.tape, h'.output.trans h.output, Nat.le_trans h.size h'.size, fun k hk ho => (h'.block k (Nat.lt_of_lt_of_le hk h.size) ho).trans (h.block k hk ho)⟩
theorem Zone.of_below {lo hi : Nat} {w w' : World} (h : Below w.heap.size w w') : Zone lo hi w w' := ⟨h.os, h.tape, h.output, h.size, fun k hk _ => h.block k hk⟩
theorem Zone.mono {lo hi lo' hi' : Nat} {w w' : World} (h : Zone lo hi w w') (h1 : lo' ≤ lo) (h2 : hi ≤ hi') : Zone lo' hi' w w' := ⟨h.os, h.tape, h.output, h.size, fun k hk ho => h.block k hk (by omega)⟩
theorem Zone.below {lo hi B : Nat} {w w' : World} (h : Zone lo hi w w') (hB : B ≤ lo) (hs : B ≤ w.heap.size) : Below B w w' := ⟨h.os, h.tape, h.output, h.size, fun k hk => h.block k (by omega) (.inl (by omega))⟩
theorem Zone.of_only {g lo hi : Nat} {w w' : World} (h : OnlyAt g w w') (h1 : lo ≤ g) (h2 : g < hi) : Zone lo hi w w' := ⟨h.os, h.tape, h.output, Nat.le_of_eq h.size.symm, fun k _ ho => h.block k (by omega)⟩
theorem Zone.store {g lo hi : Nat} {w w' : World} (h : Zone lo hi w w') (h1 : lo ≤ g) (h2 : g < hi) (j : Nat) (u : Value) : Zone lo hi w (w'.setCell ⟨g, j, none⟩ u) := h.trans (Zone.of_only ((OnlyAt.refl g w').setCell j u) h1 h2)
/-- a slice that lies outside -/
def Out (lo hi : Nat) (v : Value) : Prop := ∀ k, v.ownBlock = some k → k < lo ∨ hi ≤ k
theorem Zone.lies {lo hi : Nat} {w w' : World} (h : Zone lo hi w w') {v : Value} {n size : Nat} {xs : List Value} (hs : Lies w v n size xs) (hv : Out lo hi v) : Lies w' v n size xs := by
  obtain ⟨h0, ad, cap, h1, h2, h3, h4, h5⟩ := hs
  refine ⟨h0, ad, cap, h1, h2, h3, h4, fun hn => ?_⟩
  obtain ⟨c, off, e, hl, hc⟩ := h5 hn
  exact ⟨c, off, e, Nat.lt_of_lt_of_le hl h.size, fun j u hj => (World.cell?_of_block (a := ⟨c, off + j, none⟩) (h.block c hl (hv c (by rw [h1, e]; rfl)))).trans (hc j u hj)⟩
theorem Zone.own {lo hi : Nat} {w w' : World} (h : Zone lo hi w w') {base n size : Nat} {e : TypeId} {v : Value} {xs : List Value} (ho : w.ownsRow base e size v n xs) (hv : Out lo hi v) : w'.ownsRow base e size v n xs := by
  refine ⟨ho.1, ?_⟩
  rcases ho.2 with h1 | ⟨c, cap, cur, h1, h2, h3, h4⟩
  · exact .inl h1
  · refine .inr ⟨c, cap, cur, h1, h2, ?_, h4⟩
    have hl : c < w.heap.size := by
      rcases Nat.lt_or_ge c w.heap.size with hl | hl
      · exact hl
      · rw [Array.getElem?_eq_none hl] at h3; cases h3
    rw [h.block c hl (hv c (by rw [h1]; rfl))]
    exact h3
/-- a row of the call's own lies from its base on, ahead of what the world has -/
theorem own_out {w : World} {base n size lo hi : Nat} {e : TypeId} {v : Value} {xs : List Value} (h : w.ownsRow base e size v n xs) (ho : hi ≤ base ∨ w.heap.size ≤ lo) : Out lo hi v := by
  intro k hk
  have h1 := own_ge h k hk
  have h2 := own_block_lt h k hk
  omega
/-- slices of which no two lie in one block -/
def Apart (cs : List Value) : Prop := ∀ i j, i < j → j < cs.length → ∀ k, (cs.getD i default).ownBlock = some k → (cs.getD j default).ownBlock ≠ some k
theorem Apart.nil : Apart [] := fun i j _ h => by cases h
theorem Apart.snoc {cs : List Value} {c : Value} (h : Apart cs) (hc : ∀ i, i < cs.length → ∀ k, (cs.getD i default).ownBlock = some k → c.ownBlock ≠ some k) : Apart (cs ++ [c]) := by
  intro i j hij hj k hk
  simp only [List.length_append, List.length_cons, List.length_nil] at hj
  have ei : (cs ++ [c]).getD i default = cs.getD i default := by simp [List.getD, List.getElem?_append_left (show i < cs.length by omega)]
  rw [ei] at hk
  by_cases hl : j < cs.length
  · rw [show (cs ++ [c]).getD j default = cs.getD j default by simp [List.getD, List.getElem?_append_left hl]]
    exact h i j hij hl k hk
  · obtain rfl : j = cs.length := by omega
    rw [show (cs ++ [c]).getD cs.length default = c by simp [List.getD]]
    exact hc i hij k hk
theorem Apart.ne {cs : List Value} (h : Apart cs) {i j : Nat} (hij : i ≠ j) (hi : i < cs.length) (hj : j < cs.length) : ∀ k, (cs.getD i default).ownBlock = some k → (cs.getD j default).ownBlock ≠ some k := by
  intro k hk
  rcases Nat.lt_or_gt_of_ne hij with hl | hl
  · exact h i j hl hj k hk
  · intro hk'
    exact h j i hl hi k hk' hk
theorem own_ne_type {w : World} {b1 b2 s1 s2 n1 n2 : Nat} {e1 e2 : TypeId} {v1 v2 : Value} {x1 x2 : List Value} (h1 : w.ownsRow b1 e1 s1 v1 n1 x1) (h2 : w.ownsRow b2 e2 s2 v2 n2 x2) (he : e1 ≠ e2) : ∀ k, v1.ownBlock = some k → v2.ownBlock ≠ some k := by
  intro k hk hk'
  rcases h1.2 with ⟨rfl, _⟩ | ⟨g, cap, cur, rfl, _, hg, _⟩
  · cases hk
  · rcases h2.2 with ⟨rfl, _⟩ | ⟨g', cap', cur', rfl, _, hg', _⟩
    · cases hk'
    · simp only [Value.ownBlock, Option.some.injEq] at hk hk'
      subst hk
      subst hk'
      rw [hg] at hg'
      simp only [Option.some.injEq, Obj.cells.injEq] at hg'
      exact he hg'.2.1
def loOf (v : Value) : Nat := match v.ownBlock with | some g => g | none => 0
def hiOf (v : Value) : Nat := match v.ownBlock with | some g => g + 1 | none => 0
theorem in_self (v : Value) : ∀ k, v.ownBlock = some k → loOf v ≤ k ∧ k < hiOf v := by
  intro k hk
  unfold loOf hiOf
  rw [hk]
  exact ⟨Nat.le_refl _, Nat.lt_succ_self _⟩
theorem out_of_ne {v u : Value} (h : ∀ k, v.ownBlock = some k → u.ownBlock ≠ some k) : Out (loOf v) (hiOf v) u := by
  intro k hk
  unfold loOf hiOf
  cases hv : v.ownBlock with
  | none => exact .inr (Nat.zero_le _)
  | some g =>
    have : g ≠ k := fun e => h g hv (by rw [e]; exact hk)
    simp only
    omega
theorem zone_in {v : Value} {lo hi : Nat} {w w' : World} (h : Zone (loOf v) (hiOf v) w w') (hin : ∀ k, v.ownBlock = some k → lo ≤ k ∧ k < hi) : Zone lo hi w w' := by
  unfold loOf hiOf at h
  cases hv : v.ownBlock with
  | none =>
    simp only [hv] at h
    exact ⟨h.os, h.tape, h.output, h.size, fun k hk _ => h.block k hk (.inr (Nat.zero_le _))⟩
  | some g =>
    simp only [hv] at h
    have := hin g hv
    exact h.mono (by omega) (by omega)
end Go.Proofs.YtlboekimnhgfdaaGreat.Rw
