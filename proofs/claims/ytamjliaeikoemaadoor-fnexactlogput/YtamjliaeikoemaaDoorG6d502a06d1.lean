/- My own texts of one claim, laid together by program: TabOk, RecOk, GReg, OwnNew. -/
import Derived.Test.YtamjliaeikoemaaDoorGf16a2087dc
import Derived.Test.YtamjliaeikoemaaDoorG76042ef715
import Derived.Test.YtamjliaeikoemaaDoorGcb4260f372
import Derived.Test.YtamjliaeikoemaaDoorG32791d0450
import Derived.Deep.RegionHeld3
import Derived.Test.YtamjliaeikoemaaDoorGdc7c71843d
/- TableOk of the program, at every table. -/
namespace Go.Proofs.YtamjliaeikoemaaDoor.Row
open Go.RowKit Rw
set_option linter.unusedVariables false
attribute [local go_sem ↓] Go.wp_at_zero Go.wp_at_succ
theorem floorB_yes {F : Int} (h0 : 0 ≤ F) (h1 : F ≤ 9999) (h2 : F.tmod 100 = 0) : floorB F = true := by unfold floorB; rw [decide_eq_true h0, decide_eq_true h1, decide_eq_true h2]; rfl
theorem floorB_no {F : Int} (h : ¬ (0 ≤ F ∧ F ≤ 9999 ∧ F.tmod 100 = 0)) : floorB F = false := by
  cases hf : floorB F
  · rfl
  · unfold floorB at hf
    simp only [Bool.and_eq_true, decide_eq_true_eq] at hf
    exact absurd ⟨hf.1.1, hf.1.2, hf.2⟩ h
theorem floor_any (F : Int) (w : World) : Calls Tryd.prog 40 #[.int .i64 F] w fun e w' => e = .returned (.bool (floorB F)) ∧ w' = w := by
  by_cases h0 : 0 ≤ F
  · by_cases h1 : F ≤ 9999
    · obtain ⟨R, hR⟩ : ∃ R, F.tmod 100 = R := ⟨_, rfl⟩
      by_cases h2 : R = 0
      · subst h2
        have HR := hide (floorB_yes h0 h1 hR)
        go_enter Tryd.func40, Tryd.ntmps40
        go_wp2
        go_ret
        exact ⟨ret_bool (unhide HR).symm, rfl⟩
      · have HR := hide (floorB_no (F := F) (fun h => h2 (hR.symm.trans h.2.2)))
        have h2f : (R == 0) = false := by simpa using h2
        go_enter Tryd.func40, Tryd.ntmps40
        go_wp2
        go_ret
        exact ⟨ret_bool (unhide HR).symm, rfl⟩
    · have HR := hide (floorB_no (F := F) (fun h => h1 h.2.1))
      go_enter Tryd.func40, Tryd.ntmps40
      go_wp2
      go_ret
      exact ⟨ret_bool (unhide HR).symm, rfl⟩
  · have HR := hide (floorB_no (F := F) (fun h => h0 h.1))
    go_enter Tryd.func40, Tryd.ntmps40
    go_wp2
    go_ret
    exact ⟨ret_bool (unhide HR).symm, rfl⟩
theorem tableB_no {zs : List E} {H F : Int} (h : ¬ (-1 ≤ H ∧ H ≤ 9999 ∧ floorB F = true ∧ (F = 0 ∨ F ≤ H) ∧ ok zs = true ∧ within zs F (H + 1) = true)) : tableB zs H F = false := by
  cases hf : tableB zs H F
  · rfl
  · unfold tableB at hf
    simp only [Bool.and_eq_true, Bool.or_eq_true, decide_eq_true_eq] at hf
    obtain ⟨⟨⟨⟨⟨a, b⟩, c⟩, d⟩, e⟩, g⟩ := hf
    exact absurd ⟨a, b, c, d, e, g⟩ h
theorem tableB_yes {zs : List E} {H F : Int} (h1 : -1 ≤ H) (h2 : H ≤ 9999) (h3 : floorB F = true) (h4 : F = 0 ∨ F ≤ H) (h5 : ok zs = true) (h6 : within zs F (H + 1) = true) : tableB zs H F = true := by
  unfold tableB
  rw [decide_eq_true h1, decide_eq_true h2, h3, h5, h6]
  rcases h4 with h | h <;> simp [h]
end Go.Proofs.YtamjliaeikoemaaDoor.Row

/- RecOk, of the program and of the model, at every record. -/
namespace Go.Proofs.YtamjliaeikoemaaDoor.Rec
open Go.RowKit Rw
set_option linter.unusedVariables false
attribute [local go_sem ↓] Go.wp_at_zero Go.wp_at_succ
theorem dec_beq (T : Int) : decide (T = 0) = (T == 0) := by rw [Bool.eq_iff_iff]; simp
set_option maxRecDepth 100000 in
set_option maxHeartbeats 8000000 in
theorem impl_ok {w : World} {vb vl : Value} {zb : List Ent.E} {zl : List Mat.E} (K F T : Int) (hb : Ent.Is w vb zb) (hl : Mat.Is w vl zl) (gb : ∀ y ∈ zb, Ent.good y) (gl : ∀ y ∈ zl, Mat.good y) (ll : zl.length ≤ maxLen) :
    Calls Tryd.prog 18 #[.agg #[.int .i64 K, vb, vl, .int .i64 F, .int .i64 T]] w fun e w' => e = .returned (.bool (recB (K, zb, zl, F, T))) ∧ Below w.heap.size w w' := by
  have CB := hide (fun W (hB : Below w.heap.size w W) => Ent.impl_batch (hb.below hB) gb)
  have CM := hide (fun W (hB : Below w.heap.size w W) => Mat.impl_ok (hl.below hB) gl ll)
  have FB : ∃ a q, vb = .slice a zb.length q := by obtain ⟨cs, -, hL, -⟩ := hb; obtain ⟨a, q, e, -⟩ := hL.form; exact ⟨a, q, e⟩
  have FL : ∃ a q, vl = .slice a zl.length q := by obtain ⟨a, q, e, -⟩ := hl.form; exact ⟨a, q, e⟩
  obtain ⟨a1, q1, rfl⟩ := FB
  obtain ⟨a2, q2, rfl⟩ := FL
  clear hb hl gb gl ll
  obtain ⟨l1, hl1⟩ : ∃ l, l = zb.length := ⟨_, rfl⟩
  obtain ⟨l2, hl2⟩ : ∃ l, l = zl.length := ⟨_, rfl⟩
  have R1 := hide (fun h : K = 1 => rec_add (x := (K, zb, zl, F, T)) h)
  have R2 := hide (fun h : K = 2 => rec_drop (x := (K, zb, zl, F, T)) h)
  have R3 := hide (fun h : K = 3 => rec_keep (x := (K, zb, zl, F, T)) h)
  have R0 := hide (fun h1 h2 h3 => rec_none (x := (K, zb, zl, F, T)) h1 h2 h3)
  simp only [← hl1, ← hl2] at CB CM R1 R2 R3 R0 ⊢
  clear hl1 hl2
  obtain ⟨rb, hrb⟩ : ∃ rb, rb = recB (K, zb, zl, F, T) := ⟨_, rfl⟩
  obtain ⟨bb, hbb⟩ : ∃ bb, bb = Ent.batchB zb := ⟨_, rfl⟩
  obtain ⟨mb, hmb⟩ : ∃ mb, mb = Mat.ok zl := ⟨_, rfl⟩
  rw [← hrb] at R0 R1 R2 R3 ⊢
  rw [← hbb] at CB R1
  rw [← hmb] at CM R2
  clear hrb hbb hmb
  obtain ⟨wa, hwa⟩ : ∃ wa, wa = w.alloc (.cells #[.int .i64 K, .slice a1 l1 q1, .slice a2 l2 q2, .int .i64 F, .int .i64 T] 31) := ⟨_, rfl⟩
  have B : Below w.heap.size w wa := by rw [hwa]; exact (Below.refl _ _).alloc (Nat.le_refl _) _
  have za : w.heap.size < wa.heap.size := by rw [hwa]; simp
  have A1 : wa.cell? ⟨w.heap.size, 1, none⟩ = some (.slice a1 l1 q1) := by rw [hwa]; simp [go_sem]
  have A2 : wa.cell? ⟨w.heap.size, 2, none⟩ = some (.slice a2 l2 q2) := by rw [hwa]; simp [go_sem]
  have A3 : wa.cell? ⟨w.heap.size, 3, none⟩ = some (.int .i64 F) := by rw [hwa]; simp [go_sem]
  have A4 : wa.cell? ⟨w.heap.size, 4, none⟩ = some (.int .i64 T) := by rw [hwa]; simp [go_sem]
  by_cases k1 : K = 1
  · subst k1
    have HR0 := unhide R1 rfl
    clear R0 R1 R2 R3 CM
    cases bb
    · have HR := hide (show rb = false by rw [HR0]; rfl)
      clear HR0
      go_enter Tryd.func18, Tryd.ntmps18
      go_wp2_with fail
      rw [← hwa]
      clear hwa
      refine (unhide CB _ B).mono ?_
      rintro e x1 ⟨rfl, y1⟩
      have A1 := (y1.cell (p := ⟨w.heap.size, 1, none⟩) (by show w.heap.size < _; omega)).trans A1
      have A2 := (y1.cell (p := ⟨w.heap.size, 2, none⟩) (by show w.heap.size < _; omega)).trans A2
      have A3 := (y1.cell (p := ⟨w.heap.size, 3, none⟩) (by show w.heap.size < _; omega)).trans A3
      have A4 := (y1.cell (p := ⟨w.heap.size, 4, none⟩) (by show w.heap.size < _; omega)).trans A4
      have B := B.trans (y1.mono B.size)
      clear y1
      go_wp2_with fail
      go_ret
      exact ⟨ret_bool (unhide HR).symm, B⟩
    · have HR0 := (show rb = (decide (l2 = 0) && decide (F = 0) && decide (T = 0)) from HR0)
      by_cases p : l2 = 0
      · subst p
        by_cases q : F = 0
        · subst q
          have HR := hide (show rb = (T == 0) by rw [HR0]; simp [dec_beq])
          clear HR0
          go_enter Tryd.func18, Tryd.ntmps18
          go_wp2_with fail
          rw [← hwa]
          clear hwa
          refine (unhide CB _ B).mono ?_
          rintro e x1 ⟨rfl, y1⟩
          have A1 := (y1.cell (p := ⟨w.heap.size, 1, none⟩) (by show w.heap.size < _; omega)).trans A1
          have A2 := (y1.cell (p := ⟨w.heap.size, 2, none⟩) (by show w.heap.size < _; omega)).trans A2
          have A3 := (y1.cell (p := ⟨w.heap.size, 3, none⟩) (by show w.heap.size < _; omega)).trans A3
          have A4 := (y1.cell (p := ⟨w.heap.size, 4, none⟩) (by show w.heap.size < _; omega)).trans A4
          have B := B.trans (y1.mono B.size)
          clear y1
          go_wp2_with fail
          go_ret
          exact ⟨ret_bool (unhide HR).symm, B⟩
        · have HR := hide (show rb = false by rw [HR0, decide_eq_false q]; simp)
          have qf : (F == 0) = false := by simpa using q
          clear HR0
          go_enter Tryd.func18, Tryd.ntmps18
          go_wp2_with fail
          rw [← hwa]
          clear hwa
          refine (unhide CB _ B).mono ?_
          rintro e x1 ⟨rfl, y1⟩
          have A1 := (y1.cell (p := ⟨w.heap.size, 1, none⟩) (by show w.heap.size < _; omega)).trans A1
          have A2 := (y1.cell (p := ⟨w.heap.size, 2, none⟩) (by show w.heap.size < _; omega)).trans A2
          have A3 := (y1.cell (p := ⟨w.heap.size, 3, none⟩) (by show w.heap.size < _; omega)).trans A3
          have A4 := (y1.cell (p := ⟨w.heap.size, 4, none⟩) (by show w.heap.size < _; omega)).trans A4
          have B := B.trans (y1.mono B.size)
          clear y1
          go_wp2_with fail
          go_ret
          exact ⟨ret_bool (unhide HR).symm, B⟩
      · have HR := hide (show rb = false by rw [HR0, decide_eq_false p]; simp)
        have pf : ((l2 : Int) == 0) = false := by simp; omega
        clear HR0
        go_enter Tryd.func18, Tryd.ntmps18
        go_wp2_with fail
        rw [← hwa]
        clear hwa
        refine (unhide CB _ B).mono ?_
        rintro e x1 ⟨rfl, y1⟩
        have A1 := (y1.cell (p := ⟨w.heap.size, 1, none⟩) (by show w.heap.size < _; omega)).trans A1
        have A2 := (y1.cell (p := ⟨w.heap.size, 2, none⟩) (by show w.heap.size < _; omega)).trans A2
        have A3 := (y1.cell (p := ⟨w.heap.size, 3, none⟩) (by show w.heap.size < _; omega)).trans A3
        have A4 := (y1.cell (p := ⟨w.heap.size, 4, none⟩) (by show w.heap.size < _; omega)).trans A4
        have B := B.trans (y1.mono B.size)
        clear y1
        go_wp2_with fail
        go_ret
        exact ⟨ret_bool (unhide HR).symm, B⟩
  by_cases k2 : K = 2
  · subst k2
    have HR0 := unhide R2 rfl
    clear R0 R1 R2 R3 CB k1
    by_cases p : l1 = 0
    · subst p
      have HR0 := (show rb = (mb && timesB F T) from by simpa using HR0)
      cases mb
      · have HR := hide (show rb = false by rw [HR0]; rfl)
        clear HR0
        go_enter Tryd.func18, Tryd.ntmps18
        go_wp2_with fail
        rw [← hwa]
        clear hwa
        refine (unhide CM _ B).mono ?_
        rintro e x1 ⟨rfl, y1⟩
        have A1 := (y1.cell (p := ⟨w.heap.size, 1, none⟩) (by show w.heap.size < _; omega)).trans A1
        have A2 := (y1.cell (p := ⟨w.heap.size, 2, none⟩) (by show w.heap.size < _; omega)).trans A2
        have A3 := (y1.cell (p := ⟨w.heap.size, 3, none⟩) (by show w.heap.size < _; omega)).trans A3
        have A4 := (y1.cell (p := ⟨w.heap.size, 4, none⟩) (by show w.heap.size < _; omega)).trans A4
        have B := B.trans (y1.mono B.size)
        clear y1
        go_wp2_with fail
        go_ret
        exact ⟨ret_bool (unhide HR).symm, B⟩
      · have HR := hide (show rb = timesB F T by rw [HR0]; rfl)
        clear HR0
        go_enter Tryd.func18, Tryd.ntmps18
        go_wp2_with fail
        rw [← hwa]
        clear hwa
        refine (unhide CM _ B).mono ?_
        rintro e x1 ⟨rfl, y1⟩
        have A1 := (y1.cell (p := ⟨w.heap.size, 1, none⟩) (by show w.heap.size < _; omega)).trans A1
        have A2 := (y1.cell (p := ⟨w.heap.size, 2, none⟩) (by show w.heap.size < _; omega)).trans A2
        have A3 := (y1.cell (p := ⟨w.heap.size, 3, none⟩) (by show w.heap.size < _; omega)).trans A3
        have A4 := (y1.cell (p := ⟨w.heap.size, 4, none⟩) (by show w.heap.size < _; omega)).trans A4
        have B := B.trans (y1.mono B.size)
        clear y1
        go_wp2_with fail
        refine (impl_times F T _).mono ?_
        rintro e x2 ⟨rfl, rfl⟩
        go_wp2_with fail
        go_ret
        exact ⟨ret_bool (unhide HR).symm, B⟩
    · have HR := hide (show rb = false by rw [HR0, decide_eq_false p]; simp)
      have pf : ((l1 : Int) == 0) = false := by simp; omega
      clear HR0
      go_enter Tryd.func18, Tryd.ntmps18
      go_wp2_with fail
      rw [← hwa]
      clear hwa
      go_ret
      exact ⟨ret_bool (unhide HR).symm, B⟩
  by_cases k3 : K = 3
  · subst k3
    have HR0 := unhide R3 rfl
    clear R0 R1 R2 R3 CB CM k1 k2
    by_cases p : l1 = 0
    · subst p
      by_cases q : l2 = 0
      · subst q
        have HR0 := (show rb = (Row.floorB F && decide (T = 0)) from by simpa using HR0)
        cases hf : Row.floorB F
        · have HR := hide (show rb = false by rw [HR0, hf]; rfl)
          have CF := hide (Row.floor_any F wa)
          rw [hf] at CF
          clear HR0 hf
          go_enter Tryd.func18, Tryd.ntmps18
          go_wp2_with fail
          rw [← hwa]
          clear hwa
          refine (unhide CF).mono ?_
          rintro e x1 ⟨rfl, rfl⟩
          go_wp2_with fail
          go_ret
          exact ⟨ret_bool (unhide HR).symm, B⟩
        · have HR := hide (show rb = (T == 0) by rw [HR0, hf]; simp [dec_beq])
          have CF := hide (Row.floor_any F wa)
          rw [hf] at CF
          clear HR0 hf
          go_enter Tryd.func18, Tryd.ntmps18
          go_wp2_with fail
          rw [← hwa]
          clear hwa
          refine (unhide CF).mono ?_
          rintro e x1 ⟨rfl, rfl⟩
          go_wp2_with fail
          go_ret
          exact ⟨ret_bool (unhide HR).symm, B⟩
      · have HR := hide (show rb = false by rw [HR0, decide_eq_false q]; simp)
        have qf : ((l2 : Int) == 0) = false := by simp; omega
        clear HR0
        go_enter Tryd.func18, Tryd.ntmps18
        go_wp2_with fail
        rw [← hwa]
        clear hwa
        go_ret
        exact ⟨ret_bool (unhide HR).symm, B⟩
    · have HR := hide (show rb = false by rw [HR0, decide_eq_false p]; simp)
      have pf : ((l1 : Int) == 0) = false := by simp; omega
      clear HR0
      go_enter Tryd.func18, Tryd.ntmps18
      go_wp2_with fail
      rw [← hwa]
      clear hwa
      go_ret
      exact ⟨ret_bool (unhide HR).symm, B⟩
  have HR := hide (unhide R0 k1 k2 k3)
  have g1 : (K == 1) = false := by simpa using k1
  have g2 : (K == 2) = false := by simpa using k2
  have g3 : (K == 3) = false := by simpa using k3
  clear R0 R1 R2 R3 CB CM
  go_enter Tryd.func18, Tryd.ntmps18
  go_wp2_with fail
  rw [← hwa]
  clear hwa
  go_ret
  exact ⟨ret_bool (unhide HR).symm, B⟩
set_option maxRecDepth 100000 in
set_option maxHeartbeats 8000000 in
theorem spec_ok {w : World} {vb vl : Value} {zb : List Ent.E} {zl : List Mat.E} (K F T : Int) (hb : Ent.Is w vb zb) (hl : Mat.Is w vl zl) (gb : ∀ y ∈ zb, Ent.good y) (gl : ∀ y ∈ zl, Mat.good y) (ll : zl.length ≤ maxLen) :
    Calls Tryd.prog 14 #[.agg #[.int .i64 K, vb, vl, .int .i64 F, .int .i64 T]] w fun e w' => e = .returned (.bool (recB (K, zb, zl, F, T))) ∧ Below w.heap.size w w' := by
  have CB := hide (fun W (hB : Below w.heap.size w W) => Ent.spec_batch (hb.below hB) gb)
  have CM := hide (fun W (hB : Below w.heap.size w W) => Mat.spec_ok (hl.below hB) gl ll)
  have FB : ∃ a q, vb = .slice a zb.length q := by obtain ⟨cs, -, hL, -⟩ := hb; obtain ⟨a, q, e, -⟩ := hL.form; exact ⟨a, q, e⟩
  have FL : ∃ a q, vl = .slice a zl.length q := by obtain ⟨a, q, e, -⟩ := hl.form; exact ⟨a, q, e⟩
  obtain ⟨a1, q1, rfl⟩ := FB
  obtain ⟨a2, q2, rfl⟩ := FL
  clear hb hl gb gl ll
  obtain ⟨l1, hl1⟩ : ∃ l, l = zb.length := ⟨_, rfl⟩
  obtain ⟨l2, hl2⟩ : ∃ l, l = zl.length := ⟨_, rfl⟩
  have R1 := hide (fun h : K = 1 => rec_add (x := (K, zb, zl, F, T)) h)
  have R2 := hide (fun h : K = 2 => rec_drop (x := (K, zb, zl, F, T)) h)
  have R3 := hide (fun h : K = 3 => rec_keep (x := (K, zb, zl, F, T)) h)
  have R0 := hide (fun h1 h2 h3 => rec_none (x := (K, zb, zl, F, T)) h1 h2 h3)
  simp only [← hl1, ← hl2] at CB CM R1 R2 R3 R0 ⊢
  clear hl1 hl2
  obtain ⟨rb, hrb⟩ : ∃ rb, rb = recB (K, zb, zl, F, T) := ⟨_, rfl⟩
  obtain ⟨bb, hbb⟩ : ∃ bb, bb = Ent.batchB zb := ⟨_, rfl⟩
  obtain ⟨mb, hmb⟩ : ∃ mb, mb = Mat.ok zl := ⟨_, rfl⟩
  rw [← hrb] at R0 R1 R2 R3 ⊢
  rw [← hbb] at CB R1
  rw [← hmb] at CM R2
  clear hrb hbb hmb
  obtain ⟨wa, hwa⟩ : ∃ wa, wa = w.alloc (.cells #[.int .i64 K, .slice a1 l1 q1, .slice a2 l2 q2, .int .i64 F, .int .i64 T] 31) := ⟨_, rfl⟩
  have B : Below w.heap.size w wa := by rw [hwa]; exact (Below.refl _ _).alloc (Nat.le_refl _) _
  have za : w.heap.size < wa.heap.size := by rw [hwa]; simp
  have A1 : wa.cell? ⟨w.heap.size, 1, none⟩ = some (.slice a1 l1 q1) := by rw [hwa]; simp [go_sem]
  have A2 : wa.cell? ⟨w.heap.size, 2, none⟩ = some (.slice a2 l2 q2) := by rw [hwa]; simp [go_sem]
  have A3 : wa.cell? ⟨w.heap.size, 3, none⟩ = some (.int .i64 F) := by rw [hwa]; simp [go_sem]
  have A4 : wa.cell? ⟨w.heap.size, 4, none⟩ = some (.int .i64 T) := by rw [hwa]; simp [go_sem]
  by_cases k1 : K = 1
  · subst k1
    have HR0 := unhide R1 rfl
    clear R0 R1 R2 R3 CM
    cases bb
    · have HR := hide (show rb = false by rw [HR0]; rfl)
      clear HR0
      go_enter Tryd.func14, Tryd.ntmps14
      go_wp2_with fail
      rw [← hwa]
      clear hwa
      refine (unhide CB _ B).mono ?_
      rintro e x1 ⟨rfl, y1⟩
      have A1 := (y1.cell (p := ⟨w.heap.size, 1, none⟩) (by show w.heap.size < _; omega)).trans A1
      have A2 := (y1.cell (p := ⟨w.heap.size, 2, none⟩) (by show w.heap.size < _; omega)).trans A2
      have A3 := (y1.cell (p := ⟨w.heap.size, 3, none⟩) (by show w.heap.size < _; omega)).trans A3
      have A4 := (y1.cell (p := ⟨w.heap.size, 4, none⟩) (by show w.heap.size < _; omega)).trans A4
      have B := B.trans (y1.mono B.size)
      clear y1
      go_wp2_with fail
      go_ret
      exact ⟨ret_bool (unhide HR).symm, B⟩
    · have HR0 := (show rb = (decide (l2 = 0) && decide (F = 0) && decide (T = 0)) from HR0)
      by_cases p : l2 = 0
      · subst p
        by_cases q : F = 0
        · subst q
          have HR := hide (show rb = (T == 0) by rw [HR0]; simp [dec_beq])
          clear HR0
          go_enter Tryd.func14, Tryd.ntmps14
          go_wp2_with fail
          rw [← hwa]
          clear hwa
          refine (unhide CB _ B).mono ?_
          rintro e x1 ⟨rfl, y1⟩
          have A1 := (y1.cell (p := ⟨w.heap.size, 1, none⟩) (by show w.heap.size < _; omega)).trans A1
          have A2 := (y1.cell (p := ⟨w.heap.size, 2, none⟩) (by show w.heap.size < _; omega)).trans A2
          have A3 := (y1.cell (p := ⟨w.heap.size, 3, none⟩) (by show w.heap.size < _; omega)).trans A3
          have A4 := (y1.cell (p := ⟨w.heap.size, 4, none⟩) (by show w.heap.size < _; omega)).trans A4
          have B := B.trans (y1.mono B.size)
          clear y1
          go_wp2_with fail
          go_ret
          exact ⟨ret_bool (unhide HR).symm, B⟩
        · have HR := hide (show rb = false by rw [HR0, decide_eq_false q]; simp)
          have qf : (F == 0) = false := by simpa using q
          clear HR0
          go_enter Tryd.func14, Tryd.ntmps14
          go_wp2_with fail
          rw [← hwa]
          clear hwa
          refine (unhide CB _ B).mono ?_
          rintro e x1 ⟨rfl, y1⟩
          have A1 := (y1.cell (p := ⟨w.heap.size, 1, none⟩) (by show w.heap.size < _; omega)).trans A1
          have A2 := (y1.cell (p := ⟨w.heap.size, 2, none⟩) (by show w.heap.size < _; omega)).trans A2
          have A3 := (y1.cell (p := ⟨w.heap.size, 3, none⟩) (by show w.heap.size < _; omega)).trans A3
          have A4 := (y1.cell (p := ⟨w.heap.size, 4, none⟩) (by show w.heap.size < _; omega)).trans A4
          have B := B.trans (y1.mono B.size)
          clear y1
          go_wp2_with fail
          go_ret
          exact ⟨ret_bool (unhide HR).symm, B⟩
      · have HR := hide (show rb = false by rw [HR0, decide_eq_false p]; simp)
        have pf : ((l2 : Int) == 0) = false := by simp; omega
        clear HR0
        go_enter Tryd.func14, Tryd.ntmps14
        go_wp2_with fail
        rw [← hwa]
        clear hwa
        refine (unhide CB _ B).mono ?_
        rintro e x1 ⟨rfl, y1⟩
        have A1 := (y1.cell (p := ⟨w.heap.size, 1, none⟩) (by show w.heap.size < _; omega)).trans A1
        have A2 := (y1.cell (p := ⟨w.heap.size, 2, none⟩) (by show w.heap.size < _; omega)).trans A2
        have A3 := (y1.cell (p := ⟨w.heap.size, 3, none⟩) (by show w.heap.size < _; omega)).trans A3
        have A4 := (y1.cell (p := ⟨w.heap.size, 4, none⟩) (by show w.heap.size < _; omega)).trans A4
        have B := B.trans (y1.mono B.size)
        clear y1
        go_wp2_with fail
        go_ret
        exact ⟨ret_bool (unhide HR).symm, B⟩
  by_cases k2 : K = 2
  · subst k2
    have HR0 := unhide R2 rfl
    clear R0 R1 R2 R3 CB k1
    by_cases p : l1 = 0
    · subst p
      have HR0 := (show rb = (mb && timesB F T) from by simpa using HR0)
      cases mb
      · have HR := hide (show rb = false by rw [HR0]; rfl)
        clear HR0
        go_enter Tryd.func14, Tryd.ntmps14
        go_wp2_with fail
        rw [← hwa]
        clear hwa
        refine (unhide CM _ B).mono ?_
        rintro e x1 ⟨rfl, y1⟩
        have A1 := (y1.cell (p := ⟨w.heap.size, 1, none⟩) (by show w.heap.size < _; omega)).trans A1
        have A2 := (y1.cell (p := ⟨w.heap.size, 2, none⟩) (by show w.heap.size < _; omega)).trans A2
        have A3 := (y1.cell (p := ⟨w.heap.size, 3, none⟩) (by show w.heap.size < _; omega)).trans A3
        have A4 := (y1.cell (p := ⟨w.heap.size, 4, none⟩) (by show w.heap.size < _; omega)).trans A4
        have B := B.trans (y1.mono B.size)
        clear y1
        go_wp2_with fail
        go_ret
        exact ⟨ret_bool (unhide HR).symm, B⟩
      · have HR := hide (show rb = timesB F T by rw [HR0]; rfl)
        clear HR0
        go_enter Tryd.func14, Tryd.ntmps14
        go_wp2_with fail
        rw [← hwa]
        clear hwa
        refine (unhide CM _ B).mono ?_
        rintro e x1 ⟨rfl, y1⟩
        have A1 := (y1.cell (p := ⟨w.heap.size, 1, none⟩) (by show w.heap.size < _; omega)).trans A1
        have A2 := (y1.cell (p := ⟨w.heap.size, 2, none⟩) (by show w.heap.size < _; omega)).trans A2
        have A3 := (y1.cell (p := ⟨w.heap.size, 3, none⟩) (by show w.heap.size < _; omega)).trans A3
        have A4 := (y1.cell (p := ⟨w.heap.size, 4, none⟩) (by show w.heap.size < _; omega)).trans A4
        have B := B.trans (y1.mono B.size)
        clear y1
        go_wp2_with fail
        refine (spec_times F T _).mono ?_
        rintro e x2 ⟨rfl, rfl⟩
        go_wp2_with fail
        go_ret
        exact ⟨ret_bool (unhide HR).symm, B⟩
    · have HR := hide (show rb = false by rw [HR0, decide_eq_false p]; simp)
      have pf : ((l1 : Int) == 0) = false := by simp; omega
      clear HR0
      go_enter Tryd.func14, Tryd.ntmps14
      go_wp2_with fail
      rw [← hwa]
      clear hwa
      go_ret
      exact ⟨ret_bool (unhide HR).symm, B⟩
  by_cases k3 : K = 3
  · subst k3
    have HR0 := unhide R3 rfl
    clear R0 R1 R2 R3 CB CM k1 k2
    by_cases p : l1 = 0
    · subst p
      by_cases q : l2 = 0
      · subst q
        have HR0 := (show rb = (Row.floorB F && decide (T = 0)) from by simpa using HR0)
        cases hi : Zig.inB F 0 9999
        · have HR := hide (show rb = false by rw [HR0, Row.floorB_no (fun h => by rw [Samp.inB_true h.1 h.2.1] at hi; exact absurd hi (by simp))]; rfl)
          have CF := hide (Samp.in_is F 0 9999 _ wa hi)
          clear HR0 hi
          go_enter Tryd.func14, Tryd.ntmps14
          go_wp2_with fail
          rw [← hwa]
          clear hwa
          refine (unhide CF).mono ?_
          rintro e x1 ⟨rfl, rfl⟩
          go_wp2_with fail
          go_ret
          exact ⟨ret_bool (unhide HR).symm, B⟩
        · have hi2 : 0 ≤ F ∧ F ≤ 9999 := by unfold Zig.inB at hi; simpa using hi
          have CF := hide (Samp.in_is F 0 9999 _ wa hi)
          obtain ⟨R, hR⟩ : ∃ R, F.tmod 100 = R := ⟨_, rfl⟩
          by_cases h2 : R = 0
          · subst h2
            have HR := hide (show rb = (T == 0) by rw [HR0, Row.floorB_yes hi2.1 hi2.2 hR]; simp [dec_beq])
            clear HR0 hi
            go_enter Tryd.func14, Tryd.ntmps14
            go_wp2_with fail
            rw [← hwa]
            clear hwa
            refine (unhide CF).mono ?_
            rintro e x1 ⟨rfl, rfl⟩
            go_wp2_with fail
            go_ret
            exact ⟨ret_bool (unhide HR).symm, B⟩
          · have HR := hide (show rb = false by rw [HR0, Row.floorB_no (fun h => h2 (hR.symm.trans h.2.2))]; rfl)
            have h2f : (R == 0) = false := by simpa using h2
            clear HR0 hi
            go_enter Tryd.func14, Tryd.ntmps14
            go_wp2_with fail
            rw [← hwa]
            clear hwa
            refine (unhide CF).mono ?_
            rintro e x1 ⟨rfl, rfl⟩
            go_wp2_with fail
            go_ret
            exact ⟨ret_bool (unhide HR).symm, B⟩
      · have HR := hide (show rb = false by rw [HR0, decide_eq_false q]; simp)
        have qf : ((l2 : Int) == 0) = false := by simp; omega
        clear HR0
        go_enter Tryd.func14, Tryd.ntmps14
        go_wp2_with fail
        rw [← hwa]
        clear hwa
        go_ret
        exact ⟨ret_bool (unhide HR).symm, B⟩
    · have HR := hide (show rb = false by rw [HR0, decide_eq_false p]; simp)
      have pf : ((l1 : Int) == 0) = false := by simp; omega
      clear HR0
      go_enter Tryd.func14, Tryd.ntmps14
      go_wp2_with fail
      rw [← hwa]
      clear hwa
      go_ret
      exact ⟨ret_bool (unhide HR).symm, B⟩
  have HR := hide (unhide R0 k1 k2 k3)
  have g1 : (K == 1) = false := by simpa using k1
  have g2 : (K == 2) = false := by simpa using k2
  have g3 : (K == 3) = false := by simpa using k3
  clear R0 R1 R2 R3 CB CM
  go_enter Tryd.func14, Tryd.ntmps14
  go_wp2_with fail
  rw [← hwa]
  clear hwa
  go_ret
  exact ⟨ret_bool (unhide HR).symm, B⟩
end Go.Proofs.YtamjliaeikoemaaDoor.Rec

/- A region that draws its order, walked operation by operation: what is wanted and yields, what is not wanted, what is carried out alone. No condition. -/
namespace Go.Proofs.YtamjliaeikoemaaDoor.Grl
open Go.RowKit
section
variable {P : Program} {l : List Oper} {Q : Exit → Act → World → Prop} {md : Region.Mode} {S : World → Prop}
theorem yes (i : Nat) {oi : Oper} {v : Value} {fuel : Nat} {listed : Array Bool} {a : Act} {w : World} (hi : l[i]? = some oi)
    (hs : Region.noSelect l.toArray = true) (hf : Region.free md l.toArray listed i = true) (hr : (Region.ready md l.toArray listed).contains i = true)
    (hQ : ∀ c a w, Q (.panic c) (a.put oi.dst v) w → Q (.panic c) a w) (hw : Region.wanted oi (yielded l.toArray a.tmps) = true) (hy : ∀ w, S w → (execOp a.eval oi).run P w = .ok (.value v) w) (hS : S w)
    (h : wpAnyH P md l.toArray Q S fuel (listed.setIfInBounds i true) (a.put oi.dst v) w) : wpAnyH P md l.toArray Q S (fuel + 1) listed a w :=
  wpAnyH_take (by simpa using hi) hs hf hr hQ (.inl ⟨hw, hy⟩) hS h
theorem no (i : Nat) {oi : Oper} {fuel : Nat} {listed : Array Bool} {a : Act} {w : World} (hi : l[i]? = some oi)
    (hs : Region.noSelect l.toArray = true) (hf : Region.free md l.toArray listed i = true) (hr : (Region.ready md l.toArray listed).contains i = true)
    (hQ : ∀ c a w, Q (.panic c) (a.put oi.dst undef) w → Q (.panic c) a w) (hw : Region.wanted oi (yielded l.toArray a.tmps) = false) (hS : S w)
    (h : wpAnyH P md l.toArray Q S fuel (listed.setIfInBounds i true) (a.put oi.dst undef) w) : wpAnyH P md l.toArray Q S (fuel + 1) listed a w :=
  wpAnyH_take (by simpa using hi) hs hf hr hQ (.inr ⟨hw, rfl⟩) hS h
theorem one (i : Nat) {o : Oper} {fuel : Nat} {listed : Array Bool} {a : Act} {w : World} (hi : l[i]? = some o) (hr : Region.ready md l.toArray listed = [i])
    (h : ∀ K' : Act → World → Prop, Shut (∀ a w, S w → (S w → wpAnyH P md l.toArray Q S fuel (listed.setIfInBounds i true) a w) → K' a w) → if Region.wanted o (yielded l.toArray a.tmps) = true then Oper.wp P o a w K' Q else K' (a.put o.dst undef) w) :
    wpAnyH P md l.toArray Q S (fuel + 1) listed a w :=
  wpAnyH_ready hr (by simp) (AllReadyH.cons (by simpa using hi) h AllReadyH.nil)
theorem two (i j : Nat) {oi oj : Oper} {fuel : Nat} {listed : Array Bool} {a : Act} {w : World} (hi : l[i]? = some oi) (hj : l[j]? = some oj) (hr : Region.ready md l.toArray listed = [i, j])
    (h1 : ∀ K' : Act → World → Prop, Shut (∀ a w, S w → (S w → wpAnyH P md l.toArray Q S fuel (listed.setIfInBounds i true) a w) → K' a w) → if Region.wanted oi (yielded l.toArray a.tmps) = true then Oper.wp P oi a w K' Q else K' (a.put oi.dst undef) w)
    (h2 : ∀ K' : Act → World → Prop, Shut (∀ a w, S w → (S w → wpAnyH P md l.toArray Q S fuel (listed.setIfInBounds j true) a w) → K' a w) → if Region.wanted oj (yielded l.toArray a.tmps) = true then Oper.wp P oj a w K' Q else K' (a.put oj.dst undef) w) :
    wpAnyH P md l.toArray Q S (fuel + 1) listed a w :=
  wpAnyH_ready hr (by simp) (AllReadyH.cons (by simpa using hi) h1 (AllReadyH.cons (by simpa using hj) h2 AllReadyH.nil))
theorem start {id : Nat} {a : Act} {w : World} (hm : P.follows .mixedOrders = true) (hS : S w.drew)
    (h : S w.drew → wpAnyH P .any l.toArray Q S l.length (Array.replicate l.length false) a w.drew) : (Code.region id l.toArray true).wp P Q a w :=
  wp_region_held_drew hm hS (by simpa using h)
end
theorem wrap_ok {n : Int} (h0 : -4611686018427387904 ≤ n) (h1 : n ≤ 4611686018427387904) : IntKind.i64.wrap n = n := by
  have hb : (2 : Int) ^ IntKind.i64.bits = 18446744073709551616 := by decide
  have hb' : (2 : Int) ^ (IntKind.i64.bits - 1) = 9223372036854775808 := by decide
  unfold IntKind.wrap
  simp only [hb, hb']
  have hs : IntKind.i64.signed = true := rfl
  simp only [hs, Bool.true_and, decide_eq_true_eq]
  split <;> omega
end Go.Proofs.YtamjliaeikoemaaDoor.Grl

/- A row of a new block of the call's own. No condition. -/
namespace Go.Proofs.YtamjliaeikoemaaDoor.Rw
open Go.RowKit
theorem own_fresh {w : World} {cs : Array Value} {t : TypeId} {n size base B : Nat} (hB : B = w.heap.size) (h : cs.size = n * size) (hn : n ≤ maxLen) (hb : base ≤ w.heap.size) : (w.alloc (.cells cs t)).ownsRow base t size (.slice (some ⟨B, 0, none⟩) n n) n cs.toList := by
  subst hB
  exact ⟨by simpa using h, .inr ⟨w.heap.size, n, cs, rfl, hb, heap_alloc_new w _, Nat.le_refl _, hn, h, by rw [← h, ← Array.length_toList]; exact List.take_length⟩⟩
end Go.Proofs.YtamjliaeikoemaaDoor.Rw
