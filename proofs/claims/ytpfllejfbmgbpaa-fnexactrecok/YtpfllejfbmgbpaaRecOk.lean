/- RecOk, of the program and of the model, at every record. -/
import Derived.Test.YtpfllejfbmgbpaaRecBatch
import Derived.Test.YtpfllejfbmgbpaaTabOk
namespace Go.Proofs.Ytpfllejfbmgbpaa.Rec
open Go.RowKit Rw
set_option linter.unusedVariables false
attribute [local go_sem ↓] Go.wp_at_zero Go.wp_at_succ
theorem dec_beq (T : Int) : decide (T = 0) = (T == 0) := by rw [Bool.eq_iff_iff]; simp
set_option maxRecDepth 100000 in
set_option maxHeartbeats 8000000 in
theorem impl_ok {w : World} {vb vl : Value} {zb : List Ent.E} {zl : List Mat.E} (K F T : Int) (hb : Ent.Is w vb zb) (hl : Mat.Is w vl zl) (gb : ∀ y ∈ zb, Ent.good y) (gl : ∀ y ∈ zl, Mat.good y) (ll : zl.length ≤ maxLen) :
    Calls Try.prog 53 #[.agg #[.int .i64 K, vb, vl, .int .i64 F, .int .i64 T]] w fun e w' => e = .returned (.bool (recB (K, zb, zl, F, T))) ∧ Below w.heap.size w w' := by
  have CB := hide (fun W (hB : Below w.heap.size w W) => Ent.impl_batch (hb.below hB) gb)
  have CM := hide (fun W (hB : Below w.heap.size w W) => Mat.impl_ok (hl.below hB) gl ll)
  have FB : ∃ a q, vb = .slice a zb.length q := by obtain ⟨cs, -, hL, -⟩ := hb; obtain ⟨a, q, e, -⟩ := hL.form; exact ⟨a, q, e⟩
  have FL : ∃ a q, vl = .slice a zl.length q := by obtain ⟨a, q, e, -⟩ := hl.form; exact ⟨a, q, e⟩
  obtain ⟨a1, q1, rfl⟩ := FB
  obtain ⟨a2, q2, rfl⟩ := FL
  clear hb hl gb gl ll
  obtain ⟨l1, hl1⟩ : ∃ l, l = zb.length := ⟨_, rfl⟩
  obtain ⟨l2, hl2⟩ : ∃ l, l = zl.length := ⟨_, rfl⟩
  have R1 := hide (fun h : K = 1 => rec_add (x := (K, zb, zl, F, T)) h)
  have R2 := hide (fun h : K = 2 => rec_drop (x := (K, zb, zl, F, T)) h)
  have R3 := hide (fun h : K = 3 => rec_keep (x := (K, zb, zl, F, T)) h)
  have R0 := hide (fun h1 h2 h3 => rec_none (x := (K, zb, zl, F, T)) h1 h2 h3)
  simp only [← hl1, ← hl2] at CB CM R1 R2 R3 R0 ⊢
  clear hl1 hl2
  obtain ⟨rb, hrb⟩ : ∃ rb, rb = recB (K, zb, zl, F, T) := ⟨_, rfl⟩
  obtain ⟨bb, hbb⟩ : ∃ bb, bb = Ent.batchB zb := ⟨_, rfl⟩
  obtain ⟨mb, hmb⟩ : ∃ mb, mb = Mat.ok zl := ⟨_, rfl⟩
  rw [← hrb] at R0 R1 R2 R3 ⊢
  rw [← hbb] at CB R1
  rw [← hmb] at CM R2
  clear hrb hbb hmb
  obtain ⟨wa, hwa⟩ : ∃ wa, wa = w.alloc (.cells #[.int .i64 K, .slice a1 l1 q1, .slice a2 l2 q2, .int .i64 F, .int .i64 T] 77) := ⟨_, rfl⟩
  have B : Below w.heap.size w wa := by rw [hwa]; exact (Below.refl _ _).alloc (Nat.le_refl _) _
  have za : w.heap.size < wa.heap.size := by rw [hwa]; simp
  have A1 : wa.cell? ⟨w.heap.size, 1, none⟩ = some (.slice a1 l1 q1) := by rw [hwa]; simp [go_sem]
  have A2 : wa.cell? ⟨w.heap.size, 2, none⟩ = some (.slice a2 l2 q2) := by rw [hwa]; simp [go_sem]
  have A3 : wa.cell? ⟨w.heap.size, 3, none⟩ = some (.int .i64 F) := by rw [hwa]; simp [go_sem]
  have A4 : wa.cell? ⟨w.heap.size, 4, none⟩ = some (.int .i64 T) := by rw [hwa]; simp [go_sem]
  by_cases k1 : K = 1
  · subst k1
    have HR0 := unhide R1 rfl
    clear R0 R1 R2 R3 CM
    cases bb
    · have HR := hide (show rb = false by rw [HR0]; rfl)
      clear HR0
      go_enter Try.func53, Try.ntmps53
      go_wp2_with fail
      rw [← hwa]
      clear hwa
      refine (unhide CB _ B).mono ?_
      rintro e x1 ⟨rfl, y1⟩
      have A1 := (y1.cell (p := ⟨w.heap.size, 1, none⟩) (by show w.heap.size < _; omega)).trans A1
      have A2 := (y1.cell (p := ⟨w.heap.size, 2, none⟩) (by show w.heap.size < _; omega)).trans A2
      have A3 := (y1.cell (p := ⟨w.heap.size, 3, none⟩) (by show w.heap.size < _; omega)).trans A3
      have A4 := (y1.cell (p := ⟨w.heap.size, 4, none⟩) (by show w.heap.size < _; omega)).trans A4
      have B := B.trans (y1.mono B.size)
      clear y1
      go_wp2_with fail
      go_ret
      exact ⟨ret_bool (unhide HR).symm, B⟩
    · have HR0 := (show rb = (decide (l2 = 0) && decide (F = 0) && decide (T = 0)) from HR0)
      by_cases p : l2 = 0
      · subst p
        by_cases q : F = 0
        · subst q
          have HR := hide (show rb = (T == 0) by rw [HR0]; simp [dec_beq])
          clear HR0
          go_enter Try.func53, Try.ntmps53
          go_wp2_with fail
          rw [← hwa]
          clear hwa
          refine (unhide CB _ B).mono ?_
          rintro e x1 ⟨rfl, y1⟩
          have A1 := (y1.cell (p := ⟨w.heap.size, 1, none⟩) (by show w.heap.size < _; omega)).trans A1
          have A2 := (y1.cell (p := ⟨w.heap.size, 2, none⟩) (by show w.heap.size < _; omega)).trans A2
          have A3 := (y1.cell (p := ⟨w.heap.size, 3, none⟩) (by show w.heap.size < _; omega)).trans A3
          have A4 := (y1.cell (p := ⟨w.heap.size, 4, none⟩) (by show w.heap.size < _; omega)).trans A4
          have B := B.trans (y1.mono B.size)
          clear y1
          go_wp2_with fail
          go_ret
          exact ⟨ret_bool (unhide HR).symm, B⟩
        · have HR := hide (show rb = false by rw [HR0, decide_eq_false q]; simp)
          have qf : (F == 0) = false := by simpa using q
          clear HR0
          go_enter Try.func53, Try.ntmps53
          go_wp2_with fail
          rw [← hwa]
          clear hwa
          refine (unhide CB _ B).mono ?_
          rintro e x1 ⟨rfl, y1⟩
          have A1 := (y1.cell (p := ⟨w.heap.size, 1, none⟩) (by show w.heap.size < _; omega)).trans A1
          have A2 := (y1.cell (p := ⟨w.heap.size, 2, none⟩) (by show w.heap.size < _; omega)).trans A2
          have A3 := (y1.cell (p := ⟨w.heap.size, 3, none⟩) (by show w.heap.size < _; omega)).trans A3
          have A4 := (y1.cell (p := ⟨w.heap.size, 4, none⟩) (by show w.heap.size < _; omega)).trans A4
          have B := B.trans (y1.mono B.size)
          clear y1
          go_wp2_with fail
          go_ret
          exact ⟨ret_bool (unhide HR).symm, B⟩
      · have HR := hide (show rb = false by rw [HR0, decide_eq_false p]; simp)
        have pf : ((l2 : Int) == 0) = false := by simp; omega
        clear HR0
        go_enter Try.func53, Try.ntmps53
        go_wp2_with fail
        rw [← hwa]
        clear hwa
        refine (unhide CB _ B).mono ?_
        rintro e x1 ⟨rfl, y1⟩
        have A1 := (y1.cell (p := ⟨w.heap.size, 1, none⟩) (by show w.heap.size < _; omega)).trans A1
        have A2 := (y1.cell (p := ⟨w.heap.size, 2, none⟩) (by show w.heap.size < _; omega)).trans A2
        have A3 := (y1.cell (p := ⟨w.heap.size, 3, none⟩) (by show w.heap.size < _; omega)).trans A3
        have A4 := (y1.cell (p := ⟨w.heap.size, 4, none⟩) (by show w.heap.size < _; omega)).trans A4
        have B := B.trans (y1.mono B.size)
        clear y1
        go_wp2_with fail
        go_ret
        exact ⟨ret_bool (unhide HR).symm, B⟩
  by_cases k2 : K = 2
  · subst k2
    have HR0 := unhide R2 rfl
    clear R0 R1 R2 R3 CB k1
    by_cases p : l1 = 0
    · subst p
      have HR0 := (show rb = (mb && timesB F T) from by simpa using HR0)
      cases mb
      · have HR := hide (show rb = false by rw [HR0]; rfl)
        clear HR0
        go_enter Try.func53, Try.ntmps53
        go_wp2_with fail
        rw [← hwa]
        clear hwa
        refine (unhide CM _ B).mono ?_
        rintro e x1 ⟨rfl, y1⟩
        have A1 := (y1.cell (p := ⟨w.heap.size, 1, none⟩) (by show w.heap.size < _; omega)).trans A1
        have A2 := (y1.cell (p := ⟨w.heap.size, 2, none⟩) (by show w.heap.size < _; omega)).trans A2
        have A3 := (y1.cell (p := ⟨w.heap.size, 3, none⟩) (by show w.heap.size < _; omega)).trans A3
        have A4 := (y1.cell (p := ⟨w.heap.size, 4, none⟩) (by show w.heap.size < _; omega)).trans A4
        have B := B.trans (y1.mono B.size)
        clear y1
        go_wp2_with fail
        go_ret
        exact ⟨ret_bool (unhide HR).symm, B⟩
      · have HR := hide (show rb = timesB F T by rw [HR0]; rfl)
        clear HR0
        go_enter Try.func53, Try.ntmps53
        go_wp2_with fail
        rw [← hwa]
        clear hwa
        refine (unhide CM _ B).mono ?_
        rintro e x1 ⟨rfl, y1⟩
        have A1 := (y1.cell (p := ⟨w.heap.size, 1, none⟩) (by show w.heap.size < _; omega)).trans A1
        have A2 := (y1.cell (p := ⟨w.heap.size, 2, none⟩) (by show w.heap.size < _; omega)).trans A2
        have A3 := (y1.cell (p := ⟨w.heap.size, 3, none⟩) (by show w.heap.size < _; omega)).trans A3
        have A4 := (y1.cell (p := ⟨w.heap.size, 4, none⟩) (by show w.heap.size < _; omega)).trans A4
        have B := B.trans (y1.mono B.size)
        clear y1
        go_wp2_with fail
        refine (impl_times F T _).mono ?_
        rintro e x2 ⟨rfl, rfl⟩
        go_wp2_with fail
        go_ret
        exact ⟨ret_bool (unhide HR).symm, B⟩
    · have HR := hide (show rb = false by rw [HR0, decide_eq_false p]; simp)
      have pf : ((l1 : Int) == 0) = false := by simp; omega
      clear HR0
      go_enter Try.func53, Try.ntmps53
      go_wp2_with fail
      rw [← hwa]
      clear hwa
      go_ret
      exact ⟨ret_bool (unhide HR).symm, B⟩
  by_cases k3 : K = 3
  · subst k3
    have HR0 := unhide R3 rfl
    clear R0 R1 R2 R3 CB CM k1 k2
    by_cases p : l1 = 0
    · subst p
      by_cases q : l2 = 0
      · subst q
        have HR0 := (show rb = (Row.floorB F && decide (T = 0)) from by simpa using HR0)
        cases hf : Row.floorB F
        · have HR := hide (show rb = false by rw [HR0, hf]; rfl)
          have CF := hide (Row.floor_any F wa)
          rw [hf] at CF
          clear HR0 hf
          go_enter Try.func53, Try.ntmps53
          go_wp2_with fail
          rw [← hwa]
          clear hwa
          refine (unhide CF).mono ?_
          rintro e x1 ⟨rfl, rfl⟩
          go_wp2_with fail
          go_ret
          exact ⟨ret_bool (unhide HR).symm, B⟩
        · have HR := hide (show rb = (T == 0) by rw [HR0, hf]; simp [dec_beq])
          have CF := hide (Row.floor_any F wa)
          rw [hf] at CF
          clear HR0 hf
          go_enter Try.func53, Try.ntmps53
          go_wp2_with fail
          rw [← hwa]
          clear hwa
          refine (unhide CF).mono ?_
          rintro e x1 ⟨rfl, rfl⟩
          go_wp2_with fail
          go_ret
          exact ⟨ret_bool (unhide HR).symm, B⟩
      · have HR := hide (show rb = false by rw [HR0, decide_eq_false q]; simp)
        have qf : ((l2 : Int) == 0) = false := by simp; omega
        clear HR0
        go_enter Try.func53, Try.ntmps53
        go_wp2_with fail
        rw [← hwa]
        clear hwa
        go_ret
        exact ⟨ret_bool (unhide HR).symm, B⟩
    · have HR := hide (show rb = false by rw [HR0, decide_eq_false p]; simp)
      have pf : ((l1 : Int) == 0) = false := by simp; omega
      clear HR0
      go_enter Try.func53, Try.ntmps53
      go_wp2_with fail
      rw [← hwa]
      clear hwa
      go_ret
      exact ⟨ret_bool (unhide HR).symm, B⟩
  have HR := hide (unhide R0 k1 k2 k3)
  have g1 : (K == 1) = false := by simpa using k1
  have g2 : (K == 2) = false := by simpa using k2
  have g3 : (K == 3) = false := by simpa using k3
  clear R0 R1 R2 R3 CB CM
  go_enter Try.func53, Try.ntmps53
  go_wp2_with fail
  rw [← hwa]
  clear hwa
  go_ret
  exact ⟨ret_bool (unhide HR).symm, B⟩
set_option maxRecDepth 100000 in
set_option maxHeartbeats 8000000 in
theorem spec_ok {w : World} {vb vl : Value} {zb : List Ent.E} {zl : List Mat.E} (K F T : Int) (hb : Ent.Is w vb zb) (hl : Mat.Is w vl zl) (gb : ∀ y ∈ zb, Ent.good y) (gl : ∀ y ∈ zl, Mat.good y) (ll : zl.length ≤ maxLen) :
    Calls Try.prog 51 #[.agg #[.int .i64 K, vb, vl, .int .i64 F, .int .i64 T]] w fun e w' => e = .returned (.bool (recB (K, zb, zl, F, T))) ∧ Below w.heap.size w w' := by
  have CB := hide (fun W (hB : Below w.heap.size w W) => Ent.spec_batch (hb.below hB) gb)
  have CM := hide (fun W (hB : Below w.heap.size w W) => Mat.spec_ok (hl.below hB) gl ll)
  have FB : ∃ a q, vb = .slice a zb.length q := by obtain ⟨cs, -, hL, -⟩ := hb; obtain ⟨a, q, e, -⟩ := hL.form; exact ⟨a, q, e⟩
  have FL : ∃ a q, vl = .slice a zl.length q := by obtain ⟨a, q, e, -⟩ := hl.form; exact ⟨a, q, e⟩
  obtain ⟨a1, q1, rfl⟩ := FB
  obtain ⟨a2, q2, rfl⟩ := FL
  clear hb hl gb gl ll
  obtain ⟨l1, hl1⟩ : ∃ l, l = zb.length := ⟨_, rfl⟩
  obtain ⟨l2, hl2⟩ : ∃ l, l = zl.length := ⟨_, rfl⟩
  have R1 := hide (fun h : K = 1 => rec_add (x := (K, zb, zl, F, T)) h)
  have R2 := hide (fun h : K = 2 => rec_drop (x := (K, zb, zl, F, T)) h)
  have R3 := hide (fun h : K = 3 => rec_keep (x := (K, zb, zl, F, T)) h)
  have R0 := hide (fun h1 h2 h3 => rec_none (x := (K, zb, zl, F, T)) h1 h2 h3)
  simp only [← hl1, ← hl2] at CB CM R1 R2 R3 R0 ⊢
  clear hl1 hl2
  obtain ⟨rb, hrb⟩ : ∃ rb, rb = recB (K, zb, zl, F, T) := ⟨_, rfl⟩
  obtain ⟨bb, hbb⟩ : ∃ bb, bb = Ent.batchB zb := ⟨_, rfl⟩
  obtain ⟨mb, hmb⟩ : ∃ mb, mb = Mat.ok zl := ⟨_, rfl⟩
  rw [← hrb] at R0 R1 R2 R3 ⊢
  rw [← hbb] at CB R1
  rw [← hmb] at CM R2
  clear hrb hbb hmb
  obtain ⟨wa, hwa⟩ : ∃ wa, wa = w.alloc (.cells #[.int .i64 K, .slice a1 l1 q1, .slice a2 l2 q2, .int .i64 F, .int .i64 T] 77) := ⟨_, rfl⟩
  have B : Below w.heap.size w wa := by rw [hwa]; exact (Below.refl _ _).alloc (Nat.le_refl _) _
  have za : w.heap.size < wa.heap.size := by rw [hwa]; simp
  have A1 : wa.cell? ⟨w.heap.size, 1, none⟩ = some (.slice a1 l1 q1) := by rw [hwa]; simp [go_sem]
  have A2 : wa.cell? ⟨w.heap.size, 2, none⟩ = some (.slice a2 l2 q2) := by rw [hwa]; simp [go_sem]
  have A3 : wa.cell? ⟨w.heap.size, 3, none⟩ = some (.int .i64 F) := by rw [hwa]; simp [go_sem]
  have A4 : wa.cell? ⟨w.heap.size, 4, none⟩ = some (.int .i64 T) := by rw [hwa]; simp [go_sem]
  by_cases k1 : K = 1
  · subst k1
    have HR0 := unhide R1 rfl
    clear R0 R1 R2 R3 CM
    cases bb
    · have HR := hide (show rb = false by rw [HR0]; rfl)
      clear HR0
      go_enter Try.func51, Try.ntmps51
      go_wp2_with fail
      rw [← hwa]
      clear hwa
      refine (unhide CB _ B).mono ?_
      rintro e x1 ⟨rfl, y1⟩
      have A1 := (y1.cell (p := ⟨w.heap.size, 1, none⟩) (by show w.heap.size < _; omega)).trans A1
      have A2 := (y1.cell (p := ⟨w.heap.size, 2, none⟩) (by show w.heap.size < _; omega)).trans A2
      have A3 := (y1.cell (p := ⟨w.heap.size, 3, none⟩) (by show w.heap.size < _; omega)).trans A3
      have A4 := (y1.cell (p := ⟨w.heap.size, 4, none⟩) (by show w.heap.size < _; omega)).trans A4
      have B := B.trans (y1.mono B.size)
      clear y1
      go_wp2_with fail
      go_ret
      exact ⟨ret_bool (unhide HR).symm, B⟩
    · have HR0 := (show rb = (decide (l2 = 0) && decide (F = 0) && decide (T = 0)) from HR0)
      by_cases p : l2 = 0
      · subst p
        by_cases q : F = 0
        · subst q
          have HR := hide (show rb = (T == 0) by rw [HR0]; simp [dec_beq])
          clear HR0
          go_enter Try.func51, Try.ntmps51
          go_wp2_with fail
          rw [← hwa]
          clear hwa
          refine (unhide CB _ B).mono ?_
          rintro e x1 ⟨rfl, y1⟩
          have A1 := (y1.cell (p := ⟨w.heap.size, 1, none⟩) (by show w.heap.size < _; omega)).trans A1
          have A2 := (y1.cell (p := ⟨w.heap.size, 2, none⟩) (by show w.heap.size < _; omega)).trans A2
          have A3 := (y1.cell (p := ⟨w.heap.size, 3, none⟩) (by show w.heap.size < _; omega)).trans A3
          have A4 := (y1.cell (p := ⟨w.heap.size, 4, none⟩) (by show w.heap.size < _; omega)).trans A4
          have B := B.trans (y1.mono B.size)
          clear y1
          go_wp2_with fail
          go_ret
          exact ⟨ret_bool (unhide HR).symm, B⟩
        · have HR := hide (show rb = false by rw [HR0, decide_eq_false q]; simp)
          have qf : (F == 0) = false := by simpa using q
          clear HR0
          go_enter Try.func51, Try.ntmps51
          go_wp2_with fail
          rw [← hwa]
          clear hwa
          refine (unhide CB _ B).mono ?_
          rintro e x1 ⟨rfl, y1⟩
          have A1 := (y1.cell (p := ⟨w.heap.size, 1, none⟩) (by show w.heap.size < _; omega)).trans A1
          have A2 := (y1.cell (p := ⟨w.heap.size, 2, none⟩) (by show w.heap.size < _; omega)).trans A2
          have A3 := (y1.cell (p := ⟨w.heap.size, 3, none⟩) (by show w.heap.size < _; omega)).trans A3
          have A4 := (y1.cell (p := ⟨w.heap.size, 4, none⟩) (by show w.heap.size < _; omega)).trans A4
          have B := B.trans (y1.mono B.size)
          clear y1
          go_wp2_with fail
          go_ret
          exact ⟨ret_bool (unhide HR).symm, B⟩
      · have HR := hide (show rb = false by rw [HR0, decide_eq_false p]; simp)
        have pf : ((l2 : Int) == 0) = false := by simp; omega
        clear HR0
        go_enter Try.func51, Try.ntmps51
        go_wp2_with fail
        rw [← hwa]
        clear hwa
        refine (unhide CB _ B).mono ?_
        rintro e x1 ⟨rfl, y1⟩
        have A1 := (y1.cell (p := ⟨w.heap.size, 1, none⟩) (by show w.heap.size < _; omega)).trans A1
        have A2 := (y1.cell (p := ⟨w.heap.size, 2, none⟩) (by show w.heap.size < _; omega)).trans A2
        have A3 := (y1.cell (p := ⟨w.heap.size, 3, none⟩) (by show w.heap.size < _; omega)).trans A3
        have A4 := (y1.cell (p := ⟨w.heap.size, 4, none⟩) (by show w.heap.size < _; omega)).trans A4
        have B := B.trans (y1.mono B.size)
        clear y1
        go_wp2_with fail
        go_ret
        exact ⟨ret_bool (unhide HR).symm, B⟩
  by_cases k2 : K = 2
  · subst k2
    have HR0 := unhide R2 rfl
    clear R0 R1 R2 R3 CB k1
    by_cases p : l1 = 0
    · subst p
      have HR0 := (show rb = (mb && timesB F T) from by simpa using HR0)
      cases mb
      · have HR := hide (show rb = false by rw [HR0]; rfl)
        clear HR0
        go_enter Try.func51, Try.ntmps51
        go_wp2_with fail
        rw [← hwa]
        clear hwa
        refine (unhide CM _ B).mono ?_
        rintro e x1 ⟨rfl, y1⟩
        have A1 := (y1.cell (p := ⟨w.heap.size, 1, none⟩) (by show w.heap.size < _; omega)).trans A1
        have A2 := (y1.cell (p := ⟨w.heap.size, 2, none⟩) (by show w.heap.size < _; omega)).trans A2
        have A3 := (y1.cell (p := ⟨w.heap.size, 3, none⟩) (by show w.heap.size < _; omega)).trans A3
        have A4 := (y1.cell (p := ⟨w.heap.size, 4, none⟩) (by show w.heap.size < _; omega)).trans A4
        have B := B.trans (y1.mono B.size)
        clear y1
        go_wp2_with fail
        go_ret
        exact ⟨ret_bool (unhide HR).symm, B⟩
      · have HR := hide (show rb = timesB F T by rw [HR0]; rfl)
        clear HR0
        go_enter Try.func51, Try.ntmps51
        go_wp2_with fail
        rw [← hwa]
        clear hwa
        refine (unhide CM _ B).mono ?_
        rintro e x1 ⟨rfl, y1⟩
        have A1 := (y1.cell (p := ⟨w.heap.size, 1, none⟩) (by show w.heap.size < _; omega)).trans A1
        have A2 := (y1.cell (p := ⟨w.heap.size, 2, none⟩) (by show w.heap.size < _; omega)).trans A2
        have A3 := (y1.cell (p := ⟨w.heap.size, 3, none⟩) (by show w.heap.size < _; omega)).trans A3
        have A4 := (y1.cell (p := ⟨w.heap.size, 4, none⟩) (by show w.heap.size < _; omega)).trans A4
        have B := B.trans (y1.mono B.size)
        clear y1
        go_wp2_with fail
        refine (spec_times F T _).mono ?_
        rintro e x2 ⟨rfl, rfl⟩
        go_wp2_with fail
        go_ret
        exact ⟨ret_bool (unhide HR).symm, B⟩
    · have HR := hide (show rb = false by rw [HR0, decide_eq_false p]; simp)
      have pf : ((l1 : Int) == 0) = false := by simp; omega
      clear HR0
      go_enter Try.func51, Try.ntmps51
      go_wp2_with fail
      rw [← hwa]
      clear hwa
      go_ret
      exact ⟨ret_bool (unhide HR).symm, B⟩
  by_cases k3 : K = 3
  · subst k3
    have HR0 := unhide R3 rfl
    clear R0 R1 R2 R3 CB CM k1 k2
    by_cases p : l1 = 0
    · subst p
      by_cases q : l2 = 0
      · subst q
        have HR0 := (show rb = (Row.floorB F && decide (T = 0)) from by simpa using HR0)
        cases hi : Zig.inB F 0 9999
        · have HR := hide (show rb = false by rw [HR0, Row.floorB_no (fun h => by rw [Samp.inB_true h.1 h.2.1] at hi; exact absurd hi (by simp))]; rfl)
          have CF := hide (Samp.in_is F 0 9999 _ wa hi)
          clear HR0 hi
          go_enter Try.func51, Try.ntmps51
          go_wp2_with fail
          rw [← hwa]
          clear hwa
          refine (unhide CF).mono ?_
          rintro e x1 ⟨rfl, rfl⟩
          go_wp2_with fail
          go_ret
          exact ⟨ret_bool (unhide HR).symm, B⟩
        · have hi2 : 0 ≤ F ∧ F ≤ 9999 := by unfold Zig.inB at hi; simpa using hi
          have CF := hide (Samp.in_is F 0 9999 _ wa hi)
          obtain ⟨R, hR⟩ : ∃ R, F.tmod 100 = R := ⟨_, rfl⟩
          by_cases h2 : R = 0
          · subst h2
            have HR := hide (show rb = (T == 0) by rw [HR0, Row.floorB_yes hi2.1 hi2.2 hR]; simp [dec_beq])
            clear HR0 hi
            go_enter Try.func51, Try.ntmps51
            go_wp2_with fail
            rw [← hwa]
            clear hwa
            refine (unhide CF).mono ?_
            rintro e x1 ⟨rfl, rfl⟩
            go_wp2_with fail
            go_ret
            exact ⟨ret_bool (unhide HR).symm, B⟩
          · have HR := hide (show rb = false by rw [HR0, Row.floorB_no (fun h => h2 (hR.symm.trans h.2.2))]; rfl)
            have h2f : (R == 0) = false := by simpa using h2
            clear HR0 hi
            go_enter Try.func51, Try.ntmps51
            go_wp2_with fail
            rw [← hwa]
            clear hwa
            refine (unhide CF).mono ?_
            rintro e x1 ⟨rfl, rfl⟩
            go_wp2_with fail
            go_ret
            exact ⟨ret_bool (unhide HR).symm, B⟩
      · have HR := hide (show rb = false by rw [HR0, decide_eq_false q]; simp)
        have qf : ((l2 : Int) == 0) = false := by simp; omega
        clear HR0
        go_enter Try.func51, Try.ntmps51
        go_wp2_with fail
        rw [← hwa]
        clear hwa
        go_ret
        exact ⟨ret_bool (unhide HR).symm, B⟩
    · have HR := hide (show rb = false by rw [HR0, decide_eq_false p]; simp)
      have pf : ((l1 : Int) == 0) = false := by simp; omega
      clear HR0
      go_enter Try.func51, Try.ntmps51
      go_wp2_with fail
      rw [← hwa]
      clear hwa
      go_ret
      exact ⟨ret_bool (unhide HR).symm, B⟩
  have HR := hide (unhide R0 k1 k2 k3)
  have g1 : (K == 1) = false := by simpa using k1
  have g2 : (K == 2) = false := by simpa using k2
  have g3 : (K == 3) = false := by simpa using k3
  clear R0 R1 R2 R3 CB CM
  go_enter Try.func51, Try.ntmps51
  go_wp2_with fail
  rw [← hwa]
  clear hwa
  go_ret
  exact ⟨ret_bool (unhide HR).symm, B⟩
end Go.Proofs.Ytpfllejfbmgbpaa.Rec
