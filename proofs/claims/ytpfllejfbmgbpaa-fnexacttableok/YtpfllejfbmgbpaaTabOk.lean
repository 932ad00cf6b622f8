/- TableOk of the program, at every table. -/
import Derived.Test.YtpfllejfbmgbpaaTabEnds
import Derived.Test.YtpfllejfbmgbpaaRowOk
import Derived.Test.YtpfllejfbmgbpaaTabLaw
namespace Go.Proofs.Ytpfllejfbmgbpaa.Row
open Go.RowKit Rw
set_option linter.unusedVariables false
attribute [local go_sem ↓] Go.wp_at_zero Go.wp_at_succ
theorem floorB_yes {F : Int} (h0 : 0 ≤ F) (h1 : F ≤ 9999) (h2 : F.tmod 100 = 0) : floorB F = true := by unfold floorB; rw [decide_eq_true h0, decide_eq_true h1, decide_eq_true h2]; rfl
theorem floorB_no {F : Int} (h : ¬ (0 ≤ F ∧ F ≤ 9999 ∧ F.tmod 100 = 0)) : floorB F = false := by
  cases hf : floorB F
  · rfl
  · unfold floorB at hf
    simp only [Bool.and_eq_true, decide_eq_true_eq] at hf
    exact absurd ⟨hf.1.1, hf.1.2, hf.2⟩ h
theorem floor_any (F : Int) (w : World) : Calls Try.prog 92 #[.int .i64 F] w fun e w' => e = .returned (.bool (floorB F)) ∧ w' = w := by
  by_cases h0 : 0 ≤ F
  · by_cases h1 : F ≤ 9999
    · obtain ⟨R, hR⟩ : ∃ R, F.tmod 100 = R := ⟨_, rfl⟩
      by_cases h2 : R = 0
      · subst h2
        have HR := hide (floorB_yes h0 h1 hR)
        go_enter Try.func92, Try.ntmps92
        go_wp2
        go_ret
        exact ⟨ret_bool (unhide HR).symm, rfl⟩
      · have HR := hide (floorB_no (F := F) (fun h => h2 (hR.symm.trans h.2.2)))
        have h2f : (R == 0) = false := by simpa using h2
        go_enter Try.func92, Try.ntmps92
        go_wp2
        go_ret
        exact ⟨ret_bool (unhide HR).symm, rfl⟩
    · have HR := hide (floorB_no (F := F) (fun h => h1 h.2.1))
      go_enter Try.func92, Try.ntmps92
      go_wp2
      go_ret
      exact ⟨ret_bool (unhide HR).symm, rfl⟩
  · have HR := hide (floorB_no (F := F) (fun h => h0 h.1))
    go_enter Try.func92, Try.ntmps92
    go_wp2
    go_ret
    exact ⟨ret_bool (unhide HR).symm, rfl⟩
theorem tableB_no {zs : List E} {H F : Int} (h : ¬ (-1 ≤ H ∧ H ≤ 9999 ∧ floorB F = true ∧ (F = 0 ∨ F ≤ H) ∧ ok zs = true ∧ within zs F (H + 1) = true)) : tableB zs H F = false := by
  cases hf : tableB zs H F
  · rfl
  · unfold tableB at hf
    simp only [Bool.and_eq_true, Bool.or_eq_true, decide_eq_true_eq] at hf
    obtain ⟨⟨⟨⟨⟨a, b⟩, c⟩, d⟩, e⟩, g⟩ := hf
    exact absurd ⟨a, b, c, d, e, g⟩ h
theorem tableB_yes {zs : List E} {H F : Int} (h1 : -1 ≤ H) (h2 : H ≤ 9999) (h3 : floorB F = true) (h4 : F = 0 ∨ F ≤ H) (h5 : ok zs = true) (h6 : within zs F (H + 1) = true) : tableB zs H F = true := by
  unfold tableB
  rw [decide_eq_true h1, decide_eq_true h2, h3, h5, h6]
  rcases h4 with h | h <;> simp [h]
set_option maxRecDepth 100000 in
set_option maxHeartbeats 4000000 in
theorem impl_table {w : World} {v : Value} {zs : List E} {H F : Int} (h : Is w v zs) (hg : ∀ x ∈ zs, good x) (hlen : zs.length ≤ maxLen) : Calls Try.prog 44 #[.agg #[v, .int .i64 H, .int .i64 F]] w fun e w' => e = .returned (.bool (tableB zs H F)) ∧ Below w.heap.size w w' := by
  have C1 := hide (fun W (hb : Below w.heap.size w W) => impl_ok (h.below hb) hg hlen)
  have C2 := hide (fun W (hb : Below w.heap.size w W) => within_any F (H + 1) (h.below hb))
  have C3 := hide (fun W => floor_any F W)
  clear h hg hlen
  have B := (Below.refl w.heap.size w).alloc (Nat.le_refl _) (.cells #[v, .int .i64 H, .int .i64 F] 54)
  by_cases h1 : H < -1
  · have HR := hide (tableB_no (zs := zs) (H := H) (F := F) (fun h => by omega))
    go_enter Try.func44, Try.ntmps44
    go_wp2_with fail
    go_ret
    exact ⟨ret_bool (unhide HR).symm, B⟩
  by_cases h2 : 9999 < H
  · have HR := hide (tableB_no (zs := zs) (H := H) (F := F) (fun h => by omega))
    go_enter Try.func44, Try.ntmps44
    go_wp2_with fail
    go_ret
    exact ⟨ret_bool (unhide HR).symm, B⟩
  cases h3 : floorB F
  · have HR := hide (tableB_no (zs := zs) (H := H) (F := F) (fun h => by rw [h3] at h; exact absurd h.2.2.1 (by simp)))
    rw [h3] at C3
    clear h3
    go_enter Try.func44, Try.ntmps44
    go_wp2_with fail
    refine (unhide C3 _).mono ?_
    rintro e v1 ⟨rfl, rfl⟩
    go_wp2_with fail
    go_ret
    exact ⟨ret_bool (unhide HR).symm, B⟩
  rw [h3] at C3
  have h3n : 0 ≤ F := by unfold floorB at h3; simp only [Bool.and_eq_true, decide_eq_true_eq] at h3; exact h3.1.1
  by_cases h4 : 0 < F ∧ H < F
  · have HR := hide (tableB_no (zs := zs) (H := H) (F := F) (fun h => by omega))
    obtain ⟨h4a, h4b⟩ := h4
    clear h3
    go_enter Try.func44, Try.ntmps44
    go_wp2_with fail
    refine (unhide C3 _).mono ?_
    rintro e v1 ⟨rfl, rfl⟩
    go_wp2_with fail
    go_ret
    exact ⟨ret_bool (unhide HR).symm, B⟩
  by_cases h0 : F = 0
  · subst h0
    clear h4 h3n
    cases h5 : ok zs
    · have HR := hide (tableB_no (zs := zs) (H := H) (F := 0) (fun h => by rw [h5] at h; exact absurd h.2.2.2.2.1 (by simp)))
      rw [h5] at C1
      clear h3 h5
      go_enter Try.func44, Try.ntmps44
      go_wp2_with fail
      refine (unhide C3 _).mono ?_
      rintro e v1 ⟨rfl, rfl⟩
      go_wp2_with fail
      refine (unhide C1 _ B).mono ?_
      rintro e v2 ⟨rfl, b2⟩
      have B2 := B.trans (b2.mono B.size)
      obtain ⟨bc, bf⟩ := bcell b2
      simp only [World.size_alloc] at bc bf
      go_wp2_with fail
      go_ret
      exact ⟨ret_bool (unhide HR).symm, B2⟩
    · rw [h5] at C1
      cases h6 : within zs 0 (H + 1)
      · have HR := hide (tableB_no (zs := zs) (H := H) (F := 0) (fun h => by rw [h6] at h; exact absurd h.2.2.2.2.2 (by simp)))
        rw [h6] at C2
        clear h3 h5 h6
        go_enter Try.func44, Try.ntmps44
        go_wp2_with fail
        refine (unhide C3 _).mono ?_
        rintro e v1 ⟨rfl, rfl⟩
        go_wp2_with fail
        refine (unhide C1 _ B).mono ?_
        rintro e v2 ⟨rfl, b2⟩
        have B2 := B.trans (b2.mono B.size)
        obtain ⟨bc, bf⟩ := bcell b2
        simp only [World.size_alloc] at bc bf
        go_wp2_with fail
        refine (unhide C2 _ B2).mono ?_
        rintro e v3 ⟨rfl, b3⟩
        have B3 := B2.trans (b3.mono B2.size)
        go_wp2_with fail
        go_ret
        exact ⟨ret_bool (unhide HR).symm, B3⟩
      · have HR := hide (tableB_yes (zs := zs) (H := H) (F := 0) (by omega) (by omega) h3 (.inl rfl) h5 h6)
        rw [h6] at C2
        clear h3 h5 h6
        go_enter Try.func44, Try.ntmps44
        go_wp2_with fail
        refine (unhide C3 _).mono ?_
        rintro e v1 ⟨rfl, rfl⟩
        go_wp2_with fail
        refine (unhide C1 _ B).mono ?_
        rintro e v2 ⟨rfl, b2⟩
        have B2 := B.trans (b2.mono B.size)
        obtain ⟨bc, bf⟩ := bcell b2
        simp only [World.size_alloc] at bc bf
        go_wp2_with fail
        refine (unhide C2 _ B2).mono ?_
        rintro e v3 ⟨rfl, b3⟩
        have B3 := B2.trans (b3.mono B2.size)
        go_wp2_with fail
        go_ret
        exact ⟨ret_bool (unhide HR).symm, B3⟩
  · have h0p : 0 < F := by omega
    have h0q : ¬ H < F := by omega
    clear h4
    cases h5 : ok zs
    · have HR := hide (tableB_no (zs := zs) (H := H) (F := F) (fun h => by rw [h5] at h; exact absurd h.2.2.2.2.1 (by simp)))
      rw [h5] at C1
      clear h3 h5
      go_enter Try.func44, Try.ntmps44
      go_wp2_with fail
      refine (unhide C3 _).mono ?_
      rintro e v1 ⟨rfl, rfl⟩
      go_wp2_with fail
      refine (unhide C1 _ B).mono ?_
      rintro e v2 ⟨rfl, b2⟩
      have B2 := B.trans (b2.mono B.size)
      obtain ⟨bc, bf⟩ := bcell b2
      simp only [World.size_alloc] at bc bf
      go_wp2_with fail
      go_ret
      exact ⟨ret_bool (unhide HR).symm, B2⟩
    · rw [h5] at C1
      cases h6 : within zs F (H + 1)
      · have HR := hide (tableB_no (zs := zs) (H := H) (F := F) (fun h => by rw [h6] at h; exact absurd h.2.2.2.2.2 (by simp)))
        rw [h6] at C2
        clear h3 h5 h6
        go_enter Try.func44, Try.ntmps44
        go_wp2_with fail
        refine (unhide C3 _).mono ?_
        rintro e v1 ⟨rfl, rfl⟩
        go_wp2_with fail
        refine (unhide C1 _ B).mono ?_
        rintro e v2 ⟨rfl, b2⟩
        have B2 := B.trans (b2.mono B.size)
        obtain ⟨bc, bf⟩ := bcell b2
        simp only [World.size_alloc] at bc bf
        go_wp2_with fail
        refine (unhide C2 _ B2).mono ?_
        rintro e v3 ⟨rfl, b3⟩
        have B3 := B2.trans (b3.mono B2.size)
        go_wp2_with fail
        go_ret
        exact ⟨ret_bool (unhide HR).symm, B3⟩
      · have HR := hide (tableB_yes (zs := zs) (H := H) (F := F) (by omega) (by omega) h3 (by omega) h5 h6)
        rw [h6] at C2
        clear h3 h5 h6
        go_enter Try.func44, Try.ntmps44
        go_wp2_with fail
        refine (unhide C3 _).mono ?_
        rintro e v1 ⟨rfl, rfl⟩
        go_wp2_with fail
        refine (unhide C1 _ B).mono ?_
        rintro e v2 ⟨rfl, b2⟩
        have B2 := B.trans (b2.mono B.size)
        obtain ⟨bc, bf⟩ := bcell b2
        simp only [World.size_alloc] at bc bf
        go_wp2_with fail
        refine (unhide C2 _ B2).mono ?_
        rintro e v3 ⟨rfl, b3⟩
        have B3 := B2.trans (b3.mono B2.size)
        go_wp2_with fail
        go_ret
        exact ⟨ret_bool (unhide HR).symm, B3⟩
end Go.Proofs.Ytpfllejfbmgbpaa.Row
