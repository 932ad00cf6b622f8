/- When a block is ok. No condition. -/
import Derived.Test.YtpfllejfbmgbpaaDoorTabMath
namespace Go.Proofs.YtpfllejfbmgbpaaDoor.Row
open Go.RowKit Rw
def wideB (d L : Int) : Bool := (decide (d = 100) && decide (L.tmod 100 = 0)) || (decide (d = 300) && decide (L.tmod 300 = 0)) || (decide (d = 900) && decide (L.tmod 900 = 0))
def rangeB (L H : Int) : Bool := decide (0 ≤ L) && decide (L ≤ 9999) && wideB (H - L) L
def blockB (zs : List E) (L H : Int) : Bool := rangeB L H && decide (0 < zs.length) && ok zs && within zs L H
theorem sub_letter (L H : Int) (h0 : 0 ≤ L) (h1 : L ≤ 9999) (hH : (Lit.int .i64 H).wf = true) : ∃ D, wrap64 (H - L) = D ∧ (D = 100 ↔ H - L = 100) ∧ (D = 300 ↔ H - L = 300) ∧ (D = 900 ↔ H - L = 900) := by
  have hb := bounds_i64 hH
  refine ⟨_, rfl, ?_, ?_, ?_⟩ <;> (unfold wrap64; omega)
theorem rangeB_low {L H : Int} (h : ¬ (0 ≤ L ∧ L ≤ 9999)) : rangeB L H = false := by
  unfold rangeB
  by_cases h0 : 0 ≤ L
  · have : ¬ L ≤ 9999 := fun g => h ⟨h0, g⟩
    simp [this]
  · simp [h0]
theorem rangeB_in {L H : Int} (h0 : 0 ≤ L) (h1 : L ≤ 9999) : rangeB L H = wideB (H - L) L := by unfold rangeB; rw [decide_eq_true h0, decide_eq_true h1]; rfl
theorem wide1 {d L : Int} (h : d = 100) : wideB d L = decide (L.tmod 100 = 0) := by subst h; unfold wideB; simp
theorem wide3 {d L : Int} (h : d = 300) : wideB d L = decide (L.tmod 300 = 0) := by subst h; unfold wideB; simp
theorem wide9 {d L : Int} (h : d = 900) : wideB d L = decide (L.tmod 900 = 0) := by subst h; unfold wideB; simp
theorem wide0 {d L : Int} (h1 : d ≠ 100) (h3 : d ≠ 300) (h9 : d ≠ 900) : wideB d L = false := by unfold wideB; simp [h1, h3, h9]
theorem blockB_range {zs : List E} {L H : Int} (h : rangeB L H = false) : blockB zs L H = false := by unfold blockB; rw [h]; rfl
theorem blockB_none {zs : List E} {L H : Int} (h : zs.length = 0) : blockB zs L H = false := by unfold blockB; rw [h]; simp
theorem blockB_rows {zs : List E} {L H : Int} (h : ok zs = false) : blockB zs L H = false := by unfold blockB; rw [h]; simp
theorem blockB_in {zs : List E} {L H : Int} (h : rangeB L H = true) (h0 : 0 < zs.length) (h5 : ok zs = true) : blockB zs L H = within zs L H := by unfold blockB; rw [h, decide_eq_true h0, h5]; rfl
theorem range_high {L H : Int} (h : rangeB L H = true) : 0 ≤ L ∧ L ≤ 9999 ∧ 100 ≤ H - L ∧ H - L ≤ 900 := by
  unfold rangeB wideB at h
  simp only [Bool.and_eq_true, Bool.or_eq_true, decide_eq_true_eq] at h
  refine ⟨h.1.1, h.1.2, ?_, ?_⟩ <;> omega
theorem block_iff {zs : List E} (h5 : ok zs = true) {L H : Int} (h : rangeB L H = true) : within zs L H = true ↔ lastR zs < H ∧ L ≤ firstR zs := by
  have hr := range_high h
  have := within_iff h5 (H := H - 1) (F := L) (by omega) (by omega)
  rw [show H - 1 + 1 = H from by omega] at this
  rw [this]
  constructor
  · rintro ⟨a, b⟩; exact ⟨by omega, b⟩
  · rintro ⟨a, b⟩; exact ⟨by omega, b⟩
end Go.Proofs.YtpfllejfbmgbpaaDoor.Row
