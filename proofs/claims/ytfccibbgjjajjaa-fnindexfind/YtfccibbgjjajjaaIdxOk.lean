/- Whether all are labels that are ok, of the program and of the model. -/
import Derived.Test.YtfccibbgjjajjaaIdxMath
import Derived.Test.YtfccibbgjjajjaaLabOk2
namespace Go.Proofs.Ytfccibbgjjajjaa.Lss
open Go.RowKit Rw
set_option linter.unusedVariables false
attribute [local go_sem ↓] Go.wp_at_zero Go.wp_at_succ
set_option maxRecDepth 100000 in
set_option maxHeartbeats 2000000 in
theorem impl_all {w : World} {v : Value} {zs : List E} (h : Is w v zs) (hg : ∀ x ∈ zs, good x) : Calls Try.prog 46 #[v] w fun e w' => e = .returned (.bool (allOk zs)) ∧ Below w.heap.size w w' := by
  obtain ⟨cs, hcs, hL, hE⟩ := h
  have HE := hide hE
  obtain ⟨-, a, cap, rfl, hc, hm, -, hr⟩ := hL
  unfold maxLen at hm
  obtain ⟨n, hn⟩ : ∃ n, n = zs.length := ⟨_, rfl⟩
  rw [← hn] at hc hr hcs ⊢
  have HN := hide hn
  have HC := hide hcs
  have HG := hide hg
  clear hn hE hcs hg
  obtain ⟨R, hR⟩ : ∃ R, R = allOk zs := ⟨_, rfl⟩
  rw [← hR]
  have HR := hide hR
  clear hR
  go_enter Try.func46, Try.ntmps46
  go_wp2_with fail
  go_loopw [7] (fun i wr => ∃ k : Nat, k ≤ n ∧ i = .int .i64 k ∧ Hid (okTo zs k = true) ∧ Below w.heap.size w wr) (fun i _ => n - (intOf i).toNat)
  case atStart => exact ⟨0, Nat.zero_le _, rfl, hide rfl, Below.refl _ _⟩
  case round =>
    obtain ⟨k, hk, rfl, HO, hbel⟩ := hrel
    have hsz := hbel.size
    have hk0 : (0 : Int) ≤ (k : Int) := Int.natCast_nonneg _
    by_cases hlt : k < n
    · obtain ⟨b, off, rfl, hl, hcells⟩ := hr (by omega)
      have fa := flat_at cs k (by have := unhide HC; omega)
      have hc0 : wr.cell? ⟨b, off + k, none⟩ = some (cat cs k) := (hbel.cell (p := ⟨b, _, none⟩) hl).trans (hcells k _ fa)
      have gd := unhide HG (at' zs k) (at_mem zs k (by have := unhide HN; omega))
      have HL := hide (Lab.impl_ok ((unhide HE k (by have := unhide HN; omega)).below hbel) gd.2)
      obtain ⟨c0, hX⟩ : ∃ c0, c0 = cat cs k := ⟨_, rfl⟩
      rw [← hX] at hc0 HL
      clear hX fa gd
      have hk1 : (k : Int) < (n : Int) := by omega
      cases hq : Lab.ok (at' zs k)
      · have HF := hide (show R = false by rw [unhide HR]; exact allOk_no (by have := unhide HN; omega) hq)
        rw [hq] at HL
        clear hq
        go_wp2_with fail
        refine (unhide HL).mono ?_
        rintro e w2 ⟨rfl, b2⟩
        have c2 := hbel.trans (b2.mono hsz)
        go_wp2_with fail
        go_ret
        exact ⟨ret_bool (unhide HF).symm, c2⟩
      · have HS := hide (show okTo zs (k + 1) = true by rw [okTo_succ zs k (by have := unhide HN; omega), unhide HO, hq]; rfl)
        rw [hq] at HL
        clear hq
        go_wp2_with fail
        refine (unhide HL).mono ?_
        rintro e w2 ⟨rfl, b2⟩
        have c2 := hbel.trans (b2.mono hsz)
        go_wp2_with fail
        go_roundw
        case rel => exact ⟨k + 1, by omega, by go_num, HS, c2⟩
        case measure => simp [intOf]; omega
    · obtain rfl : k = n := by omega
      have HF := hide (show R = decide ((k : Int) ≤ 40) by rw [unhide HR, allOk_end (by rw [← unhide HN]; exact unhide HO), ← unhide HN]; simp; omega)
      have hkf : decide ((k : Int) < (k : Int)) = false := by simp
      go_wp2_with fail
      go_ret
      exact ⟨ret_bool (unhide HF).symm, hbel⟩
set_option maxRecDepth 100000 in
set_option maxHeartbeats 2000000 in
theorem spec_all {w : World} {v : Value} {zs : List E} (h : Is w v zs) (hg : ∀ x ∈ zs, good x) : Calls Try.prog 43 #[v] w fun e w' => e = .returned (.bool (allOk zs)) ∧ Below w.heap.size w w' := by
  obtain ⟨cs, hcs, hL, hE⟩ := h
  have HE := hide hE
  obtain ⟨-, a, cap, rfl, hc, hm, -, hr⟩ := hL
  unfold maxLen at hm
  obtain ⟨n, hn⟩ : ∃ n, n = zs.length := ⟨_, rfl⟩
  rw [← hn] at hc hr hcs ⊢
  have HN := hide hn
  have HC := hide hcs
  have HG := hide hg
  clear hn hE hcs hg
  obtain ⟨R, hR⟩ : ∃ R, R = allOk zs := ⟨_, rfl⟩
  rw [← hR]
  have HR := hide hR
  clear hR
  go_enter Try.func43, Try.ntmps43
  go_wp2_with fail
  go_loopw [3] (fun i wr => ∃ k : Nat, k ≤ n ∧ i = .int .i64 k ∧ Hid (okTo zs k = true) ∧ Below w.heap.size w wr) (fun i _ => n - (intOf i).toNat)
  case atStart => exact ⟨0, Nat.zero_le _, rfl, hide rfl, Below.refl _ _⟩
  case round =>
    obtain ⟨k, hk, rfl, HO, hbel⟩ := hrel
    have hsz := hbel.size
    have hk0 : (0 : Int) ≤ (k : Int) := Int.natCast_nonneg _
    by_cases hlt : k < n
    · obtain ⟨b, off, rfl, hl, hcells⟩ := hr (by omega)
      have fa := flat_at cs k (by have := unhide HC; omega)
      have hc0 : wr.cell? ⟨b, off + k, none⟩ = some (cat cs k) := (hbel.cell (p := ⟨b, _, none⟩) hl).trans (hcells k _ fa)
      have gd := unhide HG (at' zs k) (at_mem zs k (by have := unhide HN; omega))
      have HL := hide (Lab.spec_ok ((unhide HE k (by have := unhide HN; omega)).below hbel) gd.2 gd.1)
      obtain ⟨c0, hX⟩ : ∃ c0, c0 = cat cs k := ⟨_, rfl⟩
      rw [← hX] at hc0 HL
      clear hX fa gd
      have hk1 : (k : Int) < (n : Int) := by omega
      cases hq : Lab.ok (at' zs k)
      · have HF := hide (show R = false by rw [unhide HR]; exact allOk_no (by have := unhide HN; omega) hq)
        rw [hq] at HL
        clear hq
        go_wp2_with fail
        refine (unhide HL).mono ?_
        rintro e w2 ⟨rfl, b2⟩
        have c2 := hbel.trans (b2.mono hsz)
        go_wp2_with fail
        go_ret
        exact ⟨ret_bool (unhide HF).symm, c2⟩
      · have HS := hide (show okTo zs (k + 1) = true by rw [okTo_succ zs k (by have := unhide HN; omega), unhide HO, hq]; rfl)
        rw [hq] at HL
        clear hq
        go_wp2_with fail
        refine (unhide HL).mono ?_
        rintro e w2 ⟨rfl, b2⟩
        have c2 := hbel.trans (b2.mono hsz)
        go_wp2_with fail
        go_roundw
        case rel => exact ⟨k + 1, by omega, by go_num, HS, c2⟩
        case measure => simp [intOf]; omega
    · obtain rfl : k = n := by omega
      have HF := hide (show R = decide ((k : Int) ≤ 40) by rw [unhide HR, allOk_end (by rw [← unhide HN]; exact unhide HO), ← unhide HN]; simp; omega)
      have hkf : decide ((k : Int) < (k : Int)) = false := by simp
      go_wp2_with fail
      go_ret
      exact ⟨ret_bool (unhide HF).symm, hbel⟩
end Go.Proofs.Ytfccibbgjjajjaa.Lss
