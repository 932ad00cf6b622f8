/- Whether all samples lie between two times; the latest and the earliest time. -/
import Derived.Test.YtpfllejfbmgbpaaDoorTabMath
namespace Go.Proofs.YtpfllejfbmgbpaaDoor.Row
open Go.RowKit Rw
set_option linter.unusedVariables false
attribute [local go_sem ↓] Go.wp_at_zero Go.wp_at_succ
set_option maxRecDepth 100000 in
set_option maxHeartbeats 4000000 in
theorem within_any {w : World} {v : Value} {zs : List E} (f t : Int) (h : Is w v zs) : Calls Tryd.prog 27 #[v, .int .i64 f, .int .i64 t] w fun e w' => e = .returned (.bool (within zs f t)) ∧ Below w.heap.size w w' := by
  obtain ⟨cs, hcs, hL, hE⟩ := h
  have HE := hide hE
  obtain ⟨-, a, cap, rfl, hc, hm, -, hr⟩ := hL
  unfold maxLen at hm
  obtain ⟨n, hn⟩ : ∃ n, n = zs.length := ⟨_, rfl⟩
  rw [← hn] at hc hr hcs ⊢
  have HN := hide hn
  have HC := hide hcs
  clear hn hE hcs
  go_enter Tryd.func27, Tryd.ntmps27
  go_wp2_with fail
  go_loopw [13] (fun i wr => ∃ (j : Nat), j ≤ n ∧ i = .int .i64 j ∧ Hid (within (zs.take j) f t = true) ∧ Below w.heap.size w wr) (fun i _ => n - (intOf i).toNat)
  case atStart => exact ⟨0, Nat.zero_le _, rfl, hide rfl, Below.refl _ _⟩
  case round =>
    obtain ⟨j, hj, rfl, HO, hbel⟩ := hrel
    obtain ⟨wo, hwo⟩ : ∃ wo, wo = wr := ⟨_, rfl⟩
    subst hwo
    have hsz := hbel.size
    by_cases hlt : j < n
    · obtain ⟨b, off, rfl, hl, hcells⟩ := hr (by omega)
      have fa := flat_at cs j (by have := unhide HC; omega)
      have hc1 : wo.cell? ⟨b, off + j * 2 + 1, none⟩ = some (cat cs j).2 := (hbel.cell (p := ⟨b, _, none⟩) hl).trans (hcells (j * 2 + 1) _ fa.2)
      have hc0 : wo.cell? ⟨b, off + j * 2, none⟩ = some (cat cs j).1 := (hbel.cell (p := ⟨b, _, none⟩) hl).trans (hcells (j * 2) _ fa.1)
      have hEj := (unhide HE j (by have := unhide HN; omega)).below hbel
      obtain ⟨-, a2, q2, f2, g2, g2', -, hr2⟩ := hEj.2
      obtain ⟨l2, hl2⟩ : ∃ l, l = (at' zs j).2.length := ⟨_, rfl⟩
      unfold maxLen at g2'
      rw [f2, ← hl2] at hc1
      rw [← hl2] at g2 hr2
      have HL2 := hide hl2
      have hk0 : (0 : Int) ≤ (j : Int) := Int.natCast_nonneg _
      have hk1 : (j : Int) < (n : Int) := by omega
      obtain ⟨a1, q1, f1, -, -⟩ := hEj.1.form
      obtain ⟨l1, hl1⟩ : ∃ l, l = (at' zs j).1.length := ⟨_, rfl⟩
      rw [f1, ← hl1] at hc0
      clear fa hEj f1 f2 hl1 hl2
      go_wp2_with fail
      obtain ⟨wa, hwa⟩ : ∃ wa, wa = wo.alloc (.cells #[.slice a1 l1 q1, .slice a2 l2 q2] 78) := ⟨_, rfl⟩
      have ba : Below wo.heap.size wo wa := by rw [hwa]; exact (Below.refl _ _).alloc (Nat.le_refl _) _
      rw [← hwa]
      clear hwa
      have hbela : Below w.heap.size w wa := hbel.trans (ba.mono hsz)
      go_loopw [20] (fun i wr => ∃ (k : Nat), k ≤ l2 ∧ i = .int .i64 k ∧ Hid (within1 ((at' zs j).2.take k) f t = true) ∧ Below wo.heap.size wo wr) (fun i _ => l2 - (intOf i).toNat)
      case atStart => exact ⟨0, Nat.zero_le _, rfl, hide rfl, ba⟩
      case round =>
        obtain ⟨k, hk, rfl, HK, hbel2⟩ := hrel
        have hsz2 := hbel2.size
        have hbw : Below w.heap.size w wr := hbel.trans (hbel2.mono hsz)
        by_cases hlt2 : k < l2
        · obtain ⟨b2, off2, rfl, hlb, hcells2⟩ := hr2 (by omega)
          have fs := Sam.flat_at (at' zs j).2 k (by have := unhide HL2; omega)
          have hx0 : wr.cell? ⟨b2, off2 + k * 2, none⟩ = some (.int .i64 (Sam.at' (at' zs j).2 k).1) := (hbel2.cell (p := ⟨b2, _, none⟩) hlb).trans (hcells2 (k * 2) _ fs.1)
          have hx1 : wr.cell? ⟨b2, off2 + k * 2 + 1, none⟩ = some (.int .i64 (Sam.at' (at' zs j).2 k).2) := (hbel2.cell (p := ⟨b2, _, none⟩) hlb).trans (hcells2 (k * 2 + 1) _ fs.2)
          have HB := hide (fun h => within_bad (zs := zs) (f := f) (t := t) (j := j) (by have := unhide HN; omega) (within1_bad (k := k) (by have := unhide HL2; omega) h))
          have HSn := hide (fun h1 h2 => within1_snoc (l := (at' zs j).2) (f := f) (t := t) (k := k) (by have := unhide HL2; omega) (unhide HK) h1 h2)
          obtain ⟨T, hT⟩ : ∃ T, T = (Sam.at' (at' zs j).2 k).1 := ⟨_, rfl⟩
          obtain ⟨V, hV⟩ : ∃ V, V = (Sam.at' (at' zs j).2 k).2 := ⟨_, rfl⟩
          rw [← hT] at hx0 HB HSn
          rw [← hV] at hx1
          clear hT hV fs
          have hm0 : (0 : Int) ≤ (k : Int) := Int.natCast_nonneg _
          have hm1 : (k : Int) < (l2 : Int) := by omega
          have hb9 := hbw.alloc hbw.size (.cells #[.int .i64 T, .int .i64 V] 82)
          have hb8 := hbel2.alloc hbel2.size (.cells #[.int .i64 T, .int .i64 V] 82)
          rcases (show T < f ∨ (f ≤ T ∧ t ≤ T) ∨ (f ≤ T ∧ T < t) from by omega) with hs | ⟨hs, hs'⟩ | ⟨hs, hs'⟩
          · have HF := hide (unhide HB (.inl hs))
            go_wp2_with fail
            go_ret
            exact ⟨ret_bool (unhide HF).symm, hb9⟩
          · have HF := hide (unhide HB (.inr hs'))
            have hs3 : ¬ T < f := by omega
            go_wp2_with fail
            go_ret
            exact ⟨ret_bool (unhide HF).symm, hb9⟩
          · have HU := hide (unhide HSn hs hs')
            have hs3 : ¬ T < f := by omega
            have hs4 : ¬ t ≤ T := by omega
            go_wp2
            go_roundw
            case rel => exact ⟨k + 1, by omega, by go_num, HU, hb8⟩
            case measure => simp [intOf]; omega
        · obtain rfl : k = l2 := by omega
          have HU := hide (within_snoc (zs := zs) (f := f) (t := t) (j := j) (by have := unhide HN; omega) (unhide HO) (by have := unhide HK; rwa [List.take_of_length_le (by have := unhide HL2; omega)] at this))
          go_wp2
          go_roundw
          case rel => exact ⟨j + 1, by omega, by go_num, HU, hbw⟩
          case measure => simp [intOf]; omega
    · obtain rfl : j = n := by omega
      have HU := hide (show within zs f t = true by have := unhide HO; rwa [List.take_of_length_le (by have := unhide HN; omega)] at this)
      go_wp2
      go_ret
      exact ⟨ret_bool (unhide HU).symm, hbel⟩
set_option maxRecDepth 100000 in
set_option maxHeartbeats 4000000 in
theorem last_any {w : World} {v : Value} {zs : List E} (h : Is w v zs) (hok : ok zs = true) : Calls Tryd.prog 23 #[v] w fun e w' => e = .returned (.int .i64 (lastR zs)) ∧ w' = w := by
  have HOK := hide hok
  clear hok
  obtain ⟨cs, hcs, hL, hE⟩ := h
  have HE := hide hE
  obtain ⟨-, a, cap, rfl, hc, hm, -, hr⟩ := hL
  unfold maxLen at hm
  obtain ⟨n, hn⟩ : ∃ n, n = zs.length := ⟨_, rfl⟩
  rw [← hn] at hc hr hcs ⊢
  have HN := hide hn
  have HC := hide hcs
  clear hn hE hcs
  go_enter Tryd.func23, Tryd.ntmps23
  go_wp2_with fail
  go_loopw [3, 4] (fun o i wr => ∃ (j : Nat) (M : Int), j ≤ n ∧ i = .int .i64 j ∧ o = .int .i64 M ∧ Hid (M = lastR (zs.take j)) ∧ wr = w) (fun _ i _ => n - (intOf i).toNat)
  case atStart => exact ⟨0, _, Nat.zero_le _, rfl, rfl, hide rfl, rfl⟩
  case round =>
    obtain ⟨j, M, hj, rfl, rfl, HM, rfl⟩ := hrel
    by_cases hlt : j < n
    · obtain ⟨b, off, rfl, hl, hcells⟩ := hr (by omega)
      have hbel := Below.refl wr.heap.size wr
      have fa := flat_at cs j (by have := unhide HC; omega)
      have hc1 : wr.cell? ⟨b, off + j * 2 + 1, none⟩ = some (cat cs j).2 := (hbel.cell (p := ⟨b, _, none⟩) hl).trans (hcells (j * 2 + 1) _ fa.2)
      have hEj := (unhide HE j (by have := unhide HN; omega)).below hbel
      obtain ⟨-, a2, q2, f2, g2, g2', -, hr2⟩ := hEj.2
      obtain ⟨l2, hl2⟩ : ∃ l, l = (at' zs j).2.length := ⟨_, rfl⟩
      unfold maxLen at g2'
      rw [f2, ← hl2] at hc1
      rw [← hl2] at g2 hr2
      have HL2 := hide hl2
      have hk0 : (0 : Int) ≤ (j : Int) := Int.natCast_nonneg _
      have hk1 : (j : Int) < (n : Int) := by omega
      have hst := step_is (ok_at (unhide HOK) (show j < zs.length by have := unhide HN; omega))
      obtain ⟨b2, off2, rfl, hlb, hcells2⟩ := hr2 (by rw [hl2]; exact hst.2.1)
      have hpos : 1 ≤ l2 := by rw [hl2]; exact hst.2.1
      have HS := hide (lastR_snoc zs j (by have := unhide HN; omega))
      rw [← unhide HM] at HS
      obtain ⟨l3, rfl⟩ : ∃ l3, l2 = l3 + 1 := ⟨l2 - 1, by omega⟩
      have fs := Sam.flat_at (at' zs j).2 l3 (by have := unhide HL2; omega)
      have hx0 : wr.cell? ⟨b2, off2 + l3 * 2, none⟩ = some (.int .i64 (Sam.at' (at' zs j).2 l3).1) := hcells2 (l3 * 2) _ fs.1
      have hO : lastOf (at' zs j).2 = (Sam.at' (at' zs j).2 l3).1 := by unfold lastOf; rw [← unhide HL2]; rfl
      have hm0 : (0 : Int) ≤ (l3 : Int) := Int.natCast_nonneg _
      have hm1 : (l3 : Int) < ((l3 + 1 : Nat) : Int) := by omega
      have hm2 : ((l3 + 1 : Nat) : Int) - 1 = (l3 : Int) := by omega
      rw [← hO] at hx0
      clear hO
      obtain ⟨T, hT⟩ : ∃ T, T = lastOf (at' zs j).2 := ⟨_, rfl⟩
      rw [← hT] at hx0 HS
      clear hT fs hEj f2 fa hst hl2
      by_cases hc : M < T
      · have HU := hide (show T = lastR (zs.take (j + 1)) by rw [unhide HS, if_pos hc])
        go_wp2
        go_roundw
        case rel => exact ⟨j + 1, T, by omega, by go_num, rfl, HU, trivial⟩
        case measure => simp [intOf]; omega
      · have HU := hide (show M = lastR (zs.take (j + 1)) by rw [unhide HS, if_neg hc])
        go_wp2
        go_roundw
        case rel => exact ⟨j + 1, M, by omega, by go_num, rfl, HU, trivial⟩
        case measure => simp [intOf]; omega
    · obtain rfl : j = n := by omega
      have HU := hide (show M = lastR zs by rw [unhide HM, List.take_of_length_le (by have := unhide HN; omega)])
      go_wp2
      go_ret
      exact ⟨ret_int (unhide HU), rfl⟩
set_option maxRecDepth 100000 in
set_option maxHeartbeats 4000000 in
theorem first_any {w : World} {v : Value} {zs : List E} (h : Is w v zs) (hok : ok zs = true) : Calls Tryd.prog 22 #[v] w fun e w' => e = .returned (.int .i64 (firstR zs)) ∧ w' = w := by
  have HOK := hide hok
  clear hok
  obtain ⟨cs, hcs, hL, hE⟩ := h
  have HE := hide hE
  obtain ⟨-, a, cap, rfl, hc, hm, -, hr⟩ := hL
  unfold maxLen at hm
  obtain ⟨n, hn⟩ : ∃ n, n = zs.length := ⟨_, rfl⟩
  rw [← hn] at hc hr hcs ⊢
  have HN := hide hn
  have HC := hide hcs
  clear hn hE hcs
  go_enter Tryd.func22, Tryd.ntmps22
  go_wp2_with fail
  go_loopw [3, 4] (fun o i wr => ∃ (j : Nat) (M : Int), j ≤ n ∧ i = .int .i64 j ∧ o = .int .i64 M ∧ Hid (M = firstR (zs.take j)) ∧ wr = w) (fun _ i _ => n - (intOf i).toNat)
  case atStart => exact ⟨0, _, Nat.zero_le _, rfl, rfl, hide rfl, rfl⟩
  case round =>
    obtain ⟨j, M, hj, rfl, rfl, HM, rfl⟩ := hrel
    by_cases hlt : j < n
    · obtain ⟨b, off, rfl, hl, hcells⟩ := hr (by omega)
      have hbel := Below.refl wr.heap.size wr
      have fa := flat_at cs j (by have := unhide HC; omega)
      have hc1 : wr.cell? ⟨b, off + j * 2 + 1, none⟩ = some (cat cs j).2 := (hbel.cell (p := ⟨b, _, none⟩) hl).trans (hcells (j * 2 + 1) _ fa.2)
      have hEj := (unhide HE j (by have := unhide HN; omega)).below hbel
      obtain ⟨-, a2, q2, f2, g2, g2', -, hr2⟩ := hEj.2
      obtain ⟨l2, hl2⟩ : ∃ l, l = (at' zs j).2.length := ⟨_, rfl⟩
      unfold maxLen at g2'
      rw [f2, ← hl2] at hc1
      rw [← hl2] at g2 hr2
      have HL2 := hide hl2
      have hk0 : (0 : Int) ≤ (j : Int) := Int.natCast_nonneg _
      have hk1 : (j : Int) < (n : Int) := by omega
      have hst := step_is (ok_at (unhide HOK) (show j < zs.length by have := unhide HN; omega))
      obtain ⟨b2, off2, rfl, hlb, hcells2⟩ := hr2 (by rw [hl2]; exact hst.2.1)
      have hpos : 1 ≤ l2 := by rw [hl2]; exact hst.2.1
      have HS := hide (firstR_snoc zs j (by have := unhide HN; omega))
      rw [← unhide HM] at HS
      have fs := Sam.flat_at (at' zs j).2 0 (by have := unhide HL2; omega)
      have hx0 : wr.cell? ⟨b2, off2, none⟩ = some (.int .i64 (Sam.at' (at' zs j).2 0).1) := by have := hcells2 0 _ (by simpa using fs.1); simpa using this
      have hO : firstOf (at' zs j).2 = (Sam.at' (at' zs j).2 0).1 := rfl
      have hm1 : (0 : Int) < (l2 : Int) := by omega
      rw [← hO] at hx0
      clear hO
      obtain ⟨T, hT⟩ : ∃ T, T = firstOf (at' zs j).2 := ⟨_, rfl⟩
      rw [← hT] at hx0 HS
      clear hT fs hEj f2 fa hst hl2
      by_cases hc : T < M
      · have HU := hide (show T = firstR (zs.take (j + 1)) by rw [unhide HS, if_pos hc])
        go_wp2
        go_roundw
        case rel => exact ⟨j + 1, T, by omega, by go_num, rfl, HU, trivial⟩
        case measure => simp [intOf]; omega
      · have HU := hide (show M = firstR (zs.take (j + 1)) by rw [unhide HS, if_neg hc])
        go_wp2
        go_roundw
        case rel => exact ⟨j + 1, M, by omega, by go_num, rfl, HU, trivial⟩
        case measure => simp [intOf]; omega
    · obtain rfl : j = n := by omega
      have HU := hide (show M = firstR zs by rw [unhide HM, List.take_of_length_le (by have := unhide HN; omega)])
      go_wp2
      go_ret
      exact ⟨ret_int (unhide HU), rfl⟩
end Go.Proofs.YtpfllejfbmgbpaaDoor.Row
