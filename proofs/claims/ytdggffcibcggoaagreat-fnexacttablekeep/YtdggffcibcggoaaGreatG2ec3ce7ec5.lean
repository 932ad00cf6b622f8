/- My own texts of one claim, laid together by program: TabEnds, In, Samp. -/
import Derived.Test.YtdggffcibcggoaaGreatG4d643710ee
import Derived.Test.YtdggffcibcggoaaGreatG7970bcce0e
import Derived.Test.YtdggffcibcggoaaGreatG2db420e969
/- Whether all samples lie between two times; the latest and the earliest time. -/
namespace Go.Proofs.YtdggffcibcggoaaGreat.Row
open Go.RowKit Rw
set_option linter.unusedVariables false
attribute [local go_sem ↓] Go.wp_at_zero Go.wp_at_succ
set_option maxRecDepth 100000 in
set_option maxHeartbeats 4000000 in
theorem within_any {w : World} {v : Value} {zs : List E} (f t : Int) (h : Is w v zs) : Calls Tryz.prog 65 #[v, .int .i64 f, .int .i64 t] w fun e w' => e = .returned (.bool (within zs f t)) ∧ Below w.heap.size w w' := by
  obtain ⟨cs, hcs, hL, hE⟩ := h
  have HE := hide hE
  obtain ⟨-, a, cap, rfl, hc, hm, -, hr⟩ := hL
  unfold maxLen at hm
  obtain ⟨n, hn⟩ : ∃ n, n = zs.length := ⟨_, rfl⟩
  rw [← hn] at hc hr hcs ⊢
  have HN := hide hn
  have HC := hide hcs
  clear hn hE hcs
  go_enter Tryz.func65, Tryz.ntmps65
  go_wp2_with fail
  go_loopw [13] (fun i wr => ∃ (j : Nat), j ≤ n ∧ i = .int .i64 j ∧ Hid (within (zs.take j) f t = true) ∧ Below w.heap.size w wr) (fun i _ => n - (intOf i).toNat)
  case atStart => exact ⟨0, Nat.zero_le _, rfl, hide rfl, Below.refl _ _⟩
  case round =>
    obtain ⟨j, hj, rfl, HO, hbel⟩ := hrel
    obtain ⟨wo, hwo⟩ : ∃ wo, wo = wr := ⟨_, rfl⟩
    subst hwo
    have hsz := hbel.size
    by_cases hlt : j < n
    · obtain ⟨b, off, rfl, hl, hcells⟩ := hr (by omega)
      have fa := flat_at cs j (by have := unhide HC; omega)
      have hc1 : wo.cell? ⟨b, off + j * 2 + 1, none⟩ = some (cat cs j).2 := (hbel.cell (p := ⟨b, _, none⟩) hl).trans (hcells (j * 2 + 1) _ fa.2)
      have hc0 : wo.cell? ⟨b, off + j * 2, none⟩ = some (cat cs j).1 := (hbel.cell (p := ⟨b, _, none⟩) hl).trans (hcells (j * 2) _ fa.1)
      have hEj := (unhide HE j (by have := unhide HN; omega)).below hbel
      obtain ⟨-, a2, q2, f2, g2, g2', -, hr2⟩ := hEj.2
      obtain ⟨l2, hl2⟩ : ∃ l, l = (at' zs j).2.length := ⟨_, rfl⟩
      unfold maxLen at g2'
      rw [f2, ← hl2] at hc1
      rw [← hl2] at g2 hr2
      have HL2 := hide hl2
      have hk0 : (0 : Int) ≤ (j : Int) := Int.natCast_nonneg _
      have hk1 : (j : Int) < (n : Int) := by omega
      obtain ⟨a1, q1, f1, -, -⟩ := hEj.1.form
      obtain ⟨l1, hl1⟩ : ∃ l, l = (at' zs j).1.length := ⟨_, rfl⟩
      rw [f1, ← hl1] at hc0
      clear fa hEj f1 f2 hl1 hl2
      go_wp2_with fail
      obtain ⟨wa, hwa⟩ : ∃ wa, wa = wo.alloc (.cells #[.slice a1 l1 q1, .slice a2 l2 q2] 88) := ⟨_, rfl⟩
      have ba : Below wo.heap.size wo wa := by rw [hwa]; exact (Below.refl _ _).alloc (Nat.le_refl _) _
      rw [← hwa]
      clear hwa
      have hbela : Below w.heap.size w wa := hbel.trans (ba.mono hsz)
      go_loopw [20] (fun i wr => ∃ (k : Nat), k ≤ l2 ∧ i = .int .i64 k ∧ Hid (within1 ((at' zs j).2.take k) f t = true) ∧ Below wo.heap.size wo wr) (fun i _ => l2 - (intOf i).toNat)
      case atStart => exact ⟨0, Nat.zero_le _, rfl, hide rfl, ba⟩
      case round =>
        obtain ⟨k, hk, rfl, HK, hbel2⟩ := hrel
        have hsz2 := hbel2.size
        have hbw : Below w.heap.size w wr := hbel.trans (hbel2.mono hsz)
        by_cases hlt2 : k < l2
        · obtain ⟨b2, off2, rfl, hlb, hcells2⟩ := hr2 (by omega)
          have fs := Sam.flat_at (at' zs j).2 k (by have := unhide HL2; omega)
          have hx0 : wr.cell? ⟨b2, off2 + k * 2, none⟩ = some (.int .i64 (Sam.at' (at' zs j).2 k).1) := (hbel2.cell (p := ⟨b2, _, none⟩) hlb).trans (hcells2 (k * 2) _ fs.1)
          have hx1 : wr.cell? ⟨b2, off2 + k * 2 + 1, none⟩ = some (.int .i64 (Sam.at' (at' zs j).2 k).2) := (hbel2.cell (p := ⟨b2, _, none⟩) hlb).trans (hcells2 (k * 2 + 1) _ fs.2)
          have HB := hide (fun h => within_bad (zs := zs) (f := f) (t := t) (j := j) (by have := unhide HN; omega) (within1_bad (k := k) (by have := unhide HL2; omega) h))
          have HSn := hide (fun h1 h2 => within1_snoc (l := (at' zs j).2) (f := f) (t := t) (k := k) (by have := unhide HL2; omega) (unhide HK) h1 h2)
          obtain ⟨T, hT⟩ : ∃ T, T = (Sam.at' (at' zs j).2 k).1 := ⟨_, rfl⟩
          obtain ⟨V, hV⟩ : ∃ V, V = (Sam.at' (at' zs j).2 k).2 := ⟨_, rfl⟩
          rw [← hT] at hx0 HB HSn
          rw [← hV] at hx1
          clear hT hV fs
          have hm0 : (0 : Int) ≤ (k : Int) := Int.natCast_nonneg _
          have hm1 : (k : Int) < (l2 : Int) := by omega
          have hb9 := hbw.alloc hbw.size (.cells #[.int .i64 T, .int .i64 V] 133)
          have hb8 := hbel2.alloc hbel2.size (.cells #[.int .i64 T, .int .i64 V] 133)
          rcases (show T < f ∨ (f ≤ T ∧ t ≤ T) ∨ (f ≤ T ∧ T < t) from by omega) with hs | ⟨hs, hs'⟩ | ⟨hs, hs'⟩
          · have HF := hide (unhide HB (.inl hs))
            go_wp2_with fail
            go_ret
            exact ⟨ret_bool (unhide HF).symm, hb9⟩
          · have HF := hide (unhide HB (.inr hs'))
            have hs3 : ¬ T < f := by omega
            go_wp2_with fail
            go_ret
            exact ⟨ret_bool (unhide HF).symm, hb9⟩
          · have HU := hide (unhide HSn hs hs')
            have hs3 : ¬ T < f := by omega
            have hs4 : ¬ t ≤ T := by omega
            go_wp2
            go_roundw
            case rel => exact ⟨k + 1, by omega, by go_num, HU, hb8⟩
            case measure => simp [intOf]; omega
        · obtain rfl : k = l2 := by omega
          have HU := hide (within_snoc (zs := zs) (f := f) (t := t) (j := j) (by have := unhide HN; omega) (unhide HO) (by have := unhide HK; rwa [List.take_of_length_le (by have := unhide HL2; omega)] at this))
          go_wp2
          go_roundw
          case rel => exact ⟨j + 1, by omega, by go_num, HU, hbw⟩
          case measure => simp [intOf]; omega
    · obtain rfl : j = n := by omega
      have HU := hide (show within zs f t = true by have := unhide HO; rwa [List.take_of_length_le (by have := unhide HN; omega)] at this)
      go_wp2
      go_ret
      exact ⟨ret_bool (unhide HU).symm, hbel⟩
set_option maxRecDepth 100000 in
set_option maxHeartbeats 4000000 in
theorem last_any {w : World} {v : Value} {zs : List E} (h : Is w v zs) (hok : ok zs = true) : Calls Tryz.prog 58 #[v] w fun e w' => e = .returned (.int .i64 (lastR zs)) ∧ w' = w := by
  have HOK := hide hok
  clear hok
  obtain ⟨cs, hcs, hL, hE⟩ := h
  have HE := hide hE
  obtain ⟨-, a, cap, rfl, hc, hm, -, hr⟩ := hL
  unfold maxLen at hm
  obtain ⟨n, hn⟩ : ∃ n, n = zs.length := ⟨_, rfl⟩
  rw [← hn] at hc hr hcs ⊢
  have HN := hide hn
  have HC := hide hcs
  clear hn hE hcs
  go_enter Tryz.func58, Tryz.ntmps58
  go_wp2_with fail
  go_loopw [3, 4] (fun o i wr => ∃ (j : Nat) (M : Int), j ≤ n ∧ i = .int .i64 j ∧ o = .int .i64 M ∧ Hid (M = lastR (zs.take j)) ∧ wr = w) (fun _ i _ => n - (intOf i).toNat)
  case atStart => exact ⟨0, _, Nat.zero_le _, rfl, rfl, hide rfl, rfl⟩
  case round =>
    obtain ⟨j, M, hj, rfl, rfl, HM, rfl⟩ := hrel
    by_cases hlt : j < n
    · obtain ⟨b, off, rfl, hl, hcells⟩ := hr (by omega)
      have hbel := Below.refl wr.heap.size wr
      have fa := flat_at cs j (by have := unhide HC; omega)
      have hc1 : wr.cell? ⟨b, off + j * 2 + 1, none⟩ = some (cat cs j).2 := (hbel.cell (p := ⟨b, _, none⟩) hl).trans (hcells (j * 2 + 1) _ fa.2)
      have hEj := (unhide HE j (by have := unhide HN; omega)).below hbel
      obtain ⟨-, a2, q2, f2, g2, g2', -, hr2⟩ := hEj.2
      obtain ⟨l2, hl2⟩ : ∃ l, l = (at' zs j).2.length := ⟨_, rfl⟩
      unfold maxLen at g2'
      rw [f2, ← hl2] at hc1
      rw [← hl2] at g2 hr2
      have HL2 := hide hl2
      have hk0 : (0 : Int) ≤ (j : Int) := Int.natCast_nonneg _
      have hk1 : (j : Int) < (n : Int) := by omega
      have hst := step_is (ok_at (unhide HOK) (show j < zs.length by have := unhide HN; omega))
      obtain ⟨b2, off2, rfl, hlb, hcells2⟩ := hr2 (by rw [hl2]; exact hst.2.1)
      have hpos : 1 ≤ l2 := by rw [hl2]; exact hst.2.1
      have HS := hide (lastR_snoc zs j (by have := unhide HN; omega))
      rw [← unhide HM] at HS
      obtain ⟨l3, rfl⟩ : ∃ l3, l2 = l3 + 1 := ⟨l2 - 1, by omega⟩
      have fs := Sam.flat_at (at' zs j).2 l3 (by have := unhide HL2; omega)
      have hx0 : wr.cell? ⟨b2, off2 + l3 * 2, none⟩ = some (.int .i64 (Sam.at' (at' zs j).2 l3).1) := hcells2 (l3 * 2) _ fs.1
      have hO : lastOf (at' zs j).2 = (Sam.at' (at' zs j).2 l3).1 := by unfold lastOf; rw [← unhide HL2]; rfl
      have hm0 : (0 : Int) ≤ (l3 : Int) := Int.natCast_nonneg _
      have hm1 : (l3 : Int) < ((l3 + 1 : Nat) : Int) := by omega
      have hm2 : ((l3 + 1 : Nat) : Int) - 1 = (l3 : Int) := by omega
      rw [← hO] at hx0
      clear hO
      obtain ⟨T, hT⟩ : ∃ T, T = lastOf (at' zs j).2 := ⟨_, rfl⟩
      rw [← hT] at hx0 HS
      clear hT fs hEj f2 fa hst hl2
      by_cases hc : M < T
      · have HU := hide (show T = lastR (zs.take (j + 1)) by rw [unhide HS, if_pos hc])
        go_wp2
        go_roundw
        case rel => exact ⟨j + 1, T, by omega, by go_num, rfl, HU, trivial⟩
        case measure => simp [intOf]; omega
      · have HU := hide (show M = lastR (zs.take (j + 1)) by rw [unhide HS, if_neg hc])
        go_wp2
        go_roundw
        case rel => exact ⟨j + 1, M, by omega, by go_num, rfl, HU, trivial⟩
        case measure => simp [intOf]; omega
    · obtain rfl : j = n := by omega
      have HU := hide (show M = lastR zs by rw [unhide HM, List.take_of_length_le (by have := unhide HN; omega)])
      go_wp2
      go_ret
      exact ⟨ret_int (unhide HU), rfl⟩
set_option maxRecDepth 100000 in
set_option maxHeartbeats 4000000 in
theorem first_any {w : World} {v : Value} {zs : List E} (h : Is w v zs) (hok : ok zs = true) : Calls Tryz.prog 59 #[v] w fun e w' => e = .returned (.int .i64 (firstR zs)) ∧ w' = w := by
  have HOK := hide hok
  clear hok
  obtain ⟨cs, hcs, hL, hE⟩ := h
  have HE := hide hE
  obtain ⟨-, a, cap, rfl, hc, hm, -, hr⟩ := hL
  unfold maxLen at hm
  obtain ⟨n, hn⟩ : ∃ n, n = zs.length := ⟨_, rfl⟩
  rw [← hn] at hc hr hcs ⊢
  have HN := hide hn
  have HC := hide hcs
  clear hn hE hcs
  go_enter Tryz.func59, Tryz.ntmps59
  go_wp2_with fail
  go_loopw [3, 4] (fun o i wr => ∃ (j : Nat) (M : Int), j ≤ n ∧ i = .int .i64 j ∧ o = .int .i64 M ∧ Hid (M = firstR (zs.take j)) ∧ wr = w) (fun _ i _ => n - (intOf i).toNat)
  case atStart => exact ⟨0, _, Nat.zero_le _, rfl, rfl, hide rfl, rfl⟩
  case round =>
    obtain ⟨j, M, hj, rfl, rfl, HM, rfl⟩ := hrel
    by_cases hlt : j < n
    · obtain ⟨b, off, rfl, hl, hcells⟩ := hr (by omega)
      have hbel := Below.refl wr.heap.size wr
      have fa := flat_at cs j (by have := unhide HC; omega)
      have hc1 : wr.cell? ⟨b, off + j * 2 + 1, none⟩ = some (cat cs j).2 := (hbel.cell (p := ⟨b, _, none⟩) hl).trans (hcells (j * 2 + 1) _ fa.2)
      have hEj := (unhide HE j (by have := unhide HN; omega)).below hbel
      obtain ⟨-, a2, q2, f2, g2, g2', -, hr2⟩ := hEj.2
      obtain ⟨l2, hl2⟩ : ∃ l, l = (at' zs j).2.length := ⟨_, rfl⟩
      unfold maxLen at g2'
      rw [f2, ← hl2] at hc1
      rw [← hl2] at g2 hr2
      have HL2 := hide hl2
      have hk0 : (0 : Int) ≤ (j : Int) := Int.natCast_nonneg _
      have hk1 : (j : Int) < (n : Int) := by omega
      have hst := step_is (ok_at (unhide HOK) (show j < zs.length by have := unhide HN; omega))
      obtain ⟨b2, off2, rfl, hlb, hcells2⟩ := hr2 (by rw [hl2]; exact hst.2.1)
      have hpos : 1 ≤ l2 := by rw [hl2]; exact hst.2.1
      have HS := hide (firstR_snoc zs j (by have := unhide HN; omega))
      rw [← unhide HM] at HS
      have fs := Sam.flat_at (at' zs j).2 0 (by have := unhide HL2; omega)
      have hx0 : wr.cell? ⟨b2, off2, none⟩ = some (.int .i64 (Sam.at' (at' zs j).2 0).1) := by have := hcells2 0 _ (by simpa using fs.1); simpa using this
      have hO : firstOf (at' zs j).2 = (Sam.at' (at' zs j).2 0).1 := rfl
      have hm1 : (0 : Int) < (l2 : Int) := by omega
      rw [← hO] at hx0
      clear hO
      obtain ⟨T, hT⟩ : ∃ T, T = firstOf (at' zs j).2 := ⟨_, rfl⟩
      rw [← hT] at hx0 HS
      clear hT fs hEj f2 fa hst hl2
      by_cases hc : T < M
      · have HU := hide (show T = firstR (zs.take (j + 1)) by rw [unhide HS, if_pos hc])
        go_wp2
        go_roundw
        case rel => exact ⟨j + 1, T, by omega, by go_num, rfl, HU, trivial⟩
        case measure => simp [intOf]; omega
      · have HU := hide (show M = firstR (zs.take (j + 1)) by rw [unhide HS, if_neg hc])
        go_wp2
        go_roundw
        case rel => exact ⟨j + 1, M, by omega, by go_num, rfl, HU, trivial⟩
        case measure => simp [intOf]; omega
    · obtain rfl : j = n := by omega
      have HU := hide (show M = firstR zs by rw [unhide HM, List.take_of_length_le (by have := unhide HN; omega)])
      go_wp2
      go_ret
      exact ⟨ret_int (unhide HU), rfl⟩
end Go.Proofs.YtdggffcibcggoaaGreat.Row

/- Whether a number lies between two others: spec.l1In. No condition. -/
namespace Go.Proofs.YtdggffcibcggoaaGreat.Zig
open Go.RowKit
def inB (n lo hi : Int) : Bool := decide (lo ≤ n) && decide (n ≤ hi)
theorem in_yes (n lo hi : Int) (w : World) (h1 : lo ≤ n) (h2 : n ≤ hi) : Calls Tryz.prog 57 #[.int .i64 n, .int .i64 lo, .int .i64 hi] w fun e w' => e = .returned (.bool true) ∧ w' = w := by
  go_enter Tryz.func57, Tryz.ntmps57
  go_wp2
  go_ret
  exact ⟨rfl, rfl⟩
theorem in_low (n lo hi : Int) (w : World) (h1 : n < lo) : Calls Tryz.prog 57 #[.int .i64 n, .int .i64 lo, .int .i64 hi] w fun e w' => e = .returned (.bool false) ∧ w' = w := by
  go_enter Tryz.func57, Tryz.ntmps57
  go_wp2
  go_ret
  exact ⟨rfl, rfl⟩
theorem in_high (n lo hi : Int) (w : World) (h0 : lo ≤ n) (h1 : hi < n) : Calls Tryz.prog 57 #[.int .i64 n, .int .i64 lo, .int .i64 hi] w fun e w' => e = .returned (.bool false) ∧ w' = w := by
  go_enter Tryz.func57, Tryz.ntmps57
  go_wp2
  go_ret
  exact ⟨ret_bool (by simpa using h1), rfl⟩
theorem in_any (n lo hi : Int) (w : World) : Calls Tryz.prog 57 #[.int .i64 n, .int .i64 lo, .int .i64 hi] w fun e w' => e = .returned (.bool (inB n lo hi)) ∧ w' = w := by
  unfold inB
  by_cases h1 : lo ≤ n
  · by_cases h2 : n ≤ hi
    · rw [decide_eq_true h1, decide_eq_true h2]; exact in_yes n lo hi w h1 h2
    · rw [decide_eq_false h2, Bool.and_false]; exact in_high n lo hi w h1 (by omega)
  · rw [decide_eq_false h1, Bool.false_and]; exact in_low n lo hi w (by omega)
end Go.Proofs.YtdggffcibcggoaaGreat.Zig

/- Slices of samples in memory; SamplesOk, of the program and of the model. -/
namespace Go.Proofs.YtdggffcibcggoaaGreat.Samp
open Go.RowKit SampMath Rw
attribute [local go_sem ↓] Go.wp_at_zero Go.wp_at_succ
/-- A slice of samples that reads as zs: nil, or its cells. -/
def Reads (w : World) (b off : Nat) (zs : List S) : Prop :=
  ∀ i, i < zs.length → w.cell? ⟨b, off + i * 2, none⟩ = some (.int .i64 (at' zs i).1) ∧ w.cell? ⟨b, off + i * 2 + 1, none⟩ = some (.int .i64 (at' zs i).2)
def Smp (w : World) (v : Value) (zs : List S) : Prop :=
  (v = .slice none 0 0 ∧ zs = []) ∨ ∃ b off cap, v = .slice (some ⟨b, off, none⟩) zs.length cap ∧ zs.length ≤ cap ∧ cap ≤ maxLen ∧ b < w.heap.size ∧ Reads w b off zs
theorem Reads.below {w w' : World} {b off : Nat} {zs : List S} (h : Reads w b off zs) (hb : Below w.heap.size w w') (hl : b < w.heap.size) : Reads w' b off zs := fun i hi =>
  ⟨(hb.cell (p := ⟨b, _, none⟩) hl).trans (h i hi).1, (hb.cell (p := ⟨b, _, none⟩) hl).trans (h i hi).2⟩
theorem Smp.below {w w' : World} {v : Value} {zs : List S} (h : Smp w v zs) (hb : Below w.heap.size w w') : Smp w' v zs := by
  rcases h with h | ⟨b, off, cap, h1, h2, h3, h4, h5⟩
  · exact .inl h
  · exact .inr ⟨b, off, cap, h1, h2, h3, by have := hb.size; omega, h5.below hb h4⟩
theorem sampleOk_any (t v : Int) (w : World) :
    Calls Tryz.prog 136 #[.agg #[.int .i64 t, .int .i64 v]] w fun e w' => e = .returned (.bool (inR t v)) ∧ w' = w.alloc (.cells #[.int .i64 t, .int .i64 v] 133) := by
  rcases (show t < 0 ∨ (0 ≤ t ∧ 9999 < t) ∨ (0 ≤ t ∧ t ≤ 9999 ∧ v < 0) ∨ (0 ≤ t ∧ t ≤ 9999 ∧ 0 ≤ v ∧ 2147483647 < v) ∨ (0 ≤ t ∧ t ≤ 9999 ∧ 0 ≤ v ∧ v ≤ 2147483647) from by omega) with h | ⟨h1, h2⟩ | ⟨h1, h2, h3⟩ | ⟨h1, h2, h3, h4⟩ | ⟨h1, h2, h3, h4⟩
  · have hr := hide (inR_no (t := t) (v := v) (by omega))
    go_enter Tryz.func136, Tryz.ntmps136
    go_wp2
    go_ret
    exact ⟨ret_bool (unhide hr).symm, rfl⟩
  · have hr := hide (inR_no (t := t) (v := v) (by omega))
    go_enter Tryz.func136, Tryz.ntmps136
    go_wp2
    go_ret
    exact ⟨ret_bool (unhide hr).symm, rfl⟩
  · have hr := hide (inR_no (t := t) (v := v) (by omega))
    go_enter Tryz.func136, Tryz.ntmps136
    go_wp2
    go_ret
    exact ⟨ret_bool (unhide hr).symm, rfl⟩
  · have hr := hide (inR_no (t := t) (v := v) (by omega))
    go_enter Tryz.func136, Tryz.ntmps136
    go_wp2
    go_ret
    exact ⟨ret_bool (by rw [unhide hr]; exact decide_eq_false (by omega)), rfl⟩
  · have hr := hide (inR_yes (t := t) (v := v) h1 h2 h3 h4)
    go_enter Tryz.func136, Tryz.ntmps136
    go_wp2
    go_ret
    exact ⟨ret_bool (unhide hr).symm, rfl⟩
theorem sampleOk_is (t v : Int) (b : Bool) (w : World) (h : inR t v = b) :
    Calls Tryz.prog 136 #[.agg #[.int .i64 t, .int .i64 v]] w fun e w' => e = .returned (.bool b) ∧ Below w.heap.size w w' := by
  refine (sampleOk_any t v w).mono ?_
  rintro e w' ⟨rfl, rfl⟩
  exact ⟨ret_bool h, (Below.refl _ _).alloc (Nat.le_refl _) _⟩
set_option maxRecDepth 100000 in
set_option maxHeartbeats 1000000 in
theorem impl_ok_some (b off cap : Nat) (zs : List S) (w : World) (hcap : zs.length ≤ cap) (hm : cap ≤ maxLen) (hbl : b < w.heap.size) (hr : Reads w b off zs) :
    Calls Tryz.prog 106 #[.slice (some ⟨b, off, none⟩) zs.length cap] w fun e w' => e = .returned (.bool (ok zs)) ∧ Below w.heap.size w w' := by
  unfold maxLen at hm
  obtain ⟨n, hn⟩ : ∃ n, n = zs.length := ⟨_, rfl⟩
  rw [← hn]
  have HN := hide hn
  have hn1 : n ≤ cap := by omega
  clear hn hcap
  go_enter Tryz.func106, Tryz.ntmps106
  go_wp2
  go_loopw [7] (fun i wr => ∃ k : Nat, k ≤ n ∧ i = .int .i64 k ∧ okTo zs k = true ∧ Below w.heap.size w wr) (fun i _ => n - (intOf i).toNat)
  case atStart => exact ⟨0, Nat.zero_le _, rfl, rfl, Below.refl _ _⟩
  case round =>
    obtain ⟨k, hk, rfl, hok, hbel⟩ := hrel
    have HO := hide hok
    clear hok
    have hsz := hbel.size
    by_cases hlt : k < n
    · have hc0 : wr.cell? ⟨b, off + k * 2, none⟩ = some (.int .i64 (at' zs k).1) := (hbel.cell (p := ⟨b, _, none⟩) hbl).trans (hr k (by have := unhide HN; omega)).1
      have hc1 : wr.cell? ⟨b, off + k * 2 + 1, none⟩ = some (.int .i64 (at' zs k).2) := (hbel.cell (p := ⟨b, _, none⟩) hbl).trans (hr k (by have := unhide HN; omega)).2
      have hk0 : (0 : Int) ≤ (k : Int) := Int.natCast_nonneg _
      have hk1 : (k : Int) < (n : Int) := by omega
      obtain ⟨T, hT⟩ : ∃ T, T = (at' zs k).1 := ⟨_, rfl⟩
      obtain ⟨V, hV⟩ : ∃ V, V = (at' zs k).2 := ⟨_, rfl⟩
      rw [← hT] at hc0
      rw [← hV] at hc1
      have HT := hide hT
      have HV := hide hV
      clear hT hV
      obtain ⟨W, hW⟩ : ∃ W, W = wr.alloc (.cells #[.int .i64 T, .int .i64 V] 133) := ⟨_, rfl⟩
      have hWb : Below w.heap.size w W := by rw [hW]; exact hbel.alloc hsz _
      have hq0 : ∀ x : Cls (wr.heap.size + 1) W, x.val.cell? ⟨wr.heap.size, 0, none⟩ = some (.int .i64 T) := fun x => by rw [x.cell (by omega), hW]; simp
      have hq1 : ∀ x : Cls (wr.heap.size + 1) W, x.val.cell? ⟨wr.heap.size, 1, none⟩ = some (.int .i64 V) := fun x => by rw [x.cell (by omega), hW]; simp
      have HWs := hide (show W.heap.size = wr.heap.size + 1 by rw [hW]; simp)
      have HW := hide hW
      clear hW
      cases hin : inR T V
      · have HF := hide (ok_of_bad (zs := zs) (k := k) (by have := unhide HN; omega) (stepOk_range (by rw [← unhide HT, ← unhide HV]; exact hin)))
        have HI := hide hin
        clear hin
        go_wp2_with fail
        rw [← unhide HW]
        refine region_cls (by kernel_rfl) (by kernel_rfl) ?_
        rw [unhide HWs]
        have hne := cls_nonempty (wr.heap.size + 1) W
        repeat (go_big_quiet_step ((go_at_call 136; exact cls_call (Nat.le_of_eq (unhide HWs).symm) (sampleOk_is _ _ false _ (unhide HI)))))
        refine wpQuiet_nil ?_
        rintro _ ⟨⟨wq, hq⟩, rfl⟩
        go_wp2
        go_ret
        exact ⟨ret_bool (unhide HF).symm, hWb.trans (hq.mono (by have := hWb.size; omega))⟩
      · have HI := hide hin
        have HR := hide (show inR (at' zs k).1 (at' zs k).2 = true by rw [← unhide HT, ← unhide HV]; exact hin)
        clear hin
        by_cases hk00 : k = 0
        · have HS := hide (show okTo zs (k + 1) = true by rw [okTo_succ, unhide HO, hk00, stepOk_first (by have := unhide HR; rwa [hk00] at this)]; rfl)
          have hd : decide (0 < k) = false := by simp; omega
          clear hk00
          go_wp2_with fail
          rw [← unhide HW]
          refine region_cls (by kernel_rfl) (by kernel_rfl) ?_
          rw [unhide HWs]
          have hne := cls_nonempty (wr.heap.size + 1) W
          repeat (go_big_quiet_step ((go_at_call 136; exact cls_call (Nat.le_of_eq (unhide HWs).symm) (sampleOk_is _ _ true _ (unhide HI)))))
          refine wpQuiet_nil ?_
          rintro _ ⟨⟨wq, hq⟩, rfl⟩
          go_wp2
          go_roundw
          case rel => exact ⟨k + 1, by omega, by go_num, unhide HS, hWb.trans (hq.mono (by have := hWb.size; omega))⟩
          case measure => simp [intOf]; omega
        · have hkp : 0 < k := by omega
          obtain ⟨P, hP⟩ : ∃ P, P = (at' zs (k - 1)).1 := ⟨_, rfl⟩
          have hp0 : wr.cell? ⟨b, off + (k - 1) * 2, none⟩ = some (.int .i64 P) := by rw [hP]; exact (hbel.cell (p := ⟨b, _, none⟩) hbl).trans (hr (k - 1) (by have := unhide HN; omega)).1
          have hqp : ∀ x : Cls (wr.heap.size + 1) W, x.val.cell? ⟨b, off + (k - 1) * 2, none⟩ = some (.int .i64 P) := fun x => by rw [x.cell (by omega), unhide HW]; exact (((Below.refl wr.heap.size wr).alloc (Nat.le_refl _) _).cell (p := ⟨b, _, none⟩) (show b < wr.heap.size by omega)).trans hp0
          have HP := hide hP
          clear hP
          by_cases hlate : T ≤ P
          · have HF := hide (ok_of_bad (zs := zs) (k := k) (by have := unhide HN; omega) (stepOk_late (by omega) (by rw [← unhide HT, ← unhide HP]; exact hlate)))
            go_wp2_with fail
            rw [← unhide HW]
            refine region_cls (by kernel_rfl) (by kernel_rfl) ?_
            rw [unhide HWs]
            have hne := cls_nonempty (wr.heap.size + 1) W
            repeat (go_big_quiet_step ((go_at_call 136; exact cls_call (Nat.le_of_eq (unhide HWs).symm) (sampleOk_is _ _ true _ (unhide HI)))))
            refine wpQuiet_nil ?_
            rintro _ ⟨⟨wq, hq⟩, rfl⟩
            go_wp2
            go_ret
            exact ⟨ret_bool (unhide HF).symm, hWb.trans (hq.mono (by have := hWb.size; omega))⟩
          · have HS := hide (show okTo zs (k + 1) = true by rw [okTo_succ, unhide HO, stepOk_next (unhide HR) (by rw [← unhide HT, ← unhide HP]; omega)]; rfl)
            have hd : decide (T ≤ P) = false := by simp; omega
            go_wp2_with fail
            rw [← unhide HW]
            refine region_cls (by kernel_rfl) (by kernel_rfl) ?_
            rw [unhide HWs]
            have hne := cls_nonempty (wr.heap.size + 1) W
            repeat (go_big_quiet_step ((go_at_call 136; exact cls_call (Nat.le_of_eq (unhide HWs).symm) (sampleOk_is _ _ true _ (unhide HI)))))
            refine wpQuiet_nil ?_
            rintro _ ⟨⟨wq, hq⟩, rfl⟩
            go_wp2
            go_roundw
            case rel => exact ⟨k + 1, by omega, by go_num, unhide HS, hWb.trans (hq.mono (by have := hWb.size; omega))⟩
            case measure => simp [intOf]; omega
    · go_wp2
      go_ret
      exact ⟨ret_bool (by unfold ok; rw [← unhide HN, show n = k from by omega]; exact (unhide HO).symm), hbel⟩
end Go.Proofs.YtdggffcibcggoaaGreat.Samp
