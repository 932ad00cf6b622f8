/- My own texts of one claim, laid together by program: IdxOk, Let. -/
import Derived.Test.YtbkolpiekcifpaaG41d1ced5ab
import Derived.Test.YtbkolpiekcifpaaGcea9ec2ff7
/- Whether all are labels that are ok, of the program and of the model. -/
namespace Go.Proofs.Ytbkolpiekcifpaa.Lss
open Go.RowKit Rw
set_option linter.unusedVariables false
attribute [local go_sem ↓] Go.wp_at_zero Go.wp_at_succ
set_option maxRecDepth 100000 in
set_option maxHeartbeats 2000000 in
theorem impl_all {w : World} {v : Value} {zs : List E} (h : Is w v zs) (hg : ∀ x ∈ zs, good x) : Calls Try.prog 28 #[v] w fun e w' => e = .returned (.bool (allOk zs)) ∧ Below w.heap.size w w' := by
  obtain ⟨cs, hcs, hL, hE⟩ := h
  have HE := hide hE
  obtain ⟨-, a, cap, rfl, hc, hm, -, hr⟩ := hL
  unfold maxLen at hm
  obtain ⟨n, hn⟩ : ∃ n, n = zs.length := ⟨_, rfl⟩
  rw [← hn] at hc hr hcs ⊢
  have HN := hide hn
  have HC := hide hcs
  have HG := hide hg
  clear hn hE hcs hg
  obtain ⟨R, hR⟩ : ∃ R, R = allOk zs := ⟨_, rfl⟩
  rw [← hR]
  have HR := hide hR
  clear hR
  go_enter Try.func28, Try.ntmps28
  go_wp2_with fail
  go_loopw [7] (fun i wr => ∃ k : Nat, k ≤ n ∧ i = .int .i64 k ∧ Hid (okTo zs k = true) ∧ Below w.heap.size w wr) (fun i _ => n - (intOf i).toNat)
  case atStart => exact ⟨0, Nat.zero_le _, rfl, hide rfl, Below.refl _ _⟩
  case round =>
    obtain ⟨k, hk, rfl, HO, hbel⟩ := hrel
    have hsz := hbel.size
    have hk0 : (0 : Int) ≤ (k : Int) := Int.natCast_nonneg _
    by_cases hlt : k < n
    · obtain ⟨b, off, rfl, hl, hcells⟩ := hr (by omega)
      have fa := flat_at cs k (by have := unhide HC; omega)
      have hc0 : wr.cell? ⟨b, off + k, none⟩ = some (cat cs k) := (hbel.cell (p := ⟨b, _, none⟩) hl).trans (hcells k _ fa)
      have gd := unhide HG (at' zs k) (at_mem zs k (by have := unhide HN; omega))
      have HL := hide (Lab.impl_ok ((unhide HE k (by have := unhide HN; omega)).below hbel) gd.2)
      obtain ⟨c0, hX⟩ : ∃ c0, c0 = cat cs k := ⟨_, rfl⟩
      rw [← hX] at hc0 HL
      clear hX fa gd
      have hk1 : (k : Int) < (n : Int) := by omega
      cases hq : Lab.ok (at' zs k)
      · have HF := hide (show R = false by rw [unhide HR]; exact allOk_no (by have := unhide HN; omega) hq)
        rw [hq] at HL
        clear hq
        go_wp2_with fail
        refine (unhide HL).mono ?_
        rintro e w2 ⟨rfl, b2⟩
        have c2 := hbel.trans (b2.mono hsz)
        go_wp2_with fail
        go_ret
        exact ⟨ret_bool (unhide HF).symm, c2⟩
      · have HS := hide (show okTo zs (k + 1) = true by rw [okTo_succ zs k (by have := unhide HN; omega), unhide HO, hq]; rfl)
        rw [hq] at HL
        clear hq
        go_wp2_with fail
        refine (unhide HL).mono ?_
        rintro e w2 ⟨rfl, b2⟩
        have c2 := hbel.trans (b2.mono hsz)
        go_wp2_with fail
        go_roundw
        case rel => exact ⟨k + 1, by omega, by go_num, HS, c2⟩
        case measure => simp [intOf]; omega
    · obtain rfl : k = n := by omega
      have HF := hide (show R = decide ((k : Int) ≤ 40) by rw [unhide HR, allOk_end (by rw [← unhide HN]; exact unhide HO), ← unhide HN]; simp; omega)
      have hkf : decide ((k : Int) < (k : Int)) = false := by simp
      go_wp2_with fail
      go_ret
      exact ⟨ret_bool (unhide HF).symm, hbel⟩
set_option maxRecDepth 100000 in
set_option maxHeartbeats 2000000 in
theorem spec_all {w : World} {v : Value} {zs : List E} (h : Is w v zs) (hg : ∀ x ∈ zs, good x) : Calls Try.prog 25 #[v] w fun e w' => e = .returned (.bool (allOk zs)) ∧ Below w.heap.size w w' := by
  obtain ⟨cs, hcs, hL, hE⟩ := h
  have HE := hide hE
  obtain ⟨-, a, cap, rfl, hc, hm, -, hr⟩ := hL
  unfold maxLen at hm
  obtain ⟨n, hn⟩ : ∃ n, n = zs.length := ⟨_, rfl⟩
  rw [← hn] at hc hr hcs ⊢
  have HN := hide hn
  have HC := hide hcs
  have HG := hide hg
  clear hn hE hcs hg
  obtain ⟨R, hR⟩ : ∃ R, R = allOk zs := ⟨_, rfl⟩
  rw [← hR]
  have HR := hide hR
  clear hR
  go_enter Try.func25, Try.ntmps25
  go_wp2_with fail
  go_loopw [3] (fun i wr => ∃ k : Nat, k ≤ n ∧ i = .int .i64 k ∧ Hid (okTo zs k = true) ∧ Below w.heap.size w wr) (fun i _ => n - (intOf i).toNat)
  case atStart => exact ⟨0, Nat.zero_le _, rfl, hide rfl, Below.refl _ _⟩
  case round =>
    obtain ⟨k, hk, rfl, HO, hbel⟩ := hrel
    have hsz := hbel.size
    have hk0 : (0 : Int) ≤ (k : Int) := Int.natCast_nonneg _
    by_cases hlt : k < n
    · obtain ⟨b, off, rfl, hl, hcells⟩ := hr (by omega)
      have fa := flat_at cs k (by have := unhide HC; omega)
      have hc0 : wr.cell? ⟨b, off + k, none⟩ = some (cat cs k) := (hbel.cell (p := ⟨b, _, none⟩) hl).trans (hcells k _ fa)
      have gd := unhide HG (at' zs k) (at_mem zs k (by have := unhide HN; omega))
      have HL := hide (Lab.spec_ok ((unhide HE k (by have := unhide HN; omega)).below hbel) gd.2 gd.1)
      obtain ⟨c0, hX⟩ : ∃ c0, c0 = cat cs k := ⟨_, rfl⟩
      rw [← hX] at hc0 HL
      clear hX fa gd
      have hk1 : (k : Int) < (n : Int) := by omega
      cases hq : Lab.ok (at' zs k)
      · have HF := hide (show R = false by rw [unhide HR]; exact allOk_no (by have := unhide HN; omega) hq)
        rw [hq] at HL
        clear hq
        go_wp2_with fail
        refine (unhide HL).mono ?_
        rintro e w2 ⟨rfl, b2⟩
        have c2 := hbel.trans (b2.mono hsz)
        go_wp2_with fail
        go_ret
        exact ⟨ret_bool (unhide HF).symm, c2⟩
      · have HS := hide (show okTo zs (k + 1) = true by rw [okTo_succ zs k (by have := unhide HN; omega), unhide HO, hq]; rfl)
        rw [hq] at HL
        clear hq
        go_wp2_with fail
        refine (unhide HL).mono ?_
        rintro e w2 ⟨rfl, b2⟩
        have c2 := hbel.trans (b2.mono hsz)
        go_wp2_with fail
        go_roundw
        case rel => exact ⟨k + 1, by omega, by go_num, HS, c2⟩
        case measure => simp [intOf]; omega
    · obtain rfl : k = n := by omega
      have HF := hide (show R = decide ((k : Int) ≤ 40) by rw [unhide HR, allOk_end (by rw [← unhide HN]; exact unhide HO), ← unhide HN]; simp; omega)
      have hkf : decide ((k : Int) < (k : Int)) = false := by simp
      go_wp2_with fail
      go_ret
      exact ⟨ret_bool (unhide HF).symm, hbel⟩
end Go.Proofs.Ytbkolpiekcifpaa.Lss

/- The word under a name; what a rule lets; MatchesLet of the program. -/
namespace Go.Proofs.Ytbkolpiekcifpaa.Mat
open Go.RowKit Rw
set_option linter.unusedVariables false
attribute [local go_sem ↓] Go.wp_at_zero Go.wp_at_succ
theorem run_eqS (a b : ByteArray) (W : World) : (binOp .eql 9 (.string a) (.string b)).run Try.prog W = .ok (.bool (sameS a b)) W := rfl
set_option maxRecDepth 100000 in
set_option maxHeartbeats 2000000 in
theorem wordUnder_any {w : World} {v : Value} {ls : List Lab.E} (nm : ByteArray) (h : Lab.Is w v ls) :
    Calls Try.prog 44 #[v, .string nm] w fun e w' => e = .returned (.string (wordOf ls nm)) ∧ Below w.heap.size w w' := by
  obtain ⟨-, a, cap, rfl, hc, hm, -, hr⟩ := h
  unfold maxLen at hm
  obtain ⟨n, hn⟩ : ∃ n, n = ls.length := ⟨_, rfl⟩
  rw [← hn] at hc hr ⊢
  have HN := hide hn
  clear hn
  obtain ⟨R, hR⟩ : ∃ R, R = wordOf ls nm := ⟨_, rfl⟩
  rw [← hR]
  have HR := hide hR
  clear hR
  go_enter Try.func44, Try.ntmps44
  go_wp2_with fail
  go_loopw [9] (fun i wr => ∃ k : Nat, k ≤ n ∧ i = .int .i64 k ∧ (ls.take k).find? (fun x => sameS x.1 nm) = none ∧ Below w.heap.size w wr) (fun i _ => n - (intOf i).toNat)
  case atStart => exact ⟨0, Nat.zero_le _, rfl, rfl, Below.refl _ _⟩
  case round =>
    obtain ⟨k, hk, rfl, hno, hbel⟩ := hrel
    have HO := hide hno
    clear hno
    have hsz := hbel.size
    by_cases hlt : k < n
    · obtain ⟨b, off, rfl, hl, hcells⟩ := hr (by omega)
      have fa := Lab.flat_at ls k (by have := unhide HN; omega)
      obtain ⟨A, B, hX⟩ : ∃ A B, (A, B) = Lab.at' ls k := ⟨_, _, rfl⟩
      rw [← hX] at fa
      have hc0 : wr.cell? ⟨b, off + k * 2, none⟩ = some (.string A) := (hbel.cell (p := ⟨b, _, none⟩) hl).trans (hcells (k * 2) _ fa.1)
      have hc1 : wr.cell? ⟨b, off + k * 2 + 1, none⟩ = some (.string B) := (hbel.cell (p := ⟨b, _, none⟩) hl).trans (hcells (k * 2 + 1) _ fa.2)
      have HX := hide hX
      clear hX fa
      have hk0 : (0 : Int) ≤ (k : Int) := Int.natCast_nonneg _
      have hk1 : (k : Int) < (n : Int) := by omega
      cases hs : sameS A nm
      · have HF := hide (find_none ls nm k (by have := unhide HN; omega) (unhide HO) (by rw [← unhide HX]; exact hs))
        have l1 : (A.toList == nm.toList) = false := hs
        clear hs
        go_wp2_with fail
        go_roundw
        case rel => exact ⟨k + 1, by omega, by go_num, unhide HF, hbel.alloc hsz _⟩
        case measure => simp [intOf]; omega
      · have HF := hide (show R = B by rw [unhide HR, word_hit ls nm k (by have := unhide HN; omega) (unhide HO) (by rw [← unhide HX]; exact hs), ← unhide HX])
        have e := sameS_iff.1 hs
        subst e
        clear hs
        go_wp2_with fail
        go_ret
        exact ⟨ret_string (unhide HF).symm, hbel.alloc hsz _⟩
    · have HF := hide (show R = ByteArray.empty by
        rw [unhide HR]
        have := unhide HO
        rw [List.take_of_length_le (by have := unhide HN; omega)] at this
        exact word_miss ls nm this)
      have hkf : decide ((k : Int) < (n : Int)) = false := by simp; omega
      go_wp2_with fail
      go_ret
      exact ⟨ret_string (unhide HF).symm, hbel⟩
set_option maxRecDepth 100000 in
set_option maxHeartbeats 2000000 in
theorem l3Word_any {w : World} {v : Value} {ls : List Lab.E} (nm : ByteArray) (h : Lab.Is w v ls) :
    Calls Try.prog 48 #[v, .string nm] w fun e w' => e = .returned (.string (wordOf ls nm)) ∧ w' = w := by
  obtain ⟨-, a, cap, rfl, hc, hm, -, hr⟩ := h
  unfold maxLen at hm
  obtain ⟨n, hn⟩ : ∃ n, n = ls.length := ⟨_, rfl⟩
  rw [← hn] at hc hr ⊢
  have HN := hide hn
  clear hn
  obtain ⟨R, hR⟩ : ∃ R, R = wordOf ls nm := ⟨_, rfl⟩
  rw [← hR]
  have HR := hide hR
  clear hR
  go_enter Try.func48, Try.ntmps48
  go_wp2_with fail
  go_loop [5] (fun i => ∃ k : Nat, k ≤ n ∧ i = .int .i64 k ∧ (ls.take k).find? (fun x => sameS x.1 nm) = none) (fun i => n - (intOf i).toNat)
  case atStart => exact ⟨0, Nat.zero_le _, rfl, rfl⟩
  case round =>
    obtain ⟨k, hk, rfl, hno⟩ := hrel
    have HO := hide hno
    clear hno
    by_cases hlt : k < n
    · obtain ⟨b, off, rfl, hl, hcells⟩ := hr (by omega)
      have fa := Lab.flat_at ls k (by have := unhide HN; omega)
      obtain ⟨A, B, hX⟩ : ∃ A B, (A, B) = Lab.at' ls k := ⟨_, _, rfl⟩
      rw [← hX] at fa
      have hc0 : w.cell? ⟨b, off + k * 2, none⟩ = some (.string A) := hcells (k * 2) _ fa.1
      have hc1 : w.cell? ⟨b, off + k * 2 + 1, none⟩ = some (.string B) := hcells (k * 2 + 1) _ fa.2
      have HX := hide hX
      clear hX fa
      have hk0 : (0 : Int) ≤ (k : Int) := Int.natCast_nonneg _
      have hk1 : (k : Int) < (n : Int) := by omega
      cases hs : sameS A nm
      · have HF := hide (find_none ls nm k (by have := unhide HN; omega) (unhide HO) (by rw [← unhide HX]; exact hs))
        have l1 : (A.toList == nm.toList) = false := hs
        clear hs
        go_wp2_with fail
        go_round
        case rel => exact ⟨k + 1, by omega, by go_num, unhide HF⟩
        case measure => simp [intOf]; omega
      · have HF := hide (show R = B by rw [unhide HR, word_hit ls nm k (by have := unhide HN; omega) (unhide HO) (by rw [← unhide HX]; exact hs), ← unhide HX])
        have e := sameS_iff.1 hs
        subst e
        clear hs
        go_wp2_with fail
        go_ret
        exact ⟨ret_string (unhide HF).symm, rfl⟩
    · have HF := hide (show R = ByteArray.empty by
        rw [unhide HR]
        have := unhide HO
        rw [List.take_of_length_le (by have := unhide HN; omega)] at this
        exact word_miss ls nm this)
      have hkf : decide ((k : Int) < (n : Int)) = false := by simp; omega
      go_wp2_with fail
      go_ret
      exact ⟨ret_string (unhide HF).symm, rfl⟩
theorem is_lets (r x : ByteArray) (q : Bool) (h : sameS x r = q) (w : World) : Calls Try.prog 118 #[.string r, .string x] w fun e w' => e = .returned (.bool q) ∧ w' = w := by
  have HH := hide h
  go_enter Try.func118, Try.ntmps118
  go_wp2
  go_ret
  exact ⟨ret_bool (unhide HH), rfl⟩
theorem not_lets (r x : ByteArray) (q : Bool) (h : sameS x r = q) (w : World) : Calls Try.prog 119 #[.string r, .string x] w fun e w' => e = .returned (.bool (!q)) ∧ w' = w := by
  have HH := hide h
  go_enter Try.func119, Try.ntmps119
  go_wp2
  go_ret
  exact ⟨ret_bool (by rw [← unhide HH]; rfl), rfl⟩
theorem begin_lets (r x : ByteArray) (q : Bool) (h : prefB x r = q) (w : World) : Calls Try.prog 120 #[.string r, .string x] w fun e w' => e = .returned (.bool q) ∧ w' = w := by
  have H := hide (show Calls Try.prog 121 #[.string x, .string r] w fun e w' => e = .returned (.bool q) ∧ w' = w from by rw [← h]; exact Try.strings_HasPrefix x r w)
  go_enter Try.func120, Try.ntmps120
  go_wp2_with fail
  refine (unhide H).mono ?_
  rintro e w1 ⟨rfl, hw⟩
  subst hw
  go_wp2_with fail
  go_ret
  exact ⟨rfl, rfl⟩
theorem never_lets (r x : ByteArray) (q : Bool) (h : prefB x r = q) (w : World) : Calls Try.prog 123 #[.string r, .string x] w fun e w' => e = .returned (.bool (!q)) ∧ w' = w := by
  have H := hide (show Calls Try.prog 121 #[.string x, .string r] w fun e w' => e = .returned (.bool q) ∧ w' = w from by rw [← h]; exact Try.strings_HasPrefix x r w)
  go_enter Try.func123, Try.ntmps123
  go_wp2_with fail
  refine (unhide H).mono ?_
  rintro e w1 ⟨rfl, hw⟩
  subst hw
  go_wp2_with fail
  go_ret
  exact ⟨rfl, rfl⟩
end Go.Proofs.Ytbkolpiekcifpaa.Mat
