/- The word under a name; what a rule lets; MatchesLet of the program. -/
import Derived.Test.YtomncodkbcngmaaLetMath
namespace Go.Proofs.Ytomncodkbcngmaa.Mat
open Go.RowKit Rw
set_option linter.unusedVariables false
attribute [local go_sem ↓] Go.wp_at_zero Go.wp_at_succ
theorem run_eqS (a b : ByteArray) (W : World) : (binOp .eql 9 (.string a) (.string b)).run Try.prog W = .ok (.bool (sameS a b)) W := rfl
set_option maxRecDepth 100000 in
set_option maxHeartbeats 2000000 in
theorem wordUnder_any {w : World} {v : Value} {ls : List Lab.E} (nm : ByteArray) (h : Lab.Is w v ls) :
    Calls Try.prog 83 #[v, .string nm] w fun e w' => e = .returned (.string (wordOf ls nm)) ∧ Below w.heap.size w w' := by
  obtain ⟨-, a, cap, rfl, hc, hm, -, hr⟩ := h
  unfold maxLen at hm
  obtain ⟨n, hn⟩ : ∃ n, n = ls.length := ⟨_, rfl⟩
  rw [← hn] at hc hr ⊢
  have HN := hide hn
  clear hn
  obtain ⟨R, hR⟩ : ∃ R, R = wordOf ls nm := ⟨_, rfl⟩
  rw [← hR]
  have HR := hide hR
  clear hR
  go_enter Try.func83, Try.ntmps83
  go_wp2_with fail
  go_loopw [9] (fun i wr => ∃ k : Nat, k ≤ n ∧ i = .int .i64 k ∧ (ls.take k).find? (fun x => sameS x.1 nm) = none ∧ Below w.heap.size w wr) (fun i _ => n - (intOf i).toNat)
  case atStart => exact ⟨0, Nat.zero_le _, rfl, rfl, Below.refl _ _⟩
  case round =>
    obtain ⟨k, hk, rfl, hno, hbel⟩ := hrel
    have HO := hide hno
    clear hno
    have hsz := hbel.size
    by_cases hlt : k < n
    · obtain ⟨b, off, rfl, hl, hcells⟩ := hr (by omega)
      have fa := Lab.flat_at ls k (by have := unhide HN; omega)
      obtain ⟨A, B, hX⟩ : ∃ A B, (A, B) = Lab.at' ls k := ⟨_, _, rfl⟩
      rw [← hX] at fa
      have hc0 : wr.cell? ⟨b, off + k * 2, none⟩ = some (.string A) := (hbel.cell (p := ⟨b, _, none⟩) hl).trans (hcells (k * 2) _ fa.1)
      have hc1 : wr.cell? ⟨b, off + k * 2 + 1, none⟩ = some (.string B) := (hbel.cell (p := ⟨b, _, none⟩) hl).trans (hcells (k * 2 + 1) _ fa.2)
      have HX := hide hX
      clear hX fa
      have hk0 : (0 : Int) ≤ (k : Int) := Int.natCast_nonneg _
      have hk1 : (k : Int) < (n : Int) := by omega
      cases hs : sameS A nm
      · have HF := hide (find_none ls nm k (by have := unhide HN; omega) (unhide HO) (by rw [← unhide HX]; exact hs))
        have l1 : (A.toList == nm.toList) = false := hs
        clear hs
        go_wp2_with fail
        go_roundw
        case rel => exact ⟨k + 1, by omega, by go_num, unhide HF, hbel.alloc hsz _⟩
        case measure => simp [intOf]; omega
      · have HF := hide (show R = B by rw [unhide HR, word_hit ls nm k (by have := unhide HN; omega) (unhide HO) (by rw [← unhide HX]; exact hs), ← unhide HX])
        have e := sameS_iff.1 hs
        subst e
        clear hs
        go_wp2_with fail
        go_ret
        exact ⟨ret_string (unhide HF).symm, hbel.alloc hsz _⟩
    · have HF := hide (show R = ByteArray.empty by
        rw [unhide HR]
        have := unhide HO
        rw [List.take_of_length_le (by have := unhide HN; omega)] at this
        exact word_miss ls nm this)
      have hkf : decide ((k : Int) < (n : Int)) = false := by simp; omega
      go_wp2_with fail
      go_ret
      exact ⟨ret_string (unhide HF).symm, hbel⟩
set_option maxRecDepth 100000 in
set_option maxHeartbeats 2000000 in
theorem l3Word_any {w : World} {v : Value} {ls : List Lab.E} (nm : ByteArray) (h : Lab.Is w v ls) :
    Calls Try.prog 106 #[v, .string nm] w fun e w' => e = .returned (.string (wordOf ls nm)) ∧ w' = w := by
  obtain ⟨-, a, cap, rfl, hc, hm, -, hr⟩ := h
  unfold maxLen at hm
  obtain ⟨n, hn⟩ : ∃ n, n = ls.length := ⟨_, rfl⟩
  rw [← hn] at hc hr ⊢
  have HN := hide hn
  clear hn
  obtain ⟨R, hR⟩ : ∃ R, R = wordOf ls nm := ⟨_, rfl⟩
  rw [← hR]
  have HR := hide hR
  clear hR
  go_enter Try.func106, Try.ntmps106
  go_wp2_with fail
  go_loop [5] (fun i => ∃ k : Nat, k ≤ n ∧ i = .int .i64 k ∧ (ls.take k).find? (fun x => sameS x.1 nm) = none) (fun i => n - (intOf i).toNat)
  case atStart => exact ⟨0, Nat.zero_le _, rfl, rfl⟩
  case round =>
    obtain ⟨k, hk, rfl, hno⟩ := hrel
    have HO := hide hno
    clear hno
    by_cases hlt : k < n
    · obtain ⟨b, off, rfl, hl, hcells⟩ := hr (by omega)
      have fa := Lab.flat_at ls k (by have := unhide HN; omega)
      obtain ⟨A, B, hX⟩ : ∃ A B, (A, B) = Lab.at' ls k := ⟨_, _, rfl⟩
      rw [← hX] at fa
      have hc0 : w.cell? ⟨b, off + k * 2, none⟩ = some (.string A) := hcells (k * 2) _ fa.1
      have hc1 : w.cell? ⟨b, off + k * 2 + 1, none⟩ = some (.string B) := hcells (k * 2 + 1) _ fa.2
      have HX := hide hX
      clear hX fa
      have hk0 : (0 : Int) ≤ (k : Int) := Int.natCast_nonneg _
      have hk1 : (k : Int) < (n : Int) := by omega
      cases hs : sameS A nm
      · have HF := hide (find_none ls nm k (by have := unhide HN; omega) (unhide HO) (by rw [← unhide HX]; exact hs))
        have l1 : (A.toList == nm.toList) = false := hs
        clear hs
        go_wp2_with fail
        go_round
        case rel => exact ⟨k + 1, by omega, by go_num, unhide HF⟩
        case measure => simp [intOf]; omega
      · have HF := hide (show R = B by rw [unhide HR, word_hit ls nm k (by have := unhide HN; omega) (unhide HO) (by rw [← unhide HX]; exact hs), ← unhide HX])
        have e := sameS_iff.1 hs
        subst e
        clear hs
        go_wp2_with fail
        go_ret
        exact ⟨ret_string (unhide HF).symm, rfl⟩
    · have HF := hide (show R = ByteArray.empty by
        rw [unhide HR]
        have := unhide HO
        rw [List.take_of_length_le (by have := unhide HN; omega)] at this
        exact word_miss ls nm this)
      have hkf : decide ((k : Int) < (n : Int)) = false := by simp; omega
      go_wp2_with fail
      go_ret
      exact ⟨ret_string (unhide HF).symm, rfl⟩
theorem is_lets (r x : ByteArray) (q : Bool) (h : sameS x r = q) (w : World) : Calls Try.prog 140 #[.string r, .string x] w fun e w' => e = .returned (.bool q) ∧ w' = w := by
  have HH := hide h
  go_enter Try.func140, Try.ntmps140
  go_wp2
  go_ret
  exact ⟨ret_bool (unhide HH), rfl⟩
theorem not_lets (r x : ByteArray) (q : Bool) (h : sameS x r = q) (w : World) : Calls Try.prog 141 #[.string r, .string x] w fun e w' => e = .returned (.bool (!q)) ∧ w' = w := by
  have HH := hide h
  go_enter Try.func141, Try.ntmps141
  go_wp2
  go_ret
  exact ⟨ret_bool (by rw [← unhide HH]; rfl), rfl⟩
theorem begin_lets (r x : ByteArray) (q : Bool) (h : prefB x r = q) (w : World) : Calls Try.prog 142 #[.string r, .string x] w fun e w' => e = .returned (.bool q) ∧ w' = w := by
  have H := hide (show Calls Try.prog 143 #[.string x, .string r] w fun e w' => e = .returned (.bool q) ∧ w' = w from by rw [← h]; exact Try.strings_HasPrefix x r w)
  go_enter Try.func142, Try.ntmps142
  go_wp2_with fail
  refine (unhide H).mono ?_
  rintro e w1 ⟨rfl, hw⟩
  subst hw
  go_wp2_with fail
  go_ret
  exact ⟨rfl, rfl⟩
theorem never_lets (r x : ByteArray) (q : Bool) (h : prefB x r = q) (w : World) : Calls Try.prog 145 #[.string r, .string x] w fun e w' => e = .returned (.bool (!q)) ∧ w' = w := by
  have H := hide (show Calls Try.prog 143 #[.string x, .string r] w fun e w' => e = .returned (.bool q) ∧ w' = w from by rw [← h]; exact Try.strings_HasPrefix x r w)
  go_enter Try.func145, Try.ntmps145
  go_wp2_with fail
  refine (unhide H).mono ?_
  rintro e w1 ⟨rfl, hw⟩
  subst hw
  go_wp2_with fail
  go_ret
  exact ⟨rfl, rfl⟩
end Go.Proofs.Ytomncodkbcngmaa.Mat
