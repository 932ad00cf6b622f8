/- Letters, names, words: of the program and of the model. -/
import Derived.Test.YtkmoekbicbjdmaaDoorLabMath
import Derived.Test.YtkmoekbicbjdmaaDoorShelf
import Derived.Shelf.Abstract
namespace Go.Proofs.YtkmoekbicbjdmaaDoor.Lab
open Go.RowKit Rw Go.Lib
set_option linter.unusedVariables false
attribute [local go_sem ↓] Go.wp_at_zero Go.wp_at_succ
theorem notLetter_runes (w : World) : PredAtRunes Tryd.prog 69 #[] notL w := fun W r hr _ => by
  unfold FnGives
  rcases (show r < 97 ∨ (97 ≤ r ∧ r ≤ 122) ∨ (97 ≤ r ∧ 122 < r) from by omega) with h | ⟨h, h'⟩ | ⟨h, h'⟩
  · have hn : notL r = true := by unfold notL; rw [decide_eq_true h]; rfl
    have z : (r : Int) < 97 := by omega
    rw [hn]
    clear hn
    go_enter Tryd.func69, Tryd.ntmps69
    go_wp2
    go_ret
    exact ⟨rfl, 0, rfl⟩
  · have hn : notL r = false := by unfold notL; rw [decide_eq_false (by omega), decide_eq_false (by omega)]; rfl
    have z : decide ((r : Int) < 97) = false := by simp; omega
    have z2 : decide ((122 : Int) < (r : Int)) = false := by simp; omega
    rw [hn]
    clear hn
    go_enter Tryd.func69, Tryd.ntmps69
    go_wp2
    go_ret
    exact ⟨by first | rfl | exact ret_bool (decide_eq_false (by omega)), 0, rfl⟩
  · have hn : notL r = true := by unfold notL; rw [decide_eq_true h', Bool.or_true]
    have z : decide ((r : Int) < 97) = false := by simp; omega
    have z2 : (122 : Int) < (r : Int) := by omega
    rw [hn]
    clear hn
    go_enter Tryd.func69, Tryd.ntmps69
    go_wp2
    go_ret
    exact ⟨by first | rfl | exact ret_bool (decide_eq_true (by omega)), 0, rfl⟩
theorem letters_any (s : ByteArray) (w : World) : Calls Tryd.prog 66 #[.string s] w fun e w' => e = .returned (.bool (letters s)) ∧ Below w.heap.size w w' := by
  have H := hide (Tryd.strings_IndexFunc_runes 69 #[] (enters_of Tryd.func69 (by kernel_rfl) rfl) notL s w (notLetter_runes w))
  have HI := hide (idx_letters s)
  go_enter Tryd.func66, Tryd.ntmps66
  go_wp2_with fail
  refine (unhide H).mono ?_
  rintro e w1 ⟨rfl, b1⟩
  go_wp2_with fail
  go_ret
  exact ⟨ret_bool (unhide HI), b1⟩
theorem name_any (s : ByteArray) (w : World) (hs : s.size ≤ maxLen) : Calls Tryd.prog 38 #[.string s] w fun e w' => e = .returned (.bool (nameB s)) ∧ Below w.heap.size w w' := by
  unfold maxLen at hs
  have H := hide (letters_any s w)
  by_cases h1 : 1 ≤ s.size
  · by_cases h2 : s.size ≤ 6
    · have HN := hide (show nameB s = letters s by unfold nameB; rw [decide_eq_true h1, decide_eq_true h2]; rfl)
      go_enter Tryd.func38, Tryd.ntmps38
      go_wp2_with fail
      refine (unhide H).mono ?_
      rintro e w1 ⟨rfl, b1⟩
      go_wp2_with fail
      go_ret
      exact ⟨ret_bool (unhide HN).symm, b1⟩
    · have HN := hide (show nameB s = false by unfold nameB; rw [decide_eq_false h2, Bool.and_false]; rfl)
      go_enter Tryd.func38, Tryd.ntmps38
      go_wp2_with fail
      go_ret
      exact ⟨ret_bool (unhide HN).symm, Below.refl _ _⟩
  · have HN := hide (show nameB s = false by unfold nameB; rw [decide_eq_false h1]; rfl)
    go_enter Tryd.func38, Tryd.ntmps38
    go_wp2_with fail
    go_ret
    exact ⟨ret_bool (unhide HN).symm, Below.refl _ _⟩
theorem word_any (s : ByteArray) (w : World) (hs : s.size ≤ maxLen) : Calls Tryd.prog 39 #[.string s] w fun e w' => e = .returned (.bool (wordB s)) ∧ Below w.heap.size w w' := by
  unfold maxLen at hs
  have H := hide (letters_any s w)
  by_cases h2 : s.size ≤ 8
  · have HN := hide (show wordB s = letters s by unfold wordB; rw [decide_eq_true h2]; rfl)
    go_enter Tryd.func39, Tryd.ntmps39
    go_wp2_with fail
    refine (unhide H).mono ?_
    rintro e w1 ⟨rfl, b1⟩
    go_wp2_with fail
    go_ret
    exact ⟨ret_bool (unhide HN).symm, b1⟩
  · have HN := hide (show wordB s = false by unfold wordB; rw [decide_eq_false h2]; rfl)
    go_enter Tryd.func39, Tryd.ntmps39
    go_wp2_with fail
    go_ret
    exact ⟨ret_bool (unhide HN).symm, Below.refl _ _⟩
theorem take_snoc (s : ByteArray) (k : Nat) (h : k < s.size) : s.data.toList.take (k + 1) = s.data.toList.take k ++ [s[k]] := by
  rw [List.take_succ_eq_append_getElem (by simpa using h)]; rfl
set_option maxHeartbeats 1000000 in
theorem l3Letters_any (s : ByteArray) (most : Int) (w : World) (hs : s.size ≤ maxLen) : Calls Tryd.prog 41 #[.string s, .int .i64 most] w fun e w' => e = .returned (.bool (letters s && decide ((s.size : Int) ≤ most))) ∧ w' = w := by
  unfold maxLen at hs
  go_enter Tryd.func41, Tryd.ntmps41
  go_wp2
  go_loop [5] (fun i => ∃ k : Nat, k ≤ s.size ∧ i = .int .i64 k ∧ (s.data.toList.take k).all letter = true) (fun i => s.size - (intOf i).toNat)
  case atStart => exact ⟨0, Nat.zero_le _, rfl, rfl⟩
  case round =>
    obtain ⟨k, hk, rfl, hall⟩ := hrel
    have HA := hide hall
    clear hall
    by_cases hlt : k < s.size
    · have HT := hide (take_snoc s k hlt)
      have HL := hide (show letter s[k] = (decide (97 ≤ s[k].toNat) && decide (s[k].toNat ≤ 122)) from rfl)
      by_cases h1 : (s[k].toNat : Int) < 97
      · have HF := hide (show letters s = false by
          have hl : letter s[k] = false := by rw [unhide HL, decide_eq_false (by omega)]; rfl
          unfold letters
          rw [List.all_eq_false]
          exact ⟨s[k], by have : s[k] = s.data.toList[k]'(by simpa using hlt) := rfl
                          rw [this]; exact List.getElem_mem _, by simp [hl]⟩)
        go_wp2
        go_ret
        exact ⟨ret_bool (by rw [unhide HF]; rfl), rfl⟩
      · by_cases h2 : 122 < (s[k].toNat : Int)
        · have HF := hide (show letters s = false by
            have hl : letter s[k] = false := by rw [unhide HL, decide_eq_false (show ¬ s[k].toNat ≤ 122 by omega), Bool.and_false]
            unfold letters
            rw [List.all_eq_false]
            exact ⟨s[k], by have : s[k] = s.data.toList[k]'(by simpa using hlt) := rfl
                            rw [this]; exact List.getElem_mem _, by simp [hl]⟩)
          go_wp2
          go_ret
          exact ⟨ret_bool (by rw [unhide HF]; rfl), rfl⟩
        · have HS := hide (show (s.data.toList.take (k + 1)).all letter = true by
            have hl : letter s[k] = true := by rw [unhide HL, decide_eq_true (show 97 ≤ s[k].toNat by omega), decide_eq_true (show s[k].toNat ≤ 122 by omega)]; rfl
            rw [unhide HT, List.all_append, unhide HA]
            simp [hl])
          go_wp2
          go_round
          case rel => exact ⟨k + 1, by omega, by go_num, unhide HS⟩
          case measure => simp [intOf]; omega
    · have HF := hide (show letters s = true by
        have := unhide HA
        rw [List.take_of_length_le (by simp; omega)] at this
        exact this)
      go_wp2
      go_ret
      exact ⟨ret_bool (by rw [unhide HF]; rfl), rfl⟩
theorem empty_iff (s : ByteArray) : (s = ByteArray.empty) ↔ s.size = 0 := by
  constructor
  · rintro rfl; rfl
  · intro h
    cases s with
    | mk d =>
      have : d = #[] := Array.eq_empty_of_size_eq_zero h
      rw [this]; rfl
end Go.Proofs.YtkmoekbicbjdmaaDoor.Lab
