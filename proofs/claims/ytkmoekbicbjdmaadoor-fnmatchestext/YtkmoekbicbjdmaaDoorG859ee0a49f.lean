/- My own texts of one claim, laid together by program: Lab, LabOk, LabOk2, LabPut. -/
import Derived.Test.YtkmoekbicbjdmaaDoorG5c89d1a104
import Derived.Test.YtkmoekbicbjdmaaDoorShelf
import Derived.Shelf.Abstract
import Derived.Laws.Concat
/- Letters, names, words: of the program and of the model. -/
namespace Go.Proofs.YtkmoekbicbjdmaaDoor.Lab
open Go.RowKit Rw Go.Lib
set_option linter.unusedVariables false
attribute [local go_sem ↓] Go.wp_at_zero Go.wp_at_succ
theorem notLetter_runes (w : World) : PredAtRunes Tryd.prog 69 #[] notL w := fun W r hr _ => by
  unfold FnGives
  rcases (show r < 97 ∨ (97 ≤ r ∧ r ≤ 122) ∨ (97 ≤ r ∧ 122 < r) from by omega) with h | ⟨h, h'⟩ | ⟨h, h'⟩
  · have hn : notL r = true := by unfold notL; rw [decide_eq_true h]; rfl
    have z : (r : Int) < 97 := by omega
    rw [hn]
    clear hn
    go_enter Tryd.func69, Tryd.ntmps69
    go_wp2
    go_ret
    exact ⟨rfl, 0, rfl⟩
  · have hn : notL r = false := by unfold notL; rw [decide_eq_false (by omega), decide_eq_false (by omega)]; rfl
    have z : decide ((r : Int) < 97) = false := by simp; omega
    have z2 : decide ((122 : Int) < (r : Int)) = false := by simp; omega
    rw [hn]
    clear hn
    go_enter Tryd.func69, Tryd.ntmps69
    go_wp2
    go_ret
    exact ⟨by first | rfl | exact ret_bool (decide_eq_false (by omega)), 0, rfl⟩
  · have hn : notL r = true := by unfold notL; rw [decide_eq_true h', Bool.or_true]
    have z : decide ((r : Int) < 97) = false := by simp; omega
    have z2 : (122 : Int) < (r : Int) := by omega
    rw [hn]
    clear hn
    go_enter Tryd.func69, Tryd.ntmps69
    go_wp2
    go_ret
    exact ⟨by first | rfl | exact ret_bool (decide_eq_true (by omega)), 0, rfl⟩
theorem letters_any (s : ByteArray) (w : World) : Calls Tryd.prog 66 #[.string s] w fun e w' => e = .returned (.bool (letters s)) ∧ Below w.heap.size w w' := by
  have H := hide (Tryd.strings_IndexFunc_runes 69 #[] (enters_of Tryd.func69 (by kernel_rfl) rfl) notL s w (notLetter_runes w))
  have HI := hide (idx_letters s)
  go_enter Tryd.func66, Tryd.ntmps66
  go_wp2_with fail
  refine (unhide H).mono ?_
  rintro e w1 ⟨rfl, b1⟩
  go_wp2_with fail
  go_ret
  exact ⟨ret_bool (unhide HI), b1⟩
theorem name_any (s : ByteArray) (w : World) (hs : s.size ≤ maxLen) : Calls Tryd.prog 38 #[.string s] w fun e w' => e = .returned (.bool (nameB s)) ∧ Below w.heap.size w w' := by
  unfold maxLen at hs
  have H := hide (letters_any s w)
  by_cases h1 : 1 ≤ s.size
  · by_cases h2 : s.size ≤ 6
    · have HN := hide (show nameB s = letters s by unfold nameB; rw [decide_eq_true h1, decide_eq_true h2]; rfl)
      go_enter Tryd.func38, Tryd.ntmps38
      go_wp2_with fail
      refine (unhide H).mono ?_
      rintro e w1 ⟨rfl, b1⟩
      go_wp2_with fail
      go_ret
      exact ⟨ret_bool (unhide HN).symm, b1⟩
    · have HN := hide (show nameB s = false by unfold nameB; rw [decide_eq_false h2, Bool.and_false]; rfl)
      go_enter Tryd.func38, Tryd.ntmps38
      go_wp2_with fail
      go_ret
      exact ⟨ret_bool (unhide HN).symm, Below.refl _ _⟩
  · have HN := hide (show nameB s = false by unfold nameB; rw [decide_eq_false h1]; rfl)
    go_enter Tryd.func38, Tryd.ntmps38
    go_wp2_with fail
    go_ret
    exact ⟨ret_bool (unhide HN).symm, Below.refl _ _⟩
theorem word_any (s : ByteArray) (w : World) (hs : s.size ≤ maxLen) : Calls Tryd.prog 39 #[.string s] w fun e w' => e = .returned (.bool (wordB s)) ∧ Below w.heap.size w w' := by
  unfold maxLen at hs
  have H := hide (letters_any s w)
  by_cases h2 : s.size ≤ 8
  · have HN := hide (show wordB s = letters s by unfold wordB; rw [decide_eq_true h2]; rfl)
    go_enter Tryd.func39, Tryd.ntmps39
    go_wp2_with fail
    refine (unhide H).mono ?_
    rintro e w1 ⟨rfl, b1⟩
    go_wp2_with fail
    go_ret
    exact ⟨ret_bool (unhide HN).symm, b1⟩
  · have HN := hide (show wordB s = false by unfold wordB; rw [decide_eq_false h2]; rfl)
    go_enter Tryd.func39, Tryd.ntmps39
    go_wp2_with fail
    go_ret
    exact ⟨ret_bool (unhide HN).symm, Below.refl _ _⟩
theorem take_snoc (s : ByteArray) (k : Nat) (h : k < s.size) : s.data.toList.take (k + 1) = s.data.toList.take k ++ [s[k]] := by
  rw [List.take_succ_eq_append_getElem (by simpa using h)]; rfl
set_option maxHeartbeats 1000000 in
theorem l3Letters_any (s : ByteArray) (most : Int) (w : World) (hs : s.size ≤ maxLen) : Calls Tryd.prog 41 #[.string s, .int .i64 most] w fun e w' => e = .returned (.bool (letters s && decide ((s.size : Int) ≤ most))) ∧ w' = w := by
  unfold maxLen at hs
  go_enter Tryd.func41, Tryd.ntmps41
  go_wp2
  go_loop [5] (fun i => ∃ k : Nat, k ≤ s.size ∧ i = .int .i64 k ∧ (s.data.toList.take k).all letter = true) (fun i => s.size - (intOf i).toNat)
  case atStart => exact ⟨0, Nat.zero_le _, rfl, rfl⟩
  case round =>
    obtain ⟨k, hk, rfl, hall⟩ := hrel
    have HA := hide hall
    clear hall
    by_cases hlt : k < s.size
    · have HT := hide (take_snoc s k hlt)
      have HL := hide (show letter s[k] = (decide (97 ≤ s[k].toNat) && decide (s[k].toNat ≤ 122)) from rfl)
      by_cases h1 : (s[k].toNat : Int) < 97
      · have HF := hide (show letters s = false by
          have hl : letter s[k] = false := by rw [unhide HL, decide_eq_false (by omega)]; rfl
          unfold letters
          rw [List.all_eq_false]
          exact ⟨s[k], by have : s[k] = s.data.toList[k]'(by simpa using hlt) := rfl
                          rw [this]; exact List.getElem_mem _, by simp [hl]⟩)
        go_wp2
        go_ret
        exact ⟨ret_bool (by rw [unhide HF]; rfl), rfl⟩
      · by_cases h2 : 122 < (s[k].toNat : Int)
        · have HF := hide (show letters s = false by
            have hl : letter s[k] = false := by rw [unhide HL, decide_eq_false (show ¬ s[k].toNat ≤ 122 by omega), Bool.and_false]
            unfold letters
            rw [List.all_eq_false]
            exact ⟨s[k], by have : s[k] = s.data.toList[k]'(by simpa using hlt) := rfl
                            rw [this]; exact List.getElem_mem _, by simp [hl]⟩)
          go_wp2
          go_ret
          exact ⟨ret_bool (by rw [unhide HF]; rfl), rfl⟩
        · have HS := hide (show (s.data.toList.take (k + 1)).all letter = true by
            have hl : letter s[k] = true := by rw [unhide HL, decide_eq_true (show 97 ≤ s[k].toNat by omega), decide_eq_true (show s[k].toNat ≤ 122 by omega)]; rfl
            rw [unhide HT, List.all_append, unhide HA]
            simp [hl])
          go_wp2
          go_round
          case rel => exact ⟨k + 1, by omega, by go_num, unhide HS⟩
          case measure => simp [intOf]; omega
    · have HF := hide (show letters s = true by
        have := unhide HA
        rw [List.take_of_length_le (by simp; omega)] at this
        exact this)
      go_wp2
      go_ret
      exact ⟨ret_bool (by rw [unhide HF]; rfl), rfl⟩
theorem empty_iff (s : ByteArray) : (s = ByteArray.empty) ↔ s.size = 0 := by
  constructor
  · rintro rfl; rfl
  · intro h
    cases s with
    | mk d =>
      have : d = #[] := Array.eq_empty_of_size_eq_zero h
      rw [this]; rfl
end Go.Proofs.YtkmoekbicbjdmaaDoor.Lab

/- LabelsOk, of the program and of the model, at every slice of labels. -/
namespace Go.Proofs.YtkmoekbicbjdmaaDoor.Lab
open Go.RowKit Rw
set_option linter.unusedVariables false
attribute [local go_sem ↓] Go.wp_at_zero Go.wp_at_succ
theorem run_geq (a b : ByteArray) (W : World) : (binOp .geq 9 (.string a) (.string b)).run Tryd.prog W = .ok (.bool (!ltS a b)) W := rfl
theorem not_empty {s : ByteArray} (h : s.size ≠ 0) : s.toList.isEmpty = false := by
  rw [ByteArray.toList_eq]
  have hl : s.data.toList.length = s.size := Array.length_toList
  cases hc : s.data.toList with
  | nil => rw [hc] at hl; simp at hl; omega
  | cons a l => rfl
set_option maxHeartbeats 1000000 in
theorem l3Name_any (s : ByteArray) (w : World) (hs : s.size ≤ maxLen) : Calls Tryd.prog 40 #[.string s] w fun e w' => e = .returned (.bool (nameB s)) ∧ w' = w := by
  have H := hide (l3Letters_any s 6 w hs)
  unfold maxLen at hs
  cases hl : (letters s && decide ((s.size : Int) ≤ 6))
  · have HL := hide hl
    have HN := hide (show nameB s = false by
      unfold nameB
      rw [Bool.and_eq_false_iff] at hl
      rcases hl with h | h
      · rw [h, Bool.and_false]
      · have : decide (s.size ≤ 6) = false := decide_eq_false (by have := of_decide_eq_false h; omega)
        rw [this, Bool.and_false]; rfl)
    clear hl
    go_enter Tryd.func40, Tryd.ntmps40
    go_wp2_with fail
    refine (unhide H).mono ?_
    rintro e w1 ⟨rfl, hw⟩
    subst hw
    rw [unhide HL]
    go_wp2_with fail
    go_ret
    exact ⟨ret_bool (unhide HN).symm, rfl⟩
  · have HL := hide hl
    rw [Bool.and_eq_true] at hl
    obtain ⟨hl1, hl2⟩ := hl
    by_cases h0 : s.size = 0
    · have HN := hide (show nameB s = false by unfold nameB; rw [decide_eq_false (show ¬ 1 ≤ s.size by omega)]; rfl)
      obtain rfl := (empty_iff s).2 h0
      clear hl1 hl2 h0
      go_enter Tryd.func40, Tryd.ntmps40
      go_wp2_with fail
      refine (unhide H).mono ?_
      rintro e w1 ⟨rfl, hw⟩
      subst hw
      rw [unhide HL]
      go_wp2_with fail
      go_ret
      exact ⟨ret_bool (unhide HN).symm, rfl⟩
    · have HN := hide (show nameB s = true by
        unfold nameB; rw [decide_eq_true (show 1 ≤ s.size by omega), hl1, decide_eq_true (show s.size ≤ 6 by have := of_decide_eq_true hl2; omega)]; rfl)
      have hE := not_empty h0
      clear hl1 hl2
      go_enter Tryd.func40, Tryd.ntmps40
      go_wp2_with fail
      refine (unhide H).mono ?_
      rintro e w1 ⟨rfl, hw⟩
      subst hw
      rw [unhide HL]
      go_wp2_with fail
      go_ret
      exact ⟨ret_bool (unhide HN).symm, rfl⟩
set_option maxRecDepth 100000 in
set_option maxHeartbeats 4000000 in
theorem impl_ok {w : World} {v : Value} {zs : List E} (h : Is w v zs) (hg : ∀ x ∈ zs, good x) : Calls Tryd.prog 11 #[v] w fun e w' => e = .returned (.bool (ok zs)) ∧ Below w.heap.size w w' := by
  obtain ⟨-, a, cap, rfl, hc, hm, -, hr⟩ := h
  unfold maxLen at hm
  obtain ⟨n, hn⟩ : ∃ n, n = zs.length := ⟨_, rfl⟩
  rw [← hn] at hc hr ⊢
  have HN := hide hn
  have HG := hide hg
  clear hn hg
  by_cases h1 : n < 1
  · have HF := hide (ok_of_len (zs := zs) (by have := unhide HN; omega))
    go_enter Tryd.func11, Tryd.ntmps11
    go_wp2_with fail
    go_ret
    exact ⟨ret_bool (unhide HF).symm, Below.refl _ _⟩
  by_cases h4 : 4 < n
  · have HF := hide (ok_of_len (zs := zs) (by have := unhide HN; omega))
    go_enter Tryd.func11, Tryd.ntmps11
    go_wp2_with fail
    go_ret
    exact ⟨ret_bool (unhide HF).symm, Below.refl _ _⟩
  have hd1 : decide ((n : Int) < 1) = false := by simp; omega
  have hd4 : decide ((4 : Int) < (n : Int)) = false := by simp; omega
  go_enter Tryd.func11, Tryd.ntmps11
  go_wp2_with fail
  clear hd1 hd4
  go_loopw [15] (fun i wr => ∃ k : Nat, k ≤ n ∧ i = .int .i64 k ∧ okTo zs k = true ∧ Below w.heap.size w wr) (fun i _ => n - (intOf i).toNat)
  case atStart => exact ⟨0, Nat.zero_le _, rfl, rfl, Below.refl _ _⟩
  case round =>
    obtain ⟨k, hk, rfl, hok, hbel⟩ := hrel
    have HO := hide hok
    clear hok
    have hsz := hbel.size
    by_cases hlt : k < n
    · obtain ⟨b, off, rfl, hl, hcells⟩ := hr (by omega)
      have fa := flat_at zs k (by have := unhide HN; omega)
      have gd := unhide HG (at' zs k) (by rw [at_get zs k (by have := unhide HN; omega)]; exact List.getElem_mem _)
      obtain ⟨A, B, hX⟩ : ∃ A B, (A, B) = at' zs k := ⟨_, _, rfl⟩
      rw [← hX] at fa gd
      obtain ⟨gA, gB⟩ := gd
      have hc0 : wr.cell? ⟨b, off + k * 2, none⟩ = some (.string A) := (hbel.cell (p := ⟨b, _, none⟩) hl).trans (hcells (k * 2) _ fa.1)
      have hc1 : wr.cell? ⟨b, off + k * 2 + 1, none⟩ = some (.string B) := (hbel.cell (p := ⟨b, _, none⟩) hl).trans (hcells (k * 2 + 1) _ fa.2)
      have HX := hide hX
      clear hX fa
      have hk0 : (0 : Int) ≤ (k : Int) := Int.natCast_nonneg _
      have hk1 : (k : Int) < (n : Int) := by omega
      obtain ⟨W, hW⟩ : ∃ W, W = wr.alloc (.cells #[.string A, .string B] 47) := ⟨_, rfl⟩
      have hWb : Below w.heap.size w W := by rw [hW]; exact hbel.alloc hsz _
      have hW0 : W.cell? ⟨wr.heap.size, 0, none⟩ = some (.string A) := by rw [hW]; simp
      have hW1 : W.cell? ⟨wr.heap.size, 1, none⟩ = some (.string B) := by rw [hW]; simp
      have hWs : W.heap.size = wr.heap.size + 1 := by rw [hW]; simp
      have dW : Below wr.heap.size wr W := by rw [hW]; exact (Below.refl _ _).alloc (Nat.le_refl _) _
      have HWs := hide hWs
      have HW := hide hW
      clear hW hWs
      have hN := fun X => name_any A X gA
      have hWd := fun X => word_any B X gB
      have HNm := hide hN
      have HWd := hide hWd
      clear hN hWd gA gB
      go_wp2_with fail
      rw [← unhide HW]
      refine (unhide HNm W).mono ?_
      rintro e w1 ⟨rfl, b1⟩
      have hw1 : w1.cell? ⟨wr.heap.size, 1, none⟩ = some (.string B) := (b1.cell (p := ⟨_, _, none⟩) (by have := unhide HWs; show wr.heap.size < _; omega)).trans hW1
      have hw0 : w1.cell? ⟨wr.heap.size, 0, none⟩ = some (.string A) := (b1.cell (p := ⟨_, _, none⟩) (by have := unhide HWs; show wr.heap.size < _; omega)).trans hW0
      have c1 := hWb.trans (b1.mono hWb.size)
      cases hnm : nameB A
      · have HF := hide (ok_of_bad (zs := zs) (k := k) (by have := unhide HN; omega) (step_name (by rw [← unhide HX]; exact hnm)))
        clear hnm
        go_wp2_with fail
        go_ret
        exact ⟨ret_bool (unhide HF).symm, c1⟩
      have KN := hide hnm
      clear hnm
      go_wp2_with fail
      refine (unhide HWd w1).mono ?_
      rintro e w2 ⟨rfl, b2⟩
      have s1 := b1.size
      have hv1 : w2.cell? ⟨wr.heap.size, 1, none⟩ = some (.string B) := (b2.cell (p := ⟨_, _, none⟩) (by have := unhide HWs; show wr.heap.size < _; omega)).trans hw1
      have hv0 : w2.cell? ⟨wr.heap.size, 0, none⟩ = some (.string A) := (b2.cell (p := ⟨_, _, none⟩) (by have := unhide HWs; show wr.heap.size < _; omega)).trans hw0
      have c2 := c1.trans (b2.mono c1.size)
      have s2 := b2.size
      have d1 := dW.trans (b1.mono (by have := unhide HWs; omega))
      have d2 := d1.trans (b2.mono (by have := unhide HWs; omega))
      clear hW0 hW1 hw0 hw1 b1 b2
      cases hwd : wordB B
      · have HF := hide (ok_of_bad (zs := zs) (k := k) (by have := unhide HN; omega) (step_word (by rw [← unhide HX]; exact hwd)))
        clear hwd
        go_wp2_with fail
        go_ret
        exact ⟨ret_bool (unhide HF).symm, c2⟩
      have KW := hide hwd
      clear hwd
      by_cases hB0 : B.size = 0
      · have HF := hide (ok_of_bad (zs := zs) (k := k) (by have := unhide HN; omega) (step_empty (by rw [← unhide HX]; exact hB0)))
        obtain rfl := (empty_iff B).2 hB0
        go_wp2_with fail
        go_ret
        exact ⟨ret_bool (unhide HF).symm, c2⟩
      have hE := not_empty hB0
      by_cases hk00 : k = 0
      · have HS := hide (show okTo zs (k + 1) = true by rw [okTo_succ, unhide HO, step_yes (by rw [← unhide HX]; exact unhide KN) (by rw [← unhide HX]; exact unhide KW) (by rw [← unhide HX]; show 0 < B.size; omega) (.inl hk00)]; rfl)
        have hd : decide ((0 : Int) < (k : Int)) = false := by simp; omega
        have hd2 : decide (0 < k) = false := by simp; omega
        clear hk00
        have hne := cls_nonempty w2.heap.size w2
        go_wp2_with fail
        refine region_cls (by kernel_rfl) (by kernel_rfl) ?_
        repeat (go_big_quiet_step (fail))
        refine wpQuiet_nil ?_
        rintro wq ⟨⟨_, hq⟩, rfl⟩
        go_wp2
        go_roundw
        case rel => exact ⟨k + 1, by omega, by go_num, unhide HS, c2.trans (hq.mono c2.size)⟩
        case measure => simp [intOf]; omega
      · have hkp : 0 < k := by omega
        have hkp' : (0 : Int) < (k : Int) := by omega
        have fp := (flat_at zs (k - 1) (by have := unhide HN; omega)).1
        obtain ⟨P, hP⟩ : ∃ P, P = (at' zs (k - 1)).1 := ⟨_, rfl⟩
        rw [← hP] at fp
        have hqp : ∀ x : Cls w2.heap.size w2, x.val.cell? ⟨b, off + (k - 1) * 2, none⟩ = some (.string P) := fun x => by
          rw [x.cell (by have := d2.size; omega)]
          exact (d2.cell (p := ⟨b, _, none⟩) (show b < wr.heap.size by omega)).trans ((hbel.cell (p := ⟨b, _, none⟩) hl).trans (hcells ((k - 1) * 2) _ fp))
        have hq0 : ∀ x : Cls w2.heap.size w2, x.val.cell? ⟨wr.heap.size, 0, none⟩ = some (.string A) := fun x => by
          rw [x.cell (by have := unhide HWs; omega)]
          exact hv0
        have HP := hide hP
        clear hP fp
        have hne := cls_nonempty w2.heap.size w2
        cases hlt2 : ltS P A
        · have HF := hide (ok_of_bad (zs := zs) (k := k) (by have := unhide HN; omega) (step_late (by omega) (by rw [← unhide HX, ← unhide HP]; exact hlt2)))
          have hlt3 : ∀ W, (binOp .geq 9 (.string P) (.string A)).run Tryd.prog W = .ok (.bool true) W := fun W => by rw [run_geq, hlt2]; rfl
          clear hlt2
          go_wp2_with fail
          refine region_cls (by kernel_rfl) (by kernel_rfl) ?_
          repeat (go_big_quiet_step (fail))
          refine wpQuiet_nil ?_
          rintro wq ⟨⟨_, hq⟩, rfl⟩
          go_wp2
          go_ret
          exact ⟨ret_bool (unhide HF).symm, c2.trans (hq.mono c2.size)⟩
        · have HS := hide (show okTo zs (k + 1) = true by rw [okTo_succ, unhide HO, step_yes (by rw [← unhide HX]; exact unhide KN) (by rw [← unhide HX]; exact unhide KW) (by rw [← unhide HX]; show 0 < B.size; omega) (.inr (by rw [← unhide HX, ← unhide HP]; exact hlt2))]; rfl)
          have hlt3 : ∀ W, (binOp .geq 9 (.string P) (.string A)).run Tryd.prog W = .ok (.bool false) W := fun W => by rw [run_geq, hlt2]; rfl
          clear hlt2
          go_wp2_with fail
          refine region_cls (by kernel_rfl) (by kernel_rfl) ?_
          repeat (go_big_quiet_step (fail))
          refine wpQuiet_nil ?_
          rintro wq ⟨⟨_, hq⟩, rfl⟩
          go_wp2
          go_roundw
          case rel => exact ⟨k + 1, by omega, by go_num, unhide HS, c2.trans (hq.mono c2.size)⟩
          case measure => simp [intOf]; omega
    · have HF := hide (ok_all (zs := zs) (by have := unhide HN; omega) (by have := unhide HN; omega) (by rw [← unhide HN, show n = k from by omega]; exact unhide HO))
      go_wp2_with fail
      go_ret
      exact ⟨ret_bool (unhide HF).symm, hbel⟩
end Go.Proofs.YtkmoekbicbjdmaaDoor.Lab

/- LabelsOk of the model, at every slice of labels. -/
namespace Go.Proofs.YtkmoekbicbjdmaaDoor.Lab
open Go.RowKit Rw
set_option linter.unusedVariables false
attribute [local go_sem ↓] Go.wp_at_zero Go.wp_at_succ
theorem run_eql (a b : ByteArray) (W : World) : (binOp .eql 9 (.string a) (.string b)).run Tryd.prog W = .ok (.bool (a.toList == b.toList)) W := rfl
theorem in_yes (n lo hi : Int) (w : World) (h1 : lo ≤ n) (h2 : n ≤ hi) : Calls Tryd.prog 42 #[.int .i64 n, .int .i64 lo, .int .i64 hi] w fun e w' => e = .returned (.bool true) ∧ w' = w := by
  go_enter Tryd.func42, Tryd.ntmps42
  go_wp2
  go_ret
  exact ⟨by first | rfl | exact ret_bool (decide_eq_true (by omega)), rfl⟩
theorem in_no (n lo hi : Int) (w : World) (h : n < lo ∨ hi < n) : Calls Tryd.prog 42 #[.int .i64 n, .int .i64 lo, .int .i64 hi] w fun e w' => e = .returned (.bool false) ∧ w' = w := by
  by_cases h1 : lo ≤ n
  · have h2 : ¬ n ≤ hi := by omega
    go_enter Tryd.func42, Tryd.ntmps42
    go_wp2
    go_ret
    exact ⟨by first | rfl | exact ret_bool (decide_eq_false (by omega)), rfl⟩
  · go_enter Tryd.func42, Tryd.ntmps42
    go_wp2
    go_ret
    exact ⟨by first | rfl | exact ret_bool (decide_eq_false (by omega)), rfl⟩
theorem eql_empty {s : ByteArray} (h : s.size ≠ 0) (W : World) : (binOp .eql 9 (.string s) (.string { data := #[] })).run Tryd.prog W = .ok (.bool false) W := by
  rw [run_eql]
  have := not_empty h
  have e : (s.toList == ByteArray.toList { data := #[] }) = false := by
    have e0 : ByteArray.toList { data := #[] } = [] := by rw [ByteArray.toList_eq]
    rw [e0]
    cases hc : s.toList with
    | nil => rw [hc] at this; cases this
    | cons a l => rfl
  rw [e]
set_option maxRecDepth 100000 in
set_option maxHeartbeats 4000000 in
theorem spec_ok {w : World} {v : Value} {zs : List E} (h : Is w v zs) (hg : ∀ x ∈ zs, good x) (hlen : zs.length ≤ maxLen) : Calls Tryd.prog 12 #[v] w fun e w' => e = .returned (.bool (ok zs)) ∧ Below w.heap.size w w' := by
  obtain ⟨-, a, cap, rfl, hc, hm, -, hr⟩ := h
  unfold maxLen at hm hlen
  obtain ⟨n, hn⟩ : ∃ n, n = zs.length := ⟨_, rfl⟩
  rw [← hn] at hc hr hlen ⊢
  have HN := hide hn
  have HG := hide hg
  clear hn hg
  go_enter Tryd.func12, Tryd.ntmps12
  go_wp2_with fail
  go_loopw [3] (fun i wr => ∃ k : Nat, k ≤ n ∧ i = .int .i64 k ∧ okTo zs k = true ∧ Below w.heap.size w wr) (fun i _ => n - (intOf i).toNat)
  case atStart => exact ⟨0, Nat.zero_le _, rfl, rfl, Below.refl _ _⟩
  case round =>
    obtain ⟨k, hk, rfl, hok, hbel⟩ := hrel
    have HO := hide hok
    clear hok
    have hsz := hbel.size
    by_cases hlt : k < n
    · obtain ⟨b, off, rfl, hl, hcells⟩ := hr (by omega)
      have fa := flat_at zs k (by have := unhide HN; omega)
      have gd := unhide HG (at' zs k) (by rw [at_get zs k (by have := unhide HN; omega)]; exact List.getElem_mem _)
      obtain ⟨A, B, hX⟩ : ∃ A B, (A, B) = at' zs k := ⟨_, _, rfl⟩
      rw [← hX] at fa gd
      obtain ⟨gA, gB⟩ := gd
      have hc0 : ∀ x : Cls wr.heap.size wr, x.val.cell? ⟨b, off + k * 2, none⟩ = some (.string A) := fun x => by rw [x.cell (by omega)]; exact (hbel.cell (p := ⟨b, _, none⟩) hl).trans (hcells (k * 2) _ fa.1)
      have hc1 : ∀ x : Cls wr.heap.size wr, x.val.cell? ⟨b, off + k * 2 + 1, none⟩ = some (.string B) := fun x => by rw [x.cell (by omega)]; exact (hbel.cell (p := ⟨b, _, none⟩) hl).trans (hcells (k * 2 + 1) _ fa.2)
      have HX := hide hX
      clear hX fa
      have hk0 : (0 : Int) ≤ (k : Int) := Int.natCast_nonneg _
      have hk1 : (k : Int) < (n : Int) := by omega
      have HNm := hide (fun X => l3Name_any A X gA)
      have HWd := hide (fun X => l3Letters_any B 8 X gB)
      have HWB := hide (show (letters B && decide ((B.size : Int) ≤ 8)) = wordB B by unfold wordB; rw [Bool.and_comm]; congr 1; exact decide_eq_decide.2 (by omega))
      rw [unhide HWB] at HWd
      clear gA gB
      have hne := cls_nonempty wr.heap.size wr
      cases hnm : nameB A
      · have HF := hide (ok_of_bad (zs := zs) (k := k) (by have := unhide HN; omega) (step_name (by rw [← unhide HX]; exact hnm)))
        rw [hnm] at HNm
        clear hnm
        go_wp2_with fail
        refine region_cls (by kernel_rfl) (by kernel_rfl) ?_
        repeat (go_big_quiet_step ((first | (go_at_call 40; exact cls_same (unhide HNm _)) | (go_at_call 41; exact cls_same (unhide HWd _)))))
        refine wpQuiet_nil ?_
        rintro wq ⟨⟨_, hq⟩, rfl⟩
        go_wp2
        go_ret
        exact ⟨ret_bool (unhide HF).symm, hbel.trans (hq.mono hsz)⟩
      have KN := hide hnm
      rw [hnm] at HNm
      clear hnm
      cases hwd : wordB B
      · have HF := hide (ok_of_bad (zs := zs) (k := k) (by have := unhide HN; omega) (step_word (by rw [← unhide HX]; exact hwd)))
        rw [hwd] at HWd
        clear hwd
        go_wp2_with fail
        refine region_cls (by kernel_rfl) (by kernel_rfl) ?_
        repeat (go_big_quiet_step ((first | (go_at_call 40; exact cls_same (unhide HNm _)) | (go_at_call 41; exact cls_same (unhide HWd _)))))
        refine wpQuiet_nil ?_
        rintro wq ⟨⟨_, hq⟩, rfl⟩
        go_wp2
        go_ret
        exact ⟨ret_bool (unhide HF).symm, hbel.trans (hq.mono hsz)⟩
      have KW := hide hwd
      rw [hwd] at HWd
      clear hwd
      by_cases hB0 : B.size = 0
      · have HF := hide (ok_of_bad (zs := zs) (k := k) (by have := unhide HN; omega) (step_empty (by rw [← unhide HX]; exact hB0)))
        obtain rfl := (empty_iff B).2 hB0
        have hE : ∀ W, (binOp .eql 9 (.string ByteArray.empty) (.string { data := #[] })).run Tryd.prog W = .ok (.bool true) W := fun W => by rw [run_eql, ByteArray.toList_eq, ByteArray.toList_eq]; rfl
        go_wp2_with fail
        refine region_cls (by kernel_rfl) (by kernel_rfl) ?_
        repeat (go_big_quiet_step ((first | (go_at_call 40; exact cls_same (unhide HNm _)) | (go_at_call 41; exact cls_same (unhide HWd _)))))
        refine wpQuiet_nil ?_
        rintro wq ⟨⟨_, hq⟩, rfl⟩
        go_wp2
        go_ret
        exact ⟨ret_bool (unhide HF).symm, hbel.trans (hq.mono hsz)⟩
      have hE := eql_empty hB0
      have hE2 := not_empty hB0
      by_cases hk00 : k = 0
      · have HS := hide (show okTo zs (k + 1) = true by rw [okTo_succ, unhide HO, step_yes (by rw [← unhide HX]; exact unhide KN) (by rw [← unhide HX]; exact unhide KW) (by rw [← unhide HX]; show 0 < B.size; omega) (.inl hk00)]; rfl)
        have hd : decide ((0 : Int) < (k : Int)) = false := by simp; omega
        have hd2 : decide (0 < k) = false := by simp; omega
        clear hk00
        go_wp2_with fail
        refine region_cls (by kernel_rfl) (by kernel_rfl) ?_
        repeat (go_big_quiet_step ((first | (go_at_call 40; exact cls_same (unhide HNm _)) | (go_at_call 41; exact cls_same (unhide HWd _)))))
        refine wpQuiet_nil ?_
        rintro wq ⟨⟨_, hq⟩, rfl⟩
        go_wp2
        go_roundw
        case rel => exact ⟨k + 1, by omega, by go_num, unhide HS, hbel.trans (hq.mono hsz)⟩
        case measure => simp [intOf]; omega
      · have hkp : 0 < k := by omega
        have hkp' : (0 : Int) < (k : Int) := by omega
        have fp := (flat_at zs (k - 1) (by have := unhide HN; omega)).1
        obtain ⟨P, hP⟩ : ∃ P, P = (at' zs (k - 1)).1 := ⟨_, rfl⟩
        rw [← hP] at fp
        have hqp : ∀ x : Cls wr.heap.size wr, x.val.cell? ⟨b, off + (k - 1) * 2, none⟩ = some (.string P) := fun x => by rw [x.cell (by omega)]; exact (hbel.cell (p := ⟨b, _, none⟩) hl).trans (hcells ((k - 1) * 2) _ fp)
        have HP := hide hP
        clear hP fp
        cases hlt2 : ltS P A
        · have HF := hide (ok_of_bad (zs := zs) (k := k) (by have := unhide HN; omega) (step_late (by omega) (by rw [← unhide HX, ← unhide HP]; exact hlt2)))
          have hlt3 : ∀ W, (binOp .geq 9 (.string P) (.string A)).run Tryd.prog W = .ok (.bool true) W := fun W => by rw [run_geq, hlt2]; rfl
          clear hlt2
          go_wp2_with fail
          refine region_cls (by kernel_rfl) (by kernel_rfl) ?_
          repeat (go_big_quiet_step ((first | (go_at_call 40; exact cls_same (unhide HNm _)) | (go_at_call 41; exact cls_same (unhide HWd _)))))
          refine wpQuiet_nil ?_
          rintro wq ⟨⟨_, hq⟩, rfl⟩
          go_wp2
          go_ret
          exact ⟨ret_bool (unhide HF).symm, hbel.trans (hq.mono hsz)⟩
        · have HS := hide (show okTo zs (k + 1) = true by rw [okTo_succ, unhide HO, step_yes (by rw [← unhide HX]; exact unhide KN) (by rw [← unhide HX]; exact unhide KW) (by rw [← unhide HX]; show 0 < B.size; omega) (.inr (by rw [← unhide HX, ← unhide HP]; exact hlt2))]; rfl)
          have hlt3 : ∀ W, (binOp .geq 9 (.string P) (.string A)).run Tryd.prog W = .ok (.bool false) W := fun W => by rw [run_geq, hlt2]; rfl
          clear hlt2
          go_wp2_with fail
          refine region_cls (by kernel_rfl) (by kernel_rfl) ?_
          repeat (go_big_quiet_step ((first | (go_at_call 40; exact cls_same (unhide HNm _)) | (go_at_call 41; exact cls_same (unhide HWd _)))))
          refine wpQuiet_nil ?_
          rintro wq ⟨⟨_, hq⟩, rfl⟩
          go_wp2
          go_roundw
          case rel => exact ⟨k + 1, by omega, by go_num, unhide HS, hbel.trans (hq.mono hsz)⟩
          case measure => simp [intOf]; omega
    · by_cases h14 : 1 ≤ n ∧ n ≤ 4
      · have HF := hide (ok_all (zs := zs) (by have := unhide HN; omega) (by have := unhide HN; omega) (by rw [← unhide HN, show n = k from by omega]; exact unhide HO))
        have HI := hide (fun W => in_yes (n : Int) 1 4 W (by omega) (by omega))
        go_wp2_with fail
        refine (unhide HI _).mono ?_
        rintro e w5 ⟨rfl, hw⟩
        subst hw
        go_wp2_with fail
        go_ret
        exact ⟨ret_bool (unhide HF).symm, hbel⟩
      · have HF := hide (ok_of_len (zs := zs) (by have := unhide HN; omega))
        have HI := hide (fun W => in_no (n : Int) 1 4 W (by omega))
        go_wp2_with fail
        refine (unhide HI _).mono ?_
        rintro e w5 ⟨rfl, hw⟩
        subst hw
        go_wp2_with fail
        go_ret
        exact ⟨ret_bool (unhide HF).symm, hbel⟩
end Go.Proofs.YtkmoekbicbjdmaaDoor.Lab

/- LabelsPut, of the program and of the model, at every slice of labels. -/
namespace Go.Proofs.YtkmoekbicbjdmaaDoor.Lab
open Go.RowKit Rw PutMath
set_option linter.unusedVariables false
attribute [local go_sem ↓] Go.wp_at_zero Go.wp_at_succ
theorem info_str : (Tryd.prog.info? 9).map (fun i => (i.zero, i.size, i.bytes)) = some (some (.string ByteArray.empty), 1, 16) := by kernel_rfl
def partOf (x : E) : ByteArray := x.1 ++ ⟨#[61]⟩ ++ x.2
def parts (zs : List E) : List ByteArray := zs.map partOf
theorem parts_snoc (zs : List E) (k : Nat) (h : k < zs.length) : parts (zs.take (k + 1)) = parts (zs.take k) ++ [partOf (at' zs k)] := by unfold parts; rw [at_snoc zs k h, List.map_append]; rfl
theorem parts_length (zs : List E) : (parts zs).length = zs.length := by simp [parts]
/-- none is too great -/
def small (zs : List E) : Prop := zs.length ≤ 1000 ∧ ∀ x ∈ zs, x.1.size ≤ 1000 ∧ x.2.size ≤ 1000
theorem part_size {zs : List E} (h : small zs) (k : Nat) : ∀ p ∈ parts (zs.take k), p.size ≤ 2001 := by
  intro p hp
  obtain ⟨x, hx, rfl⟩ := List.mem_map.1 hp
  have := h.2 x (List.mem_of_mem_take hx)
  unfold partOf
  rw [app_size, app_size]
  have e : (⟨#[61]⟩ : ByteArray).size = 1 := rfl
  omega
theorem join_small {zs : List E} (h : small zs) (k : Nat) : (joinB (parts (zs.take k))).length ≤ 2002000 := by
  have h1 := joinB_len (parts (zs.take k)) 2001 (part_size h k)
  rw [parts_length] at h1
  have h2 : (zs.take k).length ≤ 1000 := by have := List.length_take_le k zs; have := h.1; simp; omega
  have := Nat.mul_le_mul_right 2002 h2
  omega
theorem ok_small {zs : List E} (h : ok zs = true) : small zs := by
  unfold ok at h
  simp only [Bool.and_eq_true, decide_eq_true_eq] at h
  refine ⟨by omega, fun x hx => ?_⟩
  obtain ⟨k, hk, rfl⟩ := List.getElem_of_mem hx
  have hs := List.all_eq_true.1 (show (List.range zs.length).all (stepOk zs) = true from h.2) k (List.mem_range.2 hk)
  rw [← at_get zs k hk]
  unfold stepOk nameB wordB at hs
  simp only [Bool.and_eq_true, decide_eq_true_eq] at hs
  exact ⟨by have := hs.1.1.1.1.2; omega, by have := hs.1.1.2.1; omega⟩
def put (zs : List E) : ByteArray := if ok zs = true then wrap 123 125 (parts zs) else ByteArray.empty
def flatS (l : List ByteArray) : List Value := l.map Value.string
theorem flatS_append (a b : List ByteArray) : flatS (a ++ b) = flatS a ++ flatS b := by simp [flatS]
set_option maxRecDepth 100000 in
set_option maxHeartbeats 4000000 in
theorem impl_put {w : World} {v : Value} {zs : List E} (h : Is w v zs) (hg : ∀ x ∈ zs, good x) : Calls Tryd.prog 8 #[v] w fun e w' => e = .returned (.string (put zs)) ∧ Below w.heap.size w w' := by
  obtain ⟨i0, hi, hz0, hz1, hz2⟩ := info_parts info_str
  have H1 := hide (impl_ok h hg)
  cases ho : ok zs
  · have HR := hide (show put zs = ByteArray.empty by unfold put; rw [ho]; rfl)
    rw [ho] at H1
    clear ho h hg
    go_enter Tryd.func8, Tryd.ntmps8
    go_wp2_with fail
    refine (unhide H1).mono ?_
    rintro e w1 ⟨rfl, b1⟩
    go_wp2_with fail
    go_ret
    exact ⟨ret_string (unhide HR).symm, b1⟩
  have HR := hide (show put zs = wrap 123 125 (parts zs) by unfold put; rw [ho]; rfl)
  have hsm := ok_small ho
  have hn1 : 1 ≤ zs.length := by unfold ok at ho; simp only [Bool.and_eq_true, decide_eq_true_eq] at ho; exact ho.1.1
  rw [ho] at H1
  clear ho hg
  obtain ⟨-, a, cap, rfl, hc, hm, -, hr⟩ := h
  unfold maxLen at hm
  obtain ⟨n, hn⟩ : ∃ n, n = zs.length := ⟨_, rfl⟩
  have hn2 : n ≤ 1000 := by rw [hn]; exact hsm.1
  rw [← hn] at hc hr hn1 H1 ⊢
  have HN := hide hn
  have HSM := hide hsm
  clear hn hsm
  obtain ⟨R, hR⟩ : ∃ R, R = put zs := ⟨_, rfl⟩
  rw [← hR] at HR ⊢
  clear hR
  go_enter Tryd.func8, Tryd.ntmps8
  go_wp2_with fail
  refine (unhide H1).mono ?_
  rintro e w1 ⟨rfl, b1⟩
  go_wp2_with fail
  go_loopw [3, 11] (fun pv i wr => ∃ k : Nat, k ≤ n ∧ i = .int .i64 k ∧ wr.ownsRow w.heap.size 9 1 pv k (flatS (parts (zs.take k))) ∧ Below w.heap.size w wr) (fun _ i _ => n - (intOf i).toNat)
  case atStart => exact ⟨0, Nat.zero_le _, rfl, World.ownsRow_nil _ _ _ _, b1⟩
  case round =>
    clear b1 H1
    obtain ⟨k, hk, rfl, hown, hbel⟩ := hrel
    have hsz := hbel.size
    have hk0 : (0 : Int) ≤ (k : Int) := Int.natCast_nonneg _
    by_cases hlt : k < n
    · obtain ⟨b, off, rfl, hl, hcells⟩ := hr (by omega)
      have fa := flat_at zs k (by have := unhide HN; omega)
      have gd := (unhide HSM).2 (at' zs k) (by rw [at_get zs k (by have := unhide HN; omega)]; exact List.getElem_mem _)
      have HPS := parts_snoc zs k (by have := unhide HN; omega)
      obtain ⟨A, B, hX⟩ : ∃ A B, (A, B) = at' zs k := ⟨_, _, rfl⟩
      rw [← hX] at fa gd HPS
      simp only at gd
      have hc0 : wr.cell? ⟨b, off + k * 2, none⟩ = some (.string A) := (hbel.cell (p := ⟨b, _, none⟩) hl).trans (hcells (k * 2) _ fa.1)
      have hc1 : wr.cell? ⟨b, off + k * 2 + 1, none⟩ = some (.string B) := (hbel.cell (p := ⟨b, _, none⟩) hl).trans (hcells (k * 2 + 1) _ fa.2)
      have e61 : (⟨#[61]⟩ : ByteArray).size = 1 := rfl
      have HQ := hide (show partOf (A, B) = A ++ ⟨#[61]⟩ ++ B from rfl)
      have s1 : ∀ W, (Op.stringOp .add A ⟨#[61]⟩).run Tryd.prog W = .ok (.string (A ++ ⟨#[61]⟩)) W := fun W => run_string_add_sum W _ _ (by rw [e61]; omega)
      have s2 : ∀ W, (Op.stringOp .add (A ++ ⟨#[61]⟩) B).run Tryd.prog W = .ok (.string (A ++ ⟨#[61]⟩ ++ B)) W := fun W => run_string_add_sum W _ _ (by rw [app_size, e61]; omega)
      rw [← unhide HQ] at s2
      generalize A ++ ⟨#[61]⟩ = P1 at s1 s2
      have HPS' := hide HPS
      generalize partOf (A, B) = P2 at s2 HPS'
      clear hX fa gd HPS HQ e61
      have hk1 : (k : Int) < (n : Int) := by omega
      go_wp2_with (at_builtin; refine app_wp _ rfl _ _ _ rfl w.heap.size 9 i0 _ 1 16 Tryd.underlying45 hi hz0 hz1 hz2 rfl (by omega) _ k _ rfl ((hown.alloc _).alloc _) _ 1 [.string P2] rfl (lies_new (by simp) rfl (by unfold maxLen; omega)) (by simp [Value.oneCell']) (by unfold maxLen; omega) (by omega) (by simp; omega) ?_; intro vn wn on gn an)
      have R9 : Below w.heap.size w wn := below_grown ((hbel.alloc hsz _).alloc (by simp; omega) _) (by simp; omega) gn (own_ge hown)
      have R2 := hide (show wn.ownsRow w.heap.size 9 1 vn (k + 1) (flatS (parts (zs.take (k + 1)))) by rw [unhide HPS', flatS_append]; exact on)
      clear on gn an hown
      go_wp2_with fail
      go_roundw
      case rel => exact ⟨k + 1, by omega, by go_num, unhide R2, R9⟩
      case measure => simp [intOf]; omega
    · obtain rfl : k = n := by omega
      have hkf : decide ((k : Int) < (k : Int)) = false := by simp
      rw [List.take_of_length_le (by have := unhide HN; omega)] at hown
      obtain ⟨g, cp, rfl, hgb, hgl⟩ := hown.form (by omega)
      have JS := join_small (unhide HSM) k
      rw [List.take_of_length_le (by have := unhide HN; omega)] at JS
      have HL : (parts zs).length = k := by rw [parts_length]; exact (unhide HN).symm
      have hcp : k ≤ cp := by obtain ⟨-, a', c', e, h2, -⟩ := lies_of_own hown; simp only [Value.slice.injEq, true_and] at e; omega
      have HJ := hide (Tryd.strings_Join g 0 cp (parts zs) ⟨#[44]⟩ wr (fun j x hj => by
        have hj' := (List.getElem?_eq_some_iff.1 hj).1
        rw [Nat.zero_add, hown.cellAt j (by omega)]
        simp [flatS, hj]) hgl (by omega) (by omega) (by show (joinB (parts zs)).length ≤ _; omega))
      rw [HL] at HJ
      have e1 : (⟨#[123]⟩ : ByteArray).size = 1 := rfl
      have e2 : (⟨#[125]⟩ : ByteArray).size = 1 := rfl
      have HW := hide (wrap_join 123 125 (parts zs))
      have sJ := size_of (joinB (parts zs))
      have HJ2 := hide (show Calls Tryd.prog 33 #[.slice (some ⟨g, 0, none⟩) k cp, .string ⟨#[44]⟩] wr fun e w' => e = .returned (.string ⟨(joinB (parts zs)).toArray⟩) ∧ Below wr.heap.size wr w' from unhide HJ)
      have s1 : ∀ W, (Op.stringOp .add ⟨#[123]⟩ ⟨(joinB (parts zs)).toArray⟩).run Tryd.prog W = .ok (.string (⟨#[123]⟩ ++ ⟨(joinB (parts zs)).toArray⟩)) W := fun W => run_string_add_sum W _ _ (by rw [e1, sJ]; omega)
      have s2 : ∀ W, (Op.stringOp .add (⟨#[123]⟩ ++ ⟨(joinB (parts zs)).toArray⟩) ⟨#[125]⟩).run Tryd.prog W = .ok (.string (⟨#[123]⟩ ++ ⟨(joinB (parts zs)).toArray⟩ ++ ⟨#[125]⟩)) W := fun W => run_string_add_sum W _ _ (by rw [app_size, e1, e2, sJ]; omega)
      rw [unhide HW, ← unhide HR] at s2
      clear HJ HL hown JS sJ e1 e2 HW
      generalize (⟨(joinB (parts zs)).toArray⟩ : ByteArray) = J at HJ2 s1 s2
      generalize (⟨#[123]⟩ : ByteArray) ++ J = P1 at s1 s2
      go_wp2_with fail
      refine (unhide HJ2).mono ?_
      rintro e w5 ⟨rfl, b5⟩
      have c5 := hbel.trans (b5.mono hsz)
      go_wp2_with fail
      go_ret
      exact ⟨rfl, c5⟩
end Go.Proofs.YtkmoekbicbjdmaaDoor.Lab
