/- My own texts of one claim, laid together by program: Lab, LabOk, LabOk2, MatOk. -/
import Derived.Test.YtamjliaeikoemaaDoorG9087951762
import Derived.Test.YtamjliaeikoemaaDoorShelf
import Derived.Shelf.Abstract
/- Letters, names, words: of the program and of the model. -/
namespace Go.Proofs.YtamjliaeikoemaaDoor.Lab
open Go.RowKit Rw Go.Lib
set_option linter.unusedVariables false
attribute [local go_sem ↓] Go.wp_at_zero Go.wp_at_succ
theorem notLetter_runes (w : World) : PredAtRunes Tryd.prog 78 #[] notL w := fun W r hr _ => by
  unfold FnGives
  rcases (show r < 97 ∨ (97 ≤ r ∧ r ≤ 122) ∨ (97 ≤ r ∧ 122 < r) from by omega) with h | ⟨h, h'⟩ | ⟨h, h'⟩
  · have hn : notL r = true := by unfold notL; rw [decide_eq_true h]; rfl
    have z : (r : Int) < 97 := by omega
    rw [hn]
    clear hn
    go_enter Tryd.func78, Tryd.ntmps78
    go_wp2
    go_ret
    exact ⟨rfl, 0, rfl⟩
  · have hn : notL r = false := by unfold notL; rw [decide_eq_false (by omega), decide_eq_false (by omega)]; rfl
    have z : decide ((r : Int) < 97) = false := by simp; omega
    have z2 : decide ((122 : Int) < (r : Int)) = false := by simp; omega
    rw [hn]
    clear hn
    go_enter Tryd.func78, Tryd.ntmps78
    go_wp2
    go_ret
    exact ⟨by first | rfl | exact ret_bool (decide_eq_false (by omega)), 0, rfl⟩
  · have hn : notL r = true := by unfold notL; rw [decide_eq_true h', Bool.or_true]
    have z : decide ((r : Int) < 97) = false := by simp; omega
    have z2 : (122 : Int) < (r : Int) := by omega
    rw [hn]
    clear hn
    go_enter Tryd.func78, Tryd.ntmps78
    go_wp2
    go_ret
    exact ⟨by first | rfl | exact ret_bool (decide_eq_true (by omega)), 0, rfl⟩
theorem letters_any (s : ByteArray) (w : World) : Calls Tryd.prog 69 #[.string s] w fun e w' => e = .returned (.bool (letters s)) ∧ Below w.heap.size w w' := by
  have H := hide (Tryd.strings_IndexFunc_runes 78 #[] (enters_of Tryd.func78 (by kernel_rfl) rfl) notL s w (notLetter_runes w))
  have HI := hide (idx_letters s)
  go_enter Tryd.func69, Tryd.ntmps69
  go_wp2_with fail
  refine (unhide H).mono ?_
  rintro e w1 ⟨rfl, b1⟩
  go_wp2_with fail
  go_ret
  exact ⟨ret_bool (unhide HI), b1⟩
theorem name_any (s : ByteArray) (w : World) (hs : s.size ≤ maxLen) : Calls Tryd.prog 61 #[.string s] w fun e w' => e = .returned (.bool (nameB s)) ∧ Below w.heap.size w w' := by
  unfold maxLen at hs
  have H := hide (letters_any s w)
  by_cases h1 : 1 ≤ s.size
  · by_cases h2 : s.size ≤ 6
    · have HN := hide (show nameB s = letters s by unfold nameB; rw [decide_eq_true h1, decide_eq_true h2]; rfl)
      go_enter Tryd.func61, Tryd.ntmps61
      go_wp2_with fail
      refine (unhide H).mono ?_
      rintro e w1 ⟨rfl, b1⟩
      go_wp2_with fail
      go_ret
      exact ⟨ret_bool (unhide HN).symm, b1⟩
    · have HN := hide (show nameB s = false by unfold nameB; rw [decide_eq_false h2, Bool.and_false]; rfl)
      go_enter Tryd.func61, Tryd.ntmps61
      go_wp2_with fail
      go_ret
      exact ⟨ret_bool (unhide HN).symm, Below.refl _ _⟩
  · have HN := hide (show nameB s = false by unfold nameB; rw [decide_eq_false h1]; rfl)
    go_enter Tryd.func61, Tryd.ntmps61
    go_wp2_with fail
    go_ret
    exact ⟨ret_bool (unhide HN).symm, Below.refl _ _⟩
theorem word_any (s : ByteArray) (w : World) (hs : s.size ≤ maxLen) : Calls Tryd.prog 62 #[.string s] w fun e w' => e = .returned (.bool (wordB s)) ∧ Below w.heap.size w w' := by
  unfold maxLen at hs
  have H := hide (letters_any s w)
  by_cases h2 : s.size ≤ 8
  · have HN := hide (show wordB s = letters s by unfold wordB; rw [decide_eq_true h2]; rfl)
    go_enter Tryd.func62, Tryd.ntmps62
    go_wp2_with fail
    refine (unhide H).mono ?_
    rintro e w1 ⟨rfl, b1⟩
    go_wp2_with fail
    go_ret
    exact ⟨ret_bool (unhide HN).symm, b1⟩
  · have HN := hide (show wordB s = false by unfold wordB; rw [decide_eq_false h2]; rfl)
    go_enter Tryd.func62, Tryd.ntmps62
    go_wp2_with fail
    go_ret
    exact ⟨ret_bool (unhide HN).symm, Below.refl _ _⟩
theorem take_snoc (s : ByteArray) (k : Nat) (h : k < s.size) : s.data.toList.take (k + 1) = s.data.toList.take k ++ [s[k]] := by
  rw [List.take_succ_eq_append_getElem (by simpa using h)]; rfl
set_option maxHeartbeats 1000000 in
theorem l3Letters_any (s : ByteArray) (most : Int) (w : World) (hs : s.size ≤ maxLen) : Calls Tryd.prog 55 #[.string s, .int .i64 most] w fun e w' => e = .returned (.bool (letters s && decide ((s.size : Int) ≤ most))) ∧ w' = w := by
  unfold maxLen at hs
  go_enter Tryd.func55, Tryd.ntmps55
  go_wp2
  go_loop [5] (fun i => ∃ k : Nat, k ≤ s.size ∧ i = .int .i64 k ∧ (s.data.toList.take k).all letter = true) (fun i => s.size - (intOf i).toNat)
  case atStart => exact ⟨0, Nat.zero_le _, rfl, rfl⟩
  case round =>
    obtain ⟨k, hk, rfl, hall⟩ := hrel
    have HA := hide hall
    clear hall
    by_cases hlt : k < s.size
    · have HT := hide (take_snoc s k hlt)
      have HL := hide (show letter s[k] = (decide (97 ≤ s[k].toNat) && decide (s[k].toNat ≤ 122)) from rfl)
      by_cases h1 : (s[k].toNat : Int) < 97
      · have HF := hide (show letters s = false by
          have hl : letter s[k] = false := by rw [unhide HL, decide_eq_false (by omega)]; rfl
          unfold letters
          rw [List.all_eq_false]
          exact ⟨s[k], by have : s[k] = s.data.toList[k]'(by simpa using hlt) := rfl
                          rw [this]; exact List.getElem_mem _, by simp [hl]⟩)
        go_wp2
        go_ret
        exact ⟨ret_bool (by rw [unhide HF]; rfl), rfl⟩
      · by_cases h2 : 122 < (s[k].toNat : Int)
        · have HF := hide (show letters s = false by
            have hl : letter s[k] = false := by rw [unhide HL, decide_eq_false (show ¬ s[k].toNat ≤ 122 by omega), Bool.and_false]
            unfold letters
            rw [List.all_eq_false]
            exact ⟨s[k], by have : s[k] = s.data.toList[k]'(by simpa using hlt) := rfl
                            rw [this]; exact List.getElem_mem _, by simp [hl]⟩)
          go_wp2
          go_ret
          exact ⟨ret_bool (by rw [unhide HF]; rfl), rfl⟩
        · have HS := hide (show (s.data.toList.take (k + 1)).all letter = true by
            have hl : letter s[k] = true := by rw [unhide HL, decide_eq_true (show 97 ≤ s[k].toNat by omega), decide_eq_true (show s[k].toNat ≤ 122 by omega)]; rfl
            rw [unhide HT, List.all_append, unhide HA]
            simp [hl])
          go_wp2
          go_round
          case rel => exact ⟨k + 1, by omega, by go_num, unhide HS⟩
          case measure => simp [intOf]; omega
    · have HF := hide (show letters s = true by
        have := unhide HA
        rw [List.take_of_length_le (by simp; omega)] at this
        exact this)
      go_wp2
      go_ret
      exact ⟨ret_bool (by rw [unhide HF]; rfl), rfl⟩
theorem empty_iff (s : ByteArray) : (s = ByteArray.empty) ↔ s.size = 0 := by
  constructor
  · rintro rfl; rfl
  · intro h
    cases s with
    | mk d =>
      have : d = #[] := Array.eq_empty_of_size_eq_zero h
      rw [this]; rfl
end Go.Proofs.YtamjliaeikoemaaDoor.Lab

/- LabelsOk, of the program and of the model, at every slice of labels. -/
namespace Go.Proofs.YtamjliaeikoemaaDoor.Lab
open Go.RowKit Rw
set_option linter.unusedVariables false
attribute [local go_sem ↓] Go.wp_at_zero Go.wp_at_succ
theorem run_geq (a b : ByteArray) (W : World) : (binOp .geq 9 (.string a) (.string b)).run Tryd.prog W = .ok (.bool (!ltS a b)) W := rfl
theorem not_empty {s : ByteArray} (h : s.size ≠ 0) : s.toList.isEmpty = false := by
  rw [ByteArray.toList_eq]
  have hl : s.data.toList.length = s.size := Array.length_toList
  cases hc : s.data.toList with
  | nil => rw [hc] at hl; simp at hl; omega
  | cons a l => rfl
set_option maxHeartbeats 1000000 in
theorem l3Name_any (s : ByteArray) (w : World) (hs : s.size ≤ maxLen) : Calls Tryd.prog 54 #[.string s] w fun e w' => e = .returned (.bool (nameB s)) ∧ w' = w := by
  have H := hide (l3Letters_any s 6 w hs)
  unfold maxLen at hs
  cases hl : (letters s && decide ((s.size : Int) ≤ 6))
  · have HL := hide hl
    have HN := hide (show nameB s = false by
      unfold nameB
      rw [Bool.and_eq_false_iff] at hl
      rcases hl with h | h
      · rw [h, Bool.and_false]
      · have : decide (s.size ≤ 6) = false := decide_eq_false (by have := of_decide_eq_false h; omega)
        rw [this, Bool.and_false]; rfl)
    clear hl
    go_enter Tryd.func54, Tryd.ntmps54
    go_wp2_with fail
    refine (unhide H).mono ?_
    rintro e w1 ⟨rfl, hw⟩
    subst hw
    rw [unhide HL]
    go_wp2_with fail
    go_ret
    exact ⟨ret_bool (unhide HN).symm, rfl⟩
  · have HL := hide hl
    rw [Bool.and_eq_true] at hl
    obtain ⟨hl1, hl2⟩ := hl
    by_cases h0 : s.size = 0
    · have HN := hide (show nameB s = false by unfold nameB; rw [decide_eq_false (show ¬ 1 ≤ s.size by omega)]; rfl)
      obtain rfl := (empty_iff s).2 h0
      clear hl1 hl2 h0
      go_enter Tryd.func54, Tryd.ntmps54
      go_wp2_with fail
      refine (unhide H).mono ?_
      rintro e w1 ⟨rfl, hw⟩
      subst hw
      rw [unhide HL]
      go_wp2_with fail
      go_ret
      exact ⟨ret_bool (unhide HN).symm, rfl⟩
    · have HN := hide (show nameB s = true by
        unfold nameB; rw [decide_eq_true (show 1 ≤ s.size by omega), hl1, decide_eq_true (show s.size ≤ 6 by have := of_decide_eq_true hl2; omega)]; rfl)
      have hE := not_empty h0
      clear hl1 hl2
      go_enter Tryd.func54, Tryd.ntmps54
      go_wp2_with fail
      refine (unhide H).mono ?_
      rintro e w1 ⟨rfl, hw⟩
      subst hw
      rw [unhide HL]
      go_wp2_with fail
      go_ret
      exact ⟨ret_bool (unhide HN).symm, rfl⟩
set_option maxRecDepth 100000 in
set_option maxHeartbeats 4000000 in
theorem impl_ok {w : World} {v : Value} {zs : List E} (h : Is w v zs) (hg : ∀ x ∈ zs, good x) : Calls Tryd.prog 58 #[v] w fun e w' => e = .returned (.bool (ok zs)) ∧ Below w.heap.size w w' := by
  obtain ⟨-, a, cap, rfl, hc, hm, -, hr⟩ := h
  unfold maxLen at hm
  obtain ⟨n, hn⟩ : ∃ n, n = zs.length := ⟨_, rfl⟩
  rw [← hn] at hc hr ⊢
  have HN := hide hn
  have HG := hide hg
  clear hn hg
  by_cases h1 : n < 1
  · have HF := hide (ok_of_len (zs := zs) (by have := unhide HN; omega))
    go_enter Tryd.func58, Tryd.ntmps58
    go_wp2_with fail
    go_ret
    exact ⟨ret_bool (unhide HF).symm, Below.refl _ _⟩
  by_cases h4 : 4 < n
  · have HF := hide (ok_of_len (zs := zs) (by have := unhide HN; omega))
    go_enter Tryd.func58, Tryd.ntmps58
    go_wp2_with fail
    go_ret
    exact ⟨ret_bool (unhide HF).symm, Below.refl _ _⟩
  have hd1 : decide ((n : Int) < 1) = false := by simp; omega
  have hd4 : decide ((4 : Int) < (n : Int)) = false := by simp; omega
  go_enter Tryd.func58, Tryd.ntmps58
  go_wp2_with fail
  clear hd1 hd4
  go_loopw [15] (fun i wr => ∃ k : Nat, k ≤ n ∧ i = .int .i64 k ∧ okTo zs k = true ∧ Below w.heap.size w wr) (fun i _ => n - (intOf i).toNat)
  case atStart => exact ⟨0, Nat.zero_le _, rfl, rfl, Below.refl _ _⟩
  case round =>
    obtain ⟨k, hk, rfl, hok, hbel⟩ := hrel
    have HO := hide hok
    clear hok
    have hsz := hbel.size
    by_cases hlt : k < n
    · obtain ⟨b, off, rfl, hl, hcells⟩ := hr (by omega)
      have fa := flat_at zs k (by have := unhide HN; omega)
      have gd := unhide HG (at' zs k) (by rw [at_get zs k (by have := unhide HN; omega)]; exact List.getElem_mem _)
      obtain ⟨A, B, hX⟩ : ∃ A B, (A, B) = at' zs k := ⟨_, _, rfl⟩
      rw [← hX] at fa gd
      obtain ⟨gA, gB⟩ := gd
      have hc0 : wr.cell? ⟨b, off + k * 2, none⟩ = some (.string A) := (hbel.cell (p := ⟨b, _, none⟩) hl).trans (hcells (k * 2) _ fa.1)
      have hc1 : wr.cell? ⟨b, off + k * 2 + 1, none⟩ = some (.string B) := (hbel.cell (p := ⟨b, _, none⟩) hl).trans (hcells (k * 2 + 1) _ fa.2)
      have HX := hide hX
      clear hX fa
      have hk0 : (0 : Int) ≤ (k : Int) := Int.natCast_nonneg _
      have hk1 : (k : Int) < (n : Int) := by omega
      obtain ⟨W, hW⟩ : ∃ W, W = wr.alloc (.cells #[.string A, .string B] 95) := ⟨_, rfl⟩
      have hWb : Below w.heap.size w W := by rw [hW]; exact hbel.alloc hsz _
      have hW0 : W.cell? ⟨wr.heap.size, 0, none⟩ = some (.string A) := by rw [hW]; simp
      have hW1 : W.cell? ⟨wr.heap.size, 1, none⟩ = some (.string B) := by rw [hW]; simp
      have hWs : W.heap.size = wr.heap.size + 1 := by rw [hW]; simp
      have dW : Below wr.heap.size wr W := by rw [hW]; exact (Below.refl _ _).alloc (Nat.le_refl _) _
      have HWs := hide hWs
      have HW := hide hW
      clear hW hWs
      have hN := fun X => name_any A X gA
      have hWd := fun X => word_any B X gB
      have HNm := hide hN
      have HWd := hide hWd
      clear hN hWd gA gB
      go_wp2_with fail
      rw [← unhide HW]
      refine (unhide HNm W).mono ?_
      rintro e w1 ⟨rfl, b1⟩
      have hw1 : w1.cell? ⟨wr.heap.size, 1, none⟩ = some (.string B) := (b1.cell (p := ⟨_, _, none⟩) (by have := unhide HWs; show wr.heap.size < _; omega)).trans hW1
      have hw0 : w1.cell? ⟨wr.heap.size, 0, none⟩ = some (.string A) := (b1.cell (p := ⟨_, _, none⟩) (by have := unhide HWs; show wr.heap.size < _; omega)).trans hW0
      have c1 := hWb.trans (b1.mono hWb.size)
      cases hnm : nameB A
      · have HF := hide (ok_of_bad (zs := zs) (k := k) (by have := unhide HN; omega) (step_name (by rw [← unhide HX]; exact hnm)))
        clear hnm
        go_wp2_with fail
        go_ret
        exact ⟨ret_bool (unhide HF).symm, c1⟩
      have KN := hide hnm
      clear hnm
      go_wp2_with fail
      refine (unhide HWd w1).mono ?_
      rintro e w2 ⟨rfl, b2⟩
      have s1 := b1.size
      have hv1 : w2.cell? ⟨wr.heap.size, 1, none⟩ = some (.string B) := (b2.cell (p := ⟨_, _, none⟩) (by have := unhide HWs; show wr.heap.size < _; omega)).trans hw1
      have hv0 : w2.cell? ⟨wr.heap.size, 0, none⟩ = some (.string A) := (b2.cell (p := ⟨_, _, none⟩) (by have := unhide HWs; show wr.heap.size < _; omega)).trans hw0
      have c2 := c1.trans (b2.mono c1.size)
      have s2 := b2.size
      have d1 := dW.trans (b1.mono (by have := unhide HWs; omega))
      have d2 := d1.trans (b2.mono (by have := unhide HWs; omega))
      clear hW0 hW1 hw0 hw1 b1 b2
      cases hwd : wordB B
      · have HF := hide (ok_of_bad (zs := zs) (k := k) (by have := unhide HN; omega) (step_word (by rw [← unhide HX]; exact hwd)))
        clear hwd
        go_wp2_with fail
        go_ret
        exact ⟨ret_bool (unhide HF).symm, c2⟩
      have KW := hide hwd
      clear hwd
      by_cases hB0 : B.size = 0
      · have HF := hide (ok_of_bad (zs := zs) (k := k) (by have := unhide HN; omega) (step_empty (by rw [← unhide HX]; exact hB0)))
        obtain rfl := (empty_iff B).2 hB0
        go_wp2_with fail
        go_ret
        exact ⟨ret_bool (unhide HF).symm, c2⟩
      have hE := not_empty hB0
      by_cases hk00 : k = 0
      · have HS := hide (show okTo zs (k + 1) = true by rw [okTo_succ, unhide HO, step_yes (by rw [← unhide HX]; exact unhide KN) (by rw [← unhide HX]; exact unhide KW) (by rw [← unhide HX]; show 0 < B.size; omega) (.inl hk00)]; rfl)
        have hd : decide ((0 : Int) < (k : Int)) = false := by simp; omega
        have hd2 : decide (0 < k) = false := by simp; omega
        clear hk00
        have hne := cls_nonempty w2.heap.size w2
        go_wp2_with fail
        refine region_cls (by kernel_rfl) (by kernel_rfl) ?_
        repeat (go_big_quiet_step (fail))
        refine wpQuiet_nil ?_
        rintro wq ⟨⟨_, hq⟩, rfl⟩
        go_wp2
        go_roundw
        case rel => exact ⟨k + 1, by omega, by go_num, unhide HS, c2.trans (hq.mono c2.size)⟩
        case measure => simp [intOf]; omega
      · have hkp : 0 < k := by omega
        have hkp' : (0 : Int) < (k : Int) := by omega
        have fp := (flat_at zs (k - 1) (by have := unhide HN; omega)).1
        obtain ⟨P, hP⟩ : ∃ P, P = (at' zs (k - 1)).1 := ⟨_, rfl⟩
        rw [← hP] at fp
        have hqp : ∀ x : Cls w2.heap.size w2, x.val.cell? ⟨b, off + (k - 1) * 2, none⟩ = some (.string P) := fun x => by
          rw [x.cell (by have := d2.size; omega)]
          exact (d2.cell (p := ⟨b, _, none⟩) (show b < wr.heap.size by omega)).trans ((hbel.cell (p := ⟨b, _, none⟩) hl).trans (hcells ((k - 1) * 2) _ fp))
        have hq0 : ∀ x : Cls w2.heap.size w2, x.val.cell? ⟨wr.heap.size, 0, none⟩ = some (.string A) := fun x => by
          rw [x.cell (by have := unhide HWs; omega)]
          exact hv0
        have HP := hide hP
        clear hP fp
        have hne := cls_nonempty w2.heap.size w2
        cases hlt2 : ltS P A
        · have HF := hide (ok_of_bad (zs := zs) (k := k) (by have := unhide HN; omega) (step_late (by omega) (by rw [← unhide HX, ← unhide HP]; exact hlt2)))
          have hlt3 : ∀ W, (binOp .geq 9 (.string P) (.string A)).run Tryd.prog W = .ok (.bool true) W := fun W => by rw [run_geq, hlt2]; rfl
          clear hlt2
          go_wp2_with fail
          refine region_cls (by kernel_rfl) (by kernel_rfl) ?_
          repeat (go_big_quiet_step (fail))
          refine wpQuiet_nil ?_
          rintro wq ⟨⟨_, hq⟩, rfl⟩
          go_wp2
          go_ret
          exact ⟨ret_bool (unhide HF).symm, c2.trans (hq.mono c2.size)⟩
        · have HS := hide (show okTo zs (k + 1) = true by rw [okTo_succ, unhide HO, step_yes (by rw [← unhide HX]; exact unhide KN) (by rw [← unhide HX]; exact unhide KW) (by rw [← unhide HX]; show 0 < B.size; omega) (.inr (by rw [← unhide HX, ← unhide HP]; exact hlt2))]; rfl)
          have hlt3 : ∀ W, (binOp .geq 9 (.string P) (.string A)).run Tryd.prog W = .ok (.bool false) W := fun W => by rw [run_geq, hlt2]; rfl
          clear hlt2
          go_wp2_with fail
          refine region_cls (by kernel_rfl) (by kernel_rfl) ?_
          repeat (go_big_quiet_step (fail))
          refine wpQuiet_nil ?_
          rintro wq ⟨⟨_, hq⟩, rfl⟩
          go_wp2
          go_roundw
          case rel => exact ⟨k + 1, by omega, by go_num, unhide HS, c2.trans (hq.mono c2.size)⟩
          case measure => simp [intOf]; omega
    · have HF := hide (ok_all (zs := zs) (by have := unhide HN; omega) (by have := unhide HN; omega) (by rw [← unhide HN, show n = k from by omega]; exact unhide HO))
      go_wp2_with fail
      go_ret
      exact ⟨ret_bool (unhide HF).symm, hbel⟩
end Go.Proofs.YtamjliaeikoemaaDoor.Lab

/- LabelsOk of the model, at every slice of labels. -/
namespace Go.Proofs.YtamjliaeikoemaaDoor.Lab
open Go.RowKit Rw
set_option linter.unusedVariables false
attribute [local go_sem ↓] Go.wp_at_zero Go.wp_at_succ
theorem run_eql (a b : ByteArray) (W : World) : (binOp .eql 9 (.string a) (.string b)).run Tryd.prog W = .ok (.bool (a.toList == b.toList)) W := rfl
theorem in_yes (n lo hi : Int) (w : World) (h1 : lo ≤ n) (h2 : n ≤ hi) : Calls Tryd.prog 24 #[.int .i64 n, .int .i64 lo, .int .i64 hi] w fun e w' => e = .returned (.bool true) ∧ w' = w := by
  go_enter Tryd.func24, Tryd.ntmps24
  go_wp2
  go_ret
  exact ⟨by first | rfl | exact ret_bool (decide_eq_true (by omega)), rfl⟩
theorem in_no (n lo hi : Int) (w : World) (h : n < lo ∨ hi < n) : Calls Tryd.prog 24 #[.int .i64 n, .int .i64 lo, .int .i64 hi] w fun e w' => e = .returned (.bool false) ∧ w' = w := by
  by_cases h1 : lo ≤ n
  · have h2 : ¬ n ≤ hi := by omega
    go_enter Tryd.func24, Tryd.ntmps24
    go_wp2
    go_ret
    exact ⟨by first | rfl | exact ret_bool (decide_eq_false (by omega)), rfl⟩
  · go_enter Tryd.func24, Tryd.ntmps24
    go_wp2
    go_ret
    exact ⟨by first | rfl | exact ret_bool (decide_eq_false (by omega)), rfl⟩
theorem eql_empty {s : ByteArray} (h : s.size ≠ 0) (W : World) : (binOp .eql 9 (.string s) (.string { data := #[] })).run Tryd.prog W = .ok (.bool false) W := by
  rw [run_eql]
  have := not_empty h
  have e : (s.toList == ByteArray.toList { data := #[] }) = false := by
    have e0 : ByteArray.toList { data := #[] } = [] := by rw [ByteArray.toList_eq]
    rw [e0]
    cases hc : s.toList with
    | nil => rw [hc] at this; cases this
    | cons a l => rfl
  rw [e]
set_option maxRecDepth 100000 in
set_option maxHeartbeats 4000000 in
theorem spec_ok {w : World} {v : Value} {zs : List E} (h : Is w v zs) (hg : ∀ x ∈ zs, good x) (hlen : zs.length ≤ maxLen) : Calls Tryd.prog 52 #[v] w fun e w' => e = .returned (.bool (ok zs)) ∧ Below w.heap.size w w' := by
  obtain ⟨-, a, cap, rfl, hc, hm, -, hr⟩ := h
  unfold maxLen at hm hlen
  obtain ⟨n, hn⟩ : ∃ n, n = zs.length := ⟨_, rfl⟩
  rw [← hn] at hc hr hlen ⊢
  have HN := hide hn
  have HG := hide hg
  clear hn hg
  go_enter Tryd.func52, Tryd.ntmps52
  go_wp2_with fail
  go_loopw [3] (fun i wr => ∃ k : Nat, k ≤ n ∧ i = .int .i64 k ∧ okTo zs k = true ∧ Below w.heap.size w wr) (fun i _ => n - (intOf i).toNat)
  case atStart => exact ⟨0, Nat.zero_le _, rfl, rfl, Below.refl _ _⟩
  case round =>
    obtain ⟨k, hk, rfl, hok, hbel⟩ := hrel
    have HO := hide hok
    clear hok
    have hsz := hbel.size
    by_cases hlt : k < n
    · obtain ⟨b, off, rfl, hl, hcells⟩ := hr (by omega)
      have fa := flat_at zs k (by have := unhide HN; omega)
      have gd := unhide HG (at' zs k) (by rw [at_get zs k (by have := unhide HN; omega)]; exact List.getElem_mem _)
      obtain ⟨A, B, hX⟩ : ∃ A B, (A, B) = at' zs k := ⟨_, _, rfl⟩
      rw [← hX] at fa gd
      obtain ⟨gA, gB⟩ := gd
      have hc0 : ∀ x : Cls wr.heap.size wr, x.val.cell? ⟨b, off + k * 2, none⟩ = some (.string A) := fun x => by rw [x.cell (by omega)]; exact (hbel.cell (p := ⟨b, _, none⟩) hl).trans (hcells (k * 2) _ fa.1)
      have hc1 : ∀ x : Cls wr.heap.size wr, x.val.cell? ⟨b, off + k * 2 + 1, none⟩ = some (.string B) := fun x => by rw [x.cell (by omega)]; exact (hbel.cell (p := ⟨b, _, none⟩) hl).trans (hcells (k * 2 + 1) _ fa.2)
      have HX := hide hX
      clear hX fa
      have hk0 : (0 : Int) ≤ (k : Int) := Int.natCast_nonneg _
      have hk1 : (k : Int) < (n : Int) := by omega
      have HNm := hide (fun X => l3Name_any A X gA)
      have HWd := hide (fun X => l3Letters_any B 8 X gB)
      have HWB := hide (show (letters B && decide ((B.size : Int) ≤ 8)) = wordB B by unfold wordB; rw [Bool.and_comm]; congr 1; exact decide_eq_decide.2 (by omega))
      rw [unhide HWB] at HWd
      clear gA gB
      have hne := cls_nonempty wr.heap.size wr
      cases hnm : nameB A
      · have HF := hide (ok_of_bad (zs := zs) (k := k) (by have := unhide HN; omega) (step_name (by rw [← unhide HX]; exact hnm)))
        rw [hnm] at HNm
        clear hnm
        go_wp2_with fail
        refine region_cls (by kernel_rfl) (by kernel_rfl) ?_
        repeat (go_big_quiet_step ((first | (go_at_call 54; exact cls_same (unhide HNm _)) | (go_at_call 55; exact cls_same (unhide HWd _)))))
        refine wpQuiet_nil ?_
        rintro wq ⟨⟨_, hq⟩, rfl⟩
        go_wp2
        go_ret
        exact ⟨ret_bool (unhide HF).symm, hbel.trans (hq.mono hsz)⟩
      have KN := hide hnm
      rw [hnm] at HNm
      clear hnm
      cases hwd : wordB B
      · have HF := hide (ok_of_bad (zs := zs) (k := k) (by have := unhide HN; omega) (step_word (by rw [← unhide HX]; exact hwd)))
        rw [hwd] at HWd
        clear hwd
        go_wp2_with fail
        refine region_cls (by kernel_rfl) (by kernel_rfl) ?_
        repeat (go_big_quiet_step ((first | (go_at_call 54; exact cls_same (unhide HNm _)) | (go_at_call 55; exact cls_same (unhide HWd _)))))
        refine wpQuiet_nil ?_
        rintro wq ⟨⟨_, hq⟩, rfl⟩
        go_wp2
        go_ret
        exact ⟨ret_bool (unhide HF).symm, hbel.trans (hq.mono hsz)⟩
      have KW := hide hwd
      rw [hwd] at HWd
      clear hwd
      by_cases hB0 : B.size = 0
      · have HF := hide (ok_of_bad (zs := zs) (k := k) (by have := unhide HN; omega) (step_empty (by rw [← unhide HX]; exact hB0)))
        obtain rfl := (empty_iff B).2 hB0
        have hE : ∀ W, (binOp .eql 9 (.string ByteArray.empty) (.string { data := #[] })).run Tryd.prog W = .ok (.bool true) W := fun W => by rw [run_eql, ByteArray.toList_eq, ByteArray.toList_eq]; rfl
        go_wp2_with fail
        refine region_cls (by kernel_rfl) (by kernel_rfl) ?_
        repeat (go_big_quiet_step ((first | (go_at_call 54; exact cls_same (unhide HNm _)) | (go_at_call 55; exact cls_same (unhide HWd _)))))
        refine wpQuiet_nil ?_
        rintro wq ⟨⟨_, hq⟩, rfl⟩
        go_wp2
        go_ret
        exact ⟨ret_bool (unhide HF).symm, hbel.trans (hq.mono hsz)⟩
      have hE := eql_empty hB0
      have hE2 := not_empty hB0
      by_cases hk00 : k = 0
      · have HS := hide (show okTo zs (k + 1) = true by rw [okTo_succ, unhide HO, step_yes (by rw [← unhide HX]; exact unhide KN) (by rw [← unhide HX]; exact unhide KW) (by rw [← unhide HX]; show 0 < B.size; omega) (.inl hk00)]; rfl)
        have hd : decide ((0 : Int) < (k : Int)) = false := by simp; omega
        have hd2 : decide (0 < k) = false := by simp; omega
        clear hk00
        go_wp2_with fail
        refine region_cls (by kernel_rfl) (by kernel_rfl) ?_
        repeat (go_big_quiet_step ((first | (go_at_call 54; exact cls_same (unhide HNm _)) | (go_at_call 55; exact cls_same (unhide HWd _)))))
        refine wpQuiet_nil ?_
        rintro wq ⟨⟨_, hq⟩, rfl⟩
        go_wp2
        go_roundw
        case rel => exact ⟨k + 1, by omega, by go_num, unhide HS, hbel.trans (hq.mono hsz)⟩
        case measure => simp [intOf]; omega
      · have hkp : 0 < k := by omega
        have hkp' : (0 : Int) < (k : Int) := by omega
        have fp := (flat_at zs (k - 1) (by have := unhide HN; omega)).1
        obtain ⟨P, hP⟩ : ∃ P, P = (at' zs (k - 1)).1 := ⟨_, rfl⟩
        rw [← hP] at fp
        have hqp : ∀ x : Cls wr.heap.size wr, x.val.cell? ⟨b, off + (k - 1) * 2, none⟩ = some (.string P) := fun x => by rw [x.cell (by omega)]; exact (hbel.cell (p := ⟨b, _, none⟩) hl).trans (hcells ((k - 1) * 2) _ fp)
        have HP := hide hP
        clear hP fp
        cases hlt2 : ltS P A
        · have HF := hide (ok_of_bad (zs := zs) (k := k) (by have := unhide HN; omega) (step_late (by omega) (by rw [← unhide HX, ← unhide HP]; exact hlt2)))
          have hlt3 : ∀ W, (binOp .geq 9 (.string P) (.string A)).run Tryd.prog W = .ok (.bool true) W := fun W => by rw [run_geq, hlt2]; rfl
          clear hlt2
          go_wp2_with fail
          refine region_cls (by kernel_rfl) (by kernel_rfl) ?_
          repeat (go_big_quiet_step ((first | (go_at_call 54; exact cls_same (unhide HNm _)) | (go_at_call 55; exact cls_same (unhide HWd _)))))
          refine wpQuiet_nil ?_
          rintro wq ⟨⟨_, hq⟩, rfl⟩
          go_wp2
          go_ret
          exact ⟨ret_bool (unhide HF).symm, hbel.trans (hq.mono hsz)⟩
        · have HS := hide (show okTo zs (k + 1) = true by rw [okTo_succ, unhide HO, step_yes (by rw [← unhide HX]; exact unhide KN) (by rw [← unhide HX]; exact unhide KW) (by rw [← unhide HX]; show 0 < B.size; omega) (.inr (by rw [← unhide HX, ← unhide HP]; exact hlt2))]; rfl)
          have hlt3 : ∀ W, (binOp .geq 9 (.string P) (.string A)).run Tryd.prog W = .ok (.bool false) W := fun W => by rw [run_geq, hlt2]; rfl
          clear hlt2
          go_wp2_with fail
          refine region_cls (by kernel_rfl) (by kernel_rfl) ?_
          repeat (go_big_quiet_step ((first | (go_at_call 54; exact cls_same (unhide HNm _)) | (go_at_call 55; exact cls_same (unhide HWd _)))))
          refine wpQuiet_nil ?_
          rintro wq ⟨⟨_, hq⟩, rfl⟩
          go_wp2
          go_roundw
          case rel => exact ⟨k + 1, by omega, by go_num, unhide HS, hbel.trans (hq.mono hsz)⟩
          case measure => simp [intOf]; omega
    · by_cases h14 : 1 ≤ n ∧ n ≤ 4
      · have HF := hide (ok_all (zs := zs) (by have := unhide HN; omega) (by have := unhide HN; omega) (by rw [← unhide HN, show n = k from by omega]; exact unhide HO))
        have HI := hide (fun W => in_yes (n : Int) 1 4 W (by omega) (by omega))
        go_wp2_with fail
        refine (unhide HI _).mono ?_
        rintro e w5 ⟨rfl, hw⟩
        subst hw
        go_wp2_with fail
        go_ret
        exact ⟨ret_bool (unhide HF).symm, hbel⟩
      · have HF := hide (ok_of_len (zs := zs) (by have := unhide HN; omega))
        have HI := hide (fun W => in_no (n : Int) 1 4 W (by omega))
        go_wp2_with fail
        refine (unhide HI _).mono ?_
        rintro e w5 ⟨rfl, hw⟩
        subst hw
        go_wp2_with fail
        go_ret
        exact ⟨ret_bool (unhide HF).symm, hbel⟩
end Go.Proofs.YtamjliaeikoemaaDoor.Lab

/- MatchesOk, of the program and of the model, at every slice of matches. -/
namespace Go.Proofs.YtamjliaeikoemaaDoor.Mat
open Go.RowKit Rw
open Lab (nameB wordB letters name_any word_any l3Name_any l3Letters_any in_yes in_no)
set_option linter.unusedVariables false
attribute [local go_sem ↓] Go.wp_at_zero Go.wp_at_succ
def ruleT (k : Int) : TypeId := if k = 1 then 100 else if k = 2 then 101 else if k = 3 then 102 else 103
theorem ruleOf_yes (k : Int) (s : ByteArray) (w : World) (h1 : 1 ≤ k) (h4 : k ≤ 4) : Calls Tryd.prog 45 #[.int .i64 k, .string s] w fun e w' => e = .returned (.iface (ruleT k) (.string s)) ∧ w' = w := by
  rcases (show k = 1 ∨ k = 2 ∨ k = 3 ∨ k = 4 from by omega) with rfl | rfl | rfl | rfl
  all_goals
    clear h1 h4
    go_enter Tryd.func45, Tryd.ntmps45
    go_wp2
    go_ret
    exact ⟨rfl, rfl⟩
theorem ruleOf_no (k : Int) (s : ByteArray) (w : World) (h : k < 1 ∨ 4 < k) : Calls Tryd.prog 45 #[.int .i64 k, .string s] w fun e w' => e = .returned .nilIface ∧ w' = w := by
  have e1 : (k == 1) = false := by simp; omega
  have e2 : (k == 2) = false := by simp; omega
  have e3 : (k == 3) = false := by simp; omega
  have e4 : (k == 4) = false := by simp; omega
  clear h
  go_enter Tryd.func45, Tryd.ntmps45
  go_wp2
  go_ret
  exact ⟨rfl, rfl⟩
def stepOk (zs : List E) (i : Nat) : Bool := decide (1 ≤ (at' zs i).1) && decide ((at' zs i).1 ≤ 4) && nameB (at' zs i).2.1 && wordB (at' zs i).2.2
def okTo (zs : List E) (k : Nat) : Bool := (List.range k).all (stepOk zs)
def ok (zs : List E) : Bool := okTo zs zs.length && decide (zs.length ≤ 4)
theorem okTo_succ (zs : List E) (k : Nat) : okTo zs (k + 1) = (okTo zs k && stepOk zs k) := by simp [okTo, List.range_succ]
theorem ok_of_bad {zs : List E} {k : Nat} (hk : k < zs.length) (h : stepOk zs k = false) : ok zs = false := by
  have : okTo zs zs.length = false := by unfold okTo; rw [List.all_eq_false]; exact ⟨k, List.mem_range.2 hk, by simp [h]⟩
  unfold ok; rw [this]; rfl
theorem step_yes {zs : List E} {k : Nat} (h1 : 1 ≤ (at' zs k).1) (h4 : (at' zs k).1 ≤ 4) (h2 : nameB (at' zs k).2.1 = true) (h3 : wordB (at' zs k).2.2 = true) : stepOk zs k = true := by
  unfold stepOk; rw [decide_eq_true h1, decide_eq_true h4, h2, h3]; rfl
theorem step_kind {zs : List E} {k : Nat} (h : (at' zs k).1 < 1 ∨ 4 < (at' zs k).1) : stepOk zs k = false := by
  unfold stepOk
  rcases h with h | h
  · rw [decide_eq_false (by omega)]; rfl
  · rw [decide_eq_false (show ¬ (at' zs k).1 ≤ 4 by omega), Bool.and_false]; rfl
theorem step_name {zs : List E} {k : Nat} (h : nameB (at' zs k).2.1 = false) : stepOk zs k = false := by unfold stepOk; rw [h, Bool.and_false]; rfl
theorem step_word {zs : List E} {k : Nat} (h : wordB (at' zs k).2.2 = false) : stepOk zs k = false := by unfold stepOk; rw [h, Bool.and_false]
set_option maxRecDepth 100000 in
set_option maxHeartbeats 4000000 in
theorem impl_ok {w : World} {v : Value} {zs : List E} (h : Is w v zs) (hg : ∀ x ∈ zs, good x) (hlen : zs.length ≤ maxLen) : Calls Tryd.prog 38 #[v] w fun e w' => e = .returned (.bool (ok zs)) ∧ Below w.heap.size w w' := by
  obtain ⟨-, a, cap, rfl, hc, hm, -, hr⟩ := h
  unfold maxLen at hm hlen
  obtain ⟨n, hn⟩ : ∃ n, n = zs.length := ⟨_, rfl⟩
  rw [← hn] at hc hr hlen ⊢
  have HN := hide hn
  have HG := hide hg
  clear hn hg
  go_enter Tryd.func38, Tryd.ntmps38
  go_wp2_with fail
  go_loopw [7] (fun i wr => ∃ k : Nat, k ≤ n ∧ i = .int .i64 k ∧ okTo zs k = true ∧ Below w.heap.size w wr) (fun i _ => n - (intOf i).toNat)
  case atStart => exact ⟨0, Nat.zero_le _, rfl, rfl, Below.refl _ _⟩
  case round =>
    obtain ⟨k, hk, rfl, hok, hbel⟩ := hrel
    have HO := hide hok
    clear hok
    have hsz := hbel.size
    by_cases hlt : k < n
    · obtain ⟨b, off, rfl, hl, hcells⟩ := hr (by omega)
      have fa := flat_at zs k (by have := unhide HN; omega)
      have gd := unhide HG (at' zs k) (by rw [at_get zs k (by have := unhide HN; omega)]; exact List.getElem_mem _)
      obtain ⟨K, A, B, hX⟩ : ∃ K A B, (K, A, B) = at' zs k := ⟨_, _, _, rfl⟩
      rw [← hX] at fa gd
      obtain ⟨-, gA, gB⟩ := gd
      have hc0 : wr.cell? ⟨b, off + k * 3, none⟩ = some (.int .i64 K) := (hbel.cell (p := ⟨b, _, none⟩) hl).trans (hcells (k * 3) _ fa.1)
      have hc1 : wr.cell? ⟨b, off + k * 3 + 1, none⟩ = some (.string A) := (hbel.cell (p := ⟨b, _, none⟩) hl).trans (hcells (k * 3 + 1) _ fa.2.1)
      have hc2 : wr.cell? ⟨b, off + k * 3 + 2, none⟩ = some (.string B) := (hbel.cell (p := ⟨b, _, none⟩) hl).trans (hcells (k * 3 + 2) _ fa.2.2)
      have HX := hide hX
      clear hX fa
      have hk0 : (0 : Int) ≤ (k : Int) := Int.natCast_nonneg _
      have hk1 : (k : Int) < (n : Int) := by omega
      obtain ⟨W, hW⟩ : ∃ W, W = wr.alloc (.cells #[.int .i64 K, .string A, .string B] 65) := ⟨_, rfl⟩
      have hWb : Below w.heap.size w W := by rw [hW]; exact hbel.alloc hsz _
      have hW1 : W.cell? ⟨wr.heap.size, 1, none⟩ = some (.string A) := by rw [hW]; simp
      have hW2 : W.cell? ⟨wr.heap.size, 2, none⟩ = some (.string B) := by rw [hW]; simp
      have hWs : W.heap.size = wr.heap.size + 1 := by rw [hW]; simp
      have HWs := hide hWs
      have HW := hide hW
      clear hW hWs
      have HNm := hide (fun X => name_any A X gA)
      have HWd := hide (fun X => word_any B X gB)
      clear gA gB
      by_cases hK : 1 ≤ K ∧ K ≤ 4
      · have HR := hide (fun X => ruleOf_yes K B X hK.1 hK.2)
        have HK := hide hK
        clear hK
        go_wp2_with fail
        rw [← unhide HW]
        refine (unhide HR W).mono ?_
        rintro e w0 ⟨rfl, hw0⟩
        subst hw0
        go_wp2_with fail
        refine (unhide HNm _).mono ?_
        rintro e w1 ⟨rfl, b1⟩
        have hw2 : w1.cell? ⟨wr.heap.size, 2, none⟩ = some (.string B) := (b1.cell (p := ⟨_, _, none⟩) (by have := unhide HWs; show wr.heap.size < _; omega)).trans hW2
        have c1 := hWb.trans (b1.mono hWb.size)
        cases hnm : nameB A
        · have HF := hide (ok_of_bad (zs := zs) (k := k) (by have := unhide HN; omega) (step_name (by rw [← unhide HX]; exact hnm)))
          clear hnm
          go_wp2_with fail
          go_ret
          exact ⟨ret_bool (unhide HF).symm, c1⟩
        have KN := hide hnm
        clear hnm
        go_wp2_with fail
        refine (unhide HWd w1).mono ?_
        rintro e w2 ⟨rfl, b2⟩
        have c2 := c1.trans (b2.mono c1.size)
        cases hwd : wordB B
        · have HF := hide (ok_of_bad (zs := zs) (k := k) (by have := unhide HN; omega) (step_word (by rw [← unhide HX]; exact hwd)))
          clear hwd
          go_wp2_with fail
          go_ret
          exact ⟨ret_bool (unhide HF).symm, c2⟩
        · have HS := hide (show okTo zs (k + 1) = true by rw [okTo_succ, unhide HO, step_yes (by rw [← unhide HX]; exact (unhide HK).1) (by rw [← unhide HX]; exact (unhide HK).2) (by rw [← unhide HX]; exact unhide KN) (by rw [← unhide HX]; exact hwd)]; rfl)
          clear hwd
          go_wp2_with fail
          go_roundw
          case rel => exact ⟨k + 1, by omega, by go_num, unhide HS, c2⟩
          case measure => simp [intOf]; omega
      · have HR := hide (fun X => ruleOf_no K B X (by omega))
        have HF := hide (ok_of_bad (zs := zs) (k := k) (by have := unhide HN; omega) (step_kind (by rw [← unhide HX]; show K < 1 ∨ 4 < K; omega)))
        clear hK
        go_wp2_with fail
        rw [← unhide HW]
        refine (unhide HR W).mono ?_
        rintro e w0 ⟨rfl, hw0⟩
        subst hw0
        go_wp2_with fail
        go_ret
        exact ⟨ret_bool (unhide HF).symm, hWb⟩
    · go_wp2_with fail
      go_ret
      refine ⟨ret_bool ?_, hbel⟩
      unfold ok
      rw [← unhide HN, show n = k from by omega, unhide HO, Bool.true_and]
      exact decide_eq_decide.2 (by omega)
set_option maxRecDepth 100000 in
set_option maxHeartbeats 4000000 in
theorem spec_ok {w : World} {v : Value} {zs : List E} (h : Is w v zs) (hg : ∀ x ∈ zs, good x) (hlen : zs.length ≤ maxLen) : Calls Tryd.prog 30 #[v] w fun e w' => e = .returned (.bool (ok zs)) ∧ Below w.heap.size w w' := by
  obtain ⟨-, a, cap, rfl, hc, hm, -, hr⟩ := h
  unfold maxLen at hm hlen
  obtain ⟨n, hn⟩ : ∃ n, n = zs.length := ⟨_, rfl⟩
  rw [← hn] at hc hr hlen ⊢
  have HN := hide hn
  have HG := hide hg
  clear hn hg
  go_enter Tryd.func30, Tryd.ntmps30
  go_wp2_with fail
  go_loop [3] (fun i => ∃ k : Nat, k ≤ n ∧ i = .int .i64 k ∧ okTo zs k = true) (fun i => n - (intOf i).toNat)
  case atStart => exact ⟨0, Nat.zero_le _, rfl, rfl⟩
  case round =>
    obtain ⟨k, hk, rfl, hok⟩ := hrel
    have HO := hide hok
    clear hok
    by_cases hlt : k < n
    · obtain ⟨b, off, rfl, hl, hcells⟩ := hr (by omega)
      have fa := flat_at zs k (by have := unhide HN; omega)
      have gd := unhide HG (at' zs k) (by rw [at_get zs k (by have := unhide HN; omega)]; exact List.getElem_mem _)
      obtain ⟨K, A, B, hX⟩ : ∃ K A B, (K, A, B) = at' zs k := ⟨_, _, _, rfl⟩
      rw [← hX] at fa gd
      obtain ⟨-, gA, gB⟩ := gd
      have hc0 : w.cell? ⟨b, off + k * 3, none⟩ = some (.int .i64 K) := hcells (k * 3) _ fa.1
      have hc1 : w.cell? ⟨b, off + k * 3 + 1, none⟩ = some (.string A) := hcells (k * 3 + 1) _ fa.2.1
      have hc2 : w.cell? ⟨b, off + k * 3 + 2, none⟩ = some (.string B) := hcells (k * 3 + 2) _ fa.2.2
      have HX := hide hX
      clear hX fa
      have hk0 : (0 : Int) ≤ (k : Int) := Int.natCast_nonneg _
      have hk1 : (k : Int) < (n : Int) := by omega
      have HNm := hide (fun X => l3Name_any A X gA)
      have HWd := hide (fun X => l3Letters_any B 8 X gB)
      have HWB := hide (show (letters B && decide ((B.size : Int) ≤ 8)) = wordB B by unfold wordB; rw [Bool.and_comm]; congr 1; exact decide_eq_decide.2 (by omega))
      rw [unhide HWB] at HWd
      clear gA gB
      by_cases hK : 1 ≤ K ∧ K ≤ 4
      · have HI := hide (fun X => in_yes K 1 4 X hK.1 hK.2)
        have HK := hide hK
        clear hK
        go_wp2_with fail
        refine (unhide HI _).mono ?_
        rintro e w0 ⟨rfl, hw0⟩
        subst hw0
        go_wp2_with fail
        refine (unhide HNm _).mono ?_
        rintro e w1 ⟨rfl, hw1⟩
        subst hw1
        cases hnm : nameB A
        · have HF := hide (ok_of_bad (zs := zs) (k := k) (by have := unhide HN; omega) (step_name (by rw [← unhide HX]; exact hnm)))
          clear hnm
          go_wp2_with fail
          go_ret
          exact ⟨ret_bool (unhide HF).symm, Below.refl _ _⟩
        have KN := hide hnm
        clear hnm
        go_wp2_with fail
        refine (unhide HWd _).mono ?_
        rintro e w2 ⟨rfl, hw2⟩
        subst hw2
        cases hwd : wordB B
        · have HF := hide (ok_of_bad (zs := zs) (k := k) (by have := unhide HN; omega) (step_word (by rw [← unhide HX]; exact hwd)))
          clear hwd
          go_wp2_with fail
          go_ret
          exact ⟨ret_bool (unhide HF).symm, Below.refl _ _⟩
        · have HS := hide (show okTo zs (k + 1) = true by rw [okTo_succ, unhide HO, step_yes (by rw [← unhide HX]; exact (unhide HK).1) (by rw [← unhide HX]; exact (unhide HK).2) (by rw [← unhide HX]; exact unhide KN) (by rw [← unhide HX]; exact hwd)]; rfl)
          clear hwd
          go_wp2_with fail
          go_round
          case rel => exact ⟨k + 1, by omega, by go_num, unhide HS⟩
          case measure => simp [intOf]; omega
      · have HI := hide (fun X => in_no K 1 4 X (by omega))
        have HF := hide (ok_of_bad (zs := zs) (k := k) (by have := unhide HN; omega) (step_kind (by rw [← unhide HX]; show K < 1 ∨ 4 < K; omega)))
        clear hK
        go_wp2_with fail
        refine (unhide HI _).mono ?_
        rintro e w0 ⟨rfl, hw0⟩
        subst hw0
        go_wp2_with fail
        go_ret
        exact ⟨ret_bool (unhide HF).symm, Below.refl _ _⟩
    · go_wp2_with fail
      go_ret
      refine ⟨ret_bool ?_, Below.refl _ _⟩
      unfold ok
      rw [← unhide HN, show n = k from by omega, unhide HO, Bool.true_and]
      exact decide_eq_decide.2 (by omega)
end Go.Proofs.YtamjliaeikoemaaDoor.Mat
