/- LabelsOk, of the program and of the model, at every slice of labels. -/
import Derived.Test.YtkmoekbicbjdmaaDoorLab
namespace Go.Proofs.YtkmoekbicbjdmaaDoor.Lab
open Go.RowKit Rw
set_option linter.unusedVariables false
attribute [local go_sem ↓] Go.wp_at_zero Go.wp_at_succ
theorem run_geq (a b : ByteArray) (W : World) : (binOp .geq 9 (.string a) (.string b)).run Tryd.prog W = .ok (.bool (!ltS a b)) W := rfl
theorem not_empty {s : ByteArray} (h : s.size ≠ 0) : s.toList.isEmpty = false := by
  rw [ByteArray.toList_eq]
  have hl : s.data.toList.length = s.size := Array.length_toList
  cases hc : s.data.toList with
  | nil => rw [hc] at hl; simp at hl; omega
  | cons a l => rfl
set_option maxHeartbeats 1000000 in
theorem l3Name_any (s : ByteArray) (w : World) (hs : s.size ≤ maxLen) : Calls Tryd.prog 40 #[.string s] w fun e w' => e = .returned (.bool (nameB s)) ∧ w' = w := by
  have H := hide (l3Letters_any s 6 w hs)
  unfold maxLen at hs
  cases hl : (letters s && decide ((s.size : Int) ≤ 6))
  · have HL := hide hl
    have HN := hide (show nameB s = false by
      unfold nameB
      rw [Bool.and_eq_false_iff] at hl
      rcases hl with h | h
      · rw [h, Bool.and_false]
      · have : decide (s.size ≤ 6) = false := decide_eq_false (by have := of_decide_eq_false h; omega)
        rw [this, Bool.and_false]; rfl)
    clear hl
    go_enter Tryd.func40, Tryd.ntmps40
    go_wp2_with fail
    refine (unhide H).mono ?_
    rintro e w1 ⟨rfl, hw⟩
    subst hw
    rw [unhide HL]
    go_wp2_with fail
    go_ret
    exact ⟨ret_bool (unhide HN).symm, rfl⟩
  · have HL := hide hl
    rw [Bool.and_eq_true] at hl
    obtain ⟨hl1, hl2⟩ := hl
    by_cases h0 : s.size = 0
    · have HN := hide (show nameB s = false by unfold nameB; rw [decide_eq_false (show ¬ 1 ≤ s.size by omega)]; rfl)
      obtain rfl := (empty_iff s).2 h0
      clear hl1 hl2 h0
      go_enter Tryd.func40, Tryd.ntmps40
      go_wp2_with fail
      refine (unhide H).mono ?_
      rintro e w1 ⟨rfl, hw⟩
      subst hw
      rw [unhide HL]
      go_wp2_with fail
      go_ret
      exact ⟨ret_bool (unhide HN).symm, rfl⟩
    · have HN := hide (show nameB s = true by
        unfold nameB; rw [decide_eq_true (show 1 ≤ s.size by omega), hl1, decide_eq_true (show s.size ≤ 6 by have := of_decide_eq_true hl2; omega)]; rfl)
      have hE := not_empty h0
      clear hl1 hl2
      go_enter Tryd.func40, Tryd.ntmps40
      go_wp2_with fail
      refine (unhide H).mono ?_
      rintro e w1 ⟨rfl, hw⟩
      subst hw
      rw [unhide HL]
      go_wp2_with fail
      go_ret
      exact ⟨ret_bool (unhide HN).symm, rfl⟩
set_option maxRecDepth 100000 in
set_option maxHeartbeats 4000000 in
theorem impl_ok {w : World} {v : Value} {zs : List E} (h : Is w v zs) (hg : ∀ x ∈ zs, good x) : Calls Tryd.prog 11 #[v] w fun e w' => e = .returned (.bool (ok zs)) ∧ Below w.heap.size w w' := by
  obtain ⟨-, a, cap, rfl, hc, hm, -, hr⟩ := h
  unfold maxLen at hm
  obtain ⟨n, hn⟩ : ∃ n, n = zs.length := ⟨_, rfl⟩
  rw [← hn] at hc hr ⊢
  have HN := hide hn
  have HG := hide hg
  clear hn hg
  by_cases h1 : n < 1
  · have HF := hide (ok_of_len (zs := zs) (by have := unhide HN; omega))
    go_enter Tryd.func11, Tryd.ntmps11
    go_wp2_with fail
    go_ret
    exact ⟨ret_bool (unhide HF).symm, Below.refl _ _⟩
  by_cases h4 : 4 < n
  · have HF := hide (ok_of_len (zs := zs) (by have := unhide HN; omega))
    go_enter Tryd.func11, Tryd.ntmps11
    go_wp2_with fail
    go_ret
    exact ⟨ret_bool (unhide HF).symm, Below.refl _ _⟩
  have hd1 : decide ((n : Int) < 1) = false := by simp; omega
  have hd4 : decide ((4 : Int) < (n : Int)) = false := by simp; omega
  go_enter Tryd.func11, Tryd.ntmps11
  go_wp2_with fail
  clear hd1 hd4
  go_loopw [15] (fun i wr => ∃ k : Nat, k ≤ n ∧ i = .int .i64 k ∧ okTo zs k = true ∧ Below w.heap.size w wr) (fun i _ => n - (intOf i).toNat)
  case atStart => exact ⟨0, Nat.zero_le _, rfl, rfl, Below.refl _ _⟩
  case round =>
    obtain ⟨k, hk, rfl, hok, hbel⟩ := hrel
    have HO := hide hok
    clear hok
    have hsz := hbel.size
    by_cases hlt : k < n
    · obtain ⟨b, off, rfl, hl, hcells⟩ := hr (by omega)
      have fa := flat_at zs k (by have := unhide HN; omega)
      have gd := unhide HG (at' zs k) (by rw [at_get zs k (by have := unhide HN; omega)]; exact List.getElem_mem _)
      obtain ⟨A, B, hX⟩ : ∃ A B, (A, B) = at' zs k := ⟨_, _, rfl⟩
      rw [← hX] at fa gd
      obtain ⟨gA, gB⟩ := gd
      have hc0 : wr.cell? ⟨b, off + k * 2, none⟩ = some (.string A) := (hbel.cell (p := ⟨b, _, none⟩) hl).trans (hcells (k * 2) _ fa.1)
      have hc1 : wr.cell? ⟨b, off + k * 2 + 1, none⟩ = some (.string B) := (hbel.cell (p := ⟨b, _, none⟩) hl).trans (hcells (k * 2 + 1) _ fa.2)
      have HX := hide hX
      clear hX fa
      have hk0 : (0 : Int) ≤ (k : Int) := Int.natCast_nonneg _
      have hk1 : (k : Int) < (n : Int) := by omega
      obtain ⟨W, hW⟩ : ∃ W, W = wr.alloc (.cells #[.string A, .string B] 47) := ⟨_, rfl⟩
      have hWb : Below w.heap.size w W := by rw [hW]; exact hbel.alloc hsz _
      have hW0 : W.cell? ⟨wr.heap.size, 0, none⟩ = some (.string A) := by rw [hW]; simp
      have hW1 : W.cell? ⟨wr.heap.size, 1, none⟩ = some (.string B) := by rw [hW]; simp
      have hWs : W.heap.size = wr.heap.size + 1 := by rw [hW]; simp
      have dW : Below wr.heap.size wr W := by rw [hW]; exact (Below.refl _ _).alloc (Nat.le_refl _) _
      have HWs := hide hWs
      have HW := hide hW
      clear hW hWs
      have hN := fun X => name_any A X gA
      have hWd := fun X => word_any B X gB
      have HNm := hide hN
      have HWd := hide hWd
      clear hN hWd gA gB
      go_wp2_with fail
      rw [← unhide HW]
      refine (unhide HNm W).mono ?_
      rintro e w1 ⟨rfl, b1⟩
      have hw1 : w1.cell? ⟨wr.heap.size, 1, none⟩ = some (.string B) := (b1.cell (p := ⟨_, _, none⟩) (by have := unhide HWs; show wr.heap.size < _; omega)).trans hW1
      have hw0 : w1.cell? ⟨wr.heap.size, 0, none⟩ = some (.string A) := (b1.cell (p := ⟨_, _, none⟩) (by have := unhide HWs; show wr.heap.size < _; omega)).trans hW0
      have c1 := hWb.trans (b1.mono hWb.size)
      cases hnm : nameB A
      · have HF := hide (ok_of_bad (zs := zs) (k := k) (by have := unhide HN; omega) (step_name (by rw [← unhide HX]; exact hnm)))
        clear hnm
        go_wp2_with fail
        go_ret
        exact ⟨ret_bool (unhide HF).symm, c1⟩
      have KN := hide hnm
      clear hnm
      go_wp2_with fail
      refine (unhide HWd w1).mono ?_
      rintro e w2 ⟨rfl, b2⟩
      have s1 := b1.size
      have hv1 : w2.cell? ⟨wr.heap.size, 1, none⟩ = some (.string B) := (b2.cell (p := ⟨_, _, none⟩) (by have := unhide HWs; show wr.heap.size < _; omega)).trans hw1
      have hv0 : w2.cell? ⟨wr.heap.size, 0, none⟩ = some (.string A) := (b2.cell (p := ⟨_, _, none⟩) (by have := unhide HWs; show wr.heap.size < _; omega)).trans hw0
      have c2 := c1.trans (b2.mono c1.size)
      have s2 := b2.size
      have d1 := dW.trans (b1.mono (by have := unhide HWs; omega))
      have d2 := d1.trans (b2.mono (by have := unhide HWs; omega))
      clear hW0 hW1 hw0 hw1 b1 b2
      cases hwd : wordB B
      · have HF := hide (ok_of_bad (zs := zs) (k := k) (by have := unhide HN; omega) (step_word (by rw [← unhide HX]; exact hwd)))
        clear hwd
        go_wp2_with fail
        go_ret
        exact ⟨ret_bool (unhide HF).symm, c2⟩
      have KW := hide hwd
      clear hwd
      by_cases hB0 : B.size = 0
      · have HF := hide (ok_of_bad (zs := zs) (k := k) (by have := unhide HN; omega) (step_empty (by rw [← unhide HX]; exact hB0)))
        obtain rfl := (empty_iff B).2 hB0
        go_wp2_with fail
        go_ret
        exact ⟨ret_bool (unhide HF).symm, c2⟩
      have hE := not_empty hB0
      by_cases hk00 : k = 0
      · have HS := hide (show okTo zs (k + 1) = true by rw [okTo_succ, unhide HO, step_yes (by rw [← unhide HX]; exact unhide KN) (by rw [← unhide HX]; exact unhide KW) (by rw [← unhide HX]; show 0 < B.size; omega) (.inl hk00)]; rfl)
        have hd : decide ((0 : Int) < (k : Int)) = false := by simp; omega
        have hd2 : decide (0 < k) = false := by simp; omega
        clear hk00
        have hne := cls_nonempty w2.heap.size w2
        go_wp2_with fail
        refine region_cls (by kernel_rfl) (by kernel_rfl) ?_
        repeat (go_big_quiet_step (fail))
        refine wpQuiet_nil ?_
        rintro wq ⟨⟨_, hq⟩, rfl⟩
        go_wp2
        go_roundw
        case rel => exact ⟨k + 1, by omega, by go_num, unhide HS, c2.trans (hq.mono c2.size)⟩
        case measure => simp [intOf]; omega
      · have hkp : 0 < k := by omega
        have hkp' : (0 : Int) < (k : Int) := by omega
        have fp := (flat_at zs (k - 1) (by have := unhide HN; omega)).1
        obtain ⟨P, hP⟩ : ∃ P, P = (at' zs (k - 1)).1 := ⟨_, rfl⟩
        rw [← hP] at fp
        have hqp : ∀ x : Cls w2.heap.size w2, x.val.cell? ⟨b, off + (k - 1) * 2, none⟩ = some (.string P) := fun x => by
          rw [x.cell (by have := d2.size; omega)]
          exact (d2.cell (p := ⟨b, _, none⟩) (show b < wr.heap.size by omega)).trans ((hbel.cell (p := ⟨b, _, none⟩) hl).trans (hcells ((k - 1) * 2) _ fp))
        have hq0 : ∀ x : Cls w2.heap.size w2, x.val.cell? ⟨wr.heap.size, 0, none⟩ = some (.string A) := fun x => by
          rw [x.cell (by have := unhide HWs; omega)]
          exact hv0
        have HP := hide hP
        clear hP fp
        have hne := cls_nonempty w2.heap.size w2
        cases hlt2 : ltS P A
        · have HF := hide (ok_of_bad (zs := zs) (k := k) (by have := unhide HN; omega) (step_late (by omega) (by rw [← unhide HX, ← unhide HP]; exact hlt2)))
          have hlt3 : ∀ W, (binOp .geq 9 (.string P) (.string A)).run Tryd.prog W = .ok (.bool true) W := fun W => by rw [run_geq, hlt2]; rfl
          clear hlt2
          go_wp2_with fail
          refine region_cls (by kernel_rfl) (by kernel_rfl) ?_
          repeat (go_big_quiet_step (fail))
          refine wpQuiet_nil ?_
          rintro wq ⟨⟨_, hq⟩, rfl⟩
          go_wp2
          go_ret
          exact ⟨ret_bool (unhide HF).symm, c2.trans (hq.mono c2.size)⟩
        · have HS := hide (show okTo zs (k + 1) = true by rw [okTo_succ, unhide HO, step_yes (by rw [← unhide HX]; exact unhide KN) (by rw [← unhide HX]; exact unhide KW) (by rw [← unhide HX]; show 0 < B.size; omega) (.inr (by rw [← unhide HX, ← unhide HP]; exact hlt2))]; rfl)
          have hlt3 : ∀ W, (binOp .geq 9 (.string P) (.string A)).run Tryd.prog W = .ok (.bool false) W := fun W => by rw [run_geq, hlt2]; rfl
          clear hlt2
          go_wp2_with fail
          refine region_cls (by kernel_rfl) (by kernel_rfl) ?_
          repeat (go_big_quiet_step (fail))
          refine wpQuiet_nil ?_
          rintro wq ⟨⟨_, hq⟩, rfl⟩
          go_wp2
          go_roundw
          case rel => exact ⟨k + 1, by omega, by go_num, unhide HS, c2.trans (hq.mono c2.size)⟩
          case measure => simp [intOf]; omega
    · have HF := hide (ok_all (zs := zs) (by have := unhide HN; omega) (by have := unhide HN; omega) (by rw [← unhide HN, show n = k from by omega]; exact unhide HO))
      go_wp2_with fail
      go_ret
      exact ⟨ret_bool (unhide HF).symm, hbel⟩
end Go.Proofs.YtkmoekbicbjdmaaDoor.Lab
