/- My own texts of one claim, laid together by program: Samp2, SamOk, Lab. -/
import Derived.Test.YtdggffcibcggoaaGreatG2ec3ce7ec5
import Derived.Test.YtdggffcibcggoaaGreatG6159603340
import Derived.Test.YtdggffcibcggoaaGreatG150e0ddd49
import Derived.Test.YtdggffcibcggoaaGreatShelf
import Derived.Shelf.Abstract
/- SamplesOk of the model; both at every slice of samples. -/
namespace Go.Proofs.YtdggffcibcggoaaGreat.Samp
open Go.RowKit SampMath Rw
attribute [local go_sem ↓] Go.wp_at_zero Go.wp_at_succ
theorem in_is (n lo hi : Int) (b : Bool) (w : World) (h : Zig.inB n lo hi = b) : Calls Tryz.prog 57 #[.int .i64 n, .int .i64 lo, .int .i64 hi] w fun e w' => e = .returned (.bool b) ∧ w' = w := by
  rw [← h]; exact Zig.in_any n lo hi w
theorem inB_true {n lo hi : Int} (h1 : lo ≤ n) (h2 : n ≤ hi) : Zig.inB n lo hi = true := by unfold Zig.inB; rw [decide_eq_true h1, decide_eq_true h2]; rfl
theorem inB_false {n lo hi : Int} (h : n < lo ∨ hi < n) : Zig.inB n lo hi = false := by
  unfold Zig.inB
  rcases h with h | h
  · rw [decide_eq_false (by omega), Bool.false_and]
  · rw [decide_eq_false (show ¬ n ≤ hi by omega), Bool.and_false]
set_option maxRecDepth 100000 in
set_option maxHeartbeats 1000000 in
theorem spec_ok_some (b off cap : Nat) (zs : List S) (w : World) (hcap : zs.length ≤ cap) (hm : cap ≤ maxLen) (hbl : b < w.heap.size) (hr : Reads w b off zs) :
    Calls Tryz.prog 102 #[.slice (some ⟨b, off, none⟩) zs.length cap] w fun e w' => e = .returned (.bool (ok zs)) ∧ Below w.heap.size w w' := by
  unfold maxLen at hm
  obtain ⟨n, hn⟩ : ∃ n, n = zs.length := ⟨_, rfl⟩
  rw [← hn]
  have HN := hide hn
  have hn1 : n ≤ cap := by omega
  clear hn hcap
  go_enter Tryz.func102, Tryz.ntmps102
  go_wp2
  go_loopw [3] (fun i wr => ∃ k : Nat, k ≤ n ∧ i = .int .i64 k ∧ okTo zs k = true ∧ Below w.heap.size w wr) (fun i _ => n - (intOf i).toNat)
  case atStart => exact ⟨0, Nat.zero_le _, rfl, rfl, Below.refl _ _⟩
  case round =>
    obtain ⟨k, hk, rfl, hok, hbel⟩ := hrel
    have HO := hide hok
    clear hok
    have hsz := hbel.size
    by_cases hlt : k < n
    · obtain ⟨T, hT⟩ : ∃ T, T = (at' zs k).1 := ⟨_, rfl⟩
      obtain ⟨V, hV⟩ : ∃ V, V = (at' zs k).2 := ⟨_, rfl⟩
      have hq0 : ∀ x : Cls wr.heap.size wr, x.val.cell? ⟨b, off + k * 2, none⟩ = some (.int .i64 T) := fun x => by rw [x.cell (by omega), hT]; exact (hbel.cell (p := ⟨b, _, none⟩) hbl).trans (hr k (by have := unhide HN; omega)).1
      have hq1 : ∀ x : Cls wr.heap.size wr, x.val.cell? ⟨b, off + k * 2 + 1, none⟩ = some (.int .i64 V) := fun x => by rw [x.cell (by omega), hV]; exact (hbel.cell (p := ⟨b, _, none⟩) hbl).trans (hr k (by have := unhide HN; omega)).2
      have hk0 : (0 : Int) ≤ (k : Int) := Int.natCast_nonneg _
      have hk1 : (k : Int) < (n : Int) := by omega
      have HT := hide hT
      have HV := hide hV
      clear hT hV
      have hne := cls_nonempty wr.heap.size wr
      by_cases hTr : 0 ≤ T ∧ T ≤ 9999
      · have HT9 := hide (inB_true hTr.1 hTr.2)
        by_cases hVr : 0 ≤ V ∧ V ≤ 2147483647
        · have HV9 := hide (inB_true hVr.1 hVr.2)
          have HR := hide (show inR (at' zs k).1 (at' zs k).2 = true by rw [← unhide HT, ← unhide HV]; exact inR_yes hTr.1 hTr.2 hVr.1 hVr.2)
          clear hTr hVr
          by_cases hk00 : k = 0
          · have HS := hide (show okTo zs (k + 1) = true by rw [okTo_succ, unhide HO, hk00, stepOk_first (by have := unhide HR; rwa [hk00] at this)]; rfl)
            have hd : decide (0 < k) = false := by simp; omega
            clear hk00
            go_wp2_with fail
            refine region_cls (by kernel_rfl) (by kernel_rfl) ?_
            repeat (go_big_quiet_step (((first | (go_at_call_of 57 (9999 : Int); exact cls_same (in_is _ _ _ true _ (unhide HT9))) | (go_at_call_of 57 (2147483647 : Int); exact cls_same (in_is _ _ _ true _ (unhide HV9)))))))
            refine wpQuiet_nil ?_
            rintro _ ⟨⟨wq, hq⟩, rfl⟩
            go_wp2
            go_roundw
            case rel => exact ⟨k + 1, by omega, by go_num, unhide HS, hbel.trans (hq.mono hsz)⟩
            case measure => simp [intOf]; omega
          · have hkp : 0 < k := by omega
            obtain ⟨P, hP⟩ : ∃ P, P = (at' zs (k - 1)).1 := ⟨_, rfl⟩
            have hqp : ∀ x : Cls wr.heap.size wr, x.val.cell? ⟨b, off + (k - 1) * 2, none⟩ = some (.int .i64 P) := fun x => by rw [x.cell (by omega), hP]; exact (hbel.cell (p := ⟨b, _, none⟩) hbl).trans (hr (k - 1) (by have := unhide HN; omega)).1
            have HP := hide hP
            clear hP
            by_cases hlate : T ≤ P
            · have HF := hide (ok_of_bad (zs := zs) (k := k) (by have := unhide HN; omega) (stepOk_late (by omega) (by rw [← unhide HT, ← unhide HP]; exact hlate)))
              go_wp2_with fail
              refine region_cls (by kernel_rfl) (by kernel_rfl) ?_
              repeat (go_big_quiet_step (((first | (go_at_call_of 57 (9999 : Int); exact cls_same (in_is _ _ _ true _ (unhide HT9))) | (go_at_call_of 57 (2147483647 : Int); exact cls_same (in_is _ _ _ true _ (unhide HV9)))))))
              refine wpQuiet_nil ?_
              rintro _ ⟨⟨wq, hq⟩, rfl⟩
              go_wp2
              go_ret
              exact ⟨ret_bool (unhide HF).symm, hbel.trans (hq.mono hsz)⟩
            · have HS := hide (show okTo zs (k + 1) = true by rw [okTo_succ, unhide HO, stepOk_next (unhide HR) (by rw [← unhide HT, ← unhide HP]; omega)]; rfl)
              have hd : decide (T ≤ P) = false := by simp; omega
              go_wp2_with fail
              refine region_cls (by kernel_rfl) (by kernel_rfl) ?_
              repeat (go_big_quiet_step (((first | (go_at_call_of 57 (9999 : Int); exact cls_same (in_is _ _ _ true _ (unhide HT9))) | (go_at_call_of 57 (2147483647 : Int); exact cls_same (in_is _ _ _ true _ (unhide HV9)))))))
              refine wpQuiet_nil ?_
              rintro _ ⟨⟨wq, hq⟩, rfl⟩
              go_wp2
              go_roundw
              case rel => exact ⟨k + 1, by omega, by go_num, unhide HS, hbel.trans (hq.mono hsz)⟩
              case measure => simp [intOf]; omega
        · have HV9 := hide (inB_false (n := V) (lo := 0) (hi := 2147483647) (by omega))
          have HF := hide (ok_of_bad (zs := zs) (k := k) (by have := unhide HN; omega) (stepOk_range (by rw [← unhide HT, ← unhide HV]; exact inR_no (by omega))))
          clear hTr hVr
          go_wp2_with fail
          refine region_cls (by kernel_rfl) (by kernel_rfl) ?_
          repeat (go_big_quiet_step (((first | (go_at_call_of 57 (9999 : Int); exact cls_same (in_is _ _ _ true _ (unhide HT9))) | (go_at_call_of 57 (2147483647 : Int); exact cls_same (in_is _ _ _ false _ (unhide HV9)))))))
          refine wpQuiet_nil ?_
          rintro _ ⟨⟨wq, hq⟩, rfl⟩
          go_wp2
          go_ret
          exact ⟨ret_bool (unhide HF).symm, hbel.trans (hq.mono hsz)⟩
      · have HT9 := hide (inB_false (n := T) (lo := 0) (hi := 9999) (by omega))
        have HV9 := hide (rfl : Zig.inB V 0 2147483647 = Zig.inB V 0 2147483647)
        have HF := hide (ok_of_bad (zs := zs) (k := k) (by have := unhide HN; omega) (stepOk_range (by rw [← unhide HT, ← unhide HV]; exact inR_no (by omega))))
        clear hTr
        go_wp2_with fail
        refine region_cls (by kernel_rfl) (by kernel_rfl) ?_
        repeat (go_big_quiet_step (((first | (go_at_call_of 57 (9999 : Int); exact cls_same (in_is _ _ _ false _ (unhide HT9))) | (go_at_call_of 57 (2147483647 : Int); exact cls_same (in_is _ _ _ _ _ (unhide HV9)))))))
        refine wpQuiet_nil ?_
        rintro _ ⟨⟨wq, hq⟩, rfl⟩
        go_wp2
        go_ret
        exact ⟨ret_bool (unhide HF).symm, hbel.trans (hq.mono hsz)⟩
    · go_wp2
      go_ret
      exact ⟨ret_bool (by unfold ok; rw [← unhide HN, show n = k from by omega]; exact (unhide HO).symm), hbel⟩
theorem impl_ok_nil (w : World) : Calls Tryz.prog 106 #[.slice none 0 0] w fun e w' => e = .returned (.bool (ok [])) ∧ Below w.heap.size w w' := by
  go_enter Tryz.func106, Tryz.ntmps106
  go_wp2
  refine wp_loop_rounds 1 ?_
  rw [rounds_succ]
  go_wp2
  go_ret
  exact ⟨rfl, Below.refl _ _⟩
theorem spec_ok_nil (w : World) : Calls Tryz.prog 102 #[.slice none 0 0] w fun e w' => e = .returned (.bool (ok [])) ∧ Below w.heap.size w w' := by
  go_enter Tryz.func102, Tryz.ntmps102
  go_wp2
  refine wp_loop_rounds 1 ?_
  rw [rounds_succ]
  go_wp2
  go_ret
  exact ⟨rfl, Below.refl _ _⟩
theorem impl_ok {w : World} {v : Value} {zs : List S} (h : Smp w v zs) : Calls Tryz.prog 106 #[v] w fun e w' => e = .returned (.bool (ok zs)) ∧ Below w.heap.size w w' := by
  rcases h with ⟨rfl, rfl⟩ | ⟨b, off, cap, rfl, h2, h3, h4, h5⟩
  · exact impl_ok_nil w
  · exact impl_ok_some b off cap zs w h2 h3 h4 h5
theorem l2ok {w : World} {v : Value} {zs : List S} (h : Smp w v zs) : Calls Tryz.prog 102 #[v] w fun e w' => e = .returned (.bool (ok zs)) ∧ Below w.heap.size w w' := by
  rcases h with ⟨rfl, rfl⟩ | ⟨b, off, cap, rfl, h2, h3, h4, h5⟩
  · exact spec_ok_nil w
  · exact spec_ok_some b off cap zs w h2 h3 h4 h5
end Go.Proofs.YtdggffcibcggoaaGreat.Samp

/- SamplesOk, of the program and of the model, at slices of samples whose address is open. -/
namespace Go.Proofs.YtdggffcibcggoaaGreat.Sam
open Go.RowKit Rw
set_option linter.unusedVariables false
attribute [local go_sem ↓] Go.wp_at_zero Go.wp_at_succ
theorem reads_of {w : World} {b off : Nat} {zs : List E} (hc : ∀ (j : Nat) u, (flat zs)[j]? = some u → w.cell? ⟨b, off + j, none⟩ = some u) : Samp.Reads w b off zs := fun i hi =>
  ⟨hc (i * 2) _ (flat_at zs i hi).1, hc (i * 2 + 1) _ (flat_at zs i hi).2⟩
theorem impl_ok_zero (a : Option Addr) (cap : Nat) (w : World) : Calls Tryz.prog 106 #[.slice a 0 cap] w fun e w' => e = .returned (.bool (SampMath.ok [])) ∧ Below w.heap.size w w' := by
  go_enter Tryz.func106, Tryz.ntmps106
  go_wp2
  refine wp_loop_rounds 1 ?_
  rw [rounds_succ]
  go_wp2
  go_ret
  exact ⟨rfl, Below.refl _ _⟩
theorem spec_ok_zero (a : Option Addr) (cap : Nat) (w : World) : Calls Tryz.prog 102 #[.slice a 0 cap] w fun e w' => e = .returned (.bool (SampMath.ok [])) ∧ Below w.heap.size w w' := by
  go_enter Tryz.func102, Tryz.ntmps102
  go_wp2
  refine wp_loop_rounds 1 ?_
  rw [rounds_succ]
  go_wp2
  go_ret
  exact ⟨rfl, Below.refl _ _⟩
theorem impl_ok {w : World} {v : Value} {zs : List E} (h : Is w v zs) : Calls Tryz.prog 106 #[v] w fun e w' => e = .returned (.bool (SampMath.ok zs)) ∧ Below w.heap.size w w' := by
  obtain ⟨-, a, cap, rfl, hc, hm, -, hr⟩ := h
  by_cases h0 : zs.length = 0
  · obtain rfl : zs = [] := List.eq_nil_of_length_eq_zero h0
    exact impl_ok_zero a cap w
  · obtain ⟨b, off, rfl, hl, hcells⟩ := hr (by omega)
    exact Samp.impl_ok_some b off cap zs w hc hm hl (reads_of hcells)
theorem l2ok {w : World} {v : Value} {zs : List E} (h : Is w v zs) : Calls Tryz.prog 102 #[v] w fun e w' => e = .returned (.bool (SampMath.ok zs)) ∧ Below w.heap.size w w' := by
  obtain ⟨-, a, cap, rfl, hc, hm, -, hr⟩ := h
  by_cases h0 : zs.length = 0
  · obtain rfl : zs = [] := List.eq_nil_of_length_eq_zero h0
    exact spec_ok_zero a cap w
  · obtain ⟨b, off, rfl, hl, hcells⟩ := hr (by omega)
    exact Samp.spec_ok_some b off cap zs w hc hm hl (reads_of hcells)
end Go.Proofs.YtdggffcibcggoaaGreat.Sam

/- Letters, names, words: of the program and of the model. -/
namespace Go.Proofs.YtdggffcibcggoaaGreat.Lab
open Go.RowKit Rw Go.Lib
set_option linter.unusedVariables false
attribute [local go_sem ↓] Go.wp_at_zero Go.wp_at_succ
theorem notLetter_runes (w : World) : PredAtRunes Tryz.prog 151 #[] notL w := fun W r hr _ => by
  unfold FnGives
  rcases (show r < 97 ∨ (97 ≤ r ∧ r ≤ 122) ∨ (97 ≤ r ∧ 122 < r) from by omega) with h | ⟨h, h'⟩ | ⟨h, h'⟩
  · have hn : notL r = true := by unfold notL; rw [decide_eq_true h]; rfl
    have z : (r : Int) < 97 := by omega
    rw [hn]
    clear hn
    go_enter Tryz.func151, Tryz.ntmps151
    go_wp2
    go_ret
    exact ⟨rfl, 0, rfl⟩
  · have hn : notL r = false := by unfold notL; rw [decide_eq_false (by omega), decide_eq_false (by omega)]; rfl
    have z : decide ((r : Int) < 97) = false := by simp; omega
    have z2 : decide ((122 : Int) < (r : Int)) = false := by simp; omega
    rw [hn]
    clear hn
    go_enter Tryz.func151, Tryz.ntmps151
    go_wp2
    go_ret
    exact ⟨by first | rfl | exact ret_bool (decide_eq_false (by omega)), 0, rfl⟩
  · have hn : notL r = true := by unfold notL; rw [decide_eq_true h', Bool.or_true]
    have z : decide ((r : Int) < 97) = false := by simp; omega
    have z2 : (122 : Int) < (r : Int) := by omega
    rw [hn]
    clear hn
    go_enter Tryz.func151, Tryz.ntmps151
    go_wp2
    go_ret
    exact ⟨by first | rfl | exact ret_bool (decide_eq_true (by omega)), 0, rfl⟩
theorem letters_any (s : ByteArray) (w : World) : Calls Tryz.prog 132 #[.string s] w fun e w' => e = .returned (.bool (letters s)) ∧ Below w.heap.size w w' := by
  have H := hide (Tryz.strings_IndexFunc_runes 151 #[] (enters_of Tryz.func151 (by kernel_rfl) rfl) notL s w (notLetter_runes w))
  have HI := hide (idx_letters s)
  go_enter Tryz.func132, Tryz.ntmps132
  go_wp2_with fail
  refine (unhide H).mono ?_
  rintro e w1 ⟨rfl, b1⟩
  go_wp2_with fail
  go_ret
  exact ⟨ret_bool (unhide HI), b1⟩
theorem name_any (s : ByteArray) (w : World) (hs : s.size ≤ maxLen) : Calls Tryz.prog 99 #[.string s] w fun e w' => e = .returned (.bool (nameB s)) ∧ Below w.heap.size w w' := by
  unfold maxLen at hs
  have H := hide (letters_any s w)
  by_cases h1 : 1 ≤ s.size
  · by_cases h2 : s.size ≤ 6
    · have HN := hide (show nameB s = letters s by unfold nameB; rw [decide_eq_true h1, decide_eq_true h2]; rfl)
      go_enter Tryz.func99, Tryz.ntmps99
      go_wp2_with fail
      refine (unhide H).mono ?_
      rintro e w1 ⟨rfl, b1⟩
      go_wp2_with fail
      go_ret
      exact ⟨ret_bool (unhide HN).symm, b1⟩
    · have HN := hide (show nameB s = false by unfold nameB; rw [decide_eq_false h2, Bool.and_false]; rfl)
      go_enter Tryz.func99, Tryz.ntmps99
      go_wp2_with fail
      go_ret
      exact ⟨ret_bool (unhide HN).symm, Below.refl _ _⟩
  · have HN := hide (show nameB s = false by unfold nameB; rw [decide_eq_false h1]; rfl)
    go_enter Tryz.func99, Tryz.ntmps99
    go_wp2_with fail
    go_ret
    exact ⟨ret_bool (unhide HN).symm, Below.refl _ _⟩
theorem word_any (s : ByteArray) (w : World) (hs : s.size ≤ maxLen) : Calls Tryz.prog 100 #[.string s] w fun e w' => e = .returned (.bool (wordB s)) ∧ Below w.heap.size w w' := by
  unfold maxLen at hs
  have H := hide (letters_any s w)
  by_cases h2 : s.size ≤ 8
  · have HN := hide (show wordB s = letters s by unfold wordB; rw [decide_eq_true h2]; rfl)
    go_enter Tryz.func100, Tryz.ntmps100
    go_wp2_with fail
    refine (unhide H).mono ?_
    rintro e w1 ⟨rfl, b1⟩
    go_wp2_with fail
    go_ret
    exact ⟨ret_bool (unhide HN).symm, b1⟩
  · have HN := hide (show wordB s = false by unfold wordB; rw [decide_eq_false h2]; rfl)
    go_enter Tryz.func100, Tryz.ntmps100
    go_wp2_with fail
    go_ret
    exact ⟨ret_bool (unhide HN).symm, Below.refl _ _⟩
theorem take_snoc (s : ByteArray) (k : Nat) (h : k < s.size) : s.data.toList.take (k + 1) = s.data.toList.take k ++ [s[k]] := by
  rw [List.take_succ_eq_append_getElem (by simpa using h)]; rfl
set_option maxHeartbeats 1000000 in
theorem l3Letters_any (s : ByteArray) (most : Int) (w : World) (hs : s.size ≤ maxLen) : Calls Tryz.prog 61 #[.string s, .int .i64 most] w fun e w' => e = .returned (.bool (letters s && decide ((s.size : Int) ≤ most))) ∧ w' = w := by
  unfold maxLen at hs
  go_enter Tryz.func61, Tryz.ntmps61
  go_wp2
  go_loop [5] (fun i => ∃ k : Nat, k ≤ s.size ∧ i = .int .i64 k ∧ (s.data.toList.take k).all letter = true) (fun i => s.size - (intOf i).toNat)
  case atStart => exact ⟨0, Nat.zero_le _, rfl, rfl⟩
  case round =>
    obtain ⟨k, hk, rfl, hall⟩ := hrel
    have HA := hide hall
    clear hall
    by_cases hlt : k < s.size
    · have HT := hide (take_snoc s k hlt)
      have HL := hide (show letter s[k] = (decide (97 ≤ s[k].toNat) && decide (s[k].toNat ≤ 122)) from rfl)
      by_cases h1 : (s[k].toNat : Int) < 97
      · have HF := hide (show letters s = false by
          have hl : letter s[k] = false := by rw [unhide HL, decide_eq_false (by omega)]; rfl
          unfold letters
          rw [List.all_eq_false]
          exact ⟨s[k], by have : s[k] = s.data.toList[k]'(by simpa using hlt) := rfl
                          rw [this]; exact List.getElem_mem _, by simp [hl]⟩)
        go_wp2
        go_ret
        exact ⟨ret_bool (by rw [unhide HF]; rfl), rfl⟩
      · by_cases h2 : 122 < (s[k].toNat : Int)
        · have HF := hide (show letters s = false by
            have hl : letter s[k] = false := by rw [unhide HL, decide_eq_false (show ¬ s[k].toNat ≤ 122 by omega), Bool.and_false]
            unfold letters
            rw [List.all_eq_false]
            exact ⟨s[k], by have : s[k] = s.data.toList[k]'(by simpa using hlt) := rfl
                            rw [this]; exact List.getElem_mem _, by simp [hl]⟩)
          go_wp2
          go_ret
          exact ⟨ret_bool (by rw [unhide HF]; rfl), rfl⟩
        · have HS := hide (show (s.data.toList.take (k + 1)).all letter = true by
            have hl : letter s[k] = true := by rw [unhide HL, decide_eq_true (show 97 ≤ s[k].toNat by omega), decide_eq_true (show s[k].toNat ≤ 122 by omega)]; rfl
            rw [unhide HT, List.all_append, unhide HA]
            simp [hl])
          go_wp2
          go_round
          case rel => exact ⟨k + 1, by omega, by go_num, unhide HS⟩
          case measure => simp [intOf]; omega
    · have HF := hide (show letters s = true by
        have := unhide HA
        rw [List.take_of_length_le (by simp; omega)] at this
        exact this)
      go_wp2
      go_ret
      exact ⟨ret_bool (by rw [unhide HF]; rfl), rfl⟩
theorem empty_iff (s : ByteArray) : (s = ByteArray.empty) ↔ s.size = 0 := by
  constructor
  · rintro rfl; rfl
  · intro h
    cases s with
    | mk d =>
      have : d = #[] := Array.eq_empty_of_size_eq_zero h
      rw [this]; rfl
end Go.Proofs.YtdggffcibcggoaaGreat.Lab
