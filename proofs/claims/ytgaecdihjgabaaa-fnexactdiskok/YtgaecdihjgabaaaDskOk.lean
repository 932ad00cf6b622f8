/- DiskOk, of the program and of the model, at every disk. No condition. -/
import Derived.Test.YtgaecdihjgabaaaDskLaw
import Derived.Test.YtgaecdihjgabaaaQuiet
import Derived.Test.YtgaecdihjgabaaaIn
namespace Go.Proofs.Ytgaecdihjgabaaa.Dsk
open Go.RowKit Rw
set_option linter.unusedVariables false
attribute [local go_sem ↓] Go.wp_at_zero Go.wp_at_succ
def inN (t : Int) : Bool := Zig.inB t 0 9999
abbrev fat (zs : List Fil.E) (i : Nat) : Fil.E := Fil.at' zs i
def stepOk (zs : List Fil.E) (i : Nat) : Bool := inN (fat zs i).1 && (i == 0 || decide ((fat zs (i - 1)).1 < (fat zs i).1))
def okTo (zs : List Fil.E) (k : Nat) : Bool := (List.range k).all (stepOk zs)
def okF (zs : List Fil.E) : Bool := okTo zs zs.length
def diskB (A : ByteArray) (zs : List Fil.E) : Bool := okF zs && (decide (A.size ≤ 100000) && decide (zs.length ≤ 240))
theorem okTo_succ (zs : List Fil.E) (k : Nat) : okTo zs (k + 1) = (okTo zs k && stepOk zs k) := by simp [okTo, List.range_succ]
theorem ok_of_bad {zs : List Fil.E} {k : Nat} (hk : k < zs.length) (h : stepOk zs k = false) : okF zs = false := by
  unfold okF okTo
  rw [List.all_eq_false]
  exact ⟨k, List.mem_range.2 hk, by simp [h]⟩
theorem stepOk_first {zs : List Fil.E} (h : inN (fat zs 0).1 = true) : stepOk zs 0 = true := by simp [stepOk, h]
theorem stepOk_next {zs : List Fil.E} {k : Nat} (h : inN (fat zs k).1 = true) (h' : (fat zs (k - 1)).1 < (fat zs k).1) : stepOk zs k = true := by simp [stepOk, h, h']
theorem stepOk_range {zs : List Fil.E} {k : Nat} (h : inN (fat zs k).1 = false) : stepOk zs k = false := by simp [stepOk, h]
theorem stepOk_late {zs : List Fil.E} {k : Nat} (hk : 0 < k) (h' : (fat zs k).1 ≤ (fat zs (k - 1)).1) : stepOk zs k = false := by
  have h0 : (k == 0) = false := by simp; omega
  simp [stepOk, h0]
  intro _
  exact h'
theorem disk_no_ok {A : ByteArray} {zs : List Fil.E} (h : okF zs = false) : diskB A zs = false := by unfold diskB; rw [h]; rfl
theorem disk_no_log {A : ByteArray} {zs : List Fil.E} (h : 100000 < A.size) : diskB A zs = false := by unfold diskB; rw [decide_eq_false (show ¬ A.size ≤ 100000 by omega)]; simp
theorem disk_no_len {A : ByteArray} {zs : List Fil.E} (h : 240 < zs.length) : diskB A zs = false := by unfold diskB; rw [decide_eq_false (show ¬ zs.length ≤ 240 by omega)]; simp
theorem disk_yes {A : ByteArray} {zs : List Fil.E} (h : okF zs = true) (h1 : A.size ≤ 100000) (h2 : zs.length ≤ 240) : diskB A zs = true := by unfold diskB; rw [h, decide_eq_true h1, decide_eq_true h2]; rfl
theorem inN_yes {t : Int} (h1 : 0 ≤ t) (h2 : t ≤ 9999) : inN t = true := by unfold inN Zig.inB; rw [decide_eq_true h1, decide_eq_true h2]; rfl
theorem inN_no {t : Int} (h : ¬ (0 ≤ t ∧ t ≤ 9999)) : inN t = false := by
  unfold inN Zig.inB
  by_cases h0 : 0 ≤ t
  · rw [decide_eq_false (show ¬ t ≤ 9999 by omega), Bool.and_false]
  · rw [decide_eq_false h0, Bool.false_and]
theorem numOk_any (t : Int) (w : World) : Calls Try.prog 39 #[.int .i64 t] w fun e w' => e = .returned (.bool (inN t)) ∧ w' = w := by
  by_cases h0 : 0 ≤ t
  · by_cases h1 : t ≤ 9999
    · rw [inN_yes h0 h1]
      go_enter Try.func39, Try.ntmps39
      go_wp2
      go_ret
      exact ⟨rfl, rfl⟩
    · rw [inN_no (by omega)]
      have h1f : decide (t ≤ 9999) = false := by simp; omega
      go_enter Try.func39, Try.ntmps39
      go_wp2
      go_ret
      exact ⟨rfl, rfl⟩
  · rw [inN_no (by omega)]
    go_enter Try.func39, Try.ntmps39
    go_wp2
    go_ret
    exact ⟨rfl, rfl⟩
theorem num_is {t : Int} {b : Bool} (h : inN t = b) (w : World) : Calls Try.prog 39 #[.int .i64 t] w fun e w' => e = .returned (.bool b) ∧ w' = w := by rw [← h]; exact numOk_any t w
theorem in_is {t : Int} {b : Bool} (h : inN t = b) (w : World) : Calls Try.prog 37 #[.int .i64 t, .int .i64 0, .int .i64 9999] w fun e w' => e = .returned (.bool b) ∧ w' = w := by rw [← h]; exact Zig.in_any t 0 9999 w
set_option maxRecDepth 100000 in
set_option maxHeartbeats 4000000 in
theorem impl_disk {w : World} {A B : ByteArray} {v : Value} {zs : List Fil.E} (h : Fil.Is w v zs) (hA : A.size ≤ maxLen) : Calls Try.prog 15 #[.agg #[.string A, .string B, v]] w fun e w' => e = .returned (.bool (diskB A zs)) ∧ Below w.heap.size w w' := by
  obtain ⟨-, a, cap, rfl, hc, hm, -, hr⟩ := h
  unfold maxLen at hm hA
  obtain ⟨n, hn⟩ : ∃ n, n = zs.length := ⟨_, rfl⟩
  rw [← hn] at hc hr ⊢
  have HN := hide hn
  clear hn
  obtain ⟨wa, hwa⟩ : ∃ wa, wa = w.alloc (.cells #[.string A, .string B, .slice a n cap] 40) := ⟨_, rfl⟩
  have ba : Below w.heap.size w wa := by rw [hwa]; exact (Below.refl _ _).alloc (Nat.le_refl _) _
  have za : w.heap.size < wa.heap.size := by rw [hwa]; simp
  have q0 : wa.cell? ⟨w.heap.size, 0, none⟩ = some (.string A) := by rw [hwa]; simp [go_sem]
  have q2 : wa.cell? ⟨w.heap.size, 2, none⟩ = some (.slice a n cap) := by rw [hwa]; simp [go_sem]
  by_cases hl : 100000 < A.size
  · have HR := hide (disk_no_log (zs := zs) hl)
    have hlI : (100000 : Int) < (A.size : Int) := by omega
    go_enter Try.func15, Try.ntmps15
    go_wp2_with fail
    go_ret
    exact ⟨ret_bool (unhide HR).symm, by rw [← hwa]; exact ba⟩
  have hl1 : decide (100000 < A.size) = false := by simp; omega
  have hl2 : decide ((100000 : Int) < (A.size : Int)) = false := by simp; omega
  by_cases hf : 240 < n
  · have HR := hide (disk_no_len (A := A) (zs := zs) (by have := unhide HN; omega))
    have hfI : (240 : Int) < (n : Int) := by omega
    go_enter Try.func15, Try.ntmps15
    go_wp2_with fail
    go_ret
    exact ⟨ret_bool (unhide HR).symm, by rw [← hwa]; exact ba⟩
  have hf1 : decide (240 < n) = false := by simp; omega
  have hf2 : decide ((240 : Int) < (n : Int)) = false := by simp; omega
  go_enter Try.func15, Try.ntmps15
  go_wp2_with fail
  rw [← hwa]
  clear hwa
  go_loopw [18] (fun i wr => ∃ k : Nat, k ≤ n ∧ i = .int .i64 k ∧ Hid (okTo zs k = true) ∧ Below wa.heap.size wa wr) (fun i _ => n - (intOf i).toNat)
  case atStart => exact ⟨0, Nat.zero_le _, rfl, hide rfl, Below.refl _ _⟩
  case round =>
    obtain ⟨k, hk, rfl, HO, hbel⟩ := hrel
    have hsz := hbel.size
    have hbw : Below w.heap.size w wr := ba.trans (hbel.mono ba.size)
    have p0 : wr.cell? ⟨w.heap.size, 0, none⟩ = some (.string A) := (hbel.cell (p := ⟨_, _, none⟩) za).trans q0
    have p2 : wr.cell? ⟨w.heap.size, 2, none⟩ = some (.slice a n cap) := (hbel.cell (p := ⟨_, _, none⟩) za).trans q2
    by_cases hlt : k < n
    · obtain ⟨b, off, rfl, hbl, hcells⟩ := hr (by omega)
      have hR : ∀ j, j < n → wr.cell? ⟨b, off + j * 2, none⟩ = some (.int .i64 (fat zs j).1) ∧ wr.cell? ⟨b, off + j * 2 + 1, none⟩ = some (.string (fat zs j).2) := fun j hj => ⟨(hbw.cell (p := ⟨b, _, none⟩) hbl).trans (hcells (j * 2) _ (Fil.flat_at zs j (by have := unhide HN; omega)).1), (hbw.cell (p := ⟨b, _, none⟩) hbl).trans (hcells (j * 2 + 1) _ (Fil.flat_at zs j (by have := unhide HN; omega)).2)⟩
      have hc0 := (hR k hlt).1
      have hc1 := (hR k hlt).2
      have hk0 : (0 : Int) ≤ (k : Int) := Int.natCast_nonneg _
      have hk1 : (k : Int) < (n : Int) := by omega
      obtain ⟨T, hT⟩ : ∃ T, T = (fat zs k).1 := ⟨_, rfl⟩
      obtain ⟨X, hX⟩ : ∃ X, X = (fat zs k).2 := ⟨_, rfl⟩
      rw [← hT] at hc0
      rw [← hX] at hc1
      have HT := hide hT
      have HR := hide hR
      clear hT hX hR
      obtain ⟨W, hW⟩ : ∃ W, W = wr.alloc (.cells #[.int .i64 T, .string X] 64) := ⟨_, rfl⟩
      have hWa : Below wa.heap.size wa W := by rw [hW]; exact hbel.alloc hsz _
      have hWr : Below wr.heap.size wr W := by rw [hW]; exact (Below.refl _ _).alloc (Nat.le_refl _) _
      have hWb : Below w.heap.size w W := ba.trans (hWa.mono ba.size)
      have hq0 : ∀ x : Cls (wr.heap.size + 1) W, x.val.cell? ⟨wr.heap.size, 0, none⟩ = some (.int .i64 T) := fun x => by rw [x.cell (by omega), hW]; simp
      have hqd : ∀ x : Cls (wr.heap.size + 1) W, x.val.cell? ⟨w.heap.size, 2, none⟩ = some (.slice (some ⟨b, off, none⟩) n cap) := fun x => by rw [x.cell (by omega)]; exact (hWr.cell (p := ⟨_, _, none⟩) (by show w.heap.size < wr.heap.size; omega)).trans p2
      have HWs := hide (show W.heap.size = wr.heap.size + 1 by rw [hW]; simp)
      have HW := hide hW
      clear hW
      cases hin : inN T
      · have HF := hide (disk_no_ok (A := A) (ok_of_bad (zs := zs) (k := k) (by have := unhide HN; omega) (stepOk_range (by rw [← unhide HT]; exact hin))))
        have HI := hide hin
        clear hin
        go_wp2_with fail
        rw [← unhide HW]
        refine region_cls (by kernel_rfl) (by kernel_rfl) ?_
        rw [unhide HWs]
        have hne := cls_nonempty (wr.heap.size + 1) W
        repeat (go_big_quiet_step ((go_at_call 39; exact cls_same (num_is (unhide HI) _))))
        refine wpQuiet_nil ?_
        rintro _ ⟨⟨wq, hq⟩, rfl⟩
        go_wp2
        go_ret
        exact ⟨ret_bool (unhide HF).symm, hWb.trans (hq.mono (by have := hWb.size; omega))⟩
      · have HI := hide hin
        have HRn := hide (show inN (fat zs k).1 = true by rw [← unhide HT]; exact hin)
        clear hin
        by_cases hk00 : k = 0
        · have HS := hide (show okTo zs (k + 1) = true by rw [okTo_succ, unhide HO, hk00, stepOk_first (by have := unhide HRn; rwa [hk00] at this)]; rfl)
          have hd : decide (0 < k) = false := by simp; omega
          clear hk00
          go_wp2_with fail
          rw [← unhide HW]
          refine region_cls (by kernel_rfl) (by kernel_rfl) ?_
          rw [unhide HWs]
          have hne := cls_nonempty (wr.heap.size + 1) W
          repeat (go_big_quiet_step ((go_at_call 39; exact cls_same (num_is (unhide HI) _))))
          refine wpQuiet_nil ?_
          rintro _ ⟨⟨wq, hq⟩, rfl⟩
          go_wp2
          go_roundw
          case rel => exact ⟨k + 1, by omega, by go_num, HS, hWa.trans (hq.mono (by have := hWa.size; have := unhide HWs; omega))⟩
          case measure => simp [intOf]; omega
        · have hkp : 0 < k := by omega
          obtain ⟨P, hP⟩ : ∃ P, P = (fat zs (k - 1)).1 := ⟨_, rfl⟩
          have hp0 : wr.cell? ⟨b, off + (k - 1) * 2, none⟩ = some (.int .i64 P) := by rw [hP]; exact (unhide HR (k - 1) (by omega)).1
          have hqp : ∀ x : Cls (wr.heap.size + 1) W, x.val.cell? ⟨b, off + (k - 1) * 2, none⟩ = some (.int .i64 P) := fun x => by rw [x.cell (by omega)]; exact (hWr.cell (p := ⟨_, _, none⟩) (by show b < wr.heap.size; omega)).trans hp0
          have HP := hide hP
          clear hP
          by_cases hlate : T ≤ P
          · have HF := hide (disk_no_ok (A := A) (ok_of_bad (zs := zs) (k := k) (by have := unhide HN; omega) (stepOk_late (by omega) (by rw [← unhide HT, ← unhide HP]; exact hlate))))
            go_wp2_with fail
            rw [← unhide HW]
            refine region_cls (by kernel_rfl) (by kernel_rfl) ?_
            rw [unhide HWs]
            have hne := cls_nonempty (wr.heap.size + 1) W
            repeat (go_big_quiet_step ((go_at_call 39; exact cls_same (num_is (unhide HI) _))))
            refine wpQuiet_nil ?_
            rintro _ ⟨⟨wq, hq⟩, rfl⟩
            go_wp2
            go_ret
            exact ⟨ret_bool (unhide HF).symm, hWb.trans (hq.mono (by have := hWb.size; omega))⟩
          · have HS := hide (show okTo zs (k + 1) = true by rw [okTo_succ, unhide HO, stepOk_next (unhide HRn) (by rw [← unhide HT, ← unhide HP]; omega)]; rfl)
            have hd : decide (T ≤ P) = false := by simp; omega
            go_wp2_with fail
            rw [← unhide HW]
            refine region_cls (by kernel_rfl) (by kernel_rfl) ?_
            rw [unhide HWs]
            have hne := cls_nonempty (wr.heap.size + 1) W
            repeat (go_big_quiet_step ((go_at_call 39; exact cls_same (num_is (unhide HI) _))))
            refine wpQuiet_nil ?_
            rintro _ ⟨⟨wq, hq⟩, rfl⟩
            go_wp2
            go_roundw
            case rel => exact ⟨k + 1, by omega, by go_num, HS, hWa.trans (hq.mono (by have := hWa.size; have := unhide HWs; omega))⟩
            case measure => simp [intOf]; omega
    · obtain rfl : k = n := by omega
      have hge : decide ((k : Int) < (k : Int)) = false := by simp
      have HK := hide (show okF zs = true by have := unhide HO; rw [unhide HN] at this; exact this)
      have HF := hide (disk_yes (A := A) (unhide HK) (by omega) (by have := unhide HN; omega))
      go_wp2
      go_ret
      exact ⟨ret_bool (unhide HF).symm, hbw⟩
set_option maxRecDepth 100000 in
set_option maxHeartbeats 4000000 in
theorem spec_disk {w : World} {A B : ByteArray} {v : Value} {zs : List Fil.E} (h : Fil.Is w v zs) (hA : A.size ≤ maxLen) : Calls Try.prog 13 #[.agg #[.string A, .string B, v]] w fun e w' => e = .returned (.bool (diskB A zs)) ∧ Below w.heap.size w w' := by
  obtain ⟨-, a, cap, rfl, hc, hm, -, hr⟩ := h
  unfold maxLen at hm hA
  obtain ⟨n, hn⟩ : ∃ n, n = zs.length := ⟨_, rfl⟩
  rw [← hn] at hc hr ⊢
  have HN := hide hn
  clear hn
  obtain ⟨wa, hwa⟩ : ∃ wa, wa = w.alloc (.cells #[.string A, .string B, .slice a n cap] 40) := ⟨_, rfl⟩
  have ba : Below w.heap.size w wa := by rw [hwa]; exact (Below.refl _ _).alloc (Nat.le_refl _) _
  have za : w.heap.size < wa.heap.size := by rw [hwa]; simp
  have q0 : wa.cell? ⟨w.heap.size, 0, none⟩ = some (.string A) := by rw [hwa]; simp [go_sem]
  have q2 : wa.cell? ⟨w.heap.size, 2, none⟩ = some (.slice a n cap) := by rw [hwa]; simp [go_sem]
  go_enter Try.func13, Try.ntmps13
  go_wp2_with fail
  rw [← hwa]
  clear hwa
  go_loopw [3] (fun i wr => ∃ k : Nat, k ≤ n ∧ i = .int .i64 k ∧ Hid (okTo zs k = true) ∧ Below wa.heap.size wa wr) (fun i _ => n - (intOf i).toNat)
  case atStart => exact ⟨0, Nat.zero_le _, rfl, hide rfl, Below.refl _ _⟩
  case round =>
    obtain ⟨k, hk, rfl, HO, hbel⟩ := hrel
    have hsz := hbel.size
    have hbw : Below w.heap.size w wr := ba.trans (hbel.mono ba.size)
    have p0 : wr.cell? ⟨w.heap.size, 0, none⟩ = some (.string A) := (hbel.cell (p := ⟨_, _, none⟩) za).trans q0
    have p2 : wr.cell? ⟨w.heap.size, 2, none⟩ = some (.slice a n cap) := (hbel.cell (p := ⟨_, _, none⟩) za).trans q2
    by_cases hlt : k < n
    · obtain ⟨b, off, rfl, hbl, hcells⟩ := hr (by omega)
      have hR : ∀ j, j < n → wr.cell? ⟨b, off + j * 2, none⟩ = some (.int .i64 (fat zs j).1) ∧ wr.cell? ⟨b, off + j * 2 + 1, none⟩ = some (.string (fat zs j).2) := fun j hj => ⟨(hbw.cell (p := ⟨b, _, none⟩) hbl).trans (hcells (j * 2) _ (Fil.flat_at zs j (by have := unhide HN; omega)).1), (hbw.cell (p := ⟨b, _, none⟩) hbl).trans (hcells (j * 2 + 1) _ (Fil.flat_at zs j (by have := unhide HN; omega)).2)⟩
      have hc0 := (hR k hlt).1
      have hc1 := (hR k hlt).2
      have hk0 : (0 : Int) ≤ (k : Int) := Int.natCast_nonneg _
      have hk1 : (k : Int) < (n : Int) := by omega
      obtain ⟨T, hT⟩ : ∃ T, T = (fat zs k).1 := ⟨_, rfl⟩
      obtain ⟨X, hX⟩ : ∃ X, X = (fat zs k).2 := ⟨_, rfl⟩
      rw [← hT] at hc0
      rw [← hX] at hc1
      have HT := hide hT
      have HR := hide hR
      clear hT hX hR
      have hq0 : ∀ x : Cls wr.heap.size wr, x.val.cell? ⟨b, off + k * 2, none⟩ = some (.int .i64 T) := fun x => by rw [x.cell (by omega)]; exact hc0
      have hqd : ∀ x : Cls wr.heap.size wr, x.val.cell? ⟨w.heap.size, 2, none⟩ = some (.slice (some ⟨b, off, none⟩) n cap) := fun x => by rw [x.cell (by omega)]; exact p2
      have hne := cls_nonempty wr.heap.size wr
      cases hin : inN T
      · have HF := hide (disk_no_ok (A := A) (ok_of_bad (zs := zs) (k := k) (by have := unhide HN; omega) (stepOk_range (by rw [← unhide HT]; exact hin))))
        have HI := hide hin
        clear hin
        go_wp2_with fail
        refine region_cls (by kernel_rfl) (by kernel_rfl) ?_
        repeat (go_big_quiet_step ((go_at_call 37; exact cls_same (in_is (unhide HI) _))))
        refine wpQuiet_nil ?_
        rintro _ ⟨⟨wq, hq⟩, rfl⟩
        go_wp2
        go_ret
        exact ⟨ret_bool (unhide HF).symm, hbw.trans (hq.mono hbw.size)⟩
      · have HI := hide hin
        have HRn := hide (show inN (fat zs k).1 = true by rw [← unhide HT]; exact hin)
        clear hin
        by_cases hk00 : k = 0
        · have HS := hide (show okTo zs (k + 1) = true by rw [okTo_succ, unhide HO, hk00, stepOk_first (by have := unhide HRn; rwa [hk00] at this)]; rfl)
          have hd : decide (0 < k) = false := by simp; omega
          clear hk00
          go_wp2_with fail
          refine region_cls (by kernel_rfl) (by kernel_rfl) ?_
          repeat (go_big_quiet_step ((go_at_call 37; exact cls_same (in_is (unhide HI) _))))
          refine wpQuiet_nil ?_
          rintro _ ⟨⟨wq, hq⟩, rfl⟩
          go_wp2
          go_roundw
          case rel => exact ⟨k + 1, by omega, by go_num, HS, hbel.trans (hq.mono hsz)⟩
          case measure => simp [intOf]; omega
        · have hkp : 0 < k := by omega
          obtain ⟨P, hP⟩ : ∃ P, P = (fat zs (k - 1)).1 := ⟨_, rfl⟩
          have hp0 : wr.cell? ⟨b, off + (k - 1) * 2, none⟩ = some (.int .i64 P) := by rw [hP]; exact (unhide HR (k - 1) (by omega)).1
          have hqp : ∀ x : Cls wr.heap.size wr, x.val.cell? ⟨b, off + (k - 1) * 2, none⟩ = some (.int .i64 P) := fun x => by rw [x.cell (by omega)]; exact hp0
          have HP := hide hP
          clear hP
          by_cases hlate : T ≤ P
          · have HF := hide (disk_no_ok (A := A) (ok_of_bad (zs := zs) (k := k) (by have := unhide HN; omega) (stepOk_late (by omega) (by rw [← unhide HT, ← unhide HP]; exact hlate))))
            go_wp2_with fail
            refine region_cls (by kernel_rfl) (by kernel_rfl) ?_
            repeat (go_big_quiet_step ((go_at_call 37; exact cls_same (in_is (unhide HI) _))))
            refine wpQuiet_nil ?_
            rintro _ ⟨⟨wq, hq⟩, rfl⟩
            go_wp2
            go_ret
            exact ⟨ret_bool (unhide HF).symm, hbw.trans (hq.mono hbw.size)⟩
          · have HS := hide (show okTo zs (k + 1) = true by rw [okTo_succ, unhide HO, stepOk_next (unhide HRn) (by rw [← unhide HT, ← unhide HP]; omega)]; rfl)
            have hd : decide (T ≤ P) = false := by simp; omega
            go_wp2_with fail
            refine region_cls (by kernel_rfl) (by kernel_rfl) ?_
            repeat (go_big_quiet_step ((go_at_call 37; exact cls_same (in_is (unhide HI) _))))
            refine wpQuiet_nil ?_
            rintro _ ⟨⟨wq, hq⟩, rfl⟩
            go_wp2
            go_roundw
            case rel => exact ⟨k + 1, by omega, by go_num, HS, hbel.trans (hq.mono hsz)⟩
            case measure => simp [intOf]; omega
    · obtain rfl : k = n := by omega
      have hge : decide ((k : Int) < (k : Int)) = false := by simp
      have HK := hide (show okF zs = true by have := unhide HO; rw [unhide HN] at this; exact this)
      by_cases hl : A.size ≤ 100000
      · have hlI : (A.size : Int) ≤ 100000 := by omega
        by_cases hf : k ≤ 240
        · have HF := hide (disk_yes (A := A) (unhide HK) hl (by have := unhide HN; omega))
          have hfI : (k : Int) ≤ 240 := by omega
          go_wp2
          go_ret
          exact ⟨ret_bool (unhide HF).symm, hbw⟩
        · have HF := hide (disk_no_len (A := A) (zs := zs) (by have := unhide HN; omega))
          have hf1 : decide (k ≤ 240) = false := by simp; omega
          have hf2 : decide ((k : Int) ≤ 240) = false := by simp; omega
          go_wp2
          go_ret
          exact ⟨ret_bool (unhide HF).symm, hbw⟩
      · have HF := hide (disk_no_log (zs := zs) (show 100000 < A.size by omega))
        have hl1 : decide (A.size ≤ 100000) = false := by simp; omega
        have hl2 : decide ((A.size : Int) ≤ 100000) = false := by simp; omega
        go_wp2
        go_ret
        exact ⟨ret_bool (unhide HF).symm, hbw⟩
end Go.Proofs.Ytgaecdihjgabaaa.Dsk
