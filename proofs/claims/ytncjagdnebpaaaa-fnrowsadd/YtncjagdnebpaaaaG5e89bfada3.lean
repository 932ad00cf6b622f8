/- My own texts of one claim, laid together by program: Samp, Samp2, SampFlat, DrawSamp. -/
import Derived.Test.YtncjagdnebpaaaaGffb30f2161
import Derived.Test.YtncjagdnebpaaaaG9e2f2919bc
/- Slices of samples in memory; SamplesOk, of the program and of the model. -/
namespace Go.Proofs.Ytncjagdnebpaaaa.Samp
open Go.RowKit SampMath Rw
attribute [local go_sem ↓] Go.wp_at_zero Go.wp_at_succ
/-- A slice of samples that reads as zs: nil, or its cells. -/
def Reads (w : World) (b off : Nat) (zs : List S) : Prop :=
  ∀ i, i < zs.length → w.cell? ⟨b, off + i * 2, none⟩ = some (.int .i64 (at' zs i).1) ∧ w.cell? ⟨b, off + i * 2 + 1, none⟩ = some (.int .i64 (at' zs i).2)
def Smp (w : World) (v : Value) (zs : List S) : Prop :=
  (v = .slice none 0 0 ∧ zs = []) ∨ ∃ b off cap, v = .slice (some ⟨b, off, none⟩) zs.length cap ∧ zs.length ≤ cap ∧ cap ≤ maxLen ∧ b < w.heap.size ∧ Reads w b off zs
theorem Reads.below {w w' : World} {b off : Nat} {zs : List S} (h : Reads w b off zs) (hb : Below w.heap.size w w') (hl : b < w.heap.size) : Reads w' b off zs := fun i hi =>
  ⟨(hb.cell (p := ⟨b, _, none⟩) hl).trans (h i hi).1, (hb.cell (p := ⟨b, _, none⟩) hl).trans (h i hi).2⟩
theorem Smp.below {w w' : World} {v : Value} {zs : List S} (h : Smp w v zs) (hb : Below w.heap.size w w') : Smp w' v zs := by
  rcases h with h | ⟨b, off, cap, h1, h2, h3, h4, h5⟩
  · exact .inl h
  · exact .inr ⟨b, off, cap, h1, h2, h3, by have := hb.size; omega, h5.below hb h4⟩
theorem sampleOk_any (t v : Int) (w : World) :
    Calls Try.prog 20 #[.agg #[.int .i64 t, .int .i64 v]] w fun e w' => e = .returned (.bool (inR t v)) ∧ w' = w.alloc (.cells #[.int .i64 t, .int .i64 v] 26) := by
  rcases (show t < 0 ∨ (0 ≤ t ∧ 9999 < t) ∨ (0 ≤ t ∧ t ≤ 9999 ∧ v < 0) ∨ (0 ≤ t ∧ t ≤ 9999 ∧ 0 ≤ v ∧ 2147483647 < v) ∨ (0 ≤ t ∧ t ≤ 9999 ∧ 0 ≤ v ∧ v ≤ 2147483647) from by omega) with h | ⟨h1, h2⟩ | ⟨h1, h2, h3⟩ | ⟨h1, h2, h3, h4⟩ | ⟨h1, h2, h3, h4⟩
  · have hr := hide (inR_no (t := t) (v := v) (by omega))
    go_enter Try.func20, Try.ntmps20
    go_wp2
    go_ret
    exact ⟨ret_bool (unhide hr).symm, rfl⟩
  · have hr := hide (inR_no (t := t) (v := v) (by omega))
    go_enter Try.func20, Try.ntmps20
    go_wp2
    go_ret
    exact ⟨ret_bool (unhide hr).symm, rfl⟩
  · have hr := hide (inR_no (t := t) (v := v) (by omega))
    go_enter Try.func20, Try.ntmps20
    go_wp2
    go_ret
    exact ⟨ret_bool (unhide hr).symm, rfl⟩
  · have hr := hide (inR_no (t := t) (v := v) (by omega))
    go_enter Try.func20, Try.ntmps20
    go_wp2
    go_ret
    exact ⟨ret_bool (by rw [unhide hr]; exact decide_eq_false (by omega)), rfl⟩
  · have hr := hide (inR_yes (t := t) (v := v) h1 h2 h3 h4)
    go_enter Try.func20, Try.ntmps20
    go_wp2
    go_ret
    exact ⟨ret_bool (unhide hr).symm, rfl⟩
theorem sampleOk_is (t v : Int) (b : Bool) (w : World) (h : inR t v = b) :
    Calls Try.prog 20 #[.agg #[.int .i64 t, .int .i64 v]] w fun e w' => e = .returned (.bool b) ∧ Below w.heap.size w w' := by
  refine (sampleOk_any t v w).mono ?_
  rintro e w' ⟨rfl, rfl⟩
  exact ⟨ret_bool h, (Below.refl _ _).alloc (Nat.le_refl _) _⟩
set_option maxRecDepth 100000 in
set_option maxHeartbeats 1000000 in
theorem impl_ok_some (b off cap : Nat) (zs : List S) (w : World) (hcap : zs.length ≤ cap) (hm : cap ≤ maxLen) (hbl : b < w.heap.size) (hr : Reads w b off zs) :
    Calls Try.prog 30 #[.slice (some ⟨b, off, none⟩) zs.length cap] w fun e w' => e = .returned (.bool (ok zs)) ∧ Below w.heap.size w w' := by
  unfold maxLen at hm
  obtain ⟨n, hn⟩ : ∃ n, n = zs.length := ⟨_, rfl⟩
  rw [← hn]
  have HN := hide hn
  have hn1 : n ≤ cap := by omega
  clear hn hcap
  go_enter Try.func30, Try.ntmps30
  go_wp2
  go_loopw [7] (fun i wr => ∃ k : Nat, k ≤ n ∧ i = .int .i64 k ∧ okTo zs k = true ∧ Below w.heap.size w wr) (fun i _ => n - (intOf i).toNat)
  case atStart => exact ⟨0, Nat.zero_le _, rfl, rfl, Below.refl _ _⟩
  case round =>
    obtain ⟨k, hk, rfl, hok, hbel⟩ := hrel
    have HO := hide hok
    clear hok
    have hsz := hbel.size
    by_cases hlt : k < n
    · have hc0 : wr.cell? ⟨b, off + k * 2, none⟩ = some (.int .i64 (at' zs k).1) := (hbel.cell (p := ⟨b, _, none⟩) hbl).trans (hr k (by have := unhide HN; omega)).1
      have hc1 : wr.cell? ⟨b, off + k * 2 + 1, none⟩ = some (.int .i64 (at' zs k).2) := (hbel.cell (p := ⟨b, _, none⟩) hbl).trans (hr k (by have := unhide HN; omega)).2
      have hk0 : (0 : Int) ≤ (k : Int) := Int.natCast_nonneg _
      have hk1 : (k : Int) < (n : Int) := by omega
      obtain ⟨T, hT⟩ : ∃ T, T = (at' zs k).1 := ⟨_, rfl⟩
      obtain ⟨V, hV⟩ : ∃ V, V = (at' zs k).2 := ⟨_, rfl⟩
      rw [← hT] at hc0
      rw [← hV] at hc1
      have HT := hide hT
      have HV := hide hV
      clear hT hV
      obtain ⟨W, hW⟩ : ∃ W, W = wr.alloc (.cells #[.int .i64 T, .int .i64 V] 26) := ⟨_, rfl⟩
      have hWb : Below w.heap.size w W := by rw [hW]; exact hbel.alloc hsz _
      have hq0 : ∀ x : Cls (wr.heap.size + 1) W, x.val.cell? ⟨wr.heap.size, 0, none⟩ = some (.int .i64 T) := fun x => by rw [x.cell (by omega), hW]; simp
      have hq1 : ∀ x : Cls (wr.heap.size + 1) W, x.val.cell? ⟨wr.heap.size, 1, none⟩ = some (.int .i64 V) := fun x => by rw [x.cell (by omega), hW]; simp
      have HWs := hide (show W.heap.size = wr.heap.size + 1 by rw [hW]; simp)
      have HW := hide hW
      clear hW
      cases hin : inR T V
      · have HF := hide (ok_of_bad (zs := zs) (k := k) (by have := unhide HN; omega) (stepOk_range (by rw [← unhide HT, ← unhide HV]; exact hin)))
        have HI := hide hin
        clear hin
        go_wp2_with fail
        rw [← unhide HW]
        refine region_cls (by kernel_rfl) (by kernel_rfl) ?_
        rw [unhide HWs]
        have hne := cls_nonempty (wr.heap.size + 1) W
        repeat (go_big_quiet_step ((go_at_call 20; exact cls_call (Nat.le_of_eq (unhide HWs).symm) (sampleOk_is _ _ false _ (unhide HI)))))
        refine wpQuiet_nil ?_
        rintro _ ⟨⟨wq, hq⟩, rfl⟩
        go_wp2
        go_ret
        exact ⟨ret_bool (unhide HF).symm, hWb.trans (hq.mono (by have := hWb.size; omega))⟩
      · have HI := hide hin
        have HR := hide (show inR (at' zs k).1 (at' zs k).2 = true by rw [← unhide HT, ← unhide HV]; exact hin)
        clear hin
        by_cases hk00 : k = 0
        · have HS := hide (show okTo zs (k + 1) = true by rw [okTo_succ, unhide HO, hk00, stepOk_first (by have := unhide HR; rwa [hk00] at this)]; rfl)
          have hd : decide (0 < k) = false := by simp; omega
          clear hk00
          go_wp2_with fail
          rw [← unhide HW]
          refine region_cls (by kernel_rfl) (by kernel_rfl) ?_
          rw [unhide HWs]
          have hne := cls_nonempty (wr.heap.size + 1) W
          repeat (go_big_quiet_step ((go_at_call 20; exact cls_call (Nat.le_of_eq (unhide HWs).symm) (sampleOk_is _ _ true _ (unhide HI)))))
          refine wpQuiet_nil ?_
          rintro _ ⟨⟨wq, hq⟩, rfl⟩
          go_wp2
          go_roundw
          case rel => exact ⟨k + 1, by omega, by go_num, unhide HS, hWb.trans (hq.mono (by have := hWb.size; omega))⟩
          case measure => simp [intOf]; omega
        · have hkp : 0 < k := by omega
          obtain ⟨P, hP⟩ : ∃ P, P = (at' zs (k - 1)).1 := ⟨_, rfl⟩
          have hp0 : wr.cell? ⟨b, off + (k - 1) * 2, none⟩ = some (.int .i64 P) := by rw [hP]; exact (hbel.cell (p := ⟨b, _, none⟩) hbl).trans (hr (k - 1) (by have := unhide HN; omega)).1
          have hqp : ∀ x : Cls (wr.heap.size + 1) W, x.val.cell? ⟨b, off + (k - 1) * 2, none⟩ = some (.int .i64 P) := fun x => by rw [x.cell (by omega), unhide HW]; exact (((Below.refl wr.heap.size wr).alloc (Nat.le_refl _) _).cell (p := ⟨b, _, none⟩) (show b < wr.heap.size by omega)).trans hp0
          have HP := hide hP
          clear hP
          by_cases hlate : T ≤ P
          · have HF := hide (ok_of_bad (zs := zs) (k := k) (by have := unhide HN; omega) (stepOk_late (by omega) (by rw [← unhide HT, ← unhide HP]; exact hlate)))
            go_wp2_with fail
            rw [← unhide HW]
            refine region_cls (by kernel_rfl) (by kernel_rfl) ?_
            rw [unhide HWs]
            have hne := cls_nonempty (wr.heap.size + 1) W
            repeat (go_big_quiet_step ((go_at_call 20; exact cls_call (Nat.le_of_eq (unhide HWs).symm) (sampleOk_is _ _ true _ (unhide HI)))))
            refine wpQuiet_nil ?_
            rintro _ ⟨⟨wq, hq⟩, rfl⟩
            go_wp2
            go_ret
            exact ⟨ret_bool (unhide HF).symm, hWb.trans (hq.mono (by have := hWb.size; omega))⟩
          · have HS := hide (show okTo zs (k + 1) = true by rw [okTo_succ, unhide HO, stepOk_next (unhide HR) (by rw [← unhide HT, ← unhide HP]; omega)]; rfl)
            have hd : decide (T ≤ P) = false := by simp; omega
            go_wp2_with fail
            rw [← unhide HW]
            refine region_cls (by kernel_rfl) (by kernel_rfl) ?_
            rw [unhide HWs]
            have hne := cls_nonempty (wr.heap.size + 1) W
            repeat (go_big_quiet_step ((go_at_call 20; exact cls_call (Nat.le_of_eq (unhide HWs).symm) (sampleOk_is _ _ true _ (unhide HI)))))
            refine wpQuiet_nil ?_
            rintro _ ⟨⟨wq, hq⟩, rfl⟩
            go_wp2
            go_roundw
            case rel => exact ⟨k + 1, by omega, by go_num, unhide HS, hWb.trans (hq.mono (by have := hWb.size; omega))⟩
            case measure => simp [intOf]; omega
    · go_wp2
      go_ret
      exact ⟨ret_bool (by unfold ok; rw [← unhide HN, show n = k from by omega]; exact (unhide HO).symm), hbel⟩
end Go.Proofs.Ytncjagdnebpaaaa.Samp

/- SamplesOk of the model; both at every slice of samples. -/
namespace Go.Proofs.Ytncjagdnebpaaaa.Samp
open Go.RowKit SampMath Rw
attribute [local go_sem ↓] Go.wp_at_zero Go.wp_at_succ
theorem in_is (n lo hi : Int) (b : Bool) (w : World) (h : Zig.inB n lo hi = b) : Calls Try.prog 31 #[.int .i64 n, .int .i64 lo, .int .i64 hi] w fun e w' => e = .returned (.bool b) ∧ w' = w := by
  rw [← h]; exact Zig.in_any n lo hi w
theorem inB_true {n lo hi : Int} (h1 : lo ≤ n) (h2 : n ≤ hi) : Zig.inB n lo hi = true := by unfold Zig.inB; rw [decide_eq_true h1, decide_eq_true h2]; rfl
theorem inB_false {n lo hi : Int} (h : n < lo ∨ hi < n) : Zig.inB n lo hi = false := by
  unfold Zig.inB
  rcases h with h | h
  · rw [decide_eq_false (by omega), Bool.false_and]
  · rw [decide_eq_false (show ¬ n ≤ hi by omega), Bool.and_false]
set_option maxRecDepth 100000 in
set_option maxHeartbeats 1000000 in
theorem spec_ok_some (b off cap : Nat) (zs : List S) (w : World) (hcap : zs.length ≤ cap) (hm : cap ≤ maxLen) (hbl : b < w.heap.size) (hr : Reads w b off zs) :
    Calls Try.prog 24 #[.slice (some ⟨b, off, none⟩) zs.length cap] w fun e w' => e = .returned (.bool (ok zs)) ∧ Below w.heap.size w w' := by
  unfold maxLen at hm
  obtain ⟨n, hn⟩ : ∃ n, n = zs.length := ⟨_, rfl⟩
  rw [← hn]
  have HN := hide hn
  have hn1 : n ≤ cap := by omega
  clear hn hcap
  go_enter Try.func24, Try.ntmps24
  go_wp2
  go_loopw [3] (fun i wr => ∃ k : Nat, k ≤ n ∧ i = .int .i64 k ∧ okTo zs k = true ∧ Below w.heap.size w wr) (fun i _ => n - (intOf i).toNat)
  case atStart => exact ⟨0, Nat.zero_le _, rfl, rfl, Below.refl _ _⟩
  case round =>
    obtain ⟨k, hk, rfl, hok, hbel⟩ := hrel
    have HO := hide hok
    clear hok
    have hsz := hbel.size
    by_cases hlt : k < n
    · obtain ⟨T, hT⟩ : ∃ T, T = (at' zs k).1 := ⟨_, rfl⟩
      obtain ⟨V, hV⟩ : ∃ V, V = (at' zs k).2 := ⟨_, rfl⟩
      have hq0 : ∀ x : Cls wr.heap.size wr, x.val.cell? ⟨b, off + k * 2, none⟩ = some (.int .i64 T) := fun x => by rw [x.cell (by omega), hT]; exact (hbel.cell (p := ⟨b, _, none⟩) hbl).trans (hr k (by have := unhide HN; omega)).1
      have hq1 : ∀ x : Cls wr.heap.size wr, x.val.cell? ⟨b, off + k * 2 + 1, none⟩ = some (.int .i64 V) := fun x => by rw [x.cell (by omega), hV]; exact (hbel.cell (p := ⟨b, _, none⟩) hbl).trans (hr k (by have := unhide HN; omega)).2
      have hk0 : (0 : Int) ≤ (k : Int) := Int.natCast_nonneg _
      have hk1 : (k : Int) < (n : Int) := by omega
      have HT := hide hT
      have HV := hide hV
      clear hT hV
      have hne := cls_nonempty wr.heap.size wr
      by_cases hTr : 0 ≤ T ∧ T ≤ 9999
      · have HT9 := hide (inB_true hTr.1 hTr.2)
        by_cases hVr : 0 ≤ V ∧ V ≤ 2147483647
        · have HV9 := hide (inB_true hVr.1 hVr.2)
          have HR := hide (show inR (at' zs k).1 (at' zs k).2 = true by rw [← unhide HT, ← unhide HV]; exact inR_yes hTr.1 hTr.2 hVr.1 hVr.2)
          clear hTr hVr
          by_cases hk00 : k = 0
          · have HS := hide (show okTo zs (k + 1) = true by rw [okTo_succ, unhide HO, hk00, stepOk_first (by have := unhide HR; rwa [hk00] at this)]; rfl)
            have hd : decide (0 < k) = false := by simp; omega
            clear hk00
            go_wp2_with fail
            refine region_cls (by kernel_rfl) (by kernel_rfl) ?_
            repeat (go_big_quiet_step (((first | (go_at_call_of 31 (9999 : Int); exact cls_same (in_is _ _ _ true _ (unhide HT9))) | (go_at_call_of 31 (2147483647 : Int); exact cls_same (in_is _ _ _ true _ (unhide HV9)))))))
            refine wpQuiet_nil ?_
            rintro _ ⟨⟨wq, hq⟩, rfl⟩
            go_wp2
            go_roundw
            case rel => exact ⟨k + 1, by omega, by go_num, unhide HS, hbel.trans (hq.mono hsz)⟩
            case measure => simp [intOf]; omega
          · have hkp : 0 < k := by omega
            obtain ⟨P, hP⟩ : ∃ P, P = (at' zs (k - 1)).1 := ⟨_, rfl⟩
            have hqp : ∀ x : Cls wr.heap.size wr, x.val.cell? ⟨b, off + (k - 1) * 2, none⟩ = some (.int .i64 P) := fun x => by rw [x.cell (by omega), hP]; exact (hbel.cell (p := ⟨b, _, none⟩) hbl).trans (hr (k - 1) (by have := unhide HN; omega)).1
            have HP := hide hP
            clear hP
            by_cases hlate : T ≤ P
            · have HF := hide (ok_of_bad (zs := zs) (k := k) (by have := unhide HN; omega) (stepOk_late (by omega) (by rw [← unhide HT, ← unhide HP]; exact hlate)))
              go_wp2_with fail
              refine region_cls (by kernel_rfl) (by kernel_rfl) ?_
              repeat (go_big_quiet_step (((first | (go_at_call_of 31 (9999 : Int); exact cls_same (in_is _ _ _ true _ (unhide HT9))) | (go_at_call_of 31 (2147483647 : Int); exact cls_same (in_is _ _ _ true _ (unhide HV9)))))))
              refine wpQuiet_nil ?_
              rintro _ ⟨⟨wq, hq⟩, rfl⟩
              go_wp2
              go_ret
              exact ⟨ret_bool (unhide HF).symm, hbel.trans (hq.mono hsz)⟩
            · have HS := hide (show okTo zs (k + 1) = true by rw [okTo_succ, unhide HO, stepOk_next (unhide HR) (by rw [← unhide HT, ← unhide HP]; omega)]; rfl)
              have hd : decide (T ≤ P) = false := by simp; omega
              go_wp2_with fail
              refine region_cls (by kernel_rfl) (by kernel_rfl) ?_
              repeat (go_big_quiet_step (((first | (go_at_call_of 31 (9999 : Int); exact cls_same (in_is _ _ _ true _ (unhide HT9))) | (go_at_call_of 31 (2147483647 : Int); exact cls_same (in_is _ _ _ true _ (unhide HV9)))))))
              refine wpQuiet_nil ?_
              rintro _ ⟨⟨wq, hq⟩, rfl⟩
              go_wp2
              go_roundw
              case rel => exact ⟨k + 1, by omega, by go_num, unhide HS, hbel.trans (hq.mono hsz)⟩
              case measure => simp [intOf]; omega
        · have HV9 := hide (inB_false (n := V) (lo := 0) (hi := 2147483647) (by omega))
          have HF := hide (ok_of_bad (zs := zs) (k := k) (by have := unhide HN; omega) (stepOk_range (by rw [← unhide HT, ← unhide HV]; exact inR_no (by omega))))
          clear hTr hVr
          go_wp2_with fail
          refine region_cls (by kernel_rfl) (by kernel_rfl) ?_
          repeat (go_big_quiet_step (((first | (go_at_call_of 31 (9999 : Int); exact cls_same (in_is _ _ _ true _ (unhide HT9))) | (go_at_call_of 31 (2147483647 : Int); exact cls_same (in_is _ _ _ false _ (unhide HV9)))))))
          refine wpQuiet_nil ?_
          rintro _ ⟨⟨wq, hq⟩, rfl⟩
          go_wp2
          go_ret
          exact ⟨ret_bool (unhide HF).symm, hbel.trans (hq.mono hsz)⟩
      · have HT9 := hide (inB_false (n := T) (lo := 0) (hi := 9999) (by omega))
        have HV9 := hide (rfl : Zig.inB V 0 2147483647 = Zig.inB V 0 2147483647)
        have HF := hide (ok_of_bad (zs := zs) (k := k) (by have := unhide HN; omega) (stepOk_range (by rw [← unhide HT, ← unhide HV]; exact inR_no (by omega))))
        clear hTr
        go_wp2_with fail
        refine region_cls (by kernel_rfl) (by kernel_rfl) ?_
        repeat (go_big_quiet_step (((first | (go_at_call_of 31 (9999 : Int); exact cls_same (in_is _ _ _ false _ (unhide HT9))) | (go_at_call_of 31 (2147483647 : Int); exact cls_same (in_is _ _ _ _ _ (unhide HV9)))))))
        refine wpQuiet_nil ?_
        rintro _ ⟨⟨wq, hq⟩, rfl⟩
        go_wp2
        go_ret
        exact ⟨ret_bool (unhide HF).symm, hbel.trans (hq.mono hsz)⟩
    · go_wp2
      go_ret
      exact ⟨ret_bool (by unfold ok; rw [← unhide HN, show n = k from by omega]; exact (unhide HO).symm), hbel⟩
theorem impl_ok_nil (w : World) : Calls Try.prog 30 #[.slice none 0 0] w fun e w' => e = .returned (.bool (ok [])) ∧ Below w.heap.size w w' := by
  go_enter Try.func30, Try.ntmps30
  go_wp2
  refine wp_loop_rounds 1 ?_
  rw [rounds_succ]
  go_wp2
  go_ret
  exact ⟨rfl, Below.refl _ _⟩
theorem spec_ok_nil (w : World) : Calls Try.prog 24 #[.slice none 0 0] w fun e w' => e = .returned (.bool (ok [])) ∧ Below w.heap.size w w' := by
  go_enter Try.func24, Try.ntmps24
  go_wp2
  refine wp_loop_rounds 1 ?_
  rw [rounds_succ]
  go_wp2
  go_ret
  exact ⟨rfl, Below.refl _ _⟩
theorem impl_ok {w : World} {v : Value} {zs : List S} (h : Smp w v zs) : Calls Try.prog 30 #[v] w fun e w' => e = .returned (.bool (ok zs)) ∧ Below w.heap.size w w' := by
  rcases h with ⟨rfl, rfl⟩ | ⟨b, off, cap, rfl, h2, h3, h4, h5⟩
  · exact impl_ok_nil w
  · exact impl_ok_some b off cap zs w h2 h3 h4 h5
theorem l2ok {w : World} {v : Value} {zs : List S} (h : Smp w v zs) : Calls Try.prog 24 #[v] w fun e w' => e = .returned (.bool (ok zs)) ∧ Below w.heap.size w w' := by
  rcases h with ⟨rfl, rfl⟩ | ⟨b, off, cap, rfl, h2, h3, h4, h5⟩
  · exact spec_ok_nil w
  · exact spec_ok_some b off cap zs w h2 h3 h4 h5
end Go.Proofs.Ytncjagdnebpaaaa.Samp

/- Samples as cells, one behind the other. No condition. -/
namespace Go.Proofs.Ytncjagdnebpaaaa.Samp
open Go.RowKit SampMath Rw
set_option linter.unusedVariables false
/-- the cells of samples, one behind the other -/
def flat (zs : List S) : List Value := zs.flatMap fun x => [.int .i64 x.1, .int .i64 x.2]
theorem flat_nil : flat [] = [] := rfl
theorem flat_append (a b : List S) : flat (a ++ b) = flat a ++ flat b := by simp [flat]
theorem flat_one (x : S) : flat [x] = [.int .i64 x.1, .int .i64 x.2] := rfl
theorem flat_length (zs : List S) : (flat zs).length = zs.length * 2 := by
  induction zs with
  | nil => rfl
  | cons x zs ih => show (Value.int .i64 x.1 :: Value.int .i64 x.2 :: flat zs).length = _; simp only [List.length_cons, ih]; omega
theorem flat_get : ∀ (zs : List S) (i : Nat), i < zs.length → (flat zs)[i * 2]? = some (.int .i64 (at' zs i).1) ∧ (flat zs)[i * 2 + 1]? = some (.int .i64 (at' zs i).2)
  | x :: zs, 0, _ => ⟨rfl, rfl⟩
  | x :: zs, i + 1, h => by
    have := flat_get zs i (by simpa using h)
    have e1 : (i + 1) * 2 = i * 2 + 1 + 1 := by omega
    show (Value.int .i64 x.1 :: Value.int .i64 x.2 :: flat zs)[(i + 1) * 2]? = _ ∧ (Value.int .i64 x.1 :: Value.int .i64 x.2 :: flat zs)[(i + 1) * 2 + 1]? = _
    rw [e1]
    simpa [at', List.getD] using this
theorem flat_oneCell (zs : List S) : ∀ u ∈ flat zs, u.oneCell' = true := by
  intro u hu
  obtain ⟨x, _, hx⟩ := List.mem_flatMap.1 hu
  simp only [List.mem_cons, List.not_mem_nil, or_false] at hx
  rcases hx with rfl | rfl <;> rfl
/-- a row of the call's own that holds samples -/
theorem smp_of_own {w : World} {base : Nat} {v : Value} {zs : List S} (h : w.ownsRow base 26 2 v zs.length (flat zs)) : Smp w v zs := by
  rcases h.2 with ⟨h1, h2⟩ | ⟨g, cap, cur, rfl, hb, hg, h3, h4, h5, h6⟩
  · exact .inl ⟨h1, List.eq_nil_of_length_eq_zero h2⟩
  · have hlt : g < w.heap.size := by
      rcases Nat.lt_or_ge g w.heap.size with hl | hl
      · exact hl
      · rw [Array.getElem?_eq_none hl] at hg; cases hg
    refine .inr ⟨g, 0, cap, rfl, h3, h4, hlt, fun i hi => ?_⟩
    have c0 := h.cellAt (i * 2) (by omega)
    have c1 := h.cellAt (i * 2 + 1) (by omega)
    rw [(flat_get zs i hi).1] at c0
    rw [(flat_get zs i hi).2] at c1
    exact ⟨by rw [Nat.zero_add]; exact c0, by rw [Nat.zero_add]; exact c1⟩
theorem pairs_at {w : World} {a : Option Addr} {len cap : Nat} {z : List S} (h : IsPairs w a len cap z) :
    len ≤ cap ∧ cap ≤ maxLen ∧ (z.take len).length = len ∧ (len = 0 ∨ ∃ b off, a = some ⟨b, off, none⟩ ∧ b < w.heap.size ∧ Reads w b off (z.take len)) := by
  rcases h with ⟨rfl, rfl, rfl, rfl⟩ | ⟨x, rfl, h1, h2, h3, h4, _⟩
  · exact ⟨Nat.le_refl _, Nat.zero_le _, rfl, .inl rfl⟩
  · refine ⟨h1, h2, by simp; omega, ?_⟩
    by_cases h0 : len = 0
    · exact .inl h0
    · right
      obtain ⟨b, off, spot⟩ := x
      have c0 := (h4 0 (by omega)).1
      have hspot : spot = none := by simpa [Addr.add] using World.cell?_spot c0
      subst hspot
      refine ⟨b, off, rfl, World.block_lt_of_cell? w ⟨b, _, none⟩ c0, fun i hi => ?_⟩
      have hi' : i < len := by simp at hi; omega
      have e : at' (z.take len) i = z.getD i (0, 0) := by simp [at', List.getD, hi']
      rw [e, ← Go.WideShapes.add_plain, show off + i * 2 + 1 = off + (i * 2 + 1) from rfl, ← Go.WideShapes.add_plain]
      exact h4 i (by omega)
theorem set_two (A : List Value) (u0 u1 x y : Value) (B : List Value) (k : Nat) (h : A.length = k) : ((A ++ u0 :: u1 :: B).set k x).set (k + 1) y = A ++ [x, y] ++ B := by
  subst h
  rw [List.set_append_right _ _ (Nat.le_refl _), Nat.sub_self, List.set_cons_zero, List.set_append_right _ _ (by omega), show A.length + 1 - A.length = 1 from by omega]
  simp
theorem split_two (r : List Value) (n : Nat) (h : r.length = (n + 1) * 2) : ∃ u0 u1 B, r = u0 :: u1 :: B ∧ B.length = n * 2 := by
  match r, h with
  | u0 :: u1 :: B, h => exact ⟨u0, u1, B, rfl, by simp only [List.length_cons] at h; omega⟩
  | [_], h => simp at h; omega
  | [], h => simp at h
end Go.Proofs.Ytncjagdnebpaaaa.Samp

/- Samples are drawn. -/
namespace Go.Proofs.Ytncjagdnebpaaaa.Draw
open Go.RowKit Samp SampMath Rw
set_option linter.unusedVariables false
attribute [local go_sem ↓] Go.wp_at_zero Go.wp_at_succ
set_option maxRecDepth 100000 in
set_option maxHeartbeats 2000000 in
theorem value_any (rb p : Nat) (w : World) (h : Rd w rb p) (hp : p ≤ 800000) :
    Calls Try.prog 15 #[.pointer (some ⟨rb, 0, none⟩)] w fun e w' => ∃ x : Int, e = .returned (.int .i64 x) ∧ 0 ≤ x ∧ x ≤ 2147483647 ∧ Rd w' rb (p + 6) ∧ w.grownBy w' (some rb) := by
  have HR := hide h
  clear h
  go_enter Try.func15, Try.ntmps15
  go_wp2_with fail
  refine (pick_any rb p _ _ (unhide HR) (by omega) (by omega)).mono ?_
  rintro e w1 ⟨x, rfl, x0, x1, -, r1, g1⟩
  have x2 : x < 10 := x1 (by omega)
  clear x1 HR
  go_wp2_with fail
  refine (big_any rb (p + 1) 16777216 _ r1 (by omega) (by omega) (by omega)).mono ?_
  rintro e w2 ⟨y, rfl, y2, r2, g2⟩
  have q2 := grown_trans g1 g2
  clear r1 g1 g2
  go_wp2_with fail
  refine (pick_any rb (p + 1 + 3) _ _ r2 (by omega) (by omega)).mono ?_
  rintro e w3 ⟨z, rfl, z0, z1, -, r3, g3⟩
  have z2 : z < 4 := z1 (by omega)
  have q3 := grown_trans q2 g3
  clear z1 r2 q2 g3
  go_wp2_with fail
  have hone := one_new rb (p + 1 + 3 + 1) [x, (y : Int), 2147483647, 0, 1073741824, z * 1000] _ r3 (by omega) (by simp) (by simp)
  simp only [List.map_cons, List.map_nil, List.length_cons, List.length_nil, Nat.zero_add, Nat.reduceAdd] at hone
  refine hone.mono ?_
  clear hone
  rintro e w4 ⟨u, rfl, hu, r4, g4⟩
  have u0 : 0 ≤ u ∧ u ≤ 2147483647 := by
    simp only [List.mem_cons, List.not_mem_nil, or_false] at hu
    omega
  have q4 := grown_trans q3 g4
  clear hu
  go_wp2
  go_ret
  exact ⟨u, rfl, u0.1, u0.2, r4, q4⟩
set_option maxRecDepth 100000 in
set_option maxHeartbeats 4000000 in
theorem samples_any (rb p most : Nat) (w : World) (h : Rd w rb p) (hp : p ≤ 700000) (hmost : most ≤ 1000) :
    Calls Try.prog 53 #[.pointer (some ⟨rb, 0, none⟩), .int .i64 most] w fun e w' => ∃ (zs : List S) (g cp : Nat), e = .returned (.slice (some ⟨g, 0, none⟩) zs.length cp) ∧ zs.length ≤ most ∧ w'.ownsRow w.heap.size 26 2 (.slice (some ⟨g, 0, none⟩) zs.length cp) zs.length (flat zs) ∧ (∃ p', p' ≤ p + 9 + 8 * most ∧ Rd w' rb p') ∧ w.grownBy w' (some rb) := by
  obtain ⟨i0, hi, hz0, hz1, hz2⟩ := info_parts info_sample
  have hrl := h.lt
  have HR := hide h
  clear h
  go_enter Try.func53, Try.ntmps53
  go_wp2_with fail
  refine (pick_any rb p _ _ ((unhide HR).below ((Below.refl _ _).alloc (Nat.le_refl _) _)) (by omega) (by omega)).mono ?_
  rintro e w1 ⟨x, rfl, x0, x1, -, r1, g1⟩
  have x2 : x < 300 := x1 (by omega)
  have o1 := own_kept (own_empty (w := w) (base := w.heap.size) (e := 26) (size := 2) (Nat.le_refl _)) g1 hrl
  have q1 : w.grownBy w1 (some rb) := grown_trans (grown_below ((Below.refl _ _).alloc (Nat.le_refl _) _)) g1
  clear x1 HR g1
  go_wp2_with fail
  have hone := one_new rb (p + 1) [0, x, 9000, 5000] _ r1 (by omega) (by simp) (by simp)
  simp only [List.map_cons, List.map_nil, List.length_cons, List.length_nil, Nat.zero_add, Nat.reduceAdd] at hone
  refine hone.mono ?_
  clear hone
  rintro e w2 ⟨t, rfl, ht, r2, g2⟩
  have t0 : 0 ≤ t ∧ t ≤ 9000 := by
    simp only [List.mem_cons, List.not_mem_nil, or_false] at ht
    omega
  have o2 := own_kept o1 g2 hrl
  have q2 := grown_trans q1 g2
  clear ht o1 q1 r1 g2
  go_wp2_with fail
  refine (value_any rb (p + 1 + 1) _ r2 (by omega)).mono ?_
  rintro e w3 ⟨v, rfl, v0, v1, r3, g3⟩
  have o3 := own_kept o2 g3 hrl
  have q3 := grown_trans q2 g3
  clear o2 q2 r2 g3
  go_wp2_with fail
  refine (pick_any rb (p + 1 + 1 + 6) _ _ r3 (by omega) (by omega)).mono ?_
  rintro e w4 ⟨n, rfl, n0, n1, -, r4, g4⟩
  have n2 : n < (most : Int) + 1 := n1 (by omega)
  have o4 := own_kept o3 g4 hrl
  have q4 := grown_trans q3 g4
  clear o3 q3 r3 g4 n1
  go_wp2_with fail
  go_loopw [5, 6, 7, 8] (fun ov tv vv nv wr => ∃ (k : Nat) (L : List S) (p' g cp : Nat) (T V : Int), nv = .int .i64 (k : Int) ∧ L.length + k ≤ most ∧ p' ≤ p + 9 + 8 * L.length ∧ ov = .slice (some ⟨g, 0, none⟩) L.length cp ∧ tv = .int .i64 T ∧ vv = .int .i64 V ∧ 0 ≤ T ∧ T ≤ 20000 ∧ wr.ownsRow w.heap.size 26 2 ov L.length (flat L) ∧ Rd wr rb p' ∧ w.grownBy wr (some rb)) (fun _ _ _ nv _ => (intOf nv).toNat)
  case atStart => exact ⟨n.toNat, [], p + 1 + 1 + 6 + 1, w.heap.size, 0, t, v, by rw [Int.toNat_of_nonneg n0], by simp; omega, by simp, rfl, rfl, rfl, t0.1, by omega, o4, r4, q4⟩
  case round =>
    clear o4 q4 r4
    obtain ⟨k, L, p', g, cp, T, V, rfl, hk, hp', rfl, rfl, rfl, hT0, hT1, hown, hrd, hg⟩ := hrel
    have hsz := hg.size
    by_cases hk0 : 0 < k
    · have hk1 : (0 : Int) < (k : Int) := by omega
      by_cases hT9 : T ≤ 9999
      · go_wp2_with (at_builtin; refine wpList_append_lies _ rfl _ _ _ rfl w.heap.size 26 i0 _ 2 16 Try.underlying42 hi hz0 hz1 hz2 rfl (by omega) _ L.length _ rfl (hown.alloc _) _ 1 1 [.int .i64 T, .int .i64 V] rfl rfl (World.news_of_block (cs := #[.int .i64 T, .int .i64 V]) (t := 26) (fr := (0, 0)) (heap_alloc_new _ _)) (by simp [Value.oneCell']) (by omega) (by unfold maxLen; omega) (by omega) (by simp; omega) _ rfl ?_; intro gg cap2 w9 hown2 hgrow hat hlt2)
        have ge := own_ge hown
        have gA : wr.grownBy (wr.alloc (.cells #[.int .i64 T, .int .i64 V] 26)) (some rb) := grown_below ((Below.refl _ _).alloc (Nat.le_refl _) _)
        have R : w.grownBy w9 (some rb) := grown_other (grown_trans hg gA) hgrow ge
        have R1 : Rd w9 rb p' := (hrd.below ((Below.refl _ _).alloc (Nat.le_refl _) _)).grown hgrow (fun k hk => by have := ge k hk; omega)
        have R2 : w9.ownsRow w.heap.size 26 2 (.slice (some ⟨gg, 0, none⟩) (L.length + 1) cap2) (L ++ [(T, V)]).length (flat (L ++ [(T, V)])) := by
          rw [List.length_append, flat_append]; exact hown2
        clear hown2 hgrow ge gA hown hg hrd
        have hone := one_new rb p' [1, 1, 10, 10, 10, 63, 64, 65, 130, 700] _ R1 (by omega) (by simp) (by simp)
        simp only [List.map_cons, List.map_nil, List.length_cons, List.length_nil, Nat.zero_add, Nat.reduceAdd] at hone
        refine hone.mono ?_
        clear hone
        rintro e w5 ⟨d, rfl, hd, r5, g5⟩
        have d0 : 1 ≤ d ∧ d ≤ 700 := by
          simp only [List.mem_cons, List.not_mem_nil, or_false] at hd
          omega
        obtain ⟨d1, d2⟩ := d0
        have o5 := own_kept R2 g5 hrl
        have q5 := grown_trans R g5
        clear hd R R1 R2 g5
        go_wp2_with fail
        refine (pick_any rb (p' + 1) _ _ r5 (by omega) (by omega)).mono ?_
        rintro e w6 ⟨m, rfl, m0, m1, -, r6, g6⟩
        have o6 := own_kept o5 g6 hrl
        have q6 := grown_trans q5 g6
        clear o5 q5 r5 g6 m1
        by_cases hm : 0 < m
        · go_wp2_with fail
          refine (value_any rb (p' + 1 + 1) _ r6 (by omega)).mono ?_
          rintro e w7 ⟨v', rfl, v0', v1', r7, g7⟩
          have o7 := own_kept o6 g7 hrl
          have q7 := grown_trans q6 g7
          have HO := hide o7
          clear o6 q6 r6 g7 o7
          go_wp2
          go_roundw
          case rel => exact ⟨k - 1, L ++ [(T, V)], p' + 1 + 1 + 6, gg, cap2, T + d, v', by go_num, by simp; omega, by simp; omega, by simp, by go_num, rfl, by omega, by omega, by simpa using unhide HO, r7, q7⟩
          case measure => simp [intOf]; omega
        · have HO := hide o6
          clear o6
          go_wp2
          go_roundw
          case rel => exact ⟨k - 1, L ++ [(T, V)], p' + 1 + 1, gg, cap2, T + d, V, by go_num, by simp; omega, by simp; omega, by simp, by go_num, rfl, by omega, by omega, by simpa using unhide HO, r6, q6⟩
          case measure => simp [intOf]; omega
      · go_wp2
        go_ret
        exact ⟨L, g, cp, rfl, by omega, hown, ⟨p', by omega, hrd⟩, hg⟩
    · go_wp2
      go_ret
      exact ⟨L, g, cp, rfl, by omega, hown, ⟨p', by omega, hrd⟩, hg⟩
end Go.Proofs.Ytncjagdnebpaaaa.Draw
