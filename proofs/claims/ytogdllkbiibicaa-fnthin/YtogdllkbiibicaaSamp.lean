/- Slices of samples in memory; SamplesOk, of the program and of the model. -/
import Derived.Test.YtogdllkbiibicaaRw
import Derived.Test.YtogdllkbiibicaaIn
import Derived.Test.YtogdllkbiibicaaSampMath
namespace Go.Proofs.Ytogdllkbiibicaa.Samp
open Go.RowKit SampMath Rw
attribute [local go_sem ↓] Go.wp_at_zero Go.wp_at_succ
/-- A slice of samples that reads as zs: nil, or its cells. -/
def Reads (w : World) (b off : Nat) (zs : List S) : Prop :=
  ∀ i, i < zs.length → w.cell? ⟨b, off + i * 2, none⟩ = some (.int .i64 (at' zs i).1) ∧ w.cell? ⟨b, off + i * 2 + 1, none⟩ = some (.int .i64 (at' zs i).2)
def Smp (w : World) (v : Value) (zs : List S) : Prop :=
  (v = .slice none 0 0 ∧ zs = []) ∨ ∃ b off cap, v = .slice (some ⟨b, off, none⟩) zs.length cap ∧ zs.length ≤ cap ∧ cap ≤ maxLen ∧ b < w.heap.size ∧ Reads w b off zs
theorem Reads.below {w w' : World} {b off : Nat} {zs : List S} (h : Reads w b off zs) (hb : Below w.heap.size w w') (hl : b < w.heap.size) : Reads w' b off zs := fun i hi =>
  ⟨(hb.cell (p := ⟨b, _, none⟩) hl).trans (h i hi).1, (hb.cell (p := ⟨b, _, none⟩) hl).trans (h i hi).2⟩
theorem Smp.below {w w' : World} {v : Value} {zs : List S} (h : Smp w v zs) (hb : Below w.heap.size w w') : Smp w' v zs := by
  rcases h with h | ⟨b, off, cap, h1, h2, h3, h4, h5⟩
  · exact .inl h
  · exact .inr ⟨b, off, cap, h1, h2, h3, by have := hb.size; omega, h5.below hb h4⟩
theorem sampleOk_any (t v : Int) (w : World) :
    Calls Try.prog 64 #[.agg #[.int .i64 t, .int .i64 v]] w fun e w' => e = .returned (.bool (inR t v)) ∧ w' = w.alloc (.cells #[.int .i64 t, .int .i64 v] 41) := by
  rcases (show t < 0 ∨ (0 ≤ t ∧ 9999 < t) ∨ (0 ≤ t ∧ t ≤ 9999 ∧ v < 0) ∨ (0 ≤ t ∧ t ≤ 9999 ∧ 0 ≤ v ∧ 2147483647 < v) ∨ (0 ≤ t ∧ t ≤ 9999 ∧ 0 ≤ v ∧ v ≤ 2147483647) from by omega) with h | ⟨h1, h2⟩ | ⟨h1, h2, h3⟩ | ⟨h1, h2, h3, h4⟩ | ⟨h1, h2, h3, h4⟩
  · have hr := hide (inR_no (t := t) (v := v) (by omega))
    go_enter Try.func64, Try.ntmps64
    go_wp2
    go_ret
    exact ⟨ret_bool (unhide hr).symm, rfl⟩
  · have hr := hide (inR_no (t := t) (v := v) (by omega))
    go_enter Try.func64, Try.ntmps64
    go_wp2
    go_ret
    exact ⟨ret_bool (unhide hr).symm, rfl⟩
  · have hr := hide (inR_no (t := t) (v := v) (by omega))
    go_enter Try.func64, Try.ntmps64
    go_wp2
    go_ret
    exact ⟨ret_bool (unhide hr).symm, rfl⟩
  · have hr := hide (inR_no (t := t) (v := v) (by omega))
    go_enter Try.func64, Try.ntmps64
    go_wp2
    go_ret
    exact ⟨ret_bool (by rw [unhide hr]; exact decide_eq_false (by omega)), rfl⟩
  · have hr := hide (inR_yes (t := t) (v := v) h1 h2 h3 h4)
    go_enter Try.func64, Try.ntmps64
    go_wp2
    go_ret
    exact ⟨ret_bool (unhide hr).symm, rfl⟩
theorem sampleOk_is (t v : Int) (b : Bool) (w : World) (h : inR t v = b) :
    Calls Try.prog 64 #[.agg #[.int .i64 t, .int .i64 v]] w fun e w' => e = .returned (.bool b) ∧ Below w.heap.size w w' := by
  refine (sampleOk_any t v w).mono ?_
  rintro e w' ⟨rfl, rfl⟩
  exact ⟨ret_bool h, (Below.refl _ _).alloc (Nat.le_refl _) _⟩
set_option maxRecDepth 100000 in
set_option maxHeartbeats 1000000 in
theorem impl_ok_some (b off cap : Nat) (zs : List S) (w : World) (hcap : zs.length ≤ cap) (hm : cap ≤ maxLen) (hbl : b < w.heap.size) (hr : Reads w b off zs) :
    Calls Try.prog 38 #[.slice (some ⟨b, off, none⟩) zs.length cap] w fun e w' => e = .returned (.bool (ok zs)) ∧ Below w.heap.size w w' := by
  unfold maxLen at hm
  obtain ⟨n, hn⟩ : ∃ n, n = zs.length := ⟨_, rfl⟩
  rw [← hn]
  have HN := hide hn
  have hn1 : n ≤ cap := by omega
  clear hn hcap
  go_enter Try.func38, Try.ntmps38
  go_wp2
  go_loopw [7] (fun i wr => ∃ k : Nat, k ≤ n ∧ i = .int .i64 k ∧ okTo zs k = true ∧ Below w.heap.size w wr) (fun i _ => n - (intOf i).toNat)
  case atStart => exact ⟨0, Nat.zero_le _, rfl, rfl, Below.refl _ _⟩
  case round =>
    obtain ⟨k, hk, rfl, hok, hbel⟩ := hrel
    have HO := hide hok
    clear hok
    have hsz := hbel.size
    by_cases hlt : k < n
    · have hc0 : wr.cell? ⟨b, off + k * 2, none⟩ = some (.int .i64 (at' zs k).1) := (hbel.cell (p := ⟨b, _, none⟩) hbl).trans (hr k (by have := unhide HN; omega)).1
      have hc1 : wr.cell? ⟨b, off + k * 2 + 1, none⟩ = some (.int .i64 (at' zs k).2) := (hbel.cell (p := ⟨b, _, none⟩) hbl).trans (hr k (by have := unhide HN; omega)).2
      have hk0 : (0 : Int) ≤ (k : Int) := Int.natCast_nonneg _
      have hk1 : (k : Int) < (n : Int) := by omega
      obtain ⟨T, hT⟩ : ∃ T, T = (at' zs k).1 := ⟨_, rfl⟩
      obtain ⟨V, hV⟩ : ∃ V, V = (at' zs k).2 := ⟨_, rfl⟩
      rw [← hT] at hc0
      rw [← hV] at hc1
      have HT := hide hT
      have HV := hide hV
      clear hT hV
      obtain ⟨W, hW⟩ : ∃ W, W = wr.alloc (.cells #[.int .i64 T, .int .i64 V] 41) := ⟨_, rfl⟩
      have hWb : Below w.heap.size w W := by rw [hW]; exact hbel.alloc hsz _
      have hq0 : ∀ x : Cls (wr.heap.size + 1) W, x.val.cell? ⟨wr.heap.size, 0, none⟩ = some (.int .i64 T) := fun x => by rw [x.cell (by omega), hW]; simp
      have hq1 : ∀ x : Cls (wr.heap.size + 1) W, x.val.cell? ⟨wr.heap.size, 1, none⟩ = some (.int .i64 V) := fun x => by rw [x.cell (by omega), hW]; simp
      have HWs := hide (show W.heap.size = wr.heap.size + 1 by rw [hW]; simp)
      have HW := hide hW
      clear hW
      cases hin : inR T V
      · have HF := hide (ok_of_bad (zs := zs) (k := k) (by have := unhide HN; omega) (stepOk_range (by rw [← unhide HT, ← unhide HV]; exact hin)))
        have HI := hide hin
        clear hin
        go_wp2_with fail
        rw [← unhide HW]
        refine region_cls (by kernel_rfl) (by kernel_rfl) ?_
        rw [unhide HWs]
        have hne := cls_nonempty (wr.heap.size + 1) W
        repeat (go_big_quiet_step ((go_at_call 64; exact cls_call (Nat.le_of_eq (unhide HWs).symm) (sampleOk_is _ _ false _ (unhide HI)))))
        refine wpQuiet_nil ?_
        rintro _ ⟨⟨wq, hq⟩, rfl⟩
        go_wp2
        go_ret
        exact ⟨ret_bool (unhide HF).symm, hWb.trans (hq.mono (by have := hWb.size; omega))⟩
      · have HI := hide hin
        have HR := hide (show inR (at' zs k).1 (at' zs k).2 = true by rw [← unhide HT, ← unhide HV]; exact hin)
        clear hin
        by_cases hk00 : k = 0
        · have HS := hide (show okTo zs (k + 1) = true by rw [okTo_succ, unhide HO, hk00, stepOk_first (by have := unhide HR; rwa [hk00] at this)]; rfl)
          have hd : decide (0 < k) = false := by simp; omega
          clear hk00
          go_wp2_with fail
          rw [← unhide HW]
          refine region_cls (by kernel_rfl) (by kernel_rfl) ?_
          rw [unhide HWs]
          have hne := cls_nonempty (wr.heap.size + 1) W
          repeat (go_big_quiet_step ((go_at_call 64; exact cls_call (Nat.le_of_eq (unhide HWs).symm) (sampleOk_is _ _ true _ (unhide HI)))))
          refine wpQuiet_nil ?_
          rintro _ ⟨⟨wq, hq⟩, rfl⟩
          go_wp2
          go_roundw
          case rel => exact ⟨k + 1, by omega, by go_num, unhide HS, hWb.trans (hq.mono (by have := hWb.size; omega))⟩
          case measure => simp [intOf]; omega
        · have hkp : 0 < k := by omega
          obtain ⟨P, hP⟩ : ∃ P, P = (at' zs (k - 1)).1 := ⟨_, rfl⟩
          have hp0 : wr.cell? ⟨b, off + (k - 1) * 2, none⟩ = some (.int .i64 P) := by rw [hP]; exact (hbel.cell (p := ⟨b, _, none⟩) hbl).trans (hr (k - 1) (by have := unhide HN; omega)).1
          have hqp : ∀ x : Cls (wr.heap.size + 1) W, x.val.cell? ⟨b, off + (k - 1) * 2, none⟩ = some (.int .i64 P) := fun x => by rw [x.cell (by omega), unhide HW]; exact (((Below.refl wr.heap.size wr).alloc (Nat.le_refl _) _).cell (p := ⟨b, _, none⟩) (show b < wr.heap.size by omega)).trans hp0
          have HP := hide hP
          clear hP
          by_cases hlate : T ≤ P
          · have HF := hide (ok_of_bad (zs := zs) (k := k) (by have := unhide HN; omega) (stepOk_late (by omega) (by rw [← unhide HT, ← unhide HP]; exact hlate)))
            go_wp2_with fail
            rw [← unhide HW]
            refine region_cls (by kernel_rfl) (by kernel_rfl) ?_
            rw [unhide HWs]
            have hne := cls_nonempty (wr.heap.size + 1) W
            repeat (go_big_quiet_step ((go_at_call 64; exact cls_call (Nat.le_of_eq (unhide HWs).symm) (sampleOk_is _ _ true _ (unhide HI)))))
            refine wpQuiet_nil ?_
            rintro _ ⟨⟨wq, hq⟩, rfl⟩
            go_wp2
            go_ret
            exact ⟨ret_bool (unhide HF).symm, hWb.trans (hq.mono (by have := hWb.size; omega))⟩
          · have HS := hide (show okTo zs (k + 1) = true by rw [okTo_succ, unhide HO, stepOk_next (unhide HR) (by rw [← unhide HT, ← unhide HP]; omega)]; rfl)
            have hd : decide (T ≤ P) = false := by simp; omega
            go_wp2_with fail
            rw [← unhide HW]
            refine region_cls (by kernel_rfl) (by kernel_rfl) ?_
            rw [unhide HWs]
            have hne := cls_nonempty (wr.heap.size + 1) W
            repeat (go_big_quiet_step ((go_at_call 64; exact cls_call (Nat.le_of_eq (unhide HWs).symm) (sampleOk_is _ _ true _ (unhide HI)))))
            refine wpQuiet_nil ?_
            rintro _ ⟨⟨wq, hq⟩, rfl⟩
            go_wp2
            go_roundw
            case rel => exact ⟨k + 1, by omega, by go_num, unhide HS, hWb.trans (hq.mono (by have := hWb.size; omega))⟩
            case measure => simp [intOf]; omega
    · go_wp2
      go_ret
      exact ⟨ret_bool (by unfold ok; rw [← unhide HN, show n = k from by omega]; exact (unhide HO).symm), hbel⟩
end Go.Proofs.Ytogdllkbiibicaa.Samp
