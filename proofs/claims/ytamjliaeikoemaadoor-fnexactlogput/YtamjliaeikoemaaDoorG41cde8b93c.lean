/- My own texts of one claim, laid together by program: In, SampMath, Samp, Samp2. -/
import Derived.Test.YtamjliaeikoemaaDoorG32791d0450
import Derived.Test.YtamjliaeikoemaaDoorGdc7c71843d
/- Whether a number lies between two others: spec.l1In. No condition. -/
namespace Go.Proofs.YtamjliaeikoemaaDoor.Zig
open Go.RowKit
def inB (n lo hi : Int) : Bool := decide (lo ≤ n) && decide (n ≤ hi)
theorem in_yes (n lo hi : Int) (w : World) (h1 : lo ≤ n) (h2 : n ≤ hi) : Calls Tryd.prog 24 #[.int .i64 n, .int .i64 lo, .int .i64 hi] w fun e w' => e = .returned (.bool true) ∧ w' = w := by
  go_enter Tryd.func24, Tryd.ntmps24
  go_wp2
  go_ret
  exact ⟨rfl, rfl⟩
theorem in_low (n lo hi : Int) (w : World) (h1 : n < lo) : Calls Tryd.prog 24 #[.int .i64 n, .int .i64 lo, .int .i64 hi] w fun e w' => e = .returned (.bool false) ∧ w' = w := by
  go_enter Tryd.func24, Tryd.ntmps24
  go_wp2
  go_ret
  exact ⟨rfl, rfl⟩
theorem in_high (n lo hi : Int) (w : World) (h0 : lo ≤ n) (h1 : hi < n) : Calls Tryd.prog 24 #[.int .i64 n, .int .i64 lo, .int .i64 hi] w fun e w' => e = .returned (.bool false) ∧ w' = w := by
  go_enter Tryd.func24, Tryd.ntmps24
  go_wp2
  go_ret
  exact ⟨ret_bool (by simpa using h1), rfl⟩
theorem in_any (n lo hi : Int) (w : World) : Calls Tryd.prog 24 #[.int .i64 n, .int .i64 lo, .int .i64 hi] w fun e w' => e = .returned (.bool (inB n lo hi)) ∧ w' = w := by
  unfold inB
  by_cases h1 : lo ≤ n
  · by_cases h2 : n ≤ hi
    · rw [decide_eq_true h1, decide_eq_true h2]; exact in_yes n lo hi w h1 h2
    · rw [decide_eq_false h2, Bool.and_false]; exact in_high n lo hi w h1 (by omega)
  · rw [decide_eq_false h1, Bool.false_and]; exact in_low n lo hi w (by omega)
end Go.Proofs.YtamjliaeikoemaaDoor.Zig

/- Samples, as plain mathematics: when they are ok, what is cut of them, what both are together. No condition. -/
namespace Go.Proofs.YtamjliaeikoemaaDoor.SampMath
abbrev S := Int × Int
def inR (t v : Int) : Bool := decide (0 ≤ t) && decide (t ≤ 9999) && (decide (0 ≤ v) && decide (v ≤ 2147483647))
def at' (zs : List S) (i : Nat) : S := zs.getD i (0, 0)
def stepOk (zs : List S) (i : Nat) : Bool := inR (at' zs i).1 (at' zs i).2 && (i == 0 || decide ((at' zs (i - 1)).1 < (at' zs i).1))
def okTo (zs : List S) (k : Nat) : Bool := (List.range k).all (stepOk zs)
def ok (zs : List S) : Bool := okTo zs zs.length

theorem inR_yes {t v : Int} (h1 : 0 ≤ t) (h2 : t ≤ 9999) (h3 : 0 ≤ v) (h4 : v ≤ 2147483647) : inR t v = true := by simp [inR, h1, h2, h3, h4]
theorem inR_iff {t v : Int} : inR t v = true ↔ 0 ≤ t ∧ t ≤ 9999 ∧ 0 ≤ v ∧ v ≤ 2147483647 := by simp [inR, and_assoc]
theorem inR_no {t v : Int} (h : t < 0 ∨ 9999 < t ∨ v < 0 ∨ 2147483647 < v) : inR t v = false := by
  rw [Bool.eq_false_iff]; intro e; rw [inR_iff] at e; omega
theorem okTo_zero (zs : List S) : okTo zs 0 = true := rfl
theorem okTo_succ (zs : List S) (k : Nat) : okTo zs (k + 1) = (okTo zs k && stepOk zs k) := by simp [okTo, List.range_succ]
theorem ok_of_bad {zs : List S} {k : Nat} (hk : k < zs.length) (h : stepOk zs k = false) : ok zs = false := by
  unfold ok okTo
  rw [List.all_eq_false]
  exact ⟨k, List.mem_range.2 hk, by simp [h]⟩
theorem stepOk_first {zs : List S} (h : inR (at' zs 0).1 (at' zs 0).2 = true) : stepOk zs 0 = true := by simp [stepOk, h]
theorem stepOk_next {zs : List S} {k : Nat} (h : inR (at' zs k).1 (at' zs k).2 = true) (h' : (at' zs (k - 1)).1 < (at' zs k).1) : stepOk zs k = true := by simp [stepOk, h, h']
theorem stepOk_range {zs : List S} {k : Nat} (h : inR (at' zs k).1 (at' zs k).2 = false) : stepOk zs k = false := by simp [stepOk, h]
theorem stepOk_late {zs : List S} {k : Nat} (hk : 0 < k) (h' : (at' zs k).1 ≤ (at' zs (k - 1)).1) : stepOk zs k = false := by
  have h0 : (k == 0) = false := by simp; omega
  simp [stepOk, h0]
  intro _
  exact h'
theorem ok_at {zs : List S} (h : ok zs = true) {k : Nat} (hk : k < zs.length) : stepOk zs k = true := by
  unfold ok okTo at h
  exact List.all_eq_true.1 h k (List.mem_range.2 hk)
theorem ok_range {zs : List S} (h : ok zs = true) {k : Nat} (hk : k < zs.length) : 0 ≤ (at' zs k).1 ∧ (at' zs k).1 ≤ 9999 ∧ 0 ≤ (at' zs k).2 ∧ (at' zs k).2 ≤ 2147483647 := by
  have := ok_at h hk
  unfold stepOk at this
  rw [Bool.and_eq_true] at this
  exact inR_iff.1 this.1
theorem ok_step {zs : List S} (h : ok zs = true) {k : Nat} (hk : k + 1 < zs.length) : (at' zs k).1 < (at' zs (k + 1)).1 := by
  have := ok_at h hk
  unfold stepOk at this
  rw [Bool.and_eq_true] at this
  simpa using this.2
theorem ok_lt {zs : List S} (h : ok zs = true) {i j : Nat} (hij : i < j) (hj : j < zs.length) : (at' zs i).1 < (at' zs j).1 := by
  induction j with
  | zero => omega
  | succ j ih =>
    have h1 := ok_step h hj
    by_cases e : i = j
    · subst e; exact h1
    · have := ih (by omega) (by omega); omega
/-- the cells of samples, one behind the other -/
theorem at_snoc (zs : List S) (k : Nat) (h : k < zs.length) : zs.take (k + 1) = zs.take k ++ [at' zs k] := by
  rw [List.take_succ_eq_append_getElem h]; simp [at', List.getD, h]
end Go.Proofs.YtamjliaeikoemaaDoor.SampMath

/- Slices of samples in memory; SamplesOk, of the program and of the model. -/
namespace Go.Proofs.YtamjliaeikoemaaDoor.Samp
open Go.RowKit SampMath Rw
attribute [local go_sem ↓] Go.wp_at_zero Go.wp_at_succ
/-- A slice of samples that reads as zs: nil, or its cells. -/
def Reads (w : World) (b off : Nat) (zs : List S) : Prop :=
  ∀ i, i < zs.length → w.cell? ⟨b, off + i * 2, none⟩ = some (.int .i64 (at' zs i).1) ∧ w.cell? ⟨b, off + i * 2 + 1, none⟩ = some (.int .i64 (at' zs i).2)
def Smp (w : World) (v : Value) (zs : List S) : Prop :=
  (v = .slice none 0 0 ∧ zs = []) ∨ ∃ b off cap, v = .slice (some ⟨b, off, none⟩) zs.length cap ∧ zs.length ≤ cap ∧ cap ≤ maxLen ∧ b < w.heap.size ∧ Reads w b off zs
theorem Reads.below {w w' : World} {b off : Nat} {zs : List S} (h : Reads w b off zs) (hb : Below w.heap.size w w') (hl : b < w.heap.size) : Reads w' b off zs := fun i hi =>
  ⟨(hb.cell (p := ⟨b, _, none⟩) hl).trans (h i hi).1, (hb.cell (p := ⟨b, _, none⟩) hl).trans (h i hi).2⟩
theorem Smp.below {w w' : World} {v : Value} {zs : List S} (h : Smp w v zs) (hb : Below w.heap.size w w') : Smp w' v zs := by
  rcases h with h | ⟨b, off, cap, h1, h2, h3, h4, h5⟩
  · exact .inl h
  · exact .inr ⟨b, off, cap, h1, h2, h3, by have := hb.size; omega, h5.below hb h4⟩
theorem sampleOk_any (t v : Int) (w : World) :
    Calls Tryd.prog 59 #[.agg #[.int .i64 t, .int .i64 v]] w fun e w' => e = .returned (.bool (inR t v)) ∧ w' = w.alloc (.cells #[.int .i64 t, .int .i64 v] 90) := by
  rcases (show t < 0 ∨ (0 ≤ t ∧ 9999 < t) ∨ (0 ≤ t ∧ t ≤ 9999 ∧ v < 0) ∨ (0 ≤ t ∧ t ≤ 9999 ∧ 0 ≤ v ∧ 2147483647 < v) ∨ (0 ≤ t ∧ t ≤ 9999 ∧ 0 ≤ v ∧ v ≤ 2147483647) from by omega) with h | ⟨h1, h2⟩ | ⟨h1, h2, h3⟩ | ⟨h1, h2, h3, h4⟩ | ⟨h1, h2, h3, h4⟩
  · have hr := hide (inR_no (t := t) (v := v) (by omega))
    go_enter Tryd.func59, Tryd.ntmps59
    go_wp2
    go_ret
    exact ⟨ret_bool (unhide hr).symm, rfl⟩
  · have hr := hide (inR_no (t := t) (v := v) (by omega))
    go_enter Tryd.func59, Tryd.ntmps59
    go_wp2
    go_ret
    exact ⟨ret_bool (unhide hr).symm, rfl⟩
  · have hr := hide (inR_no (t := t) (v := v) (by omega))
    go_enter Tryd.func59, Tryd.ntmps59
    go_wp2
    go_ret
    exact ⟨ret_bool (unhide hr).symm, rfl⟩
  · have hr := hide (inR_no (t := t) (v := v) (by omega))
    go_enter Tryd.func59, Tryd.ntmps59
    go_wp2
    go_ret
    exact ⟨ret_bool (by rw [unhide hr]; exact decide_eq_false (by omega)), rfl⟩
  · have hr := hide (inR_yes (t := t) (v := v) h1 h2 h3 h4)
    go_enter Tryd.func59, Tryd.ntmps59
    go_wp2
    go_ret
    exact ⟨ret_bool (unhide hr).symm, rfl⟩
theorem sampleOk_is (t v : Int) (b : Bool) (w : World) (h : inR t v = b) :
    Calls Tryd.prog 59 #[.agg #[.int .i64 t, .int .i64 v]] w fun e w' => e = .returned (.bool b) ∧ Below w.heap.size w w' := by
  refine (sampleOk_any t v w).mono ?_
  rintro e w' ⟨rfl, rfl⟩
  exact ⟨ret_bool h, (Below.refl _ _).alloc (Nat.le_refl _) _⟩
end Go.Proofs.YtamjliaeikoemaaDoor.Samp

/- SamplesOk of the model; both at every slice of samples. -/
namespace Go.Proofs.YtamjliaeikoemaaDoor.Samp
open Go.RowKit SampMath Rw
attribute [local go_sem ↓] Go.wp_at_zero Go.wp_at_succ
theorem in_is (n lo hi : Int) (b : Bool) (w : World) (h : Zig.inB n lo hi = b) : Calls Tryd.prog 24 #[.int .i64 n, .int .i64 lo, .int .i64 hi] w fun e w' => e = .returned (.bool b) ∧ w' = w := by
  rw [← h]; exact Zig.in_any n lo hi w
theorem inB_true {n lo hi : Int} (h1 : lo ≤ n) (h2 : n ≤ hi) : Zig.inB n lo hi = true := by unfold Zig.inB; rw [decide_eq_true h1, decide_eq_true h2]; rfl
theorem inB_false {n lo hi : Int} (h : n < lo ∨ hi < n) : Zig.inB n lo hi = false := by
  unfold Zig.inB
  rcases h with h | h
  · rw [decide_eq_false (by omega), Bool.false_and]
  · rw [decide_eq_false (show ¬ n ≤ hi by omega), Bool.and_false]
set_option maxRecDepth 100000 in
set_option maxHeartbeats 1000000 in
theorem spec_ok_some (b off cap : Nat) (zs : List S) (w : World) (hcap : zs.length ≤ cap) (hm : cap ≤ maxLen) (hbl : b < w.heap.size) (hr : Reads w b off zs) :
    Calls Tryd.prog 53 #[.slice (some ⟨b, off, none⟩) zs.length cap] w fun e w' => e = .returned (.bool (ok zs)) ∧ Below w.heap.size w w' := by
  unfold maxLen at hm
  obtain ⟨n, hn⟩ : ∃ n, n = zs.length := ⟨_, rfl⟩
  rw [← hn]
  have HN := hide hn
  have hn1 : n ≤ cap := by omega
  clear hn hcap
  go_enter Tryd.func53, Tryd.ntmps53
  go_wp2
  go_loopw [3] (fun i wr => ∃ k : Nat, k ≤ n ∧ i = .int .i64 k ∧ okTo zs k = true ∧ Below w.heap.size w wr) (fun i _ => n - (intOf i).toNat)
  case atStart => exact ⟨0, Nat.zero_le _, rfl, rfl, Below.refl _ _⟩
  case round =>
    obtain ⟨k, hk, rfl, hok, hbel⟩ := hrel
    have HO := hide hok
    clear hok
    have hsz := hbel.size
    by_cases hlt : k < n
    · obtain ⟨T, hT⟩ : ∃ T, T = (at' zs k).1 := ⟨_, rfl⟩
      obtain ⟨V, hV⟩ : ∃ V, V = (at' zs k).2 := ⟨_, rfl⟩
      have hq0 : ∀ x : Cls wr.heap.size wr, x.val.cell? ⟨b, off + k * 2, none⟩ = some (.int .i64 T) := fun x => by rw [x.cell (by omega), hT]; exact (hbel.cell (p := ⟨b, _, none⟩) hbl).trans (hr k (by have := unhide HN; omega)).1
      have hq1 : ∀ x : Cls wr.heap.size wr, x.val.cell? ⟨b, off + k * 2 + 1, none⟩ = some (.int .i64 V) := fun x => by rw [x.cell (by omega), hV]; exact (hbel.cell (p := ⟨b, _, none⟩) hbl).trans (hr k (by have := unhide HN; omega)).2
      have hk0 : (0 : Int) ≤ (k : Int) := Int.natCast_nonneg _
      have hk1 : (k : Int) < (n : Int) := by omega
      have HT := hide hT
      have HV := hide hV
      clear hT hV
      have hne := cls_nonempty wr.heap.size wr
      by_cases hTr : 0 ≤ T ∧ T ≤ 9999
      · have HT9 := hide (inB_true hTr.1 hTr.2)
        by_cases hVr : 0 ≤ V ∧ V ≤ 2147483647
        · have HV9 := hide (inB_true hVr.1 hVr.2)
          have HR := hide (show inR (at' zs k).1 (at' zs k).2 = true by rw [← unhide HT, ← unhide HV]; exact inR_yes hTr.1 hTr.2 hVr.1 hVr.2)
          clear hTr hVr
          by_cases hk00 : k = 0
          · have HS := hide (show okTo zs (k + 1) = true by rw [okTo_succ, unhide HO, hk00, stepOk_first (by have := unhide HR; rwa [hk00] at this)]; rfl)
            have hd : decide (0 < k) = false := by simp; omega
            clear hk00
            go_wp2_with fail
            refine region_cls (by kernel_rfl) (by kernel_rfl) ?_
            repeat (go_big_quiet_step (((first | (go_at_call_of 24 (9999 : Int); exact cls_same (in_is _ _ _ true _ (unhide HT9))) | (go_at_call_of 24 (2147483647 : Int); exact cls_same (in_is _ _ _ true _ (unhide HV9)))))))
            refine wpQuiet_nil ?_
            rintro _ ⟨⟨wq, hq⟩, rfl⟩
            go_wp2
            go_roundw
            case rel => exact ⟨k + 1, by omega, by go_num, unhide HS, hbel.trans (hq.mono hsz)⟩
            case measure => simp [intOf]; omega
          · have hkp : 0 < k := by omega
            obtain ⟨P, hP⟩ : ∃ P, P = (at' zs (k - 1)).1 := ⟨_, rfl⟩
            have hqp : ∀ x : Cls wr.heap.size wr, x.val.cell? ⟨b, off + (k - 1) * 2, none⟩ = some (.int .i64 P) := fun x => by rw [x.cell (by omega), hP]; exact (hbel.cell (p := ⟨b, _, none⟩) hbl).trans (hr (k - 1) (by have := unhide HN; omega)).1
            have HP := hide hP
            clear hP
            by_cases hlate : T ≤ P
            · have HF := hide (ok_of_bad (zs := zs) (k := k) (by have := unhide HN; omega) (stepOk_late (by omega) (by rw [← unhide HT, ← unhide HP]; exact hlate)))
              go_wp2_with fail
              refine region_cls (by kernel_rfl) (by kernel_rfl) ?_
              repeat (go_big_quiet_step (((first | (go_at_call_of 24 (9999 : Int); exact cls_same (in_is _ _ _ true _ (unhide HT9))) | (go_at_call_of 24 (2147483647 : Int); exact cls_same (in_is _ _ _ true _ (unhide HV9)))))))
              refine wpQuiet_nil ?_
              rintro _ ⟨⟨wq, hq⟩, rfl⟩
              go_wp2
              go_ret
              exact ⟨ret_bool (unhide HF).symm, hbel.trans (hq.mono hsz)⟩
            · have HS := hide (show okTo zs (k + 1) = true by rw [okTo_succ, unhide HO, stepOk_next (unhide HR) (by rw [← unhide HT, ← unhide HP]; omega)]; rfl)
              have hd : decide (T ≤ P) = false := by simp; omega
              go_wp2_with fail
              refine region_cls (by kernel_rfl) (by kernel_rfl) ?_
              repeat (go_big_quiet_step (((first | (go_at_call_of 24 (9999 : Int); exact cls_same (in_is _ _ _ true _ (unhide HT9))) | (go_at_call_of 24 (2147483647 : Int); exact cls_same (in_is _ _ _ true _ (unhide HV9)))))))
              refine wpQuiet_nil ?_
              rintro _ ⟨⟨wq, hq⟩, rfl⟩
              go_wp2
              go_roundw
              case rel => exact ⟨k + 1, by omega, by go_num, unhide HS, hbel.trans (hq.mono hsz)⟩
              case measure => simp [intOf]; omega
        · have HV9 := hide (inB_false (n := V) (lo := 0) (hi := 2147483647) (by omega))
          have HF := hide (ok_of_bad (zs := zs) (k := k) (by have := unhide HN; omega) (stepOk_range (by rw [← unhide HT, ← unhide HV]; exact inR_no (by omega))))
          clear hTr hVr
          go_wp2_with fail
          refine region_cls (by kernel_rfl) (by kernel_rfl) ?_
          repeat (go_big_quiet_step (((first | (go_at_call_of 24 (9999 : Int); exact cls_same (in_is _ _ _ true _ (unhide HT9))) | (go_at_call_of 24 (2147483647 : Int); exact cls_same (in_is _ _ _ false _ (unhide HV9)))))))
          refine wpQuiet_nil ?_
          rintro _ ⟨⟨wq, hq⟩, rfl⟩
          go_wp2
          go_ret
          exact ⟨ret_bool (unhide HF).symm, hbel.trans (hq.mono hsz)⟩
      · have HT9 := hide (inB_false (n := T) (lo := 0) (hi := 9999) (by omega))
        have HV9 := hide (rfl : Zig.inB V 0 2147483647 = Zig.inB V 0 2147483647)
        have HF := hide (ok_of_bad (zs := zs) (k := k) (by have := unhide HN; omega) (stepOk_range (by rw [← unhide HT, ← unhide HV]; exact inR_no (by omega))))
        clear hTr
        go_wp2_with fail
        refine region_cls (by kernel_rfl) (by kernel_rfl) ?_
        repeat (go_big_quiet_step (((first | (go_at_call_of 24 (9999 : Int); exact cls_same (in_is _ _ _ false _ (unhide HT9))) | (go_at_call_of 24 (2147483647 : Int); exact cls_same (in_is _ _ _ _ _ (unhide HV9)))))))
        refine wpQuiet_nil ?_
        rintro _ ⟨⟨wq, hq⟩, rfl⟩
        go_wp2
        go_ret
        exact ⟨ret_bool (unhide HF).symm, hbel.trans (hq.mono hsz)⟩
    · go_wp2
      go_ret
      exact ⟨ret_bool (by unfold ok; rw [← unhide HN, show n = k from by omega]; exact (unhide HO).symm), hbel⟩
theorem spec_ok_nil (w : World) : Calls Tryd.prog 53 #[.slice none 0 0] w fun e w' => e = .returned (.bool (ok [])) ∧ Below w.heap.size w w' := by
  go_enter Tryd.func53, Tryd.ntmps53
  go_wp2
  refine wp_loop_rounds 1 ?_
  rw [rounds_succ]
  go_wp2
  go_ret
  exact ⟨rfl, Below.refl _ _⟩
theorem l2ok {w : World} {v : Value} {zs : List S} (h : Smp w v zs) : Calls Tryd.prog 53 #[v] w fun e w' => e = .returned (.bool (ok zs)) ∧ Below w.heap.size w w' := by
  rcases h with ⟨rfl, rfl⟩ | ⟨b, off, cap, rfl, h2, h3, h4, h5⟩
  · exact spec_ok_nil w
  · exact spec_ok_some b off cap zs w h2 h3 h4 h5
end Go.Proofs.YtamjliaeikoemaaDoor.Samp
