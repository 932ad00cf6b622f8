/- My own texts of one claim, laid together by program: SamOk, RecBatch, TabEnds, LabCmp. -/
import Derived.Test.YtamjliaeikoemaaDoorG41cde8b93c
import Derived.Test.YtamjliaeikoemaaDoorG57b88db0fb
import Derived.Test.YtamjliaeikoemaaDoorG71b593df2f
import Derived.Test.YtamjliaeikoemaaDoorG78c638bd78
import Derived.Deep.RegionWith
/- SamplesOk, of the program and of the model, at slices of samples whose address is open. -/
namespace Go.Proofs.YtamjliaeikoemaaDoor.Sam
open Go.RowKit Rw
set_option linter.unusedVariables false
attribute [local go_sem ↓] Go.wp_at_zero Go.wp_at_succ
theorem reads_of {w : World} {b off : Nat} {zs : List E} (hc : ∀ (j : Nat) u, (flat zs)[j]? = some u → w.cell? ⟨b, off + j, none⟩ = some u) : Samp.Reads w b off zs := fun i hi =>
  ⟨hc (i * 2) _ (flat_at zs i hi).1, hc (i * 2 + 1) _ (flat_at zs i hi).2⟩
theorem spec_ok_zero (a : Option Addr) (cap : Nat) (w : World) : Calls Tryd.prog 53 #[.slice a 0 cap] w fun e w' => e = .returned (.bool (SampMath.ok [])) ∧ Below w.heap.size w w' := by
  go_enter Tryd.func53, Tryd.ntmps53
  go_wp2
  refine wp_loop_rounds 1 ?_
  rw [rounds_succ]
  go_wp2
  go_ret
  exact ⟨rfl, Below.refl _ _⟩
theorem l2ok {w : World} {v : Value} {zs : List E} (h : Is w v zs) : Calls Tryd.prog 53 #[v] w fun e w' => e = .returned (.bool (SampMath.ok zs)) ∧ Below w.heap.size w w' := by
  obtain ⟨-, a, cap, rfl, hc, hm, -, hr⟩ := h
  by_cases h0 : zs.length = 0
  · obtain rfl : zs = [] := List.eq_nil_of_length_eq_zero h0
    exact spec_ok_zero a cap w
  · obtain ⟨b, off, rfl, hl, hcells⟩ := hr (by omega)
    exact Samp.spec_ok_some b off cap zs w hc hm hl (reads_of hcells)
end Go.Proofs.YtamjliaeikoemaaDoor.Sam

/- Times and batches of records: of the program and of the model. -/
namespace Go.Proofs.YtamjliaeikoemaaDoor.Rec
open Go.RowKit Rw
set_option linter.unusedVariables false
attribute [local go_sem ↓] Go.wp_at_zero Go.wp_at_succ
theorem impl_times (f t : Int) (w : World) : Calls Tryd.prog 39 #[.int .i64 f, .int .i64 t] w fun e w' => e = .returned (.bool (timesB f t)) ∧ w' = w := by
  by_cases h1 : 0 ≤ f
  · skip
    by_cases h2 : f ≤ 9999
    · skip
      by_cases h3 : f ≤ t
      · skip
        by_cases h4 : t ≤ 10000
        · skip
          have HR := hide (times_yes h1 h2 h3 h4)
          go_enter Tryd.func39, Tryd.ntmps39
          go_wp2
          go_ret
          exact ⟨ret_bool (unhide HR).symm, rfl⟩
        · skip
          have HR := hide (times_no (f := f) (t := t) (by omega))
          go_enter Tryd.func39, Tryd.ntmps39
          go_wp2
          go_ret
          exact ⟨ret_bool (unhide HR).symm, rfl⟩
      · skip
        have HR := hide (times_no (f := f) (t := t) (by omega))
        go_enter Tryd.func39, Tryd.ntmps39
        go_wp2
        go_ret
        exact ⟨ret_bool (unhide HR).symm, rfl⟩
    · skip
      have HR := hide (times_no (f := f) (t := t) (by omega))
      go_enter Tryd.func39, Tryd.ntmps39
      go_wp2
      go_ret
      exact ⟨ret_bool (unhide HR).symm, rfl⟩
  · skip
    have HR := hide (times_no (f := f) (t := t) (by omega))
    go_enter Tryd.func39, Tryd.ntmps39
    go_wp2
    go_ret
    exact ⟨ret_bool (unhide HR).symm, rfl⟩
theorem spec_times (f t : Int) (w : World) : Calls Tryd.prog 31 #[.int .i64 f, .int .i64 t] w fun e w' => e = .returned (.bool (timesB f t)) ∧ w' = w := by
  cases h1 : Zig.inB f 0 9999
  · have HR := hide (show timesB f t = false by unfold timesB; rw [h1]; rfl)
    have I1 := hide h1
    clear h1
    go_enter Tryd.func31, Tryd.ntmps31
    go_wp2_with fail
    refine (Samp.in_is f 0 9999 _ _ (unhide I1)).mono ?_
    rintro e v1 ⟨rfl, rfl⟩
    go_wp2_with fail
    go_ret
    exact ⟨ret_bool (unhide HR).symm, rfl⟩
  · have HR := hide (show timesB f t = Zig.inB t f 10000 by unfold timesB; rw [h1]; rfl)
    have I1 := hide h1
    clear h1
    go_enter Tryd.func31, Tryd.ntmps31
    go_wp2_with fail
    refine (Samp.in_is f 0 9999 _ _ (unhide I1)).mono ?_
    rintro e v1 ⟨rfl, rfl⟩
    go_wp2_with fail
    refine (Zig.in_any t f 10000 _).mono ?_
    rintro e v2 ⟨rfl, rfl⟩
    go_wp2_with fail
    go_ret
    exact ⟨ret_bool (unhide HR).symm, rfl⟩
end Go.Proofs.YtamjliaeikoemaaDoor.Rec
namespace Go.Proofs.YtamjliaeikoemaaDoor.Ent
open Go.RowKit Rw
set_option linter.unusedVariables false
attribute [local go_sem ↓] Go.wp_at_zero Go.wp_at_succ
theorem sample_any (v : Value) (T V : Int) (w : World) : Calls Tryd.prog 60 #[.agg #[v, .int .i64 T, .int .i64 V]] w fun e w' => e = .returned (.agg #[.int .i64 T, .int .i64 V]) ∧ Below w.heap.size w w' := by
  have B := ((Below.refl w.heap.size w).alloc (Nat.le_refl _) (.cells #[v, .int .i64 T, .int .i64 V] 62)).alloc (by simp) (.cells #[.int .i64 0, .int .i64 0] 90)
  have B1 := B.setCell (p := ⟨w.heap.size + 1, 0, none⟩) (by show w.heap.size ≤ w.heap.size + 1; omega) (.int .i64 T)
  have B2 := B1.setCell (p := ⟨w.heap.size + 1, 1, none⟩) (by show w.heap.size ≤ w.heap.size + 1; omega) (.int .i64 V)
  go_enter Tryd.func60, Tryd.ntmps60
  go_wp2
  refine bodyPost_ret (v := .agg #[.int .i64 T, .int .i64 V]) (by simp [results, Tryd.results60, go_sem]) rfl ⟨rfl, ?_⟩
  first | exact B2 | exact ((Below.refl w.heap.size w).alloc (Nat.le_refl _) _).alloc (by simp) _
set_option maxRecDepth 100000 in
set_option maxHeartbeats 8000000 in
theorem impl_batch {w : World} {v : Value} {zs : List E} (h : Is w v zs) (hg : ∀ x ∈ zs, good x) : Calls Tryd.prog 37 #[v] w fun e w' => e = .returned (.bool (batchB zs)) ∧ Below w.heap.size w w' := by
  obtain ⟨cs, hcs, hL, hE⟩ := h
  have HE := hide hE
  have HG := hide hg
  obtain ⟨-, a, cap, rfl, hc, hm, -, hr⟩ := hL
  unfold maxLen at hm
  obtain ⟨n, hn⟩ : ∃ n, n = zs.length := ⟨_, rfl⟩
  rw [← hn] at hc hr hcs ⊢
  have HN := hide hn
  have HC := hide hcs
  clear hn hE hcs hg
  go_enter Tryd.func37, Tryd.ntmps37
  go_wp2_with fail
  go_loopw [7] (fun i wr => ∃ (j : Nat), j ≤ n ∧ i = .int .i64 j ∧ Hid ((zs.take j).all entB = true) ∧ Below w.heap.size w wr) (fun i _ => n - (intOf i).toNat)
  case atStart => exact ⟨0, Nat.zero_le _, rfl, hide rfl, Below.refl _ _⟩
  case round =>
    obtain ⟨j, hj, rfl, HO, hbel⟩ := hrel
    have hsz := hbel.size
    by_cases hlt : j < n
    · skip
      obtain ⟨b, off, rfl, hl, hcells⟩ := hr (by omega)
      have fa := flat_at cs j (by have := unhide HC; omega)
      have hc0 : wr.cell? ⟨b, off + j * 3, none⟩ = some (cat cs j).1 := (hbel.cell (p := ⟨b, _, none⟩) hl).trans (hcells (j * 3) _ fa.1)
      have hc1 : wr.cell? ⟨b, off + j * 3 + 1, none⟩ = some (cat cs j).2.1 := (hbel.cell (p := ⟨b, _, none⟩) hl).trans (hcells (j * 3 + 1) _ fa.2.1)
      have hc2 : wr.cell? ⟨b, off + j * 3 + 2, none⟩ = some (cat cs j).2.2 := (hbel.cell (p := ⟨b, _, none⟩) hl).trans (hcells (j * 3 + 2) _ fa.2.2)
      have hEj := (unhide HE j (by have := unhide HN; omega)).below hbel
      have hGj := unhide HG _ (at_mem zs j (by have := unhide HN; omega))
      obtain ⟨a1, q1, f1, g1, g1'⟩ := hEj.1.form
      obtain ⟨l1, hl1⟩ : ∃ l, l = (at' zs j).1.length := ⟨_, rfl⟩
      unfold maxLen at g1'
      rw [f1, ← hl1] at hc0
      rw [← hl1] at g1
      rw [hEj.2.1] at hc1
      rw [hEj.2.2] at hc2
      have HI1 := hide (show Lab.Is wr (.slice a1 l1 q1) (at' zs j).1 by rw [hl1, ← f1]; exact hEj.1)
      have HB := hide (fun h => all_bad (zs := zs) (j := j) (by have := unhide HN; omega) h)
      have HS := hide (fun h1 h2 => all_snoc (zs := zs) (j := j) (by have := unhide HN; omega) (unhide HO) h1 h2)
      have hk0 : (0 : Int) ≤ (j : Int) := Int.natCast_nonneg _
      have hk1 : (j : Int) < (n : Int) := by omega
      obtain ⟨T, hT⟩ : ∃ T, T = (at' zs j).2.1 := ⟨_, rfl⟩
      obtain ⟨V, hV⟩ : ∃ V, V = (at' zs j).2.2 := ⟨_, rfl⟩
      rw [← hT] at hc1 HB HS
      rw [← hV] at hc2 HB HS
      clear fa hEj f1 hl1 hT hV
      obtain ⟨wa, hwa⟩ : ∃ wa, wa = wr.alloc (.cells #[.slice a1 l1 q1, .int .i64 T, .int .i64 V] 62) := ⟨_, rfl⟩
      have ba : Below wr.heap.size wr wa := by rw [hwa]; exact (Below.refl _ _).alloc (Nat.le_refl _) _
      have za : wr.heap.size < wa.heap.size := by rw [hwa]; simp
      have ca0 : wa.cell? ⟨wr.heap.size, 0, none⟩ = some (.slice a1 l1 q1) := by rw [hwa]; simp [go_sem]
      have ca1 : wa.cell? ⟨wr.heap.size, 1, none⟩ = some (.int .i64 T) := by rw [hwa]; simp [go_sem]
      have ca2 : wa.cell? ⟨wr.heap.size, 2, none⟩ = some (.int .i64 V) := by rw [hwa]; simp [go_sem]
      have hbela : Below w.heap.size w wa := hbel.trans (ba.mono hsz)
      have HOk := hide (Lab.impl_ok ((unhide HI1).below ba) hGj.1.2)
      clear hGj
      cases hlab : Lab.ok (at' zs j).1
      · have HF := hide (unhide HB (.inl hlab))
        rw [hlab] at HOk
        clear hlab
        go_wp2_with fail
        rw [← hwa]
        clear hwa
        refine (unhide HOk).mono ?_
        rintro e w5 ⟨rfl, b5⟩
        have hb5 := hbela.trans (b5.mono hbela.size)
        go_wp2_with fail
        go_ret
        exact ⟨ret_bool (unhide HF).symm, hb5⟩
      · rw [hlab] at HOk
        cases hin : SampMath.inR T V
        · have HF := hide (unhide HB (.inr hin))
          have HR := hide hin
          clear hlab hin
          go_wp2_with fail
          rw [← hwa]
          clear hwa
          refine (unhide HOk).mono ?_
          rintro e w5 ⟨rfl, b5⟩
          have hb5 := hbela.trans (b5.mono hbela.size)
          have e0 := (b5.cell (p := ⟨wr.heap.size, 0, none⟩) (by show wr.heap.size < _; omega)).trans ca0
          have e1 := (b5.cell (p := ⟨wr.heap.size, 1, none⟩) (by show wr.heap.size < _; omega)).trans ca1
          have e2 := (b5.cell (p := ⟨wr.heap.size, 2, none⟩) (by show wr.heap.size < _; omega)).trans ca2
          clear ca0 ca1 ca2 b5
          go_wp2_with fail
          refine (sample_any _ T V _).mono ?_
          rintro e w6 ⟨rfl, b6⟩
          have hb6 := hb5.trans (b6.mono hb5.size)
          clear b6 e0 e1 e2
          go_wp2_with fail
          refine (Samp.sampleOk_is T V _ _ (unhide HR)).mono ?_
          rintro e w7 ⟨rfl, b7⟩
          have hb7 := hb6.trans (b7.mono hb6.size)
          clear b7
          go_wp2_with fail
          go_ret
          exact ⟨ret_bool (unhide HF).symm, hb7⟩
        · have HU := hide (unhide HS hlab hin)
          have HR := hide hin
          clear hlab hin
          go_wp2_with fail
          rw [← hwa]
          clear hwa
          refine (unhide HOk).mono ?_
          rintro e w5 ⟨rfl, b5⟩
          have hb5 := hbela.trans (b5.mono hbela.size)
          have e0 := (b5.cell (p := ⟨wr.heap.size, 0, none⟩) (by show wr.heap.size < _; omega)).trans ca0
          have e1 := (b5.cell (p := ⟨wr.heap.size, 1, none⟩) (by show wr.heap.size < _; omega)).trans ca1
          have e2 := (b5.cell (p := ⟨wr.heap.size, 2, none⟩) (by show wr.heap.size < _; omega)).trans ca2
          clear ca0 ca1 ca2 b5
          go_wp2_with fail
          refine (sample_any _ T V _).mono ?_
          rintro e w6 ⟨rfl, b6⟩
          have hb6 := hb5.trans (b6.mono hb5.size)
          clear b6 e0 e1 e2
          go_wp2_with fail
          refine (Samp.sampleOk_is T V _ _ (unhide HR)).mono ?_
          rintro e w7 ⟨rfl, b7⟩
          have hb7 := hb6.trans (b7.mono hb6.size)
          clear b7
          go_wp2
          go_roundw
          case rel => exact ⟨j + 1, by omega, by go_num, HU, hb7⟩
          case measure => simp [intOf]; omega
    · obtain rfl : j = n := by omega
      have HA := hide (show zs.all entB = true by have := unhide HO; rwa [List.take_of_length_le (by have := unhide HN; omega)] at this)
      rcases (show j < 1 ∨ 6 < j ∨ (1 ≤ j ∧ j ≤ 6) from by omega) with hs | hs | ⟨hs1, hs2⟩
      · have HF := hide (batch_no (zs := zs) (by have := unhide HN; omega))
        obtain rfl : j = 0 := by omega
        go_wp2
        go_ret
        exact ⟨ret_bool (unhide HF).symm, hbel⟩
      · have HF := hide (show batchB zs = decide ((j : Int) ≤ 6) by rw [batch_no (zs := zs) (by have := unhide HN; omega), decide_eq_false (by omega)])
        go_wp2
        go_ret
        exact ⟨ret_bool (unhide HF).symm, hbel⟩
      · have HF := hide (show batchB zs = decide ((j : Int) ≤ 6) by rw [batch_yes (zs := zs) (unhide HA) (by have := unhide HN; omega) (by have := unhide HN; omega), decide_eq_true (by omega)])
        go_wp2
        go_ret
        exact ⟨ret_bool (unhide HF).symm, hbel⟩
set_option maxRecDepth 100000 in
set_option maxHeartbeats 8000000 in
theorem spec_batch {w : World} {v : Value} {zs : List E} (h : Is w v zs) (hg : ∀ x ∈ zs, good x) : Calls Tryd.prog 29 #[v] w fun e w' => e = .returned (.bool (batchB zs)) ∧ Below w.heap.size w w' := by
  obtain ⟨cs, hcs, hL, hE⟩ := h
  have HE := hide hE
  have HG := hide hg
  obtain ⟨-, a, cap, rfl, hc, hm, -, hr⟩ := hL
  unfold maxLen at hm
  obtain ⟨n, hn⟩ : ∃ n, n = zs.length := ⟨_, rfl⟩
  rw [← hn] at hc hr hcs ⊢
  have HN := hide hn
  have HC := hide hcs
  clear hn hE hcs hg
  go_enter Tryd.func29, Tryd.ntmps29
  go_wp2_with fail
  go_loopw [3] (fun i wr => ∃ (j : Nat), j ≤ n ∧ i = .int .i64 j ∧ Hid ((zs.take j).all entB = true) ∧ Below w.heap.size w wr) (fun i _ => n - (intOf i).toNat)
  case atStart => exact ⟨0, Nat.zero_le _, rfl, hide rfl, Below.refl _ _⟩
  case round =>
    obtain ⟨j, hj, rfl, HO, hbel⟩ := hrel
    have hsz := hbel.size
    by_cases hlt : j < n
    · skip
      obtain ⟨b, off, rfl, hl, hcells⟩ := hr (by omega)
      have fa := flat_at cs j (by have := unhide HC; omega)
      have hc0 : wr.cell? ⟨b, off + j * 3, none⟩ = some (cat cs j).1 := (hbel.cell (p := ⟨b, _, none⟩) hl).trans (hcells (j * 3) _ fa.1)
      have hc1 : wr.cell? ⟨b, off + j * 3 + 1, none⟩ = some (cat cs j).2.1 := (hbel.cell (p := ⟨b, _, none⟩) hl).trans (hcells (j * 3 + 1) _ fa.2.1)
      have hc2 : wr.cell? ⟨b, off + j * 3 + 2, none⟩ = some (cat cs j).2.2 := (hbel.cell (p := ⟨b, _, none⟩) hl).trans (hcells (j * 3 + 2) _ fa.2.2)
      have hEj := (unhide HE j (by have := unhide HN; omega)).below hbel
      have hGj := unhide HG _ (at_mem zs j (by have := unhide HN; omega))
      obtain ⟨a1, q1, f1, g1, g1'⟩ := hEj.1.form
      obtain ⟨l1, hl1⟩ : ∃ l, l = (at' zs j).1.length := ⟨_, rfl⟩
      unfold maxLen at g1'
      rw [f1, ← hl1] at hc0
      rw [← hl1] at g1
      rw [hEj.2.1] at hc1
      rw [hEj.2.2] at hc2
      have HI1 := hide (show Lab.Is wr (.slice a1 l1 q1) (at' zs j).1 by rw [hl1, ← f1]; exact hEj.1)
      have HB := hide (fun h => all_bad (zs := zs) (j := j) (by have := unhide HN; omega) h)
      have HS := hide (fun h1 h2 => all_snoc (zs := zs) (j := j) (by have := unhide HN; omega) (unhide HO) h1 h2)
      have hk0 : (0 : Int) ≤ (j : Int) := Int.natCast_nonneg _
      have hk1 : (j : Int) < (n : Int) := by omega
      obtain ⟨T, hT⟩ : ∃ T, T = (at' zs j).2.1 := ⟨_, rfl⟩
      obtain ⟨V, hV⟩ : ∃ V, V = (at' zs j).2.2 := ⟨_, rfl⟩
      rw [← hT] at hc1 HB HS
      rw [← hV] at hc2 HB HS
      clear fa hEj f1 hl1 hT hV
      have hlr : b < wr.heap.size := by omega
      have d0 : wr.drew.cell? ⟨b, off + j * 3, none⟩ = some (.slice a1 l1 q1) := by simpa using hc0
      have d1 : wr.drew.cell? ⟨b, off + j * 3 + 1, none⟩ = some (.int .i64 T) := by simpa using hc1
      have d2 : wr.drew.cell? ⟨b, off + j * 3 + 2, none⟩ = some (.int .i64 V) := by simpa using hc2
      have HOk := hide (Lab.spec_ok ((unhide HI1).below (Below.refl _ _).drew) hGj.1.2 hGj.1.1)
      have CL := hide (fun x : Cls wr.heap.size wr => Lab.spec_ok ((unhide HI1).below x.isBelow) hGj.1.2 hGj.1.1)
      have hbd := hbel.drew
      clear hGj
      cases hlab : Lab.ok (at' zs j).1
      · have HF := hide (unhide HB (.inl hlab))
        rw [hlab] at CL
        have hq0 : ∀ x : Cls wr.heap.size wr, x.val.cell? ⟨b, off + j * 3, none⟩ = some (.slice a1 l1 q1) := fun x => by rw [x.cell (by omega)]; exact hc0
        have hne := cls_nonempty wr.heap.size wr
        clear hlab HOk d0 d1 d2 hc0 hc1 hc2
        go_wp2_with fail
        refine region_cls (by kernel_rfl) (by kernel_rfl) ?_
        repeat (go_big_quiet_step ((go_at_call 52; exact cls_call (Nat.le_refl _) (unhide CL _))))
        refine wpQuiet_nil ?_
        rintro wq ⟨⟨_, hq⟩, rfl⟩
        have hb5 := hbel.trans (hq.mono hsz)
        go_wp2_with fail
        go_ret
        exact ⟨ret_bool (unhide HF).symm, hb5⟩
      · rw [hlab] at HOk
        clear CL
        cases hin : SampMath.inR T V
        · have HF := hide (unhide HB (.inr hin))
          have HR := hide hin
          clear hlab hin
          go_wp2_with fail
          go_region_held3 (fun W : World => W.cell? ⟨b, off + j * 3, none⟩ = some (.slice a1 l1 q1) ∧ W.cell? ⟨b, off + j * 3 + 1, none⟩ = some (.int .i64 T) ∧ W.cell? ⟨b, off + j * 3 + 2, none⟩ = some (.int .i64 V)) (first | exact ⟨hc0, hc1, hc2⟩ | exact ⟨d0, d1, d2⟩ | exact S5 | exact ⟨((((Below.refl w5.heap.size w5).alloc (Nat.le_refl _) (.cells #[.int .i64 T, .int .i64 V] 90))).cell (p := ⟨b, _, none⟩) (by show b < _; omega)).trans S5.1, ((((Below.refl w5.heap.size w5).alloc (Nat.le_refl _) (.cells #[.int .i64 T, .int .i64 V] 90))).cell (p := ⟨b, _, none⟩) (by show b < _; omega)).trans S5.2.1, ((((Below.refl w5.heap.size w5).alloc (Nat.le_refl _) (.cells #[.int .i64 T, .int .i64 V] 90))).cell (p := ⟨b, _, none⟩) (by show b < _; omega)).trans S5.2.2⟩ | exact S7) (first | (go_at_call 52; refine (unhide HOk).mono ?_; rintro e w5 ⟨rfl, b5⟩; have z5 := b5.size; simp only [World.size_drew] at z5; have S5 : (fun W : World => W.cell? ⟨b, off + j * 3, none⟩ = some (.slice a1 l1 q1) ∧ W.cell? ⟨b, off + j * 3 + 1, none⟩ = some (.int .i64 T) ∧ W.cell? ⟨b, off + j * 3 + 2, none⟩ = some (.int .i64 V)) w5 := ⟨(b5.cell (p := ⟨b, _, none⟩) (by simp; omega)).trans d0, (b5.cell (p := ⟨b, _, none⟩) (by simp; omega)).trans d1, (b5.cell (p := ⟨b, _, none⟩) (by simp; omega)).trans d2⟩) | (go_at_call 53; have b6 : Below w5.heap.size w5 (w5.alloc (.cells #[.int .i64 T, .int .i64 V] 90)) := (Below.refl _ _).alloc (Nat.le_refl _) _; have K6 := Sam.l2ok (zs := [(T, V)]) (lies_new (w := w5) (cs := #[.int .i64 T, .int .i64 V]) (t := 90) (n := 1) (size := 2) rfl rfl (by unfold maxLen; omega)); rw [sam_one, unhide HR] at K6; refine K6.mono ?_; rintro e w7 ⟨rfl, b7⟩; have S7 : (fun W : World => W.cell? ⟨b, off + j * 3, none⟩ = some (.slice a1 l1 q1) ∧ W.cell? ⟨b, off + j * 3 + 1, none⟩ = some (.int .i64 T) ∧ W.cell? ⟨b, off + j * 3 + 2, none⟩ = some (.int .i64 V)) w7 := ⟨(b7.cell (p := ⟨b, _, none⟩) (by simp; omega)).trans ((b6.cell (p := ⟨b, _, none⟩) (by show b < _; omega)).trans S5.1), (b7.cell (p := ⟨b, _, none⟩) (by simp; omega)).trans ((b6.cell (p := ⟨b, _, none⟩) (by show b < _; omega)).trans S5.2.1), (b7.cell (p := ⟨b, _, none⟩) (by simp; omega)).trans ((b6.cell (p := ⟨b, _, none⟩) (by show b < _; omega)).trans S5.2.2)⟩))
          have hb5 := hbd.trans (b5.mono hbd.size)
          have hb6 := hb5.trans (b6.mono hb5.size)
          have hb7 := hb6.trans (b7.mono hb6.size)
          go_wp2_with fail
          go_ret
          exact ⟨ret_bool (unhide HF).symm, hb7⟩
        · have HU := hide (unhide HS hlab hin)
          have HR := hide hin
          clear hlab hin
          go_wp2_with fail
          go_region_held3 (fun W : World => W.cell? ⟨b, off + j * 3, none⟩ = some (.slice a1 l1 q1) ∧ W.cell? ⟨b, off + j * 3 + 1, none⟩ = some (.int .i64 T) ∧ W.cell? ⟨b, off + j * 3 + 2, none⟩ = some (.int .i64 V)) (first | exact ⟨hc0, hc1, hc2⟩ | exact ⟨d0, d1, d2⟩ | exact S5 | exact ⟨((((Below.refl w5.heap.size w5).alloc (Nat.le_refl _) (.cells #[.int .i64 T, .int .i64 V] 90))).cell (p := ⟨b, _, none⟩) (by show b < _; omega)).trans S5.1, ((((Below.refl w5.heap.size w5).alloc (Nat.le_refl _) (.cells #[.int .i64 T, .int .i64 V] 90))).cell (p := ⟨b, _, none⟩) (by show b < _; omega)).trans S5.2.1, ((((Below.refl w5.heap.size w5).alloc (Nat.le_refl _) (.cells #[.int .i64 T, .int .i64 V] 90))).cell (p := ⟨b, _, none⟩) (by show b < _; omega)).trans S5.2.2⟩ | exact S7) (first | (go_at_call 52; refine (unhide HOk).mono ?_; rintro e w5 ⟨rfl, b5⟩; have z5 := b5.size; simp only [World.size_drew] at z5; have S5 : (fun W : World => W.cell? ⟨b, off + j * 3, none⟩ = some (.slice a1 l1 q1) ∧ W.cell? ⟨b, off + j * 3 + 1, none⟩ = some (.int .i64 T) ∧ W.cell? ⟨b, off + j * 3 + 2, none⟩ = some (.int .i64 V)) w5 := ⟨(b5.cell (p := ⟨b, _, none⟩) (by simp; omega)).trans d0, (b5.cell (p := ⟨b, _, none⟩) (by simp; omega)).trans d1, (b5.cell (p := ⟨b, _, none⟩) (by simp; omega)).trans d2⟩) | (go_at_call 53; have b6 : Below w5.heap.size w5 (w5.alloc (.cells #[.int .i64 T, .int .i64 V] 90)) := (Below.refl _ _).alloc (Nat.le_refl _) _; have K6 := Sam.l2ok (zs := [(T, V)]) (lies_new (w := w5) (cs := #[.int .i64 T, .int .i64 V]) (t := 90) (n := 1) (size := 2) rfl rfl (by unfold maxLen; omega)); rw [sam_one, unhide HR] at K6; refine K6.mono ?_; rintro e w7 ⟨rfl, b7⟩; have S7 : (fun W : World => W.cell? ⟨b, off + j * 3, none⟩ = some (.slice a1 l1 q1) ∧ W.cell? ⟨b, off + j * 3 + 1, none⟩ = some (.int .i64 T) ∧ W.cell? ⟨b, off + j * 3 + 2, none⟩ = some (.int .i64 V)) w7 := ⟨(b7.cell (p := ⟨b, _, none⟩) (by simp; omega)).trans ((b6.cell (p := ⟨b, _, none⟩) (by show b < _; omega)).trans S5.1), (b7.cell (p := ⟨b, _, none⟩) (by simp; omega)).trans ((b6.cell (p := ⟨b, _, none⟩) (by show b < _; omega)).trans S5.2.1), (b7.cell (p := ⟨b, _, none⟩) (by simp; omega)).trans ((b6.cell (p := ⟨b, _, none⟩) (by show b < _; omega)).trans S5.2.2)⟩))
          have hb5 := hbd.trans (b5.mono hbd.size)
          have hb6 := hb5.trans (b6.mono hb5.size)
          have hb7 := hb6.trans (b7.mono hb6.size)
          go_wp2
          go_roundw
          case rel => exact ⟨j + 1, by omega, by go_num, HU, hb7⟩
          case measure => simp [intOf]; omega
    · obtain rfl : j = n := by omega
      have HA := hide (show zs.all entB = true by have := unhide HO; rwa [List.take_of_length_le (by have := unhide HN; omega)] at this)
      have HF := hide (show batchB zs = Zig.inB (j : Int) 1 6 by
        unfold batchB Zig.inB
        rw [unhide HA, ← unhide HN]
        have e1 : decide (1 ≤ j) = decide ((1 : Int) ≤ (j : Int)) := by rw [decide_eq_decide]; omega
        have e2 : decide (j ≤ 6) = decide ((j : Int) ≤ 6) := by rw [decide_eq_decide]; omega
        rw [e1, e2]; rfl)
      go_wp2_with fail
      refine (Zig.in_any (j : Int) 1 6 _).mono ?_
      rintro e w9 ⟨rfl, rfl⟩
      go_wp2_with fail
      go_ret
      exact ⟨ret_bool (unhide HF).symm, hbel⟩
end Go.Proofs.YtamjliaeikoemaaDoor.Ent

/- Whether all samples lie between two times; the latest and the earliest time. -/
namespace Go.Proofs.YtamjliaeikoemaaDoor.Row
open Go.RowKit Rw
set_option linter.unusedVariables false
attribute [local go_sem ↓] Go.wp_at_zero Go.wp_at_succ
end Go.Proofs.YtamjliaeikoemaaDoor.Row

/- LabelsCmp of the program, at every two slices of labels. -/
namespace Go.Proofs.YtamjliaeikoemaaDoor.Lab
open Go.RowKit Rw
set_option linter.unusedVariables false
attribute [local go_sem ↓] Go.wp_at_zero Go.wp_at_succ
theorem new_cell {W : World} {cs : Array Value} {t : TypeId} {B o : Nat} {u : Value} (hB : B = W.heap.size) (h : cs[o]? = some u) : (W.alloc (.cells cs t)).cell? ⟨B, o, none⟩ = some u := by
  subst hB
  rw [cell_of_row (W.alloc (.cells cs t)) W.heap.size o cs t _ (heap_alloc_new W _)]
  exact h
end Go.Proofs.YtamjliaeikoemaaDoor.Lab
