/- BlockOk, of the program and of the model, at every block. The program's reads the package's table of widths. -/
import Derived.Test.YtpfllejfbmgbpaaDoorBlkMath
import Derived.Test.YtpfllejfbmgbpaaDoorTabEnds
import Derived.Test.YtpfllejfbmgbpaaDoorRowOk
import Derived.Test.YtpfllejfbmgbpaaDoorRowOk2
namespace Go.Proofs.YtpfllejfbmgbpaaDoor.Row
open Go.RowKit Rw
set_option linter.unusedVariables false
attribute [local go_sem ↓] Go.wp_at_zero Go.wp_at_succ
/-- the package's table of widths, in block 0 -/
def Wid (w : World) : Prop := w.cell? ⟨0, 0, none⟩ = some (.int .i64 1) ∧ w.cell? ⟨0, 1, none⟩ = some (.int .i64 3) ∧ w.cell? ⟨0, 2, none⟩ = some (.int .i64 9) ∧ 0 < w.heap.size
theorem Wid.below {w w' : World} (h : Wid w) (hb : Below w.heap.size w w') : Wid w' := by
  obtain ⟨h1, h2, h3, h4⟩ := h
  exact ⟨(hb.cell (p := ⟨0, 0, none⟩) h4).trans h1, (hb.cell (p := ⟨0, 1, none⟩) h4).trans h2, (hb.cell (p := ⟨0, 2, none⟩) h4).trans h3, Nat.lt_of_lt_of_le h4 hb.size⟩
abbrev tab3 : Value := .agg #[.int .i64 1, .int .i64 3, .int .i64 9]
theorem idx0 (W : World) : (Instr.index 84 (.agg #[.int .i64 1, .int .i64 3, .int .i64 9]) (.int .i64 0)).run Tryd.prog W = .ok (.int .i64 1) W := by kernel_rfl
theorem idx1 (W : World) : (Instr.index 84 (.agg #[.int .i64 1, .int .i64 3, .int .i64 9]) (.int .i64 1)).run Tryd.prog W = .ok (.int .i64 3) W := by kernel_rfl
theorem idx2 (W : World) : (Instr.index 84 (.agg #[.int .i64 1, .int .i64 3, .int .i64 9]) (.int .i64 2)).run Tryd.prog W = .ok (.int .i64 9) W := by kernel_rfl
set_option maxRecDepth 100000 in
set_option maxHeartbeats 4000000 in
theorem range_any (L H : Int) (w : World) (hH : (Lit.int .i64 H).wf = true) (hw : Wid w) : Calls Tryd.prog 25 #[.int .i64 L, .int .i64 H] w fun e w' => e = .returned (.bool (rangeB L H)) ∧ w' = w := by
  obtain ⟨t0, t1, t2, t3⟩ := hw
  have x0 := idx0
  have x1 := idx1
  have x2 := idx2
  by_cases h0 : L < 0
  · have HR := hide (rangeB_low (L := L) (H := H) (fun h => by omega))
    go_enter Tryd.func25, Tryd.ntmps25
    go_wp2
    go_ret
    exact ⟨ret_bool (unhide HR).symm, rfl⟩
  by_cases h1 : 9999 < L
  · have HR := hide (rangeB_low (L := L) (H := H) (fun h => by omega))
    go_enter Tryd.func25, Tryd.ntmps25
    go_wp2
    go_ret
    exact ⟨ret_bool (unhide HR).symm, rfl⟩
  obtain ⟨D, hD, d1, d3, d9⟩ := sub_letter L H (by omega) (by omega) hH
  have HR := hide (rangeB_in (L := L) (H := H) (by omega) (by omega))
  obtain ⟨R, hR⟩ : ∃ R, R = rangeB L H := ⟨_, rfl⟩
  rw [← hR] at HR ⊢
  clear hR hH
  obtain ⟨M1, hM1⟩ : ∃ M, L.tmod 100 = M := ⟨_, rfl⟩
  obtain ⟨M3, hM3⟩ : ∃ M, L.tmod 300 = M := ⟨_, rfl⟩
  obtain ⟨M9, hM9⟩ : ∃ M, L.tmod 900 = M := ⟨_, rfl⟩
  have R1 := hide (fun h : D = 100 => (show R = decide (M1 = 0) by rw [unhide HR, wide1 (d1.1 h), hM1]))
  have R3 := hide (fun h : D = 300 => (show R = decide (M3 = 0) by rw [unhide HR, wide3 (d3.1 h), hM3]))
  have R9 := hide (fun h : D = 900 => (show R = decide (M9 = 0) by rw [unhide HR, wide9 (d9.1 h), hM9]))
  have R0 := hide (fun (a : D ≠ 100) (b : D ≠ 300) (c : D ≠ 900) => (show R = false by rw [unhide HR]; exact wide0 (fun h => a (d1.2 h)) (fun h => b (d3.2 h)) (fun h => c (d9.2 h))))
  clear d1 d3 d9 HR
  go_enter Tryd.func25, Tryd.ntmps25
  go_wp2_with fail
  go_loop [14] (fun i => ∃ k : Nat, k ≤ 3 ∧ i = .int .i64 k ∧ Hid ((0 < k → D ≠ 100) ∧ (1 < k → D ≠ 300) ∧ (2 < k → D ≠ 900))) (fun i => 3 - (intOf i).toNat)
  case atStart => exact ⟨0, by omega, rfl, hide ⟨by omega, by omega, by omega⟩⟩
  case round =>
    obtain ⟨k, hk, rfl, HK⟩ := hrel
    rcases (show k = 0 ∨ k = 1 ∨ k = 2 ∨ k = 3 by omega) with rfl | rfl | rfl | rfl
    · by_cases e : D = 100
      · have e' : (D == 100) = true := by simpa using e
        have HF := hide (unhide R1 e)
        clear e
        by_cases z : M1 = 0
        · have z' : (M1 == 0) = true := by simpa using z
          go_wp2
          go_ret
          exact ⟨ret_bool (by rw [unhide HF]; simp [z]), rfl⟩
        · have z' : (M1 == 0) = false := by simpa using z
          go_wp2
          go_ret
          exact ⟨ret_bool (by rw [unhide HF]; simp [z]), rfl⟩
      · have e' : (D == 100) = false := by simpa using e
        have HK' := hide (show (0 < 1 → D ≠ 100) ∧ (1 < 1 → D ≠ 300) ∧ (2 < 1 → D ≠ 900) from ⟨fun _ => e, by omega, by omega⟩)
        clear e
        go_wp2
        go_round
        case rel => exact ⟨1, by omega, by go_num, HK'⟩
        case measure => simp [intOf]
    · by_cases e : D = 300
      · have e' : (D == 300) = true := by simpa using e
        have HF := hide (unhide R3 e)
        clear e
        by_cases z : M3 = 0
        · have z' : (M3 == 0) = true := by simpa using z
          go_wp2
          go_ret
          exact ⟨ret_bool (by rw [unhide HF]; simp [z]), rfl⟩
        · have z' : (M3 == 0) = false := by simpa using z
          go_wp2
          go_ret
          exact ⟨ret_bool (by rw [unhide HF]; simp [z]), rfl⟩
      · have e' : (D == 300) = false := by simpa using e
        have HK' := hide (show (0 < 2 → D ≠ 100) ∧ (1 < 2 → D ≠ 300) ∧ (2 < 2 → D ≠ 900) from ⟨fun _ => (unhide HK).1 (by omega), fun _ => e, by omega⟩)
        clear e
        go_wp2
        go_round
        case rel => exact ⟨2, by omega, by go_num, HK'⟩
        case measure => simp [intOf]
    · by_cases e : D = 900
      · have e' : (D == 900) = true := by simpa using e
        have HF := hide (unhide R9 e)
        clear e
        by_cases z : M9 = 0
        · have z' : (M9 == 0) = true := by simpa using z
          go_wp2
          go_ret
          exact ⟨ret_bool (by rw [unhide HF]; simp [z]), rfl⟩
        · have z' : (M9 == 0) = false := by simpa using z
          go_wp2
          go_ret
          exact ⟨ret_bool (by rw [unhide HF]; simp [z]), rfl⟩
      · have e' : (D == 900) = false := by simpa using e
        have HK' := hide (show (0 < 3 → D ≠ 100) ∧ (1 < 3 → D ≠ 300) ∧ (2 < 3 → D ≠ 900) from ⟨fun _ => (unhide HK).1 (by omega), fun _ => (unhide HK).2.1 (by omega), fun _ => e⟩)
        clear e
        go_wp2
        go_round
        case rel => exact ⟨3, by omega, by go_num, HK'⟩
        case measure => simp [intOf]
    · have HF := hide (unhide R0 ((unhide HK).1 (by omega)) ((unhide HK).2.1 (by omega)) ((unhide HK).2.2 (by omega)))
      go_wp2
      go_ret
      exact ⟨ret_bool (unhide HF).symm, rfl⟩
theorem l7Wide_any (D : Int) (w : World) : Calls Tryd.prog 20 #[.int .i64 D] w fun e w' => e = .returned (.bool (decide (D = 100) || decide (D = 300) || decide (D = 900))) ∧ w' = w := by
  by_cases h1 : D = 100
  · subst h1
    go_enter Tryd.func20, Tryd.ntmps20
    go_wp2
    go_ret
    exact ⟨rfl, rfl⟩
  by_cases h3 : D = 300
  · subst h3
    go_enter Tryd.func20, Tryd.ntmps20
    go_wp2
    go_ret
    exact ⟨rfl, rfl⟩
  by_cases h9 : D = 900
  · subst h9
    go_enter Tryd.func20, Tryd.ntmps20
    go_wp2
    go_ret
    exact ⟨rfl, rfl⟩
  have HR := hide (show (decide (D = 100) || decide (D = 300) || decide (D = 900)) = false by simp [h1, h3, h9])
  have e1 : (D == 100) = false := by simpa using h1
  have e3 : (D == 300) = false := by simpa using h3
  have e9 : (D == 900) = false := by simpa using h9
  clear h1 h3 h9
  go_enter Tryd.func20, Tryd.ntmps20
  go_wp2
  go_ret
  exact ⟨ret_bool (unhide HR).symm, rfl⟩
set_option maxRecDepth 100000 in
set_option maxHeartbeats 4000000 in
theorem impl_block {w : World} {v : Value} {zs : List E} {L H : Int} (h : Is w v zs) (hg : ∀ x ∈ zs, good x) (hlen : zs.length ≤ maxLen) (hH : (Lit.int .i64 H).wf = true) (hw : Wid w) : Calls Tryd.prog 9 #[.agg #[.int .i64 L, .int .i64 H, v]] w fun e w' => e = .returned (.bool (blockB zs L H)) ∧ Below w.heap.size w w' := by
  obtain ⟨va, cp, hv⟩ : ∃ a c, v = .slice a zs.length c := by obtain ⟨cs, -, ⟨-, a, c, e, -⟩, -⟩ := h; exact ⟨a, c, e⟩
  have C1 := hide (fun W (hb : Below w.heap.size w W) => impl_ok (h.below hb) hg hlen)
  have C2 := hide (fun W (hb : Below w.heap.size w W) => within_any L H (h.below hb))
  have C3 := hide (fun W (hb : Below w.heap.size w W) => range_any L H W hH (hw.below hb))
  subst hv
  obtain ⟨n, hn⟩ : ∃ n, n = zs.length := ⟨_, rfl⟩
  rw [← hn] at C1 C2 ⊢
  have HN := hide hn
  clear h hg hH hw hlen hn
  have B := (Below.refl w.heap.size w).alloc (Nat.le_refl _) (.cells #[.int .i64 L, .int .i64 H, .slice va n cp] 29)
  cases hr : rangeB L H
  · have HR := hide (blockB_range (zs := zs) hr)
    rw [hr] at C3
    clear hr
    go_enter Tryd.func9, Tryd.ntmps9
    go_wp2_with fail
    refine (unhide C3 _ B).mono ?_
    rintro e v1 ⟨rfl, rfl⟩
    go_wp2_with fail
    go_ret
    exact ⟨ret_bool (unhide HR).symm, B⟩
  rw [hr] at C3
  by_cases h0 : n = 0
  · have HR := hide (blockB_none (zs := zs) (L := L) (H := H) (by rw [← unhide HN]; exact h0))
    subst h0
    clear hr
    go_enter Tryd.func9, Tryd.ntmps9
    go_wp2_with fail
    refine (unhide C3 _ B).mono ?_
    rintro e v1 ⟨rfl, rfl⟩
    go_wp2_with fail
    go_ret
    exact ⟨ret_bool (unhide HR).symm, B⟩
  have h0f : ((n : Int) == 0) = false := by simp; omega
  cases h5 : ok zs
  · have HR := hide (blockB_rows (zs := zs) (L := L) (H := H) h5)
    rw [h5] at C1
    clear h5 hr h0
    go_enter Tryd.func9, Tryd.ntmps9
    go_wp2_with fail
    refine (unhide C3 _ B).mono ?_
    rintro e v1 ⟨rfl, rfl⟩
    go_wp2_with fail
    refine (unhide C1 _ B).mono ?_
    rintro e v2 ⟨rfl, b2⟩
    have B2 := B.trans (b2.mono B.size)
    go_wp2_with fail
    go_ret
    exact ⟨ret_bool (unhide HR).symm, B2⟩
  have HR := hide (blockB_in hr (by have := unhide HN; omega) h5)
  rw [h5] at C1
  clear h5 hr h0
  go_enter Tryd.func9, Tryd.ntmps9
  go_wp2_with fail
  refine (unhide C3 _ B).mono ?_
  rintro e v1 ⟨rfl, rfl⟩
  go_wp2_with fail
  refine (unhide C1 _ B).mono ?_
  rintro e v2 ⟨rfl, b2⟩
  have B2 := B.trans (b2.mono B.size)
  obtain ⟨bc, bf⟩ := bcell b2
  simp only [World.size_alloc] at bc bf
  clear b2
  go_wp2_with fail
  refine (unhide C2 _ B2).mono ?_
  rintro e v3 ⟨rfl, b3⟩
  have B3 := B2.trans (b3.mono B2.size)
  clear b3 bc bf
  go_wp2_with fail
  go_ret
  exact ⟨ret_bool (unhide HR).symm, B3⟩
set_option maxRecDepth 100000 in
set_option maxHeartbeats 8000000 in
theorem spec_block {w : World} {v : Value} {zs : List E} {L H : Int} (h : Is w v zs) (hg : ∀ x ∈ zs, good x) (hlen : zs.length ≤ maxLen) (hH : (Lit.int .i64 H).wf = true) : Calls Tryd.prog 7 #[.agg #[.int .i64 L, .int .i64 H, v]] w fun e w' => e = .returned (.bool (blockB zs L H)) ∧ Below w.heap.size w w' := by
  obtain ⟨va, cp, hv⟩ : ∃ a c, v = .slice a zs.length c := by obtain ⟨cs, -, ⟨-, a, c, e, -⟩, -⟩ := h; exact ⟨a, c, e⟩
  have C1 := hide (fun W (hb : Below w.heap.size w W) => spec_ok (h.below hb) hg hlen)
  have HLa := hide (fun (hok : ok zs = true) (W : World) (hb : Below w.heap.size w W) => last_any (h.below hb) hok)
  have HFi := hide (fun (hok : ok zs = true) (W : World) (hb : Below w.heap.size w W) => first_any (h.below hb) hok)
  subst hv
  obtain ⟨n, hn⟩ : ∃ n, n = zs.length := ⟨_, rfl⟩
  rw [← hn] at C1 HLa HFi ⊢
  have HN := hide hn
  clear h hg hlen hn
  have B := (Below.refl w.heap.size w).alloc (Nat.le_refl _) (.cells #[.int .i64 L, .int .i64 H, .slice va n cp] 29)
  by_cases hin : 0 ≤ L ∧ L ≤ 9999
  · have I1 := hide (fun W => Samp.in_is L 0 9999 true W (Samp.inB_true hin.1 hin.2))
    obtain ⟨D, hD, d1, d3, d9⟩ := sub_letter L H hin.1 hin.2 hH
    have W1 := hide (l7Wide_any D)
    clear hH
    have HRI := hide (rangeB_in (H := H) hin.1 hin.2)
    by_cases hwd : D = 100 ∨ D = 300 ∨ D = 900
    · rw [show (decide (D = 100) || decide (D = 300) || decide (D = 900)) = true by rcases hwd with h | h | h <;> simp [h]] at W1
      obtain ⟨M, hM⟩ : ∃ M, L.tmod D = M := ⟨_, rfl⟩
      have HW := hide (show wideB (H - L) L = decide (M = 0) by
        rcases hwd with h | h | h
        · rw [wide1 (d1.1 h), ← hM, h]
        · rw [wide3 (d3.1 h), ← hM, h]
        · rw [wide9 (d9.1 h), ← hM, h])
      have hd0 : (D == 0) = false := by rcases hwd with h | h | h <;> simp [h]
      have hdm : (D == -1) = false := by rcases hwd with h | h | h <;> simp [h]
      have hd0' : D ≠ 0 := by omega
      clear d1 d3 d9
      by_cases hz : M = 0
      · subst hz
        have HRT := hide (show rangeB L H = true by rw [unhide HRI, unhide HW]; rfl)
        clear hwd
        cases h5 : ok zs
        · have HR := hide (blockB_rows (zs := zs) (L := L) (H := H) h5)
          rw [h5] at C1
          clear h5 hin
          go_enter Tryd.func7, Tryd.ntmps7
          go_wp2_with fail
          refine (unhide I1 _).mono ?_
          rintro e v1 ⟨rfl, rfl⟩
          go_wp2_with fail
          refine (unhide W1 _).mono ?_
          rintro e v2 ⟨rfl, rfl⟩
          go_wp2_with fail
          refine (unhide C1 _ B).mono ?_
          rintro e v3 ⟨rfl, b3⟩
          have B3 := B.trans (b3.mono B.size)
          obtain ⟨bc, bf⟩ := bcell b3
          simp only [World.size_alloc] at bc bf
          go_wp2_with fail
          go_ret
          exact ⟨ret_bool (unhide HR).symm, B3⟩
        rw [h5] at C1
        by_cases h0 : n = 0
        · have HR := hide (blockB_none (zs := zs) (L := L) (H := H) (by rw [← unhide HN]; exact h0))
          subst h0
          clear h5 hin
          go_enter Tryd.func7, Tryd.ntmps7
          go_wp2_with fail
          refine (unhide I1 _).mono ?_
          rintro e v1 ⟨rfl, rfl⟩
          go_wp2_with fail
          refine (unhide W1 _).mono ?_
          rintro e v2 ⟨rfl, rfl⟩
          go_wp2_with fail
          refine (unhide C1 _ B).mono ?_
          rintro e v3 ⟨rfl, b3⟩
          have B3 := B.trans (b3.mono B.size)
          obtain ⟨bc, bf⟩ := bcell b3
          simp only [World.size_alloc] at bc bf
          go_wp2_with fail
          go_ret
          exact ⟨ret_bool (unhide HR).symm, B3⟩
        have h0f : ((n : Int) == 0) = false := by simp; omega
        have HBI := hide (blockB_in (unhide HRT) (by have := unhide HN; omega : 0 < zs.length) h5)
        have HIF := hide (block_iff h5 (unhide HRT))
        obtain ⟨P, hP⟩ : ∃ P, P = lastR zs := ⟨_, rfl⟩
        obtain ⟨Q, hQ⟩ : ∃ Q, Q = firstR zs := ⟨_, rfl⟩
        have C4 := hide (unhide HLa h5)
        have C5 := hide (unhide HFi h5)
        rw [← hP] at C4 HIF
        rw [← hQ] at C5 HIF
        clear hP hQ h5 hin h0 HLa HFi
        go_enter Tryd.func7, Tryd.ntmps7
        go_wp2_with fail
        refine (unhide I1 _).mono ?_
        rintro e v1 ⟨rfl, rfl⟩
        go_wp2_with fail
        refine (unhide W1 _).mono ?_
        rintro e v2 ⟨rfl, rfl⟩
        go_wp2_with fail
        refine (unhide C1 _ B).mono ?_
        rintro e v3 ⟨rfl, b3⟩
        have B3 := B.trans (b3.mono B.size)
        obtain ⟨bc, bf⟩ := bcell b3
        simp only [World.size_alloc] at bc bf
        go_wp2_with fail
        clear HRI HRT HW I1 W1 C1
        obtain ⟨w4, hw4⟩ : ∃ w4, w4 = v3 := ⟨_, rfl⟩
        subst hw4
        have q0 : ∀ x : Cls w4.heap.size w4, x.val.cell? ⟨w.heap.size, 0, none⟩ = some (.int .i64 L) := fun x => by rw [x.cell (by have := b3.size; simp at this; omega), bc _ _ (by omega)]; simp [go_sem]
        have q1 : ∀ x : Cls w4.heap.size w4, x.val.cell? ⟨w.heap.size, 1, none⟩ = some (.int .i64 H) := fun x => by rw [x.cell (by have := b3.size; simp at this; omega), bc _ _ (by omega)]; simp [go_sem]
        have q2 : ∀ x : Cls w4.heap.size w4, x.val.cell? ⟨w.heap.size, 2, none⟩ = some (.slice va n cp) := fun x => by rw [x.cell (by have := b3.size; simp at this; omega), bc _ _ (by omega)]; simp [go_sem]
        have hne := cls_nonempty w4.heap.size w4
        have E4 := hide (fun x : Cls w4.heap.size w4 => unhide C4 x.val (B3.trans (x.isBelow.mono B3.size)))
        have E5 := hide (fun x : Cls w4.heap.size w4 => unhide C5 x.val (B3.trans (x.isBelow.mono B3.size)))
        clear C4 C5 bc bf b3
        by_cases hQ : L ≤ Q
        · by_cases hP : P < H
          · have HR := hide (show blockB zs L H = true by rw [unhide HBI]; exact (unhide HIF).2 ⟨hP, hQ⟩)
            refine region_cls (by kernel_rfl) (by kernel_rfl) ?_
            repeat (go_big_quiet_step (first | (go_at_call 22; exact cls_same (unhide E5 _)) | (go_at_call 23; exact cls_same (unhide E4 _))))
            refine wpQuiet_nil ?_
            rintro wq ⟨⟨_, hq⟩, rfl⟩
            have hbq := B3.trans (hq.mono B3.size)
            go_wp2
            go_ret
            exact ⟨ret_bool (unhide HR).symm, hbq⟩
          · have HR := hide (show blockB zs L H = false by rw [unhide HBI]; exact Bool.eq_false_iff.2 (fun hww => hP ((unhide HIF).1 hww).1))
            have hPd : decide (P < H) = false := by simp; omega
            clear hP
            refine region_cls (by kernel_rfl) (by kernel_rfl) ?_
            repeat (go_big_quiet_step (first | (go_at_call 22; exact cls_same (unhide E5 _)) | (go_at_call 23; exact cls_same (unhide E4 _))))
            refine wpQuiet_nil ?_
            rintro wq ⟨⟨_, hq⟩, rfl⟩
            have hbq := B3.trans (hq.mono B3.size)
            go_wp2
            go_ret
            exact ⟨ret_bool (unhide HR).symm, hbq⟩
        · have HR := hide (show blockB zs L H = false by rw [unhide HBI]; exact Bool.eq_false_iff.2 (fun hww => hQ ((unhide HIF).1 hww).2))
          have hQd : decide (L ≤ Q) = false := by simp; omega
          clear hQ
          refine region_cls (by kernel_rfl) (by kernel_rfl) ?_
          repeat (go_big_quiet_step (first | (go_at_call 22; exact cls_same (unhide E5 _)) | (go_at_call 23; exact cls_same (unhide E4 _))))
          refine wpQuiet_nil ?_
          rintro wq ⟨⟨_, hq⟩, rfl⟩
          have hbq := B3.trans (hq.mono B3.size)
          go_wp2
          go_ret
          exact ⟨ret_bool (unhide HR).symm, hbq⟩
      · have HR := hide (blockB_range (zs := zs) (show rangeB L H = false by rw [unhide HRI, unhide HW]; simp [hz]))
        have hzf : (M == 0) = false := by simpa using hz
        have hzn : (M != 0) = true := by simpa using hz
        clear hz hin hwd
        go_enter Tryd.func7, Tryd.ntmps7
        go_wp2_with fail
        refine (unhide I1 _).mono ?_
        rintro e v1 ⟨rfl, rfl⟩
        go_wp2_with fail
        refine (unhide W1 _).mono ?_
        rintro e v2 ⟨rfl, rfl⟩
        go_wp2_with fail
        go_ret
        exact ⟨ret_bool (unhide HR).symm, B⟩
    · have HR := hide (blockB_range (zs := zs) (show rangeB L H = false by rw [unhide HRI]; exact wide0 (fun h => hwd (.inl (d1.2 h))) (fun h => hwd (.inr (.inl (d3.2 h)))) (fun h => hwd (.inr (.inr (d9.2 h))))))
      rw [show (decide (D = 100) || decide (D = 300) || decide (D = 900)) = false by simp; omega] at W1
      clear d1 d3 d9 hin hwd
      go_enter Tryd.func7, Tryd.ntmps7
      go_wp2_with fail
      refine (unhide I1 _).mono ?_
      rintro e v1 ⟨rfl, rfl⟩
      go_wp2_with fail
      refine (unhide W1 _).mono ?_
      rintro e v2 ⟨rfl, rfl⟩
      go_wp2_with fail
      go_ret
      exact ⟨ret_bool (unhide HR).symm, B⟩
  · have I1 := hide (fun W => Samp.in_is L 0 9999 false W (Samp.inB_false (by omega)))
    have HR := hide (blockB_range (zs := zs) (rangeB_low (H := H) hin))
    clear hin
    go_enter Tryd.func7, Tryd.ntmps7
    go_wp2_with fail
    refine (unhide I1 _).mono ?_
    rintro e v1 ⟨rfl, rfl⟩
    go_wp2_with fail
    go_ret
    exact ⟨ret_bool (unhide HR).symm, B⟩
end Go.Proofs.YtpfllejfbmgbpaaDoor.Row
