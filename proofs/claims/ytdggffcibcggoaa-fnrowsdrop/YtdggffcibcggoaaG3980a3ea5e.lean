/- My own texts of one claim, laid together by program: RowOk2, Let3, Let4. -/
import Derived.Test.YtdggffcibcggoaaGef12b6b9e6
import Derived.Test.YtdggffcibcggoaaG8c6ff402ee
import Derived.Test.YtdggffcibcggoaaG52c5b8687e
import Derived.Test.YtdggffcibcggoaaG94e78fc432
import Derived.Test.YtdggffcibcggoaaGd631e6c06e
import Derived.Test.YtdggffcibcggoaaG96a5dea7ed
/- RowsOk of the model, at every slice of rows. -/
namespace Go.Proofs.Ytdggffcibcggoaa.Row
open Go.RowKit Rw
set_option linter.unusedVariables false
attribute [local go_sem ↓] Go.wp_at_zero Go.wp_at_succ
set_option maxRecDepth 100000 in
set_option maxHeartbeats 8000000 in
theorem spec_ok {w : World} {v : Value} {zs : List E} (h : Is w v zs) (hg : ∀ x ∈ zs, good x) (hlen : zs.length ≤ maxLen) : Calls Try.prog 38 #[v] w fun e w' => e = .returned (.bool (ok zs)) ∧ Below w.heap.size w w' := by
  obtain ⟨cs, hcs, hL, hE⟩ := h
  have HE := hide hE
  have HG := hide hg
  obtain ⟨-, a, cap, rfl, hc, hm, -, hr⟩ := hL
  unfold maxLen at hm hlen
  obtain ⟨n, hn⟩ : ∃ n, n = zs.length := ⟨_, rfl⟩
  rw [← hn] at hc hr hcs hlen ⊢
  have HN := hide hn
  have HC := hide hcs
  clear hn hE hg hcs
  go_enter Try.func38, Try.ntmps38
  go_wp2_with fail
  go_loopw [3] (fun i wr => ∃ (j : Nat), j ≤ n ∧ i = .int .i64 j ∧ Hid (okTo zs j = true) ∧ Below w.heap.size w wr) (fun i _ => n - (intOf i).toNat)
  case atStart => exact ⟨0, Nat.zero_le _, rfl, hide rfl, Below.refl _ _⟩
  case round =>
    obtain ⟨j, hj, rfl, HO, hbel⟩ := hrel
    have hsz := hbel.size
    by_cases hlt : j < n
    · obtain ⟨b, off, rfl, hl, hcells⟩ := hr (by omega)
      have fa := flat_at cs j (by have := unhide HC; omega)
      have hc0 : wr.cell? ⟨b, off + j * 2, none⟩ = some (cat cs j).1 := (hbel.cell (p := ⟨b, _, none⟩) hl).trans (hcells (j * 2) _ fa.1)
      have hc1 : wr.cell? ⟨b, off + j * 2 + 1, none⟩ = some (cat cs j).2 := (hbel.cell (p := ⟨b, _, none⟩) hl).trans (hcells (j * 2 + 1) _ fa.2)
      have hEj := (unhide HE j (by have := unhide HN; omega)).below hbel
      have hGj := unhide HG _ (at_mem zs j (by have := unhide HN; omega))
      obtain ⟨a1, q1, f1, g1, g1'⟩ := hEj.1.form
      obtain ⟨a2, q2, f2, g2, g2'⟩ := hEj.2.form
      obtain ⟨l1, hl1⟩ : ∃ l, l = (at' zs j).1.length := ⟨_, rfl⟩
      obtain ⟨l2, hl2⟩ : ∃ l, l = (at' zs j).2.length := ⟨_, rfl⟩
      unfold maxLen at g1' g2'
      rw [f1, ← hl1] at hc0
      rw [f2, ← hl2] at hc1
      rw [← hl1] at g1
      rw [← hl2] at g2
      have HI1 := hide (show Lab.Is wr (.slice a1 l1 q1) (at' zs j).1 by rw [hl1, ← f1]; exact hEj.1)
      have HI2 := hide (show Sam.Is wr (.slice a2 l2 q2) (at' zs j).2 by rw [hl2, ← f2]; exact hEj.2)
      have HL1 := hide hl1
      have HL2 := hide hl2
      have hk0 : (0 : Int) ≤ (j : Int) := Int.natCast_nonneg _
      have hk1 : (j : Int) < (n : Int) := by omega
      have hq0 : ∀ x : Cls wr.heap.size wr, x.val.cell? ⟨b, off + j * 2, none⟩ = some (.slice a1 l1 q1) := fun x => by rw [x.cell (by omega)]; exact hc0
      have hq1 : ∀ x : Cls wr.heap.size wr, x.val.cell? ⟨b, off + j * 2 + 1, none⟩ = some (.slice a2 l2 q2) := fun x => by rw [x.cell (by omega)]; exact hc1
      have hne := cls_nonempty wr.heap.size wr
      clear fa hEj f1 f2 hl1 hl2 hc0 hc1
      have CL := hide (fun x : Cls wr.heap.size wr => Lab.spec_ok ((unhide HI1).below x.isBelow) hGj.1.2 hGj.1.1)
      have CS := hide (fun x : Cls wr.heap.size wr => Sam.l2ok ((unhide HI2).below x.isBelow))
      have CI := hide (fun x : Cls wr.heap.size wr => Zig.in_any (l2 : Int) 1 1000 x.val)
      cases hlab : Lab.ok (at' zs j).1
      · have HF := hide (ok_of_bad (zs := zs) (k := j) (by have := unhide HN; omega) (step_lab hlab))
        rw [hlab] at CL
        clear hlab
        go_wp2_with fail
        refine region_cls (by kernel_rfl) (by kernel_rfl) ?_
        repeat (go_big_quiet_step (first | (go_at_call 59; exact cls_call (Nat.le_refl _) (unhide CL _)) | (go_at_call 60; exact cls_call (Nat.le_refl _) (unhide CS _)) | (go_at_call 69; exact cls_same (unhide CI _))))
        refine wpQuiet_nil ?_
        rintro wq ⟨⟨_, hq⟩, rfl⟩
        have hbq := hbel.trans (hq.mono hsz)
        go_wp2_with fail
        go_ret
        exact ⟨ret_bool (unhide HF).symm, hbq⟩
      · rw [hlab] at CL
        have HLk := hide hlab
        cases hsam : SampMath.ok (at' zs j).2
        · have HF := hide (ok_of_bad (zs := zs) (k := j) (by have := unhide HN; omega) (step_sam hsam))
          rw [hsam] at CS
          clear hlab hsam
          go_wp2_with fail
          refine region_cls (by kernel_rfl) (by kernel_rfl) ?_
          repeat (go_big_quiet_step (first | (go_at_call 59; exact cls_call (Nat.le_refl _) (unhide CL _)) | (go_at_call 60; exact cls_call (Nat.le_refl _) (unhide CS _)) | (go_at_call 69; exact cls_same (unhide CI _))))
          refine wpQuiet_nil ?_
          rintro wq ⟨⟨_, hq⟩, rfl⟩
          have hbq := hbel.trans (hq.mono hsz)
          go_wp2_with fail
          go_ret
          exact ⟨ret_bool (unhide HF).symm, hbq⟩
        · rw [hsam] at CS
          have HSk := hide hsam
          clear hsam
          by_cases hs : 1 ≤ l2 ∧ l2 ≤ 1000
          · rw [show Zig.inB (l2 : Int) 1 1000 = true from by unfold Zig.inB; rw [decide_eq_true (by omega), decide_eq_true (by omega)]; rfl] at CI
            rcases j with _ | j
            · simp only [Nat.zero_mul, Nat.add_zero] at hq0 hq1
              have HU := hide (show okTo zs (0 + 1) = true by rw [okTo_succ, unhide HO, step_yes (unhide HLk) (by rw [← unhide HL2]; exact hs.1) (by rw [← unhide HL2]; exact hs.2) (unhide HSk) (.inl rfl)]; rfl)
              clear hlab hs
              go_wp2_with fail
              refine region_cls (by kernel_rfl) (by kernel_rfl) ?_
              repeat (go_big_quiet_step (first | (go_at_call 59; exact cls_call (Nat.le_refl _) (unhide CL _)) | (go_at_call 60; exact cls_call (Nat.le_refl _) (unhide CS _)) | (go_at_call 69; exact cls_same (unhide CI _))))
              refine wpQuiet_nil ?_
              rintro wq ⟨⟨_, hq⟩, rfl⟩
              have hbq := hbel.trans (hq.mono hsz)
              go_wp2
              go_roundw
              case rel => exact ⟨0 + 1, by omega, by go_num, HU, hbq⟩
              case measure => simp [intOf]; omega
            · have fp := flat_at cs j (by have := unhide HC; omega)
              have hEp := (unhide HE j (by have := unhide HN; omega)).below hbel
              have hp0 : ∀ x : Cls wr.heap.size wr, x.val.cell? ⟨b, off + j * 2, none⟩ = some (cat cs j).1 := fun x => by rw [x.cell (by omega)]; exact (hbel.cell (p := ⟨b, _, none⟩) hl).trans (hcells (j * 2) _ fp.1)
              have HCm := hide (fun x : Cls wr.heap.size wr => Lab.l3Cmp_any (hEp.1.below x.isBelow) ((unhide HI1).below x.isBelow))
              obtain ⟨a0, q0, f0, -, -⟩ := hEp.1.form
              obtain ⟨l0, hl0⟩ : ∃ l, l = (at' zs j).1.length := ⟨_, rfl⟩
              rw [← hl0] at f0
              rw [f0] at hp0 HCm
              clear fp hEp hlab f0 hl0
              have hj0 : (0 : Int) ≤ (j : Int) := Int.natCast_nonneg _
              have hj1 : (j : Int) < (n : Int) := by omega
              have hj2 : (((j + 1 : Nat) : Int)) - 1 = (j : Int) := by omega
              have HSt := hide (fun h => step_cmp (zs := zs) (k := j + 1) (by omega) h)
              simp only [Nat.add_sub_cancel] at HSt
              have hrg := Lab.cmpL_range (at' zs j).1 (at' zs (j + 1)).1
              obtain ⟨M, hM0⟩ : ∃ M, M = Lab.cmpL (at' zs j).1 (at' zs (j + 1)).1 := ⟨_, rfl⟩
              rw [← hM0] at HCm HSt hrg
              have HM0 := hide hM0
              clear hM0
              by_cases hM : M < 0
              · have HU := hide (show okTo zs (j + 1 + 1) = true by rw [okTo_succ, unhide HO, step_yes (unhide HLk) (by rw [← unhide HL2]; exact hs.1) (by rw [← unhide HL2]; exact hs.2) (unhide HSk) (.inr (by show Lab.cmpL (at' zs j).1 _ < 0; rw [← unhide HM0]; exact hM))]; rfl)
                have hM2 : ¬ 0 ≤ M := by omega
                clear hs
                go_wp2_with fail
                refine region_cls (by kernel_rfl) (by kernel_rfl) ?_
                repeat (go_big_quiet_step (first | (go_at_call 59; exact cls_call (Nat.le_refl _) (unhide CL _)) | (go_at_call 60; exact cls_call (Nat.le_refl _) (unhide CS _)) | (go_at_call 69; exact cls_same (unhide CI _)) | (go_at_call 94; exact cls_call (Nat.le_refl _) (unhide HCm _))))
                refine wpQuiet_nil ?_
                rintro wq ⟨⟨_, hq⟩, rfl⟩
                have hbq := hbel.trans (hq.mono hsz)
                go_wp2
                go_roundw
                case rel => exact ⟨j + 1 + 1, by omega, by go_num, HU, hbq⟩
                case measure => simp [intOf]; omega
              · have HF := hide (ok_of_bad (zs := zs) (k := j + 1) (by have := unhide HN; omega) (unhide HSt hM))
                have hM2 : 0 ≤ M := by omega
                clear hs
                go_wp2_with fail
                refine region_cls (by kernel_rfl) (by kernel_rfl) ?_
                repeat (go_big_quiet_step (first | (go_at_call 59; exact cls_call (Nat.le_refl _) (unhide CL _)) | (go_at_call 60; exact cls_call (Nat.le_refl _) (unhide CS _)) | (go_at_call 69; exact cls_same (unhide CI _)) | (go_at_call 94; exact cls_call (Nat.le_refl _) (unhide HCm _))))
                refine wpQuiet_nil ?_
                rintro wq ⟨⟨_, hq⟩, rfl⟩
                have hbq := hbel.trans (hq.mono hsz)
                go_wp2_with fail
                go_ret
                exact ⟨ret_bool (unhide HF).symm, hbq⟩
          · have HF := hide (ok_of_bad (zs := zs) (k := j) (by have := unhide HN; omega) (step_len (by rw [← unhide HL2]; omega)))
            rw [show Zig.inB (l2 : Int) 1 1000 = false from by unfold Zig.inB; rw [Bool.and_eq_false_iff, decide_eq_false_iff_not, decide_eq_false_iff_not]; omega] at CI
            clear hs hlab
            go_wp2_with fail
            refine region_cls (by kernel_rfl) (by kernel_rfl) ?_
            repeat (go_big_quiet_step (first | (go_at_call 59; exact cls_call (Nat.le_refl _) (unhide CL _)) | (go_at_call 60; exact cls_call (Nat.le_refl _) (unhide CS _)) | (go_at_call 69; exact cls_same (unhide CI _))))
            refine wpQuiet_nil ?_
            rintro wq ⟨⟨_, hq⟩, rfl⟩
            have hbq := hbel.trans (hq.mono hsz)
            go_wp2_with fail
            go_ret
            exact ⟨ret_bool (unhide HF).symm, hbq⟩
    · obtain rfl : j = n := by omega
      by_cases hbig : 10 < j
      · have HR := hide (show ok zs = false from ok_long (by have := unhide HN; omega))
        go_wp2
        go_ret
        exact ⟨ret_bool (by rw [unhide HR]; exact decide_eq_false (by omega)), hbel⟩
      · have HU := hide (show ok zs = true by unfold ok; rw [← unhide HN, unhide HO, decide_eq_true (by omega)]; rfl)
        go_wp2
        go_ret
        exact ⟨ret_bool (by rw [unhide HU]; exact decide_eq_true (by omega)), hbel⟩
end Go.Proofs.Ytdggffcibcggoaa.Row

/- MatchesLet of the model, at every slice of matches and of labels. -/
namespace Go.Proofs.Ytdggffcibcggoaa.Mat
open Go.RowKit Rw
set_option linter.unusedVariables false
attribute [local go_sem ↓] Go.wp_at_zero Go.wp_at_succ
set_option maxRecDepth 100000 in
set_option maxHeartbeats 4000000 in
theorem l3Let_any {w : World} {v : Value} {ls : List Lab.E} (K : Int) (A B : ByteArray) (h : Lab.Is w v ls) (hg : ∀ x ∈ ls, Lab.good x) (hB : B.size ≤ maxLen) :
    Calls Try.prog 154 #[.agg #[.int .i64 K, .string A, .string B], v] w fun e w' => e = .returned (.bool (letB (K, A, B) ls)) ∧ Below w.heap.size w w' := by
  have HU := hide (fun W (hb : Below w.heap.size w W) => l3Word_any A (h.below hb))
  have hXs := wordOf_size hg A
  obtain ⟨av, cv, ev⟩ : ∃ a c, v = .slice a ls.length c := by obtain ⟨-, a, c, e, -⟩ := h; exact ⟨a, c, e⟩
  subst ev
  clear h hg
  obtain ⟨R, hR⟩ : ∃ R, R = letB (K, A, B) ls := ⟨_, rfl⟩
  rw [← hR]
  unfold letB at hR
  simp only at hR
  have HR := hide hR
  clear hR
  generalize wordOf ls A = X at HU HR hXs
  unfold maxLen at hB hXs
  have HPE := hide (prefB_eq X B)
  obtain ⟨W, hW⟩ : ∃ W, W = w.alloc (.cells #[.int .i64 K, .string A, .string B] 119) := ⟨_, rfl⟩
  have hWb : Below w.heap.size w W := by rw [hW]; exact (Below.refl _ _).alloc (Nat.le_refl _) _
  have hWs : W.heap.size = w.heap.size + 1 := by rw [hW]; simp
  have q2 : ∀ x : Cls W.heap.size W, x.val.cell? ⟨w.heap.size, 2, none⟩ = some (.string B) := fun x => by rw [x.cell (by omega), hW]; simp
  have q0 : ∀ x : Cls W.heap.size W, x.val.cell? ⟨w.heap.size, 0, none⟩ = some (.int .i64 K) := fun x => by rw [x.cell (by omega), hW]; simp
  have HW := hide hW
  have HWs := hide hWs
  clear hW hWs
  have hne := cls_nonempty W.heap.size W
  have b0 : (0 : Int) ≤ (B.size : Int) := Int.natCast_nonneg _
  by_cases hlen : B.size ≤ X.size
  · have hge : (B.size : Int) ≤ (X.size : Int) := by omega
    cases hs : sameS (X.extract 0 B.size) B
    · have HPB := hide (show prefB X B = false by rw [unhide HPE, hs, decide_eq_true hlen]; rfl)
      have heq : ∀ W, (binOp .eql 9 (.string (X.extract 0 B.size)) (.string B)).run Try.prog W = .ok (.bool false) W := fun W => by rw [run_eqS, hs]
      have heq2 : ((X.extract 0 B.size).toList == B.toList) = false := hs
      clear hs
      go_enter Try.func154, Try.ntmps154
      go_wp2_with fail
      rw [← unhide HW]
      refine (unhide HU _ hWb).mono ?_
      rintro e w1 ⟨rfl, hw1⟩
      subst hw1
      go_wp2_with fail
      refine region_cls (by kernel_rfl) (by kernel_rfl) ?_
      repeat (go_big_quiet_step (fail))
      refine wpQuiet_nil ?_
      rintro wq ⟨⟨_, hq⟩, rfl⟩
      have k0 : wq.cell? ⟨w.heap.size, 0, none⟩ = some (.int .i64 K) := q0 ⟨wq, hq⟩
      have k2 : wq.cell? ⟨w.heap.size, 2, none⟩ = some (.string B) := q2 ⟨wq, hq⟩
      have cq := hWb.trans (hq.mono hWb.size)
      clear q0 q2 hq hne
      by_cases h1 : K = 1
      · subst h1
        have HF := hide (show R = sameS X B by rw [unhide HR]; rfl)
        go_wp2
        go_ret
        exact ⟨ret_bool (unhide HF).symm, cq⟩
      have e1 : (K == 1) = false := by simpa using h1
      by_cases h2 : K = 2
      · subst h2
        have HF := hide (show R = !sameS X B by rw [unhide HR]; rfl)
        go_wp2
        go_ret
        exact ⟨ret_bool (unhide HF).symm, cq⟩
      have e2 : (K == 2) = false := by simpa using h2
      by_cases h3 : K = 3
      · subst h3
        have HF := hide (show R = false by rw [unhide HR]; exact unhide HPB)
        go_wp2
        go_ret
        exact ⟨ret_bool (unhide HF).symm, cq⟩
      have e3 : (K == 3) = false := by simpa using h3
      have HF := hide (show R = true by rw [unhide HR, if_neg h1, if_neg h2, if_neg h3, unhide HPB]; rfl)
      go_wp2
      go_ret
      exact ⟨ret_bool (unhide HF).symm, cq⟩
    · have HPB := hide (show prefB X B = true by rw [unhide HPE, hs, decide_eq_true hlen]; rfl)
      have heq : ∀ W, (binOp .eql 9 (.string (X.extract 0 B.size)) (.string B)).run Try.prog W = .ok (.bool true) W := fun W => by rw [run_eqS, hs]
      have heq2 : ((X.extract 0 B.size).toList == B.toList) = true := hs
      clear hs
      go_enter Try.func154, Try.ntmps154
      go_wp2_with fail
      rw [← unhide HW]
      refine (unhide HU _ hWb).mono ?_
      rintro e w1 ⟨rfl, hw1⟩
      subst hw1
      go_wp2_with fail
      refine region_cls (by kernel_rfl) (by kernel_rfl) ?_
      repeat (go_big_quiet_step (fail))
      refine wpQuiet_nil ?_
      rintro wq ⟨⟨_, hq⟩, rfl⟩
      have k0 : wq.cell? ⟨w.heap.size, 0, none⟩ = some (.int .i64 K) := q0 ⟨wq, hq⟩
      have k2 : wq.cell? ⟨w.heap.size, 2, none⟩ = some (.string B) := q2 ⟨wq, hq⟩
      have cq := hWb.trans (hq.mono hWb.size)
      clear q0 q2 hq hne
      by_cases h1 : K = 1
      · subst h1
        have HF := hide (show R = sameS X B by rw [unhide HR]; rfl)
        go_wp2
        go_ret
        exact ⟨ret_bool (unhide HF).symm, cq⟩
      have e1 : (K == 1) = false := by simpa using h1
      by_cases h2 : K = 2
      · subst h2
        have HF := hide (show R = !sameS X B by rw [unhide HR]; rfl)
        go_wp2
        go_ret
        exact ⟨ret_bool (unhide HF).symm, cq⟩
      have e2 : (K == 2) = false := by simpa using h2
      by_cases h3 : K = 3
      · subst h3
        have HF := hide (show R = true by rw [unhide HR]; exact unhide HPB)
        go_wp2
        go_ret
        exact ⟨ret_bool (unhide HF).symm, cq⟩
      have e3 : (K == 3) = false := by simpa using h3
      have HF := hide (show R = false by rw [unhide HR, if_neg h1, if_neg h2, if_neg h3, unhide HPB]; rfl)
      go_wp2
      go_ret
      exact ⟨ret_bool (unhide HF).symm, cq⟩
  · have hge : decide ((B.size : Int) ≤ (X.size : Int)) = false := by simp; omega
    have HPB := hide (show prefB X B = false by rw [unhide HPE, decide_eq_false hlen]; rfl)
    go_enter Try.func154, Try.ntmps154
    go_wp2_with fail
    rw [← unhide HW]
    refine (unhide HU _ hWb).mono ?_
    rintro e w1 ⟨rfl, hw1⟩
    subst hw1
    go_wp2_with fail
    refine region_cls (by kernel_rfl) (by kernel_rfl) ?_
    repeat (go_big_quiet_step (fail))
    refine wpQuiet_nil ?_
    rintro wq ⟨⟨_, hq⟩, rfl⟩
    have k0 : wq.cell? ⟨w.heap.size, 0, none⟩ = some (.int .i64 K) := q0 ⟨wq, hq⟩
    have k2 : wq.cell? ⟨w.heap.size, 2, none⟩ = some (.string B) := q2 ⟨wq, hq⟩
    have cq := hWb.trans (hq.mono hWb.size)
    clear q0 q2 hq hne
    by_cases h1 : K = 1
    · subst h1
      have HF := hide (show R = sameS X B by rw [unhide HR]; rfl)
      go_wp2
      go_ret
      exact ⟨ret_bool (unhide HF).symm, cq⟩
    have e1 : (K == 1) = false := by simpa using h1
    by_cases h2 : K = 2
    · subst h2
      have HF := hide (show R = !sameS X B by rw [unhide HR]; rfl)
      go_wp2
      go_ret
      exact ⟨ret_bool (unhide HF).symm, cq⟩
    have e2 : (K == 2) = false := by simpa using h2
    by_cases h3 : K = 3
    · subst h3
      have HF := hide (show R = false by rw [unhide HR]; exact unhide HPB)
      go_wp2
      go_ret
      exact ⟨ret_bool (unhide HF).symm, cq⟩
    have e3 : (K == 3) = false := by simpa using h3
    have HF := hide (show R = true by rw [unhide HR, if_neg h1, if_neg h2, if_neg h3, unhide HPB]; rfl)
    go_wp2
    go_ret
    exact ⟨ret_bool (unhide HF).symm, cq⟩
end Go.Proofs.Ytdggffcibcggoaa.Mat

/- MatchesLet of the model. -/
namespace Go.Proofs.Ytdggffcibcggoaa.Mat
open Go.RowKit Rw
set_option linter.unusedVariables false
attribute [local go_sem ↓] Go.wp_at_zero Go.wp_at_succ
set_option maxRecDepth 100000 in
set_option maxHeartbeats 2000000 in
theorem l3Lets_any {w : World} {v u : Value} {zs : List E} {ls : List Lab.E} (h : Is w v zs) (h' : Lab.Is w u ls) (hg : ∀ x ∈ zs, good x) (hg' : ∀ x ∈ ls, Lab.good x) :
    Calls Try.prog 136 #[v, u] w fun e w' => e = .returned (.bool (lets zs ls)) ∧ Below w.heap.size w w' := by
  have HU := hide (fun K A B (hB : B.size ≤ maxLen) W (hb : Below w.heap.size w W) => l3Let_any K A B (h'.below hb) hg' hB)
  obtain ⟨au, cu, eu⟩ : ∃ a c, u = .slice a ls.length c := by obtain ⟨-, a, c, e, -⟩ := h'; exact ⟨a, c, e⟩
  subst eu
  clear h' hg'
  obtain ⟨-, a, cap, rfl, hc, hm, -, hr⟩ := h
  unfold maxLen at hm
  obtain ⟨n, hn⟩ : ∃ n, n = zs.length := ⟨_, rfl⟩
  rw [← hn] at hc hr ⊢
  have HN := hide hn
  have HG := hide hg
  clear hn hg
  obtain ⟨R, hR⟩ : ∃ R, R = lets zs ls := ⟨_, rfl⟩
  rw [← hR]
  have HML := hide hR
  clear hR
  go_enter Try.func136, Try.ntmps136
  go_wp2_with fail
  go_loopw [5] (fun i wr => ∃ k : Nat, k ≤ n ∧ i = .int .i64 k ∧ letsTo zs ls k = true ∧ Below w.heap.size w wr) (fun i _ => n - (intOf i).toNat)
  case atStart => exact ⟨0, Nat.zero_le _, rfl, rfl, Below.refl _ _⟩
  case round =>
    obtain ⟨k, hk, rfl, hok, hbel⟩ := hrel
    have HO := hide hok
    clear hok
    have hsz := hbel.size
    by_cases hlt : k < n
    · obtain ⟨b, off, rfl, hl, hcells⟩ := hr (by omega)
      have fa := flat_at zs k (by have := unhide HN; omega)
      have gd := unhide HG (at' zs k) (by rw [at_get zs k (by have := unhide HN; omega)]; exact List.getElem_mem _)
      obtain ⟨KK, A, B, hX⟩ : ∃ K A B, (K, A, B) = at' zs k := ⟨_, _, _, rfl⟩
      rw [← hX] at fa gd
      have hc0 : wr.cell? ⟨b, off + k * 3, none⟩ = some (.int .i64 KK) := (hbel.cell (p := ⟨b, _, none⟩) hl).trans (hcells (k * 3) _ fa.1)
      have hc1 : wr.cell? ⟨b, off + k * 3 + 1, none⟩ = some (.string A) := (hbel.cell (p := ⟨b, _, none⟩) hl).trans (hcells (k * 3 + 1) _ fa.2.1)
      have hc2 : wr.cell? ⟨b, off + k * 3 + 2, none⟩ = some (.string B) := (hbel.cell (p := ⟨b, _, none⟩) hl).trans (hcells (k * 3 + 2) _ fa.2.2)
      have HX := hide hX
      have HL := hide (unhide HU KK A B gd.2.2 wr hbel)
      clear hX fa gd
      have hk0 : (0 : Int) ≤ (k : Int) := Int.natCast_nonneg _
      have hk1 : (k : Int) < (n : Int) := by omega
      cases hq : letB (KK, A, B) ls
      · have HF := hide (show R = false by rw [unhide HML]; exact lets_no zs ls k (by have := unhide HN; omega) (by rw [← unhide HX]; exact hq))
        rw [hq] at HL
        clear hq
        go_wp2_with fail
        refine (unhide HL).mono ?_
        rintro e w2 ⟨rfl, b2⟩
        have c2 := hbel.trans (b2.mono hsz)
        go_wp2_with fail
        go_ret
        exact ⟨ret_bool (unhide HF).symm, c2⟩
      · have HS := hide (show letsTo zs ls (k + 1) = true by rw [letsTo_succ zs ls k (by have := unhide HN; omega), unhide HO, ← unhide HX, hq]; rfl)
        rw [hq] at HL
        clear hq
        go_wp2_with fail
        refine (unhide HL).mono ?_
        rintro e w2 ⟨rfl, b2⟩
        have c2 := hbel.trans (b2.mono hsz)
        go_wp2_with fail
        go_roundw
        case rel => exact ⟨k + 1, by omega, by go_num, unhide HS, c2⟩
        case measure => simp [intOf]; omega
    · have HF := hide (show R = true by rw [unhide HML]; exact lets_all zs ls (by rw [← unhide HN, show n = k from by omega]; exact unhide HO))
      have hkf : decide ((k : Int) < (n : Int)) = false := by simp; omega
      go_wp2_with fail
      go_ret
      exact ⟨ret_bool (unhide HF).symm, hbel⟩
end Go.Proofs.Ytdggffcibcggoaa.Mat
