/- My own texts of one claim, laid together by program: RowOk2, Let3, Let4, RowAsk2. -/
import Derived.Test.YtlboekimnhgfdaaGreatG5809efe2b5
import Derived.Test.YtlboekimnhgfdaaGreatGced19cb9cc
import Derived.Test.YtlboekimnhgfdaaGreatGfbf2e4a745
import Derived.Test.YtlboekimnhgfdaaGreatG7bcfe9c19e
import Derived.Test.YtlboekimnhgfdaaGreatG32ba85294a
/- RowsOk of the model, at every slice of rows. -/
namespace Go.Proofs.YtlboekimnhgfdaaGreat.Row
open Go.RowKit Rw
set_option linter.unusedVariables false
attribute [local go_sem ↓] Go.wp_at_zero Go.wp_at_succ
set_option maxRecDepth 100000 in
set_option maxHeartbeats 8000000 in
theorem spec_ok {w : World} {v : Value} {zs : List E} (h : Is w v zs) (hg : ∀ x ∈ zs, good x) (hlen : zs.length ≤ maxLen) : Calls Tryz.prog 59 #[v] w fun e w' => e = .returned (.bool (ok zs)) ∧ Below w.heap.size w w' := by
  obtain ⟨cs, hcs, hL, hE⟩ := h
  have HE := hide hE
  have HG := hide hg
  obtain ⟨-, a, cap, rfl, hc, hm, -, hr⟩ := hL
  unfold maxLen at hm hlen
  obtain ⟨n, hn⟩ : ∃ n, n = zs.length := ⟨_, rfl⟩
  rw [← hn] at hc hr hcs hlen ⊢
  have HN := hide hn
  have HC := hide hcs
  clear hn hE hg hcs
  go_enter Tryz.func59, Tryz.ntmps59
  go_wp2_with fail
  go_loopw [3] (fun i wr => ∃ (j : Nat), j ≤ n ∧ i = .int .i64 j ∧ Hid (okTo zs j = true) ∧ Below w.heap.size w wr) (fun i _ => n - (intOf i).toNat)
  case atStart => exact ⟨0, Nat.zero_le _, rfl, hide rfl, Below.refl _ _⟩
  case round =>
    obtain ⟨j, hj, rfl, HO, hbel⟩ := hrel
    have hsz := hbel.size
    by_cases hlt : j < n
    · obtain ⟨b, off, rfl, hl, hcells⟩ := hr (by omega)
      have fa := flat_at cs j (by have := unhide HC; omega)
      have hc0 : wr.cell? ⟨b, off + j * 2, none⟩ = some (cat cs j).1 := (hbel.cell (p := ⟨b, _, none⟩) hl).trans (hcells (j * 2) _ fa.1)
      have hc1 : wr.cell? ⟨b, off + j * 2 + 1, none⟩ = some (cat cs j).2 := (hbel.cell (p := ⟨b, _, none⟩) hl).trans (hcells (j * 2 + 1) _ fa.2)
      have hEj := (unhide HE j (by have := unhide HN; omega)).below hbel
      have hGj := unhide HG _ (at_mem zs j (by have := unhide HN; omega))
      obtain ⟨a1, q1, f1, g1, g1'⟩ := hEj.1.form
      obtain ⟨a2, q2, f2, g2, g2'⟩ := hEj.2.form
      obtain ⟨l1, hl1⟩ : ∃ l, l = (at' zs j).1.length := ⟨_, rfl⟩
      obtain ⟨l2, hl2⟩ : ∃ l, l = (at' zs j).2.length := ⟨_, rfl⟩
      unfold maxLen at g1' g2'
      rw [f1, ← hl1] at hc0
      rw [f2, ← hl2] at hc1
      rw [← hl1] at g1
      rw [← hl2] at g2
      have HI1 := hide (show Lab.Is wr (.slice a1 l1 q1) (at' zs j).1 by rw [hl1, ← f1]; exact hEj.1)
      have HI2 := hide (show Sam.Is wr (.slice a2 l2 q2) (at' zs j).2 by rw [hl2, ← f2]; exact hEj.2)
      have HL1 := hide hl1
      have HL2 := hide hl2
      have hk0 : (0 : Int) ≤ (j : Int) := Int.natCast_nonneg _
      have hk1 : (j : Int) < (n : Int) := by omega
      have hq0 : ∀ x : Cls wr.heap.size wr, x.val.cell? ⟨b, off + j * 2, none⟩ = some (.slice a1 l1 q1) := fun x => by rw [x.cell (by omega)]; exact hc0
      have hq1 : ∀ x : Cls wr.heap.size wr, x.val.cell? ⟨b, off + j * 2 + 1, none⟩ = some (.slice a2 l2 q2) := fun x => by rw [x.cell (by omega)]; exact hc1
      have hne := cls_nonempty wr.heap.size wr
      clear fa hEj f1 f2 hl1 hl2 hc0 hc1
      have CL := hide (fun x : Cls wr.heap.size wr => Lab.spec_ok ((unhide HI1).below x.isBelow) hGj.1.2 hGj.1.1)
      have CS := hide (fun x : Cls wr.heap.size wr => Sam.l2ok ((unhide HI2).below x.isBelow))
      have CI := hide (fun x : Cls wr.heap.size wr => Zig.in_any (l2 : Int) 1 1000 x.val)
      cases hlab : Lab.ok (at' zs j).1
      · have HF := hide (ok_of_bad (zs := zs) (k := j) (by have := unhide HN; omega) (step_lab hlab))
        rw [hlab] at CL
        clear hlab
        go_wp2_with fail
        refine region_cls (by kernel_rfl) (by kernel_rfl) ?_
        repeat (go_big_quiet_step (first | (go_at_call 106; exact cls_call (Nat.le_refl _) (unhide CL _)) | (go_at_call 107; exact cls_call (Nat.le_refl _) (unhide CS _)) | (go_at_call 60; exact cls_same (unhide CI _))))
        refine wpQuiet_nil ?_
        rintro wq ⟨⟨_, hq⟩, rfl⟩
        have hbq := hbel.trans (hq.mono hsz)
        go_wp2_with fail
        go_ret
        exact ⟨ret_bool (unhide HF).symm, hbq⟩
      · rw [hlab] at CL
        have HLk := hide hlab
        cases hsam : SampMath.ok (at' zs j).2
        · have HF := hide (ok_of_bad (zs := zs) (k := j) (by have := unhide HN; omega) (step_sam hsam))
          rw [hsam] at CS
          clear hlab hsam
          go_wp2_with fail
          refine region_cls (by kernel_rfl) (by kernel_rfl) ?_
          repeat (go_big_quiet_step (first | (go_at_call 106; exact cls_call (Nat.le_refl _) (unhide CL _)) | (go_at_call 107; exact cls_call (Nat.le_refl _) (unhide CS _)) | (go_at_call 60; exact cls_same (unhide CI _))))
          refine wpQuiet_nil ?_
          rintro wq ⟨⟨_, hq⟩, rfl⟩
          have hbq := hbel.trans (hq.mono hsz)
          go_wp2_with fail
          go_ret
          exact ⟨ret_bool (unhide HF).symm, hbq⟩
        · rw [hsam] at CS
          have HSk := hide hsam
          clear hsam
          by_cases hs : 1 ≤ l2 ∧ l2 ≤ 1000
          · rw [show Zig.inB (l2 : Int) 1 1000 = true from by unfold Zig.inB; rw [decide_eq_true (by omega), decide_eq_true (by omega)]; rfl] at CI
            rcases j with _ | j
            · simp only [Nat.zero_mul, Nat.add_zero] at hq0 hq1
              have HU := hide (show okTo zs (0 + 1) = true by rw [okTo_succ, unhide HO, step_yes (unhide HLk) (by rw [← unhide HL2]; exact hs.1) (by rw [← unhide HL2]; exact hs.2) (unhide HSk) (.inl rfl)]; rfl)
              clear hlab hs
              go_wp2_with fail
              refine region_cls (by kernel_rfl) (by kernel_rfl) ?_
              repeat (go_big_quiet_step (first | (go_at_call 106; exact cls_call (Nat.le_refl _) (unhide CL _)) | (go_at_call 107; exact cls_call (Nat.le_refl _) (unhide CS _)) | (go_at_call 60; exact cls_same (unhide CI _))))
              refine wpQuiet_nil ?_
              rintro wq ⟨⟨_, hq⟩, rfl⟩
              have hbq := hbel.trans (hq.mono hsz)
              go_wp2
              go_roundw
              case rel => exact ⟨0 + 1, by omega, by go_num, HU, hbq⟩
              case measure => simp [intOf]; omega
            · have fp := flat_at cs j (by have := unhide HC; omega)
              have hEp := (unhide HE j (by have := unhide HN; omega)).below hbel
              have hp0 : ∀ x : Cls wr.heap.size wr, x.val.cell? ⟨b, off + j * 2, none⟩ = some (cat cs j).1 := fun x => by rw [x.cell (by omega)]; exact (hbel.cell (p := ⟨b, _, none⟩) hl).trans (hcells (j * 2) _ fp.1)
              have HCm := hide (fun x : Cls wr.heap.size wr => Lab.l3Cmp_any (hEp.1.below x.isBelow) ((unhide HI1).below x.isBelow))
              obtain ⟨a0, q0, f0, -, -⟩ := hEp.1.form
              obtain ⟨l0, hl0⟩ : ∃ l, l = (at' zs j).1.length := ⟨_, rfl⟩
              rw [← hl0] at f0
              rw [f0] at hp0 HCm
              clear fp hEp hlab f0 hl0
              have hj0 : (0 : Int) ≤ (j : Int) := Int.natCast_nonneg _
              have hj1 : (j : Int) < (n : Int) := by omega
              have hj2 : (((j + 1 : Nat) : Int)) - 1 = (j : Int) := by omega
              have HSt := hide (fun h => step_cmp (zs := zs) (k := j + 1) (by omega) h)
              simp only [Nat.add_sub_cancel] at HSt
              have hrg := Lab.cmpL_range (at' zs j).1 (at' zs (j + 1)).1
              obtain ⟨M, hM0⟩ : ∃ M, M = Lab.cmpL (at' zs j).1 (at' zs (j + 1)).1 := ⟨_, rfl⟩
              rw [← hM0] at HCm HSt hrg
              have HM0 := hide hM0
              clear hM0
              by_cases hM : M < 0
              · have HU := hide (show okTo zs (j + 1 + 1) = true by rw [okTo_succ, unhide HO, step_yes (unhide HLk) (by rw [← unhide HL2]; exact hs.1) (by rw [← unhide HL2]; exact hs.2) (unhide HSk) (.inr (by show Lab.cmpL (at' zs j).1 _ < 0; rw [← unhide HM0]; exact hM))]; rfl)
                have hM2 : ¬ 0 ≤ M := by omega
                clear hs
                go_wp2_with fail
                refine region_cls (by kernel_rfl) (by kernel_rfl) ?_
                repeat (go_big_quiet_step (first | (go_at_call 106; exact cls_call (Nat.le_refl _) (unhide CL _)) | (go_at_call 107; exact cls_call (Nat.le_refl _) (unhide CS _)) | (go_at_call 60; exact cls_same (unhide CI _)) | (go_at_call 108; exact cls_call (Nat.le_refl _) (unhide HCm _))))
                refine wpQuiet_nil ?_
                rintro wq ⟨⟨_, hq⟩, rfl⟩
                have hbq := hbel.trans (hq.mono hsz)
                go_wp2
                go_roundw
                case rel => exact ⟨j + 1 + 1, by omega, by go_num, HU, hbq⟩
                case measure => simp [intOf]; omega
              · have HF := hide (ok_of_bad (zs := zs) (k := j + 1) (by have := unhide HN; omega) (unhide HSt hM))
                have hM2 : 0 ≤ M := by omega
                clear hs
                go_wp2_with fail
                refine region_cls (by kernel_rfl) (by kernel_rfl) ?_
                repeat (go_big_quiet_step (first | (go_at_call 106; exact cls_call (Nat.le_refl _) (unhide CL _)) | (go_at_call 107; exact cls_call (Nat.le_refl _) (unhide CS _)) | (go_at_call 60; exact cls_same (unhide CI _)) | (go_at_call 108; exact cls_call (Nat.le_refl _) (unhide HCm _))))
                refine wpQuiet_nil ?_
                rintro wq ⟨⟨_, hq⟩, rfl⟩
                have hbq := hbel.trans (hq.mono hsz)
                go_wp2_with fail
                go_ret
                exact ⟨ret_bool (unhide HF).symm, hbq⟩
          · have HF := hide (ok_of_bad (zs := zs) (k := j) (by have := unhide HN; omega) (step_len (by rw [← unhide HL2]; omega)))
            rw [show Zig.inB (l2 : Int) 1 1000 = false from by unfold Zig.inB; rw [Bool.and_eq_false_iff, decide_eq_false_iff_not, decide_eq_false_iff_not]; omega] at CI
            clear hs hlab
            go_wp2_with fail
            refine region_cls (by kernel_rfl) (by kernel_rfl) ?_
            repeat (go_big_quiet_step (first | (go_at_call 106; exact cls_call (Nat.le_refl _) (unhide CL _)) | (go_at_call 107; exact cls_call (Nat.le_refl _) (unhide CS _)) | (go_at_call 60; exact cls_same (unhide CI _))))
            refine wpQuiet_nil ?_
            rintro wq ⟨⟨_, hq⟩, rfl⟩
            have hbq := hbel.trans (hq.mono hsz)
            go_wp2_with fail
            go_ret
            exact ⟨ret_bool (unhide HF).symm, hbq⟩
    · obtain rfl : j = n := by omega
      by_cases hbig : 10 < j
      · have HR := hide (show ok zs = false from ok_long (by have := unhide HN; omega))
        go_wp2
        go_ret
        exact ⟨ret_bool (by rw [unhide HR]; exact decide_eq_false (by omega)), hbel⟩
      · have HU := hide (show ok zs = true by unfold ok; rw [← unhide HN, unhide HO, decide_eq_true (by omega)]; rfl)
        go_wp2
        go_ret
        exact ⟨ret_bool (by rw [unhide HU]; exact decide_eq_true (by omega)), hbel⟩
end Go.Proofs.YtlboekimnhgfdaaGreat.Row

/- MatchesLet of the model, at every slice of matches and of labels. -/
namespace Go.Proofs.YtlboekimnhgfdaaGreat.Mat
open Go.RowKit Rw
set_option linter.unusedVariables false
attribute [local go_sem ↓] Go.wp_at_zero Go.wp_at_succ
set_option maxRecDepth 100000 in
set_option maxHeartbeats 4000000 in
theorem l3Let_any {w : World} {v : Value} {ls : List Lab.E} (K : Int) (A B : ByteArray) (h : Lab.Is w v ls) (hg : ∀ x ∈ ls, Lab.good x) (hB : B.size ≤ maxLen) :
    Calls Tryz.prog 137 #[.agg #[.int .i64 K, .string A, .string B], v] w fun e w' => e = .returned (.bool (letB (K, A, B) ls)) ∧ Below w.heap.size w w' := by
  have HU := hide (fun W (hb : Below w.heap.size w W) => l3Word_any A (h.below hb))
  have hXs := wordOf_size hg A
  obtain ⟨av, cv, ev⟩ : ∃ a c, v = .slice a ls.length c := by obtain ⟨-, a, c, e, -⟩ := h; exact ⟨a, c, e⟩
  subst ev
  clear h hg
  obtain ⟨R, hR⟩ : ∃ R, R = letB (K, A, B) ls := ⟨_, rfl⟩
  rw [← hR]
  unfold letB at hR
  simp only at hR
  have HR := hide hR
  clear hR
  generalize wordOf ls A = X at HU HR hXs
  unfold maxLen at hB hXs
  have HPE := hide (prefB_eq X B)
  obtain ⟨W, hW⟩ : ∃ W, W = w.alloc (.cells #[.int .i64 K, .string A, .string B] 86) := ⟨_, rfl⟩
  have hWb : Below w.heap.size w W := by rw [hW]; exact (Below.refl _ _).alloc (Nat.le_refl _) _
  have hWs : W.heap.size = w.heap.size + 1 := by rw [hW]; simp
  have q2 : ∀ x : Cls W.heap.size W, x.val.cell? ⟨w.heap.size, 2, none⟩ = some (.string B) := fun x => by rw [x.cell (by omega), hW]; simp
  have q0 : ∀ x : Cls W.heap.size W, x.val.cell? ⟨w.heap.size, 0, none⟩ = some (.int .i64 K) := fun x => by rw [x.cell (by omega), hW]; simp
  have HW := hide hW
  have HWs := hide hWs
  clear hW hWs
  have hne := cls_nonempty W.heap.size W
  have b0 : (0 : Int) ≤ (B.size : Int) := Int.natCast_nonneg _
  by_cases hlen : B.size ≤ X.size
  · have hge : (B.size : Int) ≤ (X.size : Int) := by omega
    cases hs : sameS (X.extract 0 B.size) B
    · have HPB := hide (show prefB X B = false by rw [unhide HPE, hs, decide_eq_true hlen]; rfl)
      have heq : ∀ W, (binOp .eql 9 (.string (X.extract 0 B.size)) (.string B)).run Tryz.prog W = .ok (.bool false) W := fun W => by rw [run_eqS, hs]
      have heq2 : ((X.extract 0 B.size).toList == B.toList) = false := hs
      clear hs
      go_enter Tryz.func137, Tryz.ntmps137
      go_wp2_with fail
      rw [← unhide HW]
      refine (unhide HU _ hWb).mono ?_
      rintro e w1 ⟨rfl, hw1⟩
      subst hw1
      go_wp2_with fail
      refine region_cls (by kernel_rfl) (by kernel_rfl) ?_
      repeat (go_big_quiet_step (fail))
      refine wpQuiet_nil ?_
      rintro wq ⟨⟨_, hq⟩, rfl⟩
      have k0 : wq.cell? ⟨w.heap.size, 0, none⟩ = some (.int .i64 K) := q0 ⟨wq, hq⟩
      have k2 : wq.cell? ⟨w.heap.size, 2, none⟩ = some (.string B) := q2 ⟨wq, hq⟩
      have cq := hWb.trans (hq.mono hWb.size)
      clear q0 q2 hq hne
      by_cases h1 : K = 1
      · subst h1
        have HF := hide (show R = sameS X B by rw [unhide HR]; rfl)
        go_wp2
        go_ret
        exact ⟨ret_bool (unhide HF).symm, cq⟩
      have e1 : (K == 1) = false := by simpa using h1
      by_cases h2 : K = 2
      · subst h2
        have HF := hide (show R = !sameS X B by rw [unhide HR]; rfl)
        go_wp2
        go_ret
        exact ⟨ret_bool (unhide HF).symm, cq⟩
      have e2 : (K == 2) = false := by simpa using h2
      by_cases h3 : K = 3
      · subst h3
        have HF := hide (show R = false by rw [unhide HR]; exact unhide HPB)
        go_wp2
        go_ret
        exact ⟨ret_bool (unhide HF).symm, cq⟩
      have e3 : (K == 3) = false := by simpa using h3
      have HF := hide (show R = true by rw [unhide HR, if_neg h1, if_neg h2, if_neg h3, unhide HPB]; rfl)
      go_wp2
      go_ret
      exact ⟨ret_bool (unhide HF).symm, cq⟩
    · have HPB := hide (show prefB X B = true by rw [unhide HPE, hs, decide_eq_true hlen]; rfl)
      have heq : ∀ W, (binOp .eql 9 (.string (X.extract 0 B.size)) (.string B)).run Tryz.prog W = .ok (.bool true) W := fun W => by rw [run_eqS, hs]
      have heq2 : ((X.extract 0 B.size).toList == B.toList) = true := hs
      clear hs
      go_enter Tryz.func137, Tryz.ntmps137
      go_wp2_with fail
      rw [← unhide HW]
      refine (unhide HU _ hWb).mono ?_
      rintro e w1 ⟨rfl, hw1⟩
      subst hw1
      go_wp2_with fail
      refine region_cls (by kernel_rfl) (by kernel_rfl) ?_
      repeat (go_big_quiet_step (fail))
      refine wpQuiet_nil ?_
      rintro wq ⟨⟨_, hq⟩, rfl⟩
      have k0 : wq.cell? ⟨w.heap.size, 0, none⟩ = some (.int .i64 K) := q0 ⟨wq, hq⟩
      have k2 : wq.cell? ⟨w.heap.size, 2, none⟩ = some (.string B) := q2 ⟨wq, hq⟩
      have cq := hWb.trans (hq.mono hWb.size)
      clear q0 q2 hq hne
      by_cases h1 : K = 1
      · subst h1
        have HF := hide (show R = sameS X B by rw [unhide HR]; rfl)
        go_wp2
        go_ret
        exact ⟨ret_bool (unhide HF).symm, cq⟩
      have e1 : (K == 1) = false := by simpa using h1
      by_cases h2 : K = 2
      · subst h2
        have HF := hide (show R = !sameS X B by rw [unhide HR]; rfl)
        go_wp2
        go_ret
        exact ⟨ret_bool (unhide HF).symm, cq⟩
      have e2 : (K == 2) = false := by simpa using h2
      by_cases h3 : K = 3
      · subst h3
        have HF := hide (show R = true by rw [unhide HR]; exact unhide HPB)
        go_wp2
        go_ret
        exact ⟨ret_bool (unhide HF).symm, cq⟩
      have e3 : (K == 3) = false := by simpa using h3
      have HF := hide (show R = false by rw [unhide HR, if_neg h1, if_neg h2, if_neg h3, unhide HPB]; rfl)
      go_wp2
      go_ret
      exact ⟨ret_bool (unhide HF).symm, cq⟩
  · have hge : decide ((B.size : Int) ≤ (X.size : Int)) = false := by simp; omega
    have HPB := hide (show prefB X B = false by rw [unhide HPE, decide_eq_false hlen]; rfl)
    go_enter Tryz.func137, Tryz.ntmps137
    go_wp2_with fail
    rw [← unhide HW]
    refine (unhide HU _ hWb).mono ?_
    rintro e w1 ⟨rfl, hw1⟩
    subst hw1
    go_wp2_with fail
    refine region_cls (by kernel_rfl) (by kernel_rfl) ?_
    repeat (go_big_quiet_step (fail))
    refine wpQuiet_nil ?_
    rintro wq ⟨⟨_, hq⟩, rfl⟩
    have k0 : wq.cell? ⟨w.heap.size, 0, none⟩ = some (.int .i64 K) := q0 ⟨wq, hq⟩
    have k2 : wq.cell? ⟨w.heap.size, 2, none⟩ = some (.string B) := q2 ⟨wq, hq⟩
    have cq := hWb.trans (hq.mono hWb.size)
    clear q0 q2 hq hne
    by_cases h1 : K = 1
    · subst h1
      have HF := hide (show R = sameS X B by rw [unhide HR]; rfl)
      go_wp2
      go_ret
      exact ⟨ret_bool (unhide HF).symm, cq⟩
    have e1 : (K == 1) = false := by simpa using h1
    by_cases h2 : K = 2
    · subst h2
      have HF := hide (show R = !sameS X B by rw [unhide HR]; rfl)
      go_wp2
      go_ret
      exact ⟨ret_bool (unhide HF).symm, cq⟩
    have e2 : (K == 2) = false := by simpa using h2
    by_cases h3 : K = 3
    · subst h3
      have HF := hide (show R = false by rw [unhide HR]; exact unhide HPB)
      go_wp2
      go_ret
      exact ⟨ret_bool (unhide HF).symm, cq⟩
    have e3 : (K == 3) = false := by simpa using h3
    have HF := hide (show R = true by rw [unhide HR, if_neg h1, if_neg h2, if_neg h3, unhide HPB]; rfl)
    go_wp2
    go_ret
    exact ⟨ret_bool (unhide HF).symm, cq⟩
end Go.Proofs.YtlboekimnhgfdaaGreat.Mat

/- MatchesLet of the model. -/
namespace Go.Proofs.YtlboekimnhgfdaaGreat.Mat
open Go.RowKit Rw
set_option linter.unusedVariables false
attribute [local go_sem ↓] Go.wp_at_zero Go.wp_at_succ
set_option maxRecDepth 100000 in
set_option maxHeartbeats 2000000 in
theorem l3Lets_any {w : World} {v u : Value} {zs : List E} {ls : List Lab.E} (h : Is w v zs) (h' : Lab.Is w u ls) (hg : ∀ x ∈ zs, good x) (hg' : ∀ x ∈ ls, Lab.good x) :
    Calls Tryz.prog 104 #[v, u] w fun e w' => e = .returned (.bool (lets zs ls)) ∧ Below w.heap.size w w' := by
  have HU := hide (fun K A B (hB : B.size ≤ maxLen) W (hb : Below w.heap.size w W) => l3Let_any K A B (h'.below hb) hg' hB)
  obtain ⟨au, cu, eu⟩ : ∃ a c, u = .slice a ls.length c := by obtain ⟨-, a, c, e, -⟩ := h'; exact ⟨a, c, e⟩
  subst eu
  clear h' hg'
  obtain ⟨-, a, cap, rfl, hc, hm, -, hr⟩ := h
  unfold maxLen at hm
  obtain ⟨n, hn⟩ : ∃ n, n = zs.length := ⟨_, rfl⟩
  rw [← hn] at hc hr ⊢
  have HN := hide hn
  have HG := hide hg
  clear hn hg
  obtain ⟨R, hR⟩ : ∃ R, R = lets zs ls := ⟨_, rfl⟩
  rw [← hR]
  have HML := hide hR
  clear hR
  go_enter Tryz.func104, Tryz.ntmps104
  go_wp2_with fail
  go_loopw [5] (fun i wr => ∃ k : Nat, k ≤ n ∧ i = .int .i64 k ∧ letsTo zs ls k = true ∧ Below w.heap.size w wr) (fun i _ => n - (intOf i).toNat)
  case atStart => exact ⟨0, Nat.zero_le _, rfl, rfl, Below.refl _ _⟩
  case round =>
    obtain ⟨k, hk, rfl, hok, hbel⟩ := hrel
    have HO := hide hok
    clear hok
    have hsz := hbel.size
    by_cases hlt : k < n
    · obtain ⟨b, off, rfl, hl, hcells⟩ := hr (by omega)
      have fa := flat_at zs k (by have := unhide HN; omega)
      have gd := unhide HG (at' zs k) (by rw [at_get zs k (by have := unhide HN; omega)]; exact List.getElem_mem _)
      obtain ⟨KK, A, B, hX⟩ : ∃ K A B, (K, A, B) = at' zs k := ⟨_, _, _, rfl⟩
      rw [← hX] at fa gd
      have hc0 : wr.cell? ⟨b, off + k * 3, none⟩ = some (.int .i64 KK) := (hbel.cell (p := ⟨b, _, none⟩) hl).trans (hcells (k * 3) _ fa.1)
      have hc1 : wr.cell? ⟨b, off + k * 3 + 1, none⟩ = some (.string A) := (hbel.cell (p := ⟨b, _, none⟩) hl).trans (hcells (k * 3 + 1) _ fa.2.1)
      have hc2 : wr.cell? ⟨b, off + k * 3 + 2, none⟩ = some (.string B) := (hbel.cell (p := ⟨b, _, none⟩) hl).trans (hcells (k * 3 + 2) _ fa.2.2)
      have HX := hide hX
      have HL := hide (unhide HU KK A B gd.2.2 wr hbel)
      clear hX fa gd
      have hk0 : (0 : Int) ≤ (k : Int) := Int.natCast_nonneg _
      have hk1 : (k : Int) < (n : Int) := by omega
      cases hq : letB (KK, A, B) ls
      · have HF := hide (show R = false by rw [unhide HML]; exact lets_no zs ls k (by have := unhide HN; omega) (by rw [← unhide HX]; exact hq))
        rw [hq] at HL
        clear hq
        go_wp2_with fail
        refine (unhide HL).mono ?_
        rintro e w2 ⟨rfl, b2⟩
        have c2 := hbel.trans (b2.mono hsz)
        go_wp2_with fail
        go_ret
        exact ⟨ret_bool (unhide HF).symm, c2⟩
      · have HS := hide (show letsTo zs ls (k + 1) = true by rw [letsTo_succ zs ls k (by have := unhide HN; omega), unhide HO, ← unhide HX, hq]; rfl)
        rw [hq] at HL
        clear hq
        go_wp2_with fail
        refine (unhide HL).mono ?_
        rintro e w2 ⟨rfl, b2⟩
        have c2 := hbel.trans (b2.mono hsz)
        go_wp2_with fail
        go_roundw
        case rel => exact ⟨k + 1, by omega, by go_num, unhide HS, c2⟩
        case measure => simp [intOf]; omega
    · have HF := hide (show R = true by rw [unhide HML]; exact lets_all zs ls (by rw [← unhide HN, show n = k from by omega]; exact unhide HO))
      have hkf : decide ((k : Int) < (n : Int)) = false := by simp; omega
      go_wp2_with fail
      go_ret
      exact ⟨ret_bool (unhide HF).symm, hbel⟩
end Go.Proofs.YtlboekimnhgfdaaGreat.Mat

/- RowsAsk of the model. -/
namespace Go.Proofs.YtlboekimnhgfdaaGreat.Row
open Go.RowKit Rw
set_option linter.unusedVariables false
attribute [local go_sem ↓] Go.wp_at_zero Go.wp_at_succ
theorem own_grown {w wn : World} {row : Option Nat} (hg : w.grownBy wn row) {base n size : Nat} {e : TypeId} {v : Value} {xs : List Value} (ho : w.ownsRow base e size v n xs) (hne : ∀ k, v.ownBlock = some k → row ≠ some k) : wn.ownsRow base e size v n xs := by
  refine ⟨ho.1, ?_⟩
  rcases ho.2 with h1 | ⟨c, cap, cur, h1, h2, h3, h4⟩
  · exact .inl h1
  · refine .inr ⟨c, cap, cur, h1, h2, ?_, h4⟩
    rw [hg.block c (own_block_lt ho c (by rw [h1]; rfl)) (fun e => hne c (by rw [h1]; rfl) e.symm)]
    exact h3
theorem at_lt (L : List E) (x : E) (i : Nat) (h : i < L.length) : at' (L ++ [x]) i = at' L i := by simp [at', List.getD, List.getElem?_append_left h]
theorem at_last (L : List E) (x : E) : at' (L ++ [x]) L.length = x := by simp [at', List.getD]
/-- a row more behind rows of the call's own -/
theorem own_snoc {lo : Nat} {w wn : World} {pv vn vl xv : Value} {L : List E} {cs : List C} {x : E} (h1 : cs.length = L.length) (h2 : w.ownsRow lo 93 2 pv L.length (flatOf cl cs)) (h5 : ApartF L.length (fun i => (cat cs i).1)) (h6 : ApartF L.length (fun i => (cat cs i).2))
    (h7 : ∀ i, i < L.length → w.ownsRow lo 64 2 (cat cs i).1 (at' L i).1.length (Lab.flat (at' L i).1) ∧ w.ownsRow lo 106 2 (cat cs i).2 (at' L i).2.length (Sam.flat (at' L i).2))
    (gn : w.grownBy wn pv.ownBlock) (on : wn.ownsRow lo 93 2 vn (L.length + 1) (flatOf cl cs ++ [vl, xv])) (hl : w.ownsRow lo 64 2 vl x.1.length (Lab.flat x.1)) (hx : w.ownsRow lo 106 2 xv x.2.length (Sam.flat x.2))
    (nl : ∀ i, i < L.length → ∀ k, (cat cs i).1.ownBlock = some k → vl.ownBlock ≠ some k) (nx : ∀ i, i < L.length → ∀ k, (cat cs i).2.ownBlock = some k → xv.ownBlock ≠ some k) : Own lo wn.heap.size wn vn (L ++ [x]) := by
  have keepL : ∀ {n v} {xs : List Value}, w.ownsRow lo 64 2 v n xs → wn.ownsRow lo 64 2 v n xs := fun ho => own_grown gn ho (fun k hk e => own_ne_type ho h2 (by decide) k hk e)
  have keepS : ∀ {n v} {xs : List Value}, w.ownsRow lo 106 2 v n xs → wn.ownsRow lo 106 2 v n xs := fun ho => own_grown gn ho (fun k hk e => own_ne_type ho h2 (by decide) k hk e)
  refine ⟨cs ++ [(vl, xv)], by simp [h1], by rw [List.length_append, flatOf_append, flatOf_one]; exact on, own_block_lt on, Nat.le_refl _, by rw [List.length_append]; exact apart_snoc h1 (·.1) h5 nl, by rw [List.length_append]; exact apart_snoc h1 (·.2) h6 nx, fun i hi => ?_⟩
  rw [List.length_append, List.length_cons, List.length_nil] at hi
  by_cases hi' : i < L.length
  · rw [cat_lt _ _ _ (by omega), at_lt _ _ _ hi']
    have := h7 i hi'
    exact ⟨⟨keepL this.1, keepS this.2⟩, own_block_lt (keepL this.1), own_block_lt (keepS this.2)⟩
  · obtain rfl : i = L.length := by omega
    rw [at_last, show cat (cs ++ [(vl, xv)]) L.length = (vl, xv) by rw [← h1]; exact cat_last _ _]
    exact ⟨⟨keepL hl, keepS hx⟩, own_block_lt (keepL hl), own_block_lt (keepS hx)⟩
theorem mlet_is {ms : List Mat.E} {ls : List Lab.E} (h : Mat.ok ms = true) (h' : Lab.ok ls = true) : Mat.mlet ms ls = Mat.lets ms ls := by unfold Mat.mlet; rw [h, h']; rfl
set_option maxRecDepth 100000 in
set_option maxHeartbeats 8000000 in
theorem l5ask {w : World} {v u : Value} {zs : List E} {ms : List Mat.E} (f t : Int) (h : Is w v zs) (hm : Mat.Is w u ms) (hg : ∀ x ∈ zs, good x) (hmg : ∀ x ∈ ms, Mat.good x) (hok : ok zs = true) (hmok : Mat.ok ms = true) :
    Calls Tryz.prog 71 #[v, u, .int .i64 f, .int .i64 t] w fun e w' => ∃ r, e = .returned r ∧ Own w.heap.size w'.heap.size w' r (outL (askG ms f t) zs) ∧ Below w.heap.size w w' := by
  obtain ⟨i0, hi, hz0, hz1, hz2⟩ := info_parts Row.info_e
  obtain ⟨i1, hi1, hy0, hy1, hy2⟩ := info_parts Lab.info_e
  obtain ⟨au, nu, cu, eu⟩ : ∃ a n c, u = .slice a n c := by obtain ⟨-, a, c, e, -⟩ := hm; exact ⟨a, _, c, e⟩
  subst eu
  have HOK := hide hok
  have hn10 := ok_len hok
  have HLet := hide (fun W (hb : Below w.heap.size w W) (lv : Value) (ls : List Lab.E) (hl : Lab.Is W lv ls) (hlg : ∀ x ∈ ls, Lab.good x) => Mat.l3Lets_any (hm.below hb) hl hmg hlg)
  obtain ⟨cs, hcs, hL, hE⟩ := h
  have HE := hide hE
  have HG := hide hg
  have HMO := hide hmok
  obtain ⟨-, a, cap, rfl, hc, hmx, -, hr⟩ := hL
  unfold maxLen at hmx
  obtain ⟨l, hl⟩ : ∃ l, l = zs.length := ⟨_, rfl⟩
  rw [← hl] at hc hr hcs hn10 ⊢
  have HN := hide hl
  have HC := hide hcs
  clear hl hE hcs hg hm hmg hok hmok
  have HI0 := hide (show Own w.heap.size (w.alloc (.cells #[] 93)).heap.size (w.alloc (.cells #[] 93)) (.slice (some ⟨w.heap.size, 0, none⟩) 0 0) (outL (askG ms f t) (zs.take 0)) from ⟨[], rfl, Str.own_empty' (Nat.le_refl _) rfl, own_block_lt (Str.own_empty' (base := w.heap.size) (e := 93) (size := 2) (Nat.le_refl _) rfl), Nat.le_refl _, fun i j _ h => absurd h (Nat.not_lt_zero _), fun i j _ h => absurd h (Nat.not_lt_zero _), fun i h => absurd h (Nat.not_lt_zero _)⟩)
  have B0 : Below w.heap.size w (w.alloc (.cells #[] 93)) := (Below.refl _ _).alloc (Nat.le_refl _) _
  go_enter Tryz.func71, Tryz.ntmps71
  go_wp2_with fail
  go_loopw [9, 10] (fun pv i wr => ∃ (k n : Nat) (pa : Option Addr) (pc : Nat), k ≤ l ∧ i = .int .i64 k ∧ pv = .slice pa n pc ∧ Hid (Own w.heap.size wr.heap.size wr pv (outL (askG ms f t) (zs.take k)) ∧ n = (outL (askG ms f t) (zs.take k)).length ∧ n ≤ k) ∧ Below w.heap.size w wr) (fun _ i _ => l - (intOf i).toNat)
  case atStart => exact ⟨0, 0, _, 0, Nat.zero_le _, rfl, rfl, hide ⟨unhide HI0, rfl, Nat.le_refl _⟩, B0⟩
  case round =>
    clear HI0 B0
    obtain ⟨k, n, pa, pc, hk, rfl, rfl, HO, hbel⟩ := hrel
    have hsz := hbel.size
    by_cases hlt : k < l
    · obtain ⟨b, off, rfl, hbl, hcells⟩ := hr (by omega)
      have fa := flat_at cs k (by have := unhide HC; omega)
      have hc0 : wr.cell? ⟨b, off + k * 2, none⟩ = some (cat cs k).1 := (hbel.cell (p := ⟨b, _, none⟩) hbl).trans (hcells (k * 2) _ fa.1)
      have hc1 : wr.cell? ⟨b, off + k * 2 + 1, none⟩ = some (cat cs k).2 := (hbel.cell (p := ⟨b, _, none⟩) hbl).trans (hcells (k * 2 + 1) _ fa.2)
      have hkz : k < zs.length := by have := unhide HN; omega
      have hEk := unhide HE k hkz
      have hgk := unhide HG (at' zs k) (at_mem zs k hkz)
      have hst := step_is (ok_at (unhide HOK) hkz)
      have hsn := outL_snoc (askG ms f t) zs k hkz
      obtain ⟨⟨ls, xs⟩, hX⟩ : ∃ x, x = at' zs k := ⟨_, rfl⟩
      rw [← hX] at hEk hgk hst hsn
      simp only at hst
      obtain ⟨c0, c1, hY⟩ : ∃ c0 c1, (c0, c1) = cat cs k := ⟨_, _, rfl⟩
      rw [← hY] at hc0 hc1 hEk
      have hE1 : Lab.Is w c0 ls := hEk.1
      have hE2 : Sam.Is w c1 xs := hEk.2
      obtain ⟨-, a0, q0, e0, -⟩ := hE1
      obtain ⟨-, a1, q1, e1, -⟩ := hE2
      have hE1 : Lab.Is w c0 ls := hEk.1
      have hE2 : Sam.Is w c1 xs := hEk.2
      clear fa hEk hX hY
      have hxne : xs ≠ [] := fun e => by rw [e] at hst; simp at hst
      have hk0 : (0 : Int) ≤ (k : Int) := Int.natCast_nonneg _
      have hk1 : (k : Int) < (l : Int) := by omega
      have HL := hide (fun W (hb : Below w.heap.size w W) => unhide HLet W hb c0 ls (hE1.below hb) hgk.1.2)
      rw [← mlet_is (unhide HMO) hst.1] at HL
      have HCut := hide (Samp.l2cut f t (smp_of_lies (hE2.below hbel) hxne) (by omega))
      have hcl : (Samp.cutL xs f t).length ≤ 1000 := Nat.le_trans (List.length_filter_le _ _) hst.2.2.1
      have hsmall := (Lab.ok_small hst.1).1
      have HE1 := hide (fun W (hb : Below w.heap.size w W) => hE1.below hb)
      have hgG : askG ms f t (ls, xs) = if Mat.mlet ms ls = true then Samp.cutL xs f t else [] := rfl
      rw [hgG] at hsn
      obtain ⟨D, hD⟩ : ∃ D, D = Samp.cutL xs f t := ⟨_, rfl⟩
      rw [← hD] at HCut hcl hsn
      simp only [RSet.flat_eq] at HCut
      clear hD
      obtain ⟨m, hm⟩ : ∃ m, m = D.length := ⟨_, rfl⟩
      rw [← hm] at HCut hcl
      have HM := hide hm
      obtain ⟨ll, hll⟩ : ∃ ll, ll = ls.length := ⟨_, rfl⟩
      rw [← hll] at e0 hsmall
      have HLL := hide hll
      clear hm hE1 hE2 hgk hst hxne hgG hll
      subst e0 e1
      go_wp2_with fail
      refine (unhide HCut).mono ?_
      rintro e w2 ⟨xv, rfl, ox, b2⟩
      obtain ⟨xa, xq, rfl⟩ : ∃ a q, xv = .slice a m q := by obtain ⟨-, a, q, e, -⟩ := lies_of_own ox; exact ⟨a, q, e⟩
      have z2 := b2.size
      have hbel2 := hbel.trans (b2.mono hsz)
      have hc0' := (b2.cell (p := ⟨b, off + k * 2, none⟩) (by show b < _; omega)).trans hc0
      have HL2 := hide (unhide HL w2 hbel2)
      clear HCut HL
      go_wp2_with fail
      refine (unhide HL2).mono ?_
      rintro e w3 ⟨rfl, b3⟩
      have z3 := b3.size
      have hbel3 := hbel2.trans (b3.mono (by omega))
      have hc0'' := (b3.cell (p := ⟨b, off + k * 2, none⟩) (by show b < _; omega)).trans hc0'
      have b23 := b2.trans (b3.mono b2.size)
      clear HL2 hc0' hc1
      cases hlet : Mat.mlet ms ls
      · rw [hlet] at hsn
        have HO' := hide (show Own w.heap.size w3.heap.size w3 (.slice pa n pc) (outL (askG ms f t) (zs.take (k + 1))) ∧ n = (outL (askG ms f t) (zs.take (k + 1))).length ∧ n ≤ k + 1 by
          simp only [Bool.false_eq_true, if_false, if_true, List.append_nil] at hsn
          rw [hsn]
          have h1 := unhide HO
          have h2 := h1.1.below b23
          obtain ⟨cs', g1, g2, g3, g4, g5⟩ := h2
          exact ⟨⟨cs', g1, g2, fun k hk => by have := g3 k hk; omega, Nat.le_refl _, g5.1, g5.2.1, fun i hi => ⟨(g5.2.2 i hi).1, fun k hk => by have := (g5.2.2 i hi).2.1 k hk; omega, fun k hk => by have := (g5.2.2 i hi).2.2 k hk; omega⟩⟩, h1.2.1, by omega⟩)
        clear HO hsn hlet
        go_wp2_with fail
        go_roundw
        case rel => exact ⟨k + 1, n, pa, pc, by omega, by go_num, rfl, HO', hbel3⟩
        case measure => simp [intOf]; omega
      · rw [hlet] at hsn
        simp only [if_true] at hsn
        by_cases h0 : m = 0
        · have hDn : D = [] := List.eq_nil_of_length_eq_zero ((unhide HM).symm.trans h0)
          rw [if_pos hDn, List.append_nil] at hsn
          have HO' := hide (show Own w.heap.size w3.heap.size w3 (.slice pa n pc) (outL (askG ms f t) (zs.take (k + 1))) ∧ n = (outL (askG ms f t) (zs.take (k + 1))).length ∧ n ≤ k + 1 by
            rw [hsn]
            have h1 := unhide HO
            have h2 := h1.1.below b23
            obtain ⟨cs', g1, g2, g3, g4, g5⟩ := h2
            exact ⟨⟨cs', g1, g2, fun k hk => by have := g3 k hk; omega, Nat.le_refl _, g5.1, g5.2.1, fun i hi => ⟨(g5.2.2 i hi).1, fun k hk => by have := (g5.2.2 i hi).2.1 k hk; omega, fun k hk => by have := (g5.2.2 i hi).2.2 k hk; omega⟩⟩, h1.2.1, by omega⟩)
          subst h0
          clear HO hsn hlet hDn
          go_wp2_with fail
          go_roundw
          case rel => exact ⟨k + 1, n, pa, pc, by omega, by go_num, rfl, HO', hbel3⟩
          case measure => simp [intOf]; omega
        · rw [if_neg (fun e => h0 (by rw [unhide HM, e]; rfl))] at hsn
          have hgt : 0 < m := by omega
          have hgI : (0 : Int) < (m : Int) := by omega
          obtain ⟨hO1, hO2, hO3⟩ := unhide HO
          obtain ⟨ds, g1, g2, g3, g4, g5, g6, g7⟩ := hO1
          rw [← hO2] at g2
          have G2 := own_below g2 b23
          have HLd := hide (unhide HE1 w3 hbel3)
          have oe : (w3.alloc (.cells #[] 64)).ownsRow w3.heap.size 64 2 (.slice (some ⟨w3.heap.size, 0, none⟩) 0 0) 0 [] := own_empty (Nat.le_refl _)
          have be : Below w3.heap.size w3 (w3.alloc (.cells #[] 64)) := (Below.refl _ _).alloc (Nat.le_refl _) _
          have le : Lies (w3.alloc (.cells #[] 64)) (.slice a0 ll q0) ll 2 (Lab.flat ls) := by have := (unhide HLd).below be; rw [unhide HLL]; rw [unhide HLL] at this; exact this
          have hb3 : b < w3.heap.size := by omega
          have hb3n : ¬ b = w3.heap.size := by omega
          have hc0e : (w3.alloc (.cells #[] 64)).cell? ⟨b, off + k * 2, none⟩ = some (.slice a0 ll q0) := (be.cell (p := ⟨b, _, none⟩) hb3).trans hc0''
          have hmx1 : 1 ≤ maxLen := by unfold maxLen; omega
          have HO1 := hide (And.intro g1 (And.intro g5 (And.intro g6 g7)))
          have HO2 := hide hO2
          have HSn := hide hsn
          have hn10' : n ≤ 10 := by omega
          clear HO g1 g3 g4 g5 g6 g7 hO2 hsn hlet g2
          go_wp2_with (first | (at_builtin; refine app_wp _ rfl (.tmp 40) (.tmp 45) _ rfl w3.heap.size 64 i1 _ 2 32 Tryz.underlying60 hi1 hy0 hy1 hy2 rfl (by omega) _ 0 [] rfl oe _ ll (Lab.flat ls) rfl le (Lab.flat_oneCell _) (by unfold maxLen; omega) (by omega) (by simp) ?_; intro vl wl ol gl al; rw [Nat.zero_add, List.nil_append] at ol; have bl : Below w3.heap.size w3 wl := below_grown be (by simp) gl (fun k hk => by cases hk; exact Nat.le_refl _); obtain ⟨la, lq, rfl⟩ : ∃ a q, vl = .slice a ll q := (by obtain ⟨-, a, q, e, -⟩ := lies_of_own ol; exact ⟨a, q, e⟩); have zl := bl.size; have G2l := own_below G2 bl; clear gl al le be oe) | (at_builtin; refine app_wp _ rfl (.tmp 39) (.tmp 49) _ rfl w.heap.size 93 i0 _ 2 48 Tryz.underlying28 hi hz0 hz1 hz2 rfl (by omega) _ n _ rfl (World.ownsRow.alloc G2l _) _ 1 [.slice la ll lq, .slice xa m xq] rfl (lies_new (w := wl) (by simp) rfl hmx1) (by simp [Value.oneCell']) (by unfold maxLen; omega) (by omega) (by simp; omega) ?_; intro vn wn on gn an))
          have hbl := hbel3.trans (bl.mono (by omega))
          have R9 : Below w.heap.size w wn := below_grown (hbl.alloc (by omega) _) (by simp; omega) gn (own_ge G2)
          have HO' := hide (show Own w.heap.size wn.heap.size wn vn (outL (askG ms f t) (zs.take (k + 1))) ∧ n + 1 = (outL (askG ms f t) (zs.take (k + 1))).length ∧ n + 1 ≤ k + 1 by
            obtain ⟨g1, g5, g6, g7⟩ := unhide HO1
            rw [unhide HSn]
            refine ⟨own_snoc (w := wl.alloc (.cells #[.slice la ll lq, .slice xa m xq] 93)) (pv := .slice pa n pc) (vl := .slice la ll lq) (xv := .slice xa m xq) g1 (by rw [← unhide HO2]; exact World.ownsRow.alloc G2l _) g5 g6 (fun i hi => ⟨World.ownsRow.alloc (own_below (own_below (g7 i hi).1.1 b23) bl) _, World.ownsRow.alloc (own_below (own_below (g7 i hi).1.2 b23) bl) _⟩) gn (by rw [← unhide HO2]; exact on) (by simp only; rw [← unhide HLL]; exact World.ownsRow.alloc (own_mono ol (by omega)) _) (by simp only; rw [← unhide HM]; exact World.ownsRow.alloc (own_below (own_below (own_mono ox (by omega)) b3) bl) _) (fun i hi k hk hk' => by have h1 := own_block_lt (g7 i hi).1.1 k hk; have h2 := own_ge ol k hk'; omega) (fun i hi k hk hk' => by have h1 := own_block_lt (g7 i hi).1.2 k hk; have h2 := own_ge ox k hk'; omega), by rw [List.length_append, ← unhide HO2]; rfl, by omega⟩)
          obtain ⟨an', cn, hvn⟩ : ∃ a c, vn = .slice a (n + 1) c := by obtain ⟨-, a, c, e, -⟩ := lies_of_own on; exact ⟨a, c, e⟩
          have HV := hide hvn
          clear on gn an hvn ol ox G2 G2l HO1 HO2 HSn bl hbl
          go_wp2_with fail
          go_roundw
          case rel => exact ⟨k + 1, n + 1, an', cn, by omega, by go_num, unhide HV, HO', R9⟩
          case measure => simp [intOf]; omega
    · obtain rfl : k = l := by omega
      have HO' := hide (show Own w.heap.size wr.heap.size wr (.slice pa n pc) (outL (askG ms f t) zs) by have := (unhide HO).1; rwa [List.take_of_length_le (by have := unhide HN; omega)] at this)
      clear HO
      go_wp2
      go_ret
      exact ⟨_, rfl, unhide HO', hbel⟩
end Go.Proofs.YtlboekimnhgfdaaGreat.Row
