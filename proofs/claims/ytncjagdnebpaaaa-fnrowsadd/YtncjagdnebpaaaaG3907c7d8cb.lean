/- My own texts of one claim, laid together by program: RowOk2, Let3, Let4, RowAsk2. -/
import Derived.Test.YtncjagdnebpaaaaG4464f45ed3
import Derived.Test.YtncjagdnebpaaaaG9e2f2919bc
import Derived.Test.YtncjagdnebpaaaaG6719f0bc30
import Derived.Test.YtncjagdnebpaaaaG0b5a214c69
import Derived.Test.YtncjagdnebpaaaaG31fbfc5a42
import Derived.Test.YtncjagdnebpaaaaGe17f946c16
/- RowsOk of the model, at every slice of rows. -/
namespace Go.Proofs.Ytncjagdnebpaaaa.Row
open Go.RowKit Rw
set_option linter.unusedVariables false
attribute [local go_sem ↓] Go.wp_at_zero Go.wp_at_succ
set_option maxRecDepth 100000 in
set_option maxHeartbeats 8000000 in
theorem spec_ok {w : World} {v : Value} {zs : List E} (h : Is w v zs) (hg : ∀ x ∈ zs, good x) (hlen : zs.length ≤ maxLen) : Calls Try.prog 9 #[v] w fun e w' => e = .returned (.bool (ok zs)) ∧ Below w.heap.size w w' := by
  obtain ⟨cs, hcs, hL, hE⟩ := h
  have HE := hide hE
  have HG := hide hg
  obtain ⟨-, a, cap, rfl, hc, hm, -, hr⟩ := hL
  unfold maxLen at hm hlen
  obtain ⟨n, hn⟩ : ∃ n, n = zs.length := ⟨_, rfl⟩
  rw [← hn] at hc hr hcs hlen ⊢
  have HN := hide hn
  have HC := hide hcs
  clear hn hE hg hcs
  go_enter Try.func9, Try.ntmps9
  go_wp2_with fail
  go_loopw [3] (fun i wr => ∃ (j : Nat), j ≤ n ∧ i = .int .i64 j ∧ Hid (okTo zs j = true) ∧ Below w.heap.size w wr) (fun i _ => n - (intOf i).toNat)
  case atStart => exact ⟨0, Nat.zero_le _, rfl, hide rfl, Below.refl _ _⟩
  case round =>
    obtain ⟨j, hj, rfl, HO, hbel⟩ := hrel
    have hsz := hbel.size
    by_cases hlt : j < n
    · obtain ⟨b, off, rfl, hl, hcells⟩ := hr (by omega)
      have fa := flat_at cs j (by have := unhide HC; omega)
      have hc0 : wr.cell? ⟨b, off + j * 2, none⟩ = some (cat cs j).1 := (hbel.cell (p := ⟨b, _, none⟩) hl).trans (hcells (j * 2) _ fa.1)
      have hc1 : wr.cell? ⟨b, off + j * 2 + 1, none⟩ = some (cat cs j).2 := (hbel.cell (p := ⟨b, _, none⟩) hl).trans (hcells (j * 2 + 1) _ fa.2)
      have hEj := (unhide HE j (by have := unhide HN; omega)).below hbel
      have hGj := unhide HG _ (at_mem zs j (by have := unhide HN; omega))
      obtain ⟨a1, q1, f1, g1, g1'⟩ := hEj.1.form
      obtain ⟨a2, q2, f2, g2, g2'⟩ := hEj.2.form
      obtain ⟨l1, hl1⟩ : ∃ l, l = (at' zs j).1.length := ⟨_, rfl⟩
      obtain ⟨l2, hl2⟩ : ∃ l, l = (at' zs j).2.length := ⟨_, rfl⟩
      unfold maxLen at g1' g2'
      rw [f1, ← hl1] at hc0
      rw [f2, ← hl2] at hc1
      rw [← hl1] at g1
      rw [← hl2] at g2
      have HI1 := hide (show Lab.Is wr (.slice a1 l1 q1) (at' zs j).1 by rw [hl1, ← f1]; exact hEj.1)
      have HI2 := hide (show Sam.Is wr (.slice a2 l2 q2) (at' zs j).2 by rw [hl2, ← f2]; exact hEj.2)
      have HL1 := hide hl1
      have HL2 := hide hl2
      have hk0 : (0 : Int) ≤ (j : Int) := Int.natCast_nonneg _
      have hk1 : (j : Int) < (n : Int) := by omega
      have hq0 : ∀ x : Cls wr.heap.size wr, x.val.cell? ⟨b, off + j * 2, none⟩ = some (.slice a1 l1 q1) := fun x => by rw [x.cell (by omega)]; exact hc0
      have hq1 : ∀ x : Cls wr.heap.size wr, x.val.cell? ⟨b, off + j * 2 + 1, none⟩ = some (.slice a2 l2 q2) := fun x => by rw [x.cell (by omega)]; exact hc1
      have hne := cls_nonempty wr.heap.size wr
      clear fa hEj f1 f2 hl1 hl2 hc0 hc1
      have CL := hide (fun x : Cls wr.heap.size wr => Lab.spec_ok ((unhide HI1).below x.isBelow) hGj.1.2 hGj.1.1)
      have CS := hide (fun x : Cls wr.heap.size wr => Sam.l2ok ((unhide HI2).below x.isBelow))
      have CI := hide (fun x : Cls wr.heap.size wr => Zig.in_any (l2 : Int) 1 1000 x.val)
      cases hlab : Lab.ok (at' zs j).1
      · have HF := hide (ok_of_bad (zs := zs) (k := j) (by have := unhide HN; omega) (step_lab hlab))
        rw [hlab] at CL
        clear hlab
        go_wp2_with fail
        refine region_cls (by kernel_rfl) (by kernel_rfl) ?_
        repeat (go_big_quiet_step (first | (go_at_call 23; exact cls_call (Nat.le_refl _) (unhide CL _)) | (go_at_call 24; exact cls_call (Nat.le_refl _) (unhide CS _)) | (go_at_call 31; exact cls_same (unhide CI _))))
        refine wpQuiet_nil ?_
        rintro wq ⟨⟨_, hq⟩, rfl⟩
        have hbq := hbel.trans (hq.mono hsz)
        go_wp2_with fail
        go_ret
        exact ⟨ret_bool (unhide HF).symm, hbq⟩
      · rw [hlab] at CL
        have HLk := hide hlab
        cases hsam : SampMath.ok (at' zs j).2
        · have HF := hide (ok_of_bad (zs := zs) (k := j) (by have := unhide HN; omega) (step_sam hsam))
          rw [hsam] at CS
          clear hlab hsam
          go_wp2_with fail
          refine region_cls (by kernel_rfl) (by kernel_rfl) ?_
          repeat (go_big_quiet_step (first | (go_at_call 23; exact cls_call (Nat.le_refl _) (unhide CL _)) | (go_at_call 24; exact cls_call (Nat.le_refl _) (unhide CS _)) | (go_at_call 31; exact cls_same (unhide CI _))))
          refine wpQuiet_nil ?_
          rintro wq ⟨⟨_, hq⟩, rfl⟩
          have hbq := hbel.trans (hq.mono hsz)
          go_wp2_with fail
          go_ret
          exact ⟨ret_bool (unhide HF).symm, hbq⟩
        · rw [hsam] at CS
          have HSk := hide hsam
          clear hsam
          by_cases hs : 1 ≤ l2 ∧ l2 ≤ 1000
          · rw [show Zig.inB (l2 : Int) 1 1000 = true from by unfold Zig.inB; rw [decide_eq_true (by omega), decide_eq_true (by omega)]; rfl] at CI
            rcases j with _ | j
            · simp only [Nat.zero_mul, Nat.add_zero] at hq0 hq1
              have HU := hide (show okTo zs (0 + 1) = true by rw [okTo_succ, unhide HO, step_yes (unhide HLk) (by rw [← unhide HL2]; exact hs.1) (by rw [← unhide HL2]; exact hs.2) (unhide HSk) (.inl rfl)]; rfl)
              clear hlab hs
              go_wp2_with fail
              refine region_cls (by kernel_rfl) (by kernel_rfl) ?_
              repeat (go_big_quiet_step (first | (go_at_call 23; exact cls_call (Nat.le_refl _) (unhide CL _)) | (go_at_call 24; exact cls_call (Nat.le_refl _) (unhide CS _)) | (go_at_call 31; exact cls_same (unhide CI _))))
              refine wpQuiet_nil ?_
              rintro wq ⟨⟨_, hq⟩, rfl⟩
              have hbq := hbel.trans (hq.mono hsz)
              go_wp2
              go_roundw
              case rel => exact ⟨0 + 1, by omega, by go_num, HU, hbq⟩
              case measure => simp [intOf]; omega
            · have fp := flat_at cs j (by have := unhide HC; omega)
              have hEp := (unhide HE j (by have := unhide HN; omega)).below hbel
              have hp0 : ∀ x : Cls wr.heap.size wr, x.val.cell? ⟨b, off + j * 2, none⟩ = some (cat cs j).1 := fun x => by rw [x.cell (by omega)]; exact (hbel.cell (p := ⟨b, _, none⟩) hl).trans (hcells (j * 2) _ fp.1)
              have HCm := hide (fun x : Cls wr.heap.size wr => Lab.l3Cmp_any (hEp.1.below x.isBelow) ((unhide HI1).below x.isBelow))
              obtain ⟨a0, q0, f0, -, -⟩ := hEp.1.form
              obtain ⟨l0, hl0⟩ : ∃ l, l = (at' zs j).1.length := ⟨_, rfl⟩
              rw [← hl0] at f0
              rw [f0] at hp0 HCm
              clear fp hEp hlab f0 hl0
              have hj0 : (0 : Int) ≤ (j : Int) := Int.natCast_nonneg _
              have hj1 : (j : Int) < (n : Int) := by omega
              have hj2 : (((j + 1 : Nat) : Int)) - 1 = (j : Int) := by omega
              have HSt := hide (fun h => step_cmp (zs := zs) (k := j + 1) (by omega) h)
              simp only [Nat.add_sub_cancel] at HSt
              have hrg := Lab.cmpL_range (at' zs j).1 (at' zs (j + 1)).1
              obtain ⟨M, hM0⟩ : ∃ M, M = Lab.cmpL (at' zs j).1 (at' zs (j + 1)).1 := ⟨_, rfl⟩
              rw [← hM0] at HCm HSt hrg
              have HM0 := hide hM0
              clear hM0
              by_cases hM : M < 0
              · have HU := hide (show okTo zs (j + 1 + 1) = true by rw [okTo_succ, unhide HO, step_yes (unhide HLk) (by rw [← unhide HL2]; exact hs.1) (by rw [← unhide HL2]; exact hs.2) (unhide HSk) (.inr (by show Lab.cmpL (at' zs j).1 _ < 0; rw [← unhide HM0]; exact hM))]; rfl)
                have hM2 : ¬ 0 ≤ M := by omega
                clear hs
                go_wp2_with fail
                refine region_cls (by kernel_rfl) (by kernel_rfl) ?_
                repeat (go_big_quiet_step (first | (go_at_call 23; exact cls_call (Nat.le_refl _) (unhide CL _)) | (go_at_call 24; exact cls_call (Nat.le_refl _) (unhide CS _)) | (go_at_call 31; exact cls_same (unhide CI _)) | (go_at_call 32; exact cls_call (Nat.le_refl _) (unhide HCm _))))
                refine wpQuiet_nil ?_
                rintro wq ⟨⟨_, hq⟩, rfl⟩
                have hbq := hbel.trans (hq.mono hsz)
                go_wp2
                go_roundw
                case rel => exact ⟨j + 1 + 1, by omega, by go_num, HU, hbq⟩
                case measure => simp [intOf]; omega
              · have HF := hide (ok_of_bad (zs := zs) (k := j + 1) (by have := unhide HN; omega) (unhide HSt hM))
                have hM2 : 0 ≤ M := by omega
                clear hs
                go_wp2_with fail
                refine region_cls (by kernel_rfl) (by kernel_rfl) ?_
                repeat (go_big_quiet_step (first | (go_at_call 23; exact cls_call (Nat.le_refl _) (unhide CL _)) | (go_at_call 24; exact cls_call (Nat.le_refl _) (unhide CS _)) | (go_at_call 31; exact cls_same (unhide CI _)) | (go_at_call 32; exact cls_call (Nat.le_refl _) (unhide HCm _))))
                refine wpQuiet_nil ?_
                rintro wq ⟨⟨_, hq⟩, rfl⟩
                have hbq := hbel.trans (hq.mono hsz)
                go_wp2_with fail
                go_ret
                exact ⟨ret_bool (unhide HF).symm, hbq⟩
          · have HF := hide (ok_of_bad (zs := zs) (k := j) (by have := unhide HN; omega) (step_len (by rw [← unhide HL2]; omega)))
            rw [show Zig.inB (l2 : Int) 1 1000 = false from by unfold Zig.inB; rw [Bool.and_eq_false_iff, decide_eq_false_iff_not, decide_eq_false_iff_not]; omega] at CI
            clear hs hlab
            go_wp2_with fail
            refine region_cls (by kernel_rfl) (by kernel_rfl) ?_
            repeat (go_big_quiet_step (first | (go_at_call 23; exact cls_call (Nat.le_refl _) (unhide CL _)) | (go_at_call 24; exact cls_call (Nat.le_refl _) (unhide CS _)) | (go_at_call 31; exact cls_same (unhide CI _))))
            refine wpQuiet_nil ?_
            rintro wq ⟨⟨_, hq⟩, rfl⟩
            have hbq := hbel.trans (hq.mono hsz)
            go_wp2_with fail
            go_ret
            exact ⟨ret_bool (unhide HF).symm, hbq⟩
    · obtain rfl : j = n := by omega
      by_cases hbig : 10 < j
      · have HR := hide (show ok zs = false from ok_long (by have := unhide HN; omega))
        go_wp2
        go_ret
        exact ⟨ret_bool (by rw [unhide HR]; exact decide_eq_false (by omega)), hbel⟩
      · have HU := hide (show ok zs = true by unfold ok; rw [← unhide HN, unhide HO, decide_eq_true (by omega)]; rfl)
        go_wp2
        go_ret
        exact ⟨ret_bool (by rw [unhide HU]; exact decide_eq_true (by omega)), hbel⟩
end Go.Proofs.Ytncjagdnebpaaaa.Row

/- MatchesLet of the model, at every slice of matches and of labels. -/
namespace Go.Proofs.Ytncjagdnebpaaaa.Mat
open Go.RowKit Rw
set_option linter.unusedVariables false
attribute [local go_sem ↓] Go.wp_at_zero Go.wp_at_succ
end Go.Proofs.Ytncjagdnebpaaaa.Mat

/- MatchesLet of the model. -/
namespace Go.Proofs.Ytncjagdnebpaaaa.Mat
open Go.RowKit Rw
set_option linter.unusedVariables false
attribute [local go_sem ↓] Go.wp_at_zero Go.wp_at_succ
end Go.Proofs.Ytncjagdnebpaaaa.Mat

/- RowsAsk of the model. -/
namespace Go.Proofs.Ytncjagdnebpaaaa.Row
open Go.RowKit Rw
set_option linter.unusedVariables false
attribute [local go_sem ↓] Go.wp_at_zero Go.wp_at_succ
theorem own_grown {w wn : World} {row : Option Nat} (hg : w.grownBy wn row) {base n size : Nat} {e : TypeId} {v : Value} {xs : List Value} (ho : w.ownsRow base e size v n xs) (hne : ∀ k, v.ownBlock = some k → row ≠ some k) : wn.ownsRow base e size v n xs := by
  refine ⟨ho.1, ?_⟩
  rcases ho.2 with h1 | ⟨c, cap, cur, h1, h2, h3, h4⟩
  · exact .inl h1
  · refine .inr ⟨c, cap, cur, h1, h2, ?_, h4⟩
    rw [hg.block c (own_block_lt ho c (by rw [h1]; rfl)) (fun e => hne c (by rw [h1]; rfl) e.symm)]
    exact h3
theorem at_lt (L : List E) (x : E) (i : Nat) (h : i < L.length) : at' (L ++ [x]) i = at' L i := by simp [at', List.getD, List.getElem?_append_left h]
theorem at_last (L : List E) (x : E) : at' (L ++ [x]) L.length = x := by simp [at', List.getD]
/-- a row more behind rows of the call's own -/
theorem own_snoc {lo : Nat} {w wn : World} {pv vn vl xv : Value} {L : List E} {cs : List C} {x : E} (h1 : cs.length = L.length) (h2 : w.ownsRow lo 44 2 pv L.length (flatOf cl cs)) (h5 : ApartF L.length (fun i => (cat cs i).1)) (h6 : ApartF L.length (fun i => (cat cs i).2))
    (h7 : ∀ i, i < L.length → w.ownsRow lo 47 2 (cat cs i).1 (at' L i).1.length (Lab.flat (at' L i).1) ∧ w.ownsRow lo 26 2 (cat cs i).2 (at' L i).2.length (Sam.flat (at' L i).2))
    (gn : w.grownBy wn pv.ownBlock) (on : wn.ownsRow lo 44 2 vn (L.length + 1) (flatOf cl cs ++ [vl, xv])) (hl : w.ownsRow lo 47 2 vl x.1.length (Lab.flat x.1)) (hx : w.ownsRow lo 26 2 xv x.2.length (Sam.flat x.2))
    (nl : ∀ i, i < L.length → ∀ k, (cat cs i).1.ownBlock = some k → vl.ownBlock ≠ some k) (nx : ∀ i, i < L.length → ∀ k, (cat cs i).2.ownBlock = some k → xv.ownBlock ≠ some k) : Own lo wn.heap.size wn vn (L ++ [x]) := by
  have keepL : ∀ {n v} {xs : List Value}, w.ownsRow lo 47 2 v n xs → wn.ownsRow lo 47 2 v n xs := fun ho => own_grown gn ho (fun k hk e => own_ne_type ho h2 (by decide) k hk e)
  have keepS : ∀ {n v} {xs : List Value}, w.ownsRow lo 26 2 v n xs → wn.ownsRow lo 26 2 v n xs := fun ho => own_grown gn ho (fun k hk e => own_ne_type ho h2 (by decide) k hk e)
  refine ⟨cs ++ [(vl, xv)], by simp [h1], by rw [List.length_append, flatOf_append, flatOf_one]; exact on, own_block_lt on, Nat.le_refl _, by rw [List.length_append]; exact apart_snoc h1 (·.1) h5 nl, by rw [List.length_append]; exact apart_snoc h1 (·.2) h6 nx, fun i hi => ?_⟩
  rw [List.length_append, List.length_cons, List.length_nil] at hi
  by_cases hi' : i < L.length
  · rw [cat_lt _ _ _ (by omega), at_lt _ _ _ hi']
    have := h7 i hi'
    exact ⟨⟨keepL this.1, keepS this.2⟩, own_block_lt (keepL this.1), own_block_lt (keepS this.2)⟩
  · obtain rfl : i = L.length := by omega
    rw [at_last, show cat (cs ++ [(vl, xv)]) L.length = (vl, xv) by rw [← h1]; exact cat_last _ _]
    exact ⟨⟨keepL hl, keepS hx⟩, own_block_lt (keepL hl), own_block_lt (keepS hx)⟩
theorem mlet_is {ms : List Mat.E} {ls : List Lab.E} (h : Mat.ok ms = true) (h' : Lab.ok ls = true) : Mat.mlet ms ls = Mat.lets ms ls := by unfold Mat.mlet; rw [h, h']; rfl
end Go.Proofs.Ytncjagdnebpaaaa.Row
