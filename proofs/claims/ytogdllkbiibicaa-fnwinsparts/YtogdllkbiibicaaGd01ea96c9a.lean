/- My own texts of one claim, laid together by program: WinJoinS, WinCut. -/
import Derived.Test.YtogdllkbiibicaaG86e03b0aa1
import Derived.Test.YtogdllkbiibicaaG341cf6558d
import Derived.Test.YtogdllkbiibicaaG2f43a2a56a
/- What WinsJoin of the model answers, at all whiles. No condition. -/
namespace Go.Proofs.Ytogdllkbiibicaa.WinM
open Go.RowKit Rw
set_option linter.unusedVariables false
attribute [local go_sem ↓] Go.wp_at_zero Go.wp_at_succ
def outW (L : List W6) (k : Nat) : W6 := jl (L.take (max k 1))
theorem outW_zero {L : List W6} (h : 0 < L.length) : outW L 0 = Win.at' L 0 := by
  unfold outW
  rw [show max 0 1 = 0 + 1 from rfl, Win.at_snoc L 0 h]
  rfl
theorem outW_next {L : List W6} {k : Nat} (hk : k < L.length) (h0 : 0 < k) : outW L (k + 1) = tgP (outW L k) (Win.at' L k) := by
  unfold outW
  rw [show max (k + 1) 1 = k + 1 by omega, show max k 1 = k by omega, take_snocW hk h0]
theorem outW_all {L : List W6} (h : 0 < L.length) : outW L L.length = jl L := by
  unfold outW
  rw [show max L.length 1 = L.length by omega, List.take_length]
theorem okTo_iff {L : List W6} {k : Nat} (hk : k ≤ L.length) (h : okToW L k = true) : okS (L.take k) := by
  have e : okSB (L.take k) = true := by
    unfold okSB okToW
    rw [List.all_eq_true]
    intro i hi
    have hi := List.mem_range.1 hi
    rw [List.length_take] at hi
    have hs := okToW_at h (i := i) (by omega)
    have e1 : ∀ j, j < k → Win.at' (L.take k) j = Win.at' L j := fun j hj => by
      rw [Win.at_get _ j (by rw [List.length_take]; omega), Win.at_get _ j (by omega), List.getElem_take]
    unfold stepW at hs ⊢
    rw [e1 i (by omega), e1 (i - 1) (by omega)]
    exact hs
  exact (okSB_iff _).1 e
theorem outW_says {L : List W6} {k : Nat} (hk : k ≤ L.length) (h0 : 0 < k) (h : okToW L k = true) : k ≤ 10000 ∧ 0 ≤ (outW L k).2.1 ∧ (outW L k).2.1 ≤ 10000 * (k : Int) ∧ 0 ≤ (outW L k).2.2.1 ∧ (outW L k).2.2.1 ≤ 21474836470000 * (k : Int) := by
  have hS := okTo_iff hk h
  have hl : (L.take k).length = k := by rw [List.length_take]; omega
  have hne : L.take k ≠ [] := fun e => by rw [e] at hl; simp at hl; omega
  have h10 := okS_len hS
  obtain ⟨-, i2, i3, -⟩ := jl_says hS.1 hne
  unfold outW
  rw [show max k 1 = k by omega]
  rw [hl] at h10 i2 i3
  exact ⟨h10, by omega, i2.2, i3.1, i3.2⟩
set_option maxRecDepth 100000 in
set_option maxHeartbeats 16000000 in
theorem spec_winsJoin {w : World} {v : Value} {L : List W6} (h : Win.Is w v L) : Calls Try.prog 34 #[v] w fun e w' => e = .returned (.tuple #[.agg (vals (winsJoin L).1).toArray, .bool (winsJoin L).2]) ∧ Below w.heap.size w w' := by
  obtain ⟨-, ax, cx, rfl, hxc, hxm, -, hxr⟩ := id h
  unfold maxLen at hxm
  obtain ⟨m, hm⟩ : ∃ m, m = L.length := ⟨_, rfl⟩
  have HM := hide hm
  rw [← hm] at hxc hxr ⊢
  obtain ⟨W, hW⟩ : ∃ W, w.alloc (.cells Z6 52) = W := ⟨_, rfl⟩
  have bW : Below w.heap.size w W := by rw [← hW]; exact (Below.refl _ _).alloc (Nat.le_refl _) _
  have zW : W.heap.size = w.heap.size + 1 := by rw [← hW]; simp
  have oR : W.ownsRow w.heap.size 52 6 (.slice (some ⟨w.heap.size, 0, none⟩) 1 1) 1 [.int .i64 0, .int .i64 0, .int .i64 0, .int .i64 0, .int .i64 0, .int .i64 0] := by rw [← hW]; exact own_new (Nat.le_refl _) rfl
  clear h
  by_cases h0 : m = 0
  · have HR := hide (join_none (L := L) (.inl (List.eq_nil_of_length_eq_zero (by rw [← unhide HM]; exact h0))))
    subst h0
    clear hm
    go_enter Try.func34, Try.ntmps34
    have sd29 : W.cell? ⟨w.heap.size, 0, none⟩ = some (.int .i64 0) := by rw [oR.cellAt 0 (by omega)]; rfl
    have sf29 := oR.frozenAt 0
    have ss29 := (oR.stored 0 (.int .i64 0)).1
    obtain ⟨y29, hy29⟩ : ∃ w', W.setCell ⟨w.heap.size, 0, none⟩ (.int .i64 0) = w' := ⟨_, rfl⟩
    rw [hy29] at ss29
    have so29 : y29.ownsRow w.heap.size 52 6 (.slice (some ⟨w.heap.size, 0, none⟩) 1 1) 1 [.int .i64 0, .int .i64 0, .int .i64 0, .int .i64 0, .int .i64 0, .int .i64 0] := ss29
    clear ss29
    have sd30 : y29.cell? ⟨w.heap.size, 1, none⟩ = some (.int .i64 0) := by rw [so29.cellAt 1 (by omega)]; rfl
    have sf30 := so29.frozenAt 1
    have ss30 := (so29.stored 1 (.int .i64 0)).1
    obtain ⟨y30, hy30⟩ : ∃ w', y29.setCell ⟨w.heap.size, 1, none⟩ (.int .i64 0) = w' := ⟨_, rfl⟩
    rw [hy30] at ss30
    have so30 : y30.ownsRow w.heap.size 52 6 (.slice (some ⟨w.heap.size, 0, none⟩) 1 1) 1 [.int .i64 0, .int .i64 0, .int .i64 0, .int .i64 0, .int .i64 0, .int .i64 0] := ss30
    clear ss30
    have sd31 : y30.cell? ⟨w.heap.size, 2, none⟩ = some (.int .i64 0) := by rw [so30.cellAt 2 (by omega)]; rfl
    have sf31 := so30.frozenAt 2
    have ss31 := (so30.stored 2 (.int .i64 0)).1
    obtain ⟨y31, hy31⟩ : ∃ w', y30.setCell ⟨w.heap.size, 2, none⟩ (.int .i64 0) = w' := ⟨_, rfl⟩
    rw [hy31] at ss31
    have so31 : y31.ownsRow w.heap.size 52 6 (.slice (some ⟨w.heap.size, 0, none⟩) 1 1) 1 [.int .i64 0, .int .i64 0, .int .i64 0, .int .i64 0, .int .i64 0, .int .i64 0] := ss31
    clear ss31
    have sd32 : y31.cell? ⟨w.heap.size, 3, none⟩ = some (.int .i64 0) := by rw [so31.cellAt 3 (by omega)]; rfl
    have sf32 := so31.frozenAt 3
    have ss32 := (so31.stored 3 (.int .i64 0)).1
    obtain ⟨y32, hy32⟩ : ∃ w', y31.setCell ⟨w.heap.size, 3, none⟩ (.int .i64 0) = w' := ⟨_, rfl⟩
    rw [hy32] at ss32
    have so32 : y32.ownsRow w.heap.size 52 6 (.slice (some ⟨w.heap.size, 0, none⟩) 1 1) 1 [.int .i64 0, .int .i64 0, .int .i64 0, .int .i64 0, .int .i64 0, .int .i64 0] := ss32
    clear ss32
    have sd33 : y32.cell? ⟨w.heap.size, 4, none⟩ = some (.int .i64 0) := by rw [so32.cellAt 4 (by omega)]; rfl
    have sf33 := so32.frozenAt 4
    have ss33 := (so32.stored 4 (.int .i64 0)).1
    obtain ⟨y33, hy33⟩ : ∃ w', y32.setCell ⟨w.heap.size, 4, none⟩ (.int .i64 0) = w' := ⟨_, rfl⟩
    rw [hy33] at ss33
    have so33 : y33.ownsRow w.heap.size 52 6 (.slice (some ⟨w.heap.size, 0, none⟩) 1 1) 1 [.int .i64 0, .int .i64 0, .int .i64 0, .int .i64 0, .int .i64 0, .int .i64 0] := ss33
    clear ss33
    have sd34 : y33.cell? ⟨w.heap.size, 5, none⟩ = some (.int .i64 0) := by rw [so33.cellAt 5 (by omega)]; rfl
    have sf34 := so33.frozenAt 5
    have ss34 := (so33.stored 5 (.int .i64 0)).1
    obtain ⟨y34, hy34⟩ : ∃ w', y33.setCell ⟨w.heap.size, 5, none⟩ (.int .i64 0) = w' := ⟨_, rfl⟩
    rw [hy34] at ss34
    have so34 : y34.ownsRow w.heap.size 52 6 (.slice (some ⟨w.heap.size, 0, none⟩) 1 1) 1 [.int .i64 0, .int .i64 0, .int .i64 0, .int .i64 0, .int .i64 0, .int .i64 0] := ss34
    clear ss34
    have on35 := OnlyAt.refl (w.heap.size) W
    have on35 := on35.setCell 0 (.int .i64 0)
    rw [hy29] at on35
    have on35 := on35.setCell 1 (.int .i64 0)
    rw [hy30] at on35
    have on35 := on35.setCell 2 (.int .i64 0)
    rw [hy31] at on35
    have on35 := on35.setCell 3 (.int .i64 0)
    rw [hy32] at on35
    have on35 := on35.setCell 4 (.int .i64 0)
    rw [hy33] at on35
    have on35 := on35.setCell 5 (.int .i64 0)
    rw [hy34] at on35
    have z0 : y34.cell? ⟨w.heap.size, 0, none⟩ = some (.int .i64 0) := by rw [so34.cellAt 0 (by omega)]; rfl
    have z1 : y34.cell? ⟨w.heap.size, 1, none⟩ = some (.int .i64 0) := by rw [so34.cellAt 1 (by omega)]; rfl
    have z2 : y34.cell? ⟨w.heap.size, 2, none⟩ = some (.int .i64 0) := by rw [so34.cellAt 2 (by omega)]; rfl
    have z3 : y34.cell? ⟨w.heap.size, 3, none⟩ = some (.int .i64 0) := by rw [so34.cellAt 3 (by omega)]; rfl
    have z4 : y34.cell? ⟨w.heap.size, 4, none⟩ = some (.int .i64 0) := by rw [so34.cellAt 4 (by omega)]; rfl
    have z5 : y34.cell? ⟨w.heap.size, 5, none⟩ = some (.int .i64 0) := by rw [so34.cellAt 5 (by omega)]; rfl
    have RBel := hide (bW.trans (on35.below (Nat.le_refl _)))
    clear on35 so29 so30 so31 so32 so33 so34
    go_wp2_with fail
    refine bodyPost_ret (v := .tuple #[.agg #[.int .i64 0, .int .i64 0, .int .i64 0, .int .i64 0, .int .i64 0, .int .i64 0], .bool false]) (by simp [results, Try.results34, go_sem, z0, z1, z2, z3, z4, z5]) rfl ⟨by rw [unhide HR]; rfl, unhide RBel⟩
  have hne : L ≠ [] := fun e => h0 (by rw [hm, e]; rfl)
  have hm0 : ((m : Int) == 0) = false := by simp; omega
  have hm1 : ¬ m = 0 := h0
  have hmp : (0 : Int) < (m : Int) := by omega
  have hLp : 0 < L.length := List.length_pos_iff.2 hne
  have HNe := hide hne
  clear hm hne
  obtain ⟨bx, offx, ea, hbx, hxcells⟩ := hxr (by omega)
  have fa := Win.flat_at L 0 hLp
  obtain ⟨⟨F, C, U, Lo, Hi, La⟩, hE⟩ : ∃ x, x = Win.at' L 0 := ⟨_, rfl⟩
  rw [← hE] at fa
  simp only [Nat.zero_mul, Nat.zero_add] at fa
  have HE0 := hide hE
  have v0 : W.cell? ⟨bx, offx, none⟩ = some (.int .i64 F) := (bW.cell (p := ⟨bx, _, none⟩) hbx).trans (hxcells 0 _ fa.1)
  have v1 : W.cell? ⟨bx, offx + 1, none⟩ = some (.int .i64 C) := (bW.cell (p := ⟨bx, _, none⟩) hbx).trans (hxcells 1 _ fa.2.1)
  have v2 : W.cell? ⟨bx, offx + 2, none⟩ = some (.int .i64 U) := (bW.cell (p := ⟨bx, _, none⟩) hbx).trans (hxcells 2 _ fa.2.2.1)
  have v3 : W.cell? ⟨bx, offx + 3, none⟩ = some (.int .i64 Lo) := (bW.cell (p := ⟨bx, _, none⟩) hbx).trans (hxcells 3 _ fa.2.2.2.1)
  have v4 : W.cell? ⟨bx, offx + 4, none⟩ = some (.int .i64 Hi) := (bW.cell (p := ⟨bx, _, none⟩) hbx).trans (hxcells 4 _ fa.2.2.2.2.1)
  have v5 : W.cell? ⟨bx, offx + 5, none⟩ = some (.int .i64 La) := (bW.cell (p := ⟨bx, _, none⟩) hbx).trans (hxcells 5 _ fa.2.2.2.2.2)
  obtain ⟨W2, hW2⟩ : ∃ w', W.alloc (.cells #[.int .i64 F, .int .i64 C, .int .i64 U, .int .i64 Lo, .int .i64 Hi, .int .i64 La] 52) = w' := ⟨_, rfl⟩
  have b2 : Below W.heap.size W W2 := by rw [← hW2]; exact (Below.refl _ _).alloc (Nat.le_refl _) _
  have c2 := bW.trans (b2.mono bW.size)
  have RZ := own_below oR b2
  have RO : W2.ownsRow w.heap.size 52 6 (.slice (some ⟨w.heap.size + 1, 0, none⟩) 1 1) 1 (vals (outW L 0)) := by
    have := own_new (w := W) (base := w.heap.size) (cs := #[.int .i64 F, .int .i64 C, .int .i64 U, .int .i64 Lo, .int .i64 Hi, .int .i64 La]) (t := 52) bW.size rfl
    rw [outW_zero hLp, ← hE, ← hW2, ← zW]
    exact this
  clear fa hE oR b2
  subst ea
  go_enter Try.func34, Try.ntmps34
  go_wp2_with fail
  clear v0 v1 v2 v3 v4 v5 hW hW2 hmp
  go_loopw [5] (fun iv wr => ∃ k : Nat, iv = .int .i64 (k : Int) ∧ k ≤ m ∧ Hid (okToW L k = true) ∧ wr.ownsRow w.heap.size 52 6 (.slice (some ⟨w.heap.size + 1, 0, none⟩) 1 1) 1 (vals (outW L k)) ∧ wr.ownsRow w.heap.size 52 6 (.slice (some ⟨w.heap.size, 0, none⟩) 1 1) 1 [.int .i64 0, .int .i64 0, .int .i64 0, .int .i64 0, .int .i64 0, .int .i64 0] ∧ Below w.heap.size w wr) (fun iv _ => m - (intOf iv).toNat)
  case atStart => exact ⟨0, rfl, Nat.zero_le _, rfl, RO, RZ, c2⟩
  case round =>
    clear RO RZ c2 HE0
    obtain ⟨k, rfl, hk, HOk, hox, hor, hbel⟩ := hrel
    have hsz := hbel.size
    have hk0 : (0 : Int) ≤ (k : Int) := Int.natCast_nonneg _
    by_cases hlt : k < m
    · have hkz : k < L.length := by rw [← unhide HM]; exact hlt
      have fa := Win.flat_at L k hkz
      have hk1 : (k : Int) < (m : Int) := by omega
      have XX := fun j u (h : (Win.flat L)[k * 6 + j]? = some u) => (hbel.cell (p := ⟨bx, _, none⟩) hbx).trans (hxcells _ _ h)
      obtain ⟨⟨F, C, U, Lo, Hi, La⟩, hE⟩ : ∃ x, x = Win.at' L k := ⟨_, rfl⟩
      rw [← hE] at fa
      have HE := hide hE
      simp only at fa
      have x0 : wr.cell? ⟨bx, offx + k * 6, none⟩ = some (.int .i64 F) := XX 0 _ fa.1
      have x1 : wr.cell? ⟨bx, offx + k * 6 + 1, none⟩ = some (.int .i64 C) := XX 1 _ fa.2.1
      have x2 : wr.cell? ⟨bx, offx + k * 6 + 2, none⟩ = some (.int .i64 U) := XX 2 _ fa.2.2.1
      have x3 : wr.cell? ⟨bx, offx + k * 6 + 3, none⟩ = some (.int .i64 Lo) := XX 3 _ fa.2.2.2.1
      have x4 : wr.cell? ⟨bx, offx + k * 6 + 4, none⟩ = some (.int .i64 Hi) := XX 4 _ fa.2.2.2.2.1
      have x5 : wr.cell? ⟨bx, offx + k * 6 + 5, none⟩ = some (.int .i64 La) := XX 5 _ fa.2.2.2.2.2
      clear fa hE XX
      obtain ⟨wb, hwb⟩ : ∃ wb, wr.alloc (.cells #[.int .i64 F, .int .i64 C, .int .i64 U, .int .i64 Lo, .int .i64 Hi, .int .i64 La] 52) = wb := ⟨_, rfl⟩
      have bwb : Below wr.heap.size wr wb := by rw [← hwb]; exact (Below.refl _ _).alloc (Nat.le_refl _) _
      have zwb : wr.heap.size < wb.heap.size := by rw [← hwb]; simp
      have tc : ∀ j, wb.cell? ⟨wr.heap.size, j, none⟩ = (#[Value.int .i64 F, .int .i64 C, .int .i64 U, .int .i64 Lo, .int .i64 Hi, .int .i64 La] : Array Value)[j]? := fun j => by rw [← hwb]; exact cell_of_row _ _ j _ _ _ (heap_alloc_new wr _)
      have hxb : bx < wr.heap.size := Nat.lt_of_lt_of_le hbx hbel.size
      have hxb2 : bx < wb.heap.size := by omega
      have T0 : ∀ W : World, Below wb.heap.size wb W → W.cell? ⟨wr.heap.size, 0, none⟩ = some (.int .i64 F) := fun W hb => (hb.cell (p := ⟨wr.heap.size, 0, none⟩) zwb).trans (tc 0)
      have T1 : ∀ W : World, Below wb.heap.size wb W → W.cell? ⟨wr.heap.size, 1, none⟩ = some (.int .i64 C) := fun W hb => (hb.cell (p := ⟨wr.heap.size, 1, none⟩) zwb).trans (tc 1)
      have T2 : ∀ W : World, Below wb.heap.size wb W → W.cell? ⟨wr.heap.size, 2, none⟩ = some (.int .i64 U) := fun W hb => (hb.cell (p := ⟨wr.heap.size, 2, none⟩) zwb).trans (tc 2)
      have T3 : ∀ W : World, Below wb.heap.size wb W → W.cell? ⟨wr.heap.size, 3, none⟩ = some (.int .i64 Lo) := fun W hb => (hb.cell (p := ⟨wr.heap.size, 3, none⟩) zwb).trans (tc 3)
      have T4 : ∀ W : World, Below wb.heap.size wb W → W.cell? ⟨wr.heap.size, 4, none⟩ = some (.int .i64 Hi) := fun W hb => (hb.cell (p := ⟨wr.heap.size, 4, none⟩) zwb).trans (tc 4)
      have T5 : ∀ W : World, Below wb.heap.size wb W → W.cell? ⟨wr.heap.size, 5, none⟩ = some (.int .i64 La) := fun W hb => (hb.cell (p := ⟨wr.heap.size, 5, none⟩) zwb).trans (tc 5)
      have hq0 : ∀ x : Cls wb.heap.size wb, x.val.cell? ⟨wr.heap.size, 0, none⟩ = some (.int .i64 F) := fun x => T0 _ x.isBelow
      have hq1 : ∀ x : Cls wb.heap.size wb, x.val.cell? ⟨wr.heap.size, 1, none⟩ = some (.int .i64 C) := fun x => T1 _ x.isBelow
      have hq2 : ∀ x : Cls wb.heap.size wb, x.val.cell? ⟨wr.heap.size, 2, none⟩ = some (.int .i64 U) := fun x => T2 _ x.isBelow
      have hq3 : ∀ x : Cls wb.heap.size wb, x.val.cell? ⟨wr.heap.size, 3, none⟩ = some (.int .i64 Lo) := fun x => T3 _ x.isBelow
      have hq4 : ∀ x : Cls wb.heap.size wb, x.val.cell? ⟨wr.heap.size, 4, none⟩ = some (.int .i64 Hi) := fun x => T4 _ x.isBelow
      have hq5 : ∀ x : Cls wb.heap.size wb, x.val.cell? ⟨wr.heap.size, 5, none⟩ = some (.int .i64 La) := fun x => T5 _ x.isBelow
      have HT0 := hide T0
      have HT1 := hide T1
      have HT2 := hide T2
      have HT3 := hide T3
      have HT4 := hide T4
      have HT5 := hide T5
      have hne := cls_nonempty wb.heap.size wb
      clear tc T0 T1 T2 T3 T4 T5
      have HW := hide (fun W : World => spec_l11Ok F C U Lo Hi La W)
      cases hb : okB (F, C, U, Lo, Hi, La)
      · have HB := hide hb
        rw [hb] at HW
        have HBad := hide (okToW_bad hkz (show stepW L k = false by unfold stepW; rw [← unhide HE, unhide HB]; rfl))
        clear hb
        go_wp2_with fail
        refine region_cls (by kernel_rfl) (by kernel_rfl) ?_
        repeat (go_big_quiet_step ((go_at_call 62; exact cls_call (Nat.le_refl _) (unhide HW _))))
        refine wpQuiet_nil ?_
        rintro w7 ⟨⟨_, hq⟩, rfl⟩
        have c7 := hbel.trans ((bwb.trans (hq.mono bwb.size)).mono hsz)
        clear hq0 hq1 hq2 hq3 hq4 hq5 hne x0 x1 x2 x3 x4 x5 hwb HW
        have HR := hide (join_none (L := L) (.inr (.inl (unhide HBad))))
        have hor7 := own_below (own_below hor bwb) hq
        clear hox hor HBad
        have sd36 : w7.cell? ⟨w.heap.size, 0, none⟩ = some (.int .i64 0) := by rw [hor7.cellAt 0 (by omega)]; rfl
        have sf36 := hor7.frozenAt 0
        have ss36 := (hor7.stored 0 (.int .i64 0)).1
        obtain ⟨y36, hy36⟩ : ∃ w', w7.setCell ⟨w.heap.size, 0, none⟩ (.int .i64 0) = w' := ⟨_, rfl⟩
        rw [hy36] at ss36
        have so36 : y36.ownsRow w.heap.size 52 6 (.slice (some ⟨w.heap.size, 0, none⟩) 1 1) 1 [.int .i64 0, .int .i64 0, .int .i64 0, .int .i64 0, .int .i64 0, .int .i64 0] := ss36
        clear ss36
        have sd37 : y36.cell? ⟨w.heap.size, 1, none⟩ = some (.int .i64 0) := by rw [so36.cellAt 1 (by omega)]; rfl
        have sf37 := so36.frozenAt 1
        have ss37 := (so36.stored 1 (.int .i64 0)).1
        obtain ⟨y37, hy37⟩ : ∃ w', y36.setCell ⟨w.heap.size, 1, none⟩ (.int .i64 0) = w' := ⟨_, rfl⟩
        rw [hy37] at ss37
        have so37 : y37.ownsRow w.heap.size 52 6 (.slice (some ⟨w.heap.size, 0, none⟩) 1 1) 1 [.int .i64 0, .int .i64 0, .int .i64 0, .int .i64 0, .int .i64 0, .int .i64 0] := ss37
        clear ss37
        have sd38 : y37.cell? ⟨w.heap.size, 2, none⟩ = some (.int .i64 0) := by rw [so37.cellAt 2 (by omega)]; rfl
        have sf38 := so37.frozenAt 2
        have ss38 := (so37.stored 2 (.int .i64 0)).1
        obtain ⟨y38, hy38⟩ : ∃ w', y37.setCell ⟨w.heap.size, 2, none⟩ (.int .i64 0) = w' := ⟨_, rfl⟩
        rw [hy38] at ss38
        have so38 : y38.ownsRow w.heap.size 52 6 (.slice (some ⟨w.heap.size, 0, none⟩) 1 1) 1 [.int .i64 0, .int .i64 0, .int .i64 0, .int .i64 0, .int .i64 0, .int .i64 0] := ss38
        clear ss38
        have sd39 : y38.cell? ⟨w.heap.size, 3, none⟩ = some (.int .i64 0) := by rw [so38.cellAt 3 (by omega)]; rfl
        have sf39 := so38.frozenAt 3
        have ss39 := (so38.stored 3 (.int .i64 0)).1
        obtain ⟨y39, hy39⟩ : ∃ w', y38.setCell ⟨w.heap.size, 3, none⟩ (.int .i64 0) = w' := ⟨_, rfl⟩
        rw [hy39] at ss39
        have so39 : y39.ownsRow w.heap.size 52 6 (.slice (some ⟨w.heap.size, 0, none⟩) 1 1) 1 [.int .i64 0, .int .i64 0, .int .i64 0, .int .i64 0, .int .i64 0, .int .i64 0] := ss39
        clear ss39
        have sd40 : y39.cell? ⟨w.heap.size, 4, none⟩ = some (.int .i64 0) := by rw [so39.cellAt 4 (by omega)]; rfl
        have sf40 := so39.frozenAt 4
        have ss40 := (so39.stored 4 (.int .i64 0)).1
        obtain ⟨y40, hy40⟩ : ∃ w', y39.setCell ⟨w.heap.size, 4, none⟩ (.int .i64 0) = w' := ⟨_, rfl⟩
        rw [hy40] at ss40
        have so40 : y40.ownsRow w.heap.size 52 6 (.slice (some ⟨w.heap.size, 0, none⟩) 1 1) 1 [.int .i64 0, .int .i64 0, .int .i64 0, .int .i64 0, .int .i64 0, .int .i64 0] := ss40
        clear ss40
        have sd41 : y40.cell? ⟨w.heap.size, 5, none⟩ = some (.int .i64 0) := by rw [so40.cellAt 5 (by omega)]; rfl
        have sf41 := so40.frozenAt 5
        have ss41 := (so40.stored 5 (.int .i64 0)).1
        obtain ⟨y41, hy41⟩ : ∃ w', y40.setCell ⟨w.heap.size, 5, none⟩ (.int .i64 0) = w' := ⟨_, rfl⟩
        rw [hy41] at ss41
        have so41 : y41.ownsRow w.heap.size 52 6 (.slice (some ⟨w.heap.size, 0, none⟩) 1 1) 1 [.int .i64 0, .int .i64 0, .int .i64 0, .int .i64 0, .int .i64 0, .int .i64 0] := ss41
        clear ss41
        have on42 := OnlyAt.refl (w.heap.size) w7
        have on42 := on42.setCell 0 (.int .i64 0)
        rw [hy36] at on42
        have on42 := on42.setCell 1 (.int .i64 0)
        rw [hy37] at on42
        have on42 := on42.setCell 2 (.int .i64 0)
        rw [hy38] at on42
        have on42 := on42.setCell 3 (.int .i64 0)
        rw [hy39] at on42
        have on42 := on42.setCell 4 (.int .i64 0)
        rw [hy40] at on42
        have on42 := on42.setCell 5 (.int .i64 0)
        rw [hy41] at on42
        have z0 : y41.cell? ⟨w.heap.size, 0, none⟩ = some (.int .i64 0) := by rw [so41.cellAt 0 (by omega)]; rfl
        have z1 : y41.cell? ⟨w.heap.size, 1, none⟩ = some (.int .i64 0) := by rw [so41.cellAt 1 (by omega)]; rfl
        have z2 : y41.cell? ⟨w.heap.size, 2, none⟩ = some (.int .i64 0) := by rw [so41.cellAt 2 (by omega)]; rfl
        have z3 : y41.cell? ⟨w.heap.size, 3, none⟩ = some (.int .i64 0) := by rw [so41.cellAt 3 (by omega)]; rfl
        have z4 : y41.cell? ⟨w.heap.size, 4, none⟩ = some (.int .i64 0) := by rw [so41.cellAt 4 (by omega)]; rfl
        have z5 : y41.cell? ⟨w.heap.size, 5, none⟩ = some (.int .i64 0) := by rw [so41.cellAt 5 (by omega)]; rfl
        have RBel := hide (c7.trans (on42.below (Nat.le_refl _)))
        clear on42 so36 so37 so38 so39 so40 so41
        go_wp2_with fail
        refine bodyPost_ret (v := .tuple #[.agg #[.int .i64 0, .int .i64 0, .int .i64 0, .int .i64 0, .int .i64 0, .int .i64 0], .bool false]) (by simp [results, Try.results34, go_sem, z0, z1, z2, z3, z4, z5]) rfl ⟨by rw [unhide HR]; rfl, unhide RBel⟩
      have HB := hide hb
      rw [hb] at HW
      clear hb
      by_cases hkp : 0 < k
      · have hkp' : (0 : Int) < (k : Int) := by omega
        have hkw : wrap64 ((k : Int) - 1) = (k : Int) - 1 := by unfold wrap64; omega
        have hk2 : (0 : Int) ≤ (k : Int) - 1 := by omega
        have hk3 : (k : Int) - 1 < (m : Int) := by omega
        have hk4 : ((k : Int) - 1).toNat = k - 1 := by omega
        obtain ⟨F', hF'⟩ : ∃ F', F' = (Win.at' L (k - 1)).1 := ⟨_, rfl⟩
        have HF' := hide hF'
        have f0 : wr.cell? ⟨bx, offx + (k - 1) * 6, none⟩ = some (.int .i64 F') := by rw [hF']; exact (hbel.cell (p := ⟨bx, _, none⟩) hbx).trans (hxcells _ _ (Win.flat_at L (k - 1) (by rw [← unhide HM]; omega)).1)
        have hq6 : ∀ x : Cls wb.heap.size wb, x.val.cell? ⟨bx, offx + (k - 1) * 6, none⟩ = some (.int .i64 F') := fun x => (x.isBelow.cell (p := ⟨bx, _, none⟩) hxb2).trans ((bwb.cell (p := ⟨bx, _, none⟩) hxb).trans f0)
        clear hF' f0
        by_cases hFl : F ≤ F'
        · have HBad := hide (okToW_bad hkz (show stepW L k = false by unfold stepW; rw [← unhide HE, unhide HB, ← unhide HF', decide_eq_false (show ¬ F' < F by omega)]; simp; omega))
          go_wp2_with fail
          refine region_cls (by kernel_rfl) (by kernel_rfl) ?_
          repeat (go_big_quiet_step ((go_at_call 62; exact cls_call (Nat.le_refl _) (unhide HW _))))
          refine wpQuiet_nil ?_
          rintro w7 ⟨⟨_, hq⟩, rfl⟩
          have c7 := hbel.trans ((bwb.trans (hq.mono bwb.size)).mono hsz)
          clear hq0 hq1 hq2 hq3 hq4 hq5 hq6 hne x0 x1 x2 x3 x4 x5 hwb HW
          have HR := hide (join_none (L := L) (.inr (.inl (unhide HBad))))
          have hor7 := own_below (own_below hor bwb) hq
          clear hox hor HBad
          have sd43 : w7.cell? ⟨w.heap.size, 0, none⟩ = some (.int .i64 0) := by rw [hor7.cellAt 0 (by omega)]; rfl
          have sf43 := hor7.frozenAt 0
          have ss43 := (hor7.stored 0 (.int .i64 0)).1
          obtain ⟨y43, hy43⟩ : ∃ w', w7.setCell ⟨w.heap.size, 0, none⟩ (.int .i64 0) = w' := ⟨_, rfl⟩
          rw [hy43] at ss43
          have so43 : y43.ownsRow w.heap.size 52 6 (.slice (some ⟨w.heap.size, 0, none⟩) 1 1) 1 [.int .i64 0, .int .i64 0, .int .i64 0, .int .i64 0, .int .i64 0, .int .i64 0] := ss43
          clear ss43
          have sd44 : y43.cell? ⟨w.heap.size, 1, none⟩ = some (.int .i64 0) := by rw [so43.cellAt 1 (by omega)]; rfl
          have sf44 := so43.frozenAt 1
          have ss44 := (so43.stored 1 (.int .i64 0)).1
          obtain ⟨y44, hy44⟩ : ∃ w', y43.setCell ⟨w.heap.size, 1, none⟩ (.int .i64 0) = w' := ⟨_, rfl⟩
          rw [hy44] at ss44
          have so44 : y44.ownsRow w.heap.size 52 6 (.slice (some ⟨w.heap.size, 0, none⟩) 1 1) 1 [.int .i64 0, .int .i64 0, .int .i64 0, .int .i64 0, .int .i64 0, .int .i64 0] := ss44
          clear ss44
          have sd45 : y44.cell? ⟨w.heap.size, 2, none⟩ = some (.int .i64 0) := by rw [so44.cellAt 2 (by omega)]; rfl
          have sf45 := so44.frozenAt 2
          have ss45 := (so44.stored 2 (.int .i64 0)).1
          obtain ⟨y45, hy45⟩ : ∃ w', y44.setCell ⟨w.heap.size, 2, none⟩ (.int .i64 0) = w' := ⟨_, rfl⟩
          rw [hy45] at ss45
          have so45 : y45.ownsRow w.heap.size 52 6 (.slice (some ⟨w.heap.size, 0, none⟩) 1 1) 1 [.int .i64 0, .int .i64 0, .int .i64 0, .int .i64 0, .int .i64 0, .int .i64 0] := ss45
          clear ss45
          have sd46 : y45.cell? ⟨w.heap.size, 3, none⟩ = some (.int .i64 0) := by rw [so45.cellAt 3 (by omega)]; rfl
          have sf46 := so45.frozenAt 3
          have ss46 := (so45.stored 3 (.int .i64 0)).1
          obtain ⟨y46, hy46⟩ : ∃ w', y45.setCell ⟨w.heap.size, 3, none⟩ (.int .i64 0) = w' := ⟨_, rfl⟩
          rw [hy46] at ss46
          have so46 : y46.ownsRow w.heap.size 52 6 (.slice (some ⟨w.heap.size, 0, none⟩) 1 1) 1 [.int .i64 0, .int .i64 0, .int .i64 0, .int .i64 0, .int .i64 0, .int .i64 0] := ss46
          clear ss46
          have sd47 : y46.cell? ⟨w.heap.size, 4, none⟩ = some (.int .i64 0) := by rw [so46.cellAt 4 (by omega)]; rfl
          have sf47 := so46.frozenAt 4
          have ss47 := (so46.stored 4 (.int .i64 0)).1
          obtain ⟨y47, hy47⟩ : ∃ w', y46.setCell ⟨w.heap.size, 4, none⟩ (.int .i64 0) = w' := ⟨_, rfl⟩
          rw [hy47] at ss47
          have so47 : y47.ownsRow w.heap.size 52 6 (.slice (some ⟨w.heap.size, 0, none⟩) 1 1) 1 [.int .i64 0, .int .i64 0, .int .i64 0, .int .i64 0, .int .i64 0, .int .i64 0] := ss47
          clear ss47
          have sd48 : y47.cell? ⟨w.heap.size, 5, none⟩ = some (.int .i64 0) := by rw [so47.cellAt 5 (by omega)]; rfl
          have sf48 := so47.frozenAt 5
          have ss48 := (so47.stored 5 (.int .i64 0)).1
          obtain ⟨y48, hy48⟩ : ∃ w', y47.setCell ⟨w.heap.size, 5, none⟩ (.int .i64 0) = w' := ⟨_, rfl⟩
          rw [hy48] at ss48
          have so48 : y48.ownsRow w.heap.size 52 6 (.slice (some ⟨w.heap.size, 0, none⟩) 1 1) 1 [.int .i64 0, .int .i64 0, .int .i64 0, .int .i64 0, .int .i64 0, .int .i64 0] := ss48
          clear ss48
          have on49 := OnlyAt.refl (w.heap.size) w7
          have on49 := on49.setCell 0 (.int .i64 0)
          rw [hy43] at on49
          have on49 := on49.setCell 1 (.int .i64 0)
          rw [hy44] at on49
          have on49 := on49.setCell 2 (.int .i64 0)
          rw [hy45] at on49
          have on49 := on49.setCell 3 (.int .i64 0)
          rw [hy46] at on49
          have on49 := on49.setCell 4 (.int .i64 0)
          rw [hy47] at on49
          have on49 := on49.setCell 5 (.int .i64 0)
          rw [hy48] at on49
          have z0 : y48.cell? ⟨w.heap.size, 0, none⟩ = some (.int .i64 0) := by rw [so48.cellAt 0 (by omega)]; rfl
          have z1 : y48.cell? ⟨w.heap.size, 1, none⟩ = some (.int .i64 0) := by rw [so48.cellAt 1 (by omega)]; rfl
          have z2 : y48.cell? ⟨w.heap.size, 2, none⟩ = some (.int .i64 0) := by rw [so48.cellAt 2 (by omega)]; rfl
          have z3 : y48.cell? ⟨w.heap.size, 3, none⟩ = some (.int .i64 0) := by rw [so48.cellAt 3 (by omega)]; rfl
          have z4 : y48.cell? ⟨w.heap.size, 4, none⟩ = some (.int .i64 0) := by rw [so48.cellAt 4 (by omega)]; rfl
          have z5 : y48.cell? ⟨w.heap.size, 5, none⟩ = some (.int .i64 0) := by rw [so48.cellAt 5 (by omega)]; rfl
          have RBel := hide (c7.trans (on49.below (Nat.le_refl _)))
          clear on49 so43 so44 so45 so46 so47 so48
          go_wp2_with fail
          refine bodyPost_ret (v := .tuple #[.agg #[.int .i64 0, .int .i64 0, .int .i64 0, .int .i64 0, .int .i64 0, .int .i64 0], .bool false]) (by simp [results, Try.results34, go_sem, z0, z1, z2, z3, z4, z5]) rfl ⟨by rw [unhide HR]; rfl, unhide RBel⟩
        have hFd : decide (F ≤ F') = false := by simp; omega
        have hFF : decide (F' < F) = true := by simp; omega
        have HOk2 := hide (show okToW L (k + 1) = true by rw [okToW_succ, unhide HOk, Bool.true_and]; unfold stepW; rw [← unhide HE, unhide HB, ← unhide HF', hFF]; simp)
        clear hFF
        go_wp2_with fail
        refine region_cls (by kernel_rfl) (by kernel_rfl) ?_
        repeat (go_big_quiet_step ((go_at_call 62; exact cls_call (Nat.le_refl _) (unhide HW _))))
        refine wpQuiet_nil ?_
        rintro w7 ⟨⟨_, hq⟩, rfl⟩
        have c7 := hbel.trans ((bwb.trans (hq.mono bwb.size)).mono hsz)
        clear hq0 hq1 hq2 hq3 hq4 hq5 hq6 hne x0 x1 x2 x3 x4 x5 hwb HW
        have hbd := outW_says (show k ≤ L.length by omega) hkp (unhide HOk)
        have hSu := outW_next hkz hkp
        rw [← unhide HE] at hSu
        have hbW := okW_bounds ((okB_iff _).1 (unhide HB))
        have hbC := ((okB_iff _).1 (unhide HB)).2.1
        simp only at hbW hbC
        obtain ⟨F0, C0, U0, Lo0, Hi0, La0, eX⟩ : ∃ A0 A1 A2 A3 A4 A5, (A0, A1, A2, A3, A4, A5) = outW L k := ⟨_, _, _, _, _, _, rfl⟩
        rw [← eX] at hbd hSu hox
        simp only at hbd
        have HSu := hide hSu
        have hC0 : 0 ≤ C0 ∧ C0 ≤ 100000000 := by omega
        have hU0 : 0 ≤ U0 ∧ U0 ≤ 214748364700000000 := by omega
        have p0 : w7.ownsRow w.heap.size 52 6 (.slice (some ⟨w.heap.size + 1, 0, none⟩) 1 1) 1 [.int .i64 F0, .int .i64 C0, .int .i64 U0, .int .i64 Lo0, .int .i64 Hi0, .int .i64 La0] := own_below (own_below hox bwb) hq
        have hor7 := own_below (own_below hor bwb) hq
        have t1 := unhide HT1 w7 hq
        have t2 := unhide HT2 w7 hq
        have t3 := unhide HT3 w7 hq
        have t4 := unhide HT4 w7 hq
        have t5 := unhide HT5 w7 hq
        have hwr1 : w.heap.size + 1 < wr.heap.size := by have := own_lt hox; exact this
        have hnb : wr.heap.size ≠ w.heap.size + 1 := by omega
        clear hbd hSu eX hox hor
        have sd50 : w7.cell? ⟨w.heap.size + 1, 1, none⟩ = some (.int .i64 C0) := by rw [p0.cellAt 1 (by omega)]; rfl
        have sf50 := p0.frozenAt 1
        have ss50 := (p0.stored 1 (.int .i64 (C0 + C))).1
        obtain ⟨y50, hy50⟩ : ∃ w', w7.setCell ⟨w.heap.size + 1, 1, none⟩ (.int .i64 (C0 + C)) = w' := ⟨_, rfl⟩
        rw [hy50] at ss50
        have so50 : y50.ownsRow w.heap.size 52 6 (.slice (some ⟨w.heap.size + 1, 0, none⟩) 1 1) 1 [.int .i64 F0, .int .i64 (C0 + C), .int .i64 U0, .int .i64 Lo0, .int .i64 Hi0, .int .i64 La0] := ss50
        clear ss50
        have sd51 : y50.cell? ⟨w.heap.size + 1, 2, none⟩ = some (.int .i64 U0) := by rw [so50.cellAt 2 (by omega)]; rfl
        have sf51 := so50.frozenAt 2
        have ss51 := (so50.stored 2 (.int .i64 (U0 + U))).1
        obtain ⟨y51, hy51⟩ : ∃ w', y50.setCell ⟨w.heap.size + 1, 2, none⟩ (.int .i64 (U0 + U)) = w' := ⟨_, rfl⟩
        rw [hy51] at ss51
        have so51 : y51.ownsRow w.heap.size 52 6 (.slice (some ⟨w.heap.size + 1, 0, none⟩) 1 1) 1 [.int .i64 F0, .int .i64 (C0 + C), .int .i64 (U0 + U), .int .i64 Lo0, .int .i64 Hi0, .int .i64 La0] := ss51
        clear ss51
        have sd52 : y51.cell? ⟨w.heap.size + 1, 5, none⟩ = some (.int .i64 La0) := by rw [so51.cellAt 5 (by omega)]; rfl
        have sf52 := so51.frozenAt 5
        have ss52 := (so51.stored 5 (.int .i64 La)).1
        obtain ⟨y52, hy52⟩ : ∃ w', y51.setCell ⟨w.heap.size + 1, 5, none⟩ (.int .i64 La) = w' := ⟨_, rfl⟩
        rw [hy52] at ss52
        have so52 : y52.ownsRow w.heap.size 52 6 (.slice (some ⟨w.heap.size + 1, 0, none⟩) 1 1) 1 [.int .i64 F0, .int .i64 (C0 + C), .int .i64 (U0 + U), .int .i64 Lo0, .int .i64 Hi0, .int .i64 La] := ss52
        clear ss52
        have on53 := OnlyAt.refl (w.heap.size + 1) w7
        have on53 := on53.setCell 1 (.int .i64 (C0 + C))
        rw [hy50] at on53
        have on53 := on53.setCell 2 (.int .i64 (U0 + U))
        rw [hy51] at on53
        have on53 := on53.setCell 5 (.int .i64 La)
        rw [hy52] at on53
        have on54 := OnlyAt.refl (w.heap.size + 1) w7
        have on54 := on54.setCell 1 (.int .i64 (C0 + C))
        rw [hy50] at on54
        have tt55 : y50.cell? ⟨wr.heap.size, 2, none⟩ = some (.int .i64 U) := (World.cell?_of_block (a := ⟨wr.heap.size, 2, none⟩) (on54.block wr.heap.size hnb)).trans t2
        clear on54
        have on56 := OnlyAt.refl (w.heap.size + 1) w7
        have on56 := on56.setCell 1 (.int .i64 (C0 + C))
        rw [hy50] at on56
        have on56 := on56.setCell 2 (.int .i64 (U0 + U))
        rw [hy51] at on56
        have tt57 : y51.cell? ⟨wr.heap.size, 5, none⟩ = some (.int .i64 La) := (World.cell?_of_block (a := ⟨wr.heap.size, 5, none⟩) (on56.block wr.heap.size hnb)).trans t5
        clear on56
        have on58 := OnlyAt.refl (w.heap.size + 1) w7
        have on58 := on58.setCell 1 (.int .i64 (C0 + C))
        rw [hy50] at on58
        have on58 := on58.setCell 2 (.int .i64 (U0 + U))
        rw [hy51] at on58
        have on58 := on58.setCell 5 (.int .i64 La)
        rw [hy52] at on58
        have tt59 : y52.cell? ⟨wr.heap.size, 3, none⟩ = some (.int .i64 Lo) := (World.cell?_of_block (a := ⟨wr.heap.size, 3, none⟩) (on58.block wr.heap.size hnb)).trans t3
        have tt60 : y52.cell? ⟨wr.heap.size, 4, none⟩ = some (.int .i64 Hi) := (World.cell?_of_block (a := ⟨wr.heap.size, 4, none⟩) (on58.block wr.heap.size hnb)).trans t4
        clear on58
        have hd3 : y52.cell? ⟨w.heap.size + 1, 3, none⟩ = some (.int .i64 Lo0) := by rw [so52.cellAt 3 (by omega)]; rfl
        by_cases hlo : Lo < Lo0
        · have hdl : decide (Lo < Lo0) = true := by simp; omega
          have sd61 : y52.cell? ⟨w.heap.size + 1, 3, none⟩ = some (.int .i64 Lo0) := by rw [so52.cellAt 3 (by omega)]; rfl
          have sf61 := so52.frozenAt 3
          have ss61 := (so52.stored 3 (.int .i64 Lo)).1
          obtain ⟨y61, hy61⟩ : ∃ w', y52.setCell ⟨w.heap.size + 1, 3, none⟩ (.int .i64 Lo) = w' := ⟨_, rfl⟩
          rw [hy61] at ss61
          have so61 : y61.ownsRow w.heap.size 52 6 (.slice (some ⟨w.heap.size + 1, 0, none⟩) 1 1) 1 [.int .i64 F0, .int .i64 (C0 + C), .int .i64 (U0 + U), .int .i64 Lo, .int .i64 Hi0, .int .i64 La] := ss61
          clear ss61
          have on62 := OnlyAt.refl (w.heap.size + 1) w7
          have on62 := on62.setCell 1 (.int .i64 (C0 + C))
          rw [hy50] at on62
          have on62 := on62.setCell 2 (.int .i64 (U0 + U))
          rw [hy51] at on62
          have on62 := on62.setCell 5 (.int .i64 La)
          rw [hy52] at on62
          have on62 := on62.setCell 3 (.int .i64 Lo)
          rw [hy61] at on62
          have on63 := OnlyAt.refl (w.heap.size + 1) w7
          have on63 := on63.setCell 1 (.int .i64 (C0 + C))
          rw [hy50] at on63
          have on63 := on63.setCell 2 (.int .i64 (U0 + U))
          rw [hy51] at on63
          have on63 := on63.setCell 5 (.int .i64 La)
          rw [hy52] at on63
          have on63 := on63.setCell 3 (.int .i64 Lo)
          rw [hy61] at on63
          have tt64 : y61.cell? ⟨wr.heap.size, 4, none⟩ = some (.int .i64 Hi) := (World.cell?_of_block (a := ⟨wr.heap.size, 4, none⟩) (on63.block wr.heap.size hnb)).trans t4
          clear on63
          have hd4 : y61.cell? ⟨w.heap.size + 1, 4, none⟩ = some (.int .i64 Hi0) := by rw [so61.cellAt 4 (by omega)]; rfl
          by_cases hhi : Hi0 < Hi
          · have hdh : decide (Hi0 < Hi) = true := by simp; omega
            have sd65 : y61.cell? ⟨w.heap.size + 1, 4, none⟩ = some (.int .i64 Hi0) := by rw [so61.cellAt 4 (by omega)]; rfl
            have sf65 := so61.frozenAt 4
            have ss65 := (so61.stored 4 (.int .i64 Hi)).1
            obtain ⟨y65, hy65⟩ : ∃ w', y61.setCell ⟨w.heap.size + 1, 4, none⟩ (.int .i64 Hi) = w' := ⟨_, rfl⟩
            rw [hy65] at ss65
            have so65 : y65.ownsRow w.heap.size 52 6 (.slice (some ⟨w.heap.size + 1, 0, none⟩) 1 1) 1 [.int .i64 F0, .int .i64 (C0 + C), .int .i64 (U0 + U), .int .i64 Lo, .int .i64 Hi, .int .i64 La] := ss65
            clear ss65
            have on66 := OnlyAt.refl (w.heap.size + 1) w7
            have on66 := on66.setCell 1 (.int .i64 (C0 + C))
            rw [hy50] at on66
            have on66 := on66.setCell 2 (.int .i64 (U0 + U))
            rw [hy51] at on66
            have on66 := on66.setCell 5 (.int .i64 La)
            rw [hy52] at on66
            have on66 := on66.setCell 3 (.int .i64 Lo)
            rw [hy61] at on66
            have on66 := on66.setCell 4 (.int .i64 Hi)
            rw [hy65] at on66
            have HF := hide (show outW L (k + 1) = (F0, C0 + C, U0 + U, Lo, Hi, La) by rw [unhide HSu]; unfold tgP; simp only; rw [show min Lo0 Lo = Lo by omega, show max Hi0 Hi = Hi by omega])
            have RO := hide (on66.own hor7 (fun k hk => by simp only [Value.ownBlock, Option.some.injEq] at hk; omega))
            have RB := hide (c7.trans (on66.below (show w.heap.size ≤ w.heap.size + 1 by omega)))
            have RQ := hide so65
            clear on66 hor7
            go_wp2_with fail
            go_roundw
            case rel => exact ⟨k + 1, by go_num, by omega, HOk2, by rw [unhide HF]; exact unhide RQ, unhide RO, unhide RB⟩
            case measure => first | (simp [intOf]; done) | (simp [intOf]; omega)
          · have hdh : decide (Hi0 < Hi) = false := by simp; omega
            have HF := hide (show outW L (k + 1) = (F0, C0 + C, U0 + U, Lo, Hi0, La) by rw [unhide HSu]; unfold tgP; simp only; rw [show min Lo0 Lo = Lo by omega, show max Hi0 Hi = Hi0 by omega])
            have RO := hide (on62.own hor7 (fun k hk => by simp only [Value.ownBlock, Option.some.injEq] at hk; omega))
            have RB := hide (c7.trans (on62.below (show w.heap.size ≤ w.heap.size + 1 by omega)))
            have RQ := hide so61
            clear on62 hor7
            go_wp2_with fail
            go_roundw
            case rel => exact ⟨k + 1, by go_num, by omega, HOk2, by rw [unhide HF]; exact unhide RQ, unhide RO, unhide RB⟩
            case measure => first | (simp [intOf]; done) | (simp [intOf]; omega)
        · have hdl : decide (Lo < Lo0) = false := by simp; omega
          have hd4 : y52.cell? ⟨w.heap.size + 1, 4, none⟩ = some (.int .i64 Hi0) := by rw [so52.cellAt 4 (by omega)]; rfl
          by_cases hhi : Hi0 < Hi
          · have hdh : decide (Hi0 < Hi) = true := by simp; omega
            have sd67 : y52.cell? ⟨w.heap.size + 1, 4, none⟩ = some (.int .i64 Hi0) := by rw [so52.cellAt 4 (by omega)]; rfl
            have sf67 := so52.frozenAt 4
            have ss67 := (so52.stored 4 (.int .i64 Hi)).1
            obtain ⟨y67, hy67⟩ : ∃ w', y52.setCell ⟨w.heap.size + 1, 4, none⟩ (.int .i64 Hi) = w' := ⟨_, rfl⟩
            rw [hy67] at ss67
            have so67 : y67.ownsRow w.heap.size 52 6 (.slice (some ⟨w.heap.size + 1, 0, none⟩) 1 1) 1 [.int .i64 F0, .int .i64 (C0 + C), .int .i64 (U0 + U), .int .i64 Lo0, .int .i64 Hi, .int .i64 La] := ss67
            clear ss67
            have on68 := OnlyAt.refl (w.heap.size + 1) w7
            have on68 := on68.setCell 1 (.int .i64 (C0 + C))
            rw [hy50] at on68
            have on68 := on68.setCell 2 (.int .i64 (U0 + U))
            rw [hy51] at on68
            have on68 := on68.setCell 5 (.int .i64 La)
            rw [hy52] at on68
            have on68 := on68.setCell 4 (.int .i64 Hi)
            rw [hy67] at on68
            have HF := hide (show outW L (k + 1) = (F0, C0 + C, U0 + U, Lo0, Hi, La) by rw [unhide HSu]; unfold tgP; simp only; rw [show min Lo0 Lo = Lo0 by omega, show max Hi0 Hi = Hi by omega])
            have RO := hide (on68.own hor7 (fun k hk => by simp only [Value.ownBlock, Option.some.injEq] at hk; omega))
            have RB := hide (c7.trans (on68.below (show w.heap.size ≤ w.heap.size + 1 by omega)))
            have RQ := hide so67
            clear on68 hor7
            go_wp2_with fail
            go_roundw
            case rel => exact ⟨k + 1, by go_num, by omega, HOk2, by rw [unhide HF]; exact unhide RQ, unhide RO, unhide RB⟩
            case measure => first | (simp [intOf]; done) | (simp [intOf]; omega)
          · have hdh : decide (Hi0 < Hi) = false := by simp; omega
            have HF := hide (show outW L (k + 1) = (F0, C0 + C, U0 + U, Lo0, Hi0, La) by rw [unhide HSu]; unfold tgP; simp only; rw [show min Lo0 Lo = Lo0 by omega, show max Hi0 Hi = Hi0 by omega])
            have RO := hide (on53.own hor7 (fun k hk => by simp only [Value.ownBlock, Option.some.injEq] at hk; omega))
            have RB := hide (c7.trans (on53.below (show w.heap.size ≤ w.heap.size + 1 by omega)))
            have RQ := hide so52
            clear on53 hor7
            go_wp2_with fail
            go_roundw
            case rel => exact ⟨k + 1, by go_num, by omega, HOk2, by rw [unhide HF]; exact unhide RQ, unhide RO, unhide RB⟩
            case measure => first | (simp [intOf]; done) | (simp [intOf]; omega)
      · have hkp' : decide ((0 : Int) < (k : Int)) = false := by simp; omega
        have HOk2 := hide (show okToW L (k + 1) = true by rw [okToW_succ, unhide HOk, Bool.true_and]; unfold stepW; rw [← unhide HE, unhide HB]; simp; omega)
        go_wp2_with fail
        refine region_cls (by kernel_rfl) (by kernel_rfl) ?_
        repeat (go_big_quiet_step ((go_at_call 62; exact cls_call (Nat.le_refl _) (unhide HW _))))
        refine wpQuiet_nil ?_
        rintro w7 ⟨⟨_, hq⟩, rfl⟩
        have c7 := hbel.trans ((bwb.trans (hq.mono bwb.size)).mono hsz)
        clear hq0 hq1 hq2 hq3 hq4 hq5 hne x0 x1 x2 x3 x4 x5 hwb HW
        have hox7 := own_below (own_below hox bwb) hq
        have hor7 := own_below (own_below hor bwb) hq
        clear hox hor
        go_wp2_with fail
        go_roundw
        case rel => exact ⟨k + 1, by go_num, by omega, HOk2, by have e : outW L (k + 1) = outW L k := (by rw [show k = 0 by omega]; rfl); rw [e]; exact hox7, hor7, c7⟩
        case measure => first | (simp [intOf]; done) | (simp [intOf]; omega)
    · have hkm : k = L.length := by rw [← unhide HM]; omega
      have hSB : okSB L = true := by have := unhide HOk; unfold okSB; rwa [hkm] at this
      have hJ : outW L k = jl L := by rw [hkm]; exact outW_all hLp
      have HR1 := hide (fun h3 => join_all (unhide HNe) hSB h3)
      have HR0 := hide (fun h3 => join_none (L := L) (.inr (.inr h3)))
      rw [hJ] at hox
      obtain ⟨F, C, U, Lo, Hi, La, eX⟩ : ∃ A0 A1 A2 A3 A4 A5, (A0, A1, A2, A3, A4, A5) = jl L := ⟨_, _, _, _, _, _, rfl⟩
      rw [← eX] at hox HR1 HR0
      have p0 : wr.ownsRow w.heap.size 52 6 (.slice (some ⟨w.heap.size + 1, 0, none⟩) 1 1) 1 [.int .i64 F, .int .i64 C, .int .i64 U, .int .i64 Lo, .int .i64 Hi, .int .i64 La] := hox
      have k0 : wr.cell? ⟨w.heap.size + 1, 0, none⟩ = some (.int .i64 F) := by rw [p0.cellAt 0 (by omega)]; rfl
      have k1 : wr.cell? ⟨w.heap.size + 1, 1, none⟩ = some (.int .i64 C) := by rw [p0.cellAt 1 (by omega)]; rfl
      have k2 : wr.cell? ⟨w.heap.size + 1, 2, none⟩ = some (.int .i64 U) := by rw [p0.cellAt 2 (by omega)]; rfl
      have k3 : wr.cell? ⟨w.heap.size + 1, 3, none⟩ = some (.int .i64 Lo) := by rw [p0.cellAt 3 (by omega)]; rfl
      have k4 : wr.cell? ⟨w.heap.size + 1, 4, none⟩ = some (.int .i64 Hi) := by rw [p0.cellAt 4 (by omega)]; rfl
      have k5 : wr.cell? ⟨w.heap.size + 1, 5, none⟩ = some (.int .i64 La) := by rw [p0.cellAt 5 (by omega)]; rfl
      clear hox p0 eX hJ hSB hkm HOk
      by_cases hbig : 10000 < C
      · have HR := hide (unhide HR0 (by first | omega | (simp only; omega)))
        clear HR0 HR1
        have sd69 : wr.cell? ⟨w.heap.size, 0, none⟩ = some (.int .i64 0) := by rw [hor.cellAt 0 (by omega)]; rfl
        have sf69 := hor.frozenAt 0
        have ss69 := (hor.stored 0 (.int .i64 0)).1
        obtain ⟨y69, hy69⟩ : ∃ w', wr.setCell ⟨w.heap.size, 0, none⟩ (.int .i64 0) = w' := ⟨_, rfl⟩
        rw [hy69] at ss69
        have so69 : y69.ownsRow w.heap.size 52 6 (.slice (some ⟨w.heap.size, 0, none⟩) 1 1) 1 [.int .i64 0, .int .i64 0, .int .i64 0, .int .i64 0, .int .i64 0, .int .i64 0] := ss69
        clear ss69
        have sd70 : y69.cell? ⟨w.heap.size, 1, none⟩ = some (.int .i64 0) := by rw [so69.cellAt 1 (by omega)]; rfl
        have sf70 := so69.frozenAt 1
        have ss70 := (so69.stored 1 (.int .i64 0)).1
        obtain ⟨y70, hy70⟩ : ∃ w', y69.setCell ⟨w.heap.size, 1, none⟩ (.int .i64 0) = w' := ⟨_, rfl⟩
        rw [hy70] at ss70
        have so70 : y70.ownsRow w.heap.size 52 6 (.slice (some ⟨w.heap.size, 0, none⟩) 1 1) 1 [.int .i64 0, .int .i64 0, .int .i64 0, .int .i64 0, .int .i64 0, .int .i64 0] := ss70
        clear ss70
        have sd71 : y70.cell? ⟨w.heap.size, 2, none⟩ = some (.int .i64 0) := by rw [so70.cellAt 2 (by omega)]; rfl
        have sf71 := so70.frozenAt 2
        have ss71 := (so70.stored 2 (.int .i64 0)).1
        obtain ⟨y71, hy71⟩ : ∃ w', y70.setCell ⟨w.heap.size, 2, none⟩ (.int .i64 0) = w' := ⟨_, rfl⟩
        rw [hy71] at ss71
        have so71 : y71.ownsRow w.heap.size 52 6 (.slice (some ⟨w.heap.size, 0, none⟩) 1 1) 1 [.int .i64 0, .int .i64 0, .int .i64 0, .int .i64 0, .int .i64 0, .int .i64 0] := ss71
        clear ss71
        have sd72 : y71.cell? ⟨w.heap.size, 3, none⟩ = some (.int .i64 0) := by rw [so71.cellAt 3 (by omega)]; rfl
        have sf72 := so71.frozenAt 3
        have ss72 := (so71.stored 3 (.int .i64 0)).1
        obtain ⟨y72, hy72⟩ : ∃ w', y71.setCell ⟨w.heap.size, 3, none⟩ (.int .i64 0) = w' := ⟨_, rfl⟩
        rw [hy72] at ss72
        have so72 : y72.ownsRow w.heap.size 52 6 (.slice (some ⟨w.heap.size, 0, none⟩) 1 1) 1 [.int .i64 0, .int .i64 0, .int .i64 0, .int .i64 0, .int .i64 0, .int .i64 0] := ss72
        clear ss72
        have sd73 : y72.cell? ⟨w.heap.size, 4, none⟩ = some (.int .i64 0) := by rw [so72.cellAt 4 (by omega)]; rfl
        have sf73 := so72.frozenAt 4
        have ss73 := (so72.stored 4 (.int .i64 0)).1
        obtain ⟨y73, hy73⟩ : ∃ w', y72.setCell ⟨w.heap.size, 4, none⟩ (.int .i64 0) = w' := ⟨_, rfl⟩
        rw [hy73] at ss73
        have so73 : y73.ownsRow w.heap.size 52 6 (.slice (some ⟨w.heap.size, 0, none⟩) 1 1) 1 [.int .i64 0, .int .i64 0, .int .i64 0, .int .i64 0, .int .i64 0, .int .i64 0] := ss73
        clear ss73
        have sd74 : y73.cell? ⟨w.heap.size, 5, none⟩ = some (.int .i64 0) := by rw [so73.cellAt 5 (by omega)]; rfl
        have sf74 := so73.frozenAt 5
        have ss74 := (so73.stored 5 (.int .i64 0)).1
        obtain ⟨y74, hy74⟩ : ∃ w', y73.setCell ⟨w.heap.size, 5, none⟩ (.int .i64 0) = w' := ⟨_, rfl⟩
        rw [hy74] at ss74
        have so74 : y74.ownsRow w.heap.size 52 6 (.slice (some ⟨w.heap.size, 0, none⟩) 1 1) 1 [.int .i64 0, .int .i64 0, .int .i64 0, .int .i64 0, .int .i64 0, .int .i64 0] := ss74
        clear ss74
        have on75 := OnlyAt.refl (w.heap.size) wr
        have on75 := on75.setCell 0 (.int .i64 0)
        rw [hy69] at on75
        have on75 := on75.setCell 1 (.int .i64 0)
        rw [hy70] at on75
        have on75 := on75.setCell 2 (.int .i64 0)
        rw [hy71] at on75
        have on75 := on75.setCell 3 (.int .i64 0)
        rw [hy72] at on75
        have on75 := on75.setCell 4 (.int .i64 0)
        rw [hy73] at on75
        have on75 := on75.setCell 5 (.int .i64 0)
        rw [hy74] at on75
        have z0 : y74.cell? ⟨w.heap.size, 0, none⟩ = some (.int .i64 0) := by rw [so74.cellAt 0 (by omega)]; rfl
        have z1 : y74.cell? ⟨w.heap.size, 1, none⟩ = some (.int .i64 0) := by rw [so74.cellAt 1 (by omega)]; rfl
        have z2 : y74.cell? ⟨w.heap.size, 2, none⟩ = some (.int .i64 0) := by rw [so74.cellAt 2 (by omega)]; rfl
        have z3 : y74.cell? ⟨w.heap.size, 3, none⟩ = some (.int .i64 0) := by rw [so74.cellAt 3 (by omega)]; rfl
        have z4 : y74.cell? ⟨w.heap.size, 4, none⟩ = some (.int .i64 0) := by rw [so74.cellAt 4 (by omega)]; rfl
        have z5 : y74.cell? ⟨w.heap.size, 5, none⟩ = some (.int .i64 0) := by rw [so74.cellAt 5 (by omega)]; rfl
        have RBel := hide (hbel.trans (on75.below (Nat.le_refl _)))
        clear on75 so69 so70 so71 so72 so73 so74
        go_wp2_with fail
        refine bodyPost_ret (v := .tuple #[.agg #[.int .i64 0, .int .i64 0, .int .i64 0, .int .i64 0, .int .i64 0, .int .i64 0], .bool false]) (by simp [results, Try.results34, go_sem, z0, z1, z2, z3, z4, z5]) rfl ⟨by rw [unhide HR]; rfl, unhide RBel⟩
      · have HR := hide (unhide HR1 (by first | omega | (simp only; omega)))
        have hbd : decide (10000 < C) = false := decide_eq_false hbig
        clear HR0 HR1
        have sd76 : wr.cell? ⟨w.heap.size, 0, none⟩ = some (.int .i64 0) := by rw [hor.cellAt 0 (by omega)]; rfl
        have sf76 := hor.frozenAt 0
        have ss76 := (hor.stored 0 (.int .i64 F)).1
        obtain ⟨y76, hy76⟩ : ∃ w', wr.setCell ⟨w.heap.size, 0, none⟩ (.int .i64 F) = w' := ⟨_, rfl⟩
        rw [hy76] at ss76
        have so76 : y76.ownsRow w.heap.size 52 6 (.slice (some ⟨w.heap.size, 0, none⟩) 1 1) 1 [.int .i64 F, .int .i64 0, .int .i64 0, .int .i64 0, .int .i64 0, .int .i64 0] := ss76
        clear ss76
        have sd77 : y76.cell? ⟨w.heap.size, 1, none⟩ = some (.int .i64 0) := by rw [so76.cellAt 1 (by omega)]; rfl
        have sf77 := so76.frozenAt 1
        have ss77 := (so76.stored 1 (.int .i64 C)).1
        obtain ⟨y77, hy77⟩ : ∃ w', y76.setCell ⟨w.heap.size, 1, none⟩ (.int .i64 C) = w' := ⟨_, rfl⟩
        rw [hy77] at ss77
        have so77 : y77.ownsRow w.heap.size 52 6 (.slice (some ⟨w.heap.size, 0, none⟩) 1 1) 1 [.int .i64 F, .int .i64 C, .int .i64 0, .int .i64 0, .int .i64 0, .int .i64 0] := ss77
        clear ss77
        have sd78 : y77.cell? ⟨w.heap.size, 2, none⟩ = some (.int .i64 0) := by rw [so77.cellAt 2 (by omega)]; rfl
        have sf78 := so77.frozenAt 2
        have ss78 := (so77.stored 2 (.int .i64 U)).1
        obtain ⟨y78, hy78⟩ : ∃ w', y77.setCell ⟨w.heap.size, 2, none⟩ (.int .i64 U) = w' := ⟨_, rfl⟩
        rw [hy78] at ss78
        have so78 : y78.ownsRow w.heap.size 52 6 (.slice (some ⟨w.heap.size, 0, none⟩) 1 1) 1 [.int .i64 F, .int .i64 C, .int .i64 U, .int .i64 0, .int .i64 0, .int .i64 0] := ss78
        clear ss78
        have sd79 : y78.cell? ⟨w.heap.size, 3, none⟩ = some (.int .i64 0) := by rw [so78.cellAt 3 (by omega)]; rfl
        have sf79 := so78.frozenAt 3
        have ss79 := (so78.stored 3 (.int .i64 Lo)).1
        obtain ⟨y79, hy79⟩ : ∃ w', y78.setCell ⟨w.heap.size, 3, none⟩ (.int .i64 Lo) = w' := ⟨_, rfl⟩
        rw [hy79] at ss79
        have so79 : y79.ownsRow w.heap.size 52 6 (.slice (some ⟨w.heap.size, 0, none⟩) 1 1) 1 [.int .i64 F, .int .i64 C, .int .i64 U, .int .i64 Lo, .int .i64 0, .int .i64 0] := ss79
        clear ss79
        have sd80 : y79.cell? ⟨w.heap.size, 4, none⟩ = some (.int .i64 0) := by rw [so79.cellAt 4 (by omega)]; rfl
        have sf80 := so79.frozenAt 4
        have ss80 := (so79.stored 4 (.int .i64 Hi)).1
        obtain ⟨y80, hy80⟩ : ∃ w', y79.setCell ⟨w.heap.size, 4, none⟩ (.int .i64 Hi) = w' := ⟨_, rfl⟩
        rw [hy80] at ss80
        have so80 : y80.ownsRow w.heap.size 52 6 (.slice (some ⟨w.heap.size, 0, none⟩) 1 1) 1 [.int .i64 F, .int .i64 C, .int .i64 U, .int .i64 Lo, .int .i64 Hi, .int .i64 0] := ss80
        clear ss80
        have sd81 : y80.cell? ⟨w.heap.size, 5, none⟩ = some (.int .i64 0) := by rw [so80.cellAt 5 (by omega)]; rfl
        have sf81 := so80.frozenAt 5
        have ss81 := (so80.stored 5 (.int .i64 La)).1
        obtain ⟨y81, hy81⟩ : ∃ w', y80.setCell ⟨w.heap.size, 5, none⟩ (.int .i64 La) = w' := ⟨_, rfl⟩
        rw [hy81] at ss81
        have so81 : y81.ownsRow w.heap.size 52 6 (.slice (some ⟨w.heap.size, 0, none⟩) 1 1) 1 [.int .i64 F, .int .i64 C, .int .i64 U, .int .i64 Lo, .int .i64 Hi, .int .i64 La] := ss81
        clear ss81
        have on82 := OnlyAt.refl (w.heap.size) wr
        have on82 := on82.setCell 0 (.int .i64 F)
        rw [hy76] at on82
        have on82 := on82.setCell 1 (.int .i64 C)
        rw [hy77] at on82
        have on82 := on82.setCell 2 (.int .i64 U)
        rw [hy78] at on82
        have on82 := on82.setCell 3 (.int .i64 Lo)
        rw [hy79] at on82
        have on82 := on82.setCell 4 (.int .i64 Hi)
        rw [hy80] at on82
        have on82 := on82.setCell 5 (.int .i64 La)
        rw [hy81] at on82
        have z0 : y81.cell? ⟨w.heap.size, 0, none⟩ = some (.int .i64 F) := by rw [so81.cellAt 0 (by omega)]; rfl
        have z1 : y81.cell? ⟨w.heap.size, 1, none⟩ = some (.int .i64 C) := by rw [so81.cellAt 1 (by omega)]; rfl
        have z2 : y81.cell? ⟨w.heap.size, 2, none⟩ = some (.int .i64 U) := by rw [so81.cellAt 2 (by omega)]; rfl
        have z3 : y81.cell? ⟨w.heap.size, 3, none⟩ = some (.int .i64 Lo) := by rw [so81.cellAt 3 (by omega)]; rfl
        have z4 : y81.cell? ⟨w.heap.size, 4, none⟩ = some (.int .i64 Hi) := by rw [so81.cellAt 4 (by omega)]; rfl
        have z5 : y81.cell? ⟨w.heap.size, 5, none⟩ = some (.int .i64 La) := by rw [so81.cellAt 5 (by omega)]; rfl
        have RBel := hide (hbel.trans (on82.below (Nat.le_refl _)))
        clear on82 so76 so77 so78 so79 so80 so81
        go_wp2_with fail
        refine bodyPost_ret (v := .tuple #[.agg #[.int .i64 F, .int .i64 C, .int .i64 U, .int .i64 Lo, .int .i64 Hi, .int .i64 La], .bool true]) (by simp [results, Try.results34, go_sem, z0, z1, z2, z3, z4, z5]) rfl ⟨by rw [unhide HR]; rfl, unhide RBel⟩
end Go.Proofs.Ytogdllkbiibicaa.WinM

/- Slices of whiles, cut. -/
namespace Go.Proofs.Ytogdllkbiibicaa.Win
open Go.RowKit Rw
theorem size_w : (sizeOf (Try.prog.elem 32)).run Try.prog = fun w => .ok 6 w := by kernel_rfl
theorem head_ok {w : World} {a : Option Addr} {N cap k : Nat} {xs : List Value} (h : Lies w (.slice a N cap) N 6 xs) (h0 : k ≤ N) :
    ∃ R, (∀ W, (Instr.slice 32 (.slice a N cap) none (some (.int .i64 (k : Int))) none).run Try.prog W = .ok R W) ∧ Lies w R k 6 (xs.take (k * 6)) := by
  have hc : N ≤ cap := by obtain ⟨-, a', cap', h1, h2, -⟩ := h; simp only [Value.slice.injEq, true_and] at h1; omega
  have h1 := take_lies (k := k) (cut_lies h (i := 0) (by omega)) (by omega)
  rw [Nat.zero_mul, List.drop_zero] at h1
  refine ⟨_, fun W => ?_, h1⟩
  have e := run_slice_h (P := Try.prog) W 32 a N cap (by kernel_rfl) .i64 (k : Int) (by omega) (by omega)
  rw [e]
  show ((sizeOf (Try.prog.elem 32)).run Try.prog W).andThen _ = _
  rw [size_w]
  simp [sliced]
theorem rest_ok {w : World} {a : Option Addr} {N cap k : Nat} {xs : List Value} (h : Lies w (.slice a N cap) N 6 xs) (h0 : k ≤ N) :
    ∃ R, (∀ W, (Instr.slice 32 (.slice a N cap) (some (.int .i64 (k : Int))) none none).run Try.prog W = .ok R W) ∧ Lies w R (N - k) 6 (xs.drop (k * 6)) := by
  have hc : N ≤ cap := by obtain ⟨-, a', cap', h1, h2, -⟩ := h; simp only [Value.slice.injEq, true_and] at h1; omega
  refine ⟨_, fun W => ?_, cut_lies h (i := k) (by omega)⟩
  have e := run_slice_l (P := Try.prog) W 32 a N cap (by kernel_rfl) .i64 (k : Int) (by omega) (by omega)
  rw [e]
  show ((sizeOf (Try.prog.elem 32)).run Try.prog W).andThen _ = _
  rw [size_w]
  simp [sliced]
theorem head_is {w : World} {a : Option Addr} {N cap k : Nat} {zs : List E} (h : Is w (.slice a N cap) zs) (hN : N = zs.length) (h0 : k ≤ N) :
    ∃ R, (∀ W, (Instr.slice 32 (.slice a N cap) none (some (.int .i64 (k : Int))) none).run Try.prog W = .ok R W) ∧ Is w R (zs.take k) := by
  subst hN
  obtain ⟨R, h1, h2⟩ := head_ok h h0
  refine ⟨R, h1, ?_⟩
  unfold Is flat
  rw [flatOf_take flk, List.length_take, Nat.min_eq_left h0]
  exact h2
theorem rest_is {w : World} {a : Option Addr} {N cap k : Nat} {zs : List E} (h : Is w (.slice a N cap) zs) (hN : N = zs.length) (h0 : k ≤ N) :
    ∃ R, (∀ W, (Instr.slice 32 (.slice a N cap) (some (.int .i64 (k : Int))) none none).run Try.prog W = .ok R W) ∧ Is w R (zs.drop k) := by
  subst hN
  obtain ⟨R, h1, h2⟩ := rest_ok h h0
  refine ⟨R, h1, ?_⟩
  unfold Is flat
  rw [flatOf_drop flk, List.length_drop]
  exact h2
end Go.Proofs.Ytogdllkbiibicaa.Win
