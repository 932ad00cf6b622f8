/- My own texts of one claim, laid together by program: DrawTableNb, DrawRowsNb, DrawTable, DrawSpan. -/
import Derived.Test.YtlboekimnhgfdaaGreatG6122d20f6e
import Derived.Test.YtlboekimnhgfdaaGreatGd32421efb3
import Derived.Test.YtlboekimnhgfdaaGreatGa36464ee95
import Derived.Deep.Cut
import Derived.Deep.CutRange
import Derived.Test.YtlboekimnhgfdaaGreatGb44f913d17
/- Tables that are drawn: no labels of theirs bear the name nobody. -/
namespace Go.Proofs.YtlboekimnhgfdaaGreat.Draw
open Go.RowKit Rw
set_option linter.unusedVariables false
set_option linter.unusedSimpArgs false
attribute [local go_sem ↓] Go.wp_at_zero Go.wp_at_succ
set_option maxRecDepth 100000 in
set_option maxHeartbeats 16000000 in
theorem table_nb (rb p : Nat) (w : World) (h : Rd w rb p) (hp : p ≤ 300000) :
    Calls Tryz.prog 92 #[.pointer (some ⟨rb, 0, none⟩)] w fun e w' => ∃ (L : List Row.E) (H F now : Int) (ra : Option Addr) (rl rq : Nat), e = .returned (.tuple #[.agg #[.slice ra rl rq, .int .i64 H, .int .i64 F], .int .i64 now]) ∧ (0 ≤ now ∧ now ≤ 2000) ∧ Tab.tabN (L, H, F) ∧ Row.IsF w.heap.size w' (.slice ra rl rq) L ∧ (∃ p', p' ≤ p + 3000 ∧ Rd w' rb p') ∧ w.grownBy w' (some rb) := by
  have hrl := h.lt
  obtain ⟨W, hW⟩ : ∃ W, W = w.alloc (.cells #[.slice none 0 0, .int .i64 0, .int .i64 0] 30) := ⟨_, rfl⟩
  have bW : Below w.heap.size w W := by rw [hW]; exact (Below.refl _ _).alloc (Nat.le_refl _) _
  have zW : W.heap.size = w.heap.size + 1 := by rw [hW]; simp
  have RZ : W.ownsRow w.heap.size 30 3 (.slice (some ⟨w.heap.size, 0, none⟩) 1 1) 1 [.slice none 0 0, .int .i64 0, .int .i64 0] := by rw [hW]; exact Tab.own_new3 (Nat.le_refl _) rfl
  have HR := hide (h.below bW)
  have HNew := hide (Tab.spec_new W)
  clear h
  go_enter Tryz.func92, Tryz.ntmps92
  go_wp2_with fail
  rw [← hW]
  clear hW
  refine (unhide HNew).mono ?_
  rintro e w1 ⟨rfl, b1⟩
  have z1 := b1.size
  obtain ⟨V2, hV2⟩ : ∃ w', w1.alloc (.cells #[.slice none 0 0, .int .i64 (-1), .int .i64 0] 30) = w' := ⟨_, rfl⟩
  have bV : Below w1.heap.size w1 V2 := by rw [← hV2]; exact (Below.refl _ _).alloc (Nat.le_refl _) _
  have zV : w1.heap.size + 1 ≤ V2.heap.size := by rw [← hV2]; simp
  have OV : V2.ownsRow w.heap.size 30 3 (.slice (some ⟨w1.heap.size, 0, none⟩) 1 1) 1 [.slice none 0 0, .int .i64 (-1), .int .i64 0] := by rw [← hV2]; exact Tab.own_new3 (by omega) rfl
  have sdV : V2.cell? ⟨w1.heap.size, 2, none⟩ = some (.int .i64 0) := by rw [OV.cellAt 2 (by omega)]; rfl
  have sfV := OV.frozenAt 2
  have ssV := (OV.stored 2 (.int .i64 0)).1
  obtain ⟨W2, hW2⟩ : ∃ w', V2.setCell ⟨w1.heap.size, 2, none⟩ (.int .i64 0) = w' := ⟨_, rfl⟩
  rw [hW2] at ssV
  have OW : W2.ownsRow w.heap.size 30 3 (.slice (some ⟨w1.heap.size, 0, none⟩) 1 1) 1 [.slice none 0 0, .int .i64 (-1), .int .i64 0] := ssV
  have onV := (OnlyAt.refl w1.heap.size V2).setCell 2 (.int .i64 0)
  rw [hW2] at onV
  have b2 : Below w1.heap.size w1 W2 := bV.trans (onV.below (Nat.le_refl _))
  have z2 : w1.heap.size + 1 ≤ W2.heap.size := by have := onV.size; omega
  clear ssV OV bV zV onV
  have hrr : rb < w.heap.size ∧ rb < w1.heap.size + 1 := ⟨hrl, by omega⟩
  have hwz1 : w.heap.size < w1.heap.size := by omega
  have T0 := hide (show Tab.TabAtN w.heap.size (w1.heap.size + 1) w1.heap.size W2 none 0 0 [] (-1) 0 from ⟨OW, Tab.isF_nil _ _, Tab.new_tabN⟩)
  have RZ2 := hide (own_below (own_below RZ b1) b2)
  have r2 := ((unhide HR).below b1).below b2
  have c2 := bW.trans ((b1.trans (b2.mono z1)).mono bW.size)
  have hone := one_new rb p [0, 0, 100, 700] W2 r2 (by omega) (by simp) (by simp)
  simp only [List.map_cons, List.map_nil, List.length_cons, List.length_nil, Nat.zero_add, Nat.reduceAdd] at hone
  have HOne := hide hone
  clear hone RZ HR HNew bW b1 b2 r2 zW z1 OW
  go_wp2_with fail
  refine (unhide HOne).mono ?_
  rintro e w3 ⟨now, rfl, hnow, r3, g3⟩
  have hnow' : 0 ≤ now ∧ now ≤ 700 := by simp only [List.mem_cons, List.not_mem_nil, or_false] at hnow; omega
  have T3 := hide ((unhide T0).grown g3 hrr)
  have RZ3 := hide (own_kept (unhide RZ2) g3 hrl)
  have q3 := grown_trans (grown_below (r := some rb) c2) g3
  have zD3 : w1.heap.size + 1 ≤ w3.heap.size := by have := g3.size; omega
  clear HOne hnow T0 RZ2 hW2 hV2 sdV sfV c2 g3
  go_wp2_with fail
  refine (pick_any rb (p + 1) _ _ r3 (by omega) (by omega)).mono ?_
  rintro e w4 ⟨n, rfl, n0, n1, -, r4, g4⟩
  have n2 : n < 8 := n1 (by omega)
  have T4 := hide ((unhide T3).grown g4 hrr)
  have RZ4 := hide (own_kept (unhide RZ3) g4 hrl)
  have q4 := grown_trans q3 g4
  have zD4 : w1.heap.size + 1 ≤ w4.heap.size := by have := g4.size; omega
  obtain ⟨N, rfl⟩ := Int.eq_ofNat_of_zero_le n0
  clear T3 RZ3 q3 r3 g4 n1 zD3
  go_wp2_with fail
  go_loopw [5, 6] (fun nv kv wr => ∃ (k : Nat) (now : Int) (L : List Row.E) (H F : Int) (ra : Option Addr) (rl rq p' : Nat), nv = .int .i64 now ∧ kv = .int .i64 (k : Int) ∧ (0 ≤ now ∧ now + 120 * (k : Int) ≤ 2000) ∧ p' + 200 * k ≤ p + 2000 ∧ Hid (Tab.TabAtN w.heap.size (w1.heap.size + 1) w1.heap.size wr ra rl rq L H F) ∧ Hid (wr.ownsRow w.heap.size 30 3 (.slice (some ⟨w.heap.size, 0, none⟩) 1 1) 1 [.slice none 0 0, .int .i64 0, .int .i64 0]) ∧ Rd wr rb p' ∧ w.grownBy wr (some rb) ∧ w1.heap.size + 1 ≤ wr.heap.size) (fun _ kv _ => (intOf kv).toNat)
  case atStart => exact ⟨N, now, [], -1, 0, none, 0, 0, p + 1 + 1, rfl, rfl, by omega, by omega, T4, RZ4, r4, q4, zD4⟩
  case round =>
    clear T4 RZ4 q4 zD4 r4
    obtain ⟨k, now, L, H, F, ra, rl, rq, p', rfl, rfl, hnow, hp', HT, HZ, hrd, hg, hD⟩ := hrel
    have hsz := hg.size
    have hk00 : (0 : Int) ≤ (k : Int) := Int.natCast_nonneg _
    by_cases hk0 : 0 < k
    · have hk1 : (0 : Int) < (k : Int) := by omega
      have gD : wr.grownBy wr.drew (some rb) := grown_below ((Below.refl _ _).drew)
      have rD : Rd wr.drew rb p' := rd_drew hrd
      have hTab := unhide HT
      have hN := hTab.2.2
      have hB := hN.1
      have HS := hide (fun (X : World) (gx : wr.grownBy X (some rb)) => show (fun X => X.cell? ⟨w1.heap.size, 0, none⟩ = some (.slice ra rl rq) ∧ X.cell? ⟨w1.heap.size, 1, none⟩ = some (.int .i64 H) ∧ X.cell? ⟨w1.heap.size, 2, none⟩ = some (.int .i64 F)) X from
        have hy := own_kept hTab.1 gx hrl
        ⟨by rw [hy.cellAt 0 (by omega)]; rfl, by rw [hy.cellAt 1 (by omega)]; rfl, by rw [hy.cellAt 2 (by omega)]; rfl⟩)
      obtain ⟨wA, hwA⟩ : ∃ w', wr.drew.alloc (.cells #[.slice none 0 0, .int .i64 0, .int .i64 0] 30) = w' := ⟨_, rfl⟩
      have bA : Below wr.drew.heap.size wr.drew wA := by rw [← hwA]; exact (Below.refl _ _).alloc (Nat.le_refl _) _
      have zA : wA.heap.size = wr.heap.size + 1 := by rw [← hwA]; simp
      have PA : wA.ownsRow w.heap.size 30 3 (.slice (some ⟨wr.heap.size, 0, none⟩) 1 1) 1 [.slice none 0 0, .int .i64 0, .int .i64 0] := by rw [← hwA]; exact Tab.own_new3 (w := wr.drew) hsz rfl
      have gA : wr.grownBy wA (some rb) := grown_trans gD (grown_below bA)
      have rA : Rd wA rb p' := rD.below bA
      go_upto_region 6 with fail
      go_cut [7, 8] from 15 to 42 (fun pv kv wx => ∃ (q7 : Nat) (k2 : Int) (R2 : List Row.E) (H2 F2 : Int) (ra2 : Option Addr) (rl2 rq2 p3 : Nat), pv = .pointer (some ⟨q7, 0, none⟩) ∧ kv = .int .i64 k2 ∧ p3 ≤ p' + 100 ∧ w1.heap.size < q7 ∧ Hid (Tab.TabAtN w.heap.size (w1.heap.size + 1) q7 wx ra2 rl2 rq2 R2 H2 F2) ∧ Hid (Tab.TabAtN w.heap.size (w1.heap.size + 1) w1.heap.size wx ra rl rq L H F) ∧ Hid (wx.ownsRow w.heap.size 30 3 (.slice (some ⟨w.heap.size, 0, none⟩) 1 1) 1 [.slice none 0 0, .int .i64 0, .int .i64 0]) ∧ Rd wx rb p3 ∧ w.grownBy wx (some rb))
      case first =>
        refine Grl.start (S := fun X => X.cell? ⟨w1.heap.size, 0, none⟩ = some (.slice ra rl rq) ∧ X.cell? ⟨w1.heap.size, 1, none⟩ = some (.int .i64 H) ∧ X.cell? ⟨w1.heap.size, 2, none⟩ = some (.int .i64 F)) (by kernel_rfl) (by exact unhide HS _ gD) (fun hHeld => ?_)
        refine Grl.yes 0 (v := ?_) rfl (by kernel_rfl) (by kernel_rfl) (by kernel_rfl) (fun _ _ _ h => h) (by kernel_rfl) ?_ (by assumption) ?_
        rotate_left
        · (intro w hSw; (try dsimp only at hSw); go_simp; try with_reducible rfl)
        simp only [Act.put, List.setIfInBounds_toArray, List.set_cons_zero, List.set_cons_succ]
        refine Grl.yes 1 (v := ?_) rfl (by kernel_rfl) (by kernel_rfl) (by kernel_rfl) (fun _ _ _ h => h) (by kernel_rfl) ?_ (by assumption) ?_
        rotate_left
        · (intro w hSw; (try dsimp only at hSw); go_simp; try with_reducible rfl)
        simp only [Act.put, List.setIfInBounds_toArray, List.set_cons_zero, List.set_cons_succ]
        refine Grl.yes 2 (v := ?_) rfl (by kernel_rfl) (by kernel_rfl) (by kernel_rfl) (fun _ _ _ h => h) (by kernel_rfl) ?_ (by assumption) ?_
        rotate_left
        · (intro w hSw; (try dsimp only at hSw); go_simp; try with_reducible rfl)
        simp only [Act.put, List.setIfInBounds_toArray, List.set_cons_zero, List.set_cons_succ]
        refine Grl.two 3 8 rfl rfl (by kernel_rfl) (fun K hK => ?_) (fun K hK => ?_)
        · go_simp
          go_wp2_with (refine (batch_nb rb p' now _ rD (by omega) (by omega) (by omega)).mono ?_; rintro e w3 ⟨zs, bv, rfl, -, hEn, hEo, ⟨p3, hp3, r3⟩, g3⟩; have q3 : wr.grownBy w3 (some rb) := grown_trans gD g3; obtain ⟨ba, bl, bq, rfl⟩ : ∃ a l q, bv = .slice a l q := (by obtain ⟨cs, -, hL, -⟩ := hEo.is; obtain ⟨-, a, q, e, -⟩ := hL; exact ⟨a, _, q, e⟩); obtain ⟨wB, hwB⟩ : ∃ w', w3.alloc (.cells #[.slice none 0 0, .int .i64 0, .int .i64 0] 30) = w' := ⟨_, rfl⟩; have bB : Below w3.heap.size w3 wB := (by rw [← hwB]; exact (Below.refl _ _).alloc (Nat.le_refl _) _); have zB : wB.heap.size = w3.heap.size + 1 := (by rw [← hwB]; simp); have PB : wB.ownsRow w.heap.size 30 3 (.slice (some ⟨w3.heap.size, 0, none⟩) 1 1) 1 [.slice none 0 0, .int .i64 0, .int .i64 0] := (by rw [← hwB]; exact Tab.own_new3 (Nat.le_trans hsz q3.size) rfl); have gA2 : wr.grownBy wB (some rb) := grown_trans q3 (grown_below bB))
          refine hK.out _ _ (by exact unhide HS _ q3) (fun hHeld => ?_)
          clear hK K
          refine Grl.two 4 8 rfl rfl (by kernel_rfl) (fun K hK => ?_) (fun K hK => ?_)
          · go_simp
            go_wp2_with (refine (Tab.l6add (w := w3) ra rl rq H F (hTab.grown q3 hrr).2.1.is hB hEo.is (ent_okayN hEn)).mono ?_; rintro e w5 ⟨r2, rfl, hown, b5⟩; obtain ⟨ra2, rl2, rq2, rfl⟩ := hown.form; have hT2 := Tab.addE_tabN (b := zs) hN (fun e he => (hEn e he).2.2); obtain ⟨⟨⟨R2, H2, F2⟩, k2⟩, ha2⟩ : ∃ x, x = Tab.addE (L, H, F) zs := ⟨_, rfl⟩; rw [← ha2] at hown hT2 ⊢; have g5 : wr.grownBy w5 (some rb) := grown_trans q3 (grown_below b5); have r5 := r3.below b5; obtain ⟨wC, hwC⟩ : ∃ w', w5.alloc (.cells #[.slice none 0 0, .int .i64 0, .int .i64 0] 30) = w' := ⟨_, rfl⟩; have bC : Below w5.heap.size w5 wC := (by rw [← hwC]; exact (Below.refl _ _).alloc (Nat.le_refl _) _); have zC : wC.heap.size = w5.heap.size + 1 := (by rw [← hwC]; simp); have PC : wC.ownsRow w.heap.size 30 3 (.slice (some ⟨w5.heap.size, 0, none⟩) 1 1) 1 [.slice none 0 0, .int .i64 0, .int .i64 0] := (by rw [← hwC]; exact Tab.own_new3 (Nat.le_trans hsz g5.size) rfl); have gC : wr.grownBy wC (some rb) := grown_trans g5 (grown_below bC); have sd22 : wC.cell? ⟨w5.heap.size, 0, none⟩ = some (.slice none 0 0) := (by rw [PC.cellAt 0 (by omega)]; rfl); have sf22 := PC.frozenAt 0; have ss22 := (PC.stored 0 (.slice ra2 rl2 rq2)).1; obtain ⟨y22, hy22⟩ : ∃ w', wC.setCell ⟨w5.heap.size, 0, none⟩ (.slice ra2 rl2 rq2) = w' := ⟨_, rfl⟩; rw [hy22] at ss22; have so22 : y22.ownsRow w.heap.size 30 3 (.slice (some ⟨w5.heap.size, 0, none⟩) 1 1) 1 [.slice ra2 rl2 rq2, .int .i64 0, .int .i64 0] := ss22; clear ss22; have sd23 : y22.cell? ⟨w5.heap.size, 1, none⟩ = some (.int .i64 0) := (by rw [so22.cellAt 1 (by omega)]; rfl); have sf23 := so22.frozenAt 1; have ss23 := (so22.stored 1 (.int .i64 H2)).1; obtain ⟨y23, hy23⟩ : ∃ w', y22.setCell ⟨w5.heap.size, 1, none⟩ (.int .i64 H2) = w' := ⟨_, rfl⟩; rw [hy23] at ss23; have so23 : y23.ownsRow w.heap.size 30 3 (.slice (some ⟨w5.heap.size, 0, none⟩) 1 1) 1 [.slice ra2 rl2 rq2, .int .i64 H2, .int .i64 0] := ss23; clear ss23; have sd24 : y23.cell? ⟨w5.heap.size, 2, none⟩ = some (.int .i64 0) := (by rw [so23.cellAt 2 (by omega)]; rfl); have sf24 := so23.frozenAt 2; have ss24 := (so23.stored 2 (.int .i64 F2)).1; obtain ⟨y24, hy24⟩ : ∃ w', y23.setCell ⟨w5.heap.size, 2, none⟩ (.int .i64 F2) = w' := ⟨_, rfl⟩; rw [hy24] at ss24; have so24 : y24.ownsRow w.heap.size 30 3 (.slice (some ⟨w5.heap.size, 0, none⟩) 1 1) 1 [.slice ra2 rl2 rq2, .int .i64 H2, .int .i64 F2] := ss24; clear ss24; have on25 := OnlyAt.refl (w5.heap.size) wC; have on25 := on25.setCell 0 (.slice ra2 rl2 rq2); rw [hy22] at on25; have on25 := on25.setCell 1 (.int .i64 H2); rw [hy23] at on25; have on25 := on25.setCell 2 (.int .i64 F2); rw [hy24] at on25; have gy : wr.grownBy y24 (some rb) := grown_other gC (grown_only on25) (fun j hj => by cases hj; exact g5.size); have hz5 := b5.size; have hz3 := q3.size)
            refine hK.out _ _ (by exact unhide HS _ g5) (fun hHeld => ?_)
            clear hK K
            refine Grl.yes 5 (v := ?_) rfl (by kernel_rfl) (by kernel_rfl) (by kernel_rfl) (fun _ _ _ h => h) (by kernel_rfl) ?_ (by assumption) ?_
            rotate_left
            · (intro w hSw; (try dsimp only at hSw); go_simp; try with_reducible rfl)
            simp only [Act.put, List.setIfInBounds_toArray, List.set_cons_zero, List.set_cons_succ]
            refine Grl.yes 6 (v := ?_) rfl (by kernel_rfl) (by kernel_rfl) (by kernel_rfl) (fun _ _ _ h => h) (by kernel_rfl) ?_ (by assumption) ?_
            rotate_left
            · (intro w hSw; (try dsimp only at hSw); go_simp; try with_reducible rfl)
            simp only [Act.put, List.setIfInBounds_toArray, List.set_cons_zero, List.set_cons_succ]
            refine Grl.yes 7 (v := ?_) rfl (by kernel_rfl) (by kernel_rfl) (by kernel_rfl) (fun _ _ _ h => h) (by kernel_rfl) ?_ (by assumption) ?_
            rotate_left
            · (intro w hSw; (try dsimp only at hSw); go_simp; try with_reducible rfl)
            simp only [Act.put, List.setIfInBounds_toArray, List.set_cons_zero, List.set_cons_succ]
            refine Grl.one 8 rfl (by kernel_rfl) (fun K hK => ?_)
            go_simp
            skip
            refine hK.out _ _ (by exact unhide HS _ gC) (fun hHeld => ?_)
            clear hK K
            refine Grl.one 9 rfl (by kernel_rfl) (fun K hK => ?_)
            go_simp
            skip
            refine hK.out _ _ (by exact unhide HS _ gy) (fun hHeld => ?_)
            clear hK K
            refine Grl.yes 10 (v := ?_) rfl (by kernel_rfl) (by kernel_rfl) (by kernel_rfl) (fun _ _ _ h => h) (by kernel_rfl) ?_ (by assumption) ?_
            rotate_left
            · (intro w hSw; (try dsimp only at hSw); go_simp; try with_reducible rfl)
            simp only [Act.put, List.setIfInBounds_toArray, List.set_cons_zero, List.set_cons_succ]
            refine wpAnyH_done (by kernel_rfl) ?_ _
            have hzy := on25.size
            have TW := hide (show Tab.TabAtN w.heap.size (w1.heap.size + 1) (w5.heap.size) y24 ra2 rl2 rq2 R2 H2 F2 from ⟨so24, ((((hown.below bC)).zone (Zone.of_only on25 (Nat.le_refl _) (Nat.lt_succ_self _)) (.inl (Nat.le_refl _))).isF).mono (by omega), hT2⟩)
            have TT := hide (hTab.grown gy hrr)
            have RZy := hide (own_kept (unhide HZ) gy hrl)
            have RDy := hide (show Rd y24 rb p3 from (r5.below bC).grown (grown_only on25) (fun j hj => by cases hj; omega))
            have gyw := grown_trans hg gy
            have hq7a : w1.heap.size < w5.heap.size := by omega
            clear so24 on25 gy
            go_wp2_with fail
            go_meet
            exact ⟨_, k2, R2, H2, F2, ra2, rl2, rq2, p3, rfl, rfl, by omega, hq7a, TW, TT, RZy, unhide RDy, gyw⟩
          · go_simp
            skip
            refine hK.out _ _ (by exact unhide HS _ gA2) (fun hHeld => ?_)
            clear hK K
            refine Grl.one 4 rfl (by kernel_rfl) (fun K hK => ?_)
            go_simp
            go_wp2_with (refine (Tab.l6add (w := wB) ra rl rq H F (hTab.grown gA2 hrr).2.1.is hB (hEo.is.below bB) (ent_okayN hEn)).mono ?_; rintro e w5 ⟨r2, rfl, hown, b5⟩; obtain ⟨ra2, rl2, rq2, rfl⟩ := hown.form; have hT2 := Tab.addE_tabN (b := zs) hN (fun e he => (hEn e he).2.2); obtain ⟨⟨⟨R2, H2, F2⟩, k2⟩, ha2⟩ : ∃ x, x = Tab.addE (L, H, F) zs := ⟨_, rfl⟩; rw [← ha2] at hown hT2 ⊢; have g5 : wr.grownBy w5 (some rb) := grown_trans gA2 (grown_below b5); have r5 := (r3.below bB).below b5; have P5 := own_below PB b5; have sd26 : w5.cell? ⟨w3.heap.size, 0, none⟩ = some (.slice none 0 0) := (by rw [P5.cellAt 0 (by omega)]; rfl); have sf26 := P5.frozenAt 0; have ss26 := (P5.stored 0 (.slice ra2 rl2 rq2)).1; obtain ⟨y26, hy26⟩ : ∃ w', w5.setCell ⟨w3.heap.size, 0, none⟩ (.slice ra2 rl2 rq2) = w' := ⟨_, rfl⟩; rw [hy26] at ss26; have so26 : y26.ownsRow w.heap.size 30 3 (.slice (some ⟨w3.heap.size, 0, none⟩) 1 1) 1 [.slice ra2 rl2 rq2, .int .i64 0, .int .i64 0] := ss26; clear ss26; have sd27 : y26.cell? ⟨w3.heap.size, 1, none⟩ = some (.int .i64 0) := (by rw [so26.cellAt 1 (by omega)]; rfl); have sf27 := so26.frozenAt 1; have ss27 := (so26.stored 1 (.int .i64 H2)).1; obtain ⟨y27, hy27⟩ : ∃ w', y26.setCell ⟨w3.heap.size, 1, none⟩ (.int .i64 H2) = w' := ⟨_, rfl⟩; rw [hy27] at ss27; have so27 : y27.ownsRow w.heap.size 30 3 (.slice (some ⟨w3.heap.size, 0, none⟩) 1 1) 1 [.slice ra2 rl2 rq2, .int .i64 H2, .int .i64 0] := ss27; clear ss27; have sd28 : y27.cell? ⟨w3.heap.size, 2, none⟩ = some (.int .i64 0) := (by rw [so27.cellAt 2 (by omega)]; rfl); have sf28 := so27.frozenAt 2; have ss28 := (so27.stored 2 (.int .i64 F2)).1; obtain ⟨y28, hy28⟩ : ∃ w', y27.setCell ⟨w3.heap.size, 2, none⟩ (.int .i64 F2) = w' := ⟨_, rfl⟩; rw [hy28] at ss28; have so28 : y28.ownsRow w.heap.size 30 3 (.slice (some ⟨w3.heap.size, 0, none⟩) 1 1) 1 [.slice ra2 rl2 rq2, .int .i64 H2, .int .i64 F2] := ss28; clear ss28; have on29 := OnlyAt.refl (w3.heap.size) w5; have on29 := on29.setCell 0 (.slice ra2 rl2 rq2); rw [hy26] at on29; have on29 := on29.setCell 1 (.int .i64 H2); rw [hy27] at on29; have on29 := on29.setCell 2 (.int .i64 F2); rw [hy28] at on29; have gy : wr.grownBy y28 (some rb) := grown_other g5 (grown_only on29) (fun j hj => by cases hj; exact q3.size); have hside : w3.heap.size + 1 ≤ wB.heap.size := (by omega); have hz5 := b5.size; have hz3 := q3.size)
            refine hK.out _ _ (by exact unhide HS _ g5) (fun hHeld => ?_)
            clear hK K
            refine Grl.yes 5 (v := ?_) rfl (by kernel_rfl) (by kernel_rfl) (by kernel_rfl) (fun _ _ _ h => h) (by kernel_rfl) ?_ (by assumption) ?_
            rotate_left
            · (intro w hSw; (try dsimp only at hSw); go_simp; try with_reducible rfl)
            simp only [Act.put, List.setIfInBounds_toArray, List.set_cons_zero, List.set_cons_succ]
            refine Grl.yes 6 (v := ?_) rfl (by kernel_rfl) (by kernel_rfl) (by kernel_rfl) (fun _ _ _ h => h) (by kernel_rfl) ?_ (by assumption) ?_
            rotate_left
            · (intro w hSw; (try dsimp only at hSw); go_simp; try with_reducible rfl)
            simp only [Act.put, List.setIfInBounds_toArray, List.set_cons_zero, List.set_cons_succ]
            refine Grl.yes 7 (v := ?_) rfl (by kernel_rfl) (by kernel_rfl) (by kernel_rfl) (fun _ _ _ h => h) (by kernel_rfl) ?_ (by assumption) ?_
            rotate_left
            · (intro w hSw; (try dsimp only at hSw); go_simp; try with_reducible rfl)
            simp only [Act.put, List.setIfInBounds_toArray, List.set_cons_zero, List.set_cons_succ]
            refine Grl.one 9 rfl (by kernel_rfl) (fun K hK => ?_)
            go_simp
            skip
            refine hK.out _ _ (by exact unhide HS _ gy) (fun hHeld => ?_)
            clear hK K
            refine Grl.yes 10 (v := ?_) rfl (by kernel_rfl) (by kernel_rfl) (by kernel_rfl) (fun _ _ _ h => h) (by kernel_rfl) ?_ (by assumption) ?_
            rotate_left
            · (intro w hSw; (try dsimp only at hSw); go_simp; try with_reducible rfl)
            simp only [Act.put, List.setIfInBounds_toArray, List.set_cons_zero, List.set_cons_succ]
            refine wpAnyH_done (by kernel_rfl) ?_ _
            have hzy := on29.size
            have TW := hide (show Tab.TabAtN w.heap.size (w1.heap.size + 1) (w3.heap.size) y28 ra2 rl2 rq2 R2 H2 F2 from ⟨so28, (((hown).zone (Zone.of_only on29 (Nat.le_refl _) (Nat.lt_succ_self _)) (.inr hside)).isF).mono (by omega), hT2⟩)
            have TT := hide (hTab.grown gy hrr)
            have RZy := hide (own_kept (unhide HZ) gy hrl)
            have RDy := hide (show Rd y28 rb p3 from r5.grown (grown_only on29) (fun j hj => by cases hj; omega))
            have gyw := grown_trans hg gy
            have hq7a : w1.heap.size < w3.heap.size := by omega
            clear so28 on29 gy
            go_wp2_with fail
            go_meet
            exact ⟨_, k2, R2, H2, F2, ra2, rl2, rq2, p3, rfl, rfl, by omega, hq7a, TW, TT, RZy, unhide RDy, gyw⟩
        · go_simp
          skip
          refine hK.out _ _ (by exact unhide HS _ gA) (fun hHeld => ?_)
          clear hK K
          refine Grl.one 3 rfl (by kernel_rfl) (fun K hK => ?_)
          go_simp
          go_wp2_with (refine (batch_nb rb p' now _ rA (by omega) (by omega) (by omega)).mono ?_; rintro e w3 ⟨zs, bv, rfl, -, hEn, hEo, ⟨p3, hp3, r3⟩, g3⟩; have q3 : wr.grownBy w3 (some rb) := grown_trans gA g3; obtain ⟨ba, bl, bq, rfl⟩ : ∃ a l q, bv = .slice a l q := (by obtain ⟨cs, -, hL, -⟩ := hEo.is; obtain ⟨-, a, q, e, -⟩ := hL; exact ⟨a, _, q, e⟩))
          refine hK.out _ _ (by exact unhide HS _ q3) (fun hHeld => ?_)
          clear hK K
          refine Grl.one 4 rfl (by kernel_rfl) (fun K hK => ?_)
          go_simp
          go_wp2_with (refine (Tab.l6add (w := w3) ra rl rq H F (hTab.grown q3 hrr).2.1.is hB hEo.is (ent_okayN hEn)).mono ?_; rintro e w5 ⟨r2, rfl, hown, b5⟩; obtain ⟨ra2, rl2, rq2, rfl⟩ := hown.form; have hT2 := Tab.addE_tabN (b := zs) hN (fun e he => (hEn e he).2.2); obtain ⟨⟨⟨R2, H2, F2⟩, k2⟩, ha2⟩ : ∃ x, x = Tab.addE (L, H, F) zs := ⟨_, rfl⟩; rw [← ha2] at hown hT2 ⊢; have g5 : wr.grownBy w5 (some rb) := grown_trans q3 (grown_below b5); have r5 := r3.below b5; have P5 := own_below (own_kept PA g3 hrl) b5; have hq7 : wr.heap.size < w3.heap.size := (by have := g3.size; omega); have sd30 : w5.cell? ⟨wr.heap.size, 0, none⟩ = some (.slice none 0 0) := (by rw [P5.cellAt 0 (by omega)]; rfl); have sf30 := P5.frozenAt 0; have ss30 := (P5.stored 0 (.slice ra2 rl2 rq2)).1; obtain ⟨y30, hy30⟩ : ∃ w', w5.setCell ⟨wr.heap.size, 0, none⟩ (.slice ra2 rl2 rq2) = w' := ⟨_, rfl⟩; rw [hy30] at ss30; have so30 : y30.ownsRow w.heap.size 30 3 (.slice (some ⟨wr.heap.size, 0, none⟩) 1 1) 1 [.slice ra2 rl2 rq2, .int .i64 0, .int .i64 0] := ss30; clear ss30; have sd31 : y30.cell? ⟨wr.heap.size, 1, none⟩ = some (.int .i64 0) := (by rw [so30.cellAt 1 (by omega)]; rfl); have sf31 := so30.frozenAt 1; have ss31 := (so30.stored 1 (.int .i64 H2)).1; obtain ⟨y31, hy31⟩ : ∃ w', y30.setCell ⟨wr.heap.size, 1, none⟩ (.int .i64 H2) = w' := ⟨_, rfl⟩; rw [hy31] at ss31; have so31 : y31.ownsRow w.heap.size 30 3 (.slice (some ⟨wr.heap.size, 0, none⟩) 1 1) 1 [.slice ra2 rl2 rq2, .int .i64 H2, .int .i64 0] := ss31; clear ss31; have sd32 : y31.cell? ⟨wr.heap.size, 2, none⟩ = some (.int .i64 0) := (by rw [so31.cellAt 2 (by omega)]; rfl); have sf32 := so31.frozenAt 2; have ss32 := (so31.stored 2 (.int .i64 F2)).1; obtain ⟨y32, hy32⟩ : ∃ w', y31.setCell ⟨wr.heap.size, 2, none⟩ (.int .i64 F2) = w' := ⟨_, rfl⟩; rw [hy32] at ss32; have so32 : y32.ownsRow w.heap.size 30 3 (.slice (some ⟨wr.heap.size, 0, none⟩) 1 1) 1 [.slice ra2 rl2 rq2, .int .i64 H2, .int .i64 F2] := ss32; clear ss32; have on33 := OnlyAt.refl (wr.heap.size) w5; have on33 := on33.setCell 0 (.slice ra2 rl2 rq2); rw [hy30] at on33; have on33 := on33.setCell 1 (.int .i64 H2); rw [hy31] at on33; have on33 := on33.setCell 2 (.int .i64 F2); rw [hy32] at on33; have gy : wr.grownBy y32 (some rb) := grown_other g5 (grown_only on33) (fun j hj => by cases hj; exact Nat.le_refl _); have hside : (wr.heap.size + 1 ≤ w3.heap.size) := hq7; have hz5 := b5.size; have hz3 := q3.size)
          refine hK.out _ _ (by exact unhide HS _ g5) (fun hHeld => ?_)
          clear hK K
          refine Grl.yes 5 (v := ?_) rfl (by kernel_rfl) (by kernel_rfl) (by kernel_rfl) (fun _ _ _ h => h) (by kernel_rfl) ?_ (by assumption) ?_
          rotate_left
          · (intro w hSw; (try dsimp only at hSw); go_simp; try with_reducible rfl)
          simp only [Act.put, List.setIfInBounds_toArray, List.set_cons_zero, List.set_cons_succ]
          refine Grl.yes 6 (v := ?_) rfl (by kernel_rfl) (by kernel_rfl) (by kernel_rfl) (fun _ _ _ h => h) (by kernel_rfl) ?_ (by assumption) ?_
          rotate_left
          · (intro w hSw; (try dsimp only at hSw); go_simp; try with_reducible rfl)
          simp only [Act.put, List.setIfInBounds_toArray, List.set_cons_zero, List.set_cons_succ]
          refine Grl.yes 7 (v := ?_) rfl (by kernel_rfl) (by kernel_rfl) (by kernel_rfl) (fun _ _ _ h => h) (by kernel_rfl) ?_ (by assumption) ?_
          rotate_left
          · (intro w hSw; (try dsimp only at hSw); go_simp; try with_reducible rfl)
          simp only [Act.put, List.setIfInBounds_toArray, List.set_cons_zero, List.set_cons_succ]
          refine Grl.one 9 rfl (by kernel_rfl) (fun K hK => ?_)
          go_simp
          skip
          refine hK.out _ _ (by exact unhide HS _ gy) (fun hHeld => ?_)
          clear hK K
          refine Grl.yes 10 (v := ?_) rfl (by kernel_rfl) (by kernel_rfl) (by kernel_rfl) (fun _ _ _ h => h) (by kernel_rfl) ?_ (by assumption) ?_
          rotate_left
          · (intro w hSw; (try dsimp only at hSw); go_simp; try with_reducible rfl)
          simp only [Act.put, List.setIfInBounds_toArray, List.set_cons_zero, List.set_cons_succ]
          refine wpAnyH_done (by kernel_rfl) ?_ _
          have hzy := on33.size
          have TW := hide (show Tab.TabAtN w.heap.size (w1.heap.size + 1) (wr.heap.size) y32 ra2 rl2 rq2 R2 H2 F2 from ⟨so32, (((hown).zone (Zone.of_only on33 (Nat.le_refl _) (Nat.lt_succ_self _)) (.inr hside)).isF).mono (by omega), hT2⟩)
          have TT := hide (hTab.grown gy hrr)
          have RZy := hide (own_kept (unhide HZ) gy hrl)
          have RDy := hide (show Rd y32 rb p3 from r5.grown (grown_only on33) (fun j hj => by cases hj; omega))
          have gyw := grown_trans hg gy
          have hq7a : w1.heap.size < wr.heap.size := by omega
          clear so32 on33 gy
          go_wp2_with fail
          go_meet
          exact ⟨_, k2, R2, H2, F2, ra2, rl2, rq2, p3, rfl, rfl, by omega, hq7a, TW, TT, RZy, unhide RDy, gyw⟩
      case rest =>
      obtain ⟨q7, k2, R2, H2, F2, ra2, rl2, rq2, p3, rfl, rfl, hp3, hq7, TW, TT, RZc, rdc, gc⟩ := hcut
      clear hTab hB HS wA hwA bA zA PA gA rA gD rD HT HZ hrd hg
      by_cases hk2 : k2 = 0
      · subst hk2
        have v0 : wc.cell? ⟨q7, 0, none⟩ = some (.slice ra2 rl2 rq2) := by rw [(unhide TW).1.cellAt 0 (by omega)]; rfl
        have v1 : wc.cell? ⟨q7, 1, none⟩ = some (.int .i64 H2) := by rw [(unhide TW).1.cellAt 1 (by omega)]; rfl
        have v2 : wc.cell? ⟨q7, 2, none⟩ = some (.int .i64 F2) := by rw [(unhide TW).1.cellAt 2 (by omega)]; rfl
        have P4 := (unhide TT).1
        have sd34 : wc.cell? ⟨w1.heap.size, 0, none⟩ = some (.slice ra rl rq) := by rw [P4.cellAt 0 (by omega)]; rfl
        have sf34 := P4.frozenAt 0
        have ss34 := (P4.stored 0 (.slice ra2 rl2 rq2)).1
        obtain ⟨y34, hy34⟩ : ∃ w', wc.setCell ⟨w1.heap.size, 0, none⟩ (.slice ra2 rl2 rq2) = w' := ⟨_, rfl⟩
        rw [hy34] at ss34
        have so34 : y34.ownsRow w.heap.size 30 3 (.slice (some ⟨w1.heap.size, 0, none⟩) 1 1) 1 [.slice ra2 rl2 rq2, .int .i64 H, .int .i64 F] := ss34
        clear ss34
        have sd35 : y34.cell? ⟨w1.heap.size, 1, none⟩ = some (.int .i64 H) := by rw [so34.cellAt 1 (by omega)]; rfl
        have sf35 := so34.frozenAt 1
        have ss35 := (so34.stored 1 (.int .i64 H2)).1
        obtain ⟨y35, hy35⟩ : ∃ w', y34.setCell ⟨w1.heap.size, 1, none⟩ (.int .i64 H2) = w' := ⟨_, rfl⟩
        rw [hy35] at ss35
        have so35 : y35.ownsRow w.heap.size 30 3 (.slice (some ⟨w1.heap.size, 0, none⟩) 1 1) 1 [.slice ra2 rl2 rq2, .int .i64 H2, .int .i64 F] := ss35
        clear ss35
        have sd36 : y35.cell? ⟨w1.heap.size, 2, none⟩ = some (.int .i64 F) := by rw [so35.cellAt 2 (by omega)]; rfl
        have sf36 := so35.frozenAt 2
        have ss36 := (so35.stored 2 (.int .i64 F2)).1
        obtain ⟨y36, hy36⟩ : ∃ w', y35.setCell ⟨w1.heap.size, 2, none⟩ (.int .i64 F2) = w' := ⟨_, rfl⟩
        rw [hy36] at ss36
        have so36 : y36.ownsRow w.heap.size 30 3 (.slice (some ⟨w1.heap.size, 0, none⟩) 1 1) 1 [.slice ra2 rl2 rq2, .int .i64 H2, .int .i64 F2] := ss36
        clear ss36
        have on37 := OnlyAt.refl (w1.heap.size) wc
        have on37 := on37.setCell 0 (.slice ra2 rl2 rq2)
        rw [hy34] at on37
        have v1_1 : y34.cell? ⟨q7, 1, none⟩ = some (.int .i64 H2) := (World.cell?_of_block (a := ⟨q7, 1, none⟩) (on37.block q7 (by omega))).trans v1
        have v2_1 : y34.cell? ⟨q7, 2, none⟩ = some (.int .i64 F2) := (World.cell?_of_block (a := ⟨q7, 2, none⟩) (on37.block q7 (by omega))).trans v2
        clear on37
        have on38 := OnlyAt.refl (w1.heap.size) wc
        have on38 := on38.setCell 0 (.slice ra2 rl2 rq2)
        rw [hy34] at on38
        have on38 := on38.setCell 1 (.int .i64 H2)
        rw [hy35] at on38
        have v2_2 : y35.cell? ⟨q7, 2, none⟩ = some (.int .i64 F2) := (World.cell?_of_block (a := ⟨q7, 2, none⟩) (on38.block q7 (by omega))).trans v2
        clear on38
        have on39 := OnlyAt.refl (w1.heap.size) wc
        have on39 := on39.setCell 0 (.slice ra2 rl2 rq2)
        rw [hy34] at on39
        have on39 := on39.setCell 1 (.int .i64 H2)
        rw [hy35] at on39
        have on39 := on39.setCell 2 (.int .i64 F2)
        rw [hy36] at on39
        have TY := hide (show Tab.TabAtN w.heap.size (w1.heap.size + 1) w1.heap.size y36 ra2 rl2 rq2 R2 H2 F2 from ⟨so36, (unhide TW).2.1.only on39 (Nat.lt_succ_self _), (unhide TW).2.2⟩)
        have hwz : w.heap.size < w1.heap.size := by omega
        have RZy := hide (on39.own (unhide RZc) (fun k hk => by simp only [Value.ownBlock, Option.some.injEq] at hk; omega))
        have ry : Rd y36 rb p3 := rdc.grown (grown_only on39) (fun j hj => by cases hj; omega)
        have gy := grown_other gc (grown_only on39) (fun j hj => by cases hj; omega)
        clear so36 on39 P4 TT TW RZc rdc gc
        have hone := one_new rb p3 [0, 5, 30, 120] y36 ry (by omega) (by simp) (by simp)
        simp only [List.map_cons, List.map_nil, List.length_cons, List.length_nil, Nat.zero_add, Nat.reduceAdd] at hone
        have HOne := hide hone
        clear hone
        go_wp2_with fail
        refine (unhide HOne).mono ?_
        rintro e w5 ⟨d, rfl, hd, r5, g5⟩
        have hd' : 0 ≤ d ∧ d ≤ 120 := by simp only [List.mem_cons, List.not_mem_nil, or_false] at hd; omega
        have T5 := hide ((unhide TY).grown g5 hrr)
        have RZ5 := hide (own_kept (unhide RZy) g5 hrl)
        have q5 := grown_trans gy g5
        obtain ⟨now2, hnow2⟩ : ∃ x, now + d = x := ⟨_, rfl⟩
        have hw2 : wrap64 now2 = now2 := IntWalk.wrap64_in now2 ⟨by omega, by omega⟩
        have hnb : 0 ≤ now2 ∧ now2 ≤ now + 120 := by omega
        clear hd HOne g5
        go_wp2_with fail
        refine (pick_any rb (p3 + 1) _ _ r5 (by omega) (by omega)).mono ?_
        rintro e w6 ⟨c, rfl, c0, c1, -, r6, g6⟩
        have T6 := hide ((unhide T5).grown g6 hrr)
        have RZ6 := hide (own_kept (unhide RZ5) g6 hrl)
        have q6 := grown_trans q5 g6
        have zD6 : w1.heap.size + 1 ≤ w6.heap.size := by have := q6.size; have := (unhide T6).1; have hl := own_lt this; omega
        clear T5 RZ5 q5 r5 g6 c1 hnow2
        by_cases hc : c = 0
        · subst hc
          have hTab6 := unhide T6
          have HS6 := hide (fun (X : World) (gx : w6.grownBy X (some rb)) => show (fun X : World => X.cell? ⟨w1.heap.size, 0, none⟩ = some (.slice ra2 rl2 rq2) ∧ X.cell? ⟨w1.heap.size, 1, none⟩ = some (.int .i64 H2) ∧ X.cell? ⟨w1.heap.size, 2, none⟩ = some (.int .i64 F2)) X from
            have hy := own_kept hTab6.1 gx hrl
            ⟨by rw [hy.cellAt 0 (by omega)]; rfl, by rw [hy.cellAt 1 (by omega)]; rfl, by rw [hy.cellAt 2 (by omega)]; rfl⟩)
          have gD6 : w6.grownBy w6.drew (some rb) := grown_below ((Below.refl _ _).drew)
          have rD6 : Rd w6.drew rb (p3 + 1 + 1) := rd_drew r6
          obtain ⟨wI, hwI⟩ : ∃ w', w6.drew.alloc (.cells #[.int .i64 0, .int .i64 100, .int .i64 300] 3) = w' := ⟨_, rfl⟩
          have gI : w6.grownBy wI (some rb) := grown_trans gD6 (grown_below (by rw [← hwI]; exact (Below.refl _ _).alloc (Nat.le_refl _) _))
          have hone := one_new rb (p3 + 1 + 1) [0, 100, 300] w6.drew rD6 (by omega) (by simp) (by simp)
          simp only [List.map_cons, List.map_nil, List.length_cons, List.length_nil, Nat.zero_add, Nat.reduceAdd] at hone
          rw [hwI] at hone
          have HOne6 := hide hone
          have hcD := unhide HS6 w6.drew gD6
          have hcI := unhide HS6 wI gI
          clear hone r6 c0
          go_wp2_with fail
          refine Grl.start (S := fun _ => True) (by kernel_rfl) (by trivial) (fun hHeld => ?_)
          refine Grl.yes 1 (v := ?_) rfl (by kernel_rfl) (by kernel_rfl) (by kernel_rfl) (fun _ _ _ h => h) (by kernel_rfl) ?_ (by assumption) ?_
          rotate_left
          · (intro w hSw; (try dsimp only at hSw); go_simp; try with_reducible rfl)
          simp only [Act.put, List.setIfInBounds_toArray, List.set_cons_zero, List.set_cons_succ]
          refine Grl.two 0 2 rfl rfl (by kernel_rfl) (fun K hK => ?_) (fun K hK => ?_)
          · go_simp
            skip
            refine hK.out _ _ (by trivial) (fun hHeld => ?_)
            clear hK K
            refine Grl.one 2 rfl (by kernel_rfl) (fun K hK => ?_)
            go_simp
            skip
            refine hK.out _ _ (by trivial) (fun hHeld => ?_)
            clear hK K
            refine Grl.one 3 rfl (by kernel_rfl) (fun K hK => ?_)
            go_simp
            go_wp2_with (refine (unhide HOne6).mono ?_; rintro e w7 ⟨age, rfl, hage, r7, g7⟩; have hage' : 0 ≤ age ∧ age ≤ 300 := (by simp only [List.mem_cons, List.not_mem_nil, or_false] at hage; omega); have gI7 : w6.grownBy w7 (some rb) := grown_trans gD6 g7; have hc7 := unhide HS6 w7 gI7)
            refine hK.out _ _ (by trivial) (fun hHeld => ?_)
            clear hK K
            refine Grl.one 4 rfl (by kernel_rfl) (fun K hK => ?_)
            go_simp
            go_wp2_with (refine (Tab.spec_keep (w := w7) age H2 F2 (by omega) (hTab6.grown gI7 hrr).2.1.is (Tab.tabB_good hTab6.2.2.1).1 (Tab.tabB_good hTab6.2.2.1).2).mono ?_; rintro e w8 ⟨r3, rfl, hown3, b8⟩; obtain ⟨ra3, rl3, rq3, rfl⟩ := hown3.form; have hT3 := Tab.keep_tabN (age := age) hTab6.2.2 (by omega); obtain ⟨⟨R3, H3, F3⟩, hk3⟩ : ∃ x, x = Tab.keep age R2 H2 F2 := ⟨_, rfl⟩; rw [← hk3] at hown3 hT3 ⊢; have g8 : w6.grownBy w8 (some rb) := grown_trans gI7 (grown_below b8); have r8 := r7.below b8; have z7 := gI7.size; have P8 := own_below (own_kept hTab6.1 gI7 hrl) b8; have sd40 : w8.cell? ⟨w1.heap.size, 0, none⟩ = some (.slice ra2 rl2 rq2) := (by rw [P8.cellAt 0 (by omega)]; rfl); have sf40 := P8.frozenAt 0; have ss40 := (P8.stored 0 (.slice ra3 rl3 rq3)).1; obtain ⟨y40, hy40⟩ : ∃ w', w8.setCell ⟨w1.heap.size, 0, none⟩ (.slice ra3 rl3 rq3) = w' := ⟨_, rfl⟩; rw [hy40] at ss40; have so40 : y40.ownsRow w.heap.size 30 3 (.slice (some ⟨w1.heap.size, 0, none⟩) 1 1) 1 [.slice ra3 rl3 rq3, .int .i64 H2, .int .i64 F2] := ss40; clear ss40; have sd41 : y40.cell? ⟨w1.heap.size, 1, none⟩ = some (.int .i64 H2) := (by rw [so40.cellAt 1 (by omega)]; rfl); have sf41 := so40.frozenAt 1; have ss41 := (so40.stored 1 (.int .i64 H3)).1; obtain ⟨y41, hy41⟩ : ∃ w', y40.setCell ⟨w1.heap.size, 1, none⟩ (.int .i64 H3) = w' := ⟨_, rfl⟩; rw [hy41] at ss41; have so41 : y41.ownsRow w.heap.size 30 3 (.slice (some ⟨w1.heap.size, 0, none⟩) 1 1) 1 [.slice ra3 rl3 rq3, .int .i64 H3, .int .i64 F2] := ss41; clear ss41; have sd42 : y41.cell? ⟨w1.heap.size, 2, none⟩ = some (.int .i64 F2) := (by rw [so41.cellAt 2 (by omega)]; rfl); have sf42 := so41.frozenAt 2; have ss42 := (so41.stored 2 (.int .i64 F3)).1; obtain ⟨y42, hy42⟩ : ∃ w', y41.setCell ⟨w1.heap.size, 2, none⟩ (.int .i64 F3) = w' := ⟨_, rfl⟩; rw [hy42] at ss42; have so42 : y42.ownsRow w.heap.size 30 3 (.slice (some ⟨w1.heap.size, 0, none⟩) 1 1) 1 [.slice ra3 rl3 rq3, .int .i64 H3, .int .i64 F3] := ss42; clear ss42; have on43 := OnlyAt.refl (w1.heap.size) w8; have on43 := on43.setCell 0 (.slice ra3 rl3 rq3); rw [hy40] at on43; have on43 := on43.setCell 1 (.int .i64 H3); rw [hy41] at on43; have on43 := on43.setCell 2 (.int .i64 F3); rw [hy42] at on43)
            refine hK.out _ _ (by trivial) (fun hHeld => ?_)
            clear hK K
            refine Grl.one 5 rfl (by kernel_rfl) (fun K hK => ?_)
            go_simp
            skip
            refine hK.out _ _ (by trivial) (fun hHeld => ?_)
            clear hK K
            refine wpAnyH_done (by kernel_rfl) ?_ _
            have gy := grown_other (grown_trans q6 g8) (grown_only on43) (fun j hj => by cases hj; omega)
            have ry : Rd y42 rb (p3 + 1 + 1 + 1) := r8.grown (grown_only on43) (fun j hj => by cases hj; omega)
            have TY := hide (show Tab.TabAtN w.heap.size (w1.heap.size + 1) w1.heap.size y42 ra3 rl3 rq3 R3 H3 F3 from ⟨so42, (hown3.isF.mono (by omega)).only on43 (Nat.lt_succ_self _), hT3⟩)
            have RZy := hide (on43.own (own_below (own_kept (unhide RZ6) gI7 hrl) b8) (fun k hk => by simp only [Value.ownBlock, Option.some.injEq] at hk; omega))
            have zDy : w1.heap.size + 1 ≤ y42.heap.size := by have := on43.size; have := b8.size; omega
            clear so42 on43 hTab6 HS6 T6 RZ6 hown3
            go_wp2_with fail
            go_roundw
            case rel => exact ⟨k - 1, now2, R3, H3, F3, ra3, rl3, rq3, p3 + 1 + 1 + 1, rfl, by go_num, by omega, by omega, TY, RZy, ry, gy, zDy⟩
            case measure => first | (simp [intOf]; done) | (simp [intOf]; omega)
          · go_simp
            skip
            refine hK.out _ _ (by trivial) (fun hHeld => ?_)
            clear hK K
            refine Grl.two 0 3 rfl rfl (by kernel_rfl) (fun K hK => ?_) (fun K hK => ?_)
            · go_simp
              skip
              refine hK.out _ _ (by trivial) (fun hHeld => ?_)
              clear hK K
              refine Grl.one 3 rfl (by kernel_rfl) (fun K hK => ?_)
              go_simp
              go_wp2_with (refine (unhide HOne6).mono ?_; rintro e w7 ⟨age, rfl, hage, r7, g7⟩; have hage' : 0 ≤ age ∧ age ≤ 300 := (by simp only [List.mem_cons, List.not_mem_nil, or_false] at hage; omega); have gI7 : w6.grownBy w7 (some rb) := grown_trans gD6 g7; have hc7 := unhide HS6 w7 gI7)
              refine hK.out _ _ (by trivial) (fun hHeld => ?_)
              clear hK K
              refine Grl.one 4 rfl (by kernel_rfl) (fun K hK => ?_)
              go_simp
              go_wp2_with (refine (Tab.spec_keep (w := w7) age H2 F2 (by omega) (hTab6.grown gI7 hrr).2.1.is (Tab.tabB_good hTab6.2.2.1).1 (Tab.tabB_good hTab6.2.2.1).2).mono ?_; rintro e w8 ⟨r3, rfl, hown3, b8⟩; obtain ⟨ra3, rl3, rq3, rfl⟩ := hown3.form; have hT3 := Tab.keep_tabN (age := age) hTab6.2.2 (by omega); obtain ⟨⟨R3, H3, F3⟩, hk3⟩ : ∃ x, x = Tab.keep age R2 H2 F2 := ⟨_, rfl⟩; rw [← hk3] at hown3 hT3 ⊢; have g8 : w6.grownBy w8 (some rb) := grown_trans gI7 (grown_below b8); have r8 := r7.below b8; have z7 := gI7.size; have P8 := own_below (own_kept hTab6.1 gI7 hrl) b8; have sd48 : w8.cell? ⟨w1.heap.size, 0, none⟩ = some (.slice ra2 rl2 rq2) := (by rw [P8.cellAt 0 (by omega)]; rfl); have sf48 := P8.frozenAt 0; have ss48 := (P8.stored 0 (.slice ra3 rl3 rq3)).1; obtain ⟨y48, hy48⟩ : ∃ w', w8.setCell ⟨w1.heap.size, 0, none⟩ (.slice ra3 rl3 rq3) = w' := ⟨_, rfl⟩; rw [hy48] at ss48; have so48 : y48.ownsRow w.heap.size 30 3 (.slice (some ⟨w1.heap.size, 0, none⟩) 1 1) 1 [.slice ra3 rl3 rq3, .int .i64 H2, .int .i64 F2] := ss48; clear ss48; have sd49 : y48.cell? ⟨w1.heap.size, 1, none⟩ = some (.int .i64 H2) := (by rw [so48.cellAt 1 (by omega)]; rfl); have sf49 := so48.frozenAt 1; have ss49 := (so48.stored 1 (.int .i64 H3)).1; obtain ⟨y49, hy49⟩ : ∃ w', y48.setCell ⟨w1.heap.size, 1, none⟩ (.int .i64 H3) = w' := ⟨_, rfl⟩; rw [hy49] at ss49; have so49 : y49.ownsRow w.heap.size 30 3 (.slice (some ⟨w1.heap.size, 0, none⟩) 1 1) 1 [.slice ra3 rl3 rq3, .int .i64 H3, .int .i64 F2] := ss49; clear ss49; have sd50 : y49.cell? ⟨w1.heap.size, 2, none⟩ = some (.int .i64 F2) := (by rw [so49.cellAt 2 (by omega)]; rfl); have sf50 := so49.frozenAt 2; have ss50 := (so49.stored 2 (.int .i64 F3)).1; obtain ⟨y50, hy50⟩ : ∃ w', y49.setCell ⟨w1.heap.size, 2, none⟩ (.int .i64 F3) = w' := ⟨_, rfl⟩; rw [hy50] at ss50; have so50 : y50.ownsRow w.heap.size 30 3 (.slice (some ⟨w1.heap.size, 0, none⟩) 1 1) 1 [.slice ra3 rl3 rq3, .int .i64 H3, .int .i64 F3] := ss50; clear ss50; have on51 := OnlyAt.refl (w1.heap.size) w8; have on51 := on51.setCell 0 (.slice ra3 rl3 rq3); rw [hy48] at on51; have on51 := on51.setCell 1 (.int .i64 H3); rw [hy49] at on51; have on51 := on51.setCell 2 (.int .i64 F3); rw [hy50] at on51)
              refine hK.out _ _ (by trivial) (fun hHeld => ?_)
              clear hK K
              refine Grl.one 5 rfl (by kernel_rfl) (fun K hK => ?_)
              go_simp
              skip
              refine hK.out _ _ (by trivial) (fun hHeld => ?_)
              clear hK K
              refine wpAnyH_done (by kernel_rfl) ?_ _
              have gy := grown_other (grown_trans q6 g8) (grown_only on51) (fun j hj => by cases hj; omega)
              have ry : Rd y50 rb (p3 + 1 + 1 + 1) := r8.grown (grown_only on51) (fun j hj => by cases hj; omega)
              have TY := hide (show Tab.TabAtN w.heap.size (w1.heap.size + 1) w1.heap.size y50 ra3 rl3 rq3 R3 H3 F3 from ⟨so50, (hown3.isF.mono (by omega)).only on51 (Nat.lt_succ_self _), hT3⟩)
              have RZy := hide (on51.own (own_below (own_kept (unhide RZ6) gI7 hrl) b8) (fun k hk => by simp only [Value.ownBlock, Option.some.injEq] at hk; omega))
              have zDy : w1.heap.size + 1 ≤ y50.heap.size := by have := on51.size; have := b8.size; omega
              clear so50 on51 hTab6 HS6 T6 RZ6 hown3
              go_wp2_with fail
              go_roundw
              case rel => exact ⟨k - 1, now2, R3, H3, F3, ra3, rl3, rq3, p3 + 1 + 1 + 1, rfl, by go_num, by omega, by omega, TY, RZy, ry, gy, zDy⟩
              case measure => first | (simp [intOf]; done) | (simp [intOf]; omega)
            · go_simp
              go_wp2_with (refine (unhide HOne6).mono ?_; rintro e w7 ⟨age, rfl, hage, r7, g7⟩; have hage' : 0 ≤ age ∧ age ≤ 300 := (by simp only [List.mem_cons, List.not_mem_nil, or_false] at hage; omega); have gI7 : w6.grownBy w7 (some rb) := grown_trans gD6 g7; have hc7 := unhide HS6 w7 gI7)
              refine hK.out _ _ (by trivial) (fun hHeld => ?_)
              clear hK K
              refine Grl.one 0 rfl (by kernel_rfl) (fun K hK => ?_)
              go_simp
              skip
              refine hK.out _ _ (by trivial) (fun hHeld => ?_)
              clear hK K
              refine Grl.one 4 rfl (by kernel_rfl) (fun K hK => ?_)
              go_simp
              go_wp2_with (refine (Tab.spec_keep (w := w7) age H2 F2 (by omega) (hTab6.grown gI7 hrr).2.1.is (Tab.tabB_good hTab6.2.2.1).1 (Tab.tabB_good hTab6.2.2.1).2).mono ?_; rintro e w8 ⟨r3, rfl, hown3, b8⟩; obtain ⟨ra3, rl3, rq3, rfl⟩ := hown3.form; have hT3 := Tab.keep_tabN (age := age) hTab6.2.2 (by omega); obtain ⟨⟨R3, H3, F3⟩, hk3⟩ : ∃ x, x = Tab.keep age R2 H2 F2 := ⟨_, rfl⟩; rw [← hk3] at hown3 hT3 ⊢; have g8 : w6.grownBy w8 (some rb) := grown_trans gI7 (grown_below b8); have r8 := r7.below b8; have z7 := gI7.size; have P8 := own_below (own_kept hTab6.1 gI7 hrl) b8; have sd52 : w8.cell? ⟨w1.heap.size, 0, none⟩ = some (.slice ra2 rl2 rq2) := (by rw [P8.cellAt 0 (by omega)]; rfl); have sf52 := P8.frozenAt 0; have ss52 := (P8.stored 0 (.slice ra3 rl3 rq3)).1; obtain ⟨y52, hy52⟩ : ∃ w', w8.setCell ⟨w1.heap.size, 0, none⟩ (.slice ra3 rl3 rq3) = w' := ⟨_, rfl⟩; rw [hy52] at ss52; have so52 : y52.ownsRow w.heap.size 30 3 (.slice (some ⟨w1.heap.size, 0, none⟩) 1 1) 1 [.slice ra3 rl3 rq3, .int .i64 H2, .int .i64 F2] := ss52; clear ss52; have sd53 : y52.cell? ⟨w1.heap.size, 1, none⟩ = some (.int .i64 H2) := (by rw [so52.cellAt 1 (by omega)]; rfl); have sf53 := so52.frozenAt 1; have ss53 := (so52.stored 1 (.int .i64 H3)).1; obtain ⟨y53, hy53⟩ : ∃ w', y52.setCell ⟨w1.heap.size, 1, none⟩ (.int .i64 H3) = w' := ⟨_, rfl⟩; rw [hy53] at ss53; have so53 : y53.ownsRow w.heap.size 30 3 (.slice (some ⟨w1.heap.size, 0, none⟩) 1 1) 1 [.slice ra3 rl3 rq3, .int .i64 H3, .int .i64 F2] := ss53; clear ss53; have sd54 : y53.cell? ⟨w1.heap.size, 2, none⟩ = some (.int .i64 F2) := (by rw [so53.cellAt 2 (by omega)]; rfl); have sf54 := so53.frozenAt 2; have ss54 := (so53.stored 2 (.int .i64 F3)).1; obtain ⟨y54, hy54⟩ : ∃ w', y53.setCell ⟨w1.heap.size, 2, none⟩ (.int .i64 F3) = w' := ⟨_, rfl⟩; rw [hy54] at ss54; have so54 : y54.ownsRow w.heap.size 30 3 (.slice (some ⟨w1.heap.size, 0, none⟩) 1 1) 1 [.slice ra3 rl3 rq3, .int .i64 H3, .int .i64 F3] := ss54; clear ss54; have on55 := OnlyAt.refl (w1.heap.size) w8; have on55 := on55.setCell 0 (.slice ra3 rl3 rq3); rw [hy52] at on55; have on55 := on55.setCell 1 (.int .i64 H3); rw [hy53] at on55; have on55 := on55.setCell 2 (.int .i64 F3); rw [hy54] at on55)
              refine hK.out _ _ (by trivial) (fun hHeld => ?_)
              clear hK K
              refine Grl.one 5 rfl (by kernel_rfl) (fun K hK => ?_)
              go_simp
              skip
              refine hK.out _ _ (by trivial) (fun hHeld => ?_)
              clear hK K
              refine wpAnyH_done (by kernel_rfl) ?_ _
              have gy := grown_other (grown_trans q6 g8) (grown_only on55) (fun j hj => by cases hj; omega)
              have ry : Rd y54 rb (p3 + 1 + 1 + 1) := r8.grown (grown_only on55) (fun j hj => by cases hj; omega)
              have TY := hide (show Tab.TabAtN w.heap.size (w1.heap.size + 1) w1.heap.size y54 ra3 rl3 rq3 R3 H3 F3 from ⟨so54, (hown3.isF.mono (by omega)).only on55 (Nat.lt_succ_self _), hT3⟩)
              have RZy := hide (on55.own (own_below (own_kept (unhide RZ6) gI7 hrl) b8) (fun k hk => by simp only [Value.ownBlock, Option.some.injEq] at hk; omega))
              have zDy : w1.heap.size + 1 ≤ y54.heap.size := by have := on55.size; have := b8.size; omega
              clear so54 on55 hTab6 HS6 T6 RZ6 hown3
              go_wp2_with fail
              go_roundw
              case rel => exact ⟨k - 1, now2, R3, H3, F3, ra3, rl3, rq3, p3 + 1 + 1 + 1, rfl, by go_num, by omega, by omega, TY, RZy, ry, gy, zDy⟩
              case measure => first | (simp [intOf]; done) | (simp [intOf]; omega)
        · have hc' : (c == 0) = false := by simp; omega
          clear hc
          go_wp2_with fail
          go_roundw
          case rel => exact ⟨k - 1, now2, R2, H2, F2, ra2, rl2, rq2, p3 + 1 + 1, rfl, by go_num, by omega, by omega, T6, RZ6, r6, q6, zD6⟩
          case measure => first | (simp [intOf]; done) | (simp [intOf]; omega)
      · have hkf : (k2 == 0) = false := by simp; exact hk2
        clear TW
        have hone := one_new rb p3 [0, 5, 30, 120] wc rdc (by omega) (by simp) (by simp)
        simp only [List.map_cons, List.map_nil, List.length_cons, List.length_nil, Nat.zero_add, Nat.reduceAdd] at hone
        have HOne := hide hone
        clear hone
        go_wp2_with fail
        refine (unhide HOne).mono ?_
        rintro e w5 ⟨d, rfl, hd, r5, g5⟩
        have hd' : 0 ≤ d ∧ d ≤ 120 := by simp only [List.mem_cons, List.not_mem_nil, or_false] at hd; omega
        have T5 := hide ((unhide TT).grown g5 hrr)
        have RZ5 := hide (own_kept (unhide RZc) g5 hrl)
        have q5 := grown_trans gc g5
        obtain ⟨now2, hnow2⟩ : ∃ x, now + d = x := ⟨_, rfl⟩
        have hw2 : wrap64 now2 = now2 := IntWalk.wrap64_in now2 ⟨by omega, by omega⟩
        have hnb : 0 ≤ now2 ∧ now2 ≤ now + 120 := by omega
        clear hd HOne g5
        go_wp2_with fail
        refine (pick_any rb (p3 + 1) _ _ r5 (by omega) (by omega)).mono ?_
        rintro e w6 ⟨c, rfl, c0, c1, -, r6, g6⟩
        have T6 := hide ((unhide T5).grown g6 hrr)
        have RZ6 := hide (own_kept (unhide RZ5) g6 hrl)
        have q6 := grown_trans q5 g6
        have zD6 : w1.heap.size + 1 ≤ w6.heap.size := by have := q6.size; have := (unhide T6).1; have hl := own_lt this; omega
        clear T5 RZ5 q5 r5 g6 c1 hnow2
        by_cases hc : c = 0
        · subst hc
          have hTab6 := unhide T6
          have HS6 := hide (fun (X : World) (gx : w6.grownBy X (some rb)) => show (fun X : World => X.cell? ⟨w1.heap.size, 0, none⟩ = some (.slice ra rl rq) ∧ X.cell? ⟨w1.heap.size, 1, none⟩ = some (.int .i64 H) ∧ X.cell? ⟨w1.heap.size, 2, none⟩ = some (.int .i64 F)) X from
            have hy := own_kept hTab6.1 gx hrl
            ⟨by rw [hy.cellAt 0 (by omega)]; rfl, by rw [hy.cellAt 1 (by omega)]; rfl, by rw [hy.cellAt 2 (by omega)]; rfl⟩)
          have gD6 : w6.grownBy w6.drew (some rb) := grown_below ((Below.refl _ _).drew)
          have rD6 : Rd w6.drew rb (p3 + 1 + 1) := rd_drew r6
          obtain ⟨wI, hwI⟩ : ∃ w', w6.drew.alloc (.cells #[.int .i64 0, .int .i64 100, .int .i64 300] 3) = w' := ⟨_, rfl⟩
          have gI : w6.grownBy wI (some rb) := grown_trans gD6 (grown_below (by rw [← hwI]; exact (Below.refl _ _).alloc (Nat.le_refl _) _))
          have hone := one_new rb (p3 + 1 + 1) [0, 100, 300] w6.drew rD6 (by omega) (by simp) (by simp)
          simp only [List.map_cons, List.map_nil, List.length_cons, List.length_nil, Nat.zero_add, Nat.reduceAdd] at hone
          rw [hwI] at hone
          have HOne6 := hide hone
          have hcD := unhide HS6 w6.drew gD6
          have hcI := unhide HS6 wI gI
          clear hone r6 c0
          go_wp2_with fail
          refine Grl.start (S := fun _ => True) (by kernel_rfl) (by trivial) (fun hHeld => ?_)
          refine Grl.yes 1 (v := ?_) rfl (by kernel_rfl) (by kernel_rfl) (by kernel_rfl) (fun _ _ _ h => h) (by kernel_rfl) ?_ (by assumption) ?_
          rotate_left
          · (intro w hSw; (try dsimp only at hSw); go_simp; try with_reducible rfl)
          simp only [Act.put, List.setIfInBounds_toArray, List.set_cons_zero, List.set_cons_succ]
          refine Grl.two 0 2 rfl rfl (by kernel_rfl) (fun K hK => ?_) (fun K hK => ?_)
          · go_simp
            skip
            refine hK.out _ _ (by trivial) (fun hHeld => ?_)
            clear hK K
            refine Grl.one 2 rfl (by kernel_rfl) (fun K hK => ?_)
            go_simp
            skip
            refine hK.out _ _ (by trivial) (fun hHeld => ?_)
            clear hK K
            refine Grl.one 3 rfl (by kernel_rfl) (fun K hK => ?_)
            go_simp
            go_wp2_with (refine (unhide HOne6).mono ?_; rintro e w7 ⟨age, rfl, hage, r7, g7⟩; have hage' : 0 ≤ age ∧ age ≤ 300 := (by simp only [List.mem_cons, List.not_mem_nil, or_false] at hage; omega); have gI7 : w6.grownBy w7 (some rb) := grown_trans gD6 g7; have hc7 := unhide HS6 w7 gI7)
            refine hK.out _ _ (by trivial) (fun hHeld => ?_)
            clear hK K
            refine Grl.one 4 rfl (by kernel_rfl) (fun K hK => ?_)
            go_simp
            go_wp2_with (refine (Tab.spec_keep (w := w7) age H F (by omega) (hTab6.grown gI7 hrr).2.1.is (Tab.tabB_good hTab6.2.2.1).1 (Tab.tabB_good hTab6.2.2.1).2).mono ?_; rintro e w8 ⟨r3, rfl, hown3, b8⟩; obtain ⟨ra3, rl3, rq3, rfl⟩ := hown3.form; have hT3 := Tab.keep_tabN (age := age) hTab6.2.2 (by omega); obtain ⟨⟨R3, H3, F3⟩, hk3⟩ : ∃ x, x = Tab.keep age L H F := ⟨_, rfl⟩; rw [← hk3] at hown3 hT3 ⊢; have g8 : w6.grownBy w8 (some rb) := grown_trans gI7 (grown_below b8); have r8 := r7.below b8; have z7 := gI7.size; have P8 := own_below (own_kept hTab6.1 gI7 hrl) b8; have sd56 : w8.cell? ⟨w1.heap.size, 0, none⟩ = some (.slice ra rl rq) := (by rw [P8.cellAt 0 (by omega)]; rfl); have sf56 := P8.frozenAt 0; have ss56 := (P8.stored 0 (.slice ra3 rl3 rq3)).1; obtain ⟨y56, hy56⟩ : ∃ w', w8.setCell ⟨w1.heap.size, 0, none⟩ (.slice ra3 rl3 rq3) = w' := ⟨_, rfl⟩; rw [hy56] at ss56; have so56 : y56.ownsRow w.heap.size 30 3 (.slice (some ⟨w1.heap.size, 0, none⟩) 1 1) 1 [.slice ra3 rl3 rq3, .int .i64 H, .int .i64 F] := ss56; clear ss56; have sd57 : y56.cell? ⟨w1.heap.size, 1, none⟩ = some (.int .i64 H) := (by rw [so56.cellAt 1 (by omega)]; rfl); have sf57 := so56.frozenAt 1; have ss57 := (so56.stored 1 (.int .i64 H3)).1; obtain ⟨y57, hy57⟩ : ∃ w', y56.setCell ⟨w1.heap.size, 1, none⟩ (.int .i64 H3) = w' := ⟨_, rfl⟩; rw [hy57] at ss57; have so57 : y57.ownsRow w.heap.size 30 3 (.slice (some ⟨w1.heap.size, 0, none⟩) 1 1) 1 [.slice ra3 rl3 rq3, .int .i64 H3, .int .i64 F] := ss57; clear ss57; have sd58 : y57.cell? ⟨w1.heap.size, 2, none⟩ = some (.int .i64 F) := (by rw [so57.cellAt 2 (by omega)]; rfl); have sf58 := so57.frozenAt 2; have ss58 := (so57.stored 2 (.int .i64 F3)).1; obtain ⟨y58, hy58⟩ : ∃ w', y57.setCell ⟨w1.heap.size, 2, none⟩ (.int .i64 F3) = w' := ⟨_, rfl⟩; rw [hy58] at ss58; have so58 : y58.ownsRow w.heap.size 30 3 (.slice (some ⟨w1.heap.size, 0, none⟩) 1 1) 1 [.slice ra3 rl3 rq3, .int .i64 H3, .int .i64 F3] := ss58; clear ss58; have on59 := OnlyAt.refl (w1.heap.size) w8; have on59 := on59.setCell 0 (.slice ra3 rl3 rq3); rw [hy56] at on59; have on59 := on59.setCell 1 (.int .i64 H3); rw [hy57] at on59; have on59 := on59.setCell 2 (.int .i64 F3); rw [hy58] at on59)
            refine hK.out _ _ (by trivial) (fun hHeld => ?_)
            clear hK K
            refine Grl.one 5 rfl (by kernel_rfl) (fun K hK => ?_)
            go_simp
            skip
            refine hK.out _ _ (by trivial) (fun hHeld => ?_)
            clear hK K
            refine wpAnyH_done (by kernel_rfl) ?_ _
            have gy := grown_other (grown_trans q6 g8) (grown_only on59) (fun j hj => by cases hj; omega)
            have ry : Rd y58 rb (p3 + 1 + 1 + 1) := r8.grown (grown_only on59) (fun j hj => by cases hj; omega)
            have TY := hide (show Tab.TabAtN w.heap.size (w1.heap.size + 1) w1.heap.size y58 ra3 rl3 rq3 R3 H3 F3 from ⟨so58, (hown3.isF.mono (by omega)).only on59 (Nat.lt_succ_self _), hT3⟩)
            have RZy := hide (on59.own (own_below (own_kept (unhide RZ6) gI7 hrl) b8) (fun k hk => by simp only [Value.ownBlock, Option.some.injEq] at hk; omega))
            have zDy : w1.heap.size + 1 ≤ y58.heap.size := by have := on59.size; have := b8.size; omega
            clear so58 on59 hTab6 HS6 T6 RZ6 hown3
            go_wp2_with fail
            go_roundw
            case rel => exact ⟨k - 1, now2, R3, H3, F3, ra3, rl3, rq3, p3 + 1 + 1 + 1, rfl, by go_num, by omega, by omega, TY, RZy, ry, gy, zDy⟩
            case measure => first | (simp [intOf]; done) | (simp [intOf]; omega)
          · go_simp
            skip
            refine hK.out _ _ (by trivial) (fun hHeld => ?_)
            clear hK K
            refine Grl.two 0 3 rfl rfl (by kernel_rfl) (fun K hK => ?_) (fun K hK => ?_)
            · go_simp
              skip
              refine hK.out _ _ (by trivial) (fun hHeld => ?_)
              clear hK K
              refine Grl.one 3 rfl (by kernel_rfl) (fun K hK => ?_)
              go_simp
              go_wp2_with (refine (unhide HOne6).mono ?_; rintro e w7 ⟨age, rfl, hage, r7, g7⟩; have hage' : 0 ≤ age ∧ age ≤ 300 := (by simp only [List.mem_cons, List.not_mem_nil, or_false] at hage; omega); have gI7 : w6.grownBy w7 (some rb) := grown_trans gD6 g7; have hc7 := unhide HS6 w7 gI7)
              refine hK.out _ _ (by trivial) (fun hHeld => ?_)
              clear hK K
              refine Grl.one 4 rfl (by kernel_rfl) (fun K hK => ?_)
              go_simp
              go_wp2_with (refine (Tab.spec_keep (w := w7) age H F (by omega) (hTab6.grown gI7 hrr).2.1.is (Tab.tabB_good hTab6.2.2.1).1 (Tab.tabB_good hTab6.2.2.1).2).mono ?_; rintro e w8 ⟨r3, rfl, hown3, b8⟩; obtain ⟨ra3, rl3, rq3, rfl⟩ := hown3.form; have hT3 := Tab.keep_tabN (age := age) hTab6.2.2 (by omega); obtain ⟨⟨R3, H3, F3⟩, hk3⟩ : ∃ x, x = Tab.keep age L H F := ⟨_, rfl⟩; rw [← hk3] at hown3 hT3 ⊢; have g8 : w6.grownBy w8 (some rb) := grown_trans gI7 (grown_below b8); have r8 := r7.below b8; have z7 := gI7.size; have P8 := own_below (own_kept hTab6.1 gI7 hrl) b8; have sd64 : w8.cell? ⟨w1.heap.size, 0, none⟩ = some (.slice ra rl rq) := (by rw [P8.cellAt 0 (by omega)]; rfl); have sf64 := P8.frozenAt 0; have ss64 := (P8.stored 0 (.slice ra3 rl3 rq3)).1; obtain ⟨y64, hy64⟩ : ∃ w', w8.setCell ⟨w1.heap.size, 0, none⟩ (.slice ra3 rl3 rq3) = w' := ⟨_, rfl⟩; rw [hy64] at ss64; have so64 : y64.ownsRow w.heap.size 30 3 (.slice (some ⟨w1.heap.size, 0, none⟩) 1 1) 1 [.slice ra3 rl3 rq3, .int .i64 H, .int .i64 F] := ss64; clear ss64; have sd65 : y64.cell? ⟨w1.heap.size, 1, none⟩ = some (.int .i64 H) := (by rw [so64.cellAt 1 (by omega)]; rfl); have sf65 := so64.frozenAt 1; have ss65 := (so64.stored 1 (.int .i64 H3)).1; obtain ⟨y65, hy65⟩ : ∃ w', y64.setCell ⟨w1.heap.size, 1, none⟩ (.int .i64 H3) = w' := ⟨_, rfl⟩; rw [hy65] at ss65; have so65 : y65.ownsRow w.heap.size 30 3 (.slice (some ⟨w1.heap.size, 0, none⟩) 1 1) 1 [.slice ra3 rl3 rq3, .int .i64 H3, .int .i64 F] := ss65; clear ss65; have sd66 : y65.cell? ⟨w1.heap.size, 2, none⟩ = some (.int .i64 F) := (by rw [so65.cellAt 2 (by omega)]; rfl); have sf66 := so65.frozenAt 2; have ss66 := (so65.stored 2 (.int .i64 F3)).1; obtain ⟨y66, hy66⟩ : ∃ w', y65.setCell ⟨w1.heap.size, 2, none⟩ (.int .i64 F3) = w' := ⟨_, rfl⟩; rw [hy66] at ss66; have so66 : y66.ownsRow w.heap.size 30 3 (.slice (some ⟨w1.heap.size, 0, none⟩) 1 1) 1 [.slice ra3 rl3 rq3, .int .i64 H3, .int .i64 F3] := ss66; clear ss66; have on67 := OnlyAt.refl (w1.heap.size) w8; have on67 := on67.setCell 0 (.slice ra3 rl3 rq3); rw [hy64] at on67; have on67 := on67.setCell 1 (.int .i64 H3); rw [hy65] at on67; have on67 := on67.setCell 2 (.int .i64 F3); rw [hy66] at on67)
              refine hK.out _ _ (by trivial) (fun hHeld => ?_)
              clear hK K
              refine Grl.one 5 rfl (by kernel_rfl) (fun K hK => ?_)
              go_simp
              skip
              refine hK.out _ _ (by trivial) (fun hHeld => ?_)
              clear hK K
              refine wpAnyH_done (by kernel_rfl) ?_ _
              have gy := grown_other (grown_trans q6 g8) (grown_only on67) (fun j hj => by cases hj; omega)
              have ry : Rd y66 rb (p3 + 1 + 1 + 1) := r8.grown (grown_only on67) (fun j hj => by cases hj; omega)
              have TY := hide (show Tab.TabAtN w.heap.size (w1.heap.size + 1) w1.heap.size y66 ra3 rl3 rq3 R3 H3 F3 from ⟨so66, (hown3.isF.mono (by omega)).only on67 (Nat.lt_succ_self _), hT3⟩)
              have RZy := hide (on67.own (own_below (own_kept (unhide RZ6) gI7 hrl) b8) (fun k hk => by simp only [Value.ownBlock, Option.some.injEq] at hk; omega))
              have zDy : w1.heap.size + 1 ≤ y66.heap.size := by have := on67.size; have := b8.size; omega
              clear so66 on67 hTab6 HS6 T6 RZ6 hown3
              go_wp2_with fail
              go_roundw
              case rel => exact ⟨k - 1, now2, R3, H3, F3, ra3, rl3, rq3, p3 + 1 + 1 + 1, rfl, by go_num, by omega, by omega, TY, RZy, ry, gy, zDy⟩
              case measure => first | (simp [intOf]; done) | (simp [intOf]; omega)
            · go_simp
              go_wp2_with (refine (unhide HOne6).mono ?_; rintro e w7 ⟨age, rfl, hage, r7, g7⟩; have hage' : 0 ≤ age ∧ age ≤ 300 := (by simp only [List.mem_cons, List.not_mem_nil, or_false] at hage; omega); have gI7 : w6.grownBy w7 (some rb) := grown_trans gD6 g7; have hc7 := unhide HS6 w7 gI7)
              refine hK.out _ _ (by trivial) (fun hHeld => ?_)
              clear hK K
              refine Grl.one 0 rfl (by kernel_rfl) (fun K hK => ?_)
              go_simp
              skip
              refine hK.out _ _ (by trivial) (fun hHeld => ?_)
              clear hK K
              refine Grl.one 4 rfl (by kernel_rfl) (fun K hK => ?_)
              go_simp
              go_wp2_with (refine (Tab.spec_keep (w := w7) age H F (by omega) (hTab6.grown gI7 hrr).2.1.is (Tab.tabB_good hTab6.2.2.1).1 (Tab.tabB_good hTab6.2.2.1).2).mono ?_; rintro e w8 ⟨r3, rfl, hown3, b8⟩; obtain ⟨ra3, rl3, rq3, rfl⟩ := hown3.form; have hT3 := Tab.keep_tabN (age := age) hTab6.2.2 (by omega); obtain ⟨⟨R3, H3, F3⟩, hk3⟩ : ∃ x, x = Tab.keep age L H F := ⟨_, rfl⟩; rw [← hk3] at hown3 hT3 ⊢; have g8 : w6.grownBy w8 (some rb) := grown_trans gI7 (grown_below b8); have r8 := r7.below b8; have z7 := gI7.size; have P8 := own_below (own_kept hTab6.1 gI7 hrl) b8; have sd68 : w8.cell? ⟨w1.heap.size, 0, none⟩ = some (.slice ra rl rq) := (by rw [P8.cellAt 0 (by omega)]; rfl); have sf68 := P8.frozenAt 0; have ss68 := (P8.stored 0 (.slice ra3 rl3 rq3)).1; obtain ⟨y68, hy68⟩ : ∃ w', w8.setCell ⟨w1.heap.size, 0, none⟩ (.slice ra3 rl3 rq3) = w' := ⟨_, rfl⟩; rw [hy68] at ss68; have so68 : y68.ownsRow w.heap.size 30 3 (.slice (some ⟨w1.heap.size, 0, none⟩) 1 1) 1 [.slice ra3 rl3 rq3, .int .i64 H, .int .i64 F] := ss68; clear ss68; have sd69 : y68.cell? ⟨w1.heap.size, 1, none⟩ = some (.int .i64 H) := (by rw [so68.cellAt 1 (by omega)]; rfl); have sf69 := so68.frozenAt 1; have ss69 := (so68.stored 1 (.int .i64 H3)).1; obtain ⟨y69, hy69⟩ : ∃ w', y68.setCell ⟨w1.heap.size, 1, none⟩ (.int .i64 H3) = w' := ⟨_, rfl⟩; rw [hy69] at ss69; have so69 : y69.ownsRow w.heap.size 30 3 (.slice (some ⟨w1.heap.size, 0, none⟩) 1 1) 1 [.slice ra3 rl3 rq3, .int .i64 H3, .int .i64 F] := ss69; clear ss69; have sd70 : y69.cell? ⟨w1.heap.size, 2, none⟩ = some (.int .i64 F) := (by rw [so69.cellAt 2 (by omega)]; rfl); have sf70 := so69.frozenAt 2; have ss70 := (so69.stored 2 (.int .i64 F3)).1; obtain ⟨y70, hy70⟩ : ∃ w', y69.setCell ⟨w1.heap.size, 2, none⟩ (.int .i64 F3) = w' := ⟨_, rfl⟩; rw [hy70] at ss70; have so70 : y70.ownsRow w.heap.size 30 3 (.slice (some ⟨w1.heap.size, 0, none⟩) 1 1) 1 [.slice ra3 rl3 rq3, .int .i64 H3, .int .i64 F3] := ss70; clear ss70; have on71 := OnlyAt.refl (w1.heap.size) w8; have on71 := on71.setCell 0 (.slice ra3 rl3 rq3); rw [hy68] at on71; have on71 := on71.setCell 1 (.int .i64 H3); rw [hy69] at on71; have on71 := on71.setCell 2 (.int .i64 F3); rw [hy70] at on71)
              refine hK.out _ _ (by trivial) (fun hHeld => ?_)
              clear hK K
              refine Grl.one 5 rfl (by kernel_rfl) (fun K hK => ?_)
              go_simp
              skip
              refine hK.out _ _ (by trivial) (fun hHeld => ?_)
              clear hK K
              refine wpAnyH_done (by kernel_rfl) ?_ _
              have gy := grown_other (grown_trans q6 g8) (grown_only on71) (fun j hj => by cases hj; omega)
              have ry : Rd y70 rb (p3 + 1 + 1 + 1) := r8.grown (grown_only on71) (fun j hj => by cases hj; omega)
              have TY := hide (show Tab.TabAtN w.heap.size (w1.heap.size + 1) w1.heap.size y70 ra3 rl3 rq3 R3 H3 F3 from ⟨so70, (hown3.isF.mono (by omega)).only on71 (Nat.lt_succ_self _), hT3⟩)
              have RZy := hide (on71.own (own_below (own_kept (unhide RZ6) gI7 hrl) b8) (fun k hk => by simp only [Value.ownBlock, Option.some.injEq] at hk; omega))
              have zDy : w1.heap.size + 1 ≤ y70.heap.size := by have := on71.size; have := b8.size; omega
              clear so70 on71 hTab6 HS6 T6 RZ6 hown3
              go_wp2_with fail
              go_roundw
              case rel => exact ⟨k - 1, now2, R3, H3, F3, ra3, rl3, rq3, p3 + 1 + 1 + 1, rfl, by go_num, by omega, by omega, TY, RZy, ry, gy, zDy⟩
              case measure => first | (simp [intOf]; done) | (simp [intOf]; omega)
        · have hc' : (c == 0) = false := by simp; omega
          clear hc
          go_wp2_with fail
          go_roundw
          case rel => exact ⟨k - 1, now2, L, H, F, ra, rl, rq, p3 + 1 + 1, rfl, by go_num, by omega, by omega, T6, RZ6, r6, q6, zD6⟩
          case measure => first | (simp [intOf]; done) | (simp [intOf]; omega)
    · obtain rfl : k = 0 := by omega
      have hTab := unhide HT
      have OZ := unhide HZ
      have OT := hTab.1
      have x0 : wr.cell? ⟨w1.heap.size, 0, none⟩ = some (.slice ra rl rq) := by rw [OT.cellAt 0 (by omega)]; rfl
      have x1 : wr.cell? ⟨w1.heap.size, 1, none⟩ = some (.int .i64 H) := by rw [OT.cellAt 1 (by omega)]; rfl
      have x2 : wr.cell? ⟨w1.heap.size, 2, none⟩ = some (.int .i64 F) := by rw [OT.cellAt 2 (by omega)]; rfl
      have sd72 : wr.cell? ⟨w.heap.size, 0, none⟩ = some (.slice none 0 0) := by rw [OZ.cellAt 0 (by omega)]; rfl
      have sf72 := OZ.frozenAt 0
      have ss72 := (OZ.stored 0 (.slice ra rl rq)).1
      obtain ⟨y72, hy72⟩ : ∃ w', wr.setCell ⟨w.heap.size, 0, none⟩ (.slice ra rl rq) = w' := ⟨_, rfl⟩
      rw [hy72] at ss72
      have so72 : y72.ownsRow w.heap.size 30 3 (.slice (some ⟨w.heap.size, 0, none⟩) 1 1) 1 [.slice ra rl rq, .int .i64 0, .int .i64 0] := ss72
      clear ss72
      have sd73 : y72.cell? ⟨w.heap.size, 1, none⟩ = some (.int .i64 0) := by rw [so72.cellAt 1 (by omega)]; rfl
      have sf73 := so72.frozenAt 1
      have ss73 := (so72.stored 1 (.int .i64 H)).1
      obtain ⟨y73, hy73⟩ : ∃ w', y72.setCell ⟨w.heap.size, 1, none⟩ (.int .i64 H) = w' := ⟨_, rfl⟩
      rw [hy73] at ss73
      have so73 : y73.ownsRow w.heap.size 30 3 (.slice (some ⟨w.heap.size, 0, none⟩) 1 1) 1 [.slice ra rl rq, .int .i64 H, .int .i64 0] := ss73
      clear ss73
      have sd74 : y73.cell? ⟨w.heap.size, 2, none⟩ = some (.int .i64 0) := by rw [so73.cellAt 2 (by omega)]; rfl
      have sf74 := so73.frozenAt 2
      have ss74 := (so73.stored 2 (.int .i64 F)).1
      obtain ⟨y74, hy74⟩ : ∃ w', y73.setCell ⟨w.heap.size, 2, none⟩ (.int .i64 F) = w' := ⟨_, rfl⟩
      rw [hy74] at ss74
      have so74 : y74.ownsRow w.heap.size 30 3 (.slice (some ⟨w.heap.size, 0, none⟩) 1 1) 1 [.slice ra rl rq, .int .i64 H, .int .i64 F] := ss74
      clear ss74
      have on75 := OnlyAt.refl (w.heap.size) wr
      have on75 := on75.setCell 0 (.slice ra rl rq)
      rw [hy72] at on75
      have on75 := on75.setCell 1 (.int .i64 H)
      rw [hy73] at on75
      have on75 := on75.setCell 2 (.int .i64 F)
      rw [hy74] at on75
      have z0 : y74.cell? ⟨w.heap.size, 0, none⟩ = some (.slice ra rl rq) := by rw [so74.cellAt 0 (by omega)]; rfl
      have z1 : y74.cell? ⟨w.heap.size, 1, none⟩ = some (.int .i64 H) := by rw [so74.cellAt 1 (by omega)]; rfl
      have z2 : y74.cell? ⟨w.heap.size, 2, none⟩ = some (.int .i64 F) := by rw [so74.cellAt 2 (by omega)]; rfl
      have hIs := hide ((hTab.2.1.only on75 (by omega)).mono (show w.heap.size ≤ w1.heap.size + 1 by omega))
      have ry := hide (show Rd y74 rb p' from hrd.grown (grown_only on75) (fun j hj => by cases hj; omega))
      have gy := hide (grown_other hg (grown_only on75) (fun j hj => by cases hj; exact Nat.le_refl _))
      have hTb := hTab.2.2
      clear on75 so72 so73 so74
      go_wp2_with fail
      refine bodyPost_ret (v := .tuple #[.agg #[.slice ra rl rq, .int .i64 H, .int .i64 F], .int .i64 now]) (by simp [results, Tryz.results92, go_sem, z0, z1, z2]) rfl ?_
      exact ⟨L, H, F, now, ra, rl, rq, rfl, by omega, hTb, unhide hIs, ⟨p', by omega, unhide ry⟩, unhide gy⟩
end Go.Proofs.YtlboekimnhgfdaaGreat.Draw

/- Rows that are drawn: their labels do not bear the name nobody. -/
namespace Go.Proofs.YtlboekimnhgfdaaGreat.Draw
open Go.RowKit Rw
set_option linter.unusedVariables false
set_option linter.unusedSimpArgs false
attribute [local go_sem ↓] Go.wp_at_zero Go.wp_at_succ
set_option maxRecDepth 100000 in
set_option maxHeartbeats 16000000 in
theorem rows_nb (rb p : Nat) (fr : Int) (w : World) (h : Rd w rb p) (hp : p ≤ 600000) (h0 : 0 ≤ fr) (h1 : fr ≤ 20000) :
    Calls Tryz.prog 129 #[.pointer (some ⟨rb, 0, none⟩), .int .i64 fr] w fun e w' => ∃ (L : List Row.E) (v : Value), e = .returned v ∧ OkN L ∧ Row.Own w.heap.size w'.heap.size w' v L ∧ (∃ p', p' ≤ p + 200 ∧ Rd w' rb p') ∧ w.grownBy w' (some rb) := by
  have hrl := h.lt
  have HR := hide h
  have HE0 := hide (own_nil' w.heap.size w (Nat.le_refl _))
  have hb1 : Below w.heap.size w (w.alloc (.cells #[] 93)) := (Below.refl _ _).alloc (Nat.le_refl _) _
  clear h
  go_enter Tryz.func129, Tryz.ntmps129
  go_wp2_with fail
  refine (pick_any rb p _ _ ((unhide HR).below hb1) (by omega) (by omega)).mono ?_
  rintro e w1 ⟨x, rfl, x0, x1, -, r1, g1⟩
  have x2 : x < 4 := x1 (by omega)
  have q1 : w.grownBy w1 (some rb) := grown_trans (grown_below hb1) g1
  have O1 := hide (Row.own_wide (row_kept (unhide HE0) g1 hrl) (Nat.le_refl _) g1.size (Nat.le_refl _))
  obtain ⟨n, rfl⟩ := Int.eq_ofNat_of_zero_le x0
  clear x1 HR HE0 g1 hb1
  go_wp2_with fail
  go_loopw [5, 6] (fun ov nv wr => ∃ (n : Nat) (L : List Row.E) (p' : Nat) (a : Option Addr) (l q : Nat), nv = .int .i64 (n : Int) ∧ n ≤ 3 ∧ ov = .slice a l q ∧ Hid (OkN L) ∧ Hid (Row.Own w.heap.size wr.heap.size wr ov L) ∧ p' + 60 * n ≤ p + 190 ∧ Rd wr rb p' ∧ w.grownBy wr (some rb)) (fun _ nv _ => (intOf nv).toNat)
  case atStart => exact ⟨n, [], p + 1, _, _, _, rfl, by omega, rfl, okN_nil, O1, by omega, r1, q1⟩
  case round =>
    clear O1 q1 r1 x0 x2
    obtain ⟨n, L, p', a, l, q, rfl, hn3, rfl, HK, HO, hp', hrd, hg⟩ := hrel
    have hsz := hg.size
    by_cases hn0 : 0 < n
    · have hn1 : (0 : Int) < (n : Int) := by omega
      go_wp2_with fail
      refine (labels_nb rb p' _ hrd (by omega)).mono ?_
      rintro e w2 ⟨ls, lv, rfl, hl0, hl3, hlo, ol, ⟨p2, hp2, r2⟩, g2⟩
      obtain ⟨la, lq, rfl⟩ : ∃ a q, lv = .slice a ls.length q := by obtain ⟨-, a, q, e, -⟩ := lies_of_own ol; exact ⟨a, q, e⟩
      have z2 := g2.size
      have HO2 := hide (row_kept (unhide HO) g2 hrl)
      have q2 := grown_trans hg g2
      have HLo := hide hlo
      have HLn := hide (show ls.length = ls.length from rfl)
      have OL := hide (own_mono ol hsz)
      generalize hll : ls.length = ll at *
      have HLL := hide hll
      clear ol hlo hrd g2 hg HO hl0 hl3 HLn hll
      go_wp2_with fail
      refine (pick_any rb p2 _ _ r2 (by omega) (by omega)).mono ?_
      rintro e w3 ⟨y, rfl, y0, y1, -, r3, g3⟩
      have y2 : y < 120 := y1 (by omega)
      have HO3 := hide (row_kept (unhide HO2) g3 hrl)
      have OL3 := hide (own_kept (unhide OL) g3 hrl)
      have q3 := grown_trans q2 g3
      have z3 := g3.size
      clear y1 r2 g3 HO2 OL q2
      go_wp2_with fail
      refine (pick_any rb (p2 + 1) _ _ r3 (by omega) (by omega)).mono ?_
      rintro e w4 ⟨u, rfl, u0, u1, -, r4, g4⟩
      have u2 : u < 4 := u1 (by omega)
      have HO4 := hide (Row.own_wide (row_kept (unhide HO3) g4 hrl) (Nat.le_refl _) (Nat.le_trans (Nat.le_trans z2 z3) g4.size) (Nat.le_refl _))
      have OL4 := hide (own_kept (unhide OL3) g4 hrl)
      have q4 := grown_trans q3 g4
      have z4 := g4.size
      obtain ⟨k0, rfl⟩ := Int.eq_ofNat_of_zero_le u0
      obtain ⟨t, ht⟩ : ∃ t, t = fr + y := ⟨_, rfl⟩
      have ht0 : 0 ≤ t ∧ t ≤ 20120 := by omega
      have HP2 := hide hp2
      clear u1 r3 g4 HO3 OL3 q3 z2 z3 z4 hp2
      obtain ⟨wo, hwo⟩ : ∃ wo, wo = wr := ⟨_, rfl⟩
      subst hwo
      go_wp2_with fail
      go_loopw [5, 8, 9] (fun ov tv kv wi => ∃ (k : Nat) (L' : List Row.E) (p3 : Nat) (T : Int) (a : Option Addr) (l q : Nat), kv = .int .i64 (k : Int) ∧ k ≤ 4 ∧ tv = .int .i64 T ∧ 0 ≤ T ∧ T ≤ 20120 ∧ ov = .slice a l q ∧ Hid (OkN L') ∧ Hid (Row.Own w.heap.size wi.heap.size wi ov L') ∧ Hid (wi.ownsRow w.heap.size 64 2 (.slice la ll lq) ll (Lab.flat ls)) ∧ p3 + 8 * k ≤ p2 + 2 + 32 ∧ Rd wi rb p3 ∧ w.grownBy wi (some rb)) (fun _ _ kv _ => (intOf kv).toNat)
      case atStart => exact ⟨k0 + 1, L, p2 + 1 + 1, t, _, _, _, by go_num, by omega, by rw [ht], ht0.1, ht0.2, rfl, HK, HO4, OL4, by omega, r4, q4⟩
      case round =>
        clear HK HO4 OL4 q4 r4 ht ht0 u0 u2 y0 y2
        obtain ⟨k, L', p3, T, a', l', q', rfl, hk4, rfl, hT0, hT1, rfl, HK, HO, OL, hp3, hrd3, hg3⟩ := hrel
        have hsz3 := hg3.size
        have hp2' := unhide HP2
        by_cases hk0 : 0 < k ∧ T ≤ 9999
        · obtain ⟨hk0, hT9⟩ := hk0
          have hk1 : (0 : Int) < (k : Int) := by omega
          go_wp2_with fail
          refine (value_any rb p3 _ hrd3 (by omega)).mono ?_
          rintro e w5 ⟨V, rfl, v0, v1, r5, g5⟩
          have q5 := grown_trans hg3 g5
          have z5 := q5.size
          have z5' := g5.size
          have HO5 := row_kept (unhide HO) g5 hrl
          have OL5 := own_kept (unhide OL) g5 hrl
          have b5 : Below w5.heap.size w5 (w5.alloc (.cells #[.int .i64 T, .int .i64 V] 106)) := (Below.refl _ _).alloc (Nat.le_refl _) _
          have hin : SampMath.inR T V = true := SampMath.inR_yes hT0 hT9 v0 v1
          have hLI : Lab.Is (w5.alloc (.cells #[.int .i64 T, .int .i64 V] 106)) (.slice la ll lq) ls := by
            have := lies_of_own (own_below OL5 b5)
            unfold Lab.Is
            rw [unhide HLL]
            exact this
          have HAd := hide (Row.l5add (w := w5.alloc (.cells #[.int .i64 T, .int .i64 V] 106)) (s := .slice (some ⟨w5.heap.size, 0, none⟩) 1 1) (xs := [(T, V)]) (HO5.is.below b5) (unhide HK).1 hLI (unhide HLo).1 (lies_new (w := w5) (cs := #[.int .i64 T, .int .i64 V]) (t := 106) (n := 1) (size := 2) rfl rfl (by unfold maxLen; omega)) (by rw [Row.one_ok]; exact hin))
          have HFx := hide (Row.fine_one (Row.fine_ok (Row.row_ok (unhide HLo).1 hin)) (List.mem_singleton.2 rfl))
          have HO5' := hide (HO5.below b5)
          have OL5' := hide (own_below OL5 b5)
          have r5' := r5.below b5
          have q5' := grown_trans q5 (grown_below b5)
          clear HO OL hrd3 hg3 r5 q5 HO5 OL5 hLI b5 hin g5
          go_wp2_with fail
          refine (unhide HAd).mono ?_
          rintro e w6 ⟨r, rfl, ho, b6⟩
          have r6 := r5'.below b6
          have q6 := grown_trans q5' (grown_below b6)
          have OL6 := hide (own_below (unhide OL5') b6)
          have z6 := b6.size
          simp only [World.size_alloc] at z6
          cases hadd : Row.add L' (ls, [(T, V)]) with
          | none =>
            have HO6 := hide (Row.own_wide ((unhide HO5').below b6) (Nat.le_refl _) (by omega) (Nat.le_refl _))
            rw [hadd] at ho
            clear ho b6 r5' q5' OL5' HO5' hadd HAd
            go_wp2_with fail
            refine (pick_any rb (p3 + 6) _ _ r6 (by omega) (by omega)).mono ?_
            rintro e w7 ⟨y, rfl, y0, y1, -, r7, g7⟩
            have y2 : y < 80 := y1 (by omega)
            have HO7 := hide (Row.own_wide (row_kept (unhide HO6) g7 hrl) (Nat.le_refl _) g7.size (Nat.le_refl _))
            have OL7 := hide (own_kept (unhide OL6) g7 hrl)
            have q7 := grown_trans q6 g7
            clear y1 r6 g7 HO6 OL6 q6
            go_wp2_with fail
            go_roundw
            case rel => exact ⟨k - 1, L', p3 + 6 + 1, T + 1 + y, _, _, _, by go_num, by omega, by go_num, by omega, by omega, rfl, HK, HO7, OL7, by omega, r7, q7⟩
            case measure => simp [intOf]; omega
          | some R =>
            have ho' := ho R hadd
            have HK' := hide (okN_add (unhide HK) (unhide HFx) hadd (unhide HLo).2)
            obtain ⟨ra, rl, rq, rfl⟩ := ho'.form
            have HO6 := hide (Row.own_wide ho' (lo' := w.heap.size) (hi' := w6.heap.size) (by simp; omega) (Nat.le_refl _) (Nat.le_refl _))
            clear ho ho' b6 r5' q5' OL5' HO5' hadd HAd
            go_wp2_with fail
            refine (pick_any rb (p3 + 6) _ _ r6 (by omega) (by omega)).mono ?_
            rintro e w7 ⟨y, rfl, y0, y1, -, r7, g7⟩
            have y2 : y < 80 := y1 (by omega)
            have HO7 := hide (Row.own_wide (row_kept (unhide HO6) g7 hrl) (Nat.le_refl _) g7.size (Nat.le_refl _))
            have OL7 := hide (own_kept (unhide OL6) g7 hrl)
            have q7 := grown_trans q6 g7
            clear y1 r6 g7 HO6 OL6 q6
            go_wp2_with fail
            go_roundw
            case rel => exact ⟨k - 1, R, p3 + 6 + 1, T + 1 + y, _, _, _, by go_num, by omega, by go_num, by omega, by omega, rfl, HK', HO7, OL7, by omega, r7, q7⟩
            case measure => simp [intOf]; omega
        · rcases (show k = 0 ∨ (0 < k ∧ 9999 < T) by omega) with rfl | ⟨hk1, hT9⟩
          · go_wp2_with fail
            go_roundw
            case rel => exact ⟨n - 1, L', p3, _, _, _, by go_num, by omega, rfl, HK, HO, by omega, hrd3, hg3⟩
            case measure => simp [intOf]; omega
          · have hk2 : (0 : Int) < (k : Int) := by omega
            go_wp2_with fail
            go_roundw
            case rel => exact ⟨n - 1, L', p3, _, _, _, by go_num, by omega, rfl, HK, HO, by omega, hrd3, hg3⟩
            case measure => simp [intOf]; omega
    · obtain rfl : n = 0 := by omega
      go_wp2_with fail
      go_ret
      exact ⟨L, _, rfl, unhide HK, unhide HO, ⟨p', by omega, hrd⟩, hg⟩
set_option maxRecDepth 100000 in
set_option maxHeartbeats 16000000 in
theorem anyrows_nb (rb p : Nat) (fr : Int) (w : World) (h : Rd w rb p) (hp : p ≤ 500000) (h0 : 0 ≤ fr) (h1 : fr ≤ 20000) :
    Calls Tryz.prog 94 #[.pointer (some ⟨rb, 0, none⟩), .int .i64 fr] w fun e w' => ∃ (zs : List Row.E) (v : Value), e = .returned v ∧ RG zs ∧ NBR zs ∧ Row.IsF w.heap.size w' v zs ∧ (∃ p', p' ≤ p + 400 ∧ Rd w' rb p') ∧ w.grownBy w' (some rb) := by
  obtain ⟨i0, hi, hz0, hz1, hz2⟩ := info_parts Row.info_e
  have hrl := h.lt
  have HR := hide h
  clear h
  go_enter Tryz.func94, Tryz.ntmps94
  go_wp2_with fail
  refine (rows_nb rb p fr _ (unhide HR) (by omega) h0 h1).mono ?_
  rintro e w1 ⟨L, v, rfl, hok, ho, ⟨p1, hp1, r1⟩, q1⟩
  have HRG := hide (rg_ok hok.1)
  have HNB := hide hok.2
  have hn10 := Row.ok_len hok.1
  have z1 := q1.size
  have HO := hide ho
  have hown := ho
  obtain ⟨cs, g1, g2, -⟩ := hown
  obtain ⟨n, hn⟩ : ∃ n, n = L.length := ⟨_, rfl⟩
  rw [← hn] at g2 hn10
  have HN := hide hn
  have G2 := hide g2
  obtain ⟨a, q, rfl⟩ : ∃ a q, v = .slice a n q := by obtain ⟨-, a, q, e, -⟩ := lies_of_own g2; exact ⟨a, q, e⟩
  clear hok ho g1 g2 hn HR
  rcases n with _ | n
  · go_wp2
    go_ret
    exact ⟨L, _, rfl, unhide HRG, unhide HNB, (unhide HO).isF, ⟨p1, by omega, r1⟩, q1⟩
  obtain ⟨g, rfl⟩ : ∃ g, a = some ⟨g, 0, none⟩ := by
    rcases (unhide G2).2 with ⟨e, -⟩ | ⟨g, cap, cur, e, -⟩
    · cases e
    · simp only [Value.slice.injEq] at e; exact ⟨g, e.1⟩
  have hge : w.heap.size ≤ g := own_ge (unhide G2) g rfl
  clear G2
  have hnp : 0 < n + 1 := by omega
  go_wp2_with fail
  refine (pick_any rb p1 _ _ r1 (by omega) (by omega)).mono ?_
  rintro e w2 ⟨kk, rfl, k0, k1, -, r2, g2⟩
  have k2 : kk < ((n + 1 : Nat) : Int) := k1 (by omega)
  obtain ⟨k, rfl⟩ := Int.eq_ofNat_of_zero_le k0
  have HO2 := hide (row_kept (unhide HO) g2 hrl)
  have q2 := grown_trans q1 g2
  clear k1 g2 HO q1 r1
  go_wp2_with fail
  refine (pick_any rb (p1 + 1) _ _ r2 (by omega) (by omega)).mono ?_
  rintro e w3 ⟨c, rfl, c0, c1, -, r3, g3⟩
  have HO3 := hide (row_kept (unhide HO2) g3 hrl)
  have q3 := grown_trans q2 g3
  have z3 := q3.size
  clear c1 g3 HO2 q2 r2
  have hkl : k < L.length := by have := unhide HN; omega
  have hk0 : (0 : Int) ≤ (k : Int) := Int.natCast_nonneg _
  have hk1 : (k : Int) < (n : Int) + 1 := by omega
  by_cases hc0 : c = 0
  · subst hc0
    go_wp2_with fail
    refine (anylabels_any rb (p1 + 1 + 1) _ r3 (by omega)).mono ?_
    rintro e w4 ⟨ls, lv, rfl, hl20, hsm, ol, ⟨p4, hp4, r4⟩, g4⟩
    have HO4 := row_kept (unhide HO3) g4 hrl
    have q4 := grown_trans q3 g4
    obtain ⟨la, lq, rfl⟩ : ∃ a q, lv = .slice a ls.length q := by obtain ⟨-, a, q, e, -⟩ := lies_of_own ol; exact ⟨a, q, e⟩
    obtain ⟨cs, f1, f2, -⟩ := id HO4
    rw [← unhide HN] at f2
    have u0 : w4.cell? ⟨g, k * 2, none⟩ = some (Row.cat cs k).1 := (f2.cellAt (k * 2) (by omega)).trans (Row.flat_at cs k (by omega)).1
    have f0 : w4.frozen? ⟨g, k * 2, none⟩ = false := f2.frozenAt _
    have HF := hide (Row.setL (g := g) (q := q) (k := k) (lv := .slice la ls.length lq) (by rw [← unhide HN]; exact HO4) hkl (own_mono ol z3))
    have HN2 := hide (nbr_set (k := k) (y := (ls, (Row.at' L k).2)) (unhide HNB) (fun y hy => (hsm y hy).2.2))
    have HG := hide (rg_set (k := k) (y := (ls, (Row.at' L k).2)) (unhide HRG) ⟨⟨⟨by show ls.length ≤ maxLen; unfold maxLen; omega, fun y hy => good_smallL (hsm y hy)⟩, (rg_at (unhide HRG) hkl).1.2⟩, hl20, (rg_at (unhide HRG) hkl).2.2⟩)
    have gS := grown_only ((OnlyAt.refl g w4).setCell (k * 2) (.slice la ls.length lq))
    have Q := grown_other q4 gS (fun j hj => by cases hj; exact hge)
    have R := r4.grown gS (fun j hj => by cases hj; omega)
    have HL := hide (show (L.set k (ls, (Row.at' L k).2)).length = n + 1 by rw [List.length_set, ← unhide HN])
    rw [← unhide HN] at HF
    clear f1 f2 HO4 ol gS hsm g4
    generalize (Row.cat cs k).1 = uu at u0
    generalize ls.length = ll at *
    go_wp2
    go_ret
    exact ⟨L.set k (ls, (Row.at' L k).2), _, rfl, unhide HG, unhide HN2, unhide HF, ⟨p4, by omega, R⟩, Q⟩
  by_cases hc1 : c = 1
  · subst hc1
    go_wp2_with fail
    refine (anysamples_good rb (p1 + 1 + 1) 3 _ r3 (by omega) (by omega)).mono ?_
    rintro e w4 ⟨xs, sg, sq, rfl, hl20, hsm, ol, ⟨p4, hp4, r4⟩, g4⟩
    have HO4 := row_kept (unhide HO3) g4 hrl
    have q4 := grown_trans q3 g4
    obtain ⟨cs, f1, f2, -⟩ := id HO4
    rw [← unhide HN] at f2
    have u0 : w4.cell? ⟨g, k * 2 + 1, none⟩ = some (Row.cat cs k).2 := (f2.cellAt (k * 2 + 1) (by omega)).trans (Row.flat_at cs k (by omega)).2
    have f0 : w4.frozen? ⟨g, k * 2 + 1, none⟩ = false := f2.frozenAt _
    have HF := hide (Row.setS (g := g) (q := q) (k := k) (xv := .slice (some ⟨sg, 0, none⟩) xs.length sq) (by rw [← unhide HN]; exact HO4) hkl (own_mono (by rw [← RSet.flat_eq]; exact ol) z3))
    have HN2 := hide (nbr_set (k := k) (y := ((Row.at' L k).1, xs)) (unhide HNB) (show nbL (Row.at' L k).1 from unhide HNB _ (Row.at_mem L k hkl)))
    have HG := hide (rg_set (k := k) (y := ((Row.at' L k).1, xs)) (unhide HRG) ⟨⟨(rg_at (unhide HRG) hkl).1.1, by show xs.length ≤ maxLen; unfold maxLen; omega, good_sg hsm⟩, (rg_at (unhide HRG) hkl).2.1, by show xs.length ≤ 1000; omega⟩)
    have gS := grown_only ((OnlyAt.refl g w4).setCell (k * 2 + 1) (.slice (some ⟨sg, 0, none⟩) xs.length sq))
    have Q := grown_other q4 gS (fun j hj => by cases hj; exact hge)
    have R := r4.grown gS (fun j hj => by cases hj; omega)
    rw [← unhide HN] at HF
    clear f1 f2 HO4 ol gS hsm g4
    generalize (Row.cat cs k).2 = uu at u0
    generalize xs.length = ll at *
    go_wp2
    go_ret
    exact ⟨L.set k ((Row.at' L k).1, xs), _, rfl, unhide HG, unhide HN2, unhide HF, ⟨p4, by omega, R⟩, Q⟩
  by_cases hc2 : c = 2
  · subst hc2
    obtain ⟨cs, f1, f2, -, -, -, -, f7⟩ := id (unhide HO3)
    rw [← unhide HN] at f2
    have hgl : g < w3.heap.size := own_block_lt f2 g rfl
    have u0 : w3.cell? ⟨g, 0, none⟩ = some (Row.cat cs 0).1 := (f2.cellAt 0 (by omega)).trans (Row.flat_at cs 0 (by omega)).1
    have u1 : w3.cell? ⟨g, 1, none⟩ = some (Row.cat cs 0).2 := (f2.cellAt 1 (by omega)).trans (Row.flat_at cs 0 (by omega)).2
    have h70 := (f7 0 (by omega)).1
    obtain ⟨-, a0, q0, e0, -⟩ := lies_of_own h70.1
    obtain ⟨-, a1, q1', e1, -⟩ := lies_of_own h70.2
    generalize hl0 : (Row.at' L 0).1.length = l0 at e0
    generalize hl1 : (Row.at' L 0).2.length = l1 at e1
    have HE0 := hide e0
    have HE1 := hide e1
    rw [e0] at u0
    rw [e1] at u1
    have F2 := hide f2
    have F7 := hide f7
    have F1 := hide f1
    have hmx1 : 1 ≤ maxLen := by unfold maxLen; omega
    clear f1 f2 f7 h70 e0 e1 hl0 hl1
    go_wp2_with (at_builtin; refine app_wp _ rfl (.tmp 38) (.tmp 42) _ rfl w.heap.size 93 i0 _ 2 48 Tryz.underlying28 hi hz0 hz1 hz2 rfl (by omega) _ (n + 1) _ rfl (World.ownsRow.alloc (unhide F2) _) _ 1 [.slice a0 l0 q0, .slice a1 l1 q1'] rfl (lies_new (w := w3) (by simp) rfl hmx1) (by simp [Value.oneCell']) (by unfold maxLen; omega) (by omega) (by simp; omega) ?_; intro vn wn on gn an)
    have bA : Below w3.heap.size w3 (w3.alloc (.cells #[.slice a0 l0 q0, .slice a1 l1 q1'] 93)) := (Below.refl _ _).alloc (Nat.le_refl _) _
    have Q : w.grownBy wn (some rb) := grown_other (grown_trans q3 (grown_below bA)) gn (own_ge (unhide F2))
    have R : Rd wn rb (p1 + 1 + 1) := (r3.below bA).grown gn (fun j hj => by have := own_ge (unhide F2) j hj; omega)
    have HF := hide (show Row.IsF w.heap.size wn vn (L ++ [Row.at' L 0]) by
      have f1 := unhide F1
      have f7 := unhide F7
      have hlen : (L ++ [Row.at' L 0]).length = n + 1 + 1 := by rw [List.length_append, ← unhide HN]; rfl
      refine ⟨cs ++ [Row.cat cs 0], by rw [hlen]; simp [f1, ← unhide HN], ?_, own_ge on, fun i hi' => ?_⟩
      · rw [hlen, flatOf_append, flatOf_one]
        have : Row.cl (Row.cat cs 0) = [.slice a0 l0 q0, .slice a1 l1 q1'] := by unfold Row.cl; rw [unhide HE0, unhide HE1]
        rw [this]
        exact lies_of_own on
      · have keep : ∀ j, j < L.length → Row.Elem wn (Row.cat cs j) (Row.at' L j) ∧ Row.far w.heap.size (Row.cat cs j) := fun j hj => by
          have h7 := (f7 j hj).1
          exact Row.far_of (Row.own_grown gn (own_below h7.1 bA) (fun b hb e => own_ne_type h7.1 (unhide F2) (by decide) b hb e)) (Row.own_grown gn (own_below h7.2 bA) (fun b hb e => own_ne_type h7.2 (unhide F2) (by decide) b hb e))
        rw [hlen] at hi'
        by_cases hj : i < L.length
        · rw [Row.cat_lt _ _ _ (by omega), Row.at_lt _ _ _ hj]
          exact keep i hj
        · obtain rfl : i = L.length := by have := unhide HN; omega
          rw [Row.at_last, show Row.cat (cs ++ [Row.cat cs 0]) L.length = Row.cat cs 0 by rw [← f1]; exact Row.cat_last _ _]
          exact keep 0 (by omega))
    have HN2 := hide (show NBR (L ++ [Row.at' L 0]) from fun x hx => by
      rcases List.mem_append.1 hx with hx | hx
      · exact unhide HNB x hx
      · rw [List.mem_singleton.1 hx]; exact unhide HNB _ (Row.at_mem L 0 (by omega)))
    have HG := hide (show RG (L ++ [Row.at' L 0]) from ⟨by rw [List.length_append, ← unhide HN]; simp; omega, fun x hx => by
      rcases List.mem_append.1 hx with hx | hx
      · exact (unhide HRG).2 x hx
      · rw [List.mem_singleton.1 hx]; exact rg_at (unhide HRG) (by omega)⟩)
    clear on gn an u0 u1 F2 F7 bA
    go_wp2_with fail
    go_ret
    exact ⟨L ++ [Row.at' L 0], _, rfl, unhide HG, unhide HN2, unhide HF, ⟨p1 + 1 + 1, by omega, R⟩, Q⟩
  · have d0 : (c == 0) = false := by simpa using hc0
    have d1 : (c == 1) = false := by simpa using hc1
    have d2 : (c == 2) = false := by simpa using hc2
    go_wp2
    go_ret
    exact ⟨L, _, rfl, unhide HRG, unhide HNB, (unhide HO3).isF, ⟨p1 + 1 + 1, by omega, r3⟩, q3⟩
end Go.Proofs.YtlboekimnhgfdaaGreat.Draw

/- Tables are drawn: l13Table. -/
namespace Go.Proofs.YtlboekimnhgfdaaGreat.Draw
open Go.RowKit Rw
set_option linter.unusedVariables false
set_option linter.unusedSimpArgs false
attribute [local go_sem ↓] Go.wp_at_zero Go.wp_at_succ
set_option maxRecDepth 100000 in
set_option maxHeartbeats 16000000 in
theorem table_any (rb p : Nat) (w : World) (h : Rd w rb p) (hp : p ≤ 300000) :
    Calls Tryz.prog 92 #[.pointer (some ⟨rb, 0, none⟩)] w fun e w' => ∃ (L : List Row.E) (H F now : Int) (ra : Option Addr) (rl rq : Nat), e = .returned (.tuple #[.agg #[.slice ra rl rq, .int .i64 H, .int .i64 F], .int .i64 now]) ∧ (0 ≤ now ∧ now ≤ 2000) ∧ Tab.tabB (L, H, F) ∧ Row.IsF w.heap.size w' (.slice ra rl rq) L ∧ (∃ p', p' ≤ p + 3000 ∧ Rd w' rb p') ∧ w.grownBy w' (some rb) := by
  have hrl := h.lt
  obtain ⟨W, hW⟩ : ∃ W, W = w.alloc (.cells #[.slice none 0 0, .int .i64 0, .int .i64 0] 30) := ⟨_, rfl⟩
  have bW : Below w.heap.size w W := by rw [hW]; exact (Below.refl _ _).alloc (Nat.le_refl _) _
  have zW : W.heap.size = w.heap.size + 1 := by rw [hW]; simp
  have RZ : W.ownsRow w.heap.size 30 3 (.slice (some ⟨w.heap.size, 0, none⟩) 1 1) 1 [.slice none 0 0, .int .i64 0, .int .i64 0] := by rw [hW]; exact Tab.own_new3 (Nat.le_refl _) rfl
  have HR := hide (h.below bW)
  have HNew := hide (Tab.spec_new W)
  clear h
  go_enter Tryz.func92, Tryz.ntmps92
  go_wp2_with fail
  rw [← hW]
  clear hW
  refine (unhide HNew).mono ?_
  rintro e w1 ⟨rfl, b1⟩
  have z1 := b1.size
  obtain ⟨V2, hV2⟩ : ∃ w', w1.alloc (.cells #[.slice none 0 0, .int .i64 (-1), .int .i64 0] 30) = w' := ⟨_, rfl⟩
  have bV : Below w1.heap.size w1 V2 := by rw [← hV2]; exact (Below.refl _ _).alloc (Nat.le_refl _) _
  have zV : w1.heap.size + 1 ≤ V2.heap.size := by rw [← hV2]; simp
  have OV : V2.ownsRow w.heap.size 30 3 (.slice (some ⟨w1.heap.size, 0, none⟩) 1 1) 1 [.slice none 0 0, .int .i64 (-1), .int .i64 0] := by rw [← hV2]; exact Tab.own_new3 (by omega) rfl
  have sdV : V2.cell? ⟨w1.heap.size, 2, none⟩ = some (.int .i64 0) := by rw [OV.cellAt 2 (by omega)]; rfl
  have sfV := OV.frozenAt 2
  have ssV := (OV.stored 2 (.int .i64 0)).1
  obtain ⟨W2, hW2⟩ : ∃ w', V2.setCell ⟨w1.heap.size, 2, none⟩ (.int .i64 0) = w' := ⟨_, rfl⟩
  rw [hW2] at ssV
  have OW : W2.ownsRow w.heap.size 30 3 (.slice (some ⟨w1.heap.size, 0, none⟩) 1 1) 1 [.slice none 0 0, .int .i64 (-1), .int .i64 0] := ssV
  have onV := (OnlyAt.refl w1.heap.size V2).setCell 2 (.int .i64 0)
  rw [hW2] at onV
  have b2 : Below w1.heap.size w1 W2 := bV.trans (onV.below (Nat.le_refl _))
  have z2 : w1.heap.size + 1 ≤ W2.heap.size := by have := onV.size; omega
  clear ssV OV bV zV onV
  have hrr : rb < w.heap.size ∧ rb < w1.heap.size + 1 := ⟨hrl, by omega⟩
  have hwz1 : w.heap.size < w1.heap.size := by omega
  have T0 := hide (show Tab.TabAt w.heap.size (w1.heap.size + 1) w1.heap.size W2 none 0 0 [] (-1) 0 from ⟨OW, Tab.isF_nil _ _, Tab.new_tab⟩)
  have RZ2 := hide (own_below (own_below RZ b1) b2)
  have r2 := ((unhide HR).below b1).below b2
  have c2 := bW.trans ((b1.trans (b2.mono z1)).mono bW.size)
  have hone := one_new rb p [0, 0, 100, 700] W2 r2 (by omega) (by simp) (by simp)
  simp only [List.map_cons, List.map_nil, List.length_cons, List.length_nil, Nat.zero_add, Nat.reduceAdd] at hone
  have HOne := hide hone
  clear hone RZ HR HNew bW b1 b2 r2 zW z1 OW
  go_wp2_with fail
  refine (unhide HOne).mono ?_
  rintro e w3 ⟨now, rfl, hnow, r3, g3⟩
  have hnow' : 0 ≤ now ∧ now ≤ 700 := by simp only [List.mem_cons, List.not_mem_nil, or_false] at hnow; omega
  have T3 := hide ((unhide T0).grown g3 hrr)
  have RZ3 := hide (own_kept (unhide RZ2) g3 hrl)
  have q3 := grown_trans (grown_below (r := some rb) c2) g3
  have zD3 : w1.heap.size + 1 ≤ w3.heap.size := by have := g3.size; omega
  clear HOne hnow T0 RZ2 hW2 hV2 sdV sfV c2 g3
  go_wp2_with fail
  refine (pick_any rb (p + 1) _ _ r3 (by omega) (by omega)).mono ?_
  rintro e w4 ⟨n, rfl, n0, n1, -, r4, g4⟩
  have n2 : n < 8 := n1 (by omega)
  have T4 := hide ((unhide T3).grown g4 hrr)
  have RZ4 := hide (own_kept (unhide RZ3) g4 hrl)
  have q4 := grown_trans q3 g4
  have zD4 : w1.heap.size + 1 ≤ w4.heap.size := by have := g4.size; omega
  obtain ⟨N, rfl⟩ := Int.eq_ofNat_of_zero_le n0
  clear T3 RZ3 q3 r3 g4 n1 zD3
  go_wp2_with fail
  go_loopw [5, 6] (fun nv kv wr => ∃ (k : Nat) (now : Int) (L : List Row.E) (H F : Int) (ra : Option Addr) (rl rq p' : Nat), nv = .int .i64 now ∧ kv = .int .i64 (k : Int) ∧ (0 ≤ now ∧ now + 120 * (k : Int) ≤ 2000) ∧ p' + 200 * k ≤ p + 2000 ∧ Hid (Tab.TabAt w.heap.size (w1.heap.size + 1) w1.heap.size wr ra rl rq L H F) ∧ Hid (wr.ownsRow w.heap.size 30 3 (.slice (some ⟨w.heap.size, 0, none⟩) 1 1) 1 [.slice none 0 0, .int .i64 0, .int .i64 0]) ∧ Rd wr rb p' ∧ w.grownBy wr (some rb) ∧ w1.heap.size + 1 ≤ wr.heap.size) (fun _ kv _ => (intOf kv).toNat)
  case atStart => exact ⟨N, now, [], -1, 0, none, 0, 0, p + 1 + 1, rfl, rfl, by omega, by omega, T4, RZ4, r4, q4, zD4⟩
  case round =>
    clear T4 RZ4 q4 zD4 r4
    obtain ⟨k, now, L, H, F, ra, rl, rq, p', rfl, rfl, hnow, hp', HT, HZ, hrd, hg, hD⟩ := hrel
    have hsz := hg.size
    have hk00 : (0 : Int) ≤ (k : Int) := Int.natCast_nonneg _
    by_cases hk0 : 0 < k
    · have hk1 : (0 : Int) < (k : Int) := by omega
      have gD : wr.grownBy wr.drew (some rb) := grown_below ((Below.refl _ _).drew)
      have rD : Rd wr.drew rb p' := rd_drew hrd
      have hTab := unhide HT
      have hB := hTab.2.2
      have HS := hide (fun (X : World) (gx : wr.grownBy X (some rb)) => show (fun X => X.cell? ⟨w1.heap.size, 0, none⟩ = some (.slice ra rl rq) ∧ X.cell? ⟨w1.heap.size, 1, none⟩ = some (.int .i64 H) ∧ X.cell? ⟨w1.heap.size, 2, none⟩ = some (.int .i64 F)) X from
        have hy := own_kept hTab.1 gx hrl
        ⟨by rw [hy.cellAt 0 (by omega)]; rfl, by rw [hy.cellAt 1 (by omega)]; rfl, by rw [hy.cellAt 2 (by omega)]; rfl⟩)
      obtain ⟨wA, hwA⟩ : ∃ w', wr.drew.alloc (.cells #[.slice none 0 0, .int .i64 0, .int .i64 0] 30) = w' := ⟨_, rfl⟩
      have bA : Below wr.drew.heap.size wr.drew wA := by rw [← hwA]; exact (Below.refl _ _).alloc (Nat.le_refl _) _
      have zA : wA.heap.size = wr.heap.size + 1 := by rw [← hwA]; simp
      have PA : wA.ownsRow w.heap.size 30 3 (.slice (some ⟨wr.heap.size, 0, none⟩) 1 1) 1 [.slice none 0 0, .int .i64 0, .int .i64 0] := by rw [← hwA]; exact Tab.own_new3 (w := wr.drew) hsz rfl
      have gA : wr.grownBy wA (some rb) := grown_trans gD (grown_below bA)
      have rA : Rd wA rb p' := rD.below bA
      go_upto_region 6 with fail
      go_cut [7, 8] from 15 to 42 (fun pv kv wx => ∃ (q7 : Nat) (k2 : Int) (R2 : List Row.E) (H2 F2 : Int) (ra2 : Option Addr) (rl2 rq2 p3 : Nat), pv = .pointer (some ⟨q7, 0, none⟩) ∧ kv = .int .i64 k2 ∧ p3 ≤ p' + 100 ∧ w1.heap.size < q7 ∧ Hid (Tab.TabAt w.heap.size (w1.heap.size + 1) q7 wx ra2 rl2 rq2 R2 H2 F2) ∧ Hid (Tab.TabAt w.heap.size (w1.heap.size + 1) w1.heap.size wx ra rl rq L H F) ∧ Hid (wx.ownsRow w.heap.size 30 3 (.slice (some ⟨w.heap.size, 0, none⟩) 1 1) 1 [.slice none 0 0, .int .i64 0, .int .i64 0]) ∧ Rd wx rb p3 ∧ w.grownBy wx (some rb))
      case first =>
        refine Grl.start (S := fun X => X.cell? ⟨w1.heap.size, 0, none⟩ = some (.slice ra rl rq) ∧ X.cell? ⟨w1.heap.size, 1, none⟩ = some (.int .i64 H) ∧ X.cell? ⟨w1.heap.size, 2, none⟩ = some (.int .i64 F)) (by kernel_rfl) (by exact unhide HS _ gD) (fun hHeld => ?_)
        refine Grl.yes 0 (v := ?_) rfl (by kernel_rfl) (by kernel_rfl) (by kernel_rfl) (fun _ _ _ h => h) (by kernel_rfl) ?_ (by assumption) ?_
        rotate_left
        · (intro w hSw; (try dsimp only at hSw); go_simp; try with_reducible rfl)
        simp only [Act.put, List.setIfInBounds_toArray, List.set_cons_zero, List.set_cons_succ]
        refine Grl.yes 1 (v := ?_) rfl (by kernel_rfl) (by kernel_rfl) (by kernel_rfl) (fun _ _ _ h => h) (by kernel_rfl) ?_ (by assumption) ?_
        rotate_left
        · (intro w hSw; (try dsimp only at hSw); go_simp; try with_reducible rfl)
        simp only [Act.put, List.setIfInBounds_toArray, List.set_cons_zero, List.set_cons_succ]
        refine Grl.yes 2 (v := ?_) rfl (by kernel_rfl) (by kernel_rfl) (by kernel_rfl) (fun _ _ _ h => h) (by kernel_rfl) ?_ (by assumption) ?_
        rotate_left
        · (intro w hSw; (try dsimp only at hSw); go_simp; try with_reducible rfl)
        simp only [Act.put, List.setIfInBounds_toArray, List.set_cons_zero, List.set_cons_succ]
        refine Grl.two 3 8 rfl rfl (by kernel_rfl) (fun K hK => ?_) (fun K hK => ?_)
        · go_simp
          go_wp2_with (refine (batch_any rb p' now _ rD (by omega) (by omega) (by omega)).mono ?_; rintro e w3 ⟨zs, bv, rfl, hEn, hEo, ⟨p3, hp3, r3⟩, g3⟩; have q3 : wr.grownBy w3 (some rb) := grown_trans gD g3; obtain ⟨ba, bl, bq, rfl⟩ : ∃ a l q, bv = .slice a l q := (by obtain ⟨cs, -, hL, -⟩ := hEo.is; obtain ⟨-, a, q, e, -⟩ := hL; exact ⟨a, _, q, e⟩); obtain ⟨wB, hwB⟩ : ∃ w', w3.alloc (.cells #[.slice none 0 0, .int .i64 0, .int .i64 0] 30) = w' := ⟨_, rfl⟩; have bB : Below w3.heap.size w3 wB := (by rw [← hwB]; exact (Below.refl _ _).alloc (Nat.le_refl _) _); have zB : wB.heap.size = w3.heap.size + 1 := (by rw [← hwB]; simp); have PB : wB.ownsRow w.heap.size 30 3 (.slice (some ⟨w3.heap.size, 0, none⟩) 1 1) 1 [.slice none 0 0, .int .i64 0, .int .i64 0] := (by rw [← hwB]; exact Tab.own_new3 (Nat.le_trans hsz q3.size) rfl); have gA2 : wr.grownBy wB (some rb) := grown_trans q3 (grown_below bB))
          refine hK.out _ _ (by exact unhide HS _ q3) (fun hHeld => ?_)
          clear hK K
          refine Grl.two 4 8 rfl rfl (by kernel_rfl) (fun K hK => ?_) (fun K hK => ?_)
          · go_simp
            go_wp2_with (refine (Tab.l6add (w := w3) ra rl rq H F (hTab.grown q3 hrr).2.1.is hB hEo.is (ent_okay hEn)).mono ?_; rintro e w5 ⟨r2, rfl, hown, b5⟩; obtain ⟨ra2, rl2, rq2, rfl⟩ := hown.form; have hT2 := Tab.addE_tab (b := zs) hB; obtain ⟨⟨⟨R2, H2, F2⟩, k2⟩, ha2⟩ : ∃ x, x = Tab.addE (L, H, F) zs := ⟨_, rfl⟩; rw [← ha2] at hown hT2 ⊢; have g5 : wr.grownBy w5 (some rb) := grown_trans q3 (grown_below b5); have r5 := r3.below b5; obtain ⟨wC, hwC⟩ : ∃ w', w5.alloc (.cells #[.slice none 0 0, .int .i64 0, .int .i64 0] 30) = w' := ⟨_, rfl⟩; have bC : Below w5.heap.size w5 wC := (by rw [← hwC]; exact (Below.refl _ _).alloc (Nat.le_refl _) _); have zC : wC.heap.size = w5.heap.size + 1 := (by rw [← hwC]; simp); have PC : wC.ownsRow w.heap.size 30 3 (.slice (some ⟨w5.heap.size, 0, none⟩) 1 1) 1 [.slice none 0 0, .int .i64 0, .int .i64 0] := (by rw [← hwC]; exact Tab.own_new3 (Nat.le_trans hsz g5.size) rfl); have gC : wr.grownBy wC (some rb) := grown_trans g5 (grown_below bC); have sd22 : wC.cell? ⟨w5.heap.size, 0, none⟩ = some (.slice none 0 0) := (by rw [PC.cellAt 0 (by omega)]; rfl); have sf22 := PC.frozenAt 0; have ss22 := (PC.stored 0 (.slice ra2 rl2 rq2)).1; obtain ⟨y22, hy22⟩ : ∃ w', wC.setCell ⟨w5.heap.size, 0, none⟩ (.slice ra2 rl2 rq2) = w' := ⟨_, rfl⟩; rw [hy22] at ss22; have so22 : y22.ownsRow w.heap.size 30 3 (.slice (some ⟨w5.heap.size, 0, none⟩) 1 1) 1 [.slice ra2 rl2 rq2, .int .i64 0, .int .i64 0] := ss22; clear ss22; have sd23 : y22.cell? ⟨w5.heap.size, 1, none⟩ = some (.int .i64 0) := (by rw [so22.cellAt 1 (by omega)]; rfl); have sf23 := so22.frozenAt 1; have ss23 := (so22.stored 1 (.int .i64 H2)).1; obtain ⟨y23, hy23⟩ : ∃ w', y22.setCell ⟨w5.heap.size, 1, none⟩ (.int .i64 H2) = w' := ⟨_, rfl⟩; rw [hy23] at ss23; have so23 : y23.ownsRow w.heap.size 30 3 (.slice (some ⟨w5.heap.size, 0, none⟩) 1 1) 1 [.slice ra2 rl2 rq2, .int .i64 H2, .int .i64 0] := ss23; clear ss23; have sd24 : y23.cell? ⟨w5.heap.size, 2, none⟩ = some (.int .i64 0) := (by rw [so23.cellAt 2 (by omega)]; rfl); have sf24 := so23.frozenAt 2; have ss24 := (so23.stored 2 (.int .i64 F2)).1; obtain ⟨y24, hy24⟩ : ∃ w', y23.setCell ⟨w5.heap.size, 2, none⟩ (.int .i64 F2) = w' := ⟨_, rfl⟩; rw [hy24] at ss24; have so24 : y24.ownsRow w.heap.size 30 3 (.slice (some ⟨w5.heap.size, 0, none⟩) 1 1) 1 [.slice ra2 rl2 rq2, .int .i64 H2, .int .i64 F2] := ss24; clear ss24; have on25 := OnlyAt.refl (w5.heap.size) wC; have on25 := on25.setCell 0 (.slice ra2 rl2 rq2); rw [hy22] at on25; have on25 := on25.setCell 1 (.int .i64 H2); rw [hy23] at on25; have on25 := on25.setCell 2 (.int .i64 F2); rw [hy24] at on25; have gy : wr.grownBy y24 (some rb) := grown_other gC (grown_only on25) (fun j hj => by cases hj; exact g5.size); have hz5 := b5.size; have hz3 := q3.size)
            refine hK.out _ _ (by exact unhide HS _ g5) (fun hHeld => ?_)
            clear hK K
            refine Grl.yes 5 (v := ?_) rfl (by kernel_rfl) (by kernel_rfl) (by kernel_rfl) (fun _ _ _ h => h) (by kernel_rfl) ?_ (by assumption) ?_
            rotate_left
            · (intro w hSw; (try dsimp only at hSw); go_simp; try with_reducible rfl)
            simp only [Act.put, List.setIfInBounds_toArray, List.set_cons_zero, List.set_cons_succ]
            refine Grl.yes 6 (v := ?_) rfl (by kernel_rfl) (by kernel_rfl) (by kernel_rfl) (fun _ _ _ h => h) (by kernel_rfl) ?_ (by assumption) ?_
            rotate_left
            · (intro w hSw; (try dsimp only at hSw); go_simp; try with_reducible rfl)
            simp only [Act.put, List.setIfInBounds_toArray, List.set_cons_zero, List.set_cons_succ]
            refine Grl.yes 7 (v := ?_) rfl (by kernel_rfl) (by kernel_rfl) (by kernel_rfl) (fun _ _ _ h => h) (by kernel_rfl) ?_ (by assumption) ?_
            rotate_left
            · (intro w hSw; (try dsimp only at hSw); go_simp; try with_reducible rfl)
            simp only [Act.put, List.setIfInBounds_toArray, List.set_cons_zero, List.set_cons_succ]
            refine Grl.one 8 rfl (by kernel_rfl) (fun K hK => ?_)
            go_simp
            skip
            refine hK.out _ _ (by exact unhide HS _ gC) (fun hHeld => ?_)
            clear hK K
            refine Grl.one 9 rfl (by kernel_rfl) (fun K hK => ?_)
            go_simp
            skip
            refine hK.out _ _ (by exact unhide HS _ gy) (fun hHeld => ?_)
            clear hK K
            refine Grl.yes 10 (v := ?_) rfl (by kernel_rfl) (by kernel_rfl) (by kernel_rfl) (fun _ _ _ h => h) (by kernel_rfl) ?_ (by assumption) ?_
            rotate_left
            · (intro w hSw; (try dsimp only at hSw); go_simp; try with_reducible rfl)
            simp only [Act.put, List.setIfInBounds_toArray, List.set_cons_zero, List.set_cons_succ]
            refine wpAnyH_done (by kernel_rfl) ?_ _
            have hzy := on25.size
            have TW := hide (show Tab.TabAt w.heap.size (w1.heap.size + 1) (w5.heap.size) y24 ra2 rl2 rq2 R2 H2 F2 from ⟨so24, ((((hown.below bC)).zone (Zone.of_only on25 (Nat.le_refl _) (Nat.lt_succ_self _)) (.inl (Nat.le_refl _))).isF).mono (by omega), hT2⟩)
            have TT := hide (hTab.grown gy hrr)
            have RZy := hide (own_kept (unhide HZ) gy hrl)
            have RDy := hide (show Rd y24 rb p3 from (r5.below bC).grown (grown_only on25) (fun j hj => by cases hj; omega))
            have gyw := grown_trans hg gy
            have hq7a : w1.heap.size < w5.heap.size := by omega
            clear so24 on25 gy
            go_wp2_with fail
            go_meet
            exact ⟨_, k2, R2, H2, F2, ra2, rl2, rq2, p3, rfl, rfl, by omega, hq7a, TW, TT, RZy, unhide RDy, gyw⟩
          · go_simp
            skip
            refine hK.out _ _ (by exact unhide HS _ gA2) (fun hHeld => ?_)
            clear hK K
            refine Grl.one 4 rfl (by kernel_rfl) (fun K hK => ?_)
            go_simp
            go_wp2_with (refine (Tab.l6add (w := wB) ra rl rq H F (hTab.grown gA2 hrr).2.1.is hB (hEo.is.below bB) (ent_okay hEn)).mono ?_; rintro e w5 ⟨r2, rfl, hown, b5⟩; obtain ⟨ra2, rl2, rq2, rfl⟩ := hown.form; have hT2 := Tab.addE_tab (b := zs) hB; obtain ⟨⟨⟨R2, H2, F2⟩, k2⟩, ha2⟩ : ∃ x, x = Tab.addE (L, H, F) zs := ⟨_, rfl⟩; rw [← ha2] at hown hT2 ⊢; have g5 : wr.grownBy w5 (some rb) := grown_trans gA2 (grown_below b5); have r5 := (r3.below bB).below b5; have P5 := own_below PB b5; have sd26 : w5.cell? ⟨w3.heap.size, 0, none⟩ = some (.slice none 0 0) := (by rw [P5.cellAt 0 (by omega)]; rfl); have sf26 := P5.frozenAt 0; have ss26 := (P5.stored 0 (.slice ra2 rl2 rq2)).1; obtain ⟨y26, hy26⟩ : ∃ w', w5.setCell ⟨w3.heap.size, 0, none⟩ (.slice ra2 rl2 rq2) = w' := ⟨_, rfl⟩; rw [hy26] at ss26; have so26 : y26.ownsRow w.heap.size 30 3 (.slice (some ⟨w3.heap.size, 0, none⟩) 1 1) 1 [.slice ra2 rl2 rq2, .int .i64 0, .int .i64 0] := ss26; clear ss26; have sd27 : y26.cell? ⟨w3.heap.size, 1, none⟩ = some (.int .i64 0) := (by rw [so26.cellAt 1 (by omega)]; rfl); have sf27 := so26.frozenAt 1; have ss27 := (so26.stored 1 (.int .i64 H2)).1; obtain ⟨y27, hy27⟩ : ∃ w', y26.setCell ⟨w3.heap.size, 1, none⟩ (.int .i64 H2) = w' := ⟨_, rfl⟩; rw [hy27] at ss27; have so27 : y27.ownsRow w.heap.size 30 3 (.slice (some ⟨w3.heap.size, 0, none⟩) 1 1) 1 [.slice ra2 rl2 rq2, .int .i64 H2, .int .i64 0] := ss27; clear ss27; have sd28 : y27.cell? ⟨w3.heap.size, 2, none⟩ = some (.int .i64 0) := (by rw [so27.cellAt 2 (by omega)]; rfl); have sf28 := so27.frozenAt 2; have ss28 := (so27.stored 2 (.int .i64 F2)).1; obtain ⟨y28, hy28⟩ : ∃ w', y27.setCell ⟨w3.heap.size, 2, none⟩ (.int .i64 F2) = w' := ⟨_, rfl⟩; rw [hy28] at ss28; have so28 : y28.ownsRow w.heap.size 30 3 (.slice (some ⟨w3.heap.size, 0, none⟩) 1 1) 1 [.slice ra2 rl2 rq2, .int .i64 H2, .int .i64 F2] := ss28; clear ss28; have on29 := OnlyAt.refl (w3.heap.size) w5; have on29 := on29.setCell 0 (.slice ra2 rl2 rq2); rw [hy26] at on29; have on29 := on29.setCell 1 (.int .i64 H2); rw [hy27] at on29; have on29 := on29.setCell 2 (.int .i64 F2); rw [hy28] at on29; have gy : wr.grownBy y28 (some rb) := grown_other g5 (grown_only on29) (fun j hj => by cases hj; exact q3.size); have hside : w3.heap.size + 1 ≤ wB.heap.size := (by omega); have hz5 := b5.size; have hz3 := q3.size)
            refine hK.out _ _ (by exact unhide HS _ g5) (fun hHeld => ?_)
            clear hK K
            refine Grl.yes 5 (v := ?_) rfl (by kernel_rfl) (by kernel_rfl) (by kernel_rfl) (fun _ _ _ h => h) (by kernel_rfl) ?_ (by assumption) ?_
            rotate_left
            · (intro w hSw; (try dsimp only at hSw); go_simp; try with_reducible rfl)
            simp only [Act.put, List.setIfInBounds_toArray, List.set_cons_zero, List.set_cons_succ]
            refine Grl.yes 6 (v := ?_) rfl (by kernel_rfl) (by kernel_rfl) (by kernel_rfl) (fun _ _ _ h => h) (by kernel_rfl) ?_ (by assumption) ?_
            rotate_left
            · (intro w hSw; (try dsimp only at hSw); go_simp; try with_reducible rfl)
            simp only [Act.put, List.setIfInBounds_toArray, List.set_cons_zero, List.set_cons_succ]
            refine Grl.yes 7 (v := ?_) rfl (by kernel_rfl) (by kernel_rfl) (by kernel_rfl) (fun _ _ _ h => h) (by kernel_rfl) ?_ (by assumption) ?_
            rotate_left
            · (intro w hSw; (try dsimp only at hSw); go_simp; try with_reducible rfl)
            simp only [Act.put, List.setIfInBounds_toArray, List.set_cons_zero, List.set_cons_succ]
            refine Grl.one 9 rfl (by kernel_rfl) (fun K hK => ?_)
            go_simp
            skip
            refine hK.out _ _ (by exact unhide HS _ gy) (fun hHeld => ?_)
            clear hK K
            refine Grl.yes 10 (v := ?_) rfl (by kernel_rfl) (by kernel_rfl) (by kernel_rfl) (fun _ _ _ h => h) (by kernel_rfl) ?_ (by assumption) ?_
            rotate_left
            · (intro w hSw; (try dsimp only at hSw); go_simp; try with_reducible rfl)
            simp only [Act.put, List.setIfInBounds_toArray, List.set_cons_zero, List.set_cons_succ]
            refine wpAnyH_done (by kernel_rfl) ?_ _
            have hzy := on29.size
            have TW := hide (show Tab.TabAt w.heap.size (w1.heap.size + 1) (w3.heap.size) y28 ra2 rl2 rq2 R2 H2 F2 from ⟨so28, (((hown).zone (Zone.of_only on29 (Nat.le_refl _) (Nat.lt_succ_self _)) (.inr hside)).isF).mono (by omega), hT2⟩)
            have TT := hide (hTab.grown gy hrr)
            have RZy := hide (own_kept (unhide HZ) gy hrl)
            have RDy := hide (show Rd y28 rb p3 from r5.grown (grown_only on29) (fun j hj => by cases hj; omega))
            have gyw := grown_trans hg gy
            have hq7a : w1.heap.size < w3.heap.size := by omega
            clear so28 on29 gy
            go_wp2_with fail
            go_meet
            exact ⟨_, k2, R2, H2, F2, ra2, rl2, rq2, p3, rfl, rfl, by omega, hq7a, TW, TT, RZy, unhide RDy, gyw⟩
        · go_simp
          skip
          refine hK.out _ _ (by exact unhide HS _ gA) (fun hHeld => ?_)
          clear hK K
          refine Grl.one 3 rfl (by kernel_rfl) (fun K hK => ?_)
          go_simp
          go_wp2_with (refine (batch_any rb p' now _ rA (by omega) (by omega) (by omega)).mono ?_; rintro e w3 ⟨zs, bv, rfl, hEn, hEo, ⟨p3, hp3, r3⟩, g3⟩; have q3 : wr.grownBy w3 (some rb) := grown_trans gA g3; obtain ⟨ba, bl, bq, rfl⟩ : ∃ a l q, bv = .slice a l q := (by obtain ⟨cs, -, hL, -⟩ := hEo.is; obtain ⟨-, a, q, e, -⟩ := hL; exact ⟨a, _, q, e⟩))
          refine hK.out _ _ (by exact unhide HS _ q3) (fun hHeld => ?_)
          clear hK K
          refine Grl.one 4 rfl (by kernel_rfl) (fun K hK => ?_)
          go_simp
          go_wp2_with (refine (Tab.l6add (w := w3) ra rl rq H F (hTab.grown q3 hrr).2.1.is hB hEo.is (ent_okay hEn)).mono ?_; rintro e w5 ⟨r2, rfl, hown, b5⟩; obtain ⟨ra2, rl2, rq2, rfl⟩ := hown.form; have hT2 := Tab.addE_tab (b := zs) hB; obtain ⟨⟨⟨R2, H2, F2⟩, k2⟩, ha2⟩ : ∃ x, x = Tab.addE (L, H, F) zs := ⟨_, rfl⟩; rw [← ha2] at hown hT2 ⊢; have g5 : wr.grownBy w5 (some rb) := grown_trans q3 (grown_below b5); have r5 := r3.below b5; have P5 := own_below (own_kept PA g3 hrl) b5; have hq7 : wr.heap.size < w3.heap.size := (by have := g3.size; omega); have sd30 : w5.cell? ⟨wr.heap.size, 0, none⟩ = some (.slice none 0 0) := (by rw [P5.cellAt 0 (by omega)]; rfl); have sf30 := P5.frozenAt 0; have ss30 := (P5.stored 0 (.slice ra2 rl2 rq2)).1; obtain ⟨y30, hy30⟩ : ∃ w', w5.setCell ⟨wr.heap.size, 0, none⟩ (.slice ra2 rl2 rq2) = w' := ⟨_, rfl⟩; rw [hy30] at ss30; have so30 : y30.ownsRow w.heap.size 30 3 (.slice (some ⟨wr.heap.size, 0, none⟩) 1 1) 1 [.slice ra2 rl2 rq2, .int .i64 0, .int .i64 0] := ss30; clear ss30; have sd31 : y30.cell? ⟨wr.heap.size, 1, none⟩ = some (.int .i64 0) := (by rw [so30.cellAt 1 (by omega)]; rfl); have sf31 := so30.frozenAt 1; have ss31 := (so30.stored 1 (.int .i64 H2)).1; obtain ⟨y31, hy31⟩ : ∃ w', y30.setCell ⟨wr.heap.size, 1, none⟩ (.int .i64 H2) = w' := ⟨_, rfl⟩; rw [hy31] at ss31; have so31 : y31.ownsRow w.heap.size 30 3 (.slice (some ⟨wr.heap.size, 0, none⟩) 1 1) 1 [.slice ra2 rl2 rq2, .int .i64 H2, .int .i64 0] := ss31; clear ss31; have sd32 : y31.cell? ⟨wr.heap.size, 2, none⟩ = some (.int .i64 0) := (by rw [so31.cellAt 2 (by omega)]; rfl); have sf32 := so31.frozenAt 2; have ss32 := (so31.stored 2 (.int .i64 F2)).1; obtain ⟨y32, hy32⟩ : ∃ w', y31.setCell ⟨wr.heap.size, 2, none⟩ (.int .i64 F2) = w' := ⟨_, rfl⟩; rw [hy32] at ss32; have so32 : y32.ownsRow w.heap.size 30 3 (.slice (some ⟨wr.heap.size, 0, none⟩) 1 1) 1 [.slice ra2 rl2 rq2, .int .i64 H2, .int .i64 F2] := ss32; clear ss32; have on33 := OnlyAt.refl (wr.heap.size) w5; have on33 := on33.setCell 0 (.slice ra2 rl2 rq2); rw [hy30] at on33; have on33 := on33.setCell 1 (.int .i64 H2); rw [hy31] at on33; have on33 := on33.setCell 2 (.int .i64 F2); rw [hy32] at on33; have gy : wr.grownBy y32 (some rb) := grown_other g5 (grown_only on33) (fun j hj => by cases hj; exact Nat.le_refl _); have hside : (wr.heap.size + 1 ≤ w3.heap.size) := hq7; have hz5 := b5.size; have hz3 := q3.size)
          refine hK.out _ _ (by exact unhide HS _ g5) (fun hHeld => ?_)
          clear hK K
          refine Grl.yes 5 (v := ?_) rfl (by kernel_rfl) (by kernel_rfl) (by kernel_rfl) (fun _ _ _ h => h) (by kernel_rfl) ?_ (by assumption) ?_
          rotate_left
          · (intro w hSw; (try dsimp only at hSw); go_simp; try with_reducible rfl)
          simp only [Act.put, List.setIfInBounds_toArray, List.set_cons_zero, List.set_cons_succ]
          refine Grl.yes 6 (v := ?_) rfl (by kernel_rfl) (by kernel_rfl) (by kernel_rfl) (fun _ _ _ h => h) (by kernel_rfl) ?_ (by assumption) ?_
          rotate_left
          · (intro w hSw; (try dsimp only at hSw); go_simp; try with_reducible rfl)
          simp only [Act.put, List.setIfInBounds_toArray, List.set_cons_zero, List.set_cons_succ]
          refine Grl.yes 7 (v := ?_) rfl (by kernel_rfl) (by kernel_rfl) (by kernel_rfl) (fun _ _ _ h => h) (by kernel_rfl) ?_ (by assumption) ?_
          rotate_left
          · (intro w hSw; (try dsimp only at hSw); go_simp; try with_reducible rfl)
          simp only [Act.put, List.setIfInBounds_toArray, List.set_cons_zero, List.set_cons_succ]
          refine Grl.one 9 rfl (by kernel_rfl) (fun K hK => ?_)
          go_simp
          skip
          refine hK.out _ _ (by exact unhide HS _ gy) (fun hHeld => ?_)
          clear hK K
          refine Grl.yes 10 (v := ?_) rfl (by kernel_rfl) (by kernel_rfl) (by kernel_rfl) (fun _ _ _ h => h) (by kernel_rfl) ?_ (by assumption) ?_
          rotate_left
          · (intro w hSw; (try dsimp only at hSw); go_simp; try with_reducible rfl)
          simp only [Act.put, List.setIfInBounds_toArray, List.set_cons_zero, List.set_cons_succ]
          refine wpAnyH_done (by kernel_rfl) ?_ _
          have hzy := on33.size
          have TW := hide (show Tab.TabAt w.heap.size (w1.heap.size + 1) (wr.heap.size) y32 ra2 rl2 rq2 R2 H2 F2 from ⟨so32, (((hown).zone (Zone.of_only on33 (Nat.le_refl _) (Nat.lt_succ_self _)) (.inr hside)).isF).mono (by omega), hT2⟩)
          have TT := hide (hTab.grown gy hrr)
          have RZy := hide (own_kept (unhide HZ) gy hrl)
          have RDy := hide (show Rd y32 rb p3 from r5.grown (grown_only on33) (fun j hj => by cases hj; omega))
          have gyw := grown_trans hg gy
          have hq7a : w1.heap.size < wr.heap.size := by omega
          clear so32 on33 gy
          go_wp2_with fail
          go_meet
          exact ⟨_, k2, R2, H2, F2, ra2, rl2, rq2, p3, rfl, rfl, by omega, hq7a, TW, TT, RZy, unhide RDy, gyw⟩
      case rest =>
      obtain ⟨q7, k2, R2, H2, F2, ra2, rl2, rq2, p3, rfl, rfl, hp3, hq7, TW, TT, RZc, rdc, gc⟩ := hcut
      clear hTab hB HS wA hwA bA zA PA gA rA gD rD HT HZ hrd hg
      by_cases hk2 : k2 = 0
      · subst hk2
        have v0 : wc.cell? ⟨q7, 0, none⟩ = some (.slice ra2 rl2 rq2) := by rw [(unhide TW).1.cellAt 0 (by omega)]; rfl
        have v1 : wc.cell? ⟨q7, 1, none⟩ = some (.int .i64 H2) := by rw [(unhide TW).1.cellAt 1 (by omega)]; rfl
        have v2 : wc.cell? ⟨q7, 2, none⟩ = some (.int .i64 F2) := by rw [(unhide TW).1.cellAt 2 (by omega)]; rfl
        have P4 := (unhide TT).1
        have sd34 : wc.cell? ⟨w1.heap.size, 0, none⟩ = some (.slice ra rl rq) := by rw [P4.cellAt 0 (by omega)]; rfl
        have sf34 := P4.frozenAt 0
        have ss34 := (P4.stored 0 (.slice ra2 rl2 rq2)).1
        obtain ⟨y34, hy34⟩ : ∃ w', wc.setCell ⟨w1.heap.size, 0, none⟩ (.slice ra2 rl2 rq2) = w' := ⟨_, rfl⟩
        rw [hy34] at ss34
        have so34 : y34.ownsRow w.heap.size 30 3 (.slice (some ⟨w1.heap.size, 0, none⟩) 1 1) 1 [.slice ra2 rl2 rq2, .int .i64 H, .int .i64 F] := ss34
        clear ss34
        have sd35 : y34.cell? ⟨w1.heap.size, 1, none⟩ = some (.int .i64 H) := by rw [so34.cellAt 1 (by omega)]; rfl
        have sf35 := so34.frozenAt 1
        have ss35 := (so34.stored 1 (.int .i64 H2)).1
        obtain ⟨y35, hy35⟩ : ∃ w', y34.setCell ⟨w1.heap.size, 1, none⟩ (.int .i64 H2) = w' := ⟨_, rfl⟩
        rw [hy35] at ss35
        have so35 : y35.ownsRow w.heap.size 30 3 (.slice (some ⟨w1.heap.size, 0, none⟩) 1 1) 1 [.slice ra2 rl2 rq2, .int .i64 H2, .int .i64 F] := ss35
        clear ss35
        have sd36 : y35.cell? ⟨w1.heap.size, 2, none⟩ = some (.int .i64 F) := by rw [so35.cellAt 2 (by omega)]; rfl
        have sf36 := so35.frozenAt 2
        have ss36 := (so35.stored 2 (.int .i64 F2)).1
        obtain ⟨y36, hy36⟩ : ∃ w', y35.setCell ⟨w1.heap.size, 2, none⟩ (.int .i64 F2) = w' := ⟨_, rfl⟩
        rw [hy36] at ss36
        have so36 : y36.ownsRow w.heap.size 30 3 (.slice (some ⟨w1.heap.size, 0, none⟩) 1 1) 1 [.slice ra2 rl2 rq2, .int .i64 H2, .int .i64 F2] := ss36
        clear ss36
        have on37 := OnlyAt.refl (w1.heap.size) wc
        have on37 := on37.setCell 0 (.slice ra2 rl2 rq2)
        rw [hy34] at on37
        have v1_1 : y34.cell? ⟨q7, 1, none⟩ = some (.int .i64 H2) := (World.cell?_of_block (a := ⟨q7, 1, none⟩) (on37.block q7 (by omega))).trans v1
        have v2_1 : y34.cell? ⟨q7, 2, none⟩ = some (.int .i64 F2) := (World.cell?_of_block (a := ⟨q7, 2, none⟩) (on37.block q7 (by omega))).trans v2
        clear on37
        have on38 := OnlyAt.refl (w1.heap.size) wc
        have on38 := on38.setCell 0 (.slice ra2 rl2 rq2)
        rw [hy34] at on38
        have on38 := on38.setCell 1 (.int .i64 H2)
        rw [hy35] at on38
        have v2_2 : y35.cell? ⟨q7, 2, none⟩ = some (.int .i64 F2) := (World.cell?_of_block (a := ⟨q7, 2, none⟩) (on38.block q7 (by omega))).trans v2
        clear on38
        have on39 := OnlyAt.refl (w1.heap.size) wc
        have on39 := on39.setCell 0 (.slice ra2 rl2 rq2)
        rw [hy34] at on39
        have on39 := on39.setCell 1 (.int .i64 H2)
        rw [hy35] at on39
        have on39 := on39.setCell 2 (.int .i64 F2)
        rw [hy36] at on39
        have TY := hide (show Tab.TabAt w.heap.size (w1.heap.size + 1) w1.heap.size y36 ra2 rl2 rq2 R2 H2 F2 from ⟨so36, (unhide TW).2.1.only on39 (Nat.lt_succ_self _), (unhide TW).2.2⟩)
        have hwz : w.heap.size < w1.heap.size := by omega
        have RZy := hide (on39.own (unhide RZc) (fun k hk => by simp only [Value.ownBlock, Option.some.injEq] at hk; omega))
        have ry : Rd y36 rb p3 := rdc.grown (grown_only on39) (fun j hj => by cases hj; omega)
        have gy := grown_other gc (grown_only on39) (fun j hj => by cases hj; omega)
        clear so36 on39 P4 TT TW RZc rdc gc
        have hone := one_new rb p3 [0, 5, 30, 120] y36 ry (by omega) (by simp) (by simp)
        simp only [List.map_cons, List.map_nil, List.length_cons, List.length_nil, Nat.zero_add, Nat.reduceAdd] at hone
        have HOne := hide hone
        clear hone
        go_wp2_with fail
        refine (unhide HOne).mono ?_
        rintro e w5 ⟨d, rfl, hd, r5, g5⟩
        have hd' : 0 ≤ d ∧ d ≤ 120 := by simp only [List.mem_cons, List.not_mem_nil, or_false] at hd; omega
        have T5 := hide ((unhide TY).grown g5 hrr)
        have RZ5 := hide (own_kept (unhide RZy) g5 hrl)
        have q5 := grown_trans gy g5
        obtain ⟨now2, hnow2⟩ : ∃ x, now + d = x := ⟨_, rfl⟩
        have hw2 : wrap64 now2 = now2 := IntWalk.wrap64_in now2 ⟨by omega, by omega⟩
        have hnb : 0 ≤ now2 ∧ now2 ≤ now + 120 := by omega
        clear hd HOne g5
        go_wp2_with fail
        refine (pick_any rb (p3 + 1) _ _ r5 (by omega) (by omega)).mono ?_
        rintro e w6 ⟨c, rfl, c0, c1, -, r6, g6⟩
        have T6 := hide ((unhide T5).grown g6 hrr)
        have RZ6 := hide (own_kept (unhide RZ5) g6 hrl)
        have q6 := grown_trans q5 g6
        have zD6 : w1.heap.size + 1 ≤ w6.heap.size := by have := q6.size; have := (unhide T6).1; have hl := own_lt this; omega
        clear T5 RZ5 q5 r5 g6 c1 hnow2
        by_cases hc : c = 0
        · subst hc
          have hTab6 := unhide T6
          have HS6 := hide (fun (X : World) (gx : w6.grownBy X (some rb)) => show (fun X : World => X.cell? ⟨w1.heap.size, 0, none⟩ = some (.slice ra2 rl2 rq2) ∧ X.cell? ⟨w1.heap.size, 1, none⟩ = some (.int .i64 H2) ∧ X.cell? ⟨w1.heap.size, 2, none⟩ = some (.int .i64 F2)) X from
            have hy := own_kept hTab6.1 gx hrl
            ⟨by rw [hy.cellAt 0 (by omega)]; rfl, by rw [hy.cellAt 1 (by omega)]; rfl, by rw [hy.cellAt 2 (by omega)]; rfl⟩)
          have gD6 : w6.grownBy w6.drew (some rb) := grown_below ((Below.refl _ _).drew)
          have rD6 : Rd w6.drew rb (p3 + 1 + 1) := rd_drew r6
          obtain ⟨wI, hwI⟩ : ∃ w', w6.drew.alloc (.cells #[.int .i64 0, .int .i64 100, .int .i64 300] 3) = w' := ⟨_, rfl⟩
          have gI : w6.grownBy wI (some rb) := grown_trans gD6 (grown_below (by rw [← hwI]; exact (Below.refl _ _).alloc (Nat.le_refl _) _))
          have hone := one_new rb (p3 + 1 + 1) [0, 100, 300] w6.drew rD6 (by omega) (by simp) (by simp)
          simp only [List.map_cons, List.map_nil, List.length_cons, List.length_nil, Nat.zero_add, Nat.reduceAdd] at hone
          rw [hwI] at hone
          have HOne6 := hide hone
          have hcD := unhide HS6 w6.drew gD6
          have hcI := unhide HS6 wI gI
          clear hone r6 c0
          go_wp2_with fail
          refine Grl.start (S := fun _ => True) (by kernel_rfl) (by trivial) (fun hHeld => ?_)
          refine Grl.yes 1 (v := ?_) rfl (by kernel_rfl) (by kernel_rfl) (by kernel_rfl) (fun _ _ _ h => h) (by kernel_rfl) ?_ (by assumption) ?_
          rotate_left
          · (intro w hSw; (try dsimp only at hSw); go_simp; try with_reducible rfl)
          simp only [Act.put, List.setIfInBounds_toArray, List.set_cons_zero, List.set_cons_succ]
          refine Grl.two 0 2 rfl rfl (by kernel_rfl) (fun K hK => ?_) (fun K hK => ?_)
          · go_simp
            skip
            refine hK.out _ _ (by trivial) (fun hHeld => ?_)
            clear hK K
            refine Grl.one 2 rfl (by kernel_rfl) (fun K hK => ?_)
            go_simp
            skip
            refine hK.out _ _ (by trivial) (fun hHeld => ?_)
            clear hK K
            refine Grl.one 3 rfl (by kernel_rfl) (fun K hK => ?_)
            go_simp
            go_wp2_with (refine (unhide HOne6).mono ?_; rintro e w7 ⟨age, rfl, hage, r7, g7⟩; have hage' : 0 ≤ age ∧ age ≤ 300 := (by simp only [List.mem_cons, List.not_mem_nil, or_false] at hage; omega); have gI7 : w6.grownBy w7 (some rb) := grown_trans gD6 g7; have hc7 := unhide HS6 w7 gI7)
            refine hK.out _ _ (by trivial) (fun hHeld => ?_)
            clear hK K
            refine Grl.one 4 rfl (by kernel_rfl) (fun K hK => ?_)
            go_simp
            go_wp2_with (refine (Tab.spec_keep (w := w7) age H2 F2 (by omega) (hTab6.grown gI7 hrr).2.1.is (Tab.tabB_good hTab6.2.2).1 (Tab.tabB_good hTab6.2.2).2).mono ?_; rintro e w8 ⟨r3, rfl, hown3, b8⟩; obtain ⟨ra3, rl3, rq3, rfl⟩ := hown3.form; have hT3 := Tab.keep_tab (age := age) hTab6.2.2 (by omega); obtain ⟨⟨R3, H3, F3⟩, hk3⟩ : ∃ x, x = Tab.keep age R2 H2 F2 := ⟨_, rfl⟩; rw [← hk3] at hown3 hT3 ⊢; have g8 : w6.grownBy w8 (some rb) := grown_trans gI7 (grown_below b8); have r8 := r7.below b8; have z7 := gI7.size; have P8 := own_below (own_kept hTab6.1 gI7 hrl) b8; have sd40 : w8.cell? ⟨w1.heap.size, 0, none⟩ = some (.slice ra2 rl2 rq2) := (by rw [P8.cellAt 0 (by omega)]; rfl); have sf40 := P8.frozenAt 0; have ss40 := (P8.stored 0 (.slice ra3 rl3 rq3)).1; obtain ⟨y40, hy40⟩ : ∃ w', w8.setCell ⟨w1.heap.size, 0, none⟩ (.slice ra3 rl3 rq3) = w' := ⟨_, rfl⟩; rw [hy40] at ss40; have so40 : y40.ownsRow w.heap.size 30 3 (.slice (some ⟨w1.heap.size, 0, none⟩) 1 1) 1 [.slice ra3 rl3 rq3, .int .i64 H2, .int .i64 F2] := ss40; clear ss40; have sd41 : y40.cell? ⟨w1.heap.size, 1, none⟩ = some (.int .i64 H2) := (by rw [so40.cellAt 1 (by omega)]; rfl); have sf41 := so40.frozenAt 1; have ss41 := (so40.stored 1 (.int .i64 H3)).1; obtain ⟨y41, hy41⟩ : ∃ w', y40.setCell ⟨w1.heap.size, 1, none⟩ (.int .i64 H3) = w' := ⟨_, rfl⟩; rw [hy41] at ss41; have so41 : y41.ownsRow w.heap.size 30 3 (.slice (some ⟨w1.heap.size, 0, none⟩) 1 1) 1 [.slice ra3 rl3 rq3, .int .i64 H3, .int .i64 F2] := ss41; clear ss41; have sd42 : y41.cell? ⟨w1.heap.size, 2, none⟩ = some (.int .i64 F2) := (by rw [so41.cellAt 2 (by omega)]; rfl); have sf42 := so41.frozenAt 2; have ss42 := (so41.stored 2 (.int .i64 F3)).1; obtain ⟨y42, hy42⟩ : ∃ w', y41.setCell ⟨w1.heap.size, 2, none⟩ (.int .i64 F3) = w' := ⟨_, rfl⟩; rw [hy42] at ss42; have so42 : y42.ownsRow w.heap.size 30 3 (.slice (some ⟨w1.heap.size, 0, none⟩) 1 1) 1 [.slice ra3 rl3 rq3, .int .i64 H3, .int .i64 F3] := ss42; clear ss42; have on43 := OnlyAt.refl (w1.heap.size) w8; have on43 := on43.setCell 0 (.slice ra3 rl3 rq3); rw [hy40] at on43; have on43 := on43.setCell 1 (.int .i64 H3); rw [hy41] at on43; have on43 := on43.setCell 2 (.int .i64 F3); rw [hy42] at on43)
            refine hK.out _ _ (by trivial) (fun hHeld => ?_)
            clear hK K
            refine Grl.one 5 rfl (by kernel_rfl) (fun K hK => ?_)
            go_simp
            skip
            refine hK.out _ _ (by trivial) (fun hHeld => ?_)
            clear hK K
            refine wpAnyH_done (by kernel_rfl) ?_ _
            have gy := grown_other (grown_trans q6 g8) (grown_only on43) (fun j hj => by cases hj; omega)
            have ry : Rd y42 rb (p3 + 1 + 1 + 1) := r8.grown (grown_only on43) (fun j hj => by cases hj; omega)
            have TY := hide (show Tab.TabAt w.heap.size (w1.heap.size + 1) w1.heap.size y42 ra3 rl3 rq3 R3 H3 F3 from ⟨so42, (hown3.isF.mono (by omega)).only on43 (Nat.lt_succ_self _), hT3⟩)
            have RZy := hide (on43.own (own_below (own_kept (unhide RZ6) gI7 hrl) b8) (fun k hk => by simp only [Value.ownBlock, Option.some.injEq] at hk; omega))
            have zDy : w1.heap.size + 1 ≤ y42.heap.size := by have := on43.size; have := b8.size; omega
            clear so42 on43 hTab6 HS6 T6 RZ6 hown3
            go_wp2_with fail
            go_roundw
            case rel => exact ⟨k - 1, now2, R3, H3, F3, ra3, rl3, rq3, p3 + 1 + 1 + 1, rfl, by go_num, by omega, by omega, TY, RZy, ry, gy, zDy⟩
            case measure => first | (simp [intOf]; done) | (simp [intOf]; omega)
          · go_simp
            skip
            refine hK.out _ _ (by trivial) (fun hHeld => ?_)
            clear hK K
            refine Grl.two 0 3 rfl rfl (by kernel_rfl) (fun K hK => ?_) (fun K hK => ?_)
            · go_simp
              skip
              refine hK.out _ _ (by trivial) (fun hHeld => ?_)
              clear hK K
              refine Grl.one 3 rfl (by kernel_rfl) (fun K hK => ?_)
              go_simp
              go_wp2_with (refine (unhide HOne6).mono ?_; rintro e w7 ⟨age, rfl, hage, r7, g7⟩; have hage' : 0 ≤ age ∧ age ≤ 300 := (by simp only [List.mem_cons, List.not_mem_nil, or_false] at hage; omega); have gI7 : w6.grownBy w7 (some rb) := grown_trans gD6 g7; have hc7 := unhide HS6 w7 gI7)
              refine hK.out _ _ (by trivial) (fun hHeld => ?_)
              clear hK K
              refine Grl.one 4 rfl (by kernel_rfl) (fun K hK => ?_)
              go_simp
              go_wp2_with (refine (Tab.spec_keep (w := w7) age H2 F2 (by omega) (hTab6.grown gI7 hrr).2.1.is (Tab.tabB_good hTab6.2.2).1 (Tab.tabB_good hTab6.2.2).2).mono ?_; rintro e w8 ⟨r3, rfl, hown3, b8⟩; obtain ⟨ra3, rl3, rq3, rfl⟩ := hown3.form; have hT3 := Tab.keep_tab (age := age) hTab6.2.2 (by omega); obtain ⟨⟨R3, H3, F3⟩, hk3⟩ : ∃ x, x = Tab.keep age R2 H2 F2 := ⟨_, rfl⟩; rw [← hk3] at hown3 hT3 ⊢; have g8 : w6.grownBy w8 (some rb) := grown_trans gI7 (grown_below b8); have r8 := r7.below b8; have z7 := gI7.size; have P8 := own_below (own_kept hTab6.1 gI7 hrl) b8; have sd48 : w8.cell? ⟨w1.heap.size, 0, none⟩ = some (.slice ra2 rl2 rq2) := (by rw [P8.cellAt 0 (by omega)]; rfl); have sf48 := P8.frozenAt 0; have ss48 := (P8.stored 0 (.slice ra3 rl3 rq3)).1; obtain ⟨y48, hy48⟩ : ∃ w', w8.setCell ⟨w1.heap.size, 0, none⟩ (.slice ra3 rl3 rq3) = w' := ⟨_, rfl⟩; rw [hy48] at ss48; have so48 : y48.ownsRow w.heap.size 30 3 (.slice (some ⟨w1.heap.size, 0, none⟩) 1 1) 1 [.slice ra3 rl3 rq3, .int .i64 H2, .int .i64 F2] := ss48; clear ss48; have sd49 : y48.cell? ⟨w1.heap.size, 1, none⟩ = some (.int .i64 H2) := (by rw [so48.cellAt 1 (by omega)]; rfl); have sf49 := so48.frozenAt 1; have ss49 := (so48.stored 1 (.int .i64 H3)).1; obtain ⟨y49, hy49⟩ : ∃ w', y48.setCell ⟨w1.heap.size, 1, none⟩ (.int .i64 H3) = w' := ⟨_, rfl⟩; rw [hy49] at ss49; have so49 : y49.ownsRow w.heap.size 30 3 (.slice (some ⟨w1.heap.size, 0, none⟩) 1 1) 1 [.slice ra3 rl3 rq3, .int .i64 H3, .int .i64 F2] := ss49; clear ss49; have sd50 : y49.cell? ⟨w1.heap.size, 2, none⟩ = some (.int .i64 F2) := (by rw [so49.cellAt 2 (by omega)]; rfl); have sf50 := so49.frozenAt 2; have ss50 := (so49.stored 2 (.int .i64 F3)).1; obtain ⟨y50, hy50⟩ : ∃ w', y49.setCell ⟨w1.heap.size, 2, none⟩ (.int .i64 F3) = w' := ⟨_, rfl⟩; rw [hy50] at ss50; have so50 : y50.ownsRow w.heap.size 30 3 (.slice (some ⟨w1.heap.size, 0, none⟩) 1 1) 1 [.slice ra3 rl3 rq3, .int .i64 H3, .int .i64 F3] := ss50; clear ss50; have on51 := OnlyAt.refl (w1.heap.size) w8; have on51 := on51.setCell 0 (.slice ra3 rl3 rq3); rw [hy48] at on51; have on51 := on51.setCell 1 (.int .i64 H3); rw [hy49] at on51; have on51 := on51.setCell 2 (.int .i64 F3); rw [hy50] at on51)
              refine hK.out _ _ (by trivial) (fun hHeld => ?_)
              clear hK K
              refine Grl.one 5 rfl (by kernel_rfl) (fun K hK => ?_)
              go_simp
              skip
              refine hK.out _ _ (by trivial) (fun hHeld => ?_)
              clear hK K
              refine wpAnyH_done (by kernel_rfl) ?_ _
              have gy := grown_other (grown_trans q6 g8) (grown_only on51) (fun j hj => by cases hj; omega)
              have ry : Rd y50 rb (p3 + 1 + 1 + 1) := r8.grown (grown_only on51) (fun j hj => by cases hj; omega)
              have TY := hide (show Tab.TabAt w.heap.size (w1.heap.size + 1) w1.heap.size y50 ra3 rl3 rq3 R3 H3 F3 from ⟨so50, (hown3.isF.mono (by omega)).only on51 (Nat.lt_succ_self _), hT3⟩)
              have RZy := hide (on51.own (own_below (own_kept (unhide RZ6) gI7 hrl) b8) (fun k hk => by simp only [Value.ownBlock, Option.some.injEq] at hk; omega))
              have zDy : w1.heap.size + 1 ≤ y50.heap.size := by have := on51.size; have := b8.size; omega
              clear so50 on51 hTab6 HS6 T6 RZ6 hown3
              go_wp2_with fail
              go_roundw
              case rel => exact ⟨k - 1, now2, R3, H3, F3, ra3, rl3, rq3, p3 + 1 + 1 + 1, rfl, by go_num, by omega, by omega, TY, RZy, ry, gy, zDy⟩
              case measure => first | (simp [intOf]; done) | (simp [intOf]; omega)
            · go_simp
              go_wp2_with (refine (unhide HOne6).mono ?_; rintro e w7 ⟨age, rfl, hage, r7, g7⟩; have hage' : 0 ≤ age ∧ age ≤ 300 := (by simp only [List.mem_cons, List.not_mem_nil, or_false] at hage; omega); have gI7 : w6.grownBy w7 (some rb) := grown_trans gD6 g7; have hc7 := unhide HS6 w7 gI7)
              refine hK.out _ _ (by trivial) (fun hHeld => ?_)
              clear hK K
              refine Grl.one 0 rfl (by kernel_rfl) (fun K hK => ?_)
              go_simp
              skip
              refine hK.out _ _ (by trivial) (fun hHeld => ?_)
              clear hK K
              refine Grl.one 4 rfl (by kernel_rfl) (fun K hK => ?_)
              go_simp
              go_wp2_with (refine (Tab.spec_keep (w := w7) age H2 F2 (by omega) (hTab6.grown gI7 hrr).2.1.is (Tab.tabB_good hTab6.2.2).1 (Tab.tabB_good hTab6.2.2).2).mono ?_; rintro e w8 ⟨r3, rfl, hown3, b8⟩; obtain ⟨ra3, rl3, rq3, rfl⟩ := hown3.form; have hT3 := Tab.keep_tab (age := age) hTab6.2.2 (by omega); obtain ⟨⟨R3, H3, F3⟩, hk3⟩ : ∃ x, x = Tab.keep age R2 H2 F2 := ⟨_, rfl⟩; rw [← hk3] at hown3 hT3 ⊢; have g8 : w6.grownBy w8 (some rb) := grown_trans gI7 (grown_below b8); have r8 := r7.below b8; have z7 := gI7.size; have P8 := own_below (own_kept hTab6.1 gI7 hrl) b8; have sd52 : w8.cell? ⟨w1.heap.size, 0, none⟩ = some (.slice ra2 rl2 rq2) := (by rw [P8.cellAt 0 (by omega)]; rfl); have sf52 := P8.frozenAt 0; have ss52 := (P8.stored 0 (.slice ra3 rl3 rq3)).1; obtain ⟨y52, hy52⟩ : ∃ w', w8.setCell ⟨w1.heap.size, 0, none⟩ (.slice ra3 rl3 rq3) = w' := ⟨_, rfl⟩; rw [hy52] at ss52; have so52 : y52.ownsRow w.heap.size 30 3 (.slice (some ⟨w1.heap.size, 0, none⟩) 1 1) 1 [.slice ra3 rl3 rq3, .int .i64 H2, .int .i64 F2] := ss52; clear ss52; have sd53 : y52.cell? ⟨w1.heap.size, 1, none⟩ = some (.int .i64 H2) := (by rw [so52.cellAt 1 (by omega)]; rfl); have sf53 := so52.frozenAt 1; have ss53 := (so52.stored 1 (.int .i64 H3)).1; obtain ⟨y53, hy53⟩ : ∃ w', y52.setCell ⟨w1.heap.size, 1, none⟩ (.int .i64 H3) = w' := ⟨_, rfl⟩; rw [hy53] at ss53; have so53 : y53.ownsRow w.heap.size 30 3 (.slice (some ⟨w1.heap.size, 0, none⟩) 1 1) 1 [.slice ra3 rl3 rq3, .int .i64 H3, .int .i64 F2] := ss53; clear ss53; have sd54 : y53.cell? ⟨w1.heap.size, 2, none⟩ = some (.int .i64 F2) := (by rw [so53.cellAt 2 (by omega)]; rfl); have sf54 := so53.frozenAt 2; have ss54 := (so53.stored 2 (.int .i64 F3)).1; obtain ⟨y54, hy54⟩ : ∃ w', y53.setCell ⟨w1.heap.size, 2, none⟩ (.int .i64 F3) = w' := ⟨_, rfl⟩; rw [hy54] at ss54; have so54 : y54.ownsRow w.heap.size 30 3 (.slice (some ⟨w1.heap.size, 0, none⟩) 1 1) 1 [.slice ra3 rl3 rq3, .int .i64 H3, .int .i64 F3] := ss54; clear ss54; have on55 := OnlyAt.refl (w1.heap.size) w8; have on55 := on55.setCell 0 (.slice ra3 rl3 rq3); rw [hy52] at on55; have on55 := on55.setCell 1 (.int .i64 H3); rw [hy53] at on55; have on55 := on55.setCell 2 (.int .i64 F3); rw [hy54] at on55)
              refine hK.out _ _ (by trivial) (fun hHeld => ?_)
              clear hK K
              refine Grl.one 5 rfl (by kernel_rfl) (fun K hK => ?_)
              go_simp
              skip
              refine hK.out _ _ (by trivial) (fun hHeld => ?_)
              clear hK K
              refine wpAnyH_done (by kernel_rfl) ?_ _
              have gy := grown_other (grown_trans q6 g8) (grown_only on55) (fun j hj => by cases hj; omega)
              have ry : Rd y54 rb (p3 + 1 + 1 + 1) := r8.grown (grown_only on55) (fun j hj => by cases hj; omega)
              have TY := hide (show Tab.TabAt w.heap.size (w1.heap.size + 1) w1.heap.size y54 ra3 rl3 rq3 R3 H3 F3 from ⟨so54, (hown3.isF.mono (by omega)).only on55 (Nat.lt_succ_self _), hT3⟩)
              have RZy := hide (on55.own (own_below (own_kept (unhide RZ6) gI7 hrl) b8) (fun k hk => by simp only [Value.ownBlock, Option.some.injEq] at hk; omega))
              have zDy : w1.heap.size + 1 ≤ y54.heap.size := by have := on55.size; have := b8.size; omega
              clear so54 on55 hTab6 HS6 T6 RZ6 hown3
              go_wp2_with fail
              go_roundw
              case rel => exact ⟨k - 1, now2, R3, H3, F3, ra3, rl3, rq3, p3 + 1 + 1 + 1, rfl, by go_num, by omega, by omega, TY, RZy, ry, gy, zDy⟩
              case measure => first | (simp [intOf]; done) | (simp [intOf]; omega)
        · have hc' : (c == 0) = false := by simp; omega
          clear hc
          go_wp2_with fail
          go_roundw
          case rel => exact ⟨k - 1, now2, R2, H2, F2, ra2, rl2, rq2, p3 + 1 + 1, rfl, by go_num, by omega, by omega, T6, RZ6, r6, q6, zD6⟩
          case measure => first | (simp [intOf]; done) | (simp [intOf]; omega)
      · have hkf : (k2 == 0) = false := by simp; exact hk2
        clear TW
        have hone := one_new rb p3 [0, 5, 30, 120] wc rdc (by omega) (by simp) (by simp)
        simp only [List.map_cons, List.map_nil, List.length_cons, List.length_nil, Nat.zero_add, Nat.reduceAdd] at hone
        have HOne := hide hone
        clear hone
        go_wp2_with fail
        refine (unhide HOne).mono ?_
        rintro e w5 ⟨d, rfl, hd, r5, g5⟩
        have hd' : 0 ≤ d ∧ d ≤ 120 := by simp only [List.mem_cons, List.not_mem_nil, or_false] at hd; omega
        have T5 := hide ((unhide TT).grown g5 hrr)
        have RZ5 := hide (own_kept (unhide RZc) g5 hrl)
        have q5 := grown_trans gc g5
        obtain ⟨now2, hnow2⟩ : ∃ x, now + d = x := ⟨_, rfl⟩
        have hw2 : wrap64 now2 = now2 := IntWalk.wrap64_in now2 ⟨by omega, by omega⟩
        have hnb : 0 ≤ now2 ∧ now2 ≤ now + 120 := by omega
        clear hd HOne g5
        go_wp2_with fail
        refine (pick_any rb (p3 + 1) _ _ r5 (by omega) (by omega)).mono ?_
        rintro e w6 ⟨c, rfl, c0, c1, -, r6, g6⟩
        have T6 := hide ((unhide T5).grown g6 hrr)
        have RZ6 := hide (own_kept (unhide RZ5) g6 hrl)
        have q6 := grown_trans q5 g6
        have zD6 : w1.heap.size + 1 ≤ w6.heap.size := by have := q6.size; have := (unhide T6).1; have hl := own_lt this; omega
        clear T5 RZ5 q5 r5 g6 c1 hnow2
        by_cases hc : c = 0
        · subst hc
          have hTab6 := unhide T6
          have HS6 := hide (fun (X : World) (gx : w6.grownBy X (some rb)) => show (fun X : World => X.cell? ⟨w1.heap.size, 0, none⟩ = some (.slice ra rl rq) ∧ X.cell? ⟨w1.heap.size, 1, none⟩ = some (.int .i64 H) ∧ X.cell? ⟨w1.heap.size, 2, none⟩ = some (.int .i64 F)) X from
            have hy := own_kept hTab6.1 gx hrl
            ⟨by rw [hy.cellAt 0 (by omega)]; rfl, by rw [hy.cellAt 1 (by omega)]; rfl, by rw [hy.cellAt 2 (by omega)]; rfl⟩)
          have gD6 : w6.grownBy w6.drew (some rb) := grown_below ((Below.refl _ _).drew)
          have rD6 : Rd w6.drew rb (p3 + 1 + 1) := rd_drew r6
          obtain ⟨wI, hwI⟩ : ∃ w', w6.drew.alloc (.cells #[.int .i64 0, .int .i64 100, .int .i64 300] 3) = w' := ⟨_, rfl⟩
          have gI : w6.grownBy wI (some rb) := grown_trans gD6 (grown_below (by rw [← hwI]; exact (Below.refl _ _).alloc (Nat.le_refl _) _))
          have hone := one_new rb (p3 + 1 + 1) [0, 100, 300] w6.drew rD6 (by omega) (by simp) (by simp)
          simp only [List.map_cons, List.map_nil, List.length_cons, List.length_nil, Nat.zero_add, Nat.reduceAdd] at hone
          rw [hwI] at hone
          have HOne6 := hide hone
          have hcD := unhide HS6 w6.drew gD6
          have hcI := unhide HS6 wI gI
          clear hone r6 c0
          go_wp2_with fail
          refine Grl.start (S := fun _ => True) (by kernel_rfl) (by trivial) (fun hHeld => ?_)
          refine Grl.yes 1 (v := ?_) rfl (by kernel_rfl) (by kernel_rfl) (by kernel_rfl) (fun _ _ _ h => h) (by kernel_rfl) ?_ (by assumption) ?_
          rotate_left
          · (intro w hSw; (try dsimp only at hSw); go_simp; try with_reducible rfl)
          simp only [Act.put, List.setIfInBounds_toArray, List.set_cons_zero, List.set_cons_succ]
          refine Grl.two 0 2 rfl rfl (by kernel_rfl) (fun K hK => ?_) (fun K hK => ?_)
          · go_simp
            skip
            refine hK.out _ _ (by trivial) (fun hHeld => ?_)
            clear hK K
            refine Grl.one 2 rfl (by kernel_rfl) (fun K hK => ?_)
            go_simp
            skip
            refine hK.out _ _ (by trivial) (fun hHeld => ?_)
            clear hK K
            refine Grl.one 3 rfl (by kernel_rfl) (fun K hK => ?_)
            go_simp
            go_wp2_with (refine (unhide HOne6).mono ?_; rintro e w7 ⟨age, rfl, hage, r7, g7⟩; have hage' : 0 ≤ age ∧ age ≤ 300 := (by simp only [List.mem_cons, List.not_mem_nil, or_false] at hage; omega); have gI7 : w6.grownBy w7 (some rb) := grown_trans gD6 g7; have hc7 := unhide HS6 w7 gI7)
            refine hK.out _ _ (by trivial) (fun hHeld => ?_)
            clear hK K
            refine Grl.one 4 rfl (by kernel_rfl) (fun K hK => ?_)
            go_simp
            go_wp2_with (refine (Tab.spec_keep (w := w7) age H F (by omega) (hTab6.grown gI7 hrr).2.1.is (Tab.tabB_good hTab6.2.2).1 (Tab.tabB_good hTab6.2.2).2).mono ?_; rintro e w8 ⟨r3, rfl, hown3, b8⟩; obtain ⟨ra3, rl3, rq3, rfl⟩ := hown3.form; have hT3 := Tab.keep_tab (age := age) hTab6.2.2 (by omega); obtain ⟨⟨R3, H3, F3⟩, hk3⟩ : ∃ x, x = Tab.keep age L H F := ⟨_, rfl⟩; rw [← hk3] at hown3 hT3 ⊢; have g8 : w6.grownBy w8 (some rb) := grown_trans gI7 (grown_below b8); have r8 := r7.below b8; have z7 := gI7.size; have P8 := own_below (own_kept hTab6.1 gI7 hrl) b8; have sd56 : w8.cell? ⟨w1.heap.size, 0, none⟩ = some (.slice ra rl rq) := (by rw [P8.cellAt 0 (by omega)]; rfl); have sf56 := P8.frozenAt 0; have ss56 := (P8.stored 0 (.slice ra3 rl3 rq3)).1; obtain ⟨y56, hy56⟩ : ∃ w', w8.setCell ⟨w1.heap.size, 0, none⟩ (.slice ra3 rl3 rq3) = w' := ⟨_, rfl⟩; rw [hy56] at ss56; have so56 : y56.ownsRow w.heap.size 30 3 (.slice (some ⟨w1.heap.size, 0, none⟩) 1 1) 1 [.slice ra3 rl3 rq3, .int .i64 H, .int .i64 F] := ss56; clear ss56; have sd57 : y56.cell? ⟨w1.heap.size, 1, none⟩ = some (.int .i64 H) := (by rw [so56.cellAt 1 (by omega)]; rfl); have sf57 := so56.frozenAt 1; have ss57 := (so56.stored 1 (.int .i64 H3)).1; obtain ⟨y57, hy57⟩ : ∃ w', y56.setCell ⟨w1.heap.size, 1, none⟩ (.int .i64 H3) = w' := ⟨_, rfl⟩; rw [hy57] at ss57; have so57 : y57.ownsRow w.heap.size 30 3 (.slice (some ⟨w1.heap.size, 0, none⟩) 1 1) 1 [.slice ra3 rl3 rq3, .int .i64 H3, .int .i64 F] := ss57; clear ss57; have sd58 : y57.cell? ⟨w1.heap.size, 2, none⟩ = some (.int .i64 F) := (by rw [so57.cellAt 2 (by omega)]; rfl); have sf58 := so57.frozenAt 2; have ss58 := (so57.stored 2 (.int .i64 F3)).1; obtain ⟨y58, hy58⟩ : ∃ w', y57.setCell ⟨w1.heap.size, 2, none⟩ (.int .i64 F3) = w' := ⟨_, rfl⟩; rw [hy58] at ss58; have so58 : y58.ownsRow w.heap.size 30 3 (.slice (some ⟨w1.heap.size, 0, none⟩) 1 1) 1 [.slice ra3 rl3 rq3, .int .i64 H3, .int .i64 F3] := ss58; clear ss58; have on59 := OnlyAt.refl (w1.heap.size) w8; have on59 := on59.setCell 0 (.slice ra3 rl3 rq3); rw [hy56] at on59; have on59 := on59.setCell 1 (.int .i64 H3); rw [hy57] at on59; have on59 := on59.setCell 2 (.int .i64 F3); rw [hy58] at on59)
            refine hK.out _ _ (by trivial) (fun hHeld => ?_)
            clear hK K
            refine Grl.one 5 rfl (by kernel_rfl) (fun K hK => ?_)
            go_simp
            skip
            refine hK.out _ _ (by trivial) (fun hHeld => ?_)
            clear hK K
            refine wpAnyH_done (by kernel_rfl) ?_ _
            have gy := grown_other (grown_trans q6 g8) (grown_only on59) (fun j hj => by cases hj; omega)
            have ry : Rd y58 rb (p3 + 1 + 1 + 1) := r8.grown (grown_only on59) (fun j hj => by cases hj; omega)
            have TY := hide (show Tab.TabAt w.heap.size (w1.heap.size + 1) w1.heap.size y58 ra3 rl3 rq3 R3 H3 F3 from ⟨so58, (hown3.isF.mono (by omega)).only on59 (Nat.lt_succ_self _), hT3⟩)
            have RZy := hide (on59.own (own_below (own_kept (unhide RZ6) gI7 hrl) b8) (fun k hk => by simp only [Value.ownBlock, Option.some.injEq] at hk; omega))
            have zDy : w1.heap.size + 1 ≤ y58.heap.size := by have := on59.size; have := b8.size; omega
            clear so58 on59 hTab6 HS6 T6 RZ6 hown3
            go_wp2_with fail
            go_roundw
            case rel => exact ⟨k - 1, now2, R3, H3, F3, ra3, rl3, rq3, p3 + 1 + 1 + 1, rfl, by go_num, by omega, by omega, TY, RZy, ry, gy, zDy⟩
            case measure => first | (simp [intOf]; done) | (simp [intOf]; omega)
          · go_simp
            skip
            refine hK.out _ _ (by trivial) (fun hHeld => ?_)
            clear hK K
            refine Grl.two 0 3 rfl rfl (by kernel_rfl) (fun K hK => ?_) (fun K hK => ?_)
            · go_simp
              skip
              refine hK.out _ _ (by trivial) (fun hHeld => ?_)
              clear hK K
              refine Grl.one 3 rfl (by kernel_rfl) (fun K hK => ?_)
              go_simp
              go_wp2_with (refine (unhide HOne6).mono ?_; rintro e w7 ⟨age, rfl, hage, r7, g7⟩; have hage' : 0 ≤ age ∧ age ≤ 300 := (by simp only [List.mem_cons, List.not_mem_nil, or_false] at hage; omega); have gI7 : w6.grownBy w7 (some rb) := grown_trans gD6 g7; have hc7 := unhide HS6 w7 gI7)
              refine hK.out _ _ (by trivial) (fun hHeld => ?_)
              clear hK K
              refine Grl.one 4 rfl (by kernel_rfl) (fun K hK => ?_)
              go_simp
              go_wp2_with (refine (Tab.spec_keep (w := w7) age H F (by omega) (hTab6.grown gI7 hrr).2.1.is (Tab.tabB_good hTab6.2.2).1 (Tab.tabB_good hTab6.2.2).2).mono ?_; rintro e w8 ⟨r3, rfl, hown3, b8⟩; obtain ⟨ra3, rl3, rq3, rfl⟩ := hown3.form; have hT3 := Tab.keep_tab (age := age) hTab6.2.2 (by omega); obtain ⟨⟨R3, H3, F3⟩, hk3⟩ : ∃ x, x = Tab.keep age L H F := ⟨_, rfl⟩; rw [← hk3] at hown3 hT3 ⊢; have g8 : w6.grownBy w8 (some rb) := grown_trans gI7 (grown_below b8); have r8 := r7.below b8; have z7 := gI7.size; have P8 := own_below (own_kept hTab6.1 gI7 hrl) b8; have sd64 : w8.cell? ⟨w1.heap.size, 0, none⟩ = some (.slice ra rl rq) := (by rw [P8.cellAt 0 (by omega)]; rfl); have sf64 := P8.frozenAt 0; have ss64 := (P8.stored 0 (.slice ra3 rl3 rq3)).1; obtain ⟨y64, hy64⟩ : ∃ w', w8.setCell ⟨w1.heap.size, 0, none⟩ (.slice ra3 rl3 rq3) = w' := ⟨_, rfl⟩; rw [hy64] at ss64; have so64 : y64.ownsRow w.heap.size 30 3 (.slice (some ⟨w1.heap.size, 0, none⟩) 1 1) 1 [.slice ra3 rl3 rq3, .int .i64 H, .int .i64 F] := ss64; clear ss64; have sd65 : y64.cell? ⟨w1.heap.size, 1, none⟩ = some (.int .i64 H) := (by rw [so64.cellAt 1 (by omega)]; rfl); have sf65 := so64.frozenAt 1; have ss65 := (so64.stored 1 (.int .i64 H3)).1; obtain ⟨y65, hy65⟩ : ∃ w', y64.setCell ⟨w1.heap.size, 1, none⟩ (.int .i64 H3) = w' := ⟨_, rfl⟩; rw [hy65] at ss65; have so65 : y65.ownsRow w.heap.size 30 3 (.slice (some ⟨w1.heap.size, 0, none⟩) 1 1) 1 [.slice ra3 rl3 rq3, .int .i64 H3, .int .i64 F] := ss65; clear ss65; have sd66 : y65.cell? ⟨w1.heap.size, 2, none⟩ = some (.int .i64 F) := (by rw [so65.cellAt 2 (by omega)]; rfl); have sf66 := so65.frozenAt 2; have ss66 := (so65.stored 2 (.int .i64 F3)).1; obtain ⟨y66, hy66⟩ : ∃ w', y65.setCell ⟨w1.heap.size, 2, none⟩ (.int .i64 F3) = w' := ⟨_, rfl⟩; rw [hy66] at ss66; have so66 : y66.ownsRow w.heap.size 30 3 (.slice (some ⟨w1.heap.size, 0, none⟩) 1 1) 1 [.slice ra3 rl3 rq3, .int .i64 H3, .int .i64 F3] := ss66; clear ss66; have on67 := OnlyAt.refl (w1.heap.size) w8; have on67 := on67.setCell 0 (.slice ra3 rl3 rq3); rw [hy64] at on67; have on67 := on67.setCell 1 (.int .i64 H3); rw [hy65] at on67; have on67 := on67.setCell 2 (.int .i64 F3); rw [hy66] at on67)
              refine hK.out _ _ (by trivial) (fun hHeld => ?_)
              clear hK K
              refine Grl.one 5 rfl (by kernel_rfl) (fun K hK => ?_)
              go_simp
              skip
              refine hK.out _ _ (by trivial) (fun hHeld => ?_)
              clear hK K
              refine wpAnyH_done (by kernel_rfl) ?_ _
              have gy := grown_other (grown_trans q6 g8) (grown_only on67) (fun j hj => by cases hj; omega)
              have ry : Rd y66 rb (p3 + 1 + 1 + 1) := r8.grown (grown_only on67) (fun j hj => by cases hj; omega)
              have TY := hide (show Tab.TabAt w.heap.size (w1.heap.size + 1) w1.heap.size y66 ra3 rl3 rq3 R3 H3 F3 from ⟨so66, (hown3.isF.mono (by omega)).only on67 (Nat.lt_succ_self _), hT3⟩)
              have RZy := hide (on67.own (own_below (own_kept (unhide RZ6) gI7 hrl) b8) (fun k hk => by simp only [Value.ownBlock, Option.some.injEq] at hk; omega))
              have zDy : w1.heap.size + 1 ≤ y66.heap.size := by have := on67.size; have := b8.size; omega
              clear so66 on67 hTab6 HS6 T6 RZ6 hown3
              go_wp2_with fail
              go_roundw
              case rel => exact ⟨k - 1, now2, R3, H3, F3, ra3, rl3, rq3, p3 + 1 + 1 + 1, rfl, by go_num, by omega, by omega, TY, RZy, ry, gy, zDy⟩
              case measure => first | (simp [intOf]; done) | (simp [intOf]; omega)
            · go_simp
              go_wp2_with (refine (unhide HOne6).mono ?_; rintro e w7 ⟨age, rfl, hage, r7, g7⟩; have hage' : 0 ≤ age ∧ age ≤ 300 := (by simp only [List.mem_cons, List.not_mem_nil, or_false] at hage; omega); have gI7 : w6.grownBy w7 (some rb) := grown_trans gD6 g7; have hc7 := unhide HS6 w7 gI7)
              refine hK.out _ _ (by trivial) (fun hHeld => ?_)
              clear hK K
              refine Grl.one 0 rfl (by kernel_rfl) (fun K hK => ?_)
              go_simp
              skip
              refine hK.out _ _ (by trivial) (fun hHeld => ?_)
              clear hK K
              refine Grl.one 4 rfl (by kernel_rfl) (fun K hK => ?_)
              go_simp
              go_wp2_with (refine (Tab.spec_keep (w := w7) age H F (by omega) (hTab6.grown gI7 hrr).2.1.is (Tab.tabB_good hTab6.2.2).1 (Tab.tabB_good hTab6.2.2).2).mono ?_; rintro e w8 ⟨r3, rfl, hown3, b8⟩; obtain ⟨ra3, rl3, rq3, rfl⟩ := hown3.form; have hT3 := Tab.keep_tab (age := age) hTab6.2.2 (by omega); obtain ⟨⟨R3, H3, F3⟩, hk3⟩ : ∃ x, x = Tab.keep age L H F := ⟨_, rfl⟩; rw [← hk3] at hown3 hT3 ⊢; have g8 : w6.grownBy w8 (some rb) := grown_trans gI7 (grown_below b8); have r8 := r7.below b8; have z7 := gI7.size; have P8 := own_below (own_kept hTab6.1 gI7 hrl) b8; have sd68 : w8.cell? ⟨w1.heap.size, 0, none⟩ = some (.slice ra rl rq) := (by rw [P8.cellAt 0 (by omega)]; rfl); have sf68 := P8.frozenAt 0; have ss68 := (P8.stored 0 (.slice ra3 rl3 rq3)).1; obtain ⟨y68, hy68⟩ : ∃ w', w8.setCell ⟨w1.heap.size, 0, none⟩ (.slice ra3 rl3 rq3) = w' := ⟨_, rfl⟩; rw [hy68] at ss68; have so68 : y68.ownsRow w.heap.size 30 3 (.slice (some ⟨w1.heap.size, 0, none⟩) 1 1) 1 [.slice ra3 rl3 rq3, .int .i64 H, .int .i64 F] := ss68; clear ss68; have sd69 : y68.cell? ⟨w1.heap.size, 1, none⟩ = some (.int .i64 H) := (by rw [so68.cellAt 1 (by omega)]; rfl); have sf69 := so68.frozenAt 1; have ss69 := (so68.stored 1 (.int .i64 H3)).1; obtain ⟨y69, hy69⟩ : ∃ w', y68.setCell ⟨w1.heap.size, 1, none⟩ (.int .i64 H3) = w' := ⟨_, rfl⟩; rw [hy69] at ss69; have so69 : y69.ownsRow w.heap.size 30 3 (.slice (some ⟨w1.heap.size, 0, none⟩) 1 1) 1 [.slice ra3 rl3 rq3, .int .i64 H3, .int .i64 F] := ss69; clear ss69; have sd70 : y69.cell? ⟨w1.heap.size, 2, none⟩ = some (.int .i64 F) := (by rw [so69.cellAt 2 (by omega)]; rfl); have sf70 := so69.frozenAt 2; have ss70 := (so69.stored 2 (.int .i64 F3)).1; obtain ⟨y70, hy70⟩ : ∃ w', y69.setCell ⟨w1.heap.size, 2, none⟩ (.int .i64 F3) = w' := ⟨_, rfl⟩; rw [hy70] at ss70; have so70 : y70.ownsRow w.heap.size 30 3 (.slice (some ⟨w1.heap.size, 0, none⟩) 1 1) 1 [.slice ra3 rl3 rq3, .int .i64 H3, .int .i64 F3] := ss70; clear ss70; have on71 := OnlyAt.refl (w1.heap.size) w8; have on71 := on71.setCell 0 (.slice ra3 rl3 rq3); rw [hy68] at on71; have on71 := on71.setCell 1 (.int .i64 H3); rw [hy69] at on71; have on71 := on71.setCell 2 (.int .i64 F3); rw [hy70] at on71)
              refine hK.out _ _ (by trivial) (fun hHeld => ?_)
              clear hK K
              refine Grl.one 5 rfl (by kernel_rfl) (fun K hK => ?_)
              go_simp
              skip
              refine hK.out _ _ (by trivial) (fun hHeld => ?_)
              clear hK K
              refine wpAnyH_done (by kernel_rfl) ?_ _
              have gy := grown_other (grown_trans q6 g8) (grown_only on71) (fun j hj => by cases hj; omega)
              have ry : Rd y70 rb (p3 + 1 + 1 + 1) := r8.grown (grown_only on71) (fun j hj => by cases hj; omega)
              have TY := hide (show Tab.TabAt w.heap.size (w1.heap.size + 1) w1.heap.size y70 ra3 rl3 rq3 R3 H3 F3 from ⟨so70, (hown3.isF.mono (by omega)).only on71 (Nat.lt_succ_self _), hT3⟩)
              have RZy := hide (on71.own (own_below (own_kept (unhide RZ6) gI7 hrl) b8) (fun k hk => by simp only [Value.ownBlock, Option.some.injEq] at hk; omega))
              have zDy : w1.heap.size + 1 ≤ y70.heap.size := by have := on71.size; have := b8.size; omega
              clear so70 on71 hTab6 HS6 T6 RZ6 hown3
              go_wp2_with fail
              go_roundw
              case rel => exact ⟨k - 1, now2, R3, H3, F3, ra3, rl3, rq3, p3 + 1 + 1 + 1, rfl, by go_num, by omega, by omega, TY, RZy, ry, gy, zDy⟩
              case measure => first | (simp [intOf]; done) | (simp [intOf]; omega)
        · have hc' : (c == 0) = false := by simp; omega
          clear hc
          go_wp2_with fail
          go_roundw
          case rel => exact ⟨k - 1, now2, L, H, F, ra, rl, rq, p3 + 1 + 1, rfl, by go_num, by omega, by omega, T6, RZ6, r6, q6, zD6⟩
          case measure => first | (simp [intOf]; done) | (simp [intOf]; omega)
    · obtain rfl : k = 0 := by omega
      have hTab := unhide HT
      have OZ := unhide HZ
      have OT := hTab.1
      have x0 : wr.cell? ⟨w1.heap.size, 0, none⟩ = some (.slice ra rl rq) := by rw [OT.cellAt 0 (by omega)]; rfl
      have x1 : wr.cell? ⟨w1.heap.size, 1, none⟩ = some (.int .i64 H) := by rw [OT.cellAt 1 (by omega)]; rfl
      have x2 : wr.cell? ⟨w1.heap.size, 2, none⟩ = some (.int .i64 F) := by rw [OT.cellAt 2 (by omega)]; rfl
      have sd72 : wr.cell? ⟨w.heap.size, 0, none⟩ = some (.slice none 0 0) := by rw [OZ.cellAt 0 (by omega)]; rfl
      have sf72 := OZ.frozenAt 0
      have ss72 := (OZ.stored 0 (.slice ra rl rq)).1
      obtain ⟨y72, hy72⟩ : ∃ w', wr.setCell ⟨w.heap.size, 0, none⟩ (.slice ra rl rq) = w' := ⟨_, rfl⟩
      rw [hy72] at ss72
      have so72 : y72.ownsRow w.heap.size 30 3 (.slice (some ⟨w.heap.size, 0, none⟩) 1 1) 1 [.slice ra rl rq, .int .i64 0, .int .i64 0] := ss72
      clear ss72
      have sd73 : y72.cell? ⟨w.heap.size, 1, none⟩ = some (.int .i64 0) := by rw [so72.cellAt 1 (by omega)]; rfl
      have sf73 := so72.frozenAt 1
      have ss73 := (so72.stored 1 (.int .i64 H)).1
      obtain ⟨y73, hy73⟩ : ∃ w', y72.setCell ⟨w.heap.size, 1, none⟩ (.int .i64 H) = w' := ⟨_, rfl⟩
      rw [hy73] at ss73
      have so73 : y73.ownsRow w.heap.size 30 3 (.slice (some ⟨w.heap.size, 0, none⟩) 1 1) 1 [.slice ra rl rq, .int .i64 H, .int .i64 0] := ss73
      clear ss73
      have sd74 : y73.cell? ⟨w.heap.size, 2, none⟩ = some (.int .i64 0) := by rw [so73.cellAt 2 (by omega)]; rfl
      have sf74 := so73.frozenAt 2
      have ss74 := (so73.stored 2 (.int .i64 F)).1
      obtain ⟨y74, hy74⟩ : ∃ w', y73.setCell ⟨w.heap.size, 2, none⟩ (.int .i64 F) = w' := ⟨_, rfl⟩
      rw [hy74] at ss74
      have so74 : y74.ownsRow w.heap.size 30 3 (.slice (some ⟨w.heap.size, 0, none⟩) 1 1) 1 [.slice ra rl rq, .int .i64 H, .int .i64 F] := ss74
      clear ss74
      have on75 := OnlyAt.refl (w.heap.size) wr
      have on75 := on75.setCell 0 (.slice ra rl rq)
      rw [hy72] at on75
      have on75 := on75.setCell 1 (.int .i64 H)
      rw [hy73] at on75
      have on75 := on75.setCell 2 (.int .i64 F)
      rw [hy74] at on75
      have z0 : y74.cell? ⟨w.heap.size, 0, none⟩ = some (.slice ra rl rq) := by rw [so74.cellAt 0 (by omega)]; rfl
      have z1 : y74.cell? ⟨w.heap.size, 1, none⟩ = some (.int .i64 H) := by rw [so74.cellAt 1 (by omega)]; rfl
      have z2 : y74.cell? ⟨w.heap.size, 2, none⟩ = some (.int .i64 F) := by rw [so74.cellAt 2 (by omega)]; rfl
      have hIs := hide ((hTab.2.1.only on75 (by omega)).mono (show w.heap.size ≤ w1.heap.size + 1 by omega))
      have ry := hide (show Rd y74 rb p' from hrd.grown (grown_only on75) (fun j hj => by cases hj; omega))
      have gy := hide (grown_other hg (grown_only on75) (fun j hj => by cases hj; exact Nat.le_refl _))
      have hTb := hTab.2.2
      clear on75 so72 so73 so74
      go_wp2_with fail
      refine bodyPost_ret (v := .tuple #[.agg #[.slice ra rl rq, .int .i64 H, .int .i64 F], .int .i64 now]) (by simp [results, Tryz.results92, go_sem, z0, z1, z2]) rfl ?_
      exact ⟨L, H, F, now, ra, rl, rq, rfl, by omega, hTb, unhide hIs, ⟨p', by omega, unhide ry⟩, unhide gy⟩
end Go.Proofs.YtlboekimnhgfdaaGreat.Draw

/- Times are drawn. -/
namespace Go.Proofs.YtlboekimnhgfdaaGreat.Draw
open Go.RowKit Rw
set_option linter.unusedVariables false
attribute [local go_sem ↓] Go.wp_at_zero Go.wp_at_succ
set_option maxRecDepth 100000 in
set_option maxHeartbeats 4000000 in
theorem span_any (rb p : Nat) (w : World) (h : Rd w rb p) (hp : p ≤ 800000) :
    Calls Tryz.prog 54 #[.pointer (some ⟨rb, 0, none⟩)] w fun e w' => ∃ a b : Int, e = .returned (.tuple #[.int .i64 a, .int .i64 b]) ∧ -1 ≤ a ∧ a ≤ 510 ∧ -2 ≤ b ∧ b ≤ 11000 ∧ Rd w' rb (p + 5) ∧ w.grownBy w' (some rb) := by
  have HR := hide h
  clear h
  go_enter Tryz.func54, Tryz.ntmps54
  go_wp2_with fail
  refine (pick_any rb p _ _ (unhide HR) (by omega) (by omega)).mono ?_
  rintro e w1 ⟨x, rfl, x0, x1, -, r1, g1⟩
  have x2 : x < 256 := x1 (by omega)
  clear x1 HR
  go_wp2_with fail
  refine (pick_any rb (p + 1) _ _ r1 (by omega) (by omega)).mono ?_
  rintro e w2 ⟨y, rfl, y0, y1, -, r2, g2⟩
  have y2 : y < 256 := y1 (by omega)
  have q2 := grown_trans g1 g2
  clear y1 r1 g1 g2
  obtain ⟨Y, hY⟩ : ∃ Y, y * 2 = Y := ⟨_, rfl⟩
  have hY0 : 0 ≤ Y ∧ Y ≤ 510 := by omega
  have hone := one_new rb (p + 1 + 1) [0, x, Y, 100, -1] _ r2 (by omega) (by simp) (by simp)
  simp only [List.map_cons, List.map_nil, List.length_cons, List.length_nil, Nat.zero_add, Nat.reduceAdd] at hone
  have HOne := hide hone
  clear hone
  go_wp2_with fail
  refine (unhide HOne).mono ?_
  clear HOne
  rintro e w3 ⟨a, rfl, ha, r3, g3⟩
  have ha0 : -1 ≤ a ∧ a ≤ 510 := by
    simp only [List.mem_cons, List.not_mem_nil, or_false] at ha
    omega
  have q3 := grown_trans q2 g3
  clear ha q2 r2 g3 hY hY0 x0 x2 y0 y2
  go_wp2_with fail
  refine (pick_any rb (p + 1 + 1 + 1) _ _ r3 (by omega) (by omega)).mono ?_
  rintro e w4 ⟨z, rfl, z0, z1, -, r4, g4⟩
  have z2 : z < 256 := z1 (by omega)
  have q4 := grown_trans q3 g4
  clear z1 r3 g4 q3
  obtain ⟨Z, hZ⟩ : ∃ Z, z * 3 = Z := ⟨_, rfl⟩
  have hZ0 : 0 ≤ Z ∧ Z ≤ 768 := by omega
  obtain ⟨V, hV⟩ : ∃ V, 10000 - a = V := ⟨_, rfl⟩
  have hone := one_new rb (p + 1 + 1 + 1 + 1) [0, 1, 100, Z, V, -1] _ r4 (by omega) (by simp) (by simp)
  simp only [List.map_cons, List.map_nil, List.length_cons, List.length_nil, Nat.zero_add, Nat.reduceAdd] at hone
  have HOne := hide hone
  clear hone
  go_wp2_with fail
  refine (unhide HOne).mono ?_
  clear HOne
  rintro e w5 ⟨d, rfl, hd, r5, g5⟩
  have hd0 : -1 ≤ d ∧ d ≤ 10001 := by
    simp only [List.mem_cons, List.not_mem_nil, or_false] at hd
    omega
  have hsum : a + d ≤ 11000 := by
    simp only [List.mem_cons, List.not_mem_nil, or_false] at hd
    omega
  have q5 := grown_trans q4 g5
  clear hd q4 r4 g5 hZ hV hZ0 z0 z2
  go_wp2_with fail
  go_ret2
  exact ⟨a, a + d, by go_num, ha0.1, ha0.2, by omega, hsum, r5, q5⟩
end Go.Proofs.YtlboekimnhgfdaaGreat.Draw
