/- My own texts of one claim, laid together by program: DrawTab2, DrawTab3, DrawBatch3, DrawTab4. -/
import Derived.Test.YtlboekimnhgfdaaGreatGb90a33e9ef
import Derived.Test.YtlboekimnhgfdaaGreatG6122d20f6e
import Derived.Test.YtlboekimnhgfdaaGreatGfd3a6dd580
/- A table, matches and times are drawn. -/
namespace Go.Proofs.YtlboekimnhgfdaaGreat.Draw
open Go.RowKit Rw
set_option linter.unusedVariables false
set_option linter.unusedSimpArgs false
attribute [local go_sem ↓] Go.wp_at_zero Go.wp_at_succ
/-- what DrawTableDrop and DrawTableAsk answer -/
def TDrawn (w : World) (e : Ending) (w' : World) : Prop :=
  ∃ (L : List Row.E) (ms : List Mat.E) (v u : Value) (H F A B : Int), e = .returned (.tuple #[.agg #[v, .int .i64 H, .int .i64 F], u, .int .i64 A, .int .i64 B]) ∧ TG L H F ∧ Row.IsF w.heap.size w' v L ∧ (ms.length ≤ 20 ∧ ∀ x ∈ ms, Mat.good x) ∧ w'.ownsRow w.heap.size 86 3 u ms.length (Mat.flat ms) ∧ (-1 ≤ A ∧ A ≤ 510 ∧ -2 ≤ B ∧ B ≤ 11000) ∧ Below w.heap.size w w'
set_option maxRecDepth 100000 in
set_option maxHeartbeats 16000000 in
theorem draw_tdrop {a : Option Addr} {len cap : Nat} {zs : List Int} (w0 w : World) (h : IsRow .u8 w0 a len cap zs) (hB : Below w0.heap.size w0 w) :
    Calls Tryz.prog 21 #[.slice a len cap] w (TDrawn w) := by
  obtain ⟨W, hW⟩ : ∃ W, W = w.alloc (.cells #[.slice none 0 0, .int .i64 0, .int .i64 0] 30) := ⟨_, rfl⟩
  have bW : Below w.heap.size w W := by rw [hW]; exact (Below.refl _ _).alloc (Nat.le_refl _) _
  have zW : W.heap.size = w.heap.size + 1 := by rw [hW]; simp
  have RZ : W.ownsRow w.heap.size 30 3 (.slice (some ⟨w.heap.size, 0, none⟩) 1 1) 1 [.slice none 0 0, .int .i64 0, .int .i64 0] := by rw [hW]; exact Tab.own_new3 (Nat.le_refl _) rfl
  have hne : w.heap.size ≠ W.heap.size := by omega
  have HO := hide (open_any w0 W h (hB.trans (bW.mono hB.size)))
  clear h hB
  go_enter Tryz.func21, Tryz.ntmps21
  go_wp2_with fail
  rw [← hW]
  clear hW
  refine (unhide HO).mono ?_
  rintro e w1 ⟨rfl, r1, b1⟩
  have z1 := r1.lt
  have RZ1 := hide (own_below RZ b1)
  obtain ⟨rb, hrb⟩ : ∃ k, k = W.heap.size := ⟨_, rfl⟩
  have c1 := bW.trans (b1.mono bW.size)
  clear b1 bW
  rw [← hrb] at r1 z1 hne zW ⊢
  have hwb : w.heap.size < rb := by omega
  clear RZ HO hrb zW
  go_wp2_with fail
  refine (anytable_any rb 0 _ r1 (by omega)).mono ?_
  rintro e w2 ⟨L, H, F, now, ra, rl, rq, rfl, hnow, hTG, hF, ⟨p2, hp2, r2⟩, g2⟩
  have z2 := g2.size
  have RZ2 := hide (Tab.box_kept (unhide RZ1) g2 hne)
  have HTG := hide hTG
  obtain ⟨sd2, sf2, so2, bb2, zz2⟩ := Tab.box_new (w := w2) (base := rb + 1) (.slice ra rl rq) H F (by omega)
  obtain ⟨V2, hV2⟩ : ∃ V, w2.alloc (.cells #[.slice ra rl rq, .int .i64 H, .int .i64 0] 30) = V := ⟨_, rfl⟩
  rw [hV2] at sd2 sf2 so2 bb2 zz2
  obtain ⟨W2, hW2⟩ : ∃ V, V2.setCell ⟨w2.heap.size, 2, none⟩ (.int .i64 F) = V := ⟨_, rfl⟩
  rw [hW2] at so2 bb2 zz2
  have r3 := r2.below bb2
  have RZ3 := hide (own_below (unhide RZ2) bb2)
  have g3 := grown_trans g2 (grown_below bb2)
  have k3 := grown_below (r := some rb) bb2
  have HF1 := hide hF
  have HSo := hide so2
  have hrr : rb < rb + 1 := Nat.lt_succ_self _
  clear RZ1 RZ2 r1 r2 g2 bb2 hF hTG so2
  go_wp2_with fail
  refine (anymatches_any rb p2 _ r3 (by omega)).mono ?_
  rintro e w3 ⟨ms, u, rfl, hm20, hsm, om, ⟨p3, hp3, r4⟩, g4⟩
  have z4 := g4.size
  have hW2z : w2.heap.size + 1 ≤ W2.heap.size := zz2
  have HMG := hide (show ms.length ≤ 20 ∧ ∀ x ∈ ms, Mat.good x from ⟨hm20, fun x hx => good_smallM (hsm x hx)⟩)
  have HM4 := hide om
  obtain ⟨ua, uq, rfl⟩ : ∃ a q, u = .slice a ms.length q := by obtain ⟨-, a, q, e, -⟩ := lies_of_own om; exact ⟨a, q, e⟩
  have so4 := hide (own_kept (unhide HSo) g4 hrr)
  have RZ4 := hide (Tab.box_kept (unhide RZ3) g4 hne)
  have q4 := grown_trans g3 g4
  have k4 := grown_trans k3 g4
  clear om hsm hm20 r3 RZ3 HSo g3 k3 g4 hV2 hW2 sd2 sf2
  go_wp2_with fail
  refine (span_any rb p3 _ r4 (by omega)).mono ?_
  rintro e w4 ⟨A, B, rfl, hA0, hA1, hB0, hB1, r5, g5⟩
  have so5 := own_kept (unhide so4) g5 hrr
  have RZ5 := Tab.box_kept (unhide RZ4) g5 hne
  have q5 := grown_trans q4 g5
  have k5 := grown_trans k4 g5
  have z5 := g5.size
  have HM5 := hide (own_kept (unhide HM4) g5 (by omega))
  clear so4 RZ4 HM4 q4 k4 g5 r4 r5
  obtain ⟨x0, x1, x2⟩ := Tab.box_three so5
  obtain ⟨⟨pc9a, pf9a⟩, ⟨pc9b, pf9b⟩, ⟨pc9c, pf9c⟩, so9, on9⟩ := Tab.box_put (w := w4) (.slice ra rl rq) (.int .i64 H) (.int .i64 F) RZ5
  obtain ⟨y9a, hy9a⟩ : ∃ V, w4.setCell ⟨w.heap.size, 0, none⟩ (.slice ra rl rq) = V := ⟨_, rfl⟩
  rw [hy9a] at pc9b pf9b pc9c pf9c so9 on9
  obtain ⟨y9b, hy9b⟩ : ∃ V, y9a.setCell ⟨w.heap.size, 1, none⟩ (.int .i64 H) = V := ⟨_, rfl⟩
  rw [hy9b] at pc9c pf9c so9 on9
  obtain ⟨y9, hy9⟩ : ∃ V, y9b.setCell ⟨w.heap.size, 2, none⟩ (.int .i64 F) = V := ⟨_, rfl⟩
  rw [hy9] at so9 on9
  obtain ⟨e0, e1, e2⟩ := Tab.box_three so9
  have on9' := hide on9
  clear on9 so9
  have HRy := hide ((((unhide HF1).grown k5 (by omega)).only (unhide on9') (by omega)).mono (show w.heap.size ≤ w1.heap.size by omega))
  have HMy := hide (own_mono ((unhide on9').own (unhide HM5) (fun k hk => by have := own_ge (unhide HM5) k hk; omega)) (show w.heap.size ≤ W2.heap.size by omega))
  have by9 := hide ((c1.trans (below_of_grown q5 (show w.heap.size ≤ rb by omega) (by omega))).trans ((unhide on9').below (Nat.le_refl _)))
  clear HF1 HM5 q5 k5 so5 RZ5
  go_wp2_with fail
  refine bodyPost_ret (v := .tuple #[.agg #[.slice ra rl rq, .int .i64 H, .int .i64 F], .slice ua ms.length uq, .int .i64 A, .int .i64 B]) (by simp [results, Tryz.results21, go_sem, e0, e1, e2]) rfl ?_
  exact ⟨L, ms, _, _, H, F, A, B, rfl, unhide HTG, unhide HRy, unhide HMG, unhide HMy, ⟨hA0, hA1, hB0, hB1⟩, unhide by9⟩
set_option maxRecDepth 100000 in
set_option maxHeartbeats 16000000 in
theorem draw_task {a : Option Addr} {len cap : Nat} {zs : List Int} (w0 w : World) (h : IsRow .u8 w0 a len cap zs) (hB : Below w0.heap.size w0 w) :
    Calls Tryz.prog 30 #[.slice a len cap] w (TDrawn w) := by
  obtain ⟨W, hW⟩ : ∃ W, W = w.alloc (.cells #[.slice none 0 0, .int .i64 0, .int .i64 0] 30) := ⟨_, rfl⟩
  have bW : Below w.heap.size w W := by rw [hW]; exact (Below.refl _ _).alloc (Nat.le_refl _) _
  have zW : W.heap.size = w.heap.size + 1 := by rw [hW]; simp
  have RZ : W.ownsRow w.heap.size 30 3 (.slice (some ⟨w.heap.size, 0, none⟩) 1 1) 1 [.slice none 0 0, .int .i64 0, .int .i64 0] := by rw [hW]; exact Tab.own_new3 (Nat.le_refl _) rfl
  have hne : w.heap.size ≠ W.heap.size := by omega
  have HO := hide (draw_tdrop w0 W h (hB.trans (bW.mono hB.size)))
  clear h hB
  go_enter Tryz.func30, Tryz.ntmps30
  go_wp2_with fail
  rw [← hW]
  clear hW
  refine (unhide HO).mono ?_
  rintro e w1 ⟨L, ms, v, u, H, F, A, B, rfl, h1, h2, h3, h4, h5, h6⟩
  obtain ⟨va, vq, rfl⟩ := Tab.row_form h2.is
  obtain ⟨ua, un, uq, rfl⟩ : ∃ a n q, u = .slice a n q := by obtain ⟨-, a, q, e, -⟩ := lies_of_own h4; exact ⟨a, _, q, e⟩
  obtain ⟨vn, hvn⟩ : ∃ n, n = L.length := ⟨_, rfl⟩
  rw [← hvn] at h2 ⊢
  clear hvn
  have RZ1 := own_below RZ h6
  have z6 := h6.size
  have c1 := hide (bW.trans (h6.mono bW.size))
  have HR := hide h2
  have HMm := hide h4
  have HAll := hide (And.intro h1 (And.intro h3 h5))
  clear h1 h2 h3 h4 h5 h6 HO RZ bW
  obtain ⟨⟨pc9a, pf9a⟩, ⟨pc9b, pf9b⟩, ⟨pc9c, pf9c⟩, so9, on9⟩ := Tab.box_put (w := w1) (.slice va vn vq) (.int .i64 H) (.int .i64 F) RZ1
  obtain ⟨y9a, hy9a⟩ : ∃ V, w1.setCell ⟨w.heap.size, 0, none⟩ (.slice va vn vq) = V := ⟨_, rfl⟩
  rw [hy9a] at pc9b pf9b pc9c pf9c so9 on9
  obtain ⟨y9b, hy9b⟩ : ∃ V, y9a.setCell ⟨w.heap.size, 1, none⟩ (.int .i64 H) = V := ⟨_, rfl⟩
  rw [hy9b] at pc9c pf9c so9 on9
  obtain ⟨y9, hy9⟩ : ∃ V, y9b.setCell ⟨w.heap.size, 2, none⟩ (.int .i64 F) = V := ⟨_, rfl⟩
  rw [hy9] at so9 on9
  obtain ⟨e0, e1, e2⟩ := Tab.box_three so9
  have by9 := hide ((unhide c1).trans (on9.below (Nat.le_refl _)))
  have HR9 := hide (((unhide HR).only on9 (by omega)).mono (show w.heap.size ≤ W.heap.size by omega))
  have HM9 := hide (own_mono (on9.own (unhide HMm) (fun k hk => by have := own_ge (unhide HMm) k hk; omega)) (show w.heap.size ≤ W.heap.size by omega))
  clear on9 so9 RZ1 c1 HR HMm
  go_wp2_with fail
  refine bodyPost_ret (v := .tuple #[.agg #[.slice va vn vq, .int .i64 H, .int .i64 F], .slice ua un uq, .int .i64 A, .int .i64 B]) (by simp [results, Tryz.results30, go_sem, e0, e1, e2]) rfl ?_
  exact ⟨L, ms, _, _, H, F, A, B, rfl, (unhide HAll).1, unhide HR9, (unhide HAll).2.1, unhide HM9, (unhide HAll).2.2, unhide by9⟩
end Go.Proofs.YtlboekimnhgfdaaGreat.Draw

/- A table and an age are drawn. -/
namespace Go.Proofs.YtlboekimnhgfdaaGreat.Draw
open Go.RowKit Rw
set_option linter.unusedVariables false
set_option linter.unusedSimpArgs false
attribute [local go_sem ↓] Go.wp_at_zero Go.wp_at_succ
/-- what DrawTableKeep answers -/
def TKept (w : World) (e : Ending) (w' : World) : Prop :=
  ∃ (L : List Row.E) (v : Value) (H F age : Int), e = .returned (.tuple #[.agg #[v, .int .i64 H, .int .i64 F], .int .i64 age]) ∧ TG L H F ∧ Row.Is w' v L ∧ (-1 ≤ age ∧ age ≤ 20000) ∧ Below w.heap.size w w'
set_option maxRecDepth 100000 in
set_option maxHeartbeats 16000000 in
theorem draw_tkeep {a : Option Addr} {len cap : Nat} {zs : List Int} (w0 w : World) (h : IsRow .u8 w0 a len cap zs) (hB : Below w0.heap.size w0 w) :
    Calls Tryz.prog 34 #[.slice a len cap] w (TKept w) := by
  obtain ⟨W, hW⟩ : ∃ W, W = w.alloc (.cells #[.slice none 0 0, .int .i64 0, .int .i64 0] 30) := ⟨_, rfl⟩
  have bW : Below w.heap.size w W := by rw [hW]; exact (Below.refl _ _).alloc (Nat.le_refl _) _
  have zW : W.heap.size = w.heap.size + 1 := by rw [hW]; simp
  have RZ : W.ownsRow w.heap.size 30 3 (.slice (some ⟨w.heap.size, 0, none⟩) 1 1) 1 [.slice none 0 0, .int .i64 0, .int .i64 0] := by rw [hW]; exact Tab.own_new3 (Nat.le_refl _) rfl
  have hne : w.heap.size ≠ W.heap.size := by omega
  have HO := hide (open_any w0 W h (hB.trans (bW.mono hB.size)))
  clear h hB
  go_enter Tryz.func34, Tryz.ntmps34
  go_wp2_with fail
  rw [← hW]
  clear hW
  refine (unhide HO).mono ?_
  rintro e w1 ⟨rfl, r1, b1⟩
  have z1 := r1.lt
  have RZ1 := hide (own_below RZ b1)
  obtain ⟨rb, hrb⟩ : ∃ k, k = W.heap.size := ⟨_, rfl⟩
  have c1 := bW.trans (b1.mono bW.size)
  clear b1 bW
  rw [← hrb] at r1 z1 hne zW ⊢
  have hwb : w.heap.size < rb := by omega
  clear RZ HO hrb zW
  go_wp2_with fail
  refine (anytable_any rb 0 _ r1 (by omega)).mono ?_
  rintro e w2 ⟨L, H, F, now, ra, rl, rq, rfl, hnow, hTG, hF, ⟨p2, hp2, r2⟩, g2⟩
  have z2 := g2.size
  have RZ2 := hide (Tab.box_kept (unhide RZ1) g2 hne)
  have HTG := hide hTG
  obtain ⟨sd2, sf2, so2, bb2, zz2⟩ := Tab.box_new (w := w2) (base := rb + 1) (.slice ra rl rq) H F (by omega)
  obtain ⟨V2, hV2⟩ : ∃ V, w2.alloc (.cells #[.slice ra rl rq, .int .i64 H, .int .i64 0] 30) = V := ⟨_, rfl⟩
  rw [hV2] at sd2 sf2 so2 bb2 zz2
  obtain ⟨W2, hW2⟩ : ∃ V, V2.setCell ⟨w2.heap.size, 2, none⟩ (.int .i64 F) = V := ⟨_, rfl⟩
  rw [hW2] at so2 bb2 zz2
  have r3 := r2.below bb2
  have RZ3 := hide (own_below (unhide RZ2) bb2)
  have g3 := grown_trans g2 (grown_below bb2)
  have k3 := grown_below (r := some rb) bb2
  have HF1 := hide hF
  have HSo := hide so2
  have hrr : rb < rb + 1 := Nat.lt_succ_self _
  clear RZ1 RZ2 r1 r2 g2 bb2 hF hTG so2
  have HS := hide (fun (X : World) (gx : W2.grownBy X (some rb)) => Tab.box_three (own_kept (unhide HSo) gx hrr))
  have gD : W2.grownBy W2.drew (some rb) := grown_below ((Below.refl _ _).drew)
  have rD := rd_drew r3
  obtain ⟨wI, hwI⟩ : ∃ V, W2.drew.alloc (.cells #[.int .i64 0, .int .i64 100, .int .i64 150, .int .i64 300, .int .i64 (-1), .int .i64 20000] 3) = V := ⟨_, rfl⟩
  have gI : W2.grownBy wI (some rb) := grown_trans gD (grown_below (by rw [← hwI]; exact (Below.refl _ _).alloc (Nat.le_refl _) _))
  have hone := one_new rb p2 [0, 100, 150, 300, -1, 20000] W2.drew rD (by omega) (by simp) (by simp)
  simp only [List.map_cons, List.map_nil, List.length_cons, List.length_nil, Nat.zero_add, Nat.reduceAdd] at hone
  rw [hwI] at hone
  have HOne := hide hone
  have hsD := unhide HS W2.drew gD
  have hsI := unhide HS wI gI
  clear hone r3
  go_wp2_with fail
  refine Grl.start (S := fun X => X.cell? ⟨w2.heap.size, 0, none⟩ = some (.slice ra rl rq) ∧ X.cell? ⟨w2.heap.size, 1, none⟩ = some (.int .i64 H) ∧ X.cell? ⟨w2.heap.size, 2, none⟩ = some (.int .i64 F)) (by kernel_rfl) (by exact hsD) (fun hHeld => ?_)
  refine Grl.yes 0 (v := ?_) rfl (by kernel_rfl) (by kernel_rfl) (by kernel_rfl) (fun _ _ _ h => h) (by kernel_rfl) ?_ (by assumption) ?_
  rotate_left
  · (intro w hSw; (try dsimp only at hSw); go_simp; try with_reducible rfl)
  simp only [Act.put, List.setIfInBounds_toArray, List.set_cons_zero, List.set_cons_succ]
  refine Grl.yes 1 (v := ?_) rfl (by kernel_rfl) (by kernel_rfl) (by kernel_rfl) (fun _ _ _ h => h) (by kernel_rfl) ?_ (by assumption) ?_
  rotate_left
  · (intro w hSw; (try dsimp only at hSw); go_simp; try with_reducible rfl)
  simp only [Act.put, List.setIfInBounds_toArray, List.set_cons_zero, List.set_cons_succ]
  refine Grl.one 2 rfl (by kernel_rfl) (fun K hK => ?_)
  go_simp
  skip
  refine hK.out _ _ (by exact hsI) (fun hHeld => ?_)
  clear hK K
  refine Grl.one 3 rfl (by kernel_rfl) (fun K hK => ?_)
  go_simp
  go_wp2_with (refine (unhide HOne).mono ?_; rintro e w4 ⟨age, rfl, hage, r4, g4⟩; have hage' : -1 ≤ age ∧ age ≤ 20000 := (by simp only [List.mem_cons, List.not_mem_nil, or_false] at hage; omega); have gI4 : W2.grownBy w4 (some rb) := grown_trans gD g4; have hs4 := unhide HS w4 gI4; have RZ4 := Tab.box_kept (unhide RZ3) gI4 hne; have hq0 : w.heap.size ≠ w2.heap.size := (by omega); obtain ⟨⟨pc9a, pf9a⟩, ⟨pc9b, pf9b⟩, ⟨pc9c, pf9c⟩, so9, on9⟩ := Tab.box_put (w := w4) (.slice ra rl rq) (.int .i64 H) (.int .i64 F) RZ4; obtain ⟨y9a, hy9a⟩ : ∃ V, w4.setCell ⟨w.heap.size, 0, none⟩ (.slice ra rl rq) = V := ⟨_, rfl⟩; rw [hy9a] at pc9b pf9b pc9c pf9c so9 on9; obtain ⟨y9b, hy9b⟩ : ∃ V, y9a.setCell ⟨w.heap.size, 1, none⟩ (.int .i64 H) = V := ⟨_, rfl⟩; rw [hy9b] at pc9c pf9c so9 on9; obtain ⟨y9, hy9⟩ : ∃ V, y9b.setCell ⟨w.heap.size, 2, none⟩ (.int .i64 F) = V := ⟨_, rfl⟩; rw [hy9] at so9 on9; have hs9 : y9.cell? ⟨w2.heap.size, 0, none⟩ = some (.slice ra rl rq) ∧ y9.cell? ⟨w2.heap.size, 1, none⟩ = some (.int .i64 H) ∧ y9.cell? ⟨w2.heap.size, 2, none⟩ = some (.int .i64 F) := (And.intro ((World.cell?_of_block (a := ⟨w2.heap.size, 0, none⟩) (on9.block _ (Ne.symm hq0))).trans hs4.1) (And.intro ((World.cell?_of_block (a := ⟨w2.heap.size, 1, none⟩) (on9.block _ (Ne.symm hq0))).trans hs4.2.1) ((World.cell?_of_block (a := ⟨w2.heap.size, 2, none⟩) (on9.block _ (Ne.symm hq0))).trans hs4.2.2))))
  refine hK.out _ _ (by exact hs4) (fun hHeld => ?_)
  clear hK K
  refine Grl.one 4 rfl (by kernel_rfl) (fun K hK => ?_)
  go_simp
  skip
  refine hK.out _ _ (by exact hs9) (fun hHeld => ?_)
  clear hK K
  refine Grl.yes 5 (v := ?_) rfl (by kernel_rfl) (by kernel_rfl) (by kernel_rfl) (fun _ _ _ h => h) (by kernel_rfl) ?_ (by assumption) ?_
  rotate_left
  · (intro w hSw; (try dsimp only at hSw); go_simp; try with_reducible rfl)
  simp only [Act.put, List.setIfInBounds_toArray, List.set_cons_zero, List.set_cons_succ]
  refine wpAnyH_done (by kernel_rfl) ?_ _
  obtain ⟨e0, e1, e2⟩ := Tab.box_three so9
  have z4 := gI4.size
  have HRy := hide ((((unhide HF1).grown (grown_trans k3 gI4) (by omega)).only on9 (by omega)).is)
  have by9 := hide ((c1.trans (below_of_grown (grown_trans g3 gI4) (show w.heap.size ≤ rb by omega) (by omega))).trans (on9.below (Nat.le_refl _)))
  clear HF1 g3 k3 so9 on9 RZ4 RZ3 HS HSo
  go_wp2_with fail
  refine bodyPost_ret (v := .tuple #[.agg #[.slice ra rl rq, .int .i64 H, .int .i64 F], .int .i64 age]) (by simp [results, Tryz.results34, go_sem, e0, e1, e2]) rfl ?_
  exact ⟨L, _, H, F, age, rfl, unhide HTG, unhide HRy, hage', unhide by9⟩
end Go.Proofs.YtlboekimnhgfdaaGreat.Draw

/- Entries are drawn, of whatever kind: l13AnyBatch. -/
namespace Go.Proofs.YtlboekimnhgfdaaGreat.Draw
open Go.RowKit Rw
set_option linter.unusedVariables false
set_option linter.unusedSimpArgs false
attribute [local go_sem ↓] Go.wp_at_zero Go.wp_at_succ
def entB (x : Ent.E) : Prop := (∀ y ∈ x.1, Lab.good y) ∧ x.1.length ≤ 20
theorem entB_of {x : Ent.E} (h : entG x) : entB x := by
  have hs := Row.lab_good h.2
  exact ⟨fun y hy => by have := hs.2 y hy; exact ⟨by unfold maxLen; omega, by unfold maxLen; omega⟩, by have := h.1; omega⟩
theorem entB_okay {L : List Ent.E} (h : ∀ y ∈ L, entB y) : Tab.Okay L := fun e he => ⟨(h e he).1, by have := (h e he).2; unfold maxLen; omega⟩
theorem entB_set {L : List Ent.E} {k : Nat} {e' : Ent.E} (h : ∀ y ∈ L, entB y) (he : entB e') : ∀ y ∈ L.set k e', entB y := fun y hy => by
  rcases List.mem_or_eq_of_mem_set hy with h1 | h1
  · exact h y h1
  · rw [h1]; exact he
theorem good_smallB {x : Lab.E} (h : smallL x) : Lab.good x := ⟨by have := h.1; unfold maxLen; omega, by have := h.2.1; unfold maxLen; omega⟩
theorem EntOwn.form {base : Nat} {w : World} {v : Value} {L : List Ent.E} (h : EntOwn base w v L) (hl : 1 ≤ L.length) : ∃ g q, v = .slice (some ⟨g, 0, none⟩) L.length q := by
  obtain ⟨cs, h1, h2, h3⟩ := h
  rcases h2.2 with ⟨-, e⟩ | ⟨g, cap, cur, e, -⟩
  · omega
  · exact ⟨g, cap, e⟩
theorem EntOwn.only {base g : Nat} {w w' : World} {v : Value} {L : List Ent.E} (h : EntOwn base w v L) (ho : OnlyAt g w w') (hg : g < base) : EntOwn base w' v L := by
  obtain ⟨cs, h1, h2, h3⟩ := h
  exact ⟨cs, h1, ho.own h2 (fun k hk => by have := own_ge h2 k hk; omega), fun i hi => ⟨ho.own (h3 i hi).1 (fun k hk => by have := own_ge (h3 i hi).1 k hk; omega), (h3 i hi).2⟩⟩
theorem EntOwn.below {base : Nat} {w w' : World} {v : Value} {L : List Ent.E} (h : EntOwn base w v L) (hb : Below w.heap.size w w') : EntOwn base w' v L := by
  obtain ⟨cs, h1, h2, h3⟩ := h
  exact ⟨cs, h1, own_below h2 hb, fun i hi => ⟨own_below (h3 i hi).1 hb, (h3 i hi).2⟩⟩
theorem EntOwn.mono {a b : Nat} {w : World} {v : Value} {L : List Ent.E} (h : EntOwn b w v L) (hab : a ≤ b) : EntOwn a w v L := by
  obtain ⟨cs, h1, h2, h3⟩ := h
  exact ⟨cs, h1, own_mono h2 hab, fun i hi => ⟨own_mono (h3 i hi).1 hab, (h3 i hi).2⟩⟩
def roomOf : Value → Nat | .slice _ n _ => 8 - n | _ => 0
set_option maxRecDepth 100000 in
set_option maxHeartbeats 8000000 in
theorem anybatch_any (rb p : Nat) (now : Int) (w : World) (h : Rd w rb p) (hp : p ≤ 600000) (h0 : 0 ≤ now) (h1 : now ≤ 20000) :
    Calls Tryz.prog 77 #[.pointer (some ⟨rb, 0, none⟩), .int .i64 now] w fun e w' => ∃ (zs : List Ent.E) (v : Value), e = .returned v ∧ (zs.length ≤ 7 ∧ ∀ x ∈ zs, entB x) ∧ EntOwn w.heap.size w' v zs ∧ (∃ p', p' ≤ p + 400 ∧ Rd w' rb p') ∧ w.grownBy w' (some rb) := by
  obtain ⟨i0, hi, hz0, hz1, hz2⟩ := info_parts Ent.info_e
  have hrl := h.lt
  have hmx : 1 ≤ maxLen := by unfold maxLen; omega
  go_enter Tryz.func77, Tryz.ntmps77
  go_wp2_with fail
  refine (batch_len rb p now _ h hp h0 h1).mono ?_
  rintro e w1 ⟨L, v, rfl, hl, hE, hO, ⟨p1, hp1, r1⟩, g1⟩
  obtain ⟨g, q, rfl⟩ := hO.form hl.1
  have hEB := hide (fun y (hy : y ∈ L) => entB_of (hE y hy))
  have HO1 := hide hO
  obtain ⟨n, hn⟩ : ∃ n, n = L.length := ⟨_, rfl⟩
  have HN := hide hn
  have hn3 : 1 ≤ n ∧ n ≤ 3 := by omega
  have z1 := g1.size
  rw [← hn]
  clear hO hE h hn hl
  go_wp2_with fail
  refine (pick_any rb p1 _ _ r1 (by omega) (by omega)).mono ?_
  rintro e w2 ⟨K, rfl, K0, K1, -, r2, g2⟩
  have K2 : K < n := K1 (by omega)
  obtain ⟨k, rfl⟩ := Int.eq_ofNat_of_zero_le K0
  have hkL : k < L.length := by rw [← unhide HN]; omega
  have hk1 : (k : Int) < (n : Int) := by omega
  have hk0 : (0 : Int) ≤ (k : Int) := by omega
  have HO2 := hide ((unhide HO1).kept g2 hrl)
  have q2 := grown_trans g1 g2
  clear HO1 g2 g1 r1 K0 K1 K2
  go_wp2_with fail
  refine (pick_any rb (p1 + 1) _ _ r2 (by omega) (by omega)).mono ?_
  rintro e w3 ⟨c, rfl, c0, c1, -, r3, g3⟩
  have HO3 := hide ((unhide HO2).kept g3 hrl)
  have q3 := grown_trans q2 g3
  have z3 := q3.size
  clear HO2 q2 g3 r2 c0 c1
  by_cases hc0 : c = 0
  · subst hc0
    go_wp2_with fail
    refine (anylabels_any rb (p1 + 1 + 1) _ r3 (by omega)).mono ?_
    rintro e w4 ⟨ls, lv, rfl, hls, hlg, hlo, ⟨p4, hp4, r4⟩, g4⟩
    have HO4 := hide ((unhide HO3).kept g4 hrl)
    have q4 := grown_trans q3 g4
    have HL4 := hide (own_mono hlo z3)
    have hge := hide (fun y (hy : y ∈ ls) => good_smallB (hlg y hy))
    obtain ⟨la, lq, rfl⟩ : ∃ a q, lv = .slice a ls.length q := by obtain ⟨-, a, q, e, -⟩ := lies_of_own hlo; exact ⟨a, q, e⟩
    clear HO3 q3 g4 r3 hlo hlg
    have hsl := EntOwn.slot (j := 0) (unhide HO4) hkL (by decide)
    obtain ⟨⟨u, hu⟩, hf, hgb, hgl, hnq, hqm⟩ := hsl
    have hu' : w4.cell? ⟨g, k * 3, none⟩ = some u := hu
    have hf' : w4.frozen? ⟨g, k * 3, none⟩ = false := hf
    obtain ⟨y, hy⟩ : ∃ V, w4.setCell ⟨g, k * 3, none⟩ (.slice la ls.length lq) = V := ⟨_, rfl⟩
    have on := (OnlyAt.refl g w4).setCell (k * 3) (.slice la ls.length lq)
    rw [hy] at on
    have hset := hide (ent_set (k := k) (j := 0) (x := .slice la ls.length lq) (e' := (ls, (Ent.at' L k).2)) (unhide HO4) hkL (.inl ⟨rfl, rfl, unhide HL4⟩))
    have HOy := hide (show EntOwn w.heap.size y (.slice (some ⟨g, 0, none⟩) n q) (L.set k (ls, (Ent.at' L k).2)) by rw [← hy, unhide HN]; exact unhide hset)
    have HBy := hide (entB_set (k := k) (e' := (ls, (Ent.at' L k).2)) (unhide hEB) (⟨unhide hge, hls⟩))
    have ry := hide (show Rd y rb (p4) from r4.grown (grown_only on) (fun j hj => by cases hj; omega))
    have gy := hide (grown_other q4 (grown_only on) (fun j hj => by cases hj; omega))
    rw [← unhide HN] at hnq
    unfold maxLen at hqm
    clear hu hf on hset
    go_wp2_with fail
    go_ret
    exact ⟨L.set k (ls, (Ent.at' L k).2), _, rfl, ⟨by rw [List.length_set, ← unhide HN]; omega, unhide HBy⟩, unhide HOy, ⟨_, by omega, unhide ry⟩, unhide gy⟩
  have hc0' : (c == 0) = false := by simp; omega
  by_cases hc1 : c = 1
  · subst hc1
    obtain ⟨A, hA⟩ : ∃ A, now - 300 = A := ⟨_, rfl⟩
    obtain ⟨B, hB⟩ : ∃ B, A - 1 = B := ⟨_, rfl⟩
    have wA : wrap64 A = A := IntWalk.wrap64_in A ⟨by omega, by omega⟩
    have wB : wrap64 B = B := IntWalk.wrap64_in B ⟨by omega, by omega⟩
    have hone := one_new rb (p1 + 1 + 1) [-1, 10000, A, B] w3 r3 (by omega) (by simp) (by simp)
    simp only [List.map_cons, List.map_nil, List.length_cons, List.length_nil, Nat.zero_add, Nat.reduceAdd] at hone
    have HOne := hide hone
    clear hone
    have hsl0 := EntOwn.slot (j := 0) (unhide HO3) hkL (by decide)
    go_wp2_with fail
    refine (unhide HOne).mono ?_
    rintro e w4 ⟨d, rfl, hd, r4, g4⟩
    have HO4 := hide ((unhide HO3).kept g4 hrl)
    have q4 := grown_trans q3 g4
    clear HOne HO3 q3 g4 r3 hd hsl0
    have hsl := EntOwn.slot (j := 1) (unhide HO4) hkL (by decide)
    obtain ⟨⟨u, hu⟩, hf, hgb, hgl, hnq, hqm⟩ := hsl
    have hu' : w4.cell? ⟨g, k * 3 + 1, none⟩ = some u := hu
    have hf' : w4.frozen? ⟨g, k * 3 + 1, none⟩ = false := hf
    obtain ⟨y, hy⟩ : ∃ V, w4.setCell ⟨g, k * 3 + 1, none⟩ (.int .i64 d) = V := ⟨_, rfl⟩
    have on := (OnlyAt.refl g w4).setCell (k * 3 + 1) (.int .i64 d)
    rw [hy] at on
    have hset := hide (ent_set (k := k) (j := 1) (x := .int .i64 d) (e' := ((Ent.at' L k).1, d, (Ent.at' L k).2.2)) (unhide HO4) hkL (.inr (.inl ⟨rfl, rfl, rfl, rfl⟩)))
    have HOy := hide (show EntOwn w.heap.size y (.slice (some ⟨g, 0, none⟩) n q) (L.set k ((Ent.at' L k).1, d, (Ent.at' L k).2.2)) by rw [← hy, unhide HN]; exact unhide hset)
    have HBy := hide (entB_set (k := k) (e' := ((Ent.at' L k).1, d, (Ent.at' L k).2.2)) (unhide hEB) (⟨(unhide hEB _ (Ent.at_mem L k hkL)).1, (unhide hEB _ (Ent.at_mem L k hkL)).2⟩))
    have ry := hide (show Rd y rb (p1 + 1 + 1 + 1) from r4.grown (grown_only on) (fun j hj => by cases hj; omega))
    have gy := hide (grown_other q4 (grown_only on) (fun j hj => by cases hj; omega))
    rw [← unhide HN] at hnq
    unfold maxLen at hqm
    clear hu hf on hset
    go_wp2_with fail
    go_ret
    exact ⟨L.set k ((Ent.at' L k).1, d, (Ent.at' L k).2.2), _, rfl, ⟨by rw [List.length_set, ← unhide HN]; omega, unhide HBy⟩, unhide HOy, ⟨_, by omega, unhide ry⟩, unhide gy⟩
  have hc1' : (c == 1) = false := by simp; omega
  by_cases hc2 : c = 2
  · subst hc2
    have hone := one_new rb (p1 + 1 + 1) [-1, 2147483648] w3 r3 (by omega) (by simp) (by simp)
    simp only [List.map_cons, List.map_nil, List.length_cons, List.length_nil, Nat.zero_add, Nat.reduceAdd] at hone
    have HOne := hide hone
    clear hone
    have hsl0 := EntOwn.slot (j := 0) (unhide HO3) hkL (by decide)
    go_wp2_with fail
    refine (unhide HOne).mono ?_
    rintro e w4 ⟨d, rfl, hd, r4, g4⟩
    have HO4 := hide ((unhide HO3).kept g4 hrl)
    have q4 := grown_trans q3 g4
    clear HOne HO3 q3 g4 r3 hd hsl0
    have hsl := EntOwn.slot (j := 2) (unhide HO4) hkL (by decide)
    obtain ⟨⟨u, hu⟩, hf, hgb, hgl, hnq, hqm⟩ := hsl
    have hu' : w4.cell? ⟨g, k * 3 + 2, none⟩ = some u := hu
    have hf' : w4.frozen? ⟨g, k * 3 + 2, none⟩ = false := hf
    obtain ⟨y, hy⟩ : ∃ V, w4.setCell ⟨g, k * 3 + 2, none⟩ (.int .i64 d) = V := ⟨_, rfl⟩
    have on := (OnlyAt.refl g w4).setCell (k * 3 + 2) (.int .i64 d)
    rw [hy] at on
    have hset := hide (ent_set (k := k) (j := 2) (x := .int .i64 d) (e' := ((Ent.at' L k).1, (Ent.at' L k).2.1, d)) (unhide HO4) hkL (.inr (.inr ⟨rfl, rfl, rfl, rfl⟩)))
    have HOy := hide (show EntOwn w.heap.size y (.slice (some ⟨g, 0, none⟩) n q) (L.set k ((Ent.at' L k).1, (Ent.at' L k).2.1, d)) by rw [← hy, unhide HN]; exact unhide hset)
    have HBy := hide (entB_set (k := k) (e' := ((Ent.at' L k).1, (Ent.at' L k).2.1, d)) (unhide hEB) (⟨(unhide hEB _ (Ent.at_mem L k hkL)).1, (unhide hEB _ (Ent.at_mem L k hkL)).2⟩))
    have ry := hide (show Rd y rb (p1 + 1 + 1 + 1) from r4.grown (grown_only on) (fun j hj => by cases hj; omega))
    have gy := hide (grown_other q4 (grown_only on) (fun j hj => by cases hj; omega))
    rw [← unhide HN] at hnq
    unfold maxLen at hqm
    clear hu hf on hset
    go_wp2_with fail
    go_ret
    exact ⟨L.set k ((Ent.at' L k).1, (Ent.at' L k).2.1, d), _, rfl, ⟨by rw [List.length_set, ← unhide HN]; omega, unhide HBy⟩, unhide HOy, ⟨_, by omega, unhide ry⟩, unhide gy⟩
  have hc2' : (c == 2) = false := by simp; omega
  by_cases hc3 : c = 3
  · subst hc3
    have HE := hide (ent_nil (w := w3) (base := w.heap.size) z3)
    have b3 : Below w3.heap.size w3 (w3.alloc (.cells #[] 62)) := (Below.refl _ _).alloc (Nat.le_refl _) _
    have r4 := hide (r3.below b3)
    have q4 := hide (grown_trans q3 (grown_below b3))
    clear r3 q3 b3
    go_wp2_with fail
    go_ret
    exact ⟨[], _, rfl, ⟨by simp, by simp⟩, unhide HE, ⟨_, by omega, unhide r4⟩, unhide q4⟩
  have hc3' : (c == 3) = false := by simp; omega
  by_cases hc4 : c = 4
  · subst hc4
    go_wp2_with fail
    go_loopw [5] (fun ov wr => ∃ (M : List Ent.E) (g q p' : Nat), ov = .slice (some ⟨g, 0, none⟩) M.length q ∧ (1 ≤ M.length ∧ M.length ≤ 7) ∧ p' ≤ p1 + 2 + M.length ∧ Hid (∀ y ∈ M, entB y) ∧ Hid (EntOwn w.heap.size wr (.slice (some ⟨g, 0, none⟩) M.length q) M) ∧ Rd wr rb p' ∧ w.grownBy wr (some rb)) (fun ov _ => roomOf ov)
    case atStart => exact ⟨L, g, q, p1 + 1 + 1, by rw [unhide HN], by rw [← unhide HN]; omega, by omega, hEB, HO3, r3, q3⟩
    case round =>
      clear HO3 r3 q3 hEB HN hkL hk1 hk0
      obtain ⟨M, g, q, p', rfl, hm, hp', HB, HO, hrd, hg⟩ := hrel
      obtain ⟨m, hmm⟩ : ∃ m, m = M.length := ⟨_, rfl⟩
      have HM := hide hmm
      rw [← hmm] at hm hp' HO ⊢
      clear hmm
      go_wp2_with fail
      refine (pick_any rb p' _ _ hrd (by omega) (by omega)).mono ?_
      rintro e w4 ⟨x, rfl, x0, x1, -, r4, g4⟩
      have x2 : x < 2 := x1 (by omega)
      have HO4 := hide ((unhide HO).kept g4 hrl)
      have q4 := grown_trans hg g4
      obtain ⟨X, hX⟩ : ∃ X, 6 + x = X := ⟨_, rfl⟩
      have wX : wrap64 X = X := IntWalk.wrap64_in X ⟨by omega, by omega⟩
      clear HO hrd hg g4 x1
      by_cases hlt : (m : Int) < X
      · obtain ⟨cs, hcs, oo, oi⟩ := unhide HO4
        rw [← unhide HM] at oo oi
        have h0m : 0 < M.length := by rw [← unhide HM]; omega
        have e0 := oi 0 (by omega)
        have f0 := flatOf_get Ent.clk cs 0 0 (by omega) (by omega)
        have f1 := flatOf_get Ent.clk cs 0 1 (by omega) (by omega)
        have f2 := flatOf_get Ent.clk cs 0 2 (by omega) (by omega)
        obtain ⟨⟨l0, T0, V0⟩, hC⟩ : ∃ c, c = Ent.cat cs 0 := ⟨_, rfl⟩
        rw [← Ent.cat_get cs 0 (by omega), ← hC] at f0 f1 f2
        rw [← hC] at e0
        obtain ⟨e1, e2, e3⟩ := e0
        simp only at e1 e2 e3
        subst e2 e3
        obtain ⟨la, lq, rfl⟩ : ∃ a q, l0 = .slice a (Ent.at' M 0).1.length q := by obtain ⟨-, a, q, e, -⟩ := lies_of_own e1; exact ⟨a, q, e⟩
        have k0 : w4.cell? ⟨g, 0, none⟩ = some (.slice la (Ent.at' M 0).1.length lq) := by rw [oo.cellAt 0 (by omega)]; exact f0
        have k1 : w4.cell? ⟨g, 1, none⟩ = some (.int .i64 (Ent.at' M 0).2.1) := by rw [oo.cellAt 1 (by omega)]; exact f1
        have k2 : w4.cell? ⟨g, 2, none⟩ = some (.int .i64 (Ent.at' M 0).2.2) := by rw [oo.cellAt 2 (by omega)]; exact f2
        have hx := hide (unhide HB _ (Ent.at_mem M 0 h0m))
        obtain ⟨X0, hX0⟩ : ∃ x, x = Ent.at' M 0 := ⟨_, rfl⟩
        rw [← hX0] at k0 k1 k2 e1 hx
        obtain ⟨ls, T, V⟩ := X0
        simp only at k0 k1 k2 e1
        have hz4 := q4.size
        have oo' := oo
        have OO := hide oo
        have OI := hide oi
        have OX := hide e1
        have hm0 : (0 : Int) < (m : Int) := by omega
        clear f0 f1 f2 hC hX0 oi oo e1 HO4
        go_wp2_with (at_builtin; refine app_wp _ rfl _ _ _ rfl w.heap.size 62 i0 _ 3 40 Tryz.underlying34 hi hz0 hz1 hz2 rfl (by omega) _ m _ rfl (oo'.alloc _) _ 1 [.slice la ls.length lq, .int .i64 T, .int .i64 V] rfl (lies_new rfl rfl hmx) (by simp [Value.oneCell']) (by unfold maxLen; omega) (by omega) (by simp; omega) ?_; intro vn w9 on gn an)
        have ge := own_ge oo'
        have hb9 : Below w4.heap.size w4 (w4.alloc (.cells #[.slice la ls.length lq, .int .i64 T, .int .i64 V] 62)) := (Below.refl _ _).alloc (Nat.le_refl _) _
        have M9 := hide (ent_app (x := (ls, T, V)) hcs (by rw [← unhide HM]; exact unhide OO) (by rw [← unhide HM]; exact unhide OI) (unhide OX) hb9 (by rw [← unhide HM]) rfl on gn)
        have R := hide (show w.grownBy w9 (some rb) from grown_other (grown_trans q4 (grown_below hb9)) gn ge)
        have R1 := hide (show Rd w9 rb (p' + 1) from (r4.below hb9).grown gn (fun k hk => by have := ge k hk; omega))
        have hB9 := hide (show ∀ y ∈ M ++ [(ls, T, V)], entB y from fun y hy => by
          rw [List.mem_append, List.mem_singleton] at hy
          rcases hy with hy | rfl
          · exact unhide HB y hy
          · exact unhide hx)
        obtain ⟨ng, nq, rfl⟩ := (unhide M9).form (by simp)
        have hl9 : (M ++ [(ls, T, V)]).length = m + 1 := by rw [List.length_append, ← unhide HM]; rfl
        rw [hl9] at M9 ⊢
        clear on gn ge q4 r4 an OO OI OX oo' hb9
        go_wp2_with fail
        go_roundw
        case rel => exact ⟨M ++ [(ls, T, V)], ng, nq, p' + 1, by rw [hl9], by rw [hl9]; omega, by rw [hl9]; omega, hB9, by rw [hl9]; exact M9, unhide R1, unhide R⟩
        case measure => simp [roomOf]; omega
      · have hlt' : decide ((m : Int) < X) = false := by simp; omega
        rw [unhide HM] at HO4
        go_wp2_with fail
        go_ret
        exact ⟨M, _, by rw [unhide HM]; rfl, ⟨by rw [← unhide HM]; omega, unhide HB⟩, unhide HO4, ⟨p' + 1, by omega, r4⟩, q4⟩
  have hc4' : (c == 4) = false := by simp; omega
  go_wp2_with fail
  go_ret
  exact ⟨L, _, rfl, ⟨by rw [← unhide HN]; omega, unhide hEB⟩, by have := unhide HO3; rw [← unhide HN] at this; exact this, ⟨_, by omega, r3⟩, q3⟩
end Go.Proofs.YtlboekimnhgfdaaGreat.Draw

/- A table and entries are drawn. -/
namespace Go.Proofs.YtlboekimnhgfdaaGreat.Draw
open Go.RowKit Rw
set_option linter.unusedVariables false
set_option linter.unusedSimpArgs false
attribute [local go_sem ↓] Go.wp_at_zero Go.wp_at_succ
/-- what DrawTableAdd answers -/
def TAdded (w : World) (e : Ending) (w' : World) : Prop :=
  ∃ (L : List Row.E) (v bv : Value) (b : List Ent.E) (H F : Int), e = .returned (.tuple #[.agg #[v, .int .i64 H, .int .i64 F], bv]) ∧ TG L H F ∧ Row.Is w' v L ∧ (b.length ≤ 7 ∧ ∀ x ∈ b, entB x) ∧ Ent.Is w' bv b ∧ Below w.heap.size w w'
theorem ent_form {w : World} {v : Value} {b : List Ent.E} (h : Ent.Is w v b) : ∃ a q, v = .slice a b.length q := by obtain ⟨cs, -, hL, -⟩ := h; obtain ⟨-, a, q, e, -⟩ := hL; exact ⟨a, q, e⟩
set_option maxRecDepth 100000 in
set_option maxHeartbeats 16000000 in
theorem draw_tadd {a : Option Addr} {len cap : Nat} {zs : List Int} (w0 w : World) (h : IsRow .u8 w0 a len cap zs) (hB : Below w0.heap.size w0 w) :
    Calls Tryz.prog 37 #[.slice a len cap] w (TAdded w) := by
  obtain ⟨W, hW⟩ : ∃ W, W = w.alloc (.cells #[.slice none 0 0, .int .i64 0, .int .i64 0] 30) := ⟨_, rfl⟩
  have bW : Below w.heap.size w W := by rw [hW]; exact (Below.refl _ _).alloc (Nat.le_refl _) _
  have zW : W.heap.size = w.heap.size + 1 := by rw [hW]; simp
  have RZ : W.ownsRow w.heap.size 30 3 (.slice (some ⟨w.heap.size, 0, none⟩) 1 1) 1 [.slice none 0 0, .int .i64 0, .int .i64 0] := by rw [hW]; exact Tab.own_new3 (Nat.le_refl _) rfl
  have hne : w.heap.size ≠ W.heap.size := by omega
  have HO := hide (open_any w0 W h (hB.trans (bW.mono hB.size)))
  clear h hB
  go_enter Tryz.func37, Tryz.ntmps37
  go_wp2_with fail
  rw [← hW]
  clear hW
  refine (unhide HO).mono ?_
  rintro e w1 ⟨rfl, r1, b1⟩
  have z1 := r1.lt
  have RZ1 := hide (own_below RZ b1)
  obtain ⟨rb, hrb⟩ : ∃ k, k = W.heap.size := ⟨_, rfl⟩
  have c1 := bW.trans (b1.mono bW.size)
  clear b1 bW
  rw [← hrb] at r1 z1 hne zW ⊢
  have hwb : w.heap.size < rb := by omega
  clear RZ HO hrb zW
  go_wp2_with fail
  refine (anytable_any rb 0 _ r1 (by omega)).mono ?_
  rintro e w2 ⟨L, H, F, now, ra, rl, rq, rfl, hnow, hTG, hF, ⟨p2, hp2, r2⟩, g2⟩
  have z2 := g2.size
  have RZ2 := hide (Tab.box_kept (unhide RZ1) g2 hne)
  have HTG := hide hTG
  obtain ⟨sd2, sf2, so2, bb2, zz2⟩ := Tab.box_new (w := w2) (base := rb + 1) (.slice ra rl rq) H F (by omega)
  obtain ⟨V2, hV2⟩ : ∃ V, w2.alloc (.cells #[.slice ra rl rq, .int .i64 H, .int .i64 0] 30) = V := ⟨_, rfl⟩
  rw [hV2] at sd2 sf2 so2 bb2 zz2
  obtain ⟨W2, hW2⟩ : ∃ V, V2.setCell ⟨w2.heap.size, 2, none⟩ (.int .i64 F) = V := ⟨_, rfl⟩
  rw [hW2] at so2 bb2 zz2
  have r3 := r2.below bb2
  have RZ3 := hide (own_below (unhide RZ2) bb2)
  have g3 := grown_trans g2 (grown_below bb2)
  have k3 := grown_below (r := some rb) bb2
  have HF1 := hide hF
  have HSo := hide so2
  have hrr : rb < rb + 1 := Nat.lt_succ_self _
  clear RZ1 RZ2 r1 r2 g2 bb2 hF hTG so2
  have HS := hide (fun (X : World) (gx : W2.grownBy X (some rb)) => Tab.box_three (own_kept (unhide HSo) gx hrr))
  have gD : W2.grownBy W2.drew (some rb) := grown_below ((Below.refl _ _).drew)
  have rD := rd_drew r3
  have HBt := hide (anybatch_any rb p2 now W2.drew rD (by omega) (by omega) (by omega))
  have hsD := unhide HS W2.drew gD
  have zD : W2.drew.heap.size = W2.heap.size := by simp
  have z22 : w2.heap.size < W2.heap.size := zz2
  clear r3
  go_wp2_with fail
  refine Grl.start (S := fun X => X.cell? ⟨w2.heap.size, 0, none⟩ = some (.slice ra rl rq) ∧ X.cell? ⟨w2.heap.size, 1, none⟩ = some (.int .i64 H) ∧ X.cell? ⟨w2.heap.size, 2, none⟩ = some (.int .i64 F)) (by kernel_rfl) (by exact hsD) (fun hHeld => ?_)
  refine Grl.yes 0 (v := ?_) rfl (by kernel_rfl) (by kernel_rfl) (by kernel_rfl) (fun _ _ _ h => h) (by kernel_rfl) ?_ (by assumption) ?_
  rotate_left
  · (intro w hSw; (try dsimp only at hSw); go_simp; try with_reducible rfl)
  simp only [Act.put, List.setIfInBounds_toArray, List.set_cons_zero, List.set_cons_succ]
  refine Grl.yes 1 (v := ?_) rfl (by kernel_rfl) (by kernel_rfl) (by kernel_rfl) (fun _ _ _ h => h) (by kernel_rfl) ?_ (by assumption) ?_
  rotate_left
  · (intro w hSw; (try dsimp only at hSw); go_simp; try with_reducible rfl)
  simp only [Act.put, List.setIfInBounds_toArray, List.set_cons_zero, List.set_cons_succ]
  refine Grl.yes 2 (v := ?_) rfl (by kernel_rfl) (by kernel_rfl) (by kernel_rfl) (fun _ _ _ h => h) (by kernel_rfl) ?_ (by assumption) ?_
  rotate_left
  · (intro w hSw; (try dsimp only at hSw); go_simp; try with_reducible rfl)
  simp only [Act.put, List.setIfInBounds_toArray, List.set_cons_zero, List.set_cons_succ]
  refine Grl.one 3 rfl (by kernel_rfl) (fun K hK => ?_)
  go_simp
  go_wp2_with (refine (unhide HBt).mono ?_; rintro e w4 ⟨b, bv, rfl, hb7, hbo, ⟨p4, hp4, r4⟩, g4⟩; have gI4 : W2.grownBy w4 (some rb) := grown_trans gD g4; have hs4 := unhide HS w4 gI4; have RZ4 := Tab.box_kept (unhide RZ3) gI4 hne; have hq0 : w.heap.size ≠ w2.heap.size := (by omega); obtain ⟨ba, bq, hbv⟩ := ent_form hbo.is; subst hbv; obtain ⟨⟨pc9a, pf9a⟩, ⟨pc9b, pf9b⟩, ⟨pc9c, pf9c⟩, so9, on9⟩ := Tab.box_put (w := w4) (.slice ra rl rq) (.int .i64 H) (.int .i64 F) RZ4; obtain ⟨y9a, hy9a⟩ : ∃ V, w4.setCell ⟨w.heap.size, 0, none⟩ (.slice ra rl rq) = V := ⟨_, rfl⟩; rw [hy9a] at pc9b pf9b pc9c pf9c so9 on9; obtain ⟨y9b, hy9b⟩ : ∃ V, y9a.setCell ⟨w.heap.size, 1, none⟩ (.int .i64 H) = V := ⟨_, rfl⟩; rw [hy9b] at pc9c pf9c so9 on9; obtain ⟨y9, hy9⟩ : ∃ V, y9b.setCell ⟨w.heap.size, 2, none⟩ (.int .i64 F) = V := ⟨_, rfl⟩; rw [hy9] at so9 on9; have hs9 : y9.cell? ⟨w2.heap.size, 0, none⟩ = some (.slice ra rl rq) ∧ y9.cell? ⟨w2.heap.size, 1, none⟩ = some (.int .i64 H) ∧ y9.cell? ⟨w2.heap.size, 2, none⟩ = some (.int .i64 F) := (And.intro ((World.cell?_of_block (a := ⟨w2.heap.size, 0, none⟩) (on9.block _ (Ne.symm hq0))).trans hs4.1) (And.intro ((World.cell?_of_block (a := ⟨w2.heap.size, 1, none⟩) (on9.block _ (Ne.symm hq0))).trans hs4.2.1) ((World.cell?_of_block (a := ⟨w2.heap.size, 2, none⟩) (on9.block _ (Ne.symm hq0))).trans hs4.2.2))))
  refine hK.out _ _ (by exact hs4) (fun hHeld => ?_)
  clear hK K
  refine Grl.one 4 rfl (by kernel_rfl) (fun K hK => ?_)
  go_simp
  skip
  refine hK.out _ _ (by exact hs9) (fun hHeld => ?_)
  clear hK K
  refine Grl.yes 5 (v := ?_) rfl (by kernel_rfl) (by kernel_rfl) (by kernel_rfl) (fun _ _ _ h => h) (by kernel_rfl) ?_ (by assumption) ?_
  rotate_left
  · (intro w hSw; (try dsimp only at hSw); go_simp; try with_reducible rfl)
  simp only [Act.put, List.setIfInBounds_toArray, List.set_cons_zero, List.set_cons_succ]
  refine wpAnyH_done (by kernel_rfl) ?_ _
  obtain ⟨e0, e1, e2⟩ := Tab.box_three so9
  have z4 := gI4.size
  have HRy := hide ((((unhide HF1).grown (grown_trans k3 gI4) (by omega)).only on9 (by omega)).is)
  have HBy := hide (hbo.only on9 (by omega)).is
  have by9 := hide ((c1.trans (below_of_grown (grown_trans g3 gI4) (show w.heap.size ≤ rb by omega) (by omega))).trans (on9.below (Nat.le_refl _)))
  clear HF1 g3 k3 so9 on9 RZ4 RZ3 HS HSo hbo
  go_wp2_with fail
  refine bodyPost_ret (v := .tuple #[.agg #[.slice ra rl rq, .int .i64 H, .int .i64 F], .slice ba b.length bq]) (by simp [results, Tryz.results37, go_sem, e0, e1, e2]) rfl ?_
  exact ⟨L, _, _, b, H, F, rfl, unhide HTG, unhide HRy, hb7, unhide HBy, unhide by9⟩
end Go.Proofs.YtlboekimnhgfdaaGreat.Draw
