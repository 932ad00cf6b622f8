/- My own texts of one claim, laid together by program: AlTable, DrawTab, DrawTab2, DrawTab3. -/
import Derived.Test.YtlboekimnhgfdaaGreatGd17d87ff78
import Derived.Test.YtlboekimnhgfdaaGreatGca9424efef
import Derived.Test.YtlboekimnhgfdaaGreatG3c4306df0f
import Derived.Test.YtlboekimnhgfdaaGreatG53c016a3b0
/- Two tables that say the same are the same to the laws. No condition. -/
namespace Go.Proofs.YtlboekimnhgfdaaGreat.Tab
open Go.RowKit Rw
set_option linter.unusedVariables false
attribute [local go_sem ↓] Go.wp_at_zero Go.wp_at_succ
theorem row_form {w : World} {v : Value} {zs : List Row.E} (h : Row.Is w v zs) : ∃ a q, v = .slice a zs.length q := by obtain ⟨cs, -, hL, -⟩ := h; obtain ⟨-, a, q, e, -⟩ := hL; exact ⟨a, q, e⟩
set_option maxHeartbeats 4000000 in
theorem al_table {v u : Value} {zs : List Row.E} {H F : Int} {w : World} (h : Row.Is w v zs) (h' : Row.Is w u zs) :
    Calls Tryz.prog 23 #[.agg #[v, .int .i64 H, .int .i64 F], .agg #[u, .int .i64 H, .int .i64 F]] w fun e w' => e = .returned (.bool true) ∧ Below w.heap.size w w' := by
  have A := hide (fun W (hb : Below w.heap.size w W) => Row.al_rows (h.below hb) (h'.below hb))
  obtain ⟨va, vq, rfl⟩ := row_form h
  obtain ⟨ua, uq, rfl⟩ := row_form h'
  generalize zs.length = n at A ⊢
  have b : Below w.heap.size w ((w.alloc (.cells #[.slice va n vq, .int .i64 H, .int .i64 F] 30)).alloc (.cells #[.slice ua n uq, .int .i64 H, .int .i64 F] 30)) := ((Below.refl _ _).alloc (Nat.le_refl _) _).alloc (by simp) _
  clear h h'
  go_enter Tryz.func23, Tryz.ntmps23
  go_wp2_with fail
  refine (unhide A _ b).mono ?_
  rintro e w1 ⟨rfl, b1⟩
  have d1 := b.trans (b1.mono b.size)
  go_wp2_with fail
  go_ret
  exact ⟨rfl, d1⟩
end Go.Proofs.YtlboekimnhgfdaaGreat.Tab

/- Tables are drawn: l13AnyTable; with matches and times; with an age. -/
namespace Go.Proofs.YtlboekimnhgfdaaGreat.Draw
open Go.RowKit Rw
set_option linter.unusedVariables false
set_option linter.unusedSimpArgs false
attribute [local go_sem ↓] Go.wp_at_zero Go.wp_at_succ
/-- a table as it is drawn: mostly ok, at times not -/
def TG (L : List Row.E) (H F : Int) : Prop := RG L ∧ -2 ≤ H ∧ H ≤ 10000 ∧ -100 ≤ F ∧ F ≤ 10099
theorem tg_ok {L : List Row.E} {H F : Int} (h : Tab.tabB (L, H, F)) : TG L H F := by
  have h2 := h.2.1
  have h3 := h.2.2
  simp only at h2 h3
  exact ⟨rg_ok h.1, by omega, by omega, by omega, by omega⟩
set_option maxRecDepth 100000 in
set_option maxHeartbeats 16000000 in
theorem anytable_any (rb p : Nat) (w : World) (h : Rd w rb p) (hp : p ≤ 200000) :
    Calls Tryz.prog 52 #[.pointer (some ⟨rb, 0, none⟩)] w fun e w' => ∃ (L : List Row.E) (H F now : Int) (ra : Option Addr) (rl rq : Nat), e = .returned (.tuple #[.agg #[.slice ra rl rq, .int .i64 H, .int .i64 F], .int .i64 now]) ∧ (0 ≤ now ∧ now ≤ 2000) ∧ TG L H F ∧ Row.IsF w.heap.size w' (.slice ra rl rq) L ∧ (∃ p', p' ≤ p + 4000 ∧ Rd w' rb p') ∧ w.grownBy w' (some rb) := by
  have hrl := h.lt
  obtain ⟨W, hW⟩ : ∃ W, W = w.alloc (.cells #[.slice none 0 0, .int .i64 0, .int .i64 0] 30) := ⟨_, rfl⟩
  have bW : Below w.heap.size w W := by rw [hW]; exact (Below.refl _ _).alloc (Nat.le_refl _) _
  have zW : W.heap.size = w.heap.size + 1 := by rw [hW]; simp
  have RZ : W.ownsRow w.heap.size 30 3 (.slice (some ⟨w.heap.size, 0, none⟩) 1 1) 1 [.slice none 0 0, .int .i64 0, .int .i64 0] := by rw [hW]; exact Tab.own_new3 (Nat.le_refl _) rfl
  have HT := hide (table_any rb p W (h.below bW) (by omega))
  clear h
  go_enter Tryz.func52, Tryz.ntmps52
  go_wp2_with fail
  rw [← hW]
  clear hW
  refine (unhide HT).mono ?_
  rintro e w1 ⟨L, H, F, now, ra, rl, rq, rfl, hnow, hB, hF, ⟨p1, hp1, r1⟩, g1⟩
  have z1 := g1.size
  have hwz1 : w.heap.size < w1.heap.size := by omega
  have RZ1 := hide (own_kept RZ g1 hrl)
  have hTG := hide (tg_ok hB)
  have hHF := And.intro hB.2.1 hB.2.2
  simp only at hHF
  obtain ⟨sd2, sf2, so2, bb2, zz2⟩ := Tab.box_new (w := w1) (base := w.heap.size) (.slice ra rl rq) H F (by omega)
  obtain ⟨V2, hV2⟩ : ∃ V, w1.alloc (.cells #[.slice ra rl rq, .int .i64 H, .int .i64 0] 30) = V := ⟨_, rfl⟩
  rw [hV2] at sd2 sf2 so2 bb2 zz2
  obtain ⟨W2, hW2⟩ : ∃ V, V2.setCell ⟨w1.heap.size, 2, none⟩ (.int .i64 F) = V := ⟨_, rfl⟩
  rw [hW2] at so2 bb2 zz2
  have HSo2 := hide so2
  have r2 := r1.below bb2
  have RZ2 := hide (own_below (unhide RZ1) bb2)
  have HF1 := hide hF
  have g2 := grown_trans (grown_trans (grown_below (r := some rb) bW) g1) (grown_below bb2)
  clear RZ RZ1 HT hB hF g1 r1 bW so2
  go_wp2_with fail
  refine (pick_any rb p1 _ _ r2 (by omega) (by omega)).mono ?_
  rintro e w3 ⟨c, rfl, c0, c1, -, r3, g3⟩
  have so3 := own_kept (unhide HSo2) g3 hrl
  have RZ3 := hide (own_kept (unhide RZ2) g3 hrl)
  have k3 := grown_trans (grown_below (r := some rb) bb2) g3
  have q3 := grown_trans g2 g3
  have hrW : rb < W.heap.size := by omega
  clear HSo2 RZ2 r2 g2 g3 hV2 hW2 sd2 sf2
  by_cases hc0 : c = 0
  · subst hc0
    have hone := one_new rb (p1 + 1) [-2, 0, 10000] w3 r3 (by omega) (by simp) (by simp)
    simp only [List.map_cons, List.map_nil, List.length_cons, List.length_nil, Nat.zero_add, Nat.reduceAdd] at hone
    have HOne := hide hone
    clear hone
    go_wp2_with fail
    refine (unhide HOne).mono ?_
    rintro e w5 ⟨d, rfl, hd, r5, g5⟩
    have hd' : -100 ≤ d ∧ d ≤ 10099 := by simp only [List.mem_cons, List.not_mem_nil, or_false] at hd; omega
    have hd2 : -2 ≤ d ∧ d ≤ 10000 := by simp only [List.mem_cons, List.not_mem_nil, or_false] at hd; omega
    have so5 := own_kept so3 g5 hrl
    have RZ5 := hide (own_kept (unhide RZ3) g5 hrl)
    have k5 := grown_trans k3 g5
    have q5 := grown_trans q3 g5
    clear hd HOne so3 RZ3 r3 q3 k3 g5
    have kc : w5.cell? ⟨w1.heap.size, 1, none⟩ = some (.int .i64 H) := by rw [so5.cellAt 1 (by omega)]; rfl
    have kf := so5.frozenAt 1
    have ks := (so5.stored 1 (.int .i64 d)).1
    obtain ⟨y5, hy5⟩ : ∃ V, w5.setCell ⟨w1.heap.size, 1, none⟩ (.int .i64 d) = V := ⟨_, rfl⟩
    rw [hy5] at ks
    have so6 : y5.ownsRow w.heap.size 30 3 (.slice (some ⟨w1.heap.size, 0, none⟩) 1 1) 1 [.slice ra rl rq, .int .i64 d, .int .i64 F] := ks
    have on5 := (OnlyAt.refl w1.heap.size w5).setCell 1 (.int .i64 d)
    rw [hy5] at on5
    have r6 : Rd y5 rb (p1 + 1 + 1) := r5.grown (grown_only on5) (fun j hj => by cases hj; omega)
    have RZ6 := hide (on5.own (unhide RZ5) (fun k hk => by simp only [Value.ownBlock, Option.some.injEq] at hk; omega))
    have HF6 := hide ((unhide HF1).grown (grown_other k5 (grown_only on5) (fun j hj => by cases hj; exact Nat.le_refl _)) hrW)
    have q6 := grown_other q5 (grown_only on5) (fun j hj => by cases hj; omega)
    clear ks on5 r5 RZ5 HF1 k5 q5 so5
    obtain ⟨x0, x1, x2⟩ := Tab.box_three so6
    obtain ⟨⟨pc9a, pf9a⟩, ⟨pc9b, pf9b⟩, ⟨pc9c, pf9c⟩, so9, on9⟩ := Tab.box_put (w := y5) (.slice ra rl rq) (.int .i64 d) (.int .i64 F) (unhide RZ6)
    obtain ⟨y9a, hy9a⟩ : ∃ V, y5.setCell ⟨w.heap.size, 0, none⟩ (.slice ra rl rq) = V := ⟨_, rfl⟩
    rw [hy9a] at pc9b pf9b pc9c pf9c so9 on9
    obtain ⟨y9b, hy9b⟩ : ∃ V, y9a.setCell ⟨w.heap.size, 1, none⟩ (.int .i64 d) = V := ⟨_, rfl⟩
    rw [hy9b] at pc9c pf9c so9 on9
    obtain ⟨y9, hy9⟩ : ∃ V, y9b.setCell ⟨w.heap.size, 2, none⟩ (.int .i64 F) = V := ⟨_, rfl⟩
    rw [hy9] at so9 on9
    obtain ⟨e0, e1, e2⟩ := Tab.box_three so9
    have ry := hide (show Rd y9 rb (p1 + 1 + 1) from r6.grown (grown_only on9) (fun j hj => by cases hj; omega))
    have gy := hide (grown_other q6 (grown_only on9) (fun j hj => by cases hj; exact Nat.le_refl _))
    have HFy := hide ((unhide HF6).only on9 (by omega))
    clear on9 so9
    go_wp2_with fail
    refine bodyPost_ret (v := .tuple #[.agg #[.slice ra rl rq, .int .i64 d, .int .i64 F], .int .i64 now]) (by simp [results, Tryz.results52, go_sem, e0, e1, e2]) rfl ?_
    exact ⟨L, d, F, now, ra, rl, rq, rfl, hnow, ⟨(unhide hTG).1, by omega, by omega, by omega, by omega⟩, (unhide HFy).mono (by omega), ⟨p1 + 1 + 1, by omega, unhide ry⟩, unhide gy⟩
  have hc0' : (c == 0) = false := by simp; omega
  by_cases hc1 : c = 1
  · subst hc1
    have kl : w3.cell? ⟨w1.heap.size, 2, none⟩ = some (.int .i64 F) := by rw [so3.cellAt 2 (by omega)]; rfl
    obtain ⟨G, hG⟩ : ∃ G, F + 100 = G := ⟨_, rfl⟩
    have hGw : wrap64 G = G := IntWalk.wrap64_in G ⟨by omega, by omega⟩
    have hone := one_new rb (p1 + 1) [-100, 50, G] w3 r3 (by omega) (by simp) (by simp)
    simp only [List.map_cons, List.map_nil, List.length_cons, List.length_nil, Nat.zero_add, Nat.reduceAdd] at hone
    have HOne := hide hone
    clear hone
    go_wp2_with fail
    refine (unhide HOne).mono ?_
    rintro e w5 ⟨d, rfl, hd, r5, g5⟩
    have hd' : -100 ≤ d ∧ d ≤ 10099 := by simp only [List.mem_cons, List.not_mem_nil, or_false] at hd; omega
    have so5 := own_kept so3 g5 hrl
    have RZ5 := hide (own_kept (unhide RZ3) g5 hrl)
    have k5 := grown_trans k3 g5
    have q5 := grown_trans q3 g5
    clear hd HOne so3 RZ3 r3 q3 k3 g5
    have kc : w5.cell? ⟨w1.heap.size, 2, none⟩ = some (.int .i64 F) := by rw [so5.cellAt 2 (by omega)]; rfl
    have kf := so5.frozenAt 2
    have ks := (so5.stored 2 (.int .i64 d)).1
    obtain ⟨y5, hy5⟩ : ∃ V, w5.setCell ⟨w1.heap.size, 2, none⟩ (.int .i64 d) = V := ⟨_, rfl⟩
    rw [hy5] at ks
    have so6 : y5.ownsRow w.heap.size 30 3 (.slice (some ⟨w1.heap.size, 0, none⟩) 1 1) 1 [.slice ra rl rq, .int .i64 H, .int .i64 d] := ks
    have on5 := (OnlyAt.refl w1.heap.size w5).setCell 2 (.int .i64 d)
    rw [hy5] at on5
    have r6 : Rd y5 rb (p1 + 1 + 1) := r5.grown (grown_only on5) (fun j hj => by cases hj; omega)
    have RZ6 := hide (on5.own (unhide RZ5) (fun k hk => by simp only [Value.ownBlock, Option.some.injEq] at hk; omega))
    have HF6 := hide ((unhide HF1).grown (grown_other k5 (grown_only on5) (fun j hj => by cases hj; exact Nat.le_refl _)) hrW)
    have q6 := grown_other q5 (grown_only on5) (fun j hj => by cases hj; omega)
    clear ks on5 r5 RZ5 HF1 k5 q5 so5
    obtain ⟨x0, x1, x2⟩ := Tab.box_three so6
    obtain ⟨⟨pc9a, pf9a⟩, ⟨pc9b, pf9b⟩, ⟨pc9c, pf9c⟩, so9, on9⟩ := Tab.box_put (w := y5) (.slice ra rl rq) (.int .i64 H) (.int .i64 d) (unhide RZ6)
    obtain ⟨y9a, hy9a⟩ : ∃ V, y5.setCell ⟨w.heap.size, 0, none⟩ (.slice ra rl rq) = V := ⟨_, rfl⟩
    rw [hy9a] at pc9b pf9b pc9c pf9c so9 on9
    obtain ⟨y9b, hy9b⟩ : ∃ V, y9a.setCell ⟨w.heap.size, 1, none⟩ (.int .i64 H) = V := ⟨_, rfl⟩
    rw [hy9b] at pc9c pf9c so9 on9
    obtain ⟨y9, hy9⟩ : ∃ V, y9b.setCell ⟨w.heap.size, 2, none⟩ (.int .i64 d) = V := ⟨_, rfl⟩
    rw [hy9] at so9 on9
    obtain ⟨e0, e1, e2⟩ := Tab.box_three so9
    have ry := hide (show Rd y9 rb (p1 + 1 + 1) from r6.grown (grown_only on9) (fun j hj => by cases hj; omega))
    have gy := hide (grown_other q6 (grown_only on9) (fun j hj => by cases hj; exact Nat.le_refl _))
    have HFy := hide ((unhide HF6).only on9 (by omega))
    clear on9 so9
    go_wp2_with fail
    refine bodyPost_ret (v := .tuple #[.agg #[.slice ra rl rq, .int .i64 H, .int .i64 d], .int .i64 now]) (by simp [results, Tryz.results52, go_sem, e0, e1, e2]) rfl ?_
    exact ⟨L, H, d, now, ra, rl, rq, rfl, hnow, ⟨(unhide hTG).1, by omega, by omega, by omega, by omega⟩, (unhide HFy).mono (by omega), ⟨p1 + 1 + 1, by omega, unhide ry⟩, unhide gy⟩
  have hc1' : (c == 1) = false := by simp; omega
  by_cases hc2 : c = 2
  · subst hc2
    go_wp2_with fail
    refine (anyrows_any rb (p1 + 1) 0 _ r3 (by omega) (by omega) (by omega)).mono ?_
    rintro e w5 ⟨L2, v2, rfl, hRG2, hF5, ⟨p5, hp5, r5⟩, g5⟩
    obtain ⟨ra2, rq2, rfl⟩ := Tab.row_form hF5.is
    obtain ⟨rl2, hrl2⟩ : ∃ n, n = L2.length := ⟨_, rfl⟩
    rw [← hrl2] at hF5 ⊢
    clear hrl2
    have zg5 := g5.size
    have zg3 := q3.size
    have hw3 : w1.heap.size + 1 ≤ w3.heap.size := by have := own_lt so3; omega
    have so5 := own_kept so3 g5 hrl
    have RZ5 := hide (own_kept (unhide RZ3) g5 hrl)
    have q5 := grown_trans q3 g5
    have kc : w5.cell? ⟨w1.heap.size, 0, none⟩ = some (.slice ra rl rq) := by rw [so5.cellAt 0 (by omega)]; rfl
    have kf := so5.frozenAt 0
    have ks := (so5.stored 0 (.slice ra2 rl2 rq2)).1
    obtain ⟨y5, hy5⟩ : ∃ V, w5.setCell ⟨w1.heap.size, 0, none⟩ (.slice ra2 rl2 rq2) = V := ⟨_, rfl⟩
    rw [hy5] at ks
    have so6 : y5.ownsRow w.heap.size 30 3 (.slice (some ⟨w1.heap.size, 0, none⟩) 1 1) 1 [.slice ra2 rl2 rq2, .int .i64 H, .int .i64 F] := ks
    have on5 := (OnlyAt.refl w1.heap.size w5).setCell 0 (.slice ra2 rl2 rq2)
    rw [hy5] at on5
    have r6 : Rd y5 rb p5 := r5.grown (grown_only on5) (fun j hj => by cases hj; omega)
    have RZ6 := hide (on5.own (unhide RZ5) (fun k hk => by simp only [Value.ownBlock, Option.some.injEq] at hk; omega))
    have HF6 := hide ((hF5.only on5 (by omega)).mono (show w.heap.size + 1 ≤ w3.heap.size by omega))
    have q6 := grown_other q5 (grown_only on5) (fun j hj => by cases hj; omega)
    clear ks on5 r5 RZ5 hF5 q5 so5 HF1 so3 RZ3 r3 q3 k3 g5
    obtain ⟨x0, x1, x2⟩ := Tab.box_three so6
    obtain ⟨⟨pc9a, pf9a⟩, ⟨pc9b, pf9b⟩, ⟨pc9c, pf9c⟩, so9, on9⟩ := Tab.box_put (w := y5) (.slice ra2 rl2 rq2) (.int .i64 H) (.int .i64 F) (unhide RZ6)
    obtain ⟨y9a, hy9a⟩ : ∃ V, y5.setCell ⟨w.heap.size, 0, none⟩ (.slice ra2 rl2 rq2) = V := ⟨_, rfl⟩
    rw [hy9a] at pc9b pf9b pc9c pf9c so9 on9
    obtain ⟨y9b, hy9b⟩ : ∃ V, y9a.setCell ⟨w.heap.size, 1, none⟩ (.int .i64 H) = V := ⟨_, rfl⟩
    rw [hy9b] at pc9c pf9c so9 on9
    obtain ⟨y9, hy9⟩ : ∃ V, y9b.setCell ⟨w.heap.size, 2, none⟩ (.int .i64 F) = V := ⟨_, rfl⟩
    rw [hy9] at so9 on9
    obtain ⟨e0, e1, e2⟩ := Tab.box_three so9
    have ry := hide (show Rd y9 rb (p5) from r6.grown (grown_only on9) (fun j hj => by cases hj; omega))
    have gy := hide (grown_other q6 (grown_only on9) (fun j hj => by cases hj; exact Nat.le_refl _))
    have HFy := hide ((unhide HF6).only on9 (by omega))
    clear on9 so9
    go_wp2_with fail
    refine bodyPost_ret (v := .tuple #[.agg #[.slice ra2 rl2 rq2, .int .i64 H, .int .i64 F], .int .i64 now]) (by simp [results, Tryz.results52, go_sem, e0, e1, e2]) rfl ?_
    exact ⟨L2, H, F, now, ra2, rl2, rq2, rfl, hnow, ⟨hRG2, by omega, by omega, by omega, by omega⟩, (unhide HFy).mono (by omega), ⟨p5, by omega, unhide ry⟩, unhide gy⟩
  have hc2' : (c == 2) = false := by simp; omega
  have HF6 := hide ((unhide HF1).grown k3 hrW)
  obtain ⟨x0, x1, x2⟩ := Tab.box_three so3
  obtain ⟨⟨pc9a, pf9a⟩, ⟨pc9b, pf9b⟩, ⟨pc9c, pf9c⟩, so9, on9⟩ := Tab.box_put (w := w3) (.slice ra rl rq) (.int .i64 H) (.int .i64 F) (unhide RZ3)
  obtain ⟨y9a, hy9a⟩ : ∃ V, w3.setCell ⟨w.heap.size, 0, none⟩ (.slice ra rl rq) = V := ⟨_, rfl⟩
  rw [hy9a] at pc9b pf9b pc9c pf9c so9 on9
  obtain ⟨y9b, hy9b⟩ : ∃ V, y9a.setCell ⟨w.heap.size, 1, none⟩ (.int .i64 H) = V := ⟨_, rfl⟩
  rw [hy9b] at pc9c pf9c so9 on9
  obtain ⟨y9, hy9⟩ : ∃ V, y9b.setCell ⟨w.heap.size, 2, none⟩ (.int .i64 F) = V := ⟨_, rfl⟩
  rw [hy9] at so9 on9
  obtain ⟨e0, e1, e2⟩ := Tab.box_three so9
  have ry := hide (show Rd y9 rb (p1 + 1) from r3.grown (grown_only on9) (fun j hj => by cases hj; omega))
  have gy := hide (grown_other q3 (grown_only on9) (fun j hj => by cases hj; exact Nat.le_refl _))
  have HFy := hide ((unhide HF6).only on9 (by omega))
  clear on9 so9
  go_wp2_with fail
  refine bodyPost_ret (v := .tuple #[.agg #[.slice ra rl rq, .int .i64 H, .int .i64 F], .int .i64 now]) (by simp [results, Tryz.results52, go_sem, e0, e1, e2]) rfl ?_
  exact ⟨L, H, F, now, ra, rl, rq, rfl, hnow, unhide hTG, (unhide HFy).mono (by omega), ⟨p1 + 1, by omega, unhide ry⟩, unhide gy⟩
end Go.Proofs.YtlboekimnhgfdaaGreat.Draw

/- A table, matches and times are drawn. -/
namespace Go.Proofs.YtlboekimnhgfdaaGreat.Draw
open Go.RowKit Rw
set_option linter.unusedVariables false
set_option linter.unusedSimpArgs false
attribute [local go_sem ↓] Go.wp_at_zero Go.wp_at_succ
/-- what DrawTableDrop and DrawTableAsk answer -/
def TDrawn (w : World) (e : Ending) (w' : World) : Prop :=
  ∃ (L : List Row.E) (ms : List Mat.E) (v u : Value) (H F A B : Int), e = .returned (.tuple #[.agg #[v, .int .i64 H, .int .i64 F], u, .int .i64 A, .int .i64 B]) ∧ TG L H F ∧ Row.IsF w.heap.size w' v L ∧ (ms.length ≤ 20 ∧ ∀ x ∈ ms, Mat.good x) ∧ w'.ownsRow w.heap.size 86 3 u ms.length (Mat.flat ms) ∧ (-1 ≤ A ∧ A ≤ 510 ∧ -2 ≤ B ∧ B ≤ 11000) ∧ Below w.heap.size w w'
set_option maxRecDepth 100000 in
set_option maxHeartbeats 16000000 in
theorem draw_tdrop {a : Option Addr} {len cap : Nat} {zs : List Int} (w0 w : World) (h : IsRow .u8 w0 a len cap zs) (hB : Below w0.heap.size w0 w) :
    Calls Tryz.prog 21 #[.slice a len cap] w (TDrawn w) := by
  obtain ⟨W, hW⟩ : ∃ W, W = w.alloc (.cells #[.slice none 0 0, .int .i64 0, .int .i64 0] 30) := ⟨_, rfl⟩
  have bW : Below w.heap.size w W := by rw [hW]; exact (Below.refl _ _).alloc (Nat.le_refl _) _
  have zW : W.heap.size = w.heap.size + 1 := by rw [hW]; simp
  have RZ : W.ownsRow w.heap.size 30 3 (.slice (some ⟨w.heap.size, 0, none⟩) 1 1) 1 [.slice none 0 0, .int .i64 0, .int .i64 0] := by rw [hW]; exact Tab.own_new3 (Nat.le_refl _) rfl
  have hne : w.heap.size ≠ W.heap.size := by omega
  have HO := hide (open_any w0 W h (hB.trans (bW.mono hB.size)))
  clear h hB
  go_enter Tryz.func21, Tryz.ntmps21
  go_wp2_with fail
  rw [← hW]
  clear hW
  refine (unhide HO).mono ?_
  rintro e w1 ⟨rfl, r1, b1⟩
  have z1 := r1.lt
  have RZ1 := hide (own_below RZ b1)
  obtain ⟨rb, hrb⟩ : ∃ k, k = W.heap.size := ⟨_, rfl⟩
  have c1 := bW.trans (b1.mono bW.size)
  clear b1 bW
  rw [← hrb] at r1 z1 hne zW ⊢
  have hwb : w.heap.size < rb := by omega
  clear RZ HO hrb zW
  go_wp2_with fail
  refine (anytable_any rb 0 _ r1 (by omega)).mono ?_
  rintro e w2 ⟨L, H, F, now, ra, rl, rq, rfl, hnow, hTG, hF, ⟨p2, hp2, r2⟩, g2⟩
  have z2 := g2.size
  have RZ2 := hide (Tab.box_kept (unhide RZ1) g2 hne)
  have HTG := hide hTG
  obtain ⟨sd2, sf2, so2, bb2, zz2⟩ := Tab.box_new (w := w2) (base := rb + 1) (.slice ra rl rq) H F (by omega)
  obtain ⟨V2, hV2⟩ : ∃ V, w2.alloc (.cells #[.slice ra rl rq, .int .i64 H, .int .i64 0] 30) = V := ⟨_, rfl⟩
  rw [hV2] at sd2 sf2 so2 bb2 zz2
  obtain ⟨W2, hW2⟩ : ∃ V, V2.setCell ⟨w2.heap.size, 2, none⟩ (.int .i64 F) = V := ⟨_, rfl⟩
  rw [hW2] at so2 bb2 zz2
  have r3 := r2.below bb2
  have RZ3 := hide (own_below (unhide RZ2) bb2)
  have g3 := grown_trans g2 (grown_below bb2)
  have k3 := grown_below (r := some rb) bb2
  have HF1 := hide hF
  have HSo := hide so2
  have hrr : rb < rb + 1 := Nat.lt_succ_self _
  clear RZ1 RZ2 r1 r2 g2 bb2 hF hTG so2
  go_wp2_with fail
  refine (anymatches_any rb p2 _ r3 (by omega)).mono ?_
  rintro e w3 ⟨ms, u, rfl, hm20, hsm, om, ⟨p3, hp3, r4⟩, g4⟩
  have z4 := g4.size
  have hW2z : w2.heap.size + 1 ≤ W2.heap.size := zz2
  have HMG := hide (show ms.length ≤ 20 ∧ ∀ x ∈ ms, Mat.good x from ⟨hm20, fun x hx => good_smallM (hsm x hx)⟩)
  have HM4 := hide om
  obtain ⟨ua, uq, rfl⟩ : ∃ a q, u = .slice a ms.length q := by obtain ⟨-, a, q, e, -⟩ := lies_of_own om; exact ⟨a, q, e⟩
  have so4 := hide (own_kept (unhide HSo) g4 hrr)
  have RZ4 := hide (Tab.box_kept (unhide RZ3) g4 hne)
  have q4 := grown_trans g3 g4
  have k4 := grown_trans k3 g4
  clear om hsm hm20 r3 RZ3 HSo g3 k3 g4 hV2 hW2 sd2 sf2
  go_wp2_with fail
  refine (span_any rb p3 _ r4 (by omega)).mono ?_
  rintro e w4 ⟨A, B, rfl, hA0, hA1, hB0, hB1, r5, g5⟩
  have so5 := own_kept (unhide so4) g5 hrr
  have RZ5 := Tab.box_kept (unhide RZ4) g5 hne
  have q5 := grown_trans q4 g5
  have k5 := grown_trans k4 g5
  have z5 := g5.size
  have HM5 := hide (own_kept (unhide HM4) g5 (by omega))
  clear so4 RZ4 HM4 q4 k4 g5 r4 r5
  obtain ⟨x0, x1, x2⟩ := Tab.box_three so5
  obtain ⟨⟨pc9a, pf9a⟩, ⟨pc9b, pf9b⟩, ⟨pc9c, pf9c⟩, so9, on9⟩ := Tab.box_put (w := w4) (.slice ra rl rq) (.int .i64 H) (.int .i64 F) RZ5
  obtain ⟨y9a, hy9a⟩ : ∃ V, w4.setCell ⟨w.heap.size, 0, none⟩ (.slice ra rl rq) = V := ⟨_, rfl⟩
  rw [hy9a] at pc9b pf9b pc9c pf9c so9 on9
  obtain ⟨y9b, hy9b⟩ : ∃ V, y9a.setCell ⟨w.heap.size, 1, none⟩ (.int .i64 H) = V := ⟨_, rfl⟩
  rw [hy9b] at pc9c pf9c so9 on9
  obtain ⟨y9, hy9⟩ : ∃ V, y9b.setCell ⟨w.heap.size, 2, none⟩ (.int .i64 F) = V := ⟨_, rfl⟩
  rw [hy9] at so9 on9
  obtain ⟨e0, e1, e2⟩ := Tab.box_three so9
  have on9' := hide on9
  clear on9 so9
  have HRy := hide ((((unhide HF1).grown k5 (by omega)).only (unhide on9') (by omega)).mono (show w.heap.size ≤ w1.heap.size by omega))
  have HMy := hide (own_mono ((unhide on9').own (unhide HM5) (fun k hk => by have := own_ge (unhide HM5) k hk; omega)) (show w.heap.size ≤ W2.heap.size by omega))
  have by9 := hide ((c1.trans (below_of_grown q5 (show w.heap.size ≤ rb by omega) (by omega))).trans ((unhide on9').below (Nat.le_refl _)))
  clear HF1 HM5 q5 k5 so5 RZ5
  go_wp2_with fail
  refine bodyPost_ret (v := .tuple #[.agg #[.slice ra rl rq, .int .i64 H, .int .i64 F], .slice ua ms.length uq, .int .i64 A, .int .i64 B]) (by simp [results, Tryz.results21, go_sem, e0, e1, e2]) rfl ?_
  exact ⟨L, ms, _, _, H, F, A, B, rfl, unhide HTG, unhide HRy, unhide HMG, unhide HMy, ⟨hA0, hA1, hB0, hB1⟩, unhide by9⟩
set_option maxRecDepth 100000 in
set_option maxHeartbeats 16000000 in
theorem draw_task {a : Option Addr} {len cap : Nat} {zs : List Int} (w0 w : World) (h : IsRow .u8 w0 a len cap zs) (hB : Below w0.heap.size w0 w) :
    Calls Tryz.prog 30 #[.slice a len cap] w (TDrawn w) := by
  obtain ⟨W, hW⟩ : ∃ W, W = w.alloc (.cells #[.slice none 0 0, .int .i64 0, .int .i64 0] 30) := ⟨_, rfl⟩
  have bW : Below w.heap.size w W := by rw [hW]; exact (Below.refl _ _).alloc (Nat.le_refl _) _
  have zW : W.heap.size = w.heap.size + 1 := by rw [hW]; simp
  have RZ : W.ownsRow w.heap.size 30 3 (.slice (some ⟨w.heap.size, 0, none⟩) 1 1) 1 [.slice none 0 0, .int .i64 0, .int .i64 0] := by rw [hW]; exact Tab.own_new3 (Nat.le_refl _) rfl
  have hne : w.heap.size ≠ W.heap.size := by omega
  have HO := hide (draw_tdrop w0 W h (hB.trans (bW.mono hB.size)))
  clear h hB
  go_enter Tryz.func30, Tryz.ntmps30
  go_wp2_with fail
  rw [← hW]
  clear hW
  refine (unhide HO).mono ?_
  rintro e w1 ⟨L, ms, v, u, H, F, A, B, rfl, h1, h2, h3, h4, h5, h6⟩
  obtain ⟨va, vq, rfl⟩ := Tab.row_form h2.is
  obtain ⟨ua, un, uq, rfl⟩ : ∃ a n q, u = .slice a n q := by obtain ⟨-, a, q, e, -⟩ := lies_of_own h4; exact ⟨a, _, q, e⟩
  obtain ⟨vn, hvn⟩ : ∃ n, n = L.length := ⟨_, rfl⟩
  rw [← hvn] at h2 ⊢
  clear hvn
  have RZ1 := own_below RZ h6
  have z6 := h6.size
  have c1 := hide (bW.trans (h6.mono bW.size))
  have HR := hide h2
  have HMm := hide h4
  have HAll := hide (And.intro h1 (And.intro h3 h5))
  clear h1 h2 h3 h4 h5 h6 HO RZ bW
  obtain ⟨⟨pc9a, pf9a⟩, ⟨pc9b, pf9b⟩, ⟨pc9c, pf9c⟩, so9, on9⟩ := Tab.box_put (w := w1) (.slice va vn vq) (.int .i64 H) (.int .i64 F) RZ1
  obtain ⟨y9a, hy9a⟩ : ∃ V, w1.setCell ⟨w.heap.size, 0, none⟩ (.slice va vn vq) = V := ⟨_, rfl⟩
  rw [hy9a] at pc9b pf9b pc9c pf9c so9 on9
  obtain ⟨y9b, hy9b⟩ : ∃ V, y9a.setCell ⟨w.heap.size, 1, none⟩ (.int .i64 H) = V := ⟨_, rfl⟩
  rw [hy9b] at pc9c pf9c so9 on9
  obtain ⟨y9, hy9⟩ : ∃ V, y9b.setCell ⟨w.heap.size, 2, none⟩ (.int .i64 F) = V := ⟨_, rfl⟩
  rw [hy9] at so9 on9
  obtain ⟨e0, e1, e2⟩ := Tab.box_three so9
  have by9 := hide ((unhide c1).trans (on9.below (Nat.le_refl _)))
  have HR9 := hide (((unhide HR).only on9 (by omega)).mono (show w.heap.size ≤ W.heap.size by omega))
  have HM9 := hide (own_mono (on9.own (unhide HMm) (fun k hk => by have := own_ge (unhide HMm) k hk; omega)) (show w.heap.size ≤ W.heap.size by omega))
  clear on9 so9 RZ1 c1 HR HMm
  go_wp2_with fail
  refine bodyPost_ret (v := .tuple #[.agg #[.slice va vn vq, .int .i64 H, .int .i64 F], .slice ua un uq, .int .i64 A, .int .i64 B]) (by simp [results, Tryz.results30, go_sem, e0, e1, e2]) rfl ?_
  exact ⟨L, ms, _, _, H, F, A, B, rfl, (unhide HAll).1, unhide HR9, (unhide HAll).2.1, unhide HM9, (unhide HAll).2.2, unhide by9⟩
end Go.Proofs.YtlboekimnhgfdaaGreat.Draw

/- A table and an age are drawn. -/
namespace Go.Proofs.YtlboekimnhgfdaaGreat.Draw
open Go.RowKit Rw
set_option linter.unusedVariables false
set_option linter.unusedSimpArgs false
attribute [local go_sem ↓] Go.wp_at_zero Go.wp_at_succ
/-- what DrawTableKeep answers -/
def TKept (w : World) (e : Ending) (w' : World) : Prop :=
  ∃ (L : List Row.E) (v : Value) (H F age : Int), e = .returned (.tuple #[.agg #[v, .int .i64 H, .int .i64 F], .int .i64 age]) ∧ TG L H F ∧ Row.Is w' v L ∧ (-1 ≤ age ∧ age ≤ 20000) ∧ Below w.heap.size w w'
set_option maxRecDepth 100000 in
set_option maxHeartbeats 16000000 in
theorem draw_tkeep {a : Option Addr} {len cap : Nat} {zs : List Int} (w0 w : World) (h : IsRow .u8 w0 a len cap zs) (hB : Below w0.heap.size w0 w) :
    Calls Tryz.prog 34 #[.slice a len cap] w (TKept w) := by
  obtain ⟨W, hW⟩ : ∃ W, W = w.alloc (.cells #[.slice none 0 0, .int .i64 0, .int .i64 0] 30) := ⟨_, rfl⟩
  have bW : Below w.heap.size w W := by rw [hW]; exact (Below.refl _ _).alloc (Nat.le_refl _) _
  have zW : W.heap.size = w.heap.size + 1 := by rw [hW]; simp
  have RZ : W.ownsRow w.heap.size 30 3 (.slice (some ⟨w.heap.size, 0, none⟩) 1 1) 1 [.slice none 0 0, .int .i64 0, .int .i64 0] := by rw [hW]; exact Tab.own_new3 (Nat.le_refl _) rfl
  have hne : w.heap.size ≠ W.heap.size := by omega
  have HO := hide (open_any w0 W h (hB.trans (bW.mono hB.size)))
  clear h hB
  go_enter Tryz.func34, Tryz.ntmps34
  go_wp2_with fail
  rw [← hW]
  clear hW
  refine (unhide HO).mono ?_
  rintro e w1 ⟨rfl, r1, b1⟩
  have z1 := r1.lt
  have RZ1 := hide (own_below RZ b1)
  obtain ⟨rb, hrb⟩ : ∃ k, k = W.heap.size := ⟨_, rfl⟩
  have c1 := bW.trans (b1.mono bW.size)
  clear b1 bW
  rw [← hrb] at r1 z1 hne zW ⊢
  have hwb : w.heap.size < rb := by omega
  clear RZ HO hrb zW
  go_wp2_with fail
  refine (anytable_any rb 0 _ r1 (by omega)).mono ?_
  rintro e w2 ⟨L, H, F, now, ra, rl, rq, rfl, hnow, hTG, hF, ⟨p2, hp2, r2⟩, g2⟩
  have z2 := g2.size
  have RZ2 := hide (Tab.box_kept (unhide RZ1) g2 hne)
  have HTG := hide hTG
  obtain ⟨sd2, sf2, so2, bb2, zz2⟩ := Tab.box_new (w := w2) (base := rb + 1) (.slice ra rl rq) H F (by omega)
  obtain ⟨V2, hV2⟩ : ∃ V, w2.alloc (.cells #[.slice ra rl rq, .int .i64 H, .int .i64 0] 30) = V := ⟨_, rfl⟩
  rw [hV2] at sd2 sf2 so2 bb2 zz2
  obtain ⟨W2, hW2⟩ : ∃ V, V2.setCell ⟨w2.heap.size, 2, none⟩ (.int .i64 F) = V := ⟨_, rfl⟩
  rw [hW2] at so2 bb2 zz2
  have r3 := r2.below bb2
  have RZ3 := hide (own_below (unhide RZ2) bb2)
  have g3 := grown_trans g2 (grown_below bb2)
  have k3 := grown_below (r := some rb) bb2
  have HF1 := hide hF
  have HSo := hide so2
  have hrr : rb < rb + 1 := Nat.lt_succ_self _
  clear RZ1 RZ2 r1 r2 g2 bb2 hF hTG so2
  have HS := hide (fun (X : World) (gx : W2.grownBy X (some rb)) => Tab.box_three (own_kept (unhide HSo) gx hrr))
  have gD : W2.grownBy W2.drew (some rb) := grown_below ((Below.refl _ _).drew)
  have rD := rd_drew r3
  obtain ⟨wI, hwI⟩ : ∃ V, W2.drew.alloc (.cells #[.int .i64 0, .int .i64 100, .int .i64 150, .int .i64 300, .int .i64 (-1), .int .i64 20000] 3) = V := ⟨_, rfl⟩
  have gI : W2.grownBy wI (some rb) := grown_trans gD (grown_below (by rw [← hwI]; exact (Below.refl _ _).alloc (Nat.le_refl _) _))
  have hone := one_new rb p2 [0, 100, 150, 300, -1, 20000] W2.drew rD (by omega) (by simp) (by simp)
  simp only [List.map_cons, List.map_nil, List.length_cons, List.length_nil, Nat.zero_add, Nat.reduceAdd] at hone
  rw [hwI] at hone
  have HOne := hide hone
  have hsD := unhide HS W2.drew gD
  have hsI := unhide HS wI gI
  clear hone r3
  go_wp2_with fail
  refine Grl.start (S := fun X => X.cell? ⟨w2.heap.size, 0, none⟩ = some (.slice ra rl rq) ∧ X.cell? ⟨w2.heap.size, 1, none⟩ = some (.int .i64 H) ∧ X.cell? ⟨w2.heap.size, 2, none⟩ = some (.int .i64 F)) (by kernel_rfl) (by exact hsD) (fun hHeld => ?_)
  refine Grl.yes 0 (v := ?_) rfl (by kernel_rfl) (by kernel_rfl) (by kernel_rfl) (fun _ _ _ h => h) (by kernel_rfl) ?_ (by assumption) ?_
  rotate_left
  · (intro w hSw; (try dsimp only at hSw); go_simp; try with_reducible rfl)
  simp only [Act.put, List.setIfInBounds_toArray, List.set_cons_zero, List.set_cons_succ]
  refine Grl.yes 1 (v := ?_) rfl (by kernel_rfl) (by kernel_rfl) (by kernel_rfl) (fun _ _ _ h => h) (by kernel_rfl) ?_ (by assumption) ?_
  rotate_left
  · (intro w hSw; (try dsimp only at hSw); go_simp; try with_reducible rfl)
  simp only [Act.put, List.setIfInBounds_toArray, List.set_cons_zero, List.set_cons_succ]
  refine Grl.one 2 rfl (by kernel_rfl) (fun K hK => ?_)
  go_simp
  skip
  refine hK.out _ _ (by exact hsI) (fun hHeld => ?_)
  clear hK K
  refine Grl.one 3 rfl (by kernel_rfl) (fun K hK => ?_)
  go_simp
  go_wp2_with (refine (unhide HOne).mono ?_; rintro e w4 ⟨age, rfl, hage, r4, g4⟩; have hage' : -1 ≤ age ∧ age ≤ 20000 := (by simp only [List.mem_cons, List.not_mem_nil, or_false] at hage; omega); have gI4 : W2.grownBy w4 (some rb) := grown_trans gD g4; have hs4 := unhide HS w4 gI4; have RZ4 := Tab.box_kept (unhide RZ3) gI4 hne; have hq0 : w.heap.size ≠ w2.heap.size := (by omega); obtain ⟨⟨pc9a, pf9a⟩, ⟨pc9b, pf9b⟩, ⟨pc9c, pf9c⟩, so9, on9⟩ := Tab.box_put (w := w4) (.slice ra rl rq) (.int .i64 H) (.int .i64 F) RZ4; obtain ⟨y9a, hy9a⟩ : ∃ V, w4.setCell ⟨w.heap.size, 0, none⟩ (.slice ra rl rq) = V := ⟨_, rfl⟩; rw [hy9a] at pc9b pf9b pc9c pf9c so9 on9; obtain ⟨y9b, hy9b⟩ : ∃ V, y9a.setCell ⟨w.heap.size, 1, none⟩ (.int .i64 H) = V := ⟨_, rfl⟩; rw [hy9b] at pc9c pf9c so9 on9; obtain ⟨y9, hy9⟩ : ∃ V, y9b.setCell ⟨w.heap.size, 2, none⟩ (.int .i64 F) = V := ⟨_, rfl⟩; rw [hy9] at so9 on9; have hs9 : y9.cell? ⟨w2.heap.size, 0, none⟩ = some (.slice ra rl rq) ∧ y9.cell? ⟨w2.heap.size, 1, none⟩ = some (.int .i64 H) ∧ y9.cell? ⟨w2.heap.size, 2, none⟩ = some (.int .i64 F) := (And.intro ((World.cell?_of_block (a := ⟨w2.heap.size, 0, none⟩) (on9.block _ (Ne.symm hq0))).trans hs4.1) (And.intro ((World.cell?_of_block (a := ⟨w2.heap.size, 1, none⟩) (on9.block _ (Ne.symm hq0))).trans hs4.2.1) ((World.cell?_of_block (a := ⟨w2.heap.size, 2, none⟩) (on9.block _ (Ne.symm hq0))).trans hs4.2.2))))
  refine hK.out _ _ (by exact hs4) (fun hHeld => ?_)
  clear hK K
  refine Grl.one 4 rfl (by kernel_rfl) (fun K hK => ?_)
  go_simp
  skip
  refine hK.out _ _ (by exact hs9) (fun hHeld => ?_)
  clear hK K
  refine Grl.yes 5 (v := ?_) rfl (by kernel_rfl) (by kernel_rfl) (by kernel_rfl) (fun _ _ _ h => h) (by kernel_rfl) ?_ (by assumption) ?_
  rotate_left
  · (intro w hSw; (try dsimp only at hSw); go_simp; try with_reducible rfl)
  simp only [Act.put, List.setIfInBounds_toArray, List.set_cons_zero, List.set_cons_succ]
  refine wpAnyH_done (by kernel_rfl) ?_ _
  obtain ⟨e0, e1, e2⟩ := Tab.box_three so9
  have z4 := gI4.size
  have HRy := hide ((((unhide HF1).grown (grown_trans k3 gI4) (by omega)).only on9 (by omega)).is)
  have by9 := hide ((c1.trans (below_of_grown (grown_trans g3 gI4) (show w.heap.size ≤ rb by omega) (by omega))).trans (on9.below (Nat.le_refl _)))
  clear HF1 g3 k3 so9 on9 RZ4 RZ3 HS HSo
  go_wp2_with fail
  refine bodyPost_ret (v := .tuple #[.agg #[.slice ra rl rq, .int .i64 H, .int .i64 F], .int .i64 age]) (by simp [results, Tryz.results34, go_sem, e0, e1, e2]) rfl ?_
  exact ⟨L, _, H, F, age, rfl, unhide HTG, unhide HRy, hage', unhide by9⟩
end Go.Proofs.YtlboekimnhgfdaaGreat.Draw
