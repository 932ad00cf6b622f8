/- My own texts of one claim, laid together by program: DrawTabNb, TabTell, NbCall, FnTableOldWalk. -/
import Derived.Test.YtlboekimnhgfdaaGreatG40a3abda7d
import Derived.Test.YtlboekimnhgfdaaGreatGbd4081e095
import Derived.Test.YtlboekimnhgfdaaGreatGb90a33e9ef
import Derived.Test.YtlboekimnhgfdaaGreatG26ff8db5a8
import Derived.Test.YtlboekimnhgfdaaGreatG4824091ae2
import Derived.Test.YtlboekimnhgfdaaGreatGb95247b3ff
import Derived.Test.YtlboekimnhgfdaaGreatG6122d20f6e
/- A table and entries are drawn: no labels of the table bear the name nobody. -/
namespace Go.Proofs.YtlboekimnhgfdaaGreat.Draw
open Go.RowKit Rw
set_option linter.unusedVariables false
set_option linter.unusedSimpArgs false
attribute [local go_sem ↓] Go.wp_at_zero Go.wp_at_succ
set_option maxRecDepth 100000 in
set_option maxHeartbeats 16000000 in
theorem anytable_nb (rb p : Nat) (w : World) (h : Rd w rb p) (hp : p ≤ 200000) :
    Calls Tryz.prog 52 #[.pointer (some ⟨rb, 0, none⟩)] w fun e w' => ∃ (L : List Row.E) (H F now : Int) (ra : Option Addr) (rl rq : Nat), e = .returned (.tuple #[.agg #[.slice ra rl rq, .int .i64 H, .int .i64 F], .int .i64 now]) ∧ (0 ≤ now ∧ now ≤ 2000) ∧ (TG L H F ∧ NBR L) ∧ Row.IsF w.heap.size w' (.slice ra rl rq) L ∧ (∃ p', p' ≤ p + 4000 ∧ Rd w' rb p') ∧ w.grownBy w' (some rb) := by
  have hrl := h.lt
  obtain ⟨W, hW⟩ : ∃ W, W = w.alloc (.cells #[.slice none 0 0, .int .i64 0, .int .i64 0] 30) := ⟨_, rfl⟩
  have bW : Below w.heap.size w W := by rw [hW]; exact (Below.refl _ _).alloc (Nat.le_refl _) _
  have zW : W.heap.size = w.heap.size + 1 := by rw [hW]; simp
  have RZ : W.ownsRow w.heap.size 30 3 (.slice (some ⟨w.heap.size, 0, none⟩) 1 1) 1 [.slice none 0 0, .int .i64 0, .int .i64 0] := by rw [hW]; exact Tab.own_new3 (Nat.le_refl _) rfl
  have HT := hide (table_nb rb p W (h.below bW) (by omega))
  clear h
  go_enter Tryz.func52, Tryz.ntmps52
  go_wp2_with fail
  rw [← hW]
  clear hW
  refine (unhide HT).mono ?_
  rintro e w1 ⟨L, H, F, now, ra, rl, rq, rfl, hnow, hB, hF, ⟨p1, hp1, r1⟩, g1⟩
  have z1 := g1.size
  have hwz1 : w.heap.size < w1.heap.size := by omega
  have RZ1 := hide (own_kept RZ g1 hrl)
  have hTG := hide (tg_ok hB.1)
  have hNB := hide hB.2
  have hHF := And.intro hB.1.2.1 hB.1.2.2
  simp only at hHF
  obtain ⟨sd2, sf2, so2, bb2, zz2⟩ := Tab.box_new (w := w1) (base := w.heap.size) (.slice ra rl rq) H F (by omega)
  obtain ⟨V2, hV2⟩ : ∃ V, w1.alloc (.cells #[.slice ra rl rq, .int .i64 H, .int .i64 0] 30) = V := ⟨_, rfl⟩
  rw [hV2] at sd2 sf2 so2 bb2 zz2
  obtain ⟨W2, hW2⟩ : ∃ V, V2.setCell ⟨w1.heap.size, 2, none⟩ (.int .i64 F) = V := ⟨_, rfl⟩
  rw [hW2] at so2 bb2 zz2
  have HSo2 := hide so2
  have r2 := r1.below bb2
  have RZ2 := hide (own_below (unhide RZ1) bb2)
  have HF1 := hide hF
  have g2 := grown_trans (grown_trans (grown_below (r := some rb) bW) g1) (grown_below bb2)
  clear RZ RZ1 HT hB hF g1 r1 bW so2
  go_wp2_with fail
  refine (pick_any rb p1 _ _ r2 (by omega) (by omega)).mono ?_
  rintro e w3 ⟨c, rfl, c0, c1, -, r3, g3⟩
  have so3 := own_kept (unhide HSo2) g3 hrl
  have RZ3 := hide (own_kept (unhide RZ2) g3 hrl)
  have k3 := grown_trans (grown_below (r := some rb) bb2) g3
  have q3 := grown_trans g2 g3
  have hrW : rb < W.heap.size := by omega
  clear HSo2 RZ2 r2 g2 g3 hV2 hW2 sd2 sf2
  by_cases hc0 : c = 0
  · subst hc0
    have hone := one_new rb (p1 + 1) [-2, 0, 10000] w3 r3 (by omega) (by simp) (by simp)
    simp only [List.map_cons, List.map_nil, List.length_cons, List.length_nil, Nat.zero_add, Nat.reduceAdd] at hone
    have HOne := hide hone
    clear hone
    go_wp2_with fail
    refine (unhide HOne).mono ?_
    rintro e w5 ⟨d, rfl, hd, r5, g5⟩
    have hd' : -100 ≤ d ∧ d ≤ 10099 := by simp only [List.mem_cons, List.not_mem_nil, or_false] at hd; omega
    have hd2 : -2 ≤ d ∧ d ≤ 10000 := by simp only [List.mem_cons, List.not_mem_nil, or_false] at hd; omega
    have so5 := own_kept so3 g5 hrl
    have RZ5 := hide (own_kept (unhide RZ3) g5 hrl)
    have k5 := grown_trans k3 g5
    have q5 := grown_trans q3 g5
    clear hd HOne so3 RZ3 r3 q3 k3 g5
    have kc : w5.cell? ⟨w1.heap.size, 1, none⟩ = some (.int .i64 H) := by rw [so5.cellAt 1 (by omega)]; rfl
    have kf := so5.frozenAt 1
    have ks := (so5.stored 1 (.int .i64 d)).1
    obtain ⟨y5, hy5⟩ : ∃ V, w5.setCell ⟨w1.heap.size, 1, none⟩ (.int .i64 d) = V := ⟨_, rfl⟩
    rw [hy5] at ks
    have so6 : y5.ownsRow w.heap.size 30 3 (.slice (some ⟨w1.heap.size, 0, none⟩) 1 1) 1 [.slice ra rl rq, .int .i64 d, .int .i64 F] := ks
    have on5 := (OnlyAt.refl w1.heap.size w5).setCell 1 (.int .i64 d)
    rw [hy5] at on5
    have r6 : Rd y5 rb (p1 + 1 + 1) := r5.grown (grown_only on5) (fun j hj => by cases hj; omega)
    have RZ6 := hide (on5.own (unhide RZ5) (fun k hk => by simp only [Value.ownBlock, Option.some.injEq] at hk; omega))
    have HF6 := hide ((unhide HF1).grown (grown_other k5 (grown_only on5) (fun j hj => by cases hj; exact Nat.le_refl _)) hrW)
    have q6 := grown_other q5 (grown_only on5) (fun j hj => by cases hj; omega)
    clear ks on5 r5 RZ5 HF1 k5 q5 so5
    obtain ⟨x0, x1, x2⟩ := Tab.box_three so6
    obtain ⟨⟨pc9a, pf9a⟩, ⟨pc9b, pf9b⟩, ⟨pc9c, pf9c⟩, so9, on9⟩ := Tab.box_put (w := y5) (.slice ra rl rq) (.int .i64 d) (.int .i64 F) (unhide RZ6)
    obtain ⟨y9a, hy9a⟩ : ∃ V, y5.setCell ⟨w.heap.size, 0, none⟩ (.slice ra rl rq) = V := ⟨_, rfl⟩
    rw [hy9a] at pc9b pf9b pc9c pf9c so9 on9
    obtain ⟨y9b, hy9b⟩ : ∃ V, y9a.setCell ⟨w.heap.size, 1, none⟩ (.int .i64 d) = V := ⟨_, rfl⟩
    rw [hy9b] at pc9c pf9c so9 on9
    obtain ⟨y9, hy9⟩ : ∃ V, y9b.setCell ⟨w.heap.size, 2, none⟩ (.int .i64 F) = V := ⟨_, rfl⟩
    rw [hy9] at so9 on9
    obtain ⟨e0, e1, e2⟩ := Tab.box_three so9
    have ry := hide (show Rd y9 rb (p1 + 1 + 1) from r6.grown (grown_only on9) (fun j hj => by cases hj; omega))
    have gy := hide (grown_other q6 (grown_only on9) (fun j hj => by cases hj; exact Nat.le_refl _))
    have HFy := hide ((unhide HF6).only on9 (by omega))
    clear on9 so9
    go_wp2_with fail
    refine bodyPost_ret (v := .tuple #[.agg #[.slice ra rl rq, .int .i64 d, .int .i64 F], .int .i64 now]) (by simp [results, Tryz.results52, go_sem, e0, e1, e2]) rfl ?_
    exact ⟨L, d, F, now, ra, rl, rq, rfl, hnow, ⟨⟨(unhide hTG).1, by omega, by omega, by omega, by omega⟩, unhide hNB⟩, (unhide HFy).mono (by omega), ⟨p1 + 1 + 1, by omega, unhide ry⟩, unhide gy⟩
  have hc0' : (c == 0) = false := by simp; omega
  by_cases hc1 : c = 1
  · subst hc1
    have kl : w3.cell? ⟨w1.heap.size, 2, none⟩ = some (.int .i64 F) := by rw [so3.cellAt 2 (by omega)]; rfl
    obtain ⟨G, hG⟩ : ∃ G, F + 100 = G := ⟨_, rfl⟩
    have hGw : wrap64 G = G := IntWalk.wrap64_in G ⟨by omega, by omega⟩
    have hone := one_new rb (p1 + 1) [-100, 50, G] w3 r3 (by omega) (by simp) (by simp)
    simp only [List.map_cons, List.map_nil, List.length_cons, List.length_nil, Nat.zero_add, Nat.reduceAdd] at hone
    have HOne := hide hone
    clear hone
    go_wp2_with fail
    refine (unhide HOne).mono ?_
    rintro e w5 ⟨d, rfl, hd, r5, g5⟩
    have hd' : -100 ≤ d ∧ d ≤ 10099 := by simp only [List.mem_cons, List.not_mem_nil, or_false] at hd; omega
    have so5 := own_kept so3 g5 hrl
    have RZ5 := hide (own_kept (unhide RZ3) g5 hrl)
    have k5 := grown_trans k3 g5
    have q5 := grown_trans q3 g5
    clear hd HOne so3 RZ3 r3 q3 k3 g5
    have kc : w5.cell? ⟨w1.heap.size, 2, none⟩ = some (.int .i64 F) := by rw [so5.cellAt 2 (by omega)]; rfl
    have kf := so5.frozenAt 2
    have ks := (so5.stored 2 (.int .i64 d)).1
    obtain ⟨y5, hy5⟩ : ∃ V, w5.setCell ⟨w1.heap.size, 2, none⟩ (.int .i64 d) = V := ⟨_, rfl⟩
    rw [hy5] at ks
    have so6 : y5.ownsRow w.heap.size 30 3 (.slice (some ⟨w1.heap.size, 0, none⟩) 1 1) 1 [.slice ra rl rq, .int .i64 H, .int .i64 d] := ks
    have on5 := (OnlyAt.refl w1.heap.size w5).setCell 2 (.int .i64 d)
    rw [hy5] at on5
    have r6 : Rd y5 rb (p1 + 1 + 1) := r5.grown (grown_only on5) (fun j hj => by cases hj; omega)
    have RZ6 := hide (on5.own (unhide RZ5) (fun k hk => by simp only [Value.ownBlock, Option.some.injEq] at hk; omega))
    have HF6 := hide ((unhide HF1).grown (grown_other k5 (grown_only on5) (fun j hj => by cases hj; exact Nat.le_refl _)) hrW)
    have q6 := grown_other q5 (grown_only on5) (fun j hj => by cases hj; omega)
    clear ks on5 r5 RZ5 HF1 k5 q5 so5
    obtain ⟨x0, x1, x2⟩ := Tab.box_three so6
    obtain ⟨⟨pc9a, pf9a⟩, ⟨pc9b, pf9b⟩, ⟨pc9c, pf9c⟩, so9, on9⟩ := Tab.box_put (w := y5) (.slice ra rl rq) (.int .i64 H) (.int .i64 d) (unhide RZ6)
    obtain ⟨y9a, hy9a⟩ : ∃ V, y5.setCell ⟨w.heap.size, 0, none⟩ (.slice ra rl rq) = V := ⟨_, rfl⟩
    rw [hy9a] at pc9b pf9b pc9c pf9c so9 on9
    obtain ⟨y9b, hy9b⟩ : ∃ V, y9a.setCell ⟨w.heap.size, 1, none⟩ (.int .i64 H) = V := ⟨_, rfl⟩
    rw [hy9b] at pc9c pf9c so9 on9
    obtain ⟨y9, hy9⟩ : ∃ V, y9b.setCell ⟨w.heap.size, 2, none⟩ (.int .i64 d) = V := ⟨_, rfl⟩
    rw [hy9] at so9 on9
    obtain ⟨e0, e1, e2⟩ := Tab.box_three so9
    have ry := hide (show Rd y9 rb (p1 + 1 + 1) from r6.grown (grown_only on9) (fun j hj => by cases hj; omega))
    have gy := hide (grown_other q6 (grown_only on9) (fun j hj => by cases hj; exact Nat.le_refl _))
    have HFy := hide ((unhide HF6).only on9 (by omega))
    clear on9 so9
    go_wp2_with fail
    refine bodyPost_ret (v := .tuple #[.agg #[.slice ra rl rq, .int .i64 H, .int .i64 d], .int .i64 now]) (by simp [results, Tryz.results52, go_sem, e0, e1, e2]) rfl ?_
    exact ⟨L, H, d, now, ra, rl, rq, rfl, hnow, ⟨⟨(unhide hTG).1, by omega, by omega, by omega, by omega⟩, unhide hNB⟩, (unhide HFy).mono (by omega), ⟨p1 + 1 + 1, by omega, unhide ry⟩, unhide gy⟩
  have hc1' : (c == 1) = false := by simp; omega
  by_cases hc2 : c = 2
  · subst hc2
    go_wp2_with fail
    refine (anyrows_nb rb (p1 + 1) 0 _ r3 (by omega) (by omega) (by omega)).mono ?_
    rintro e w5 ⟨L2, v2, rfl, hRG2, hNB2, hF5, ⟨p5, hp5, r5⟩, g5⟩
    obtain ⟨ra2, rq2, rfl⟩ := Tab.row_form hF5.is
    obtain ⟨rl2, hrl2⟩ : ∃ n, n = L2.length := ⟨_, rfl⟩
    rw [← hrl2] at hF5 ⊢
    clear hrl2
    have zg5 := g5.size
    have zg3 := q3.size
    have hw3 : w1.heap.size + 1 ≤ w3.heap.size := by have := own_lt so3; omega
    have so5 := own_kept so3 g5 hrl
    have RZ5 := hide (own_kept (unhide RZ3) g5 hrl)
    have q5 := grown_trans q3 g5
    have kc : w5.cell? ⟨w1.heap.size, 0, none⟩ = some (.slice ra rl rq) := by rw [so5.cellAt 0 (by omega)]; rfl
    have kf := so5.frozenAt 0
    have ks := (so5.stored 0 (.slice ra2 rl2 rq2)).1
    obtain ⟨y5, hy5⟩ : ∃ V, w5.setCell ⟨w1.heap.size, 0, none⟩ (.slice ra2 rl2 rq2) = V := ⟨_, rfl⟩
    rw [hy5] at ks
    have so6 : y5.ownsRow w.heap.size 30 3 (.slice (some ⟨w1.heap.size, 0, none⟩) 1 1) 1 [.slice ra2 rl2 rq2, .int .i64 H, .int .i64 F] := ks
    have on5 := (OnlyAt.refl w1.heap.size w5).setCell 0 (.slice ra2 rl2 rq2)
    rw [hy5] at on5
    have r6 : Rd y5 rb p5 := r5.grown (grown_only on5) (fun j hj => by cases hj; omega)
    have RZ6 := hide (on5.own (unhide RZ5) (fun k hk => by simp only [Value.ownBlock, Option.some.injEq] at hk; omega))
    have HF6 := hide ((hF5.only on5 (by omega)).mono (show w.heap.size + 1 ≤ w3.heap.size by omega))
    have q6 := grown_other q5 (grown_only on5) (fun j hj => by cases hj; omega)
    clear ks on5 r5 RZ5 hF5 q5 so5 HF1 so3 RZ3 r3 q3 k3 g5
    obtain ⟨x0, x1, x2⟩ := Tab.box_three so6
    obtain ⟨⟨pc9a, pf9a⟩, ⟨pc9b, pf9b⟩, ⟨pc9c, pf9c⟩, so9, on9⟩ := Tab.box_put (w := y5) (.slice ra2 rl2 rq2) (.int .i64 H) (.int .i64 F) (unhide RZ6)
    obtain ⟨y9a, hy9a⟩ : ∃ V, y5.setCell ⟨w.heap.size, 0, none⟩ (.slice ra2 rl2 rq2) = V := ⟨_, rfl⟩
    rw [hy9a] at pc9b pf9b pc9c pf9c so9 on9
    obtain ⟨y9b, hy9b⟩ : ∃ V, y9a.setCell ⟨w.heap.size, 1, none⟩ (.int .i64 H) = V := ⟨_, rfl⟩
    rw [hy9b] at pc9c pf9c so9 on9
    obtain ⟨y9, hy9⟩ : ∃ V, y9b.setCell ⟨w.heap.size, 2, none⟩ (.int .i64 F) = V := ⟨_, rfl⟩
    rw [hy9] at so9 on9
    obtain ⟨e0, e1, e2⟩ := Tab.box_three so9
    have ry := hide (show Rd y9 rb (p5) from r6.grown (grown_only on9) (fun j hj => by cases hj; omega))
    have gy := hide (grown_other q6 (grown_only on9) (fun j hj => by cases hj; exact Nat.le_refl _))
    have HFy := hide ((unhide HF6).only on9 (by omega))
    clear on9 so9
    go_wp2_with fail
    refine bodyPost_ret (v := .tuple #[.agg #[.slice ra2 rl2 rq2, .int .i64 H, .int .i64 F], .int .i64 now]) (by simp [results, Tryz.results52, go_sem, e0, e1, e2]) rfl ?_
    exact ⟨L2, H, F, now, ra2, rl2, rq2, rfl, hnow, ⟨⟨hRG2, by omega, by omega, by omega, by omega⟩, hNB2⟩, (unhide HFy).mono (by omega), ⟨p5, by omega, unhide ry⟩, unhide gy⟩
  have hc2' : (c == 2) = false := by simp; omega
  have HF6 := hide ((unhide HF1).grown k3 hrW)
  obtain ⟨x0, x1, x2⟩ := Tab.box_three so3
  obtain ⟨⟨pc9a, pf9a⟩, ⟨pc9b, pf9b⟩, ⟨pc9c, pf9c⟩, so9, on9⟩ := Tab.box_put (w := w3) (.slice ra rl rq) (.int .i64 H) (.int .i64 F) (unhide RZ3)
  obtain ⟨y9a, hy9a⟩ : ∃ V, w3.setCell ⟨w.heap.size, 0, none⟩ (.slice ra rl rq) = V := ⟨_, rfl⟩
  rw [hy9a] at pc9b pf9b pc9c pf9c so9 on9
  obtain ⟨y9b, hy9b⟩ : ∃ V, y9a.setCell ⟨w.heap.size, 1, none⟩ (.int .i64 H) = V := ⟨_, rfl⟩
  rw [hy9b] at pc9c pf9c so9 on9
  obtain ⟨y9, hy9⟩ : ∃ V, y9b.setCell ⟨w.heap.size, 2, none⟩ (.int .i64 F) = V := ⟨_, rfl⟩
  rw [hy9] at so9 on9
  obtain ⟨e0, e1, e2⟩ := Tab.box_three so9
  have ry := hide (show Rd y9 rb (p1 + 1) from r3.grown (grown_only on9) (fun j hj => by cases hj; omega))
  have gy := hide (grown_other q3 (grown_only on9) (fun j hj => by cases hj; exact Nat.le_refl _))
  have HFy := hide ((unhide HF6).only on9 (by omega))
  clear on9 so9
  go_wp2_with fail
  refine bodyPost_ret (v := .tuple #[.agg #[.slice ra rl rq, .int .i64 H, .int .i64 F], .int .i64 now]) (by simp [results, Tryz.results52, go_sem, e0, e1, e2]) rfl ?_
  exact ⟨L, H, F, now, ra, rl, rq, rfl, hnow, ⟨unhide hTG, unhide hNB⟩, (unhide HFy).mono (by omega), ⟨p1 + 1, by omega, unhide ry⟩, unhide gy⟩
/-- what DrawTableAdd answers, and that no labels of the table bear the name nobody -/
def TAddedN (w : World) (e : Ending) (w' : World) : Prop :=
  ∃ (L : List Row.E) (v bv : Value) (b : List Ent.E) (H F : Int), e = .returned (.tuple #[.agg #[v, .int .i64 H, .int .i64 F], bv]) ∧ (TG L H F ∧ NBR L) ∧ Row.Is w' v L ∧ (b.length ≤ 7 ∧ ∀ x ∈ b, entB x) ∧ Ent.Is w' bv b ∧ Below w.heap.size w w'
set_option maxRecDepth 100000 in
set_option maxHeartbeats 16000000 in
theorem draw_tadd_nb {a : Option Addr} {len cap : Nat} {zs : List Int} (w0 w : World) (h : IsRow .u8 w0 a len cap zs) (hB : Below w0.heap.size w0 w) :
    Calls Tryz.prog 37 #[.slice a len cap] w (TAddedN w) := by
  obtain ⟨W, hW⟩ : ∃ W, W = w.alloc (.cells #[.slice none 0 0, .int .i64 0, .int .i64 0] 30) := ⟨_, rfl⟩
  have bW : Below w.heap.size w W := by rw [hW]; exact (Below.refl _ _).alloc (Nat.le_refl _) _
  have zW : W.heap.size = w.heap.size + 1 := by rw [hW]; simp
  have RZ : W.ownsRow w.heap.size 30 3 (.slice (some ⟨w.heap.size, 0, none⟩) 1 1) 1 [.slice none 0 0, .int .i64 0, .int .i64 0] := by rw [hW]; exact Tab.own_new3 (Nat.le_refl _) rfl
  have hne : w.heap.size ≠ W.heap.size := by omega
  have HO := hide (open_any w0 W h (hB.trans (bW.mono hB.size)))
  clear h hB
  go_enter Tryz.func37, Tryz.ntmps37
  go_wp2_with fail
  rw [← hW]
  clear hW
  refine (unhide HO).mono ?_
  rintro e w1 ⟨rfl, r1, b1⟩
  have z1 := r1.lt
  have RZ1 := hide (own_below RZ b1)
  obtain ⟨rb, hrb⟩ : ∃ k, k = W.heap.size := ⟨_, rfl⟩
  have c1 := bW.trans (b1.mono bW.size)
  clear b1 bW
  rw [← hrb] at r1 z1 hne zW ⊢
  have hwb : w.heap.size < rb := by omega
  clear RZ HO hrb zW
  go_wp2_with fail
  refine (anytable_nb rb 0 _ r1 (by omega)).mono ?_
  rintro e w2 ⟨L, H, F, now, ra, rl, rq, rfl, hnow, hTG, hF, ⟨p2, hp2, r2⟩, g2⟩
  have z2 := g2.size
  have RZ2 := hide (Tab.box_kept (unhide RZ1) g2 hne)
  have HTG := hide hTG
  obtain ⟨sd2, sf2, so2, bb2, zz2⟩ := Tab.box_new (w := w2) (base := rb + 1) (.slice ra rl rq) H F (by omega)
  obtain ⟨V2, hV2⟩ : ∃ V, w2.alloc (.cells #[.slice ra rl rq, .int .i64 H, .int .i64 0] 30) = V := ⟨_, rfl⟩
  rw [hV2] at sd2 sf2 so2 bb2 zz2
  obtain ⟨W2, hW2⟩ : ∃ V, V2.setCell ⟨w2.heap.size, 2, none⟩ (.int .i64 F) = V := ⟨_, rfl⟩
  rw [hW2] at so2 bb2 zz2
  have r3 := r2.below bb2
  have RZ3 := hide (own_below (unhide RZ2) bb2)
  have g3 := grown_trans g2 (grown_below bb2)
  have k3 := grown_below (r := some rb) bb2
  have HF1 := hide hF
  have HSo := hide so2
  have hrr : rb < rb + 1 := Nat.lt_succ_self _
  clear RZ1 RZ2 r1 r2 g2 bb2 hF hTG so2
  have HS := hide (fun (X : World) (gx : W2.grownBy X (some rb)) => Tab.box_three (own_kept (unhide HSo) gx hrr))
  have gD : W2.grownBy W2.drew (some rb) := grown_below ((Below.refl _ _).drew)
  have rD := rd_drew r3
  have HBt := hide (anybatch_any rb p2 now W2.drew rD (by omega) (by omega) (by omega))
  have hsD := unhide HS W2.drew gD
  have zD : W2.drew.heap.size = W2.heap.size := by simp
  have z22 : w2.heap.size < W2.heap.size := zz2
  clear r3
  go_wp2_with fail
  refine Grl.start (S := fun X => X.cell? ⟨w2.heap.size, 0, none⟩ = some (.slice ra rl rq) ∧ X.cell? ⟨w2.heap.size, 1, none⟩ = some (.int .i64 H) ∧ X.cell? ⟨w2.heap.size, 2, none⟩ = some (.int .i64 F)) (by kernel_rfl) (by exact hsD) (fun hHeld => ?_)
  refine Grl.yes 0 (v := ?_) rfl (by kernel_rfl) (by kernel_rfl) (by kernel_rfl) (fun _ _ _ h => h) (by kernel_rfl) ?_ (by assumption) ?_
  rotate_left
  · (intro w hSw; (try dsimp only at hSw); go_simp; try with_reducible rfl)
  simp only [Act.put, List.setIfInBounds_toArray, List.set_cons_zero, List.set_cons_succ]
  refine Grl.yes 1 (v := ?_) rfl (by kernel_rfl) (by kernel_rfl) (by kernel_rfl) (fun _ _ _ h => h) (by kernel_rfl) ?_ (by assumption) ?_
  rotate_left
  · (intro w hSw; (try dsimp only at hSw); go_simp; try with_reducible rfl)
  simp only [Act.put, List.setIfInBounds_toArray, List.set_cons_zero, List.set_cons_succ]
  refine Grl.yes 2 (v := ?_) rfl (by kernel_rfl) (by kernel_rfl) (by kernel_rfl) (fun _ _ _ h => h) (by kernel_rfl) ?_ (by assumption) ?_
  rotate_left
  · (intro w hSw; (try dsimp only at hSw); go_simp; try with_reducible rfl)
  simp only [Act.put, List.setIfInBounds_toArray, List.set_cons_zero, List.set_cons_succ]
  refine Grl.one 3 rfl (by kernel_rfl) (fun K hK => ?_)
  go_simp
  go_wp2_with (refine (unhide HBt).mono ?_; rintro e w4 ⟨b, bv, rfl, hb7, hbo, ⟨p4, hp4, r4⟩, g4⟩; have gI4 : W2.grownBy w4 (some rb) := grown_trans gD g4; have hs4 := unhide HS w4 gI4; have RZ4 := Tab.box_kept (unhide RZ3) gI4 hne; have hq0 : w.heap.size ≠ w2.heap.size := (by omega); obtain ⟨ba, bq, hbv⟩ := ent_form hbo.is; subst hbv; obtain ⟨⟨pc9a, pf9a⟩, ⟨pc9b, pf9b⟩, ⟨pc9c, pf9c⟩, so9, on9⟩ := Tab.box_put (w := w4) (.slice ra rl rq) (.int .i64 H) (.int .i64 F) RZ4; obtain ⟨y9a, hy9a⟩ : ∃ V, w4.setCell ⟨w.heap.size, 0, none⟩ (.slice ra rl rq) = V := ⟨_, rfl⟩; rw [hy9a] at pc9b pf9b pc9c pf9c so9 on9; obtain ⟨y9b, hy9b⟩ : ∃ V, y9a.setCell ⟨w.heap.size, 1, none⟩ (.int .i64 H) = V := ⟨_, rfl⟩; rw [hy9b] at pc9c pf9c so9 on9; obtain ⟨y9, hy9⟩ : ∃ V, y9b.setCell ⟨w.heap.size, 2, none⟩ (.int .i64 F) = V := ⟨_, rfl⟩; rw [hy9] at so9 on9; have hs9 : y9.cell? ⟨w2.heap.size, 0, none⟩ = some (.slice ra rl rq) ∧ y9.cell? ⟨w2.heap.size, 1, none⟩ = some (.int .i64 H) ∧ y9.cell? ⟨w2.heap.size, 2, none⟩ = some (.int .i64 F) := (And.intro ((World.cell?_of_block (a := ⟨w2.heap.size, 0, none⟩) (on9.block _ (Ne.symm hq0))).trans hs4.1) (And.intro ((World.cell?_of_block (a := ⟨w2.heap.size, 1, none⟩) (on9.block _ (Ne.symm hq0))).trans hs4.2.1) ((World.cell?_of_block (a := ⟨w2.heap.size, 2, none⟩) (on9.block _ (Ne.symm hq0))).trans hs4.2.2))))
  refine hK.out _ _ (by exact hs4) (fun hHeld => ?_)
  clear hK K
  refine Grl.one 4 rfl (by kernel_rfl) (fun K hK => ?_)
  go_simp
  skip
  refine hK.out _ _ (by exact hs9) (fun hHeld => ?_)
  clear hK K
  refine Grl.yes 5 (v := ?_) rfl (by kernel_rfl) (by kernel_rfl) (by kernel_rfl) (fun _ _ _ h => h) (by kernel_rfl) ?_ (by assumption) ?_
  rotate_left
  · (intro w hSw; (try dsimp only at hSw); go_simp; try with_reducible rfl)
  simp only [Act.put, List.setIfInBounds_toArray, List.set_cons_zero, List.set_cons_succ]
  refine wpAnyH_done (by kernel_rfl) ?_ _
  obtain ⟨e0, e1, e2⟩ := Tab.box_three so9
  have z4 := gI4.size
  have HRy := hide ((((unhide HF1).grown (grown_trans k3 gI4) (by omega)).only on9 (by omega)).is)
  have HBy := hide (hbo.only on9 (by omega)).is
  have by9 := hide ((c1.trans (below_of_grown (grown_trans g3 gI4) (show w.heap.size ≤ rb by omega) (by omega))).trans (on9.below (Nat.le_refl _)))
  clear HF1 g3 k3 so9 on9 RZ4 RZ3 HS HSo hbo
  go_wp2_with fail
  refine bodyPost_ret (v := .tuple #[.agg #[.slice ra rl rq, .int .i64 H, .int .i64 F], .slice ba b.length bq]) (by simp [results, Tryz.results37, go_sem, e0, e1, e2]) rfl ?_
  exact ⟨L, _, _, b, H, F, rfl, unhide HTG, unhide HRy, hb7, unhide HBy, unhide by9⟩
end Go.Proofs.YtlboekimnhgfdaaGreat.Draw

/- What tables that are ok tell. No condition. -/
namespace Go.Proofs.YtlboekimnhgfdaaGreat.Tab
open Go.RowKit Rw
set_option linter.unusedVariables false
theorem impl_ask2 {w : World} {v u : Value} {zs R : List Row.E} {ms : List Mat.E} (f t H F : Int) (h : Row.Is w v zs) (hm : Mat.Is w u ms) (hg : ∀ x ∈ zs, Row.good x) (hlen : zs.length ≤ maxLen) (hmg : ∀ x ∈ ms, Mat.good x) (hml : ms.length ≤ maxLen) (hR : ask ms f t zs H F = R) :
    Calls Tryz.prog 27 #[.agg #[v, .int .i64 H, .int .i64 F], u, .int .i64 f, .int .i64 t] w fun e w' => ∃ r, e = .returned r ∧ Row.Own w.heap.size w'.heap.size w' r R ∧ Below w.heap.size w w' := by
  have h := impl_ask f t H F h hm hg hlen hmg hml
  rw [hR] at h
  exact h
theorem impl_table2 {w : World} {v : Value} {zs : List Row.E} {H F : Int} {b : Bool} (h : Row.Is w v zs) (hg : ∀ x ∈ zs, Row.good x) (hlen : zs.length ≤ maxLen) (hb : Row.tableB zs H F = b) :
    Calls Tryz.prog 28 #[.agg #[v, .int .i64 H, .int .i64 F]] w fun e w' => e = .returned (.bool b) ∧ Below w.heap.size w w' := by
  have h := Row.impl_table (H := H) (F := F) h hg hlen
  rw [hb] at h
  exact h
theorem impl_join2 {w : World} {v u : Value} {a b R : List Row.E} {k : Bool} (h : Row.Is w v a) (h' : Row.Is w u b) (hg : ∀ x ∈ a, Row.good x) (hl : a.length ≤ maxLen) (hg' : ∀ x ∈ b, Row.good x) (hl' : b.length ≤ maxLen) (hR : Row.join a b = (R, k)) :
    Calls Tryz.prog 33 #[v, u] w fun e w' => ∃ r, e = .returned (.tuple #[r, .bool k]) ∧ Row.Own w.heap.size w'.heap.size w' r R ∧ Below w.heap.size w w' := by
  have h := Row.impl_join h h' hg hl hg' hl'
  rw [hR] at h
  exact h
theorem impl_keep2 {w : World} {v : Value} {zs R : List Row.E} (age H F : Int) {H2 F2 : Int} (hage : age ≤ 9223372036854775807) (h : Row.Is w v zs) (hg : ∀ x ∈ zs, Row.good x) (hlen : zs.length ≤ maxLen) (hR : keep age zs H F = (R, H2, F2)) :
    Calls Tryz.prog 35 #[.agg #[v, .int .i64 H, .int .i64 F], .int .i64 age] w fun e w' => ∃ r, e = .returned (.agg #[r, .int .i64 H2, .int .i64 F2]) ∧ Row.Own w.heap.size w'.heap.size w' r R ∧ Below w.heap.size w w' := by
  have h := impl_keep age H F hage h hg hlen
  rw [hR] at h
  exact h
theorem ask_is {ms : List Mat.E} (f t : Int) {zs : List Row.E} {H F : Int} (h : Row.tableB zs H F = true) : ask ms f t zs H F = Row.ask ms f t zs := by unfold ask; rw [if_pos h]
end Go.Proofs.YtlboekimnhgfdaaGreat.Tab

/- TableAdd of the program at one entry whose labels no drawn table has. No condition. -/
namespace Go.Proofs.YtlboekimnhgfdaaGreat.Tab
open Go.RowKit Rw Draw
set_option linter.unusedVariables false
theorem nb_lab (w : World) : Lab.Is (w.alloc (.cells #[.string ⟨#[110, 111, 98, 111, 100, 121]⟩, .string ⟨#[110, 101, 119]⟩] 64)) (.slice (some ⟨w.heap.size, 0, none⟩) 1 1) nbls := lies_new rfl rfl (by unfold maxLen; omega)
theorem nb_ent {w : World} {lv : Value} (T : Int) (h : Lab.Is w lv nbls) : Ent.Is (w.alloc (.cells #[lv, .int .i64 T, .int .i64 1] 62)) (.slice (some ⟨w.heap.size, 0, none⟩) 1 1) [(nbls, T, 1)] :=
  ⟨[(lv, .int .i64 T, .int .i64 1)], rfl, lies_new rfl rfl (by unfold maxLen; omega), fun i hi => by
    simp only [List.length_cons, List.length_nil] at hi
    obtain rfl : i = 0 := by omega
    exact ⟨Lies.below h ((Below.refl _ _).alloc (Nat.le_refl _) _), rfl, rfl⟩⟩
theorem nb_okay (T : Int) : Okay [(nbls, T, 1)] := fun e he => by
  rw [List.mem_singleton] at he
  subst he
  refine ⟨fun x hx => ?_, by show ([(nobody, _)] : List Lab.E).length ≤ maxLen; unfold maxLen; simp⟩
  rw [show nbls = [(nobody, ⟨#[110, 101, 119]⟩)] from rfl, List.mem_singleton] at hx
  subst hx
  exact ⟨by unfold maxLen; decide, by unfold maxLen; decide⟩
theorem nb_call {w : World} {v bl : Value} {L : List Row.E} {H F T c : Int} (h : Row.Is w v L) (hg : ∀ x ∈ L, Row.good x) (hl : L.length ≤ maxLen) (hb : Ent.Is w bl [(nbls, T, 1)]) (hc : (tadd L H F [(nbls, T, 1)]).2 = c) :
    Calls Tryz.prog 15 #[.agg #[v, .int .i64 H, .int .i64 F], bl] w fun e w' => ∃ (a : Option Addr) (n q : Nat) (H' F' : Int), e = .returned (.tuple #[.agg #[.slice a n q, .int .i64 H', .int .i64 F'], .int .i64 c]) ∧ Below w.heap.size w w' := by
  refine (impl_tadd H F h hg hl hb (nb_okay T)).mono ?_
  rintro e w' ⟨r, rfl, ho, hbl⟩
  obtain ⟨a, n, q, rfl⟩ := ho.form
  exact ⟨a, n, q, _, _, by rw [hc], hbl⟩
end Go.Proofs.YtlboekimnhgfdaaGreat.Tab

/- FnTableOld returns true at every text of bytes. -/
namespace Go.Proofs.YtlboekimnhgfdaaGreat
open Go.RowKit Draw Rw
set_option linter.unusedVariables false
set_option linter.unusedSimpArgs false
set_option maxRecDepth 100000 in
set_option maxHeartbeats 32000000 in
theorem fnTableOld.walk (a0 : Option Addr) (len0 cap0 : Nat) (z0 : List Int) (w : World) (w0 : IsRow .u8 w a0 len0 cap0 z0) :
    Calls Tryz.prog 9 #[.slice a0 len0 cap0] w fun e w' => e = .returned (.bool true) ∧ Below w.heap.size w w' := by
  have l0 := (row_bytes w0)
  have c0 : len0 ≤ 9223372036854775807 := by have := l0.1; have := l0.2.1; unfold maxLen at this; omega
  have H0 := hide (draw_tadd_nb w w w0 (Below.refl _ _))
  clear l0 w0
  by_cases hb0 : 1048576 < len0
  · go_enter Tryz.func9, Tryz.ntmps9
    go_wp2
    go_ret
    exact ⟨rfl, Below.refl _ _⟩
  go_enter Tryz.func9, Tryz.ntmps9
  go_wp2_with fail
  refine (unhide H0).mono ?_
  rintro e W1 ⟨L, v, bv, b, H, F, rfl, hTGN, hv, hB7, hbv, b1⟩
  have hTG := hTGN.1
  have HNB := hide hTGN.2
  have hgL : Hid (∀ x ∈ L, Row.good x) := fun x hx => (hTG.1.2 x hx).1
  have hlL : Hid (L.length ≤ maxLen) := by have := hTG.1.1; show L.length ≤ maxLen; unfold maxLen; omega
  have hHF := hTG.2
  have hOky : Hid (Tab.Okay b) := entB_okay hB7.2
  have hb7 := hB7.1
  obtain ⟨va, vq, rfl⟩ := Tab.row_form hv
  obtain ⟨vn, hvn⟩ : ∃ n, n = L.length := ⟨_, rfl⟩
  rw [← hvn] at hv ⊢
  obtain ⟨ba, bq, rfl⟩ := ent_form hbv
  obtain ⟨bn, hbn⟩ : ∃ n, n = b.length := ⟨_, rfl⟩
  have HBN := hide hbn
  rw [← hbn] at hbv hb7 ⊢
  have HVN := hide hvn
  clear H0 hTG hTGN hvn hB7 hbn
  obtain ⟨sd2, sf2, so2, bb2, zz2⟩ := Tab.box_new (w := W1) (base := w.heap.size) (.slice va vn vq) H F b1.size
  obtain ⟨V2, hV2⟩ : ∃ V, W1.alloc (.cells #[.slice va vn vq, .int .i64 H, .int .i64 0] 30) = V := ⟨_, rfl⟩
  rw [hV2] at sd2 sf2 so2 bb2 zz2
  obtain ⟨W2, hW2⟩ : ∃ V, V2.setCell ⟨W1.heap.size, 2, none⟩ (.int .i64 F) = V := ⟨_, rfl⟩
  rw [hW2] at so2 bb2 zz2
  have HV := hide (hv.below bb2)
  have HBv := hide (hbv.below bb2)
  have HK := hide (fun (X : World) (hb : Below W2.heap.size W2 X) => Tab.box_three (own_below so2 hb))
  have d2 := b1.trans (bb2.mono b1.size)
  have HOk := hide (fun X (hb : Below W2.heap.size W2 X) => Row.spec_table (H := H) (F := F) ((unhide HV).below hb) (unhide hgL) (unhide hlL))
  have HOi := hide (fun X (hb : Below W2.heap.size W2 X) => Row.impl_table (H := H) (F := F) ((unhide HV).below hb) (unhide hgL) (unhide hlL))
  have HI := hide (Tab.impl_tadd H F (unhide HV) (unhide hgL) (unhide hlL) (unhide HBv) (unhide hOky))
  have HS := hide (fun X (hb : Below W2.heap.size W2 X) => Tab.spec_tadd H F ((unhide HV).below hb) (unhide hgL) (unhide hlL) ((unhide HBv).below hb) (unhide hOky))
  obtain ⟨⟨⟨X, XH, XF⟩, kc⟩, hX⟩ : ∃ t, t = Tab.tadd L H F b := ⟨_, rfl⟩
  rw [← hX] at HI HS
  have HX := hide hX
  obtain ⟨k0, k1, k2⟩ := unhide HK W2 (Below.refl _ _)
  clear hX hv hbv bb2 so2 b1
  go_wp2_with fail
  refine (unhide HI).mono ?_
  rintro e W3 ⟨x, rfl, ox, c3⟩
  obtain ⟨xa, xn, xq, rfl⟩ := ox.form
  clear k0 k1 k2 sd2 sf2 hV2 hW2 HI
  have z3 := c3.size
  have z2 : W1.heap.size < W2.heap.size := zz2
  obtain ⟨sd4, sf4, so4, bb4, zz4⟩ := Tab.box_new (w := W3) (base := W2.heap.size) (.slice xa xn xq) XH XF (by omega)
  obtain ⟨V4, hV4⟩ : ∃ V, W3.alloc (.cells #[.slice xa xn xq, .int .i64 XH, .int .i64 0] 30) = V := ⟨_, rfl⟩
  rw [hV4] at sd4 sf4 so4 bb4 zz4
  obtain ⟨W4, hW4⟩ : ∃ V, V4.setCell ⟨W3.heap.size, 2, none⟩ (.int .i64 XF) = V := ⟨_, rfl⟩
  rw [hW4] at so4 bb4 zz4
  have SX4 := hide (ox.is.below bb4)
  have c4 := c3.trans (bb4.mono c3.size)
  have HKx := hide (fun (X : World) (hb : Below W4.heap.size W4 X) => Tab.box_three (own_below so4 hb))
  have HS4 := hide (unhide HS W4 c4)
  obtain ⟨k0, k1, k2⟩ := unhide HK W4 c4
  clear ox bb4 so4 c3 HS
  go_wp2_with fail
  refine (unhide HS4).mono ?_
  rintro e W5 ⟨y, rfl, oy, b5⟩
  obtain ⟨ya, yn, yq, rfl⟩ := oy.form
  clear k0 k1 k2 sd4 sf4 hV4 hW4 HS4
  have z4 := c4.size
  have z5 := b5.size
  have z43 : W3.heap.size < W4.heap.size := zz4
  obtain ⟨sd6, sf6, so6, bb6, zz6⟩ := Tab.box_new (w := W5) (base := W4.heap.size) (.slice ya yn yq) XH XF (by omega)
  obtain ⟨V6, hV6⟩ : ∃ V, W5.alloc (.cells #[.slice ya yn yq, .int .i64 XH, .int .i64 0] 30) = V := ⟨_, rfl⟩
  rw [hV6] at sd6 sf6 so6 bb6 zz6
  obtain ⟨W6, hW6⟩ : ∃ V, V6.setCell ⟨W5.heap.size, 2, none⟩ (.int .i64 XF) = V := ⟨_, rfl⟩
  rw [hW6] at so6 bb6 zz6
  have b46 := b5.trans (bb6.mono b5.size)
  have SX6 := hide ((unhide SX4).below b46)
  have SY6 := hide (oy.is.below bb6)
  have c6 := c4.trans (b46.mono c4.size)
  have HKK := hide (fun (X : World) (hb : Below W6.heap.size W6 X) => And.intro (unhide HK X (c6.trans (hb.mono c6.size))) (And.intro (unhide HKx X (b46.trans (hb.mono b46.size))) (Tab.box_three (own_below so6 hb))))
  have z65 : W5.heap.size < W6.heap.size := zz6
  clear oy b5 bb6 so6 c4 SX4 HK HKx b46
  have HAl := hide (Tab.al_table (H := XH) (F := XF) (unhide SX6) (unhide SY6))
  have hkk : (kc != kc) = false := by simp
  have hkq : (kc == kc) = true := by simp
  obtain ⟨⟨k0, k1, k2⟩, ⟨j0, j1, j2⟩, ⟨i0, i1, i2⟩⟩ := unhide HKK W6 (Below.refl _ _)
  go_wp2_with fail
  refine (unhide HAl).mono ?_
  rintro e w7 ⟨rfl, b7⟩
  have c7 := c6.trans (b7.mono c6.size)
  clear k0 k1 k2 j0 j1 j2 i0 i1 i2 HAl
  obtain ⟨⟨k0, k1, k2⟩, ⟨j0, j1, j2⟩, ⟨i0, i1, i2⟩⟩ := unhide HKK w7 b7
  go_wp2_with fail
  refine (unhide HOk w7 c7).mono ?_
  rintro e w8 ⟨rfl, b8⟩
  have b68 := b7.trans (b8.mono b7.size)
  have c8 := c7.trans (b8.mono c7.size)
  clear HOk HOi k0 k1 k2 j0 j1 j2 i0 i1 i2 b7 b8 c7
  have HAl := hide (Tab.al_table (H := XH) (F := XF) ((unhide SX6).below b68) ((unhide SY6).below b68))
  obtain ⟨⟨k0, k1, k2⟩, ⟨j0, j1, j2⟩, ⟨i0, i1, i2⟩⟩ := unhide HKK w8 b68
  cases hT : Row.tableB L H F
  · clear hT
    go_wp2_with fail
    refine (unhide HAl).mono ?_
    rintro e w9 ⟨rfl, b9⟩
    have d9 := d2.trans ((c8.trans (b9.mono c8.size)).mono d2.size)
    go_wp2
    go_ret
    exact ⟨rfl, d9⟩
  have HT := hide hT
  clear hT
  by_cases hH0 : H < 0
  · go_wp2_with fail
    refine (unhide HAl).mono ?_
    rintro e w9 ⟨rfl, b9⟩
    have d9 := d2.trans ((c8.trans (b9.mono c8.size)).mono d2.size)
    go_wp2
    go_ret
    exact ⟨rfl, d9⟩
  obtain ⟨p1, p2, p3, p4, -, -⟩ := Row.tab_parts (unhide HT)
  obtain ⟨q1, q2, -⟩ := Tab.floor_parts p3
  have z8 := c8.size
  obtain ⟨D, hD⟩ : ∃ D, H - 300 = D := ⟨_, rfl⟩
  have HK8 := hide (fun (X : World) (hb : Below w8.heap.size w8 X) => (unhide HKK X (b68.trans (hb.mono b68.size))).1)
  have HV8 := hide (fun (X : World) (hb : Below w8.heap.size w8 X) => (unhide HV).below (c8.trans (hb.mono c8.size)))
  have d8 := hide (d2.trans (c8.mono d2.size))
  have HCd := hide (fun (T : Int) (hT : 0 ≤ T ∧ T ≤ 9999) => Tab.nb_code (F := F) (unhide HT) (unhide HNB) hT)
  rw [← unhide HVN, hD] at HCd
  obtain ⟨B1, hB1⟩ : ∃ V, w8.alloc (.cells #[.string ⟨#[110, 111, 98, 111, 100, 121]⟩, .string ⟨#[110, 101, 119]⟩] 64) = V := ⟨_, rfl⟩
  have HLb := hide (show Lab.Is B1 (.slice (some ⟨w8.heap.size, 0, none⟩) 1 1) Tab.nbls by rw [← hB1]; exact Tab.nb_lab w8)
  have e1 : Below w8.heap.size w8 B1 := by rw [← hB1]; exact (Below.refl _ _).alloc (Nat.le_refl _) _
  have HEn := hide (fun (X : World) (hb : Below B1.heap.size B1 X) (T : Int) => Tab.nb_ent T (Lies.below (unhide HLb) hb))
  obtain ⟨A2, hA2⟩ : ∃ V, B1.alloc (.cells #[.slice (some ⟨w8.heap.size, 0, none⟩) 1 1, .int .i64 H, .int .i64 1] 62) = V := ⟨_, rfl⟩
  have e2' : Below B1.heap.size B1 A2 := by rw [← hA2]; exact (Below.refl _ _).alloc (Nat.le_refl _) _
  have e2 := e1.trans (e2'.mono e1.size)
  have HE2 := hide (show Ent.Is A2 (.slice (some ⟨B1.heap.size, 0, none⟩) 1 1) [(Tab.nbls, H, 1)] by rw [← hA2]; exact unhide HEn B1 (Below.refl _ _) H)
  have u1 := Tab.wrap_in (n := D) (by omega) (by omega)
  have hkind : ∀ (A : Int), (0 ≤ A ∧ A ≤ 9999) → (A < F ∨ A < D) ∨ ¬ (A < F ∨ A < D) := fun A _ => Classical.em _
  obtain ⟨k0', k1', k2'⟩ := unhide HK8 B1 e1
  clear hkind hkq HAl HKK j0 j1 j2 i0 i1 i2 c6 hHF
  by_cases hfull : vn ≤ 9
  · have HC1 := hide (show (Tab.tadd L H F [(Tab.nbls, H, 1)]).2 = 0 by rw [unhide HCd H (by omega), if_neg (by omega), if_pos (by omega)])
    have hfb : decide (10 ≤ (vn : Int)) = false := by simp; omega
    go_wp2_with fail
    refine (Tab.nb_call (unhide HV8 A2 e2) (unhide hgL) (unhide hlL) (unhide HE2) (unhide HC1)).mono ?_
    rintro e w9 ⟨ga, gn, gq, GH, GF, rfl, b9⟩
    have e9 := e2.trans (b9.mono e2.size)
    clear k0' k1' k2' k0 k1 k2
    obtain ⟨sd10, sf10, so10, bb10, zz10⟩ := Tab.box_new (w := w9) (base := w9.heap.size) (.slice ga gn gq) GH GF (Nat.le_refl _)
    obtain ⟨V10, hV10⟩ : ∃ V, w9.alloc (.cells #[.slice ga gn gq, .int .i64 GH, .int .i64 0] 30) = V := ⟨_, rfl⟩
    rw [hV10] at sd10 sf10 so10 bb10 zz10
    obtain ⟨W10, hW10⟩ : ∃ V, V10.setCell ⟨w9.heap.size, 2, none⟩ (.int .i64 GF) = V := ⟨_, rfl⟩
    rw [hW10] at so10 bb10 zz10
    have e10 := e9.trans (bb10.mono e9.size)
    have eB10 : Below B1.heap.size B1 W10 := e2'.trans ((b9.trans (bb10.mono b9.size)).mono e2'.size)
    obtain ⟨k0, k1, k2⟩ := unhide HK8 W10 e10
    clear so10 bb10 b9 e9
    by_cases hDF : D < F
    · have hA0 : ¬ F < 0 := by omega
      have HC2 := hide (show (Tab.tadd L H F [(Tab.nbls, F, 1)]).2 = 0 by rw [unhide HCd F (by omega), if_neg (by omega), if_pos (by omega)])
      obtain ⟨A3, hA3⟩ : ∃ V, W10.alloc (.cells #[.slice (some ⟨w8.heap.size, 0, none⟩) 1 1, .int .i64 F, .int .i64 1] 62) = V := ⟨_, rfl⟩
      have e3' : Below W10.heap.size W10 A3 := by rw [← hA3]; exact (Below.refl _ _).alloc (Nat.le_refl _) _
      have e3 := e10.trans (e3'.mono e10.size)
      have HE3 := hide (show Ent.Is A3 (.slice (some ⟨W10.heap.size, 0, none⟩) 1 1) [(Tab.nbls, F, 1)] by rw [← hA3]; exact unhide HEn W10 eB10 F)
      go_wp2_with fail
      refine (Tab.nb_call (unhide HV8 A3 e3) (unhide hgL) (unhide hlL) (unhide HE3) (unhide HC2)).mono ?_
      rintro e w11 ⟨ga2, gn2, gq2, GH2, GF2, rfl, b11⟩
      have e11 := e3.trans (b11.mono e3.size)
      clear k0 k1 k2
      obtain ⟨sd12, sf12, so12, bb12, zz12⟩ := Tab.box_new (w := w11) (base := w11.heap.size) (.slice ga2 gn2 gq2) GH2 GF2 (Nat.le_refl _)
      obtain ⟨V12, hV12⟩ : ∃ V, w11.alloc (.cells #[.slice ga2 gn2 gq2, .int .i64 GH2, .int .i64 0] 30) = V := ⟨_, rfl⟩
      rw [hV12] at sd12 sf12 so12 bb12 zz12
      obtain ⟨W12, hW12⟩ : ∃ V, V12.setCell ⟨w11.heap.size, 2, none⟩ (.int .i64 GF2) = V := ⟨_, rfl⟩
      rw [hW12] at so12 bb12 zz12
      have e12 := e11.trans (bb12.mono e11.size)
      have eB12 : Below B1.heap.size B1 W12 := eB10.trans ((e3'.trans ((b11.trans (bb12.mono b11.size)).mono e3'.size)).mono eB10.size)
      obtain ⟨k0, k1, k2⟩ := unhide HK8 W12 e12
      clear so12 bb12 b11 e11
      by_cases hA1 : 0 < F
      · obtain ⟨E, hE⟩ : ∃ E, F - 1 = E := ⟨_, rfl⟩
        have u3 := Tab.wrap_in (n := E) (by omega) (by omega)
        have HC3 := hide (show (Tab.tadd L H F [(Tab.nbls, E, 1)]).2 = 2 by rw [unhide HCd E (by omega), if_pos (by omega)])
        obtain ⟨A4, hA4⟩ : ∃ V, W12.alloc (.cells #[.slice (some ⟨w8.heap.size, 0, none⟩) 1 1, .int .i64 E, .int .i64 1] 62) = V := ⟨_, rfl⟩
        have e4' : Below W12.heap.size W12 A4 := by rw [← hA4]; exact (Below.refl _ _).alloc (Nat.le_refl _) _
        have e4 := e12.trans (e4'.mono e12.size)
        have HE4 := hide (show Ent.Is A4 (.slice (some ⟨W12.heap.size, 0, none⟩) 1 1) [(Tab.nbls, E, 1)] by rw [← hA4]; exact unhide HEn W12 eB12 E)
        go_wp2_with fail
        refine (Tab.nb_call (unhide HV8 A4 e4) (unhide hgL) (unhide hlL) (unhide HE4) (unhide HC3)).mono ?_
        rintro e w13 ⟨ga3, gn3, gq3, GH3, GF3, rfl, b13⟩
        have e13 := e4.trans (b13.mono e4.size)
        have d13 := (unhide d8).trans (e13.mono (unhide d8).size)
        clear k0 k1 k2
        obtain ⟨k0, k1, k2⟩ := unhide HK8 w13 e13
        go_wp2_with fail
        go_ret
        exact ⟨rfl, d13⟩
      · have d12 := (unhide d8).trans (e12.mono (unhide d8).size)
        go_wp2_with fail
        go_ret
        exact ⟨rfl, d12⟩
    · have hA0 : ¬ D < 0 := by omega
      have HC2 := hide (show (Tab.tadd L H F [(Tab.nbls, D, 1)]).2 = 0 by rw [unhide HCd D (by omega), if_neg (by omega), if_pos (by omega)])
      obtain ⟨A3, hA3⟩ : ∃ V, W10.alloc (.cells #[.slice (some ⟨w8.heap.size, 0, none⟩) 1 1, .int .i64 D, .int .i64 1] 62) = V := ⟨_, rfl⟩
      have e3' : Below W10.heap.size W10 A3 := by rw [← hA3]; exact (Below.refl _ _).alloc (Nat.le_refl _) _
      have e3 := e10.trans (e3'.mono e10.size)
      have HE3 := hide (show Ent.Is A3 (.slice (some ⟨W10.heap.size, 0, none⟩) 1 1) [(Tab.nbls, D, 1)] by rw [← hA3]; exact unhide HEn W10 eB10 D)
      go_wp2_with fail
      refine (Tab.nb_call (unhide HV8 A3 e3) (unhide hgL) (unhide hlL) (unhide HE3) (unhide HC2)).mono ?_
      rintro e w11 ⟨ga2, gn2, gq2, GH2, GF2, rfl, b11⟩
      have e11 := e3.trans (b11.mono e3.size)
      clear k0 k1 k2
      obtain ⟨sd12, sf12, so12, bb12, zz12⟩ := Tab.box_new (w := w11) (base := w11.heap.size) (.slice ga2 gn2 gq2) GH2 GF2 (Nat.le_refl _)
      obtain ⟨V12, hV12⟩ : ∃ V, w11.alloc (.cells #[.slice ga2 gn2 gq2, .int .i64 GH2, .int .i64 0] 30) = V := ⟨_, rfl⟩
      rw [hV12] at sd12 sf12 so12 bb12 zz12
      obtain ⟨W12, hW12⟩ : ∃ V, V12.setCell ⟨w11.heap.size, 2, none⟩ (.int .i64 GF2) = V := ⟨_, rfl⟩
      rw [hW12] at so12 bb12 zz12
      have e12 := e11.trans (bb12.mono e11.size)
      have eB12 : Below B1.heap.size B1 W12 := eB10.trans ((e3'.trans ((b11.trans (bb12.mono b11.size)).mono e3'.size)).mono eB10.size)
      obtain ⟨k0, k1, k2⟩ := unhide HK8 W12 e12
      clear so12 bb12 b11 e11
      by_cases hA1 : 0 < D
      · obtain ⟨E, hE⟩ : ∃ E, D - 1 = E := ⟨_, rfl⟩
        have u3 := Tab.wrap_in (n := E) (by omega) (by omega)
        have HC3 := hide (show (Tab.tadd L H F [(Tab.nbls, E, 1)]).2 = 2 by rw [unhide HCd E (by omega), if_pos (by omega)])
        obtain ⟨A4, hA4⟩ : ∃ V, W12.alloc (.cells #[.slice (some ⟨w8.heap.size, 0, none⟩) 1 1, .int .i64 E, .int .i64 1] 62) = V := ⟨_, rfl⟩
        have e4' : Below W12.heap.size W12 A4 := by rw [← hA4]; exact (Below.refl _ _).alloc (Nat.le_refl _) _
        have e4 := e12.trans (e4'.mono e12.size)
        have HE4 := hide (show Ent.Is A4 (.slice (some ⟨W12.heap.size, 0, none⟩) 1 1) [(Tab.nbls, E, 1)] by rw [← hA4]; exact unhide HEn W12 eB12 E)
        go_wp2_with fail
        refine (Tab.nb_call (unhide HV8 A4 e4) (unhide hgL) (unhide hlL) (unhide HE4) (unhide HC3)).mono ?_
        rintro e w13 ⟨ga3, gn3, gq3, GH3, GF3, rfl, b13⟩
        have e13 := e4.trans (b13.mono e4.size)
        have d13 := (unhide d8).trans (e13.mono (unhide d8).size)
        clear k0 k1 k2
        obtain ⟨k0, k1, k2⟩ := unhide HK8 w13 e13
        go_wp2_with fail
        go_ret
        exact ⟨rfl, d13⟩
      · have d12 := (unhide d8).trans (e12.mono (unhide d8).size)
        go_wp2_with fail
        go_ret
        exact ⟨rfl, d12⟩
  · have HC1 := hide (show (Tab.tadd L H F [(Tab.nbls, H, 1)]).2 = 4 by rw [unhide HCd H (by omega), if_neg (by omega), if_neg (by omega)])
    have hfb : decide (10 ≤ (vn : Int)) = true := by simp; omega
    go_wp2_with fail
    refine (Tab.nb_call (unhide HV8 A2 e2) (unhide hgL) (unhide hlL) (unhide HE2) (unhide HC1)).mono ?_
    rintro e w9 ⟨ga, gn, gq, GH, GF, rfl, b9⟩
    have e9 := e2.trans (b9.mono e2.size)
    clear k0' k1' k2' k0 k1 k2
    obtain ⟨sd10, sf10, so10, bb10, zz10⟩ := Tab.box_new (w := w9) (base := w9.heap.size) (.slice ga gn gq) GH GF (Nat.le_refl _)
    obtain ⟨V10, hV10⟩ : ∃ V, w9.alloc (.cells #[.slice ga gn gq, .int .i64 GH, .int .i64 0] 30) = V := ⟨_, rfl⟩
    rw [hV10] at sd10 sf10 so10 bb10 zz10
    obtain ⟨W10, hW10⟩ : ∃ V, V10.setCell ⟨w9.heap.size, 2, none⟩ (.int .i64 GF) = V := ⟨_, rfl⟩
    rw [hW10] at so10 bb10 zz10
    have e10 := e9.trans (bb10.mono e9.size)
    have eB10 : Below B1.heap.size B1 W10 := e2'.trans ((b9.trans (bb10.mono b9.size)).mono e2'.size)
    obtain ⟨k0, k1, k2⟩ := unhide HK8 W10 e10
    clear so10 bb10 b9 e9
    by_cases hDF : D < F
    · have hA0 : ¬ F < 0 := by omega
      have HC2 := hide (show (Tab.tadd L H F [(Tab.nbls, F, 1)]).2 = 4 by rw [unhide HCd F (by omega), if_neg (by omega), if_neg (by omega)])
      obtain ⟨A3, hA3⟩ : ∃ V, W10.alloc (.cells #[.slice (some ⟨w8.heap.size, 0, none⟩) 1 1, .int .i64 F, .int .i64 1] 62) = V := ⟨_, rfl⟩
      have e3' : Below W10.heap.size W10 A3 := by rw [← hA3]; exact (Below.refl _ _).alloc (Nat.le_refl _) _
      have e3 := e10.trans (e3'.mono e10.size)
      have HE3 := hide (show Ent.Is A3 (.slice (some ⟨W10.heap.size, 0, none⟩) 1 1) [(Tab.nbls, F, 1)] by rw [← hA3]; exact unhide HEn W10 eB10 F)
      go_wp2_with fail
      refine (Tab.nb_call (unhide HV8 A3 e3) (unhide hgL) (unhide hlL) (unhide HE3) (unhide HC2)).mono ?_
      rintro e w11 ⟨ga2, gn2, gq2, GH2, GF2, rfl, b11⟩
      have e11 := e3.trans (b11.mono e3.size)
      clear k0 k1 k2
      obtain ⟨sd12, sf12, so12, bb12, zz12⟩ := Tab.box_new (w := w11) (base := w11.heap.size) (.slice ga2 gn2 gq2) GH2 GF2 (Nat.le_refl _)
      obtain ⟨V12, hV12⟩ : ∃ V, w11.alloc (.cells #[.slice ga2 gn2 gq2, .int .i64 GH2, .int .i64 0] 30) = V := ⟨_, rfl⟩
      rw [hV12] at sd12 sf12 so12 bb12 zz12
      obtain ⟨W12, hW12⟩ : ∃ V, V12.setCell ⟨w11.heap.size, 2, none⟩ (.int .i64 GF2) = V := ⟨_, rfl⟩
      rw [hW12] at so12 bb12 zz12
      have e12 := e11.trans (bb12.mono e11.size)
      have eB12 : Below B1.heap.size B1 W12 := eB10.trans ((e3'.trans ((b11.trans (bb12.mono b11.size)).mono e3'.size)).mono eB10.size)
      obtain ⟨k0, k1, k2⟩ := unhide HK8 W12 e12
      clear so12 bb12 b11 e11
      by_cases hA1 : 0 < F
      · obtain ⟨E, hE⟩ : ∃ E, F - 1 = E := ⟨_, rfl⟩
        have u3 := Tab.wrap_in (n := E) (by omega) (by omega)
        have HC3 := hide (show (Tab.tadd L H F [(Tab.nbls, E, 1)]).2 = 2 by rw [unhide HCd E (by omega), if_pos (by omega)])
        obtain ⟨A4, hA4⟩ : ∃ V, W12.alloc (.cells #[.slice (some ⟨w8.heap.size, 0, none⟩) 1 1, .int .i64 E, .int .i64 1] 62) = V := ⟨_, rfl⟩
        have e4' : Below W12.heap.size W12 A4 := by rw [← hA4]; exact (Below.refl _ _).alloc (Nat.le_refl _) _
        have e4 := e12.trans (e4'.mono e12.size)
        have HE4 := hide (show Ent.Is A4 (.slice (some ⟨W12.heap.size, 0, none⟩) 1 1) [(Tab.nbls, E, 1)] by rw [← hA4]; exact unhide HEn W12 eB12 E)
        go_wp2_with fail
        refine (Tab.nb_call (unhide HV8 A4 e4) (unhide hgL) (unhide hlL) (unhide HE4) (unhide HC3)).mono ?_
        rintro e w13 ⟨ga3, gn3, gq3, GH3, GF3, rfl, b13⟩
        have e13 := e4.trans (b13.mono e4.size)
        have d13 := (unhide d8).trans (e13.mono (unhide d8).size)
        clear k0 k1 k2
        obtain ⟨k0, k1, k2⟩ := unhide HK8 w13 e13
        go_wp2_with fail
        go_ret
        exact ⟨rfl, d13⟩
      · have d12 := (unhide d8).trans (e12.mono (unhide d8).size)
        go_wp2_with fail
        go_ret
        exact ⟨rfl, d12⟩
    · have hA0 : ¬ D < 0 := by omega
      have HC2 := hide (show (Tab.tadd L H F [(Tab.nbls, D, 1)]).2 = 4 by rw [unhide HCd D (by omega), if_neg (by omega), if_neg (by omega)])
      obtain ⟨A3, hA3⟩ : ∃ V, W10.alloc (.cells #[.slice (some ⟨w8.heap.size, 0, none⟩) 1 1, .int .i64 D, .int .i64 1] 62) = V := ⟨_, rfl⟩
      have e3' : Below W10.heap.size W10 A3 := by rw [← hA3]; exact (Below.refl _ _).alloc (Nat.le_refl _) _
      have e3 := e10.trans (e3'.mono e10.size)
      have HE3 := hide (show Ent.Is A3 (.slice (some ⟨W10.heap.size, 0, none⟩) 1 1) [(Tab.nbls, D, 1)] by rw [← hA3]; exact unhide HEn W10 eB10 D)
      go_wp2_with fail
      refine (Tab.nb_call (unhide HV8 A3 e3) (unhide hgL) (unhide hlL) (unhide HE3) (unhide HC2)).mono ?_
      rintro e w11 ⟨ga2, gn2, gq2, GH2, GF2, rfl, b11⟩
      have e11 := e3.trans (b11.mono e3.size)
      clear k0 k1 k2
      obtain ⟨sd12, sf12, so12, bb12, zz12⟩ := Tab.box_new (w := w11) (base := w11.heap.size) (.slice ga2 gn2 gq2) GH2 GF2 (Nat.le_refl _)
      obtain ⟨V12, hV12⟩ : ∃ V, w11.alloc (.cells #[.slice ga2 gn2 gq2, .int .i64 GH2, .int .i64 0] 30) = V := ⟨_, rfl⟩
      rw [hV12] at sd12 sf12 so12 bb12 zz12
      obtain ⟨W12, hW12⟩ : ∃ V, V12.setCell ⟨w11.heap.size, 2, none⟩ (.int .i64 GF2) = V := ⟨_, rfl⟩
      rw [hW12] at so12 bb12 zz12
      have e12 := e11.trans (bb12.mono e11.size)
      have eB12 : Below B1.heap.size B1 W12 := eB10.trans ((e3'.trans ((b11.trans (bb12.mono b11.size)).mono e3'.size)).mono eB10.size)
      obtain ⟨k0, k1, k2⟩ := unhide HK8 W12 e12
      clear so12 bb12 b11 e11
      by_cases hA1 : 0 < D
      · obtain ⟨E, hE⟩ : ∃ E, D - 1 = E := ⟨_, rfl⟩
        have u3 := Tab.wrap_in (n := E) (by omega) (by omega)
        have HC3 := hide (show (Tab.tadd L H F [(Tab.nbls, E, 1)]).2 = 2 by rw [unhide HCd E (by omega), if_pos (by omega)])
        obtain ⟨A4, hA4⟩ : ∃ V, W12.alloc (.cells #[.slice (some ⟨w8.heap.size, 0, none⟩) 1 1, .int .i64 E, .int .i64 1] 62) = V := ⟨_, rfl⟩
        have e4' : Below W12.heap.size W12 A4 := by rw [← hA4]; exact (Below.refl _ _).alloc (Nat.le_refl _) _
        have e4 := e12.trans (e4'.mono e12.size)
        have HE4 := hide (show Ent.Is A4 (.slice (some ⟨W12.heap.size, 0, none⟩) 1 1) [(Tab.nbls, E, 1)] by rw [← hA4]; exact unhide HEn W12 eB12 E)
        go_wp2_with fail
        refine (Tab.nb_call (unhide HV8 A4 e4) (unhide hgL) (unhide hlL) (unhide HE4) (unhide HC3)).mono ?_
        rintro e w13 ⟨ga3, gn3, gq3, GH3, GF3, rfl, b13⟩
        have e13 := e4.trans (b13.mono e4.size)
        have d13 := (unhide d8).trans (e13.mono (unhide d8).size)
        clear k0 k1 k2
        obtain ⟨k0, k1, k2⟩ := unhide HK8 w13 e13
        go_wp2_with fail
        go_ret
        exact ⟨rfl, d13⟩
      · have d12 := (unhide d8).trans (e12.mono (unhide d8).size)
        go_wp2_with fail
        go_ret
        exact ⟨rfl, d12⟩
end Go.Proofs.YtlboekimnhgfdaaGreat
