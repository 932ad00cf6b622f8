/- My own texts of one claim, laid together by program: TrialCatch, TryAll, TableAdd, TabMath3. -/
import Derived.Test.YtlboekimnhgfdaaGreatG06ab9fe1ec
import Derived.Test.YtlboekimnhgfdaaGreatG4d8bebc498
import Derived.Test.YtlboekimnhgfdaaGreatGd32421efb3
import Derived.Defers
import Derived.Recover
import Derived.Test.YtlboekimnhgfdaaGreatG016b64dc06
import Derived.Test.YtlboekimnhgfdaaGreatG2376b3578a
import Derived.Test.YtlboekimnhgfdaaGreatG4314fff0a5
import Derived.Test.YtlboekimnhgfdaaGreatG4824091ae2
/- What was thrown is caught: the deferred closure of tryAll, at a frame that returns, and at one that panics. -/
namespace Go.Proofs.YtlboekimnhgfdaaGreat.Tab
open Go.RowKit Rw
set_option linter.unusedVariables false
set_option linter.unusedSimpArgs false
attribute [local go_sem ↓] Go.wp_at_zero Go.wp_at_succ
theorem assert_refusal (xT : TypeId) (v : Value) (w : World) : (Instr.typeAssert (.iface 117 v) xT 117 true).run Tryz.prog w = .ok (.tuple #[v, .bool true]) w := by
  kernel_rfl
theorem undef13 : (Array.replicate 13 undef : Array Value) = #[undef, undef, undef, undef, undef, undef, undef, undef, undef, undef, undef, undef, undef] := rfl
set_option maxRecDepth 100000 in
set_option maxHeartbeats 4000000 in
theorem catch_idle (p q r : Addr) (w : World) : CallsD Tryz.prog 84 #[.pointer (some p), .pointer (some q), .pointer (some r)] .returning w fun e u' w' => e = .returned (.tuple #[]) ∧ u' = .returning ∧ w' = w := by
  refine callsD_of_wpS Tryz.func84 rfl fun c₀ cs hu => ?_
  apply wpS_seq
  apply wpS_region
  simp [wpOpsS, go_sem, recoverD, hu, Tryz.ntmps84, Exit.thenS, undef13]
  refine wpS_of_wp ?_
  go_wp2_with fail
  cases c₀
  simp_all [bodyPostS, results, Tryz.results84]
/-- what was thrown is caught: the table that was, copied, and its code -/
theorem catch_thrown {B : Nat} {x0 y0 z0 z : Value} (tb ob cb : Nat) (k : Int) (w : World) (H F : Int) {L : List Row.E} (va : Option Addr) (vn vq : Nat)
    (c0 : w.cell? ⟨tb, 0, none⟩ = some (.slice va vn vq)) (c1 : w.cell? ⟨tb, 1, none⟩ = some (.int .i64 H)) (c2 : w.cell? ⟨tb, 2, none⟩ = some (.int .i64 F)) (htb : tb < w.heap.size)
    (ho : w.ownsRow B 30 3 (.slice (some ⟨ob, 0, none⟩) 1 1) 1 [x0, y0, z0]) (hcc : w.cell? ⟨cb, 0, none⟩ = some z) (hcf : w.frozen? ⟨cb, 0, none⟩ = false) (hcl : cb < w.heap.size) (h1 : tb ≠ ob) (h2 : tb ≠ cb) (h3 : ob ≠ cb)
    (h : Row.Is w (.slice va vn vq) L) (hok : Row.ok L = true) :
    CallsD Tryz.prog 84 #[.pointer (some ⟨tb, 0, none⟩), .pointer (some ⟨ob, 0, none⟩), .pointer (some ⟨cb, 0, none⟩)] (.panicking [{ v := .iface 117 (.agg #[.int .i64 k]), recovered := false }]) w fun e u' w' => e = .returned (.tuple #[]) ∧ u' = .panicking [{ v := .iface 117 (.agg #[.int .i64 k]), recovered := true }] ∧
      ∃ (r : Value) (wm wn : World), Below w.heap.size w wm ∧ Row.Own w.heap.size wm.heap.size wm r L ∧ OnlyAt ob wm wn ∧ OnlyAt cb wn w' ∧ w'.cell? ⟨ob, 0, none⟩ = some r ∧ w'.cell? ⟨ob, 1, none⟩ = some (.int .i64 H) ∧ w'.cell? ⟨ob, 2, none⟩ = some (.int .i64 F) ∧ w'.cell? ⟨cb, 0, none⟩ = some (.int .i64 k) := by
  have hta := assert_refusal
  have hob : ob < w.heap.size := own_lt ho
  have hTob := h1
  have hTcb := h2
  have hNob : w.heap.size ≠ ob := by omega
  have hNcb : w.heap.size ≠ cb := by omega
  obtain ⟨W, hW⟩ : ∃ V, w.alloc (.cells #[.int .i64 k] 117) = V := ⟨_, rfl⟩
  have bW : Below w.heap.size w W := by rw [← hW]; exact (Below.refl _ _).alloc (Nat.le_refl _) _
  have zW : w.heap.size < W.heap.size := by rw [← hW]; simp
  have hcW : cb < W.heap.size := by omega
  have q0 : W.cell? ⟨w.heap.size, 0, none⟩ = some (.int .i64 k) := by rw [← hW]; simp [go_sem]
  have HS := hide (fun (X : World) (hb : Below W.heap.size W X) => show X.cell? ⟨tb, 0, none⟩ = some (.slice va vn vq) ∧ X.cell? ⟨tb, 1, none⟩ = some (.int .i64 H) ∧ X.cell? ⟨tb, 2, none⟩ = some (.int .i64 F) ∧ X.cell? ⟨w.heap.size, 0, none⟩ = some (.int .i64 k) from
    have ht : tb < W.heap.size := by omega
    ⟨(hb.cell (p := ⟨tb, 0, none⟩) ht).trans ((bW.cell (p := ⟨tb, 0, none⟩) htb).trans c0), (hb.cell (p := ⟨tb, 1, none⟩) ht).trans ((bW.cell (p := ⟨tb, 1, none⟩) htb).trans c1), (hb.cell (p := ⟨tb, 2, none⟩) ht).trans ((bW.cell (p := ⟨tb, 2, none⟩) htb).trans c2), (hb.cell (p := ⟨w.heap.size, 0, none⟩) zW).trans q0⟩)
  have HO := hide (own_below ho bW)
  have kc : W.cell? ⟨cb, 0, none⟩ = some z := (bW.cell (p := ⟨cb, 0, none⟩) hcl).trans hcc
  have kf : W.frozen? ⟨cb, 0, none⟩ = false := (bW.frozen (p := ⟨cb, 0, none⟩) hcl).trans hcf
  have bD : Below W.heap.size W W.drew := (Below.refl _ _).drew
  have HCp := hide (impl_copy (w := W.drew) H F ((h.below bW).below bD) hok)
  refine callsD_of_wpS Tryz.func84 rfl fun c₀ cs hu => ?_
  clear c0 c1 c2 hcc hcf ho h hok q0
  apply wpS_seq
  apply wpS_region
  simp [wpOpsS, go_sem, recoverD, hu, Tryz.ntmps84, Exit.thenS, undef13]
  refine wpS_of_wp ?_
  go_wp2_with fail
  refine Grl.start (S := fun X => X.cell? ⟨tb, 0, none⟩ = some (.slice va vn vq) ∧ X.cell? ⟨tb, 1, none⟩ = some (.int .i64 H) ∧ X.cell? ⟨tb, 2, none⟩ = some (.int .i64 F) ∧ X.cell? ⟨w.heap.size, 0, none⟩ = some (.int .i64 k)) (by kernel_rfl) (by exact unhide HS _ bD) (fun hHeld => ?_)
  refine Grl.yes 0 (v := ?_) rfl (by kernel_rfl) (by kernel_rfl) (by kernel_rfl) (fun _ _ _ h => h) (by kernel_rfl) ?_ (by assumption) ?_
  rotate_left
  · (intro w hSw; (try dsimp only at hSw); go_simp; try with_reducible rfl)
  simp only [Act.put, List.setIfInBounds_toArray, List.set_cons_zero, List.set_cons_succ]
  refine Grl.yes 2 (v := ?_) rfl (by kernel_rfl) (by kernel_rfl) (by kernel_rfl) (fun _ _ _ h => h) (by kernel_rfl) ?_ (by assumption) ?_
  rotate_left
  · (intro w hSw; (try dsimp only at hSw); go_simp; try with_reducible rfl)
  simp only [Act.put, List.setIfInBounds_toArray, List.set_cons_zero, List.set_cons_succ]
  refine Grl.yes 3 (v := ?_) rfl (by kernel_rfl) (by kernel_rfl) (by kernel_rfl) (fun _ _ _ h => h) (by kernel_rfl) ?_ (by assumption) ?_
  rotate_left
  · (intro w hSw; (try dsimp only at hSw); go_simp; try with_reducible rfl)
  simp only [Act.put, List.setIfInBounds_toArray, List.set_cons_zero, List.set_cons_succ]
  refine Grl.one 1 rfl (by kernel_rfl) (fun K hK => ?_)
  go_simp
  go_wp2_with fail
  refine (unhide HCp).mono ?_
  rintro e w2 ⟨r, rfl, orr, b2⟩
  obtain ⟨ra, rn, rq, rfl⟩ := orr.form
  have bW2 := bD.trans (b2.mono bD.size)
  have hs2 := unhide HS w2 bW2
  have O2 := own_below (unhide HO) bW2
  have z2 := bW2.size
  have kc2 := (bW2.cell (p := ⟨cb, 0, none⟩) hcW).trans kc
  have kf2 := (bW2.frozen (p := ⟨cb, 0, none⟩) hcW).trans kf
  obtain ⟨⟨pca, pfa⟩, ⟨pcb, pfb⟩, ⟨pcc, pfc⟩, so9, on9⟩ := Tab.box_put (w := w2) (.slice ra rn rq) (.int .i64 H) (.int .i64 F) O2
  obtain ⟨y9a, hy9a⟩ : ∃ V, w2.setCell ⟨ob, 0, none⟩ (.slice ra rn rq) = V := ⟨_, rfl⟩
  rw [hy9a] at pcb pfb pcc pfc so9 on9
  obtain ⟨y9b, hy9b⟩ : ∃ V, y9a.setCell ⟨ob, 1, none⟩ (.int .i64 H) = V := ⟨_, rfl⟩
  rw [hy9b] at pcc pfc so9 on9
  obtain ⟨y9, hy9⟩ : ∃ V, y9b.setCell ⟨ob, 2, none⟩ (.int .i64 F) = V := ⟨_, rfl⟩
  rw [hy9] at so9 on9
  have hs9 := (show y9.cell? ⟨tb, 0, none⟩ = some (.slice va vn vq) ∧ y9.cell? ⟨tb, 1, none⟩ = some (.int .i64 H) ∧ y9.cell? ⟨tb, 2, none⟩ = some (.int .i64 F) ∧ y9.cell? ⟨w.heap.size, 0, none⟩ = some (.int .i64 k) from And.intro ((World.cell?_of_block (a := ⟨tb, 0, none⟩) (on9.block _ hTob)).trans hs2.1) (And.intro ((World.cell?_of_block (a := ⟨tb, 1, none⟩) (on9.block _ hTob)).trans hs2.2.1) (And.intro ((World.cell?_of_block (a := ⟨tb, 2, none⟩) (on9.block _ hTob)).trans hs2.2.2.1) ((World.cell?_of_block (a := ⟨w.heap.size, 0, none⟩) (on9.block _ hNob)).trans hs2.2.2.2))))
  have kc9 := (World.cell?_of_block (a := ⟨cb, 0, none⟩) (on9.block _ (Ne.symm h3))).trans kc2
  have kf9 := (World.frozen?_of_block (a := ⟨cb, 0, none⟩) (on9.block _ (Ne.symm h3))).trans kf2
  obtain ⟨y8, hy8⟩ : ∃ V, y9.setCell ⟨cb, 0, none⟩ (.int .i64 k) = V := ⟨_, rfl⟩
  have on8 := (OnlyAt.refl cb y9).setCell 0 (.int .i64 k)
  rw [hy8] at on8
  have hs8 := (show y8.cell? ⟨tb, 0, none⟩ = some (.slice va vn vq) ∧ y8.cell? ⟨tb, 1, none⟩ = some (.int .i64 H) ∧ y8.cell? ⟨tb, 2, none⟩ = some (.int .i64 F) ∧ y8.cell? ⟨w.heap.size, 0, none⟩ = some (.int .i64 k) from And.intro ((World.cell?_of_block (a := ⟨tb, 0, none⟩) (on8.block _ hTcb)).trans hs9.1) (And.intro ((World.cell?_of_block (a := ⟨tb, 1, none⟩) (on8.block _ hTcb)).trans hs9.2.1) (And.intro ((World.cell?_of_block (a := ⟨tb, 2, none⟩) (on8.block _ hTcb)).trans hs9.2.2.1) ((World.cell?_of_block (a := ⟨w.heap.size, 0, none⟩) (on8.block _ hNcb)).trans hs9.2.2.2))))
  dsimp only
  refine hK.out _ _ (by exact hs2) (fun hHeld => ?_)
  clear hK K
  refine Grl.one 4 rfl (by kernel_rfl) (fun K hK => ?_)
  go_simp
  skip
  refine hK.out _ _ (by first | exact hs9 | exact hs8) (fun hHeld => ?_)
  clear hK K
  refine Grl.one 5 rfl (by kernel_rfl) (fun K hK => ?_)
  go_simp
  skip
  refine hK.out _ _ (by first | exact hs9 | exact hs8) (fun hHeld => ?_)
  clear hK K
  refine wpAnyH_done (by kernel_rfl) ?_ _
  have hk8 : y8.cell? ⟨cb, 0, none⟩ = some (.int .i64 k) := by rw [← hy8]; simp [go_sem, kc9, kf9]
  have b3 := Tab.box_three so9
  have n0 := (World.cell?_of_block (a := ⟨ob, 0, none⟩) (on8.block _ h3)).trans b3.1
  have n1 := (World.cell?_of_block (a := ⟨ob, 1, none⟩) (on8.block _ h3)).trans b3.2.1
  have n2 := (World.cell?_of_block (a := ⟨ob, 2, none⟩) (on8.block _ h3)).trans b3.2.2
  have HFin := hide (show ∃ (r : Value) (wm wn : World), Below w.heap.size w wm ∧ Row.Own w.heap.size wm.heap.size wm r L ∧ OnlyAt ob wm wn ∧ OnlyAt cb wn y8 ∧ y8.cell? ⟨ob, 0, none⟩ = some r ∧ y8.cell? ⟨ob, 1, none⟩ = some (.int .i64 H) ∧ y8.cell? ⟨ob, 2, none⟩ = some (.int .i64 F) ∧ y8.cell? ⟨cb, 0, none⟩ = some (.int .i64 k) from
    ⟨_, w2, y9, bW.trans (bW2.mono bW.size), orr.wide (by have := bW.size; simp only [World.size_drew]; omega) (Nat.le_refl _) (Nat.le_refl _), on9, on8, n0, n1, n2, hk8⟩)
  clear orr b2 hs2 hs9 hs8 so9 on9 on8 n0 n1 n2 hk8 b3 O2 hy8 hy9 hy9a hy9b pca pfa pcb pfb pcc pfc kc9 kf9 kc2 kf2 HS HO HCp
  go_wp2_with fail
  cases c₀
  simp_all [bodyPostS, results, Tryz.results84]
  exact unhide HFin
end Go.Proofs.YtlboekimnhgfdaaGreat.Tab

/- tryAll of the program: all entries are written, or a copy of what was, with a code. -/
namespace Go.Proofs.YtlboekimnhgfdaaGreat.Tab
open Go.RowKit Rw
set_option linter.unusedVariables false
set_option linter.unusedSimpArgs false
attribute [local go_sem ↓] Go.wp_at_zero Go.wp_at_succ
theorem _root_.Go.Proofs.YtlboekimnhgfdaaGreat.Row.Own.hi_le {lo hi : Nat} {w : World} {v : Value} {zs : List Row.E} (h : Row.Own lo hi w v zs) : hi ≤ w.heap.size := by obtain ⟨cs, h1, h2, h3, h4, -⟩ := h; exact h4
def tryE (t : T3) (b : List En) : T3 × Int := if (runT t b).2 = 0 then runT t b else (t, (runT t b).2)
theorem tryE_stop {t : T3} {b : List En} {k : Int} (h : (runT t b).2 = k) (hk : k ≠ 0) : tryE t b = (t, k) := by unfold tryE; rw [h, if_neg hk]
theorem tryE_fine {t t' : T3} {b : List En} (h : runT t b = (t', 0)) : tryE t b = (t', 0) := by unfold tryE; rw [h, if_pos rfl]
set_option maxRecDepth 100000 in
set_option maxHeartbeats 16000000 in
theorem try_any {w : World} {bv : Value} {L : List Row.E} {b : List En} (av : Option Addr) (nv cv : Nat) (H F : Int) (h : Row.Is w (.slice av nv cv) L) (hB : tabB (L, H, F)) (hb : Ent.Is w bv b) (hg : Okay b) (hn6 : b.length ≤ 6) :
    Calls Tryz.prog 45 #[.agg #[.slice av nv cv, .int .i64 H, .int .i64 F], bv] w fun e w' => ∃ r, e = .returned (.tuple #[.agg #[r, .int .i64 (tryE (L, H, F) b).1.2.1, .int .i64 (tryE (L, H, F) b).1.2.2], .int .i64 (tryE (L, H, F) b).2]) ∧ Row.Own w.heap.size w'.heap.size w' r (tryE (L, H, F) b).1.1 ∧ Below w.heap.size w w' := by
  have hmf : ∀ (fn : Fn) (first cap : Array Value) (w : World), (Instr.makeFunc fn first cap).run Tryz.prog w = .ok (.func fn first cap) w := fun _ _ _ _ => rfl
  obtain ⟨W, hW⟩ : ∃ V, (((w.alloc (.cells #[.slice av nv cv, .int .i64 H, .int .i64 F] 30)).alloc (.cells #[.slice none 0 0, .int .i64 0, .int .i64 0] 30)).alloc (.cells #[.int .i64 0] 3)) = V := ⟨_, rfl⟩
  have bW : Below w.heap.size w W := by rw [← hW]; exact (((Below.refl _ _).alloc (Nat.le_refl _) _).alloc (by simp) _).alloc (by simp; omega) _
  have zW : W.heap.size = w.heap.size + 1 + 1 + 1 := by rw [← hW]; simp
  have RT : W.ownsRow w.heap.size 30 3 (.slice (some ⟨w.heap.size, 0, none⟩) 1 1) 1 [.slice av nv cv, .int .i64 H, .int .i64 F] := by
    rw [← hW]
    exact own_below (own_below (own_new3 (Nat.le_refl _) rfl) ((Below.refl _ _).alloc (Nat.le_refl _) _)) ((Below.refl _ _).alloc (Nat.le_refl _) _)
  have RO : W.ownsRow w.heap.size 30 3 (.slice (some ⟨w.heap.size + 1, 0, none⟩) 1 1) 1 [.slice none 0 0, .int .i64 0, .int .i64 0] := by
    rw [← hW]
    have := own_new3 (w := w.alloc (.cells #[.slice av nv cv, .int .i64 H, .int .i64 F] 30)) (base := w.heap.size) (t := 30) (cs := #[.slice none 0 0, .int .i64 0, .int .i64 0]) (by simp) rfl
    simp only [World.size_alloc] at this
    exact own_below this ((Below.refl _ _).alloc (Nat.le_refl _) _)
  have kc : W.cell? ⟨w.heap.size + 1 + 1, 0, none⟩ = some (.int .i64 0) := by rw [← hW]; simp [go_sem]
  have kf : W.frozen? ⟨w.heap.size + 1 + 1, 0, none⟩ = false := by rw [← hW]; simp [go_sem]
  have HCp := hide (impl_copy (w := W) H F (h.below bW) hB.1)
  have HV := hide (h.below bW)
  have HT := hide hB
  obtain ⟨cs, hcs, hLi, hEl⟩ := hb.below bW
  obtain ⟨-, ab, qb, rfl, hbc, hbm, -, hbr⟩ := hLi
  unfold maxLen at hbm
  obtain ⟨n, hn⟩ : ∃ n, n = b.length := ⟨_, rfl⟩
  have HN := hide hn
  have HCs := hide hcs
  have HEl := hide hEl
  have HG := hide hg
  rw [← hn] at hbc hbr hn6 ⊢
  have hta := box_three RT
  obtain ⟨res, hres⟩ : ∃ x, x = tryE (L, H, F) b := ⟨_, rfl⟩
  rw [← hres]
  have HRes := hide hres
  have hVok := hide hB.1
  clear h hB hg hcs hEl hn hres
  go_enter_defers Tryz.func45, Tryz.ntmps45
  go_wp2_with fail
  clear hW
  refine (unhide HCp).mono ?_
  rintro e w1 ⟨r, rfl, o1, b1⟩
  obtain ⟨ra, rl, rq, rfl⟩ := o1.form
  obtain ⟨tb, htb⟩ : ∃ k, k = w1.heap.size := ⟨_, rfl⟩
  obtain ⟨W1, hW1⟩ : ∃ V, w1.alloc (.cells #[.slice ra rl rq, .int .i64 H, .int .i64 F] 119) = V := ⟨_, rfl⟩
  have b2 : Below w1.heap.size w1 W1 := by rw [← hW1]; exact (Below.refl _ _).alloc (Nat.le_refl _) _
  have z2 : W1.heap.size = tb + 1 := by rw [← hW1, htb]; simp
  have z1 := b1.size
  have C1 := hide (show W1.cell? ⟨tb, 0, none⟩ = some (.slice ra rl rq) ∧ W1.cell? ⟨tb, 1, none⟩ = some (.int .i64 H) ∧ W1.cell? ⟨tb, 2, none⟩ = some (.int .i64 F) ∧ W1.frozen? ⟨tb, 0, none⟩ = false ∧ W1.frozen? ⟨tb, 1, none⟩ = false from by
    rw [← hW1, htb]
    exact ⟨by simp [go_sem], by simp [go_sem], by simp [go_sem], by simp [go_sem], by simp [go_sem]⟩)
  have O1 := hide ((o1.below b2).wide (lo' := W.heap.size) (hi' := tb) (Nat.le_refl _) (by omega) (by omega))
  have d1 := b1.trans (b2.mono z1)
  have HStart := hide (show runT (L, H, F) (b.take 0) = ((L, H, F), 0) from rfl)
  have htW : W.heap.size ≤ tb := by omega
  rw [← htb] at z1
  clear o1 b1 b2 HCp
  go_wp2_with fail
  rw [← htb]
  clear hW1 htb
  go_loopw [15] (fun iv wr => ∃ (k : Nat) (R : List Row.E) (H' : Int) (ra : Option Addr) (rl rq lo hi : Nat), iv = .int .i64 (k : Int) ∧ k ≤ n ∧ Hid (runT (L, H, F) (b.take k) = ((R, H', F), 0)) ∧ Hid (wr.cell? ⟨tb, 0, none⟩ = some (.slice ra rl rq) ∧ wr.cell? ⟨tb, 1, none⟩ = some (.int .i64 H') ∧ wr.cell? ⟨tb, 2, none⟩ = some (.int .i64 F) ∧ wr.frozen? ⟨tb, 0, none⟩ = false ∧ wr.frozen? ⟨tb, 1, none⟩ = false) ∧ Hid (Row.Own lo hi wr (.slice ra rl rq) R) ∧ (hi ≤ tb ∨ tb + 1 ≤ lo) ∧ W.heap.size ≤ lo ∧ Below W.heap.size W wr ∧ tb < wr.heap.size) (fun i _ => n - (intOf i).toNat)
  case atStart => exact ⟨0, L, H, ra, rl, rq, W.heap.size, tb, rfl, Nat.zero_le _, HStart, C1, O1, .inl (Nat.le_refl _), Nat.le_refl _, d1, by omega⟩
  case round =>
    clear HStart C1 O1 d1 z2
    obtain ⟨k, R, H', ra, rl, rq, lo, hi, rfl, hk, HRun, HC, HOw, hlh, hlo, hbel, htr⟩ := hrel
    have hsz := hbel.size
    have hk0 : (0 : Int) ≤ (k : Int) := Int.natCast_nonneg _
    by_cases hlt : k < n
    · obtain ⟨bx, offx, rfl, hbx, hcells⟩ := hbr (by omega)
      have hkz : k < b.length := by rw [← unhide HN]; exact hlt
      have hk1 : (k : Int) < (n : Int) := by omega
      have hel := unhide HEl k hkz
      have f0 := flatOf_get Ent.clk cs k 0 (by rw [unhide HCs]; exact hkz) (by omega)
      have f1 := flatOf_get Ent.clk cs k 1 (by rw [unhide HCs]; exact hkz) (by omega)
      have f2 := flatOf_get Ent.clk cs k 2 (by rw [unhide HCs]; exact hkz) (by omega)
      have hge := unhide HG _ (Ent.at_mem b k hkz)
      have ecat := Ent.cat_get cs k (by rw [unhide HCs]; exact hkz)
      obtain ⟨⟨ls, A, V⟩, hE⟩ : ∃ x, x = Ent.at' b k := ⟨_, rfl⟩
      obtain ⟨⟨c0, c1, c2⟩, hC⟩ : ∃ c, c = Ent.cat cs k := ⟨_, rfl⟩
      rw [← hE, ← hC] at hel
      rw [← hE] at hge
      rw [← ecat, ← hC] at f0 f1 f2
      obtain ⟨hel1, hel2, hel3⟩ := hel
      simp only at hel1 hel2 hel3 hge
      subst hel2
      subst hel3
      obtain ⟨au, nu, qu, rfl⟩ : ∃ a n q, c0 = .slice a n q := by obtain ⟨-, a, q, e, -⟩ := id hel1; exact ⟨a, _, q, e⟩
      have x0 : wr.cell? ⟨bx, offx + k * 3, none⟩ = some (.slice au nu qu) := (hbel.cell (p := ⟨bx, _, none⟩) hbx).trans (hcells (k * 3) _ f0)
      have x1 : wr.cell? ⟨bx, offx + k * 3 + 1, none⟩ = some (.int .i64 A) := (hbel.cell (p := ⟨bx, _, none⟩) hbx).trans (hcells (k * 3 + 1) _ f1)
      have x2 : wr.cell? ⟨bx, offx + k * 3 + 2, none⟩ = some (.int .i64 V) := (hbel.cell (p := ⟨bx, _, none⟩) hbx).trans (hcells (k * 3 + 2) _ f2)
      have hTab : tabB (R, H', F) := by have := runT_tab (b.take k) (unhide HT); rw [unhide HRun] at this; exact this
      obtain ⟨wE, hwE⟩ : ∃ V', wr.alloc (.cells #[.slice au nu qu, .int .i64 A, .int .i64 V] 62) = V' := ⟨_, rfl⟩
      have bE : Below wr.heap.size wr wE := by rw [← hwE]; exact (Below.refl _ _).alloc (Nat.le_refl _) _
      have zE := bE.size
      have e0 : wE.cell? ⟨wr.heap.size, 0, none⟩ = some (.slice au nu qu) := by rw [← hwE]; simp [go_sem]
      have e1 : wE.cell? ⟨wr.heap.size, 1, none⟩ = some (.int .i64 A) := by rw [← hwE]; simp [go_sem]
      have e2 : wE.cell? ⟨wr.heap.size, 2, none⟩ = some (.int .i64 V) := by rw [← hwE]; simp [go_sem]
      have bEW := hbel.trans (bE.mono hsz)
      obtain ⟨t0, t1, t2, g0, g1⟩ := unhide HC
      have y0 := (bE.cell (p := ⟨tb, 0, none⟩) htr).trans t0
      have y1 := (bE.cell (p := ⟨tb, 1, none⟩) htr).trans t1
      have y2 := (bE.cell (p := ⟨tb, 2, none⟩) htr).trans t2
      have y3 := (bE.frozen (p := ⟨tb, 0, none⟩) htr).trans g0
      have y4 := (bE.frozen (p := ⟨tb, 1, none⟩) htr).trans g1
      have HWr := hide (write_any (w := wE) tb ra rl rq H' F A V (by omega) y0 y1 y2 y3 y4 ((unhide HOw).is.below bE) hTab (hel1.below bEW) hge.1 hge.2)
      have HNx := hide (runT_next hkz (unhide HRun))
      have HStop := hide (fun h2 => runT_stop hkz (unhide HRun) h2)
      rw [← hE] at HNx HStop
      clear f0 f1 f2 hel1 hge ecat hE hC hcells hTab t0 t1 t2 g0 g1 y0 y1 y2 y3 y4 HC
      go_wp2_with fail
      refine (unhide HWr).mono ?_
      rintro e w3 hw3
      rcases hw3 with ⟨k2, hk2, ho2, rfl, b3⟩ | ⟨R2, H2, r2, wm, ho2, rfl, b3, o3, on3, p0, p1, p2, p3, p4⟩
      · have hRR : (runT (L, H, F) b).2 = k2 := by
          have := unhide HStop (by rw [ho2]; exact hk2)
          rw [this, ho2]
        have hres : res = ((L, H, F), k2) := by rw [unhide HRes]; exact tryE_stop hRR hk2
        subst hres
        have b3W := bEW.trans (b3.mono bEW.size)
        have RO3 := own_below RO b3W
        obtain ⟨a0, a1, a2⟩ := box_three (own_below RT b3W)
        have hcW : w.heap.size + 1 + 1 < W.heap.size := by omega
        have kc3 := (b3W.cell (p := ⟨w.heap.size + 1 + 1, 0, none⟩) hcW).trans kc
        have kf3 := (b3W.frozen (p := ⟨w.heap.size + 1 + 1, 0, none⟩) hcW).trans kf
        have z3 := b3W.size
        have HCt := hide (catch_thrown (B := w.heap.size) w.heap.size (w.heap.size + 1) (w.heap.size + 1 + 1) k2 w3 H F av nv cv a0 a1 a2 (by omega) RO3 kc3 kf3 (by omega) (by omega) (by omega) (by omega) ((unhide HV).below b3W) (unhide hVok))
        have d3 := bW.trans (b3W.mono bW.size)
        clear HWr HNx HStop hRR HRun HOw RO3 a0 a1 a2 kc3 kf3
        go_wp2_with fail
        refine leaves_cons (f := 84) (args := #[.pointer (some ⟨w.heap.size, 0, none⟩), .pointer (some ⟨w.heap.size + 1, 0, none⟩), .pointer (some ⟨w.heap.size + 1 + 1, 0, none⟩)]) (by simp) (by simp [go_sem]) ?_
        refine (unhide HCt).mono ?_
        rintro e u' w' ⟨rfl, rfl, r, wm, wn, p1, p2, p3, p4, q0, q1, q2, q3⟩
        have hwm := p1.size
        have hs3 := p3.size
        have hs4 := p4.size
        have o4 := hide (((p2.zone (Zone.of_only p3 (Nat.le_refl _) (Nat.lt_succ_self _)) (.inr (by omega))).zone (Zone.of_only p4 (Nat.le_refl _) (Nat.lt_succ_self _)) (.inr (by omega))).wide (lo' := w.heap.size) (hi' := w'.heap.size) (by omega) (by omega) (Nat.le_refl _))
        have d4 := hide (((d3.trans (p1.mono d3.size)).trans (p3.below (show w.heap.size ≤ w.heap.size + 1 by omega))).trans (p4.below (show w.heap.size ≤ w.heap.size + 1 + 1 by omega)))
        simp [Leaves, settle, results, Tryz.results45, go_sem, q0, q1, q2, q3]
        exact ⟨unhide o4, unhide d4⟩
      · obtain ⟨ra2, rl2, rq2, rfl⟩ := o3.form
        have hwm := b3.size
        have hs3 := on3.size
        have HRun2 := hide (show runT (L, H, F) (b.take (k + 1)) = ((R2, H2, F), 0) by rw [unhide HNx, ho2])
        have HC2 := hide (And.intro p0 (And.intro p1 (And.intro p2 (And.intro p3 p4))))
        have HO2 := hide (o3.zone (Zone.of_only on3 (Nat.le_refl _) (Nat.lt_succ_self _)) (.inr (by omega)))
        have b3W := hide ((bEW.trans (b3.mono bEW.size)).trans (on3.below htW))
        clear HWr HNx HStop HRun HOw p0 p1 p2 p3 p4 o3 on3 b3 ho2
        go_wp2_with fail
        go_roundw
        case rel => exact ⟨k + 1, R2, H2, ra2, rl2, rq2, wE.heap.size, wm.heap.size, by go_num, by omega, HRun2, HC2, HO2, .inr (by omega), by omega, unhide b3W, by omega⟩
        case measure => first | (simp [intOf]; done) | (simp [intOf]; omega)
    · obtain rfl : k = n := by omega
      have hAll : runT (L, H, F) b = ((R, H', F), 0) := by have := unhide HRun; rwa [List.take_of_length_le (by have := unhide HN; omega)] at this
      have hres : res = ((R, H', F), 0) := by rw [unhide HRes]; exact tryE_fine hAll
      subst hres
      obtain ⟨t0, t1, t2, g0, g1⟩ := unhide HC
      have RO3 := own_below RO hbel
      have hcW : w.heap.size + 1 + 1 < W.heap.size := by omega
      have kc3 := (hbel.cell (p := ⟨w.heap.size + 1 + 1, 0, none⟩) hcW).trans kc
      have kf3 := (hbel.frozen (p := ⟨w.heap.size + 1 + 1, 0, none⟩) hcW).trans kf
      obtain ⟨⟨pca, pfa⟩, ⟨pcb, pfb⟩, ⟨pcc, pfc⟩, so9, on9⟩ := Tab.box_put (w := wr) (.slice ra rl rq) (.int .i64 H') (.int .i64 F) RO3
      obtain ⟨y9a, hy9a⟩ : ∃ V, wr.setCell ⟨w.heap.size + 1, 0, none⟩ (.slice ra rl rq) = V := ⟨_, rfl⟩
      rw [hy9a] at pcb pfb pcc pfc so9 on9
      obtain ⟨y9b, hy9b⟩ : ∃ V, y9a.setCell ⟨w.heap.size + 1, 1, none⟩ (.int .i64 H') = V := ⟨_, rfl⟩
      rw [hy9b] at pcc pfc so9 on9
      obtain ⟨y9, hy9⟩ : ∃ V, y9b.setCell ⟨w.heap.size + 1, 2, none⟩ (.int .i64 F) = V := ⟨_, rfl⟩
      rw [hy9] at so9 on9
      have kc9 := (World.cell?_of_block (a := ⟨w.heap.size + 1 + 1, 0, none⟩) (on9.block (w.heap.size + 1 + 1) (show w.heap.size + 1 + 1 ≠ w.heap.size + 1 by omega))).trans kc3
      have kf9 := (World.frozen?_of_block (a := ⟨w.heap.size + 1 + 1, 0, none⟩) (on9.block (w.heap.size + 1 + 1) (show w.heap.size + 1 + 1 ≠ w.heap.size + 1 by omega))).trans kf3
      obtain ⟨y8, hy8⟩ : ∃ V, y9.setCell ⟨w.heap.size + 1 + 1, 0, none⟩ (.int .i64 0) = V := ⟨_, rfl⟩
      have on8 := (OnlyAt.refl (w.heap.size + 1 + 1) y9).setCell 0 (.int .i64 0)
      rw [hy8] at on8
      have hk8 : y8.cell? ⟨w.heap.size + 1 + 1, 0, none⟩ = some (.int .i64 0) := by rw [← hy8]; simp [go_sem, kc9, kf9]
      have b3 := Tab.box_three so9
      have n0 := (World.cell?_of_block (a := ⟨w.heap.size + 1, 0, none⟩) (on8.block (w.heap.size + 1) (show w.heap.size + 1 ≠ w.heap.size + 1 + 1 by omega))).trans b3.1
      have n1 := (World.cell?_of_block (a := ⟨w.heap.size + 1, 1, none⟩) (on8.block (w.heap.size + 1) (show w.heap.size + 1 ≠ w.heap.size + 1 + 1 by omega))).trans b3.2.1
      have n2 := (World.cell?_of_block (a := ⟨w.heap.size + 1, 2, none⟩) (on8.block (w.heap.size + 1) (show w.heap.size + 1 ≠ w.heap.size + 1 + 1 by omega))).trans b3.2.2
      have hs3 := on9.size
      have hs4 := on8.size
      have hh4 := (unhide HOw).hi_le
      have o4 := hide ((((unhide HOw).zone (Zone.of_only on9 (Nat.le_refl _) (Nat.lt_succ_self _)) (.inr (by omega))).zone (Zone.of_only on8 (Nat.le_refl _) (Nat.lt_succ_self _)) (.inr (by omega))).wide (lo' := w.heap.size) (hi' := y8.heap.size) (by omega) (by omega) (Nat.le_refl _))
      have d4 := hide (((bW.trans (hbel.mono bW.size)).trans (on9.below (show w.heap.size ≤ w.heap.size + 1 by omega))).trans (on8.below (show w.heap.size ≤ w.heap.size + 1 + 1 by omega)))
      clear HRun HC HOw RO3 so9 on9 on8 b3 hAll
      go_wp2_with fail
      refine leaves_cons (f := 84) (args := #[.pointer (some ⟨w.heap.size, 0, none⟩), .pointer (some ⟨w.heap.size + 1, 0, none⟩), .pointer (some ⟨w.heap.size + 1 + 1, 0, none⟩)]) (by simp) (by simp [go_sem]) ?_
      refine (catch_idle _ _ _ _).mono ?_
      rintro e u' w' ⟨rfl, rfl, rfl⟩
      simp [Leaves, settle, results, Tryz.results45, go_sem, n0, n1, n2, hk8]
      exact ⟨unhide o4, unhide d4⟩
end Go.Proofs.YtlboekimnhgfdaaGreat.Tab

/- TableAdd of the program and of the model. -/
namespace Go.Proofs.YtlboekimnhgfdaaGreat.Tab
open Go.RowKit Rw
set_option linter.unusedVariables false
set_option linter.unusedSimpArgs false
attribute [local go_sem ↓] Go.wp_at_zero Go.wp_at_succ
/-- what TableAdd answers -/
def tadd (L : List Row.E) (H F : Int) (b : List En) : T3 × Int := if Row.tableB L H F = true then addE (L, H, F) b else (([], 0, 0), 1)
theorem tadd_no {L : List Row.E} {H F : Int} {b : List En} (h : Row.tableB L H F = false) : tadd L H F b = (([], 0, 0), 1) := by unfold tadd; rw [h]; rfl
theorem tadd_yes {L : List Row.E} {H F : Int} {b : List En} (h : Row.tableB L H F = true) : tadd L H F b = addE (L, H, F) b := by unfold tadd; rw [if_pos h]
theorem addE_try {t : T3} {b : List En} (h : 1 ≤ b.length ∧ b.length ≤ 6) : addE t b = tryE t b := by unfold addE tryE; rw [if_pos h]
theorem tab_of {L : List Row.E} {H F : Int} (h : Row.tableB L H F = true) : tabB (L, H, F) := by
  unfold Row.tableB Row.floorB at h
  simp only [Bool.and_eq_true, decide_eq_true_eq] at h
  obtain ⟨⟨⟨⟨⟨h1, h2⟩, ⟨⟨h3, h4⟩, h5⟩⟩, h6⟩, h7⟩, h8⟩ := h
  exact ⟨h7, ⟨h1, h2⟩, ⟨h3, h4⟩⟩
set_option maxRecDepth 100000 in
set_option maxHeartbeats 8000000 in
theorem impl_tadd {w : World} {v bv : Value} {L : List Row.E} {b : List En} (H F : Int) (h : Row.Is w v L) (hgL : ∀ x ∈ L, Row.good x) (hlL : L.length ≤ maxLen) (hb : Ent.Is w bv b) (hg : Okay b) :
    Calls Tryz.prog 15 #[.agg #[v, .int .i64 H, .int .i64 F], bv] w fun e w' => ∃ r, e = .returned (.tuple #[.agg #[r, .int .i64 (tadd L H F b).1.2.1, .int .i64 (tadd L H F b).1.2.2], .int .i64 (tadd L H F b).2]) ∧ Row.Own w.heap.size w'.heap.size w' r (tadd L H F b).1.1 ∧ Below w.heap.size w w' := by
  obtain ⟨av, nv, cv, rfl⟩ : ∃ a n c, v = .slice a n c := by obtain ⟨cs, -, hL, -⟩ := h; obtain ⟨-, a, c, e, -⟩ := hL; exact ⟨a, _, c, e⟩
  obtain ⟨W, hW⟩ : ∃ V, ((w.alloc (.cells #[.slice av nv cv, .int .i64 H, .int .i64 F] 30)).alloc (.cells #[.slice none 0 0, .int .i64 0, .int .i64 0] 30)) = V := ⟨_, rfl⟩
  have bW : Below w.heap.size w W := by rw [← hW]; exact ((Below.refl _ _).alloc (Nat.le_refl _) _).alloc (by simp) _
  have zW : W.heap.size = w.heap.size + 1 + 1 := by rw [← hW]; simp
  have RT : W.ownsRow w.heap.size 30 3 (.slice (some ⟨w.heap.size, 0, none⟩) 1 1) 1 [.slice av nv cv, .int .i64 H, .int .i64 F] := by
    rw [← hW]
    exact own_below (own_new3 (Nat.le_refl _) rfl) ((Below.refl _ _).alloc (Nat.le_refl _) _)
  have RO : W.ownsRow w.heap.size 30 3 (.slice (some ⟨w.heap.size + 1, 0, none⟩) 1 1) 1 [.slice none 0 0, .int .i64 0, .int .i64 0] := by
    rw [← hW]
    have := own_new3 (w := w.alloc (.cells #[.slice av nv cv, .int .i64 H, .int .i64 F] 30)) (base := w.heap.size) (t := 30) (cs := #[.slice none 0 0, .int .i64 0, .int .i64 0]) (by simp) rfl
    simp only [World.size_alloc] at this
    exact this
  have HOk := hide (Row.impl_table (H := H) (F := F) (h.below bW) hgL hlL)
  have HCp := hide (fun (ht : Row.tableB L H F = true) X (hx : Below W.heap.size W X) => impl_copy (w := X) H F ((h.below bW).below hx) (tab_of ht).1)
  have HTr := hide (fun (ht : Row.tableB L H F = true) (hn6 : b.length ≤ 6) X (hx : Below W.heap.size W X) => try_any (w := X) av nv cv H F ((h.below bW).below hx) (tab_of ht) ((hb.below bW).below hx) hg hn6)
  obtain ⟨ab, qb, ee, hbq⟩ : ∃ a q, bv = .slice a b.length q ∧ b.length ≤ q ∧ q ≤ maxLen := by obtain ⟨cs, -, hL, -⟩ := hb; obtain ⟨-, a, q, e, h1, h2, -⟩ := hL; exact ⟨a, q, e, h1, h2⟩
  subst ee
  unfold maxLen at hbq
  obtain ⟨n, hn⟩ : ∃ n, n = b.length := ⟨_, rfl⟩
  have HN := hide hn
  rw [← hn] at hbq HTr ⊢
  obtain ⟨res, hres⟩ : ∃ x, x = tadd L H F b := ⟨_, rfl⟩
  rw [← hres]
  have HRes := hide hres
  obtain ⟨x0, x1, x2⟩ := box_three RT
  clear h hgL hlL hb hg hn hres
  go_enter Tryz.func15, Tryz.ntmps15
  go_wp2_with fail
  refine (unhide HOk).mono ?_
  rintro e w1 ⟨rfl, b1⟩
  have d1 := bW.trans (b1.mono bW.size)
  have z1 := b1.size
  cases hT : Row.tableB L H F
  · have hr : res = (([], 0, 0), 1) := by rw [unhide HRes]; exact tadd_no hT
    subst hr
    obtain ⟨⟨pca, pfa⟩, ⟨pcb, pfb⟩, ⟨pcc, pfc⟩, so9, on9⟩ := Tab.box_put (w := w1) (.slice none 0 0) (.int .i64 0) (.int .i64 0) (own_below RO b1)
    obtain ⟨y9a, hy9a⟩ : ∃ V, w1.setCell ⟨w.heap.size + 1, 0, none⟩ (.slice none 0 0) = V := ⟨_, rfl⟩
    rw [hy9a] at pcb pfb pcc pfc so9 on9
    obtain ⟨y9b, hy9b⟩ : ∃ V, y9a.setCell ⟨w.heap.size + 1, 1, none⟩ (.int .i64 0) = V := ⟨_, rfl⟩
    rw [hy9b] at pcc pfc so9 on9
    obtain ⟨y9, hy9⟩ : ∃ V, y9b.setCell ⟨w.heap.size + 1, 2, none⟩ (.int .i64 0) = V := ⟨_, rfl⟩
    rw [hy9] at so9 on9
    obtain ⟨e0, e1, e2⟩ := Tab.box_three so9
    have o4 := hide (Row.own_nil w.heap.size y9)
    have d4 := hide (d1.trans (on9.below (show w.heap.size ≤ w.heap.size + 1 by omega)))
    clear hT HCp HTr HOk so9 on9
    go_wp2_with fail
    refine bodyPost_ret (v := .tuple #[.agg #[.slice none 0 0, .int .i64 0, .int .i64 0], .int .i64 1]) (by simp [results, Tryz.results15, go_sem, e0, e1, e2]) rfl ⟨_, rfl, unhide o4, unhide d4⟩
  have HTT := hide hT
  clear hT HOk x0 x1 x2
  obtain ⟨x0, x1, x2⟩ := box_three (own_below RT b1)
  by_cases hl : 1 ≤ n ∧ n ≤ 6
  · have hl' : 1 ≤ b.length ∧ b.length ≤ 6 := by rw [← unhide HN]; exact hl
    have hr : res = tryE (L, H, F) b := by rw [unhide HRes, tadd_yes (unhide HTT)]; exact addE_try hl'
    have HTr2 := hide (unhide HTr (unhide HTT) hl.2 w1 b1)
    rw [← hr] at HTr2
    have hd1 : decide ((n : Int) < 1) = false := by simp; omega
    have hd2 : decide ((6 : Int) < (n : Int)) = false := by simp; omega
    have hn1 : ¬ (n : Int) < 1 := by omega
    have hn2 : ¬ (6 : Int) < (n : Int) := by omega
    clear HTr HCp hr hl'
    go_wp2_with fail
    refine (unhide HTr2).mono ?_
    rintro e w2 ⟨r, rfl, o2, b2⟩
    obtain ⟨ra, rl, rq, rfl⟩ := o2.form
    have b12 := b1.trans (b2.mono b1.size)
    have z2 := b2.size
    obtain ⟨⟨pca, pfa⟩, ⟨pcb, pfb⟩, ⟨pcc, pfc⟩, so9, on9⟩ := Tab.box_put (w := w2) (.slice ra rl rq) (.int .i64 res.1.2.1) (.int .i64 res.1.2.2) (own_below RO b12)
    obtain ⟨y9a, hy9a⟩ : ∃ V, w2.setCell ⟨w.heap.size + 1, 0, none⟩ (.slice ra rl rq) = V := ⟨_, rfl⟩
    rw [hy9a] at pcb pfb pcc pfc so9 on9
    obtain ⟨y9b, hy9b⟩ : ∃ V, y9a.setCell ⟨w.heap.size + 1, 1, none⟩ (.int .i64 res.1.2.1) = V := ⟨_, rfl⟩
    rw [hy9b] at pcc pfc so9 on9
    obtain ⟨y9, hy9⟩ : ∃ V, y9b.setCell ⟨w.heap.size + 1, 2, none⟩ (.int .i64 res.1.2.2) = V := ⟨_, rfl⟩
    rw [hy9] at so9 on9
    obtain ⟨e0, e1, e2⟩ := Tab.box_three so9
    have o4 := hide ((o2.zone (Zone.of_only on9 (Nat.le_refl _) (Nat.lt_succ_self _)) (.inr (by omega))).wide (lo' := w.heap.size) (hi' := y9.heap.size) (by omega) (by have := on9.size; omega) (Nat.le_refl _))
    have d4 := hide ((d1.trans (b2.mono d1.size)).trans (on9.below (show w.heap.size ≤ w.heap.size + 1 by omega)))
    clear HTr2 o2 so9 on9
    go_wp2_with fail
    refine bodyPost_ret (v := .tuple #[.agg #[.slice ra rl rq, .int .i64 res.1.2.1, .int .i64 res.1.2.2], .int .i64 res.2]) (by simp [results, Tryz.results15, go_sem, e0, e1, e2]) rfl ⟨_, rfl, unhide o4, unhide d4⟩
  · have hr : res = ((L, H, F), 1) := by rw [unhide HRes, tadd_yes (unhide HTT)]; exact addE_bad (by rw [← unhide HN]; exact hl)
    subst hr
    have HCp2 := hide (unhide HCp (unhide HTT) w1 b1)
    clear HTr HCp
    by_cases hn1 : (n : Int) < 1
    · go_wp2_with fail
      refine (unhide HCp2).mono ?_
      rintro e w2 ⟨r, rfl, o2, b2⟩
      obtain ⟨ra, rl, rq, rfl⟩ := o2.form
      have b12 := b1.trans (b2.mono b1.size)
      have z2 := b2.size
      obtain ⟨⟨pca, pfa⟩, ⟨pcb, pfb⟩, ⟨pcc, pfc⟩, so9, on9⟩ := Tab.box_put (w := w2) (.slice ra rl rq) (.int .i64 H) (.int .i64 F) (own_below RO b12)
      obtain ⟨y9a, hy9a⟩ : ∃ V, w2.setCell ⟨w.heap.size + 1, 0, none⟩ (.slice ra rl rq) = V := ⟨_, rfl⟩
      rw [hy9a] at pcb pfb pcc pfc so9 on9
      obtain ⟨y9b, hy9b⟩ : ∃ V, y9a.setCell ⟨w.heap.size + 1, 1, none⟩ (.int .i64 H) = V := ⟨_, rfl⟩
      rw [hy9b] at pcc pfc so9 on9
      obtain ⟨y9, hy9⟩ : ∃ V, y9b.setCell ⟨w.heap.size + 1, 2, none⟩ (.int .i64 F) = V := ⟨_, rfl⟩
      rw [hy9] at so9 on9
      obtain ⟨e0, e1, e2⟩ := Tab.box_three so9
      have o4 := hide ((o2.zone (Zone.of_only on9 (Nat.le_refl _) (Nat.lt_succ_self _)) (.inr (by omega))).wide (lo' := w.heap.size) (hi' := y9.heap.size) (by omega) (by have := on9.size; omega) (Nat.le_refl _))
      have d4 := hide ((d1.trans (b2.mono d1.size)).trans (on9.below (show w.heap.size ≤ w.heap.size + 1 by omega)))
      clear HCp2 o2 so9 on9
      go_wp2_with fail
      refine bodyPost_ret (v := .tuple #[.agg #[.slice ra rl rq, .int .i64 H, .int .i64 F], .int .i64 1]) (by simp [results, Tryz.results15, go_sem, e0, e1, e2]) rfl ⟨_, rfl, unhide o4, unhide d4⟩
    · have hn2 : (6 : Int) < (n : Int) := by omega
      go_wp2_with fail
      refine (unhide HCp2).mono ?_
      rintro e w2 ⟨r, rfl, o2, b2⟩
      obtain ⟨ra, rl, rq, rfl⟩ := o2.form
      have b12 := b1.trans (b2.mono b1.size)
      have z2 := b2.size
      obtain ⟨⟨pca, pfa⟩, ⟨pcb, pfb⟩, ⟨pcc, pfc⟩, so9, on9⟩ := Tab.box_put (w := w2) (.slice ra rl rq) (.int .i64 H) (.int .i64 F) (own_below RO b12)
      obtain ⟨y9a, hy9a⟩ : ∃ V, w2.setCell ⟨w.heap.size + 1, 0, none⟩ (.slice ra rl rq) = V := ⟨_, rfl⟩
      rw [hy9a] at pcb pfb pcc pfc so9 on9
      obtain ⟨y9b, hy9b⟩ : ∃ V, y9a.setCell ⟨w.heap.size + 1, 1, none⟩ (.int .i64 H) = V := ⟨_, rfl⟩
      rw [hy9b] at pcc pfc so9 on9
      obtain ⟨y9, hy9⟩ : ∃ V, y9b.setCell ⟨w.heap.size + 1, 2, none⟩ (.int .i64 F) = V := ⟨_, rfl⟩
      rw [hy9] at so9 on9
      obtain ⟨e0, e1, e2⟩ := Tab.box_three so9
      have o4 := hide ((o2.zone (Zone.of_only on9 (Nat.le_refl _) (Nat.lt_succ_self _)) (.inr (by omega))).wide (lo' := w.heap.size) (hi' := y9.heap.size) (by omega) (by have := on9.size; omega) (Nat.le_refl _))
      have d4 := hide ((d1.trans (b2.mono d1.size)).trans (on9.below (show w.heap.size ≤ w.heap.size + 1 by omega)))
      clear HCp2 o2 so9 on9
      go_wp2_with fail
      refine bodyPost_ret (v := .tuple #[.agg #[.slice ra rl rq, .int .i64 H, .int .i64 F], .int .i64 1]) (by simp [results, Tryz.results15, go_sem, e0, e1, e2]) rfl ⟨_, rfl, unhide o4, unhide d4⟩
set_option maxRecDepth 100000 in
set_option maxHeartbeats 8000000 in
theorem spec_tadd {w : World} {v bv : Value} {L : List Row.E} {b : List En} (H F : Int) (h : Row.Is w v L) (hgL : ∀ x ∈ L, Row.good x) (hlL : L.length ≤ maxLen) (hb : Ent.Is w bv b) (hg : Okay b) :
    Calls Tryz.prog 12 #[.agg #[v, .int .i64 H, .int .i64 F], bv] w fun e w' => ∃ r, e = .returned (.tuple #[.agg #[r, .int .i64 (tadd L H F b).1.2.1, .int .i64 (tadd L H F b).1.2.2], .int .i64 (tadd L H F b).2]) ∧ Row.Own w.heap.size w'.heap.size w' r (tadd L H F b).1.1 ∧ Below w.heap.size w w' := by
  obtain ⟨av, nv, cv, rfl⟩ : ∃ a n c, v = .slice a n c := by obtain ⟨cs, -, hL, -⟩ := h; obtain ⟨-, a, c, e, -⟩ := hL; exact ⟨a, _, c, e⟩
  obtain ⟨W, hW⟩ : ∃ V, ((w.alloc (.cells #[.slice av nv cv, .int .i64 H, .int .i64 F] 30)).alloc (.cells #[.slice none 0 0, .int .i64 0, .int .i64 0] 30)) = V := ⟨_, rfl⟩
  have bW : Below w.heap.size w W := by rw [← hW]; exact ((Below.refl _ _).alloc (Nat.le_refl _) _).alloc (by simp) _
  have zW : W.heap.size = w.heap.size + 1 + 1 := by rw [← hW]; simp
  have RT : W.ownsRow w.heap.size 30 3 (.slice (some ⟨w.heap.size, 0, none⟩) 1 1) 1 [.slice av nv cv, .int .i64 H, .int .i64 F] := by
    rw [← hW]
    exact own_below (own_new3 (Nat.le_refl _) rfl) ((Below.refl _ _).alloc (Nat.le_refl _) _)
  have RO : W.ownsRow w.heap.size 30 3 (.slice (some ⟨w.heap.size + 1, 0, none⟩) 1 1) 1 [.slice none 0 0, .int .i64 0, .int .i64 0] := by
    rw [← hW]
    have := own_new3 (w := w.alloc (.cells #[.slice av nv cv, .int .i64 H, .int .i64 F] 30)) (base := w.heap.size) (t := 30) (cs := #[.slice none 0 0, .int .i64 0, .int .i64 0]) (by simp) rfl
    simp only [World.size_alloc] at this
    exact this
  have HOk := hide (Row.spec_table (H := H) (F := F) (h.below bW) hgL hlL)
  have HTr := hide (fun (ht : Row.tableB L H F = true) X (hx : Below W.heap.size W X) => l6add (w := X) av nv cv H F ((h.below bW).below hx) (tab_of ht) ((hb.below bW).below hx) hg)
  obtain ⟨ab, qb, ee⟩ : ∃ a q, bv = .slice a b.length q := by obtain ⟨cs, -, hL, -⟩ := hb; obtain ⟨-, a, q, e, -⟩ := hL; exact ⟨a, q, e⟩
  subst ee
  obtain ⟨n, hn⟩ : ∃ n, n = b.length := ⟨_, rfl⟩
  rw [← hn] at HTr ⊢
  obtain ⟨res, hres⟩ : ∃ x, x = tadd L H F b := ⟨_, rfl⟩
  rw [← hres]
  have HRes := hide hres
  obtain ⟨x0, x1, x2⟩ := box_three RT
  clear h hgL hlL hb hg hn hres
  go_enter Tryz.func12, Tryz.ntmps12
  go_wp2_with fail
  refine (unhide HOk).mono ?_
  rintro e w1 ⟨rfl, b1⟩
  have d1 := bW.trans (b1.mono bW.size)
  have z1 := b1.size
  cases hT : Row.tableB L H F
  · have hr : res = (([], 0, 0), 1) := by rw [unhide HRes]; exact tadd_no hT
    subst hr
    obtain ⟨⟨pca, pfa⟩, ⟨pcb, pfb⟩, ⟨pcc, pfc⟩, so9, on9⟩ := Tab.box_put (w := w1) (.slice none 0 0) (.int .i64 0) (.int .i64 0) (own_below RO b1)
    obtain ⟨y9a, hy9a⟩ : ∃ V, w1.setCell ⟨w.heap.size + 1, 0, none⟩ (.slice none 0 0) = V := ⟨_, rfl⟩
    rw [hy9a] at pcb pfb pcc pfc so9 on9
    obtain ⟨y9b, hy9b⟩ : ∃ V, y9a.setCell ⟨w.heap.size + 1, 1, none⟩ (.int .i64 0) = V := ⟨_, rfl⟩
    rw [hy9b] at pcc pfc so9 on9
    obtain ⟨y9, hy9⟩ : ∃ V, y9b.setCell ⟨w.heap.size + 1, 2, none⟩ (.int .i64 0) = V := ⟨_, rfl⟩
    rw [hy9] at so9 on9
    obtain ⟨e0, e1, e2⟩ := Tab.box_three so9
    have o4 := hide (Row.own_nil w.heap.size y9)
    have d4 := hide (d1.trans (on9.below (show w.heap.size ≤ w.heap.size + 1 by omega)))
    clear hT HTr HOk so9 on9
    go_wp2_with fail
    refine bodyPost_ret (v := .tuple #[.agg #[.slice none 0 0, .int .i64 0, .int .i64 0], .int .i64 1]) (by simp [results, Tryz.results12, go_sem, e0, e1, e2]) rfl ⟨_, rfl, unhide o4, unhide d4⟩
  have HTT := hide hT
  clear hT HOk x0 x1 x2
  obtain ⟨x0, x1, x2⟩ := box_three (own_below RT b1)
  have hr : res = addE (L, H, F) b := by rw [unhide HRes]; exact tadd_yes (unhide HTT)
  have HTr2 := hide (unhide HTr (unhide HTT) w1 b1)
  rw [← hr] at HTr2
  clear HTr hr
  go_wp2_with fail
  refine (unhide HTr2).mono ?_
  rintro e w2 ⟨r, rfl, o2, b2⟩
  obtain ⟨ra, rl, rq, rfl⟩ := o2.form
  have b12 := b1.trans (b2.mono b1.size)
  have z2 := b2.size
  obtain ⟨⟨pca, pfa⟩, ⟨pcb, pfb⟩, ⟨pcc, pfc⟩, so9, on9⟩ := Tab.box_put (w := w2) (.slice ra rl rq) (.int .i64 res.1.2.1) (.int .i64 res.1.2.2) (own_below RO b12)
  obtain ⟨y9a, hy9a⟩ : ∃ V, w2.setCell ⟨w.heap.size + 1, 0, none⟩ (.slice ra rl rq) = V := ⟨_, rfl⟩
  rw [hy9a] at pcb pfb pcc pfc so9 on9
  obtain ⟨y9b, hy9b⟩ : ∃ V, y9a.setCell ⟨w.heap.size + 1, 1, none⟩ (.int .i64 res.1.2.1) = V := ⟨_, rfl⟩
  rw [hy9b] at pcc pfc so9 on9
  obtain ⟨y9, hy9⟩ : ∃ V, y9b.setCell ⟨w.heap.size + 1, 2, none⟩ (.int .i64 res.1.2.2) = V := ⟨_, rfl⟩
  rw [hy9] at so9 on9
  obtain ⟨e0, e1, e2⟩ := Tab.box_three so9
  have o4 := hide ((o2.zone (Zone.of_only on9 (Nat.le_refl _) (Nat.lt_succ_self _)) (.inr (by omega))).wide (lo' := w.heap.size) (hi' := y9.heap.size) (by omega) (by have := on9.size; omega) (Nat.le_refl _))
  have d4 := hide ((d1.trans (b2.mono d1.size)).trans (on9.below (show w.heap.size ≤ w.heap.size + 1 by omega)))
  clear HTr2 o2 so9 on9
  go_wp2_with fail
  refine bodyPost_ret (v := .tuple #[.agg #[.slice ra rl rq, .int .i64 res.1.2.1, .int .i64 res.1.2.2], .int .i64 res.2]) (by simp [results, Tryz.results12, go_sem, e0, e1, e2]) rfl ⟨_, rfl, unhide o4, unhide d4⟩
end Go.Proofs.YtlboekimnhgfdaaGreat.Tab

/- What entries that were written come to: each is there, in time, and counted. No condition. -/
namespace Go.Proofs.YtlboekimnhgfdaaGreat.Row
open Go.RowKit Rw
set_option linter.unusedVariables false
theorem merge_sub : ∀ (a b : List SampMath.S) {L : List SampMath.S}, SampMath.merge a b = some L → ∀ z ∈ L, z ∈ a ∨ z ∈ b := by
  intro a b
  induction a, b using SampMath.merge.induct with
  | case1 b => intro L h z hz; rw [SampMath.merge_nil] at h; cases h; exact .inr hz
  | case2 x a => intro L h z hz; rw [SampMath.merge_nil_right] at h; cases h; exact .inl hz
  | case3 x a y b hlt ih =>
    intro L h z hz
    rw [SampMath.merge, if_pos hlt] at h
    obtain ⟨R, h1, rfl⟩ := Option.map_eq_some_iff.1 h
    rcases List.mem_cons.1 hz with rfl | hz
    · exact .inl (List.mem_cons_self ..)
    · rcases ih h1 z hz with h2 | h2
      · exact .inl (List.mem_cons_of_mem _ h2)
      · exact .inr h2
  | case4 x a y b h1 hlt ih =>
    intro L h z hz
    rw [SampMath.merge, if_neg h1, if_pos hlt] at h
    obtain ⟨R, h1, rfl⟩ := Option.map_eq_some_iff.1 h
    rcases List.mem_cons.1 hz with rfl | hz
    · exact .inr (List.mem_cons_self ..)
    · rcases ih h1 z hz with h2 | h2
      · exact .inl h2
      · exact .inr (List.mem_cons_of_mem _ h2)
  | case5 x a y b h1 h2 hv ih =>
    intro L h z hz
    rw [SampMath.merge, if_neg h1, if_neg h2, if_pos hv] at h
    obtain ⟨R, h1, rfl⟩ := Option.map_eq_some_iff.1 h
    rcases List.mem_cons.1 hz with rfl | hz
    · exact .inl (List.mem_cons_self ..)
    · rcases ih h1 z hz with h2 | h2
      · exact .inl (List.mem_cons_of_mem _ h2)
      · exact .inr (List.mem_cons_of_mem _ h2)
  | case6 x a y b h1 h2 hv =>
    intro L h z hz
    rw [SampMath.merge, if_neg h1, if_neg h2, if_neg hv] at h
    cases h
theorem sjoin_sub {a b : List SampMath.S} : ∀ z ∈ (SampMath.join a b).1, z ∈ a ∨ z ∈ b := by
  intro z hz
  unfold SampMath.join at hz
  by_cases hk : SampMath.ok a = true ∧ SampMath.ok b = true
  · rw [if_pos hk] at hz
    cases e : SampMath.merge a b with
    | none => rw [e] at hz; cases hz
    | some L => rw [e] at hz; exact merge_sub a b e z hz
  · rw [if_neg hk] at hz; cases hz
/-- each sample of what comes out was there, or is put -/
theorem ins_sub : ∀ {L : List E} {x : E} {R : List E}, ins L x = some R → ∀ y ∈ R, (y.1 = x.1 ∨ ∃ u ∈ L, u.1 = y.1) ∧ ∀ s ∈ y.2, (∃ u ∈ L, s ∈ u.2) ∨ s ∈ x.2
  | [], x, R, h, y, hy => by
    cases h
    rw [List.mem_singleton] at hy
    subst hy
    exact ⟨.inl rfl, fun s hs => .inr hs⟩
  | u :: L, x, R, h, y, hy => by
    rcases Int.lt_trichotomy (Lab.cmpL u.1 x.1) 0 with hc | hc | hc
    · rw [ins_lt L hc] at h
      obtain ⟨R', h1, rfl⟩ := Option.map_eq_some_iff.1 h
      rcases List.mem_cons.1 hy with rfl | hy
      · exact ⟨.inr ⟨_, List.mem_cons_self .., rfl⟩, fun s hs => .inl ⟨_, List.mem_cons_self .., hs⟩⟩
      · obtain ⟨g1, g2⟩ := ins_sub h1 y hy
        refine ⟨?_, fun s hs => ?_⟩
        · rcases g1 with g | ⟨v, hv, g⟩
          · exact .inl g
          · exact .inr ⟨v, List.mem_cons_of_mem _ hv, g⟩
        · rcases g2 s hs with ⟨v, hv, g⟩ | g
          · exact .inl ⟨v, List.mem_cons_of_mem _ hv, g⟩
          · exact .inr g
    · rw [ins_eq L hc] at h
      obtain ⟨y', h1, rfl⟩ := Option.map_eq_some_iff.1 h
      obtain ⟨hj, rfl⟩ := jn_some h1
      rcases List.mem_cons.1 hy with rfl | hy
      · refine ⟨.inr ⟨_, List.mem_cons_self .., rfl⟩, fun s hs => ?_⟩
        rcases sjoin_sub s hs with g | g
        · exact .inl ⟨_, List.mem_cons_self .., g⟩
        · exact .inr g
      · exact ⟨.inr ⟨y, List.mem_cons_of_mem _ hy, rfl⟩, fun s hs => .inl ⟨y, List.mem_cons_of_mem _ hy, hs⟩⟩
    · rw [ins_gt L hc] at h
      cases h
      rcases List.mem_cons.1 hy with rfl | hy
      · exact ⟨.inl rfl, fun s hs => .inr hs⟩
      · exact ⟨.inr ⟨y, hy, rfl⟩, fun s hs => .inl ⟨y, hy, hs⟩⟩
theorem add_ins {L R : List E} {x : E} (h : add L x = some R) : ins L x = some R := by
  unfold add at h
  obtain ⟨M, h1, h2⟩ := Option.bind_eq_some_iff.1 h
  split at h2
  · cases h2; exact h1
  · cases h2
end Go.Proofs.YtlboekimnhgfdaaGreat.Row
namespace Go.Proofs.YtlboekimnhgfdaaGreat.Tab
open Go.RowKit Rw
set_option linter.unusedVariables false
/-- a sample is there -/
def Here (R : List Row.E) (ls : List Lab.E) (t v : Int) : Prop := ∃ y ∈ R, y.1 = ls ∧ (t, v) ∈ y.2
/-- an entry that was written: what stands behind it -/
theorem one_says {L R : List Row.E} {H F H' F' : Int} {e : En} (hok : Row.ok L = true) (h : oneE (L, H, F) e = ((R, H', F'), 0)) :
    F' = F ∧ H' = (if H < e.2.1 then e.2.1 else H) ∧ F ≤ e.2.1 ∧ (0 ≤ e.2.1 ∧ e.2.1 ≤ 9999) ∧ Row.ok R = true ∧ Row.ins L (e.1, [(e.2.1, e.2.2)]) = some R ∧ Here R e.1 e.2.1 e.2.2 := by
  by_cases h1 : codeE H F e.1 e.2.1 e.2.2 = 0
  · cases h2 : otherE L e.1 e.2.1 e.2.2
    · cases h3 : Row.add L (e.1, [(e.2.1, e.2.2)]) with
      | none => rw [one_many (t := (L, H, F)) h1 h2 h3] at h; simp at h
      | some R2 =>
        rw [one_fine (t := (L, H, F)) h1 h2 h3] at h
        simp only [Prod.mk.injEq, and_true] at h
        obtain ⟨rfl, rfl, rfl⟩ := h
        obtain ⟨c1, c2⟩ := code_zero h1
        have hr := SampMath.inR_iff.1 c2
        have hT : ¬ (e.2.1 < F ∨ e.2.1 < H - 300) := by
          unfold codeE at h1
          rw [if_pos c1, if_pos c2] at h1
          intro hc
          rw [if_pos hc] at h1
          cases h1
        have hj : Row.join L [(e.1, [(e.2.1, e.2.2)])] = (R2, true) := by rw [Row.join_one hok c1 c2, h3]; rfl
        have hh := Row.join_has (a := L) (b := [(e.1, [(e.2.1, e.2.2)])]) (by rw [hj]) _ (List.mem_singleton.2 rfl)
        rw [hj] at hh
        obtain ⟨z, hz, e1, e2⟩ := hh
        exact ⟨rfl, rfl, by omega, by omega, Row.add_ok hok (Row.fine_ok (Row.row_ok c1 c2)) h3, Row.add_ins h3, z, hz, e1, e2 _ (List.mem_singleton.2 rfl)⟩
    · rw [one_other (t := (L, H, F)) h1 h2] at h; simp at h
  · rw [one_none (t := (L, H, F)) h1] at h
    simp only [Prod.mk.injEq] at h
    exact absurd h.2 h1
theorem one_table {L R : List Row.E} {H F H' F' : Int} {e : En} (ht : Row.tableB L H F = true) (h : oneE (L, H, F) e = ((R, H', F'), 0)) : Row.tableB R H' F' = true := by
  obtain ⟨h1, h2, h3, h4, h5, h6⟩ := Row.tab_parts ht
  obtain ⟨rfl, hH, hF, hT, hR, hi, -⟩ := one_says h5 h
  have hHH : H ≤ H' ∧ e.2.1 ≤ H' ∧ H' ≤ 9999 := by rw [hH]; split <;> omega
  refine Row.tableB_yes (by omega) (by omega) h3 (by omega) hR ?_
  unfold Row.within
  rw [List.all_eq_true]
  intro y hy
  unfold Row.within1
  rw [List.all_eq_true]
  intro s hs
  rcases (Row.ins_sub hi y hy).2 s hs with ⟨u, hu, g⟩ | g
  · have := Row.within_in h6 hu g
    unfold Row.inT at this ⊢
    simp only [Bool.and_eq_true, decide_eq_true_eq] at this ⊢
    omega
  · rw [List.mem_singleton] at g
    subst g
    unfold Row.inT
    simp only [Bool.and_eq_true, decide_eq_true_eq]
    omega
theorem here_kept {L R : List Row.E} {x : Row.E} (hi : Row.ins L x = some R) {ls : List Lab.E} {t v : Int} (h : Here L ls t v) : Here R ls t v := by
  obtain ⟨y, hy, e, hs⟩ := h
  obtain ⟨z, hz, e2, h2⟩ := Row.ins_has hi y hy
  exact ⟨z, hz, e2.trans e, h2 _ hs⟩
/-- entries that were all written -/
theorem run_says : ∀ (b : List En) {L R : List Row.E} {H F H' F' : Int}, Row.tableB L H F = true → runT (L, H, F) b = ((R, H', F'), 0) →
    F' = F ∧ H' = b.foldl (fun h e => if h < e.2.1 then e.2.1 else h) H ∧ Row.tableB R H' F' = true ∧ Row.cntS R ≤ Row.cntS L + b.length ∧ (∀ ls t v, Here L ls t v → Here R ls t v) ∧ ∀ e ∈ b, Here R e.1 e.2.1 e.2.2
  | [], L, R, H, F, H', F', ht, h => by
    simp only [runT, Prod.mk.injEq, and_true] at h
    obtain ⟨rfl, rfl, rfl⟩ := h
    exact ⟨rfl, rfl, ht, by simp, fun _ _ _ h => h, fun e he => by cases he⟩
  | e :: b, L, R, H, F, H', F', ht, h => by
    rw [runT_cons] at h
    by_cases h0 : (oneE (L, H, F) e).2 = 0
    · rw [if_pos h0] at h
      obtain ⟨⟨⟨R1, H1, F1⟩, k1⟩, hk⟩ : ∃ o, o = oneE (L, H, F) e := ⟨_, rfl⟩
      rw [← hk] at h0 h
      simp only at h0 h
      subst h0
      have hok := (Row.tab_parts ht).2.2.2.2.1
      obtain ⟨rfl, g2, g3, g4, g5, g6, g7⟩ := one_says hok hk.symm
      obtain ⟨rfl, r2, r3, r4, r5, r6⟩ := run_says b (one_table ht hk.symm) h
      have hc := Row.ins_cnt g6
      refine ⟨rfl, ?_, r3, ?_, fun ls t v hh => r5 ls t v (here_kept g6 hh), fun x hx => ?_⟩
      · rw [List.foldl_cons, ← g2]; exact r2
      · simp only [List.length_cons, List.length_nil] at hc ⊢; omega
      · rcases List.mem_cons.1 hx with rfl | hx
        · exact r5 _ _ _ g7
        · exact r6 x hx
    · rw [if_neg h0] at h
      rw [h] at h0
      exact absurd rfl h0
/-- the number that is told of a sample that is there -/
theorem at_here {R : List Row.E} (hok : Row.ok R = true) {ls : List Lab.E} {T v V : Int} {B : Bool} (h : Here R ls T v) (hs : Row.AtSays R ls T V B) : B = true ∧ V = v := by
  rcases hs with ⟨hb, hv⟩ | ⟨hb, hn⟩
  · exact ⟨hb, Row.at_uniq (Row.fine_ok hok) hv h⟩
  · obtain ⟨y, hy, e, hm⟩ := h
    exact absurd rfl (hn y hy e _ hm)
end Go.Proofs.YtlboekimnhgfdaaGreat.Tab
