/- My own texts of one claim, laid together by program: TrialCode, TrialWrite, TrialCatch, TryAll. -/
import Derived.Test.YtlboekimnhgfdaaGreatGe2182a335b
import Derived.Test.YtlboekimnhgfdaaGreatGf4b634e24e
import Derived.Test.YtlboekimnhgfdaaGreatGced19cb9cc
import Derived.Test.YtlboekimnhgfdaaGreatGaf7de35f46
import Derived.WalkLawsBesides
import Derived.Test.YtlboekimnhgfdaaGreatGca9424efef
import Derived.Test.YtlboekimnhgfdaaGreatG53c016a3b0
import Derived.Defers
import Derived.Recover
import Derived.Test.YtlboekimnhgfdaaGreatG5af8027ad2
/- What is wrong with an entry: codeOf of the program. -/
namespace Go.Proofs.YtlboekimnhgfdaaGreat.Tab
open Go.RowKit Rw
set_option linter.unusedVariables false
set_option linter.unusedSimpArgs false
attribute [local go_sem ↓] Go.wp_at_zero Go.wp_at_succ
set_option maxHeartbeats 2000000 in
theorem sample_any {w : World} (ua : Option Addr) (un uq : Nat) (T V : Int) : Calls Tryz.prog 125 #[.agg #[.slice ua un uq, .int .i64 T, .int .i64 V]] w fun e w' => e = .returned (.agg #[.int .i64 T, .int .i64 V]) ∧ Below w.heap.size w w' := by
  obtain ⟨W, hW⟩ : ∃ W, (w.alloc (.cells #[.slice ua un uq, .int .i64 T, .int .i64 V] 62)).alloc (.cells #[.int .i64 0, .int .i64 0] 106) = W := ⟨_, rfl⟩
  have bW : Below w.heap.size w W := by rw [← hW]; exact ((Below.refl _ _).alloc (Nat.le_refl _) _).alloc (by simp) _
  have q1 : W.cell? ⟨w.heap.size, 1, none⟩ = some (.int .i64 T) := by rw [← hW]; simp [go_sem]
  have q2 : W.cell? ⟨w.heap.size, 2, none⟩ = some (.int .i64 V) := by rw [← hW]; simp [go_sem]
  have s0 : W.cell? ⟨w.heap.size + 1, 0, none⟩ = some (.int .i64 0) := by rw [← hW]; simp [go_sem]
  have s1 : W.cell? ⟨w.heap.size + 1, 1, none⟩ = some (.int .i64 0) := by rw [← hW]; simp [go_sem]
  have f0 : W.frozen? ⟨w.heap.size + 1, 0, none⟩ = false := by rw [← hW]; simp [go_sem]
  have f1 : W.frozen? ⟨w.heap.size + 1, 1, none⟩ = false := by rw [← hW]; simp [go_sem]
  have on : OnlyAt (w.heap.size + 1) W ((W.setCell ⟨w.heap.size + 1, 0, none⟩ (.int .i64 T)).setCell ⟨w.heap.size + 1, 1, none⟩ (.int .i64 V)) := ((OnlyAt.refl _ _).setCell 0 _).setCell 1 _
  have bn := bW.trans (on.below (show w.heap.size ≤ w.heap.size + 1 by omega))
  go_enter Tryz.func125, Tryz.ntmps125
  go_wp2_with fail
  refine bodyPost_ret (v := .agg #[.int .i64 T, .int .i64 V]) (by simp [results, Tryz.results125, go_sem, s0, s1]) rfl ⟨rfl, bn⟩
/-- the code of an entry, another number included -/
def codeI (L : List Row.E) (H F : Int) (ls : List Lab.E) (t v : Int) : Int := if codeE H F ls t v ≠ 0 then codeE H F ls t v else if otherE L ls t v = true then 3 else 0
set_option maxRecDepth 100000 in
set_option maxHeartbeats 8000000 in
theorem code_any {w : World} {u : Value} {L : List Row.E} {ls : List Lab.E} (tb : Nat) (va : Option Addr) (vn vq : Nat) (H F T V : Int) (htb : tb < w.heap.size) (c0 : w.cell? ⟨tb, 0, none⟩ = some (.slice va vn vq)) (c1 : w.cell? ⟨tb, 1, none⟩ = some (.int .i64 H)) (c2 : w.cell? ⟨tb, 2, none⟩ = some (.int .i64 F)) (h : Row.Is w (.slice va vn vq) L) (hok : Row.ok L = true) (hl : Lab.Is w u ls) (hlg : ∀ x ∈ ls, Lab.good x) (hll : ls.length ≤ maxLen) (hH : -1 ≤ H ∧ H ≤ 9999) :
    Calls Tryz.prog 123 #[.pointer (some ⟨tb, 0, none⟩), .agg #[u, .int .i64 T, .int .i64 V]] w fun e w' => e = .returned (.int .i64 (codeI L H F ls T V)) ∧ Below w.heap.size w w' := by
  obtain ⟨au, nu, qu, rfl⟩ : ∃ a n q, u = .slice a n q := by obtain ⟨-, a, q, e, -⟩ := hl; exact ⟨a, _, q, e⟩
  obtain ⟨W, hW⟩ : ∃ W, w.alloc (.cells #[.slice au nu qu, .int .i64 T, .int .i64 V] 62) = W := ⟨_, rfl⟩
  have bW : Below w.heap.size w W := by rw [← hW]; exact (Below.refl _ _).alloc (Nat.le_refl _) _
  have zW : w.heap.size < W.heap.size := by rw [← hW]; simp
  have q0 : W.cell? ⟨w.heap.size, 0, none⟩ = some (.slice au nu qu) := by rw [← hW]; simp [go_sem]
  have q1 : W.cell? ⟨w.heap.size, 1, none⟩ = some (.int .i64 T) := by rw [← hW]; simp [go_sem]
  have q2 : W.cell? ⟨w.heap.size, 2, none⟩ = some (.int .i64 V) := by rw [← hW]; simp [go_sem]
  have HS := hide (fun (X : World) (hb : Below W.heap.size W X) => show X.cell? ⟨tb, 0, none⟩ = some (.slice va vn vq) ∧ X.cell? ⟨tb, 1, none⟩ = some (.int .i64 H) ∧ X.cell? ⟨tb, 2, none⟩ = some (.int .i64 F) ∧ X.cell? ⟨w.heap.size, 0, none⟩ = some (.slice au nu qu) ∧ X.cell? ⟨w.heap.size, 1, none⟩ = some (.int .i64 T) ∧ X.cell? ⟨w.heap.size, 2, none⟩ = some (.int .i64 V) from
    have ht : tb < W.heap.size := Nat.lt_of_lt_of_le htb bW.size
    ⟨(hb.cell (p := ⟨tb, 0, none⟩) ht).trans ((bW.cell (p := ⟨tb, 0, none⟩) htb).trans c0), (hb.cell (p := ⟨tb, 1, none⟩) ht).trans ((bW.cell (p := ⟨tb, 1, none⟩) htb).trans c1), (hb.cell (p := ⟨tb, 2, none⟩) ht).trans ((bW.cell (p := ⟨tb, 2, none⟩) htb).trans c2), (hb.cell (p := ⟨w.heap.size, 0, none⟩) zW).trans q0, (hb.cell (p := ⟨w.heap.size, 1, none⟩) zW).trans q1, (hb.cell (p := ⟨w.heap.size, 2, none⟩) zW).trans q2⟩)
  have HL := hide (fun X (hb : Below W.heap.size W X) => Lab.impl_ok ((hl.below bW).below hb) hlg)
  have HO := hide (fun (hlo : Lab.ok ls = true) X (hb : Below W.heap.size W X) => other_any tb va vn vq T V (Nat.lt_of_lt_of_le (Nat.lt_of_lt_of_le htb bW.size) hb.size) (unhide HS X hb).1 ((h.below bW).below hb) hok ((hl.below bW).below hb) hlo hlg hll)
  obtain ⟨x0, x1, x2, e0, e1, e2⟩ := unhide HS W (Below.refl _ _)
  clear h hok hl hlg hll c0 c1 c2 q0 q1 q2
  go_enter Tryz.func123, Tryz.ntmps123
  go_wp2_with fail
  refine (unhide HL W (Below.refl _ _)).mono ?_
  rintro e w1 ⟨rfl, b1⟩
  cases hlo : Lab.ok ls
  · have HR := hide (show codeI L H F ls T V = 5 by unfold codeI codeE; rw [hlo]; rfl)
    have d1 := bW.trans (b1.mono bW.size)
    clear hlo
    go_wp2_with fail
    go_ret
    exact ⟨by rw [unhide HR]; rfl, d1⟩
  have HLO := hide hlo
  clear hlo x0 x1 x2 e0 e1 e2 HL
  obtain ⟨x0, x1, x2, e0, e1, e2⟩ := unhide HS w1 b1
  go_wp2_with fail
  refine (sample_any au nu qu T V).mono ?_
  rintro e w2 ⟨rfl, b2⟩
  have b12 := b1.trans (b2.mono b1.size)
  clear b2 x0 x1 x2 e0 e1 e2
  cases hr : SampMath.inR T V
  · have HR := hide (show codeI L H F ls T V = 1 by unfold codeI codeE; rw [unhide HLO, hr]; rfl)
    go_wp2_with fail
    refine (Samp.sampleOk_is T V false _ hr).mono ?_
    rintro e w3 ⟨rfl, b3⟩
    have d3 := bW.trans ((b12.trans (b3.mono b12.size)).mono bW.size)
    clear hr
    go_wp2_with fail
    go_ret
    exact ⟨by rw [unhide HR]; rfl, d3⟩
  have HR0 := hide hr
  have HSo := hide (Samp.sampleOk_is T V true w2 hr)
  clear hr
  go_wp2_with fail
  refine (unhide HSo).mono ?_
  rintro e w3 ⟨rfl, b3⟩
  have b13 := b12.trans (b3.mono b12.size)
  clear b12 b3 HSo
  obtain ⟨D, hD⟩ : ∃ D, H - 300 = D := ⟨_, rfl⟩
  have u1 := Grl.wrap_ok (n := D) (by omega) (by omega)
  have bD : Below W.heap.size W w3.drew := b13.drew
  by_cases hF : T < F
  · have HR := hide (show codeI L H F ls T V = 2 by unfold codeI codeE; rw [unhide HLO, unhide HR0]; simp [hF])
    obtain ⟨x0, x1, x2, e0, e1, e2⟩ := unhide HS w3 b13
    go_wp2_with fail
    clear x0 x1 x2 e0 e1 e2
    refine Grl.start (S := fun X => X.cell? ⟨tb, 0, none⟩ = some (.slice va vn vq) ∧ X.cell? ⟨tb, 1, none⟩ = some (.int .i64 H) ∧ X.cell? ⟨tb, 2, none⟩ = some (.int .i64 F) ∧ X.cell? ⟨w.heap.size, 0, none⟩ = some (.slice au nu qu) ∧ X.cell? ⟨w.heap.size, 1, none⟩ = some (.int .i64 T) ∧ X.cell? ⟨w.heap.size, 2, none⟩ = some (.int .i64 V)) (by kernel_rfl) (by exact unhide HS _ bD) (fun hHeld => ?_)
    refine Grl.yes 0 (v := ?_) rfl (by kernel_rfl) (by kernel_rfl) (by kernel_rfl) (fun _ _ _ h => h) (by kernel_rfl) ?_ (by assumption) ?_
    rotate_left
    · (intro w hSw; (try dsimp only at hSw); go_simp; try with_reducible rfl)
    simp only [Act.put, List.setIfInBounds_toArray, List.set_cons_zero, List.set_cons_succ]
    refine Grl.yes 1 (v := ?_) rfl (by kernel_rfl) (by kernel_rfl) (by kernel_rfl) (fun _ _ _ h => h) (by kernel_rfl) ?_ (by assumption) ?_
    rotate_left
    · (intro w hSw; (try dsimp only at hSw); go_simp; try with_reducible rfl)
    simp only [Act.put, List.setIfInBounds_toArray, List.set_cons_zero, List.set_cons_succ]
    refine Grl.yes 2 (v := ?_) rfl (by kernel_rfl) (by kernel_rfl) (by kernel_rfl) (fun _ _ _ h => h) (by kernel_rfl) ?_ (by assumption) ?_
    rotate_left
    · (intro w hSw; (try dsimp only at hSw); go_simp; try with_reducible rfl)
    simp only [Act.put, List.setIfInBounds_toArray, List.set_cons_zero, List.set_cons_succ]
    refine Grl.yes 3 (v := ?_) rfl (by kernel_rfl) (by kernel_rfl) (by kernel_rfl) (fun _ _ _ h => h) (by kernel_rfl) ?_ (by assumption) ?_
    rotate_left
    · (intro w hSw; (try dsimp only at hSw); go_simp; try with_reducible rfl)
    simp only [Act.put, List.setIfInBounds_toArray, List.set_cons_zero, List.set_cons_succ]
    refine Grl.yes 4 (v := ?_) rfl (by kernel_rfl) (by kernel_rfl) (by kernel_rfl) (fun _ _ _ h => h) (by kernel_rfl) ?_ (by assumption) ?_
    rotate_left
    · (intro w hSw; (try dsimp only at hSw); go_simp; try with_reducible rfl)
    simp only [Act.put, List.setIfInBounds_toArray, List.set_cons_zero, List.set_cons_succ]
    refine Grl.yes 5 (v := ?_) rfl (by kernel_rfl) (by kernel_rfl) (by kernel_rfl) (fun _ _ _ h => h) (by kernel_rfl) ?_ (by assumption) ?_
    rotate_left
    · (intro w hSw; (try dsimp only at hSw); go_simp; try with_reducible rfl)
    simp only [Act.put, List.setIfInBounds_toArray, List.set_cons_zero, List.set_cons_succ]
    refine Grl.yes 6 (v := ?_) rfl (by kernel_rfl) (by kernel_rfl) (by kernel_rfl) (fun _ _ _ h => h) (by kernel_rfl) ?_ (by assumption) ?_
    rotate_left
    · (intro w hSw; (try dsimp only at hSw); go_simp; try with_reducible rfl)
    simp only [Act.put, List.setIfInBounds_toArray, List.set_cons_zero, List.set_cons_succ]
    refine Grl.yes 7 (v := ?_) rfl (by kernel_rfl) (by kernel_rfl) (by kernel_rfl) (fun _ _ _ h => h) (by kernel_rfl) ?_ (by assumption) ?_
    rotate_left
    · (intro w hSw; (try dsimp only at hSw); go_simp; try with_reducible rfl)
    simp only [Act.put, List.setIfInBounds_toArray, List.set_cons_zero, List.set_cons_succ]
    refine Grl.yes 8 (v := ?_) rfl (by kernel_rfl) (by kernel_rfl) (by kernel_rfl) (fun _ _ _ h => h) (by kernel_rfl) ?_ (by assumption) ?_
    rotate_left
    · (intro w hSw; (try dsimp only at hSw); go_simp; try with_reducible rfl)
    simp only [Act.put, List.setIfInBounds_toArray, List.set_cons_zero, List.set_cons_succ]
    refine Grl.no 9 rfl (by kernel_rfl) (by kernel_rfl) (by kernel_rfl) (fun _ _ _ h => h) (by kernel_rfl) (by assumption) ?_
    simp only [Act.put, List.setIfInBounds_toArray, List.set_cons_zero, List.set_cons_succ]
    refine Grl.no 10 rfl (by kernel_rfl) (by kernel_rfl) (by kernel_rfl) (fun _ _ _ h => h) (by kernel_rfl) (by assumption) ?_
    simp only [Act.put, List.setIfInBounds_toArray, List.set_cons_zero, List.set_cons_succ]
    refine Grl.no 11 rfl (by kernel_rfl) (by kernel_rfl) (by kernel_rfl) (fun _ _ _ h => h) (by kernel_rfl) (by assumption) ?_
    simp only [Act.put, List.setIfInBounds_toArray, List.set_cons_zero, List.set_cons_succ]
    refine Grl.no 12 rfl (by kernel_rfl) (by kernel_rfl) (by kernel_rfl) (fun _ _ _ h => h) (by kernel_rfl) (by assumption) ?_
    simp only [Act.put, List.setIfInBounds_toArray, List.set_cons_zero, List.set_cons_succ]
    refine Grl.no 13 rfl (by kernel_rfl) (by kernel_rfl) (by kernel_rfl) (fun _ _ _ h => h) (by kernel_rfl) (by assumption) ?_
    simp only [Act.put, List.setIfInBounds_toArray, List.set_cons_zero, List.set_cons_succ]
    refine Grl.no 14 rfl (by kernel_rfl) (by kernel_rfl) (by kernel_rfl) (fun _ _ _ h => h) (by kernel_rfl) (by assumption) ?_
    simp only [Act.put, List.setIfInBounds_toArray, List.set_cons_zero, List.set_cons_succ]
    refine Grl.no 15 rfl (by kernel_rfl) (by kernel_rfl) (by kernel_rfl) (fun _ _ _ h => h) (by kernel_rfl) (by assumption) ?_
    simp only [Act.put, List.setIfInBounds_toArray, List.set_cons_zero, List.set_cons_succ]
    refine Grl.no 16 rfl (by kernel_rfl) (by kernel_rfl) (by kernel_rfl) (fun _ _ _ h => h) (by kernel_rfl) (by assumption) ?_
    simp only [Act.put, List.setIfInBounds_toArray, List.set_cons_zero, List.set_cons_succ]
    refine Grl.no 17 rfl (by kernel_rfl) (by kernel_rfl) (by kernel_rfl) (fun _ _ _ h => h) (by kernel_rfl) (by assumption) ?_
    simp only [Act.put, List.setIfInBounds_toArray, List.set_cons_zero, List.set_cons_succ]
    refine Grl.yes 18 (v := ?_) rfl (by kernel_rfl) (by kernel_rfl) (by kernel_rfl) (fun _ _ _ h => h) (by kernel_rfl) ?_ (by assumption) ?_
    rotate_left
    · (intro w hSw; (try dsimp only at hSw); go_simp; try with_reducible rfl)
    simp only [Act.put, List.setIfInBounds_toArray, List.set_cons_zero, List.set_cons_succ]
    refine Grl.yes 19 (v := ?_) rfl (by kernel_rfl) (by kernel_rfl) (by kernel_rfl) (fun _ _ _ h => h) (by kernel_rfl) ?_ (by assumption) ?_
    rotate_left
    · (intro w hSw; (try dsimp only at hSw); go_simp; try with_reducible rfl)
    simp only [Act.put, List.setIfInBounds_toArray, List.set_cons_zero, List.set_cons_succ]
    refine wpAnyH_done (by kernel_rfl) ?_ _
    have d9 := bW.trans (bD.mono bW.size)
    go_wp2_with fail
    go_ret
    exact ⟨by rw [unhide HR]; rfl, d9⟩
  have hF' : decide (T < F) = false := by simp; omega
  by_cases hW2 : T < D
  · have HR := hide (show codeI L H F ls T V = 2 by unfold codeI codeE; rw [unhide HLO, unhide HR0, hD]; simp [hW2])
    obtain ⟨x0, x1, x2, e0, e1, e2⟩ := unhide HS w3 b13
    go_wp2_with fail
    clear x0 x1 x2 e0 e1 e2
    refine Grl.start (S := fun X => X.cell? ⟨tb, 0, none⟩ = some (.slice va vn vq) ∧ X.cell? ⟨tb, 1, none⟩ = some (.int .i64 H) ∧ X.cell? ⟨tb, 2, none⟩ = some (.int .i64 F) ∧ X.cell? ⟨w.heap.size, 0, none⟩ = some (.slice au nu qu) ∧ X.cell? ⟨w.heap.size, 1, none⟩ = some (.int .i64 T) ∧ X.cell? ⟨w.heap.size, 2, none⟩ = some (.int .i64 V)) (by kernel_rfl) (by exact unhide HS _ bD) (fun hHeld => ?_)
    refine Grl.yes 0 (v := ?_) rfl (by kernel_rfl) (by kernel_rfl) (by kernel_rfl) (fun _ _ _ h => h) (by kernel_rfl) ?_ (by assumption) ?_
    rotate_left
    · (intro w hSw; (try dsimp only at hSw); go_simp; try with_reducible rfl)
    simp only [Act.put, List.setIfInBounds_toArray, List.set_cons_zero, List.set_cons_succ]
    refine Grl.yes 1 (v := ?_) rfl (by kernel_rfl) (by kernel_rfl) (by kernel_rfl) (fun _ _ _ h => h) (by kernel_rfl) ?_ (by assumption) ?_
    rotate_left
    · (intro w hSw; (try dsimp only at hSw); go_simp; try with_reducible rfl)
    simp only [Act.put, List.setIfInBounds_toArray, List.set_cons_zero, List.set_cons_succ]
    refine Grl.yes 2 (v := ?_) rfl (by kernel_rfl) (by kernel_rfl) (by kernel_rfl) (fun _ _ _ h => h) (by kernel_rfl) ?_ (by assumption) ?_
    rotate_left
    · (intro w hSw; (try dsimp only at hSw); go_simp; try with_reducible rfl)
    simp only [Act.put, List.setIfInBounds_toArray, List.set_cons_zero, List.set_cons_succ]
    refine Grl.yes 3 (v := ?_) rfl (by kernel_rfl) (by kernel_rfl) (by kernel_rfl) (fun _ _ _ h => h) (by kernel_rfl) ?_ (by assumption) ?_
    rotate_left
    · (intro w hSw; (try dsimp only at hSw); go_simp; try with_reducible rfl)
    simp only [Act.put, List.setIfInBounds_toArray, List.set_cons_zero, List.set_cons_succ]
    refine Grl.yes 4 (v := ?_) rfl (by kernel_rfl) (by kernel_rfl) (by kernel_rfl) (fun _ _ _ h => h) (by kernel_rfl) ?_ (by assumption) ?_
    rotate_left
    · (intro w hSw; (try dsimp only at hSw); go_simp; try with_reducible rfl)
    simp only [Act.put, List.setIfInBounds_toArray, List.set_cons_zero, List.set_cons_succ]
    refine Grl.yes 5 (v := ?_) rfl (by kernel_rfl) (by kernel_rfl) (by kernel_rfl) (fun _ _ _ h => h) (by kernel_rfl) ?_ (by assumption) ?_
    rotate_left
    · (intro w hSw; (try dsimp only at hSw); go_simp; try with_reducible rfl)
    simp only [Act.put, List.setIfInBounds_toArray, List.set_cons_zero, List.set_cons_succ]
    refine Grl.yes 6 (v := ?_) rfl (by kernel_rfl) (by kernel_rfl) (by kernel_rfl) (fun _ _ _ h => h) (by kernel_rfl) ?_ (by assumption) ?_
    rotate_left
    · (intro w hSw; (try dsimp only at hSw); go_simp; try with_reducible rfl)
    simp only [Act.put, List.setIfInBounds_toArray, List.set_cons_zero, List.set_cons_succ]
    refine Grl.yes 7 (v := ?_) rfl (by kernel_rfl) (by kernel_rfl) (by kernel_rfl) (fun _ _ _ h => h) (by kernel_rfl) ?_ (by assumption) ?_
    rotate_left
    · (intro w hSw; (try dsimp only at hSw); go_simp; try with_reducible rfl)
    simp only [Act.put, List.setIfInBounds_toArray, List.set_cons_zero, List.set_cons_succ]
    refine Grl.yes 8 (v := ?_) rfl (by kernel_rfl) (by kernel_rfl) (by kernel_rfl) (fun _ _ _ h => h) (by kernel_rfl) ?_ (by assumption) ?_
    rotate_left
    · (intro w hSw; (try dsimp only at hSw); go_simp; try with_reducible rfl)
    simp only [Act.put, List.setIfInBounds_toArray, List.set_cons_zero, List.set_cons_succ]
    refine Grl.yes 9 (v := ?_) rfl (by kernel_rfl) (by kernel_rfl) (by kernel_rfl) (fun _ _ _ h => h) (by kernel_rfl) ?_ (by assumption) ?_
    rotate_left
    · (intro w hSw; (try dsimp only at hSw); go_simp; try with_reducible rfl)
    simp only [Act.put, List.setIfInBounds_toArray, List.set_cons_zero, List.set_cons_succ]
    refine Grl.yes 10 (v := ?_) rfl (by kernel_rfl) (by kernel_rfl) (by kernel_rfl) (fun _ _ _ h => h) (by kernel_rfl) ?_ (by assumption) ?_
    rotate_left
    · (intro w hSw; (try dsimp only at hSw); go_simp; try with_reducible rfl)
    simp only [Act.put, List.setIfInBounds_toArray, List.set_cons_zero, List.set_cons_succ]
    refine Grl.yes 11 (v := ?_) rfl (by kernel_rfl) (by kernel_rfl) (by kernel_rfl) (fun _ _ _ h => h) (by kernel_rfl) ?_ (by assumption) ?_
    rotate_left
    · (intro w hSw; (try dsimp only at hSw); go_simp; try with_reducible rfl)
    simp only [Act.put, List.setIfInBounds_toArray, List.set_cons_zero, List.set_cons_succ]
    refine Grl.yes 12 (v := ?_) rfl (by kernel_rfl) (by kernel_rfl) (by kernel_rfl) (fun _ _ _ h => h) (by kernel_rfl) ?_ (by assumption) ?_
    rotate_left
    · (intro w hSw; (try dsimp only at hSw); go_simp; try with_reducible rfl)
    simp only [Act.put, List.setIfInBounds_toArray, List.set_cons_zero, List.set_cons_succ]
    refine Grl.yes 13 (v := ?_) rfl (by kernel_rfl) (by kernel_rfl) (by kernel_rfl) (fun _ _ _ h => h) (by kernel_rfl) ?_ (by assumption) ?_
    rotate_left
    · (intro w hSw; (try dsimp only at hSw); go_simp; try with_reducible rfl)
    simp only [Act.put, List.setIfInBounds_toArray, List.set_cons_zero, List.set_cons_succ]
    refine Grl.yes 14 (v := ?_) rfl (by kernel_rfl) (by kernel_rfl) (by kernel_rfl) (fun _ _ _ h => h) (by kernel_rfl) ?_ (by assumption) ?_
    rotate_left
    · (intro w hSw; (try dsimp only at hSw); go_simp; try with_reducible rfl)
    simp only [Act.put, List.setIfInBounds_toArray, List.set_cons_zero, List.set_cons_succ]
    refine Grl.yes 15 (v := ?_) rfl (by kernel_rfl) (by kernel_rfl) (by kernel_rfl) (fun _ _ _ h => h) (by kernel_rfl) ?_ (by assumption) ?_
    rotate_left
    · (intro w hSw; (try dsimp only at hSw); go_simp; try with_reducible rfl)
    simp only [Act.put, List.setIfInBounds_toArray, List.set_cons_zero, List.set_cons_succ]
    refine Grl.yes 16 (v := ?_) rfl (by kernel_rfl) (by kernel_rfl) (by kernel_rfl) (fun _ _ _ h => h) (by kernel_rfl) ?_ (by assumption) ?_
    rotate_left
    · (intro w hSw; (try dsimp only at hSw); go_simp; try with_reducible rfl)
    simp only [Act.put, List.setIfInBounds_toArray, List.set_cons_zero, List.set_cons_succ]
    refine Grl.yes 17 (v := ?_) rfl (by kernel_rfl) (by kernel_rfl) (by kernel_rfl) (fun _ _ _ h => h) (by kernel_rfl) ?_ (by assumption) ?_
    rotate_left
    · (intro w hSw; (try dsimp only at hSw); go_simp; try with_reducible rfl)
    simp only [Act.put, List.setIfInBounds_toArray, List.set_cons_zero, List.set_cons_succ]
    refine Grl.yes 18 (v := ?_) rfl (by kernel_rfl) (by kernel_rfl) (by kernel_rfl) (fun _ _ _ h => h) (by kernel_rfl) ?_ (by assumption) ?_
    rotate_left
    · (intro w hSw; (try dsimp only at hSw); go_simp; try with_reducible rfl)
    simp only [Act.put, List.setIfInBounds_toArray, List.set_cons_zero, List.set_cons_succ]
    refine Grl.yes 19 (v := ?_) rfl (by kernel_rfl) (by kernel_rfl) (by kernel_rfl) (fun _ _ _ h => h) (by kernel_rfl) ?_ (by assumption) ?_
    rotate_left
    · (intro w hSw; (try dsimp only at hSw); go_simp; try with_reducible rfl)
    simp only [Act.put, List.setIfInBounds_toArray, List.set_cons_zero, List.set_cons_succ]
    refine wpAnyH_done (by kernel_rfl) ?_ _
    have d9 := bW.trans (bD.mono bW.size)
    go_wp2_with fail
    go_ret
    exact ⟨by rw [unhide HR]; rfl, d9⟩
  have HC0 := hide (show codeE H F ls T V = 0 by unfold codeE; rw [unhide HLO, unhide HR0, hD]; simp; omega)
  obtain ⟨x0, x1, x2, e0, e1, e2⟩ := unhide HS w3 b13
  go_wp2_with fail
  clear x0 x1 x2 e0 e1 e2
  refine Grl.start (S := fun X => X.cell? ⟨tb, 0, none⟩ = some (.slice va vn vq) ∧ X.cell? ⟨tb, 1, none⟩ = some (.int .i64 H) ∧ X.cell? ⟨tb, 2, none⟩ = some (.int .i64 F) ∧ X.cell? ⟨w.heap.size, 0, none⟩ = some (.slice au nu qu) ∧ X.cell? ⟨w.heap.size, 1, none⟩ = some (.int .i64 T) ∧ X.cell? ⟨w.heap.size, 2, none⟩ = some (.int .i64 V)) (by kernel_rfl) (by exact unhide HS _ bD) (fun hHeld => ?_)
  refine Grl.yes 0 (v := ?_) rfl (by kernel_rfl) (by kernel_rfl) (by kernel_rfl) (fun _ _ _ h => h) (by kernel_rfl) ?_ (by assumption) ?_
  rotate_left
  · (intro w hSw; (try dsimp only at hSw); go_simp; try with_reducible rfl)
  simp only [Act.put, List.setIfInBounds_toArray, List.set_cons_zero, List.set_cons_succ]
  refine Grl.yes 1 (v := ?_) rfl (by kernel_rfl) (by kernel_rfl) (by kernel_rfl) (fun _ _ _ h => h) (by kernel_rfl) ?_ (by assumption) ?_
  rotate_left
  · (intro w hSw; (try dsimp only at hSw); go_simp; try with_reducible rfl)
  simp only [Act.put, List.setIfInBounds_toArray, List.set_cons_zero, List.set_cons_succ]
  refine Grl.yes 2 (v := ?_) rfl (by kernel_rfl) (by kernel_rfl) (by kernel_rfl) (fun _ _ _ h => h) (by kernel_rfl) ?_ (by assumption) ?_
  rotate_left
  · (intro w hSw; (try dsimp only at hSw); go_simp; try with_reducible rfl)
  simp only [Act.put, List.setIfInBounds_toArray, List.set_cons_zero, List.set_cons_succ]
  refine Grl.yes 3 (v := ?_) rfl (by kernel_rfl) (by kernel_rfl) (by kernel_rfl) (fun _ _ _ h => h) (by kernel_rfl) ?_ (by assumption) ?_
  rotate_left
  · (intro w hSw; (try dsimp only at hSw); go_simp; try with_reducible rfl)
  simp only [Act.put, List.setIfInBounds_toArray, List.set_cons_zero, List.set_cons_succ]
  refine Grl.yes 4 (v := ?_) rfl (by kernel_rfl) (by kernel_rfl) (by kernel_rfl) (fun _ _ _ h => h) (by kernel_rfl) ?_ (by assumption) ?_
  rotate_left
  · (intro w hSw; (try dsimp only at hSw); go_simp; try with_reducible rfl)
  simp only [Act.put, List.setIfInBounds_toArray, List.set_cons_zero, List.set_cons_succ]
  refine Grl.yes 5 (v := ?_) rfl (by kernel_rfl) (by kernel_rfl) (by kernel_rfl) (fun _ _ _ h => h) (by kernel_rfl) ?_ (by assumption) ?_
  rotate_left
  · (intro w hSw; (try dsimp only at hSw); go_simp; try with_reducible rfl)
  simp only [Act.put, List.setIfInBounds_toArray, List.set_cons_zero, List.set_cons_succ]
  refine Grl.yes 6 (v := ?_) rfl (by kernel_rfl) (by kernel_rfl) (by kernel_rfl) (fun _ _ _ h => h) (by kernel_rfl) ?_ (by assumption) ?_
  rotate_left
  · (intro w hSw; (try dsimp only at hSw); go_simp; try with_reducible rfl)
  simp only [Act.put, List.setIfInBounds_toArray, List.set_cons_zero, List.set_cons_succ]
  refine Grl.yes 7 (v := ?_) rfl (by kernel_rfl) (by kernel_rfl) (by kernel_rfl) (fun _ _ _ h => h) (by kernel_rfl) ?_ (by assumption) ?_
  rotate_left
  · (intro w hSw; (try dsimp only at hSw); go_simp; try with_reducible rfl)
  simp only [Act.put, List.setIfInBounds_toArray, List.set_cons_zero, List.set_cons_succ]
  refine Grl.yes 8 (v := ?_) rfl (by kernel_rfl) (by kernel_rfl) (by kernel_rfl) (fun _ _ _ h => h) (by kernel_rfl) ?_ (by assumption) ?_
  rotate_left
  · (intro w hSw; (try dsimp only at hSw); go_simp; try with_reducible rfl)
  simp only [Act.put, List.setIfInBounds_toArray, List.set_cons_zero, List.set_cons_succ]
  refine Grl.yes 9 (v := ?_) rfl (by kernel_rfl) (by kernel_rfl) (by kernel_rfl) (fun _ _ _ h => h) (by kernel_rfl) ?_ (by assumption) ?_
  rotate_left
  · (intro w hSw; (try dsimp only at hSw); go_simp; try with_reducible rfl)
  simp only [Act.put, List.setIfInBounds_toArray, List.set_cons_zero, List.set_cons_succ]
  refine Grl.yes 10 (v := ?_) rfl (by kernel_rfl) (by kernel_rfl) (by kernel_rfl) (fun _ _ _ h => h) (by kernel_rfl) ?_ (by assumption) ?_
  rotate_left
  · (intro w hSw; (try dsimp only at hSw); go_simp; try with_reducible rfl)
  simp only [Act.put, List.setIfInBounds_toArray, List.set_cons_zero, List.set_cons_succ]
  refine Grl.yes 11 (v := ?_) rfl (by kernel_rfl) (by kernel_rfl) (by kernel_rfl) (fun _ _ _ h => h) (by kernel_rfl) ?_ (by assumption) ?_
  rotate_left
  · (intro w hSw; (try dsimp only at hSw); go_simp; try with_reducible rfl)
  simp only [Act.put, List.setIfInBounds_toArray, List.set_cons_zero, List.set_cons_succ]
  refine Grl.yes 12 (v := ?_) rfl (by kernel_rfl) (by kernel_rfl) (by kernel_rfl) (fun _ _ _ h => h) (by kernel_rfl) ?_ (by assumption) ?_
  rotate_left
  · (intro w hSw; (try dsimp only at hSw); go_simp; try with_reducible rfl)
  simp only [Act.put, List.setIfInBounds_toArray, List.set_cons_zero, List.set_cons_succ]
  refine Grl.yes 13 (v := ?_) rfl (by kernel_rfl) (by kernel_rfl) (by kernel_rfl) (fun _ _ _ h => h) (by kernel_rfl) ?_ (by assumption) ?_
  rotate_left
  · (intro w hSw; (try dsimp only at hSw); go_simp; try with_reducible rfl)
  simp only [Act.put, List.setIfInBounds_toArray, List.set_cons_zero, List.set_cons_succ]
  refine Grl.yes 14 (v := ?_) rfl (by kernel_rfl) (by kernel_rfl) (by kernel_rfl) (fun _ _ _ h => h) (by kernel_rfl) ?_ (by assumption) ?_
  rotate_left
  · (intro w hSw; (try dsimp only at hSw); go_simp; try with_reducible rfl)
  simp only [Act.put, List.setIfInBounds_toArray, List.set_cons_zero, List.set_cons_succ]
  refine Grl.yes 15 (v := ?_) rfl (by kernel_rfl) (by kernel_rfl) (by kernel_rfl) (fun _ _ _ h => h) (by kernel_rfl) ?_ (by assumption) ?_
  rotate_left
  · (intro w hSw; (try dsimp only at hSw); go_simp; try with_reducible rfl)
  simp only [Act.put, List.setIfInBounds_toArray, List.set_cons_zero, List.set_cons_succ]
  refine Grl.yes 16 (v := ?_) rfl (by kernel_rfl) (by kernel_rfl) (by kernel_rfl) (fun _ _ _ h => h) (by kernel_rfl) ?_ (by assumption) ?_
  rotate_left
  · (intro w hSw; (try dsimp only at hSw); go_simp; try with_reducible rfl)
  simp only [Act.put, List.setIfInBounds_toArray, List.set_cons_zero, List.set_cons_succ]
  refine Grl.yes 17 (v := ?_) rfl (by kernel_rfl) (by kernel_rfl) (by kernel_rfl) (fun _ _ _ h => h) (by kernel_rfl) ?_ (by assumption) ?_
  rotate_left
  · (intro w hSw; (try dsimp only at hSw); go_simp; try with_reducible rfl)
  simp only [Act.put, List.setIfInBounds_toArray, List.set_cons_zero, List.set_cons_succ]
  refine Grl.yes 18 (v := ?_) rfl (by kernel_rfl) (by kernel_rfl) (by kernel_rfl) (fun _ _ _ h => h) (by kernel_rfl) ?_ (by assumption) ?_
  rotate_left
  · (intro w hSw; (try dsimp only at hSw); go_simp; try with_reducible rfl)
  simp only [Act.put, List.setIfInBounds_toArray, List.set_cons_zero, List.set_cons_succ]
  refine Grl.yes 19 (v := ?_) rfl (by kernel_rfl) (by kernel_rfl) (by kernel_rfl) (fun _ _ _ h => h) (by kernel_rfl) ?_ (by assumption) ?_
  rotate_left
  · (intro w hSw; (try dsimp only at hSw); go_simp; try with_reducible rfl)
  simp only [Act.put, List.setIfInBounds_toArray, List.set_cons_zero, List.set_cons_succ]
  refine wpAnyH_done (by kernel_rfl) ?_ _
  obtain ⟨x0, x1, x2, e0, e1, e2⟩ := unhide HS _ bD
  go_wp2_with fail
  refine (unhide HO (unhide HLO) _ bD).mono ?_
  rintro e w4 ⟨rfl, b4⟩
  have d4 := bW.trans ((bD.trans (b4.mono bD.size)).mono bW.size)
  cases ho : otherE L ls T V
  · have HR := hide (show codeI L H F ls T V = 0 by unfold codeI; rw [unhide HC0, ho]; rfl)
    go_wp2_with fail
    go_ret
    exact ⟨by rw [unhide HR]; rfl, d4⟩
  · have HR := hide (show codeI L H F ls T V = 3 by unfold codeI; rw [unhide HC0, ho]; rfl)
    go_wp2_with fail
    go_ret
    exact ⟨by rw [unhide HR]; rfl, d4⟩
end Go.Proofs.YtlboekimnhgfdaaGreat.Tab

/- An entry is written, or a refusal is thrown: write of the program. -/
namespace Go.Proofs.YtlboekimnhgfdaaGreat.Tab
open Go.RowKit Rw
set_option linter.unusedVariables false
set_option linter.unusedSimpArgs false
attribute [local go_sem ↓] Go.wp_at_zero Go.wp_at_succ
/-- what one entry comes to, by the program's code -/
theorem oneE_code (t : T3) (e : En) (h : codeI t.1 t.2.1 t.2.2 e.1 e.2.1 e.2.2 ≠ 0) : oneE t e = (t, codeI t.1 t.2.1 t.2.2 e.1 e.2.1 e.2.2) := by
  unfold codeI at h ⊢
  by_cases h1 : codeE t.2.1 t.2.2 e.1 e.2.1 e.2.2 ≠ 0
  · rw [if_pos h1]; exact one_none h1
  · have h1' : codeE t.2.1 t.2.2 e.1 e.2.1 e.2.2 = 0 := by omega
    rw [if_neg h1] at h ⊢
    by_cases h2 : otherE t.1 e.1 e.2.1 e.2.2 = true
    · rw [if_pos h2]; exact one_other h1' h2
    · rw [if_neg h2] at h; exact absurd rfl h
theorem codeI_zero {L : List Row.E} {H F : Int} {ls : List Lab.E} {T V : Int} (h : codeI L H F ls T V = 0) : codeE H F ls T V = 0 ∧ otherE L ls T V = false := by
  unfold codeI at h
  by_cases h1 : codeE H F ls T V ≠ 0
  · rw [if_pos h1] at h; exact absurd h h1
  · rw [if_neg h1] at h
    refine ⟨by omega, ?_⟩
    cases ho : otherE L ls T V
    · rfl
    · rw [ho] at h; simp at h
/-- how a call of write ends: t is what was, tb the trial's box -/
def Written (tb : Nat) (w : World) (t : T3) (o : T3 × Int) (e : Ending) (w' : World) : Prop :=
  (∃ k : Int, k ≠ 0 ∧ o = (t, k) ∧ e = .panicked [{ v := .iface 117 (.agg #[.int .i64 k]), recovered := false }] ∧ Below w.heap.size w w') ∨
  (∃ (R : List Row.E) (H' : Int) (r : Value) (wm : World), o = ((R, H', t.2.2), 0) ∧ e = .returned (.tuple #[]) ∧ Below w.heap.size w wm ∧ Row.Own w.heap.size wm.heap.size wm r R ∧ OnlyAt tb wm w' ∧ w'.cell? ⟨tb, 0, none⟩ = some r ∧ w'.cell? ⟨tb, 1, none⟩ = some (.int .i64 H') ∧ w'.cell? ⟨tb, 2, none⟩ = some (.int .i64 t.2.2) ∧ w'.frozen? ⟨tb, 0, none⟩ = false ∧ w'.frozen? ⟨tb, 1, none⟩ = false)
set_option maxRecDepth 100000 in
set_option maxHeartbeats 8000000 in
theorem write_any {w : World} {u : Value} {L : List Row.E} {ls : List Lab.E} (tb : Nat) (va : Option Addr) (vn vq : Nat) (H F T V : Int) (htb : tb < w.heap.size) (c0 : w.cell? ⟨tb, 0, none⟩ = some (.slice va vn vq)) (c1 : w.cell? ⟨tb, 1, none⟩ = some (.int .i64 H)) (c2 : w.cell? ⟨tb, 2, none⟩ = some (.int .i64 F)) (f0 : w.frozen? ⟨tb, 0, none⟩ = false) (f1 : w.frozen? ⟨tb, 1, none⟩ = false) (h : Row.Is w (.slice va vn vq) L) (hB : tabB (L, H, F)) (hl : Lab.Is w u ls) (hlg : ∀ x ∈ ls, Lab.good x) (hll : ls.length ≤ maxLen) :
    Calls Tryz.prog 85 #[.pointer (some ⟨tb, 0, none⟩), .agg #[u, .int .i64 T, .int .i64 V]] w (Written tb w (L, H, F) (oneE (L, H, F) (ls, T, V))) := by
  obtain ⟨au, nu, qu, rfl⟩ : ∃ a n q, u = .slice a n q := by obtain ⟨-, a, q, e, -⟩ := hl; exact ⟨a, _, q, e⟩
  obtain ⟨W, hW⟩ : ∃ W, w.alloc (.cells #[.slice au nu qu, .int .i64 T, .int .i64 V] 62) = W := ⟨_, rfl⟩
  have bW : Below w.heap.size w W := by rw [← hW]; exact (Below.refl _ _).alloc (Nat.le_refl _) _
  have zW : w.heap.size < W.heap.size := by rw [← hW]; simp
  have q0 : W.cell? ⟨w.heap.size, 0, none⟩ = some (.slice au nu qu) := by rw [← hW]; simp [go_sem]
  have q1 : W.cell? ⟨w.heap.size, 1, none⟩ = some (.int .i64 T) := by rw [← hW]; simp [go_sem]
  have q2 : W.cell? ⟨w.heap.size, 2, none⟩ = some (.int .i64 V) := by rw [← hW]; simp [go_sem]
  have HS := hide (fun (X : World) (hb : Below W.heap.size W X) => show X.cell? ⟨tb, 0, none⟩ = some (.slice va vn vq) ∧ X.cell? ⟨tb, 1, none⟩ = some (.int .i64 H) ∧ X.cell? ⟨tb, 2, none⟩ = some (.int .i64 F) ∧ X.cell? ⟨w.heap.size, 0, none⟩ = some (.slice au nu qu) ∧ X.cell? ⟨w.heap.size, 1, none⟩ = some (.int .i64 T) ∧ X.cell? ⟨w.heap.size, 2, none⟩ = some (.int .i64 V) from
    have ht : tb < W.heap.size := Nat.lt_of_lt_of_le htb bW.size
    ⟨(hb.cell (p := ⟨tb, 0, none⟩) ht).trans ((bW.cell (p := ⟨tb, 0, none⟩) htb).trans c0), (hb.cell (p := ⟨tb, 1, none⟩) ht).trans ((bW.cell (p := ⟨tb, 1, none⟩) htb).trans c1), (hb.cell (p := ⟨tb, 2, none⟩) ht).trans ((bW.cell (p := ⟨tb, 2, none⟩) htb).trans c2), (hb.cell (p := ⟨w.heap.size, 0, none⟩) zW).trans q0, (hb.cell (p := ⟨w.heap.size, 1, none⟩) zW).trans q1, (hb.cell (p := ⟨w.heap.size, 2, none⟩) zW).trans q2⟩)
  have hok := hB.1
  have hH := hB.2.1
  simp only at hok hH
  have hgL := Row.fine_good (Row.fine_ok hok)
  have hlL : L.length ≤ maxLen := by have := Row.ok_len hok; unfold maxLen; omega
  have HCo := hide (fun X (hb : Below W.heap.size W X) => code_any tb va vn vq H F T V (Nat.lt_of_lt_of_le (Nat.lt_of_lt_of_le htb bW.size) hb.size) (unhide HS X hb).1 (unhide HS X hb).2.1 (unhide HS X hb).2.2.1 ((h.below bW).below hb) hok ((hl.below bW).below hb) hlg hll hH)
  have HAd := hide (fun X (hb : Below W.heap.size W X) => Row.impl_radd T V ((h.below bW).below hb) hgL hlL ((hl.below bW).below hb) hlg)
  have HFr := hide (fun X (hb : Below W.heap.size W X) => show X.frozen? ⟨tb, 0, none⟩ = false ∧ X.frozen? ⟨tb, 1, none⟩ = false from
    have ht : tb < W.heap.size := Nat.lt_of_lt_of_le htb bW.size
    ⟨(hb.frozen (p := ⟨tb, 0, none⟩) ht).trans ((bW.frozen (p := ⟨tb, 0, none⟩) htb).trans f0), (hb.frozen (p := ⟨tb, 1, none⟩) ht).trans ((bW.frozen (p := ⟨tb, 1, none⟩) htb).trans f1)⟩)
  have HOK := hide hok
  obtain ⟨x0, x1, x2, e0, e1, e2⟩ := unhide HS W (Below.refl _ _)
  clear h hl hlg hll c0 c1 c2 q0 q1 q2 f0 f1 hok hgL hlL hB
  go_enter Tryz.func85, Tryz.ntmps85
  go_wp2_with fail
  refine (unhide HCo W (Below.refl _ _)).mono ?_
  rintro e w1 ⟨rfl, b1⟩
  obtain ⟨k, hk⟩ : ∃ k, k = codeI L H F ls T V := ⟨_, rfl⟩
  rw [← hk]
  clear HCo x0 x1 x2 e0 e1 e2
  by_cases hk0 : k = 0
  · have hkb : (k != 0) = false := by simp [hk0]
    have hz := codeI_zero (hk.symm.trans hk0)
    obtain ⟨y1, y2⟩ := code_zero hz.1
    have HZ := hide hz
    have HY := hide (And.intro y1 y2)
    have bD : Below W.heap.size W w1.drew := b1.drew
    have HA1 := hide (fun X (hb : Below w1.drew.heap.size w1.drew X) => unhide HAd X (bD.trans (hb.mono bD.size)))
    obtain ⟨x0, x1, x2, e0, e1, e2⟩ := unhide HS w1 b1
    clear hk hz y1 y2 HAd hk0
    go_wp2_with fail
    clear x0 x1 x2 e0 e1 e2
    refine Grl.start (S := fun X => X.cell? ⟨tb, 0, none⟩ = some (.slice va vn vq) ∧ X.cell? ⟨tb, 1, none⟩ = some (.int .i64 H) ∧ X.cell? ⟨tb, 2, none⟩ = some (.int .i64 F) ∧ X.cell? ⟨w.heap.size, 0, none⟩ = some (.slice au nu qu) ∧ X.cell? ⟨w.heap.size, 1, none⟩ = some (.int .i64 T) ∧ X.cell? ⟨w.heap.size, 2, none⟩ = some (.int .i64 V)) (by kernel_rfl) (by exact unhide HS _ bD) (fun hHeld => ?_)
    refine Grl.yes 0 (v := ?_) rfl (by kernel_rfl) (by kernel_rfl) (by kernel_rfl) (fun _ _ _ h => h) (by kernel_rfl) ?_ (by assumption) ?_
    rotate_left
    · (intro w hSw; (try dsimp only at hSw); go_simp; try with_reducible rfl)
    simp only [Act.put, List.setIfInBounds_toArray, List.set_cons_zero, List.set_cons_succ]
    refine Grl.yes 1 (v := ?_) rfl (by kernel_rfl) (by kernel_rfl) (by kernel_rfl) (fun _ _ _ h => h) (by kernel_rfl) ?_ (by assumption) ?_
    rotate_left
    · (intro w hSw; (try dsimp only at hSw); go_simp; try with_reducible rfl)
    simp only [Act.put, List.setIfInBounds_toArray, List.set_cons_zero, List.set_cons_succ]
    refine Grl.yes 2 (v := ?_) rfl (by kernel_rfl) (by kernel_rfl) (by kernel_rfl) (fun _ _ _ h => h) (by kernel_rfl) ?_ (by assumption) ?_
    rotate_left
    · (intro w hSw; (try dsimp only at hSw); go_simp; try with_reducible rfl)
    simp only [Act.put, List.setIfInBounds_toArray, List.set_cons_zero, List.set_cons_succ]
    refine Grl.yes 3 (v := ?_) rfl (by kernel_rfl) (by kernel_rfl) (by kernel_rfl) (fun _ _ _ h => h) (by kernel_rfl) ?_ (by assumption) ?_
    rotate_left
    · (intro w hSw; (try dsimp only at hSw); go_simp; try with_reducible rfl)
    simp only [Act.put, List.setIfInBounds_toArray, List.set_cons_zero, List.set_cons_succ]
    refine Grl.yes 4 (v := ?_) rfl (by kernel_rfl) (by kernel_rfl) (by kernel_rfl) (fun _ _ _ h => h) (by kernel_rfl) ?_ (by assumption) ?_
    rotate_left
    · (intro w hSw; (try dsimp only at hSw); go_simp; try with_reducible rfl)
    simp only [Act.put, List.setIfInBounds_toArray, List.set_cons_zero, List.set_cons_succ]
    refine Grl.yes 5 (v := ?_) rfl (by kernel_rfl) (by kernel_rfl) (by kernel_rfl) (fun _ _ _ h => h) (by kernel_rfl) ?_ (by assumption) ?_
    rotate_left
    · (intro w hSw; (try dsimp only at hSw); go_simp; try with_reducible rfl)
    simp only [Act.put, List.setIfInBounds_toArray, List.set_cons_zero, List.set_cons_succ]
    refine Grl.yes 6 (v := ?_) rfl (by kernel_rfl) (by kernel_rfl) (by kernel_rfl) (fun _ _ _ h => h) (by kernel_rfl) ?_ (by assumption) ?_
    rotate_left
    · (intro w hSw; (try dsimp only at hSw); go_simp; try with_reducible rfl)
    simp only [Act.put, List.setIfInBounds_toArray, List.set_cons_zero, List.set_cons_succ]
    refine Grl.yes 7 (v := ?_) rfl (by kernel_rfl) (by kernel_rfl) (by kernel_rfl) (fun _ _ _ h => h) (by kernel_rfl) ?_ (by assumption) ?_
    rotate_left
    · (intro w hSw; (try dsimp only at hSw); go_simp; try with_reducible rfl)
    simp only [Act.put, List.setIfInBounds_toArray, List.set_cons_zero, List.set_cons_succ]
    refine Grl.one 8 rfl (by kernel_rfl) (fun K hK => ?_)
    go_simp
    go_wp2_with (refine (sample_any au nu qu T V).mono ?_; rintro e w2 ⟨rfl, b2⟩)
    refine hK.out _ _ (by exact unhide HS _ (bD.trans (b2.mono bD.size))) (fun hHeld => ?_)
    clear hK K
    refine Grl.one 9 rfl (by kernel_rfl) (fun K hK => ?_)
    go_simp
    go_wp2_with (refine (unhide HA1 w2 b2).mono ?_; rintro e w3 ⟨r, rfl, orr, b3⟩; have b13 := b2.trans (b3.mono b2.size); have bW3 := bD.trans (b13.mono bD.size); obtain ⟨ra, rn, rq, rfl⟩ := orr.form)
    refine hK.out _ _ (by exact unhide HS _ bW3) (fun hHeld => ?_)
    clear hK K
    refine Grl.yes 10 (v := ?_) rfl (by kernel_rfl) (by kernel_rfl) (by kernel_rfl) (fun _ _ _ h => h) (by kernel_rfl) ?_ (by assumption) ?_
    rotate_left
    · (intro w hSw; (try dsimp only at hSw); go_simp; try with_reducible rfl)
    simp only [Act.put, List.setIfInBounds_toArray, List.set_cons_zero, List.set_cons_succ]
    refine Grl.yes 11 (v := ?_) rfl (by kernel_rfl) (by kernel_rfl) (by kernel_rfl) (fun _ _ _ h => h) (by kernel_rfl) ?_ (by assumption) ?_
    rotate_left
    · (intro w hSw; (try dsimp only at hSw); go_simp; try with_reducible rfl)
    simp only [Act.put, List.setIfInBounds_toArray, List.set_cons_zero, List.set_cons_succ]
    refine Grl.yes 12 (v := ?_) rfl (by kernel_rfl) (by kernel_rfl) (by kernel_rfl) (fun _ _ _ h => h) (by kernel_rfl) ?_ (by assumption) ?_
    rotate_left
    · (intro w hSw; (try dsimp only at hSw); go_simp; try with_reducible rfl)
    simp only [Act.put, List.setIfInBounds_toArray, List.set_cons_zero, List.set_cons_succ]
    refine Grl.yes 13 (v := ?_) rfl (by kernel_rfl) (by kernel_rfl) (by kernel_rfl) (fun _ _ _ h => h) (by kernel_rfl) ?_ (by assumption) ?_
    rotate_left
    · (intro w hSw; (try dsimp only at hSw); go_simp; try with_reducible rfl)
    simp only [Act.put, List.setIfInBounds_toArray, List.set_cons_zero, List.set_cons_succ]
    refine Grl.yes 14 (v := ?_) rfl (by kernel_rfl) (by kernel_rfl) (by kernel_rfl) (fun _ _ _ h => h) (by kernel_rfl) ?_ (by assumption) ?_
    rotate_left
    · (intro w hSw; (try dsimp only at hSw); go_simp; try with_reducible rfl)
    simp only [Act.put, List.setIfInBounds_toArray, List.set_cons_zero, List.set_cons_succ]
    refine wpAnyH_done (by kernel_rfl) ?_ _
    have d3 := bW.trans (bW3.mono bW.size)
    cases ha : Row.add L (ls, [(T, V)]) with
    | none =>
      have HR := hide (show oneE (L, H, F) (ls, T, V) = ((L, H, F), 4) from one_many (t := (L, H, F)) (e := (ls, T, V)) (unhide HZ).1 (unhide HZ).2 ha)
      have hra : (Row.radd L ls T V).2 = false := by rw [Row.radd_yes (unhide HOK) (unhide HY).1 (unhide HY).2, ha]
      rw [hra]
      clear ha hra orr b2 b3 b13 HA1
      go_wp2_with fail
      refine ⟨rfl, ?_⟩
      exact .inl ⟨4, by decide, unhide HR, rfl, d3⟩
    | some R =>
      have HR := hide (show oneE (L, H, F) (ls, T, V) = ((R, (if H < T then T else H), F), 0) from one_fine (t := (L, H, F)) (e := (ls, T, V)) (unhide HZ).1 (unhide HZ).2 ha)
      have hra : Row.radd L ls T V = (R, true) := by rw [Row.radd_yes (unhide HOK) (unhide HY).1 (unhide HY).2, ha]
      rw [hra]
      rw [hra] at orr
      have z3 := d3.size
      have ow := hide (orr.wide (lo' := w.heap.size) (hi' := w3.heap.size) (by have := b2.size; have := bD.size; have := bW.size; simp only [World.size_drew] at *; omega) (by omega) (Nat.le_refl _))
      obtain ⟨G, hG⟩ : ∃ G, G = (if H < T then T else H) := ⟨_, rfl⟩
      rw [← hG] at HR
      have hmax : max H T = G := by rw [hG, Int.max_def]; split <;> split <;> omega
      obtain ⟨x0, x1, x2, e0, e1, e2⟩ := unhide HS w3 bW3
      obtain ⟨g0, g1⟩ := unhide HFr w3 bW3
      obtain ⟨y1, hy1⟩ : ∃ V, w3.setCell ⟨tb, 0, none⟩ (.slice ra rn rq) = V := ⟨_, rfl⟩
      have on1 := (OnlyAt.refl tb w3).setCell 0 (.slice ra rn rq)
      rw [hy1] at on1
      have htb3 : tb < w3.heap.size := by omega
      have k0 : y1.cell? ⟨tb, 0, none⟩ = some (.slice ra rn rq) := by rw [← hy1]; simp [go_sem, x0, g0]
      have k1 : y1.cell? ⟨tb, 1, none⟩ = some (.int .i64 H) := by rw [← hy1]; simp [go_sem, x1]
      have k2 : y1.cell? ⟨tb, 2, none⟩ = some (.int .i64 F) := by rw [← hy1]; simp [go_sem, x2]
      have kf0 : y1.frozen? ⟨tb, 0, none⟩ = false := by rw [← hy1]; simp [go_sem, g0]
      have kf1 : y1.frozen? ⟨tb, 1, none⟩ = false := by rw [← hy1]; simp [go_sem, g1]
      have hne : w.heap.size ≠ tb := by omega
      have m0 : y1.drew.cell? ⟨tb, 0, none⟩ = some (.slice ra rn rq) := by simpa using k0
      have m1 : y1.drew.cell? ⟨tb, 1, none⟩ = some (.int .i64 H) := by simpa using k1
      have m2 : y1.drew.cell? ⟨tb, 2, none⟩ = some (.int .i64 F) := by simpa using k2
      have m3 : y1.drew.cell? ⟨w.heap.size, 1, none⟩ = some (.int .i64 T) := by simpa using (World.cell?_of_block (a := ⟨w.heap.size, 1, none⟩) (on1.block _ hne)).trans e1
      have mf0 : y1.drew.frozen? ⟨tb, 0, none⟩ = false := by simpa using kf0
      have mf1 : y1.drew.frozen? ⟨tb, 1, none⟩ = false := by simpa using kf1
      obtain ⟨y2, hy2⟩ : ∃ V, y1.drew.setCell ⟨tb, 1, none⟩ (.int .i64 G) = V := ⟨_, rfl⟩
      have on1d : OnlyAt tb w3 y1.drew := ⟨on1.os, on1.tape, on1.output, on1.size, on1.block⟩
      have on2 := on1d.setCell 1 (.int .i64 G)
      rw [hy2] at on2
      have n0 : y2.cell? ⟨tb, 0, none⟩ = some (.slice ra rn rq) := by rw [← hy2]; simp [go_sem, k0]
      have n1 : y2.cell? ⟨tb, 1, none⟩ = some (.int .i64 G) := by rw [← hy2]; simp [go_sem, k1, kf1]
      have n2 : y2.cell? ⟨tb, 2, none⟩ = some (.int .i64 F) := by rw [← hy2]; simp [go_sem, k2]
      have nf0 : y2.frozen? ⟨tb, 0, none⟩ = false := by rw [← hy2]; simp [go_sem, kf0]
      have nf1 : y2.frozen? ⟨tb, 1, none⟩ = false := by rw [← hy2]; simp [go_sem, kf1]
      have HE := hide (And.intro n0 (And.intro n1 (And.intro n2 (And.intro nf0 nf1))))
      clear ha hra orr b2 b3 b13 HA1 hG x1 x2 e0 e1 e2 n0 n1 n2 nf0 nf1 k0 k1 k2 kf0 kf1
      go_wp2_with fail
      go_region
      go_wp2_with fail
      refine bodyPost_ret (results_none rfl _ _ _) rfl ?_
      exact .inr ⟨R, G, _, w3, unhide HR, rfl, d3, unhide ow, on2, (unhide HE).1, (unhide HE).2.1, (unhide HE).2.2.1, (unhide HE).2.2.2.1, (unhide HE).2.2.2.2⟩
  · have hkb : (k != 0) = true := by simp [hk0]
    have HR := hide (show oneE (L, H, F) (ls, T, V) = ((L, H, F), k) from by have := oneE_code (L, H, F) (ls, T, V) (by rw [← hk]; exact hk0); rw [this]; simp only [← hk])
    have d1 := bW.trans (b1.mono bW.size)
    clear hk HAd
    go_wp2_with fail
    refine ⟨rfl, ?_⟩
    exact .inl ⟨k, hk0, unhide HR, rfl, d1⟩
end Go.Proofs.YtlboekimnhgfdaaGreat.Tab

/- What was thrown is caught: the deferred closure of tryAll, at a frame that returns, and at one that panics. -/
namespace Go.Proofs.YtlboekimnhgfdaaGreat.Tab
open Go.RowKit Rw
set_option linter.unusedVariables false
set_option linter.unusedSimpArgs false
attribute [local go_sem ↓] Go.wp_at_zero Go.wp_at_succ
theorem assert_refusal (xT : TypeId) (v : Value) (w : World) : (Instr.typeAssert (.iface 117 v) xT 117 true).run Tryz.prog w = .ok (.tuple #[v, .bool true]) w := by
  kernel_rfl
theorem undef13 : (Array.replicate 13 undef : Array Value) = #[undef, undef, undef, undef, undef, undef, undef, undef, undef, undef, undef, undef, undef] := rfl
set_option maxRecDepth 100000 in
set_option maxHeartbeats 4000000 in
theorem catch_idle (p q r : Addr) (w : World) : CallsD Tryz.prog 84 #[.pointer (some p), .pointer (some q), .pointer (some r)] .returning w fun e u' w' => e = .returned (.tuple #[]) ∧ u' = .returning ∧ w' = w := by
  refine callsD_of_wpS Tryz.func84 rfl fun c₀ cs hu => ?_
  apply wpS_seq
  apply wpS_region
  simp [wpOpsS, go_sem, recoverD, hu, Tryz.ntmps84, Exit.thenS, undef13]
  refine wpS_of_wp ?_
  go_wp2_with fail
  cases c₀
  simp_all [bodyPostS, results, Tryz.results84]
/-- what was thrown is caught: the table that was, copied, and its code -/
theorem catch_thrown {B : Nat} {x0 y0 z0 z : Value} (tb ob cb : Nat) (k : Int) (w : World) (H F : Int) {L : List Row.E} (va : Option Addr) (vn vq : Nat)
    (c0 : w.cell? ⟨tb, 0, none⟩ = some (.slice va vn vq)) (c1 : w.cell? ⟨tb, 1, none⟩ = some (.int .i64 H)) (c2 : w.cell? ⟨tb, 2, none⟩ = some (.int .i64 F)) (htb : tb < w.heap.size)
    (ho : w.ownsRow B 30 3 (.slice (some ⟨ob, 0, none⟩) 1 1) 1 [x0, y0, z0]) (hcc : w.cell? ⟨cb, 0, none⟩ = some z) (hcf : w.frozen? ⟨cb, 0, none⟩ = false) (hcl : cb < w.heap.size) (h1 : tb ≠ ob) (h2 : tb ≠ cb) (h3 : ob ≠ cb)
    (h : Row.Is w (.slice va vn vq) L) (hok : Row.ok L = true) :
    CallsD Tryz.prog 84 #[.pointer (some ⟨tb, 0, none⟩), .pointer (some ⟨ob, 0, none⟩), .pointer (some ⟨cb, 0, none⟩)] (.panicking [{ v := .iface 117 (.agg #[.int .i64 k]), recovered := false }]) w fun e u' w' => e = .returned (.tuple #[]) ∧ u' = .panicking [{ v := .iface 117 (.agg #[.int .i64 k]), recovered := true }] ∧
      ∃ (r : Value) (wm wn : World), Below w.heap.size w wm ∧ Row.Own w.heap.size wm.heap.size wm r L ∧ OnlyAt ob wm wn ∧ OnlyAt cb wn w' ∧ w'.cell? ⟨ob, 0, none⟩ = some r ∧ w'.cell? ⟨ob, 1, none⟩ = some (.int .i64 H) ∧ w'.cell? ⟨ob, 2, none⟩ = some (.int .i64 F) ∧ w'.cell? ⟨cb, 0, none⟩ = some (.int .i64 k) := by
  have hta := assert_refusal
  have hob : ob < w.heap.size := own_lt ho
  have hTob := h1
  have hTcb := h2
  have hNob : w.heap.size ≠ ob := by omega
  have hNcb : w.heap.size ≠ cb := by omega
  obtain ⟨W, hW⟩ : ∃ V, w.alloc (.cells #[.int .i64 k] 117) = V := ⟨_, rfl⟩
  have bW : Below w.heap.size w W := by rw [← hW]; exact (Below.refl _ _).alloc (Nat.le_refl _) _
  have zW : w.heap.size < W.heap.size := by rw [← hW]; simp
  have hcW : cb < W.heap.size := by omega
  have q0 : W.cell? ⟨w.heap.size, 0, none⟩ = some (.int .i64 k) := by rw [← hW]; simp [go_sem]
  have HS := hide (fun (X : World) (hb : Below W.heap.size W X) => show X.cell? ⟨tb, 0, none⟩ = some (.slice va vn vq) ∧ X.cell? ⟨tb, 1, none⟩ = some (.int .i64 H) ∧ X.cell? ⟨tb, 2, none⟩ = some (.int .i64 F) ∧ X.cell? ⟨w.heap.size, 0, none⟩ = some (.int .i64 k) from
    have ht : tb < W.heap.size := by omega
    ⟨(hb.cell (p := ⟨tb, 0, none⟩) ht).trans ((bW.cell (p := ⟨tb, 0, none⟩) htb).trans c0), (hb.cell (p := ⟨tb, 1, none⟩) ht).trans ((bW.cell (p := ⟨tb, 1, none⟩) htb).trans c1), (hb.cell (p := ⟨tb, 2, none⟩) ht).trans ((bW.cell (p := ⟨tb, 2, none⟩) htb).trans c2), (hb.cell (p := ⟨w.heap.size, 0, none⟩) zW).trans q0⟩)
  have HO := hide (own_below ho bW)
  have kc : W.cell? ⟨cb, 0, none⟩ = some z := (bW.cell (p := ⟨cb, 0, none⟩) hcl).trans hcc
  have kf : W.frozen? ⟨cb, 0, none⟩ = false := (bW.frozen (p := ⟨cb, 0, none⟩) hcl).trans hcf
  have bD : Below W.heap.size W W.drew := (Below.refl _ _).drew
  have HCp := hide (impl_copy (w := W.drew) H F ((h.below bW).below bD) hok)
  refine callsD_of_wpS Tryz.func84 rfl fun c₀ cs hu => ?_
  clear c0 c1 c2 hcc hcf ho h hok q0
  apply wpS_seq
  apply wpS_region
  simp [wpOpsS, go_sem, recoverD, hu, Tryz.ntmps84, Exit.thenS, undef13]
  refine wpS_of_wp ?_
  go_wp2_with fail
  refine Grl.start (S := fun X => X.cell? ⟨tb, 0, none⟩ = some (.slice va vn vq) ∧ X.cell? ⟨tb, 1, none⟩ = some (.int .i64 H) ∧ X.cell? ⟨tb, 2, none⟩ = some (.int .i64 F) ∧ X.cell? ⟨w.heap.size, 0, none⟩ = some (.int .i64 k)) (by kernel_rfl) (by exact unhide HS _ bD) (fun hHeld => ?_)
  refine Grl.yes 0 (v := ?_) rfl (by kernel_rfl) (by kernel_rfl) (by kernel_rfl) (fun _ _ _ h => h) (by kernel_rfl) ?_ (by assumption) ?_
  rotate_left
  · (intro w hSw; (try dsimp only at hSw); go_simp; try with_reducible rfl)
  simp only [Act.put, List.setIfInBounds_toArray, List.set_cons_zero, List.set_cons_succ]
  refine Grl.yes 2 (v := ?_) rfl (by kernel_rfl) (by kernel_rfl) (by kernel_rfl) (fun _ _ _ h => h) (by kernel_rfl) ?_ (by assumption) ?_
  rotate_left
  · (intro w hSw; (try dsimp only at hSw); go_simp; try with_reducible rfl)
  simp only [Act.put, List.setIfInBounds_toArray, List.set_cons_zero, List.set_cons_succ]
  refine Grl.yes 3 (v := ?_) rfl (by kernel_rfl) (by kernel_rfl) (by kernel_rfl) (fun _ _ _ h => h) (by kernel_rfl) ?_ (by assumption) ?_
  rotate_left
  · (intro w hSw; (try dsimp only at hSw); go_simp; try with_reducible rfl)
  simp only [Act.put, List.setIfInBounds_toArray, List.set_cons_zero, List.set_cons_succ]
  refine Grl.one 1 rfl (by kernel_rfl) (fun K hK => ?_)
  go_simp
  go_wp2_with fail
  refine (unhide HCp).mono ?_
  rintro e w2 ⟨r, rfl, orr, b2⟩
  obtain ⟨ra, rn, rq, rfl⟩ := orr.form
  have bW2 := bD.trans (b2.mono bD.size)
  have hs2 := unhide HS w2 bW2
  have O2 := own_below (unhide HO) bW2
  have z2 := bW2.size
  have kc2 := (bW2.cell (p := ⟨cb, 0, none⟩) hcW).trans kc
  have kf2 := (bW2.frozen (p := ⟨cb, 0, none⟩) hcW).trans kf
  obtain ⟨⟨pca, pfa⟩, ⟨pcb, pfb⟩, ⟨pcc, pfc⟩, so9, on9⟩ := Tab.box_put (w := w2) (.slice ra rn rq) (.int .i64 H) (.int .i64 F) O2
  obtain ⟨y9a, hy9a⟩ : ∃ V, w2.setCell ⟨ob, 0, none⟩ (.slice ra rn rq) = V := ⟨_, rfl⟩
  rw [hy9a] at pcb pfb pcc pfc so9 on9
  obtain ⟨y9b, hy9b⟩ : ∃ V, y9a.setCell ⟨ob, 1, none⟩ (.int .i64 H) = V := ⟨_, rfl⟩
  rw [hy9b] at pcc pfc so9 on9
  obtain ⟨y9, hy9⟩ : ∃ V, y9b.setCell ⟨ob, 2, none⟩ (.int .i64 F) = V := ⟨_, rfl⟩
  rw [hy9] at so9 on9
  have hs9 := (show y9.cell? ⟨tb, 0, none⟩ = some (.slice va vn vq) ∧ y9.cell? ⟨tb, 1, none⟩ = some (.int .i64 H) ∧ y9.cell? ⟨tb, 2, none⟩ = some (.int .i64 F) ∧ y9.cell? ⟨w.heap.size, 0, none⟩ = some (.int .i64 k) from And.intro ((World.cell?_of_block (a := ⟨tb, 0, none⟩) (on9.block _ hTob)).trans hs2.1) (And.intro ((World.cell?_of_block (a := ⟨tb, 1, none⟩) (on9.block _ hTob)).trans hs2.2.1) (And.intro ((World.cell?_of_block (a := ⟨tb, 2, none⟩) (on9.block _ hTob)).trans hs2.2.2.1) ((World.cell?_of_block (a := ⟨w.heap.size, 0, none⟩) (on9.block _ hNob)).trans hs2.2.2.2))))
  have kc9 := (World.cell?_of_block (a := ⟨cb, 0, none⟩) (on9.block _ (Ne.symm h3))).trans kc2
  have kf9 := (World.frozen?_of_block (a := ⟨cb, 0, none⟩) (on9.block _ (Ne.symm h3))).trans kf2
  obtain ⟨y8, hy8⟩ : ∃ V, y9.setCell ⟨cb, 0, none⟩ (.int .i64 k) = V := ⟨_, rfl⟩
  have on8 := (OnlyAt.refl cb y9).setCell 0 (.int .i64 k)
  rw [hy8] at on8
  have hs8 := (show y8.cell? ⟨tb, 0, none⟩ = some (.slice va vn vq) ∧ y8.cell? ⟨tb, 1, none⟩ = some (.int .i64 H) ∧ y8.cell? ⟨tb, 2, none⟩ = some (.int .i64 F) ∧ y8.cell? ⟨w.heap.size, 0, none⟩ = some (.int .i64 k) from And.intro ((World.cell?_of_block (a := ⟨tb, 0, none⟩) (on8.block _ hTcb)).trans hs9.1) (And.intro ((World.cell?_of_block (a := ⟨tb, 1, none⟩) (on8.block _ hTcb)).trans hs9.2.1) (And.intro ((World.cell?_of_block (a := ⟨tb, 2, none⟩) (on8.block _ hTcb)).trans hs9.2.2.1) ((World.cell?_of_block (a := ⟨w.heap.size, 0, none⟩) (on8.block _ hNcb)).trans hs9.2.2.2))))
  dsimp only
  refine hK.out _ _ (by exact hs2) (fun hHeld => ?_)
  clear hK K
  refine Grl.one 4 rfl (by kernel_rfl) (fun K hK => ?_)
  go_simp
  skip
  refine hK.out _ _ (by first | exact hs9 | exact hs8) (fun hHeld => ?_)
  clear hK K
  refine Grl.one 5 rfl (by kernel_rfl) (fun K hK => ?_)
  go_simp
  skip
  refine hK.out _ _ (by first | exact hs9 | exact hs8) (fun hHeld => ?_)
  clear hK K
  refine wpAnyH_done (by kernel_rfl) ?_ _
  have hk8 : y8.cell? ⟨cb, 0, none⟩ = some (.int .i64 k) := by rw [← hy8]; simp [go_sem, kc9, kf9]
  have b3 := Tab.box_three so9
  have n0 := (World.cell?_of_block (a := ⟨ob, 0, none⟩) (on8.block _ h3)).trans b3.1
  have n1 := (World.cell?_of_block (a := ⟨ob, 1, none⟩) (on8.block _ h3)).trans b3.2.1
  have n2 := (World.cell?_of_block (a := ⟨ob, 2, none⟩) (on8.block _ h3)).trans b3.2.2
  have HFin := hide (show ∃ (r : Value) (wm wn : World), Below w.heap.size w wm ∧ Row.Own w.heap.size wm.heap.size wm r L ∧ OnlyAt ob wm wn ∧ OnlyAt cb wn y8 ∧ y8.cell? ⟨ob, 0, none⟩ = some r ∧ y8.cell? ⟨ob, 1, none⟩ = some (.int .i64 H) ∧ y8.cell? ⟨ob, 2, none⟩ = some (.int .i64 F) ∧ y8.cell? ⟨cb, 0, none⟩ = some (.int .i64 k) from
    ⟨_, w2, y9, bW.trans (bW2.mono bW.size), orr.wide (by have := bW.size; simp only [World.size_drew]; omega) (Nat.le_refl _) (Nat.le_refl _), on9, on8, n0, n1, n2, hk8⟩)
  clear orr b2 hs2 hs9 hs8 so9 on9 on8 n0 n1 n2 hk8 b3 O2 hy8 hy9 hy9a hy9b pca pfa pcb pfb pcc pfc kc9 kf9 kc2 kf2 HS HO HCp
  go_wp2_with fail
  cases c₀
  simp_all [bodyPostS, results, Tryz.results84]
  exact unhide HFin
end Go.Proofs.YtlboekimnhgfdaaGreat.Tab

/- tryAll of the program: all entries are written, or a copy of what was, with a code. -/
namespace Go.Proofs.YtlboekimnhgfdaaGreat.Tab
open Go.RowKit Rw
set_option linter.unusedVariables false
set_option linter.unusedSimpArgs false
attribute [local go_sem ↓] Go.wp_at_zero Go.wp_at_succ
theorem _root_.Go.Proofs.YtlboekimnhgfdaaGreat.Row.Own.hi_le {lo hi : Nat} {w : World} {v : Value} {zs : List Row.E} (h : Row.Own lo hi w v zs) : hi ≤ w.heap.size := by obtain ⟨cs, h1, h2, h3, h4, -⟩ := h; exact h4
def tryE (t : T3) (b : List En) : T3 × Int := if (runT t b).2 = 0 then runT t b else (t, (runT t b).2)
theorem tryE_stop {t : T3} {b : List En} {k : Int} (h : (runT t b).2 = k) (hk : k ≠ 0) : tryE t b = (t, k) := by unfold tryE; rw [h, if_neg hk]
theorem tryE_fine {t t' : T3} {b : List En} (h : runT t b = (t', 0)) : tryE t b = (t', 0) := by unfold tryE; rw [h, if_pos rfl]
set_option maxRecDepth 100000 in
set_option maxHeartbeats 16000000 in
theorem try_any {w : World} {bv : Value} {L : List Row.E} {b : List En} (av : Option Addr) (nv cv : Nat) (H F : Int) (h : Row.Is w (.slice av nv cv) L) (hB : tabB (L, H, F)) (hb : Ent.Is w bv b) (hg : Okay b) (hn6 : b.length ≤ 6) :
    Calls Tryz.prog 45 #[.agg #[.slice av nv cv, .int .i64 H, .int .i64 F], bv] w fun e w' => ∃ r, e = .returned (.tuple #[.agg #[r, .int .i64 (tryE (L, H, F) b).1.2.1, .int .i64 (tryE (L, H, F) b).1.2.2], .int .i64 (tryE (L, H, F) b).2]) ∧ Row.Own w.heap.size w'.heap.size w' r (tryE (L, H, F) b).1.1 ∧ Below w.heap.size w w' := by
  have hmf : ∀ (fn : Fn) (first cap : Array Value) (w : World), (Instr.makeFunc fn first cap).run Tryz.prog w = .ok (.func fn first cap) w := fun _ _ _ _ => rfl
  obtain ⟨W, hW⟩ : ∃ V, (((w.alloc (.cells #[.slice av nv cv, .int .i64 H, .int .i64 F] 30)).alloc (.cells #[.slice none 0 0, .int .i64 0, .int .i64 0] 30)).alloc (.cells #[.int .i64 0] 3)) = V := ⟨_, rfl⟩
  have bW : Below w.heap.size w W := by rw [← hW]; exact (((Below.refl _ _).alloc (Nat.le_refl _) _).alloc (by simp) _).alloc (by simp; omega) _
  have zW : W.heap.size = w.heap.size + 1 + 1 + 1 := by rw [← hW]; simp
  have RT : W.ownsRow w.heap.size 30 3 (.slice (some ⟨w.heap.size, 0, none⟩) 1 1) 1 [.slice av nv cv, .int .i64 H, .int .i64 F] := by
    rw [← hW]
    exact own_below (own_below (own_new3 (Nat.le_refl _) rfl) ((Below.refl _ _).alloc (Nat.le_refl _) _)) ((Below.refl _ _).alloc (Nat.le_refl _) _)
  have RO : W.ownsRow w.heap.size 30 3 (.slice (some ⟨w.heap.size + 1, 0, none⟩) 1 1) 1 [.slice none 0 0, .int .i64 0, .int .i64 0] := by
    rw [← hW]
    have := own_new3 (w := w.alloc (.cells #[.slice av nv cv, .int .i64 H, .int .i64 F] 30)) (base := w.heap.size) (t := 30) (cs := #[.slice none 0 0, .int .i64 0, .int .i64 0]) (by simp) rfl
    simp only [World.size_alloc] at this
    exact own_below this ((Below.refl _ _).alloc (Nat.le_refl _) _)
  have kc : W.cell? ⟨w.heap.size + 1 + 1, 0, none⟩ = some (.int .i64 0) := by rw [← hW]; simp [go_sem]
  have kf : W.frozen? ⟨w.heap.size + 1 + 1, 0, none⟩ = false := by rw [← hW]; simp [go_sem]
  have HCp := hide (impl_copy (w := W) H F (h.below bW) hB.1)
  have HV := hide (h.below bW)
  have HT := hide hB
  obtain ⟨cs, hcs, hLi, hEl⟩ := hb.below bW
  obtain ⟨-, ab, qb, rfl, hbc, hbm, -, hbr⟩ := hLi
  unfold maxLen at hbm
  obtain ⟨n, hn⟩ : ∃ n, n = b.length := ⟨_, rfl⟩
  have HN := hide hn
  have HCs := hide hcs
  have HEl := hide hEl
  have HG := hide hg
  rw [← hn] at hbc hbr hn6 ⊢
  have hta := box_three RT
  obtain ⟨res, hres⟩ : ∃ x, x = tryE (L, H, F) b := ⟨_, rfl⟩
  rw [← hres]
  have HRes := hide hres
  have hVok := hide hB.1
  clear h hB hg hcs hEl hn hres
  go_enter_defers Tryz.func45, Tryz.ntmps45
  go_wp2_with fail
  clear hW
  refine (unhide HCp).mono ?_
  rintro e w1 ⟨r, rfl, o1, b1⟩
  obtain ⟨ra, rl, rq, rfl⟩ := o1.form
  obtain ⟨tb, htb⟩ : ∃ k, k = w1.heap.size := ⟨_, rfl⟩
  obtain ⟨W1, hW1⟩ : ∃ V, w1.alloc (.cells #[.slice ra rl rq, .int .i64 H, .int .i64 F] 119) = V := ⟨_, rfl⟩
  have b2 : Below w1.heap.size w1 W1 := by rw [← hW1]; exact (Below.refl _ _).alloc (Nat.le_refl _) _
  have z2 : W1.heap.size = tb + 1 := by rw [← hW1, htb]; simp
  have z1 := b1.size
  have C1 := hide (show W1.cell? ⟨tb, 0, none⟩ = some (.slice ra rl rq) ∧ W1.cell? ⟨tb, 1, none⟩ = some (.int .i64 H) ∧ W1.cell? ⟨tb, 2, none⟩ = some (.int .i64 F) ∧ W1.frozen? ⟨tb, 0, none⟩ = false ∧ W1.frozen? ⟨tb, 1, none⟩ = false from by
    rw [← hW1, htb]
    exact ⟨by simp [go_sem], by simp [go_sem], by simp [go_sem], by simp [go_sem], by simp [go_sem]⟩)
  have O1 := hide ((o1.below b2).wide (lo' := W.heap.size) (hi' := tb) (Nat.le_refl _) (by omega) (by omega))
  have d1 := b1.trans (b2.mono z1)
  have HStart := hide (show runT (L, H, F) (b.take 0) = ((L, H, F), 0) from rfl)
  have htW : W.heap.size ≤ tb := by omega
  rw [← htb] at z1
  clear o1 b1 b2 HCp
  go_wp2_with fail
  rw [← htb]
  clear hW1 htb
  go_loopw [15] (fun iv wr => ∃ (k : Nat) (R : List Row.E) (H' : Int) (ra : Option Addr) (rl rq lo hi : Nat), iv = .int .i64 (k : Int) ∧ k ≤ n ∧ Hid (runT (L, H, F) (b.take k) = ((R, H', F), 0)) ∧ Hid (wr.cell? ⟨tb, 0, none⟩ = some (.slice ra rl rq) ∧ wr.cell? ⟨tb, 1, none⟩ = some (.int .i64 H') ∧ wr.cell? ⟨tb, 2, none⟩ = some (.int .i64 F) ∧ wr.frozen? ⟨tb, 0, none⟩ = false ∧ wr.frozen? ⟨tb, 1, none⟩ = false) ∧ Hid (Row.Own lo hi wr (.slice ra rl rq) R) ∧ (hi ≤ tb ∨ tb + 1 ≤ lo) ∧ W.heap.size ≤ lo ∧ Below W.heap.size W wr ∧ tb < wr.heap.size) (fun i _ => n - (intOf i).toNat)
  case atStart => exact ⟨0, L, H, ra, rl, rq, W.heap.size, tb, rfl, Nat.zero_le _, HStart, C1, O1, .inl (Nat.le_refl _), Nat.le_refl _, d1, by omega⟩
  case round =>
    clear HStart C1 O1 d1 z2
    obtain ⟨k, R, H', ra, rl, rq, lo, hi, rfl, hk, HRun, HC, HOw, hlh, hlo, hbel, htr⟩ := hrel
    have hsz := hbel.size
    have hk0 : (0 : Int) ≤ (k : Int) := Int.natCast_nonneg _
    by_cases hlt : k < n
    · obtain ⟨bx, offx, rfl, hbx, hcells⟩ := hbr (by omega)
      have hkz : k < b.length := by rw [← unhide HN]; exact hlt
      have hk1 : (k : Int) < (n : Int) := by omega
      have hel := unhide HEl k hkz
      have f0 := flatOf_get Ent.clk cs k 0 (by rw [unhide HCs]; exact hkz) (by omega)
      have f1 := flatOf_get Ent.clk cs k 1 (by rw [unhide HCs]; exact hkz) (by omega)
      have f2 := flatOf_get Ent.clk cs k 2 (by rw [unhide HCs]; exact hkz) (by omega)
      have hge := unhide HG _ (Ent.at_mem b k hkz)
      have ecat := Ent.cat_get cs k (by rw [unhide HCs]; exact hkz)
      obtain ⟨⟨ls, A, V⟩, hE⟩ : ∃ x, x = Ent.at' b k := ⟨_, rfl⟩
      obtain ⟨⟨c0, c1, c2⟩, hC⟩ : ∃ c, c = Ent.cat cs k := ⟨_, rfl⟩
      rw [← hE, ← hC] at hel
      rw [← hE] at hge
      rw [← ecat, ← hC] at f0 f1 f2
      obtain ⟨hel1, hel2, hel3⟩ := hel
      simp only at hel1 hel2 hel3 hge
      subst hel2
      subst hel3
      obtain ⟨au, nu, qu, rfl⟩ : ∃ a n q, c0 = .slice a n q := by obtain ⟨-, a, q, e, -⟩ := id hel1; exact ⟨a, _, q, e⟩
      have x0 : wr.cell? ⟨bx, offx + k * 3, none⟩ = some (.slice au nu qu) := (hbel.cell (p := ⟨bx, _, none⟩) hbx).trans (hcells (k * 3) _ f0)
      have x1 : wr.cell? ⟨bx, offx + k * 3 + 1, none⟩ = some (.int .i64 A) := (hbel.cell (p := ⟨bx, _, none⟩) hbx).trans (hcells (k * 3 + 1) _ f1)
      have x2 : wr.cell? ⟨bx, offx + k * 3 + 2, none⟩ = some (.int .i64 V) := (hbel.cell (p := ⟨bx, _, none⟩) hbx).trans (hcells (k * 3 + 2) _ f2)
      have hTab : tabB (R, H', F) := by have := runT_tab (b.take k) (unhide HT); rw [unhide HRun] at this; exact this
      obtain ⟨wE, hwE⟩ : ∃ V', wr.alloc (.cells #[.slice au nu qu, .int .i64 A, .int .i64 V] 62) = V' := ⟨_, rfl⟩
      have bE : Below wr.heap.size wr wE := by rw [← hwE]; exact (Below.refl _ _).alloc (Nat.le_refl _) _
      have zE := bE.size
      have e0 : wE.cell? ⟨wr.heap.size, 0, none⟩ = some (.slice au nu qu) := by rw [← hwE]; simp [go_sem]
      have e1 : wE.cell? ⟨wr.heap.size, 1, none⟩ = some (.int .i64 A) := by rw [← hwE]; simp [go_sem]
      have e2 : wE.cell? ⟨wr.heap.size, 2, none⟩ = some (.int .i64 V) := by rw [← hwE]; simp [go_sem]
      have bEW := hbel.trans (bE.mono hsz)
      obtain ⟨t0, t1, t2, g0, g1⟩ := unhide HC
      have y0 := (bE.cell (p := ⟨tb, 0, none⟩) htr).trans t0
      have y1 := (bE.cell (p := ⟨tb, 1, none⟩) htr).trans t1
      have y2 := (bE.cell (p := ⟨tb, 2, none⟩) htr).trans t2
      have y3 := (bE.frozen (p := ⟨tb, 0, none⟩) htr).trans g0
      have y4 := (bE.frozen (p := ⟨tb, 1, none⟩) htr).trans g1
      have HWr := hide (write_any (w := wE) tb ra rl rq H' F A V (by omega) y0 y1 y2 y3 y4 ((unhide HOw).is.below bE) hTab (hel1.below bEW) hge.1 hge.2)
      have HNx := hide (runT_next hkz (unhide HRun))
      have HStop := hide (fun h2 => runT_stop hkz (unhide HRun) h2)
      rw [← hE] at HNx HStop
      clear f0 f1 f2 hel1 hge ecat hE hC hcells hTab t0 t1 t2 g0 g1 y0 y1 y2 y3 y4 HC
      go_wp2_with fail
      refine (unhide HWr).mono ?_
      rintro e w3 hw3
      rcases hw3 with ⟨k2, hk2, ho2, rfl, b3⟩ | ⟨R2, H2, r2, wm, ho2, rfl, b3, o3, on3, p0, p1, p2, p3, p4⟩
      · have hRR : (runT (L, H, F) b).2 = k2 := by
          have := unhide HStop (by rw [ho2]; exact hk2)
          rw [this, ho2]
        have hres : res = ((L, H, F), k2) := by rw [unhide HRes]; exact tryE_stop hRR hk2
        subst hres
        have b3W := bEW.trans (b3.mono bEW.size)
        have RO3 := own_below RO b3W
        obtain ⟨a0, a1, a2⟩ := box_three (own_below RT b3W)
        have hcW : w.heap.size + 1 + 1 < W.heap.size := by omega
        have kc3 := (b3W.cell (p := ⟨w.heap.size + 1 + 1, 0, none⟩) hcW).trans kc
        have kf3 := (b3W.frozen (p := ⟨w.heap.size + 1 + 1, 0, none⟩) hcW).trans kf
        have z3 := b3W.size
        have HCt := hide (catch_thrown (B := w.heap.size) w.heap.size (w.heap.size + 1) (w.heap.size + 1 + 1) k2 w3 H F av nv cv a0 a1 a2 (by omega) RO3 kc3 kf3 (by omega) (by omega) (by omega) (by omega) ((unhide HV).below b3W) (unhide hVok))
        have d3 := bW.trans (b3W.mono bW.size)
        clear HWr HNx HStop hRR HRun HOw RO3 a0 a1 a2 kc3 kf3
        go_wp2_with fail
        refine leaves_cons (f := 84) (args := #[.pointer (some ⟨w.heap.size, 0, none⟩), .pointer (some ⟨w.heap.size + 1, 0, none⟩), .pointer (some ⟨w.heap.size + 1 + 1, 0, none⟩)]) (by simp) (by simp [go_sem]) ?_
        refine (unhide HCt).mono ?_
        rintro e u' w' ⟨rfl, rfl, r, wm, wn, p1, p2, p3, p4, q0, q1, q2, q3⟩
        have hwm := p1.size
        have hs3 := p3.size
        have hs4 := p4.size
        have o4 := hide (((p2.zone (Zone.of_only p3 (Nat.le_refl _) (Nat.lt_succ_self _)) (.inr (by omega))).zone (Zone.of_only p4 (Nat.le_refl _) (Nat.lt_succ_self _)) (.inr (by omega))).wide (lo' := w.heap.size) (hi' := w'.heap.size) (by omega) (by omega) (Nat.le_refl _))
        have d4 := hide (((d3.trans (p1.mono d3.size)).trans (p3.below (show w.heap.size ≤ w.heap.size + 1 by omega))).trans (p4.below (show w.heap.size ≤ w.heap.size + 1 + 1 by omega)))
        simp [Leaves, settle, results, Tryz.results45, go_sem, q0, q1, q2, q3]
        exact ⟨unhide o4, unhide d4⟩
      · obtain ⟨ra2, rl2, rq2, rfl⟩ := o3.form
        have hwm := b3.size
        have hs3 := on3.size
        have HRun2 := hide (show runT (L, H, F) (b.take (k + 1)) = ((R2, H2, F), 0) by rw [unhide HNx, ho2])
        have HC2 := hide (And.intro p0 (And.intro p1 (And.intro p2 (And.intro p3 p4))))
        have HO2 := hide (o3.zone (Zone.of_only on3 (Nat.le_refl _) (Nat.lt_succ_self _)) (.inr (by omega)))
        have b3W := hide ((bEW.trans (b3.mono bEW.size)).trans (on3.below htW))
        clear HWr HNx HStop HRun HOw p0 p1 p2 p3 p4 o3 on3 b3 ho2
        go_wp2_with fail
        go_roundw
        case rel => exact ⟨k + 1, R2, H2, ra2, rl2, rq2, wE.heap.size, wm.heap.size, by go_num, by omega, HRun2, HC2, HO2, .inr (by omega), by omega, unhide b3W, by omega⟩
        case measure => first | (simp [intOf]; done) | (simp [intOf]; omega)
    · obtain rfl : k = n := by omega
      have hAll : runT (L, H, F) b = ((R, H', F), 0) := by have := unhide HRun; rwa [List.take_of_length_le (by have := unhide HN; omega)] at this
      have hres : res = ((R, H', F), 0) := by rw [unhide HRes]; exact tryE_fine hAll
      subst hres
      obtain ⟨t0, t1, t2, g0, g1⟩ := unhide HC
      have RO3 := own_below RO hbel
      have hcW : w.heap.size + 1 + 1 < W.heap.size := by omega
      have kc3 := (hbel.cell (p := ⟨w.heap.size + 1 + 1, 0, none⟩) hcW).trans kc
      have kf3 := (hbel.frozen (p := ⟨w.heap.size + 1 + 1, 0, none⟩) hcW).trans kf
      obtain ⟨⟨pca, pfa⟩, ⟨pcb, pfb⟩, ⟨pcc, pfc⟩, so9, on9⟩ := Tab.box_put (w := wr) (.slice ra rl rq) (.int .i64 H') (.int .i64 F) RO3
      obtain ⟨y9a, hy9a⟩ : ∃ V, wr.setCell ⟨w.heap.size + 1, 0, none⟩ (.slice ra rl rq) = V := ⟨_, rfl⟩
      rw [hy9a] at pcb pfb pcc pfc so9 on9
      obtain ⟨y9b, hy9b⟩ : ∃ V, y9a.setCell ⟨w.heap.size + 1, 1, none⟩ (.int .i64 H') = V := ⟨_, rfl⟩
      rw [hy9b] at pcc pfc so9 on9
      obtain ⟨y9, hy9⟩ : ∃ V, y9b.setCell ⟨w.heap.size + 1, 2, none⟩ (.int .i64 F) = V := ⟨_, rfl⟩
      rw [hy9] at so9 on9
      have kc9 := (World.cell?_of_block (a := ⟨w.heap.size + 1 + 1, 0, none⟩) (on9.block (w.heap.size + 1 + 1) (show w.heap.size + 1 + 1 ≠ w.heap.size + 1 by omega))).trans kc3
      have kf9 := (World.frozen?_of_block (a := ⟨w.heap.size + 1 + 1, 0, none⟩) (on9.block (w.heap.size + 1 + 1) (show w.heap.size + 1 + 1 ≠ w.heap.size + 1 by omega))).trans kf3
      obtain ⟨y8, hy8⟩ : ∃ V, y9.setCell ⟨w.heap.size + 1 + 1, 0, none⟩ (.int .i64 0) = V := ⟨_, rfl⟩
      have on8 := (OnlyAt.refl (w.heap.size + 1 + 1) y9).setCell 0 (.int .i64 0)
      rw [hy8] at on8
      have hk8 : y8.cell? ⟨w.heap.size + 1 + 1, 0, none⟩ = some (.int .i64 0) := by rw [← hy8]; simp [go_sem, kc9, kf9]
      have b3 := Tab.box_three so9
      have n0 := (World.cell?_of_block (a := ⟨w.heap.size + 1, 0, none⟩) (on8.block (w.heap.size + 1) (show w.heap.size + 1 ≠ w.heap.size + 1 + 1 by omega))).trans b3.1
      have n1 := (World.cell?_of_block (a := ⟨w.heap.size + 1, 1, none⟩) (on8.block (w.heap.size + 1) (show w.heap.size + 1 ≠ w.heap.size + 1 + 1 by omega))).trans b3.2.1
      have n2 := (World.cell?_of_block (a := ⟨w.heap.size + 1, 2, none⟩) (on8.block (w.heap.size + 1) (show w.heap.size + 1 ≠ w.heap.size + 1 + 1 by omega))).trans b3.2.2
      have hs3 := on9.size
      have hs4 := on8.size
      have hh4 := (unhide HOw).hi_le
      have o4 := hide ((((unhide HOw).zone (Zone.of_only on9 (Nat.le_refl _) (Nat.lt_succ_self _)) (.inr (by omega))).zone (Zone.of_only on8 (Nat.le_refl _) (Nat.lt_succ_self _)) (.inr (by omega))).wide (lo' := w.heap.size) (hi' := y8.heap.size) (by omega) (by omega) (Nat.le_refl _))
      have d4 := hide (((bW.trans (hbel.mono bW.size)).trans (on9.below (show w.heap.size ≤ w.heap.size + 1 by omega))).trans (on8.below (show w.heap.size ≤ w.heap.size + 1 + 1 by omega)))
      clear HRun HC HOw RO3 so9 on9 on8 b3 hAll
      go_wp2_with fail
      refine leaves_cons (f := 84) (args := #[.pointer (some ⟨w.heap.size, 0, none⟩), .pointer (some ⟨w.heap.size + 1, 0, none⟩), .pointer (some ⟨w.heap.size + 1 + 1, 0, none⟩)]) (by simp) (by simp [go_sem]) ?_
      refine (catch_idle _ _ _ _).mono ?_
      rintro e u' w' ⟨rfl, rfl, rfl⟩
      simp [Leaves, settle, results, Tryz.results45, go_sem, n0, n1, n2, hk8]
      exact ⟨unhide o4, unhide d4⟩
end Go.Proofs.YtlboekimnhgfdaaGreat.Tab
