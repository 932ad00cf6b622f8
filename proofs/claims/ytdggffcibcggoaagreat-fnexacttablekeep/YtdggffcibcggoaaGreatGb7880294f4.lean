/- My own texts of one claim, laid together by program: TabCopy, DropMath, RowDrop. -/
import Derived.Test.YtdggffcibcggoaaGreatG3d3e9fa675
import Derived.Test.YtdggffcibcggoaaGreatGab173b34a6
/- A copy of a table whose rows are ok, by the program and by the model. -/
namespace Go.Proofs.YtdggffcibcggoaaGreat.Tab
open Go.RowKit Rw
set_option linter.unusedVariables false
attribute [local go_sem ↓] Go.wp_at_zero Go.wp_at_succ
set_option maxRecDepth 100000 in
set_option maxHeartbeats 4000000 in
theorem impl_copy {w : World} {v : Value} {zs : List Row.E} (H F : Int) (h : Row.Is w v zs) (hok : Row.ok zs = true) : Calls Tryz.prog 40 #[.agg #[v, .int .i64 H, .int .i64 F]] w fun e w' => ∃ r, e = .returned (.agg #[r, .int .i64 H, .int .i64 F]) ∧ Row.Own w.heap.size w'.heap.size w' r zs ∧ Below w.heap.size w w' := by
  have HC := hide (fun W (hb : Below w.heap.size w W) => Row.copy_any (h.below hb) hok)
  obtain ⟨av, nv, cv, ev⟩ : ∃ a n c, v = .slice a n c := by obtain ⟨cs, -, hL, -⟩ := h; obtain ⟨-, a, c, e, -⟩ := hL; exact ⟨a, _, c, e⟩
  clear h hok
  subst ev
  obtain ⟨W, hW⟩ : ∃ W, W = (w.alloc (.cells #[.slice av nv cv, .int .i64 H, .int .i64 F] 28)).alloc (.cells #[.slice none 0 0, .int .i64 0, .int .i64 0] 28) := ⟨_, rfl⟩
  have bW : Below w.heap.size w W := by rw [hW]; exact ((Below.refl _ _).alloc (Nat.le_refl _) _).alloc (by simp) _
  have zW : W.heap.size = w.heap.size + 1 + 1 := by rw [hW]; simp
  have S6 : (fun W : World => W.cell? ⟨w.heap.size, 0, none⟩ = some (.slice av nv cv) ∧ W.cell? ⟨w.heap.size, 1, none⟩ = some (.int .i64 H) ∧ W.cell? ⟨w.heap.size, 2, none⟩ = some (.int .i64 F)) W.drew := by rw [hW]; exact ⟨by simp [go_sem], by simp [go_sem], by simp [go_sem]⟩
  have y0 : W.drew.cell? ⟨w.heap.size + 1, 0, none⟩ = some (.slice none 0 0) := by rw [hW]; simp [go_sem]
  have y1 : W.drew.cell? ⟨w.heap.size + 1, 1, none⟩ = some (.int .i64 0) := by rw [hW]; simp [go_sem]
  have y2 : W.drew.cell? ⟨w.heap.size + 1, 2, none⟩ = some (.int .i64 0) := by rw [hW]; simp [go_sem]
  have f0 : ∀ o, W.drew.frozen? ⟨w.heap.size + 1, o, none⟩ = false := by intro o; rw [hW]; simp [go_sem]
  have HC6 := hide (unhide HC W.drew bW.drew)
  clear HC
  go_enter Tryz.func40, Tryz.ntmps40
  go_wp2_with fail
  rw [← hW]
  clear hW
  go_region_held3 (fun W => W.cell? ⟨w.heap.size, 0, none⟩ = some (.slice av nv cv) ∧ W.cell? ⟨w.heap.size, 1, none⟩ = some (.int .i64 H) ∧ W.cell? ⟨w.heap.size, 2, none⟩ = some (.int .i64 F)) (first | exact S6 | exact S7 | exact S8) ((go_at_call 78; refine (unhide HC6).mono ?_; rintro e w7 ⟨r, rfl, o7, b7⟩; obtain ⟨ra, rl, rq, rfl⟩ := Row.Own.form o7; have z7 := b7.size; simp only [World.size_drew] at z7; have x0 := (b7.cell (p := ⟨w.heap.size + 1, 0, none⟩) (by show w.heap.size + 1 < _; simp; omega)).trans y0; have x1 := (b7.cell (p := ⟨w.heap.size + 1, 1, none⟩) (by show w.heap.size + 1 < _; simp; omega)).trans y1; have x2 := (b7.cell (p := ⟨w.heap.size + 1, 2, none⟩) (by show w.heap.size + 1 < _; simp; omega)).trans y2; have g0 := (b7.frozen (p := ⟨w.heap.size + 1, 0, none⟩) (by show w.heap.size + 1 < _; simp; omega)).trans (f0 0); have g1 := (b7.frozen (p := ⟨w.heap.size + 1, 1, none⟩) (by show w.heap.size + 1 < _; simp; omega)).trans (f0 1); have g2 := (b7.frozen (p := ⟨w.heap.size + 1, 2, none⟩) (by show w.heap.size + 1 < _; simp; omega)).trans (f0 2); have S7 : (fun W : World => W.cell? ⟨w.heap.size, 0, none⟩ = some (.slice av nv cv) ∧ W.cell? ⟨w.heap.size, 1, none⟩ = some (.int .i64 H) ∧ W.cell? ⟨w.heap.size, 2, none⟩ = some (.int .i64 F)) w7 := ⟨(b7.cell (p := ⟨w.heap.size, 0, none⟩) (by show w.heap.size < _; simp; omega)).trans S6.1, (b7.cell (p := ⟨w.heap.size, 1, none⟩) (by show w.heap.size < _; simp; omega)).trans S6.2.1, (b7.cell (p := ⟨w.heap.size, 2, none⟩) (by show w.heap.size < _; simp; omega)).trans S6.2.2⟩; have on8 : OnlyAt (w.heap.size + 1) w7 (((w7.setCell ⟨w.heap.size + 1, 0, none⟩ (.slice ra rl rq)).setCell ⟨w.heap.size + 1, 1, none⟩ (.int .i64 H)).setCell ⟨w.heap.size + 1, 2, none⟩ (.int .i64 F)) := (((OnlyAt.refl _ _).setCell 0 _).setCell 1 _).setCell 2 _; have S8 : (fun W : World => W.cell? ⟨w.heap.size, 0, none⟩ = some (.slice av nv cv) ∧ W.cell? ⟨w.heap.size, 1, none⟩ = some (.int .i64 H) ∧ W.cell? ⟨w.heap.size, 2, none⟩ = some (.int .i64 F)) (((w7.setCell ⟨w.heap.size + 1, 0, none⟩ (.slice ra rl rq)).setCell ⟨w.heap.size + 1, 1, none⟩ (.int .i64 H)).setCell ⟨w.heap.size + 1, 2, none⟩ (.int .i64 F)) := ⟨(World.cell?_of_block (a := ⟨w.heap.size, 0, none⟩) (on8.block w.heap.size (show w.heap.size ≠ w.heap.size + 1 by omega))).trans S7.1, (World.cell?_of_block (a := ⟨w.heap.size, 1, none⟩) (on8.block w.heap.size (show w.heap.size ≠ w.heap.size + 1 by omega))).trans S7.2.1, (World.cell?_of_block (a := ⟨w.heap.size, 2, none⟩) (on8.block w.heap.size (show w.heap.size ≠ w.heap.size + 1 by omega))).trans S7.2.2⟩))
  have bn : Below w.heap.size w (((w7.setCell ⟨w.heap.size + 1, 0, none⟩ (.slice ra rl rq)).setCell ⟨w.heap.size + 1, 1, none⟩ (.int .i64 H)).setCell ⟨w.heap.size + 1, 2, none⟩ (.int .i64 F)) := (bW.drew.trans (b7.mono (by simp; omega))).trans (on8.below (by omega))
  have O8 := hide (o7.zone (Zone.of_only on8 (Nat.le_refl _) (Nat.lt_succ_self _)) (.inr (by simp; omega)))
  go_wp2_with fail
  refine bodyPost_ret (v := .agg #[.slice ra rl rq, .int .i64 H, .int .i64 F]) (by simp [results, Tryz.results40, go_sem, x0, x1, x2]) rfl ⟨.slice ra rl rq, rfl, (unhide O8).wide (by simp; omega) (by simp) (Nat.le_refl _), bn⟩
set_option maxRecDepth 100000 in
set_option maxHeartbeats 4000000 in
theorem spec_copy {w : World} {v : Value} {zs : List Row.E} (H F : Int) (h : Row.Is w v zs) (hok : Row.ok zs = true) : Calls Tryz.prog 36 #[.agg #[v, .int .i64 H, .int .i64 F]] w fun e w' => ∃ r, e = .returned (.agg #[r, .int .i64 H, .int .i64 F]) ∧ Row.Own w.heap.size w'.heap.size w' r zs ∧ Below w.heap.size w w' := by
  have HC := hide (fun W (hb : Below w.heap.size w W) => Row.l5copy (h.below hb) hok)
  obtain ⟨av, nv, cv, ev⟩ : ∃ a n c, v = .slice a n c := by obtain ⟨cs, -, hL, -⟩ := h; obtain ⟨-, a, c, e, -⟩ := hL; exact ⟨a, _, c, e⟩
  clear h hok
  subst ev
  obtain ⟨W, hW⟩ : ∃ W, W = (w.alloc (.cells #[.slice av nv cv, .int .i64 H, .int .i64 F] 28)).alloc (.cells #[.slice none 0 0, .int .i64 0, .int .i64 0] 28) := ⟨_, rfl⟩
  have bW : Below w.heap.size w W := by rw [hW]; exact ((Below.refl _ _).alloc (Nat.le_refl _) _).alloc (by simp) _
  have zW : W.heap.size = w.heap.size + 1 + 1 := by rw [hW]; simp
  have S6 : (fun W : World => W.cell? ⟨w.heap.size, 0, none⟩ = some (.slice av nv cv) ∧ W.cell? ⟨w.heap.size, 1, none⟩ = some (.int .i64 H) ∧ W.cell? ⟨w.heap.size, 2, none⟩ = some (.int .i64 F)) W.drew := by rw [hW]; exact ⟨by simp [go_sem], by simp [go_sem], by simp [go_sem]⟩
  have y0 : W.drew.cell? ⟨w.heap.size + 1, 0, none⟩ = some (.slice none 0 0) := by rw [hW]; simp [go_sem]
  have y1 : W.drew.cell? ⟨w.heap.size + 1, 1, none⟩ = some (.int .i64 0) := by rw [hW]; simp [go_sem]
  have y2 : W.drew.cell? ⟨w.heap.size + 1, 2, none⟩ = some (.int .i64 0) := by rw [hW]; simp [go_sem]
  have f0 : ∀ o, W.drew.frozen? ⟨w.heap.size + 1, o, none⟩ = false := by intro o; rw [hW]; simp [go_sem]
  have HC6 := hide (unhide HC W.drew bW.drew)
  clear HC
  go_enter Tryz.func36, Tryz.ntmps36
  go_wp2_with fail
  rw [← hW]
  clear hW
  go_region_held3 (fun W => W.cell? ⟨w.heap.size, 0, none⟩ = some (.slice av nv cv) ∧ W.cell? ⟨w.heap.size, 1, none⟩ = some (.int .i64 H) ∧ W.cell? ⟨w.heap.size, 2, none⟩ = some (.int .i64 F)) (first | exact S6 | exact S7 | exact S8) ((go_at_call 74; refine (unhide HC6).mono ?_; rintro e w7 ⟨r, rfl, o7, b7⟩; obtain ⟨ra, rl, rq, rfl⟩ := Row.Own.form o7; have z7 := b7.size; simp only [World.size_drew] at z7; have x0 := (b7.cell (p := ⟨w.heap.size + 1, 0, none⟩) (by show w.heap.size + 1 < _; simp; omega)).trans y0; have x1 := (b7.cell (p := ⟨w.heap.size + 1, 1, none⟩) (by show w.heap.size + 1 < _; simp; omega)).trans y1; have x2 := (b7.cell (p := ⟨w.heap.size + 1, 2, none⟩) (by show w.heap.size + 1 < _; simp; omega)).trans y2; have g0 := (b7.frozen (p := ⟨w.heap.size + 1, 0, none⟩) (by show w.heap.size + 1 < _; simp; omega)).trans (f0 0); have g1 := (b7.frozen (p := ⟨w.heap.size + 1, 1, none⟩) (by show w.heap.size + 1 < _; simp; omega)).trans (f0 1); have g2 := (b7.frozen (p := ⟨w.heap.size + 1, 2, none⟩) (by show w.heap.size + 1 < _; simp; omega)).trans (f0 2); have S7 : (fun W : World => W.cell? ⟨w.heap.size, 0, none⟩ = some (.slice av nv cv) ∧ W.cell? ⟨w.heap.size, 1, none⟩ = some (.int .i64 H) ∧ W.cell? ⟨w.heap.size, 2, none⟩ = some (.int .i64 F)) w7 := ⟨(b7.cell (p := ⟨w.heap.size, 0, none⟩) (by show w.heap.size < _; simp; omega)).trans S6.1, (b7.cell (p := ⟨w.heap.size, 1, none⟩) (by show w.heap.size < _; simp; omega)).trans S6.2.1, (b7.cell (p := ⟨w.heap.size, 2, none⟩) (by show w.heap.size < _; simp; omega)).trans S6.2.2⟩; have on8 : OnlyAt (w.heap.size + 1) w7 (((w7.setCell ⟨w.heap.size + 1, 0, none⟩ (.slice ra rl rq)).setCell ⟨w.heap.size + 1, 1, none⟩ (.int .i64 H)).setCell ⟨w.heap.size + 1, 2, none⟩ (.int .i64 F)) := (((OnlyAt.refl _ _).setCell 0 _).setCell 1 _).setCell 2 _; have S8 : (fun W : World => W.cell? ⟨w.heap.size, 0, none⟩ = some (.slice av nv cv) ∧ W.cell? ⟨w.heap.size, 1, none⟩ = some (.int .i64 H) ∧ W.cell? ⟨w.heap.size, 2, none⟩ = some (.int .i64 F)) (((w7.setCell ⟨w.heap.size + 1, 0, none⟩ (.slice ra rl rq)).setCell ⟨w.heap.size + 1, 1, none⟩ (.int .i64 H)).setCell ⟨w.heap.size + 1, 2, none⟩ (.int .i64 F)) := ⟨(World.cell?_of_block (a := ⟨w.heap.size, 0, none⟩) (on8.block w.heap.size (show w.heap.size ≠ w.heap.size + 1 by omega))).trans S7.1, (World.cell?_of_block (a := ⟨w.heap.size, 1, none⟩) (on8.block w.heap.size (show w.heap.size ≠ w.heap.size + 1 by omega))).trans S7.2.1, (World.cell?_of_block (a := ⟨w.heap.size, 2, none⟩) (on8.block w.heap.size (show w.heap.size ≠ w.heap.size + 1 by omega))).trans S7.2.2⟩))
  have bn : Below w.heap.size w (((w7.setCell ⟨w.heap.size + 1, 0, none⟩ (.slice ra rl rq)).setCell ⟨w.heap.size + 1, 1, none⟩ (.int .i64 H)).setCell ⟨w.heap.size + 1, 2, none⟩ (.int .i64 F)) := (bW.drew.trans (b7.mono (by simp; omega))).trans (on8.below (by omega))
  have O8 := hide (o7.zone (Zone.of_only on8 (Nat.le_refl _) (Nat.lt_succ_self _)) (.inr (by simp; omega)))
  go_wp2_with fail
  refine bodyPost_ret (v := .agg #[.slice ra rl rq, .int .i64 H, .int .i64 F]) (by simp [results, Tryz.results36, go_sem, x0, x1, x2]) rfl ⟨.slice ra rl rq, rfl, (unhide O8).wide (by simp; omega) (by simp) (Nat.le_refl _), bn⟩
end Go.Proofs.YtdggffcibcggoaaGreat.Tab

/- What is left of a row: the mathematics; samples put to a row whether it is there or not. -/
namespace Go.Proofs.YtdggffcibcggoaaGreat.Samp
open SampMath
set_option linter.unusedVariables false
theorem merge_cons_lt {x : S} {A B : List S} (h : ∀ y ∈ B, x.1 < y.1) : merge (x :: A) B = (merge A B).map (x :: ·) := by
  cases B with
  | nil => rw [merge_nil_right, merge_nil_right]; rfl
  | cons y B => rw [merge, if_pos (h y (List.mem_cons_self ..))]
theorem merge_lt_cons {x : S} {A B : List S} (h : ∀ y ∈ A, x.1 < y.1) : merge A (x :: B) = (merge A B).map (x :: ·) := by
  cases A with
  | nil => rw [merge_nil, merge_nil]; rfl
  | cons y A =>
    have := h y (List.mem_cons_self ..)
    rw [merge, if_neg (by omega), if_pos this]
/-- parts of samples, whatever they have in common, are together what either has -/
theorem merge_filter : ∀ (xs : List S) (p q : S → Bool), xs.Pairwise (fun a b => a.1 < b.1) → merge (xs.filter p) (xs.filter q) = some (xs.filter fun z => p z || q z)
  | [], p, q, _ => by simp [merge_nil]
  | x :: xs, p, q, h => by
    obtain ⟨h1, h2⟩ := List.pairwise_cons.1 h
    have ih := merge_filter xs p q h2
    have hp : ∀ y ∈ xs.filter p, x.1 < y.1 := fun y hy => h1 y (List.mem_filter.1 hy).1
    have hq : ∀ y ∈ xs.filter q, x.1 < y.1 := fun y hy => h1 y (List.mem_filter.1 hy).1
    cases ep : p x <;> cases eq : q x
    · rw [List.filter_cons_of_neg (by simp [ep]), List.filter_cons_of_neg (by simp [eq]), List.filter_cons_of_neg (by simp [ep, eq])]
      exact ih
    · rw [List.filter_cons_of_neg (by simp [ep]), List.filter_cons_of_pos eq, List.filter_cons_of_pos (by simp [eq]), merge_lt_cons hp, ih]
      rfl
    · rw [List.filter_cons_of_pos ep, List.filter_cons_of_neg (by simp [eq]), List.filter_cons_of_pos (by simp [ep]), merge_cons_lt hq, ih]
      rfl
    · rw [List.filter_cons_of_pos ep, List.filter_cons_of_pos eq, List.filter_cons_of_pos (by simp [ep]), merge, if_neg (by omega), if_neg (by omega), if_pos rfl, ih]
      rfl
/-- what is ahead of a time, or from another one on -/
def sides (xs : List S) (f t : Int) : List S := xs.filter fun z => inT 0 f z || inT t 10000 z
theorem join_cuts {xs : List S} (h : ok xs = true) (f t : Int) : join (cutL xs 0 f) (cutL xs t 10000) = (sides xs f t, true) :=
  join_some (ok_filter h _) (ok_filter h _) (merge_filter xs _ _ ((ok_iff xs).1 h).2)
theorem sides_apart {xs : List S} (h : ok xs = true) {f t : Int} (hft : f < t) : sides xs f t = cutL xs 0 f ++ cutL xs t 10000 := by
  have h1 := merge_filter xs (inT 0 f) (inT t 10000) ((ok_iff xs).1 h).2
  have h2 := merge_apart (cutL xs 0 f) (cutL xs t 10000) (fun x hx y hy => by
    have hx' := (List.mem_filter.1 hx).2
    have hy' := (List.mem_filter.1 hy).2
    unfold inT at hx' hy'
    simp only [Bool.and_eq_true, decide_eq_true_eq] at hx' hy'
    omega)
  unfold cutL at h2 ⊢
  rw [h1] at h2
  exact Option.some.inj h2
theorem sides_all {xs : List S} (h : ok xs = true) {f t : Int} (hft : t ≤ f) : sides xs f t = xs := by
  unfold sides
  rw [List.filter_eq_self]
  intro z hz
  have := ((ok_iff xs).1 h).1 z hz
  rw [inR_iff] at this
  unfold inT
  simp only [Bool.or_eq_true, Bool.and_eq_true, decide_eq_true_eq]
  omega
end Go.Proofs.YtdggffcibcggoaaGreat.Samp
namespace Go.Proofs.YtdggffcibcggoaaGreat.Row
open Go.RowKit Rw
def dropG (ms : List Mat.E) (f t : Int) (x : E) : List Sam.E := if Mat.mlet ms x.1 = true then Samp.sides x.2 f t else x.2
def drop (ms : List Mat.E) (f t : Int) (zs : List E) : List E := if ok zs = true ∧ Mat.ok ms = true then outL (dropG ms f t) zs else []
/-- rows, and behind them one, if it has samples -/
def st (L : List E) (ls : List Lab.E) (a : List Sam.E) : List E := if a = [] then L else L ++ [(ls, a)]
end Go.Proofs.YtdggffcibcggoaaGreat.Row
namespace Go.Proofs.YtdggffcibcggoaaGreat.RSet
open Go.RowKit Rw
/-- samples put to the last row, whether it is there or not -/
theorem put_st {lo B mb n m sc : Nat} {sa : Option Addr} {w : World} {L : List Row.E} {lv : Value} {ls : List Lab.E} {a D J : List Sam.E}
    (h : Built lo B mb n w (Row.st L ls a)) (hL : L.length ≤ 1000) (hn : n ≤ 1000) (hA : Row.Ahead L ls) (hl : Lab.Is w lv ls) (hlg : ∀ x ∈ ls, Lab.good x) (hlo : Lab.ok ls = true) (hs : Samp.Smp w (.slice sa m sc) D) (hm : D.length = m) (ha : SampMath.ok a = true) (hD : SampMath.ok D = true) (hJ : SampMath.join a D = (J, true)) (h1 : m ≤ 4194304) (h2 : a.length ≤ 4194304) (hlow : lo ≤ w.heap.size) :
    Calls Tryz.prog 80 #[.pointer (some ⟨B, 0, none⟩), lv, .slice sa m sc] w fun e w' => e = .returned (.bool true) ∧ (∃ n', n' ≤ n + 1 ∧ Built lo B mb n' w' (Row.st L ls J)) ∧ Two B mb w w' := by
  by_cases h0 : m = 0
  · subst h0
    obtain rfl : D = [] := List.eq_nil_of_length_eq_zero hm
    have : J = a := by
      have e : SampMath.join a [] = (a, true) := SampMath.join_some ha rfl (SampMath.merge_nil_right a)
      rw [e] at hJ
      exact (Prod.mk.inj hJ).1.symm
    subst this
    refine (put_none _ _ _ _).mono ?_
    rintro e w' ⟨rfl, rfl⟩
    exact ⟨rfl, ⟨n, by omega, h⟩, Two.refl _ _ _⟩
  · have hDn : D ≠ [] := fun e => h0 (by rw [← hm, e]; rfl)
    by_cases e : a = []
    · subst e
      have : J = D := by rw [join_first hD] at hJ; exact (Prod.mk.inj hJ).1.symm
      subst this
      have hst : Row.st L ls [] = L := if_pos rfl
      rw [hst] at h
      refine (built_new h hL hn hA hl hlg hlo hs hm hD (by omega) h1 hlow).mono ?_
      rintro e w' ⟨rfl, hb, ht⟩
      exact ⟨rfl, ⟨n + 1, by omega, by rw [show Row.st L ls J = L ++ [(ls, J)] from if_neg hDn]; exact hb⟩, ht⟩
    · have hst : Row.st L ls a = L ++ [(ls, a)] := if_neg e
      rw [hst] at h
      have hJn : J ≠ [] := by
        intro e2
        subst e2
        obtain ⟨x, a', rfl⟩ : ∃ x a', a = x :: a' := by cases a with | nil => exact absurd rfl e | cons x a' => exact ⟨x, a', rfl⟩
        obtain ⟨y, D', rfl⟩ : ∃ y D', D = y :: D' := by cases D with | nil => exact absurd rfl hDn | cons y D' => exact ⟨y, D', rfl⟩
        unfold SampMath.join at hJ
        rw [if_pos ⟨ha, hD⟩, SampMath.merge] at hJ
        split at hJ
        · rename_i L' he
          obtain rfl := (Prod.mk.inj hJ).1
          split at he
          · cases hh : SampMath.merge a' (y :: D') <;> rw [hh] at he <;> simp at he
          · split at he
            · cases hh : SampMath.merge (x :: a') D' <;> rw [hh] at he <;> simp at he
            · split at he
              · cases hh : SampMath.merge a' D' <;> rw [hh] at he <;> simp at he
              · cases he
        · simp at hJ
      refine (built_last h hn hA hl hlg hlo hs hm hJ (by omega) h1 h2 hlow).mono ?_
      rintro e w' ⟨rfl, hb, ht⟩
      exact ⟨rfl, ⟨n + 1, by omega, by rw [show Row.st L ls J = L ++ [(ls, J)] from if_neg hJn]; exact hb⟩, ht⟩
end Go.Proofs.YtdggffcibcggoaaGreat.RSet

/- RowsDrop of the program. -/
namespace Go.Proofs.YtdggffcibcggoaaGreat.Row
open Go.RowKit Rw
set_option linter.unusedVariables false
attribute [local go_sem ↓] Go.wp_at_zero Go.wp_at_succ
theorem drop_snoc (ms : List Mat.E) (f t : Int) (zs : List E) (k : Nat) (h : k < zs.length) : outL (dropG ms f t) (zs.take (k + 1)) = st (outL (dropG ms f t) (zs.take k)) (at' zs k).1 (dropG ms f t (at' zs k)) := by
  rw [outL_snoc _ zs k h]
  unfold st
  split
  · rw [List.append_nil]
  · rfl
set_option maxRecDepth 100000 in
set_option maxHeartbeats 8000000 in
theorem impl_drop {w : World} {v u : Value} {zs : List E} {ms : List Mat.E} (f t : Int) (h : Is w v zs) (hm : Mat.Is w u ms) (hg : ∀ x ∈ zs, good x) (hlen : zs.length ≤ maxLen) (hmg : ∀ x ∈ ms, Mat.good x) (hml : ms.length ≤ maxLen) :
    Calls Tryz.prog 41 #[v, u, .int .i64 f, .int .i64 t] w fun e w' => ∃ r, e = .returned r ∧ Own w.heap.size w'.heap.size w' r (drop ms f t zs) ∧ Below w.heap.size w w' := by
  have HO := hide (impl_ok h hg hlen)
  obtain ⟨au, nu, cu, eu⟩ : ∃ a n c, u = .slice a n c := by obtain ⟨-, a, c, e, -⟩ := hm; exact ⟨a, _, c, e⟩
  subst eu
  have HMk := hide (fun W (hb : Below w.heap.size w W) => Mat.impl_ok (hm.below hb) hmg hml)
  obtain ⟨av, nv, cv, ev⟩ : ∃ a n c, v = .slice a n c := by obtain ⟨cs, -, hL, -⟩ := h; obtain ⟨-, a, c, e, -⟩ := hL; exact ⟨a, _, c, e⟩
  cases hok : ok zs
  · have HR := hide (show drop ms f t zs = [] by unfold drop; rw [hok]; simp)
    rw [hok] at HO
    clear h hm hg hmg hok
    subst ev
    go_enter Tryz.func41, Tryz.ntmps41
    go_wp2_with fail
    refine (unhide HO).mono ?_
    rintro e w1 ⟨rfl, b1⟩
    go_wp2_with fail
    go_ret
    exact ⟨_, rfl, by rw [unhide HR]; have := own_nil w.heap.size w1; exact this, b1⟩
  cases hmo : Mat.ok ms
  · have HR := hide (show drop ms f t zs = [] by unfold drop; rw [hmo]; simp)
    rw [hok] at HO
    rw [hmo] at HMk
    clear h hm hg hmg hok hmo
    subst ev
    go_enter Tryz.func41, Tryz.ntmps41
    go_wp2_with fail
    refine (unhide HO).mono ?_
    rintro e w1 ⟨rfl, b1⟩
    go_wp2_with fail
    refine (unhide HMk w1 b1).mono ?_
    rintro e w2 ⟨rfl, b2⟩
    have b12 := b1.trans (b2.mono b1.size)
    go_wp2_with fail
    go_ret
    exact ⟨_, rfl, by rw [unhide HR]; have := own_nil w.heap.size w2; exact this, b12⟩
  clear ev av nv cv
  have HR := hide (show drop ms f t zs = outL (dropG ms f t) zs by unfold drop; rw [if_pos ⟨hok, hmo⟩])
  rw [hok] at HO
  rw [hmo] at HMk
  have HOK := hide hok
  have hn10 := ok_len hok
  have HLet := hide (fun W (hb : Below w.heap.size w W) (lv : Value) (ls : List Lab.E) (hl : Lab.Is W lv ls) (hlg : ∀ x ∈ ls, Lab.good x) => Mat.impl_let (hm.below hb) hl hmg hlg hml)
  obtain ⟨cs, hcs, hL, hE⟩ := h
  have HE := hide hE
  have HG := hide hg
  obtain ⟨-, a, cap, rfl, hc, hmx, -, hr⟩ := hL
  unfold maxLen at hmx
  obtain ⟨l, hl⟩ : ∃ l, l = zs.length := ⟨_, rfl⟩
  rw [← hl] at hc hr hcs hn10 HO ⊢
  have HN := hide hl
  have HC := hide hcs
  clear hl hE hcs hg hm hmg hok hlen hml hmo
  go_enter Tryz.func41, Tryz.ntmps41
  go_wp2_with fail
  refine (unhide HO).mono ?_
  rintro e w0 ⟨rfl, b0⟩
  go_wp2_with fail
  refine (unhide HMk w0 b0).mono ?_
  rintro e w1 ⟨rfl, b1'⟩
  have b1 := b0.trans (b1'.mono b0.size)
  clear b1' b0
  go_wp2_with fail
  refine (RSet.new_any w1).mono ?_
  rintro e w2 ⟨mb, rfl, hmb, hM2, b2⟩
  have z1 := b1.size
  have z2 := b2.size
  go_wp2_with fail
  obtain ⟨wa, hwa⟩ : ∃ wa, wa = w2.alloc (.cells #[.slice none 0 0, .map (some mb)] 94) := ⟨_, rfl⟩
  rw [← hwa]
  have ba : Below w2.heap.size w2 wa := by rw [hwa]; exact (Below.refl _ _).alloc (Nat.le_refl _) _
  have za : wa.heap.size = w2.heap.size + 1 := by rw [hwa]; simp
  have bwa : Below w.heap.size w wa := (b1.trans (b2.mono z1)).trans (ba.mono (by omega))
  have hmlt := hM2.lt
  have hB0 : RSet.Built w.heap.size w2.heap.size mb 0 wa (outL (dropG ms f t) (zs.take 0)) := ⟨fun _ => none, fun _ => ([], []), ⟨by omega, by omega, by omega, by omega, ⟨.slice none 0 0, by rw [hwa]; simp [go_sem], World.ownsRow_nil _ _ _ _, fun k hk => by cases hk⟩, by rw [hwa]; simp [go_sem], by rw [hwa]; simp [go_sem], hM2.below ba, fun k => by simp [outL], fun k c hc => (by cases hc), fun k k' c c' _ hc => (by cases hc)⟩, by simp [outL]⟩
  have HB0 := hide hB0
  have hmlt' : mb < wa.heap.size := by omega
  have hlows : w.heap.size ≤ w2.heap.size := by omega
  have hlowm : w.heap.size ≤ mb := by omega
  generalize hBB : w2.heap.size = B at *
  have hBl : B < wa.heap.size := by omega
  have HBm := hide (show B ≠ mb by omega)
  clear hwa hB0 ba hM2 hBB b1 b2 HO HMk
  go_loopw [23] (fun i wr => ∃ (k n : Nat), k ≤ l ∧ i = .int .i64 k ∧ n ≤ 2 * k ∧ Hid (RSet.Built w.heap.size B mb n wr (outL (dropG ms f t) (zs.take k))) ∧ RSet.Two B mb wa wr) (fun i _ => l - (intOf i).toNat)
  case atStart => exact ⟨0, 0, Nat.zero_le _, rfl, Nat.le_refl _, HB0, RSet.Two.refl _ _ _⟩
  case round =>
    obtain ⟨k, n, hk, rfl, hnk, HB, h2⟩ := hrel
    have hsz := h2.size
    have hbel : Below w.heap.size w wr := bwa.trans (h2.below hlows hlowm (by omega))
    by_cases hlt : k < l
    · obtain ⟨b, off, rfl, hbl, hcells⟩ := hr (by omega)
      have fa := flat_at cs k (by have := unhide HC; omega)
      have hc0 : wr.cell? ⟨b, off + k * 2, none⟩ = some (cat cs k).1 := (hbel.cell (p := ⟨b, _, none⟩) hbl).trans (hcells (k * 2) _ fa.1)
      have hc1 : wr.cell? ⟨b, off + k * 2 + 1, none⟩ = some (cat cs k).2 := (hbel.cell (p := ⟨b, _, none⟩) hbl).trans (hcells (k * 2 + 1) _ fa.2)
      have hkz : k < zs.length := by have := unhide HN; omega
      have hEk := unhide HE k hkz
      have hgk := unhide HG (at' zs k) (at_mem zs k hkz)
      have hst := step_is (ok_at (unhide HOK) hkz)
      have hsn := drop_snoc ms f t zs k hkz
      have hah := outL_ahead (g := dropG ms f t) (unhide HOK) hkz
      have hol := outL_len (dropG ms f t) (zs.take k)
      rw [List.length_take] at hol
      obtain ⟨⟨ls, xs⟩, hX⟩ : ∃ x, x = at' zs k := ⟨_, rfl⟩
      rw [← hX] at hEk hgk hst hsn hah
      simp only at hst hah hsn
      obtain ⟨c0, c1, hY⟩ : ∃ c0 c1, (c0, c1) = cat cs k := ⟨_, _, rfl⟩
      rw [← hY] at hc0 hc1 hEk
      have hE1 : Lab.Is w c0 ls := hEk.1
      have hE2 : Sam.Is w c1 xs := hEk.2
      obtain ⟨-, a0, q0, e0, -⟩ := hE1
      obtain ⟨-, a1, q1, e1, -⟩ := hE2
      have hE1 : Lab.Is w c0 ls := hEk.1
      have hE2 : Sam.Is w c1 xs := hEk.2
      clear fa hEk hX hY
      have hxne : xs ≠ [] := fun e => by rw [e] at hst; simp at hst
      have hk0 : (0 : Int) ≤ (k : Int) := Int.natCast_nonneg _
      have hk1 : (k : Int) < (l : Int) := by omega
      have hWf : ∀ o, Below wr.heap.size wr (wr.alloc o) := fun o => (Below.refl _ _).alloc (Nat.le_refl _) _
      have hob : wr.heap.size ≠ B ∧ wr.heap.size ≠ mb := ⟨by omega, by omega⟩
      have HL := hide (fun W (hb : Below w.heap.size w W) => unhide HLet W hb c0 ls (hE1.below hb) hgk.1.2)
      have HPut := hide (fun (W : World) (n' m sc : Nat) (sa : Option Addr) (a D J : List Sam.E) (hn' : n' ≤ 1000) (hb : Below w.heap.size w W) (hB : RSet.Built w.heap.size B mb n' W (st (outL (dropG ms f t) (zs.take k)) ls a)) (hs : Samp.Smp W (.slice sa m sc) D) (hm : D.length = m) (ha : SampMath.ok a = true) (hD : SampMath.ok D = true) (hJ : SampMath.join a D = (J, true)) (h1 : m ≤ 4194304) (h2 : a.length ≤ 4194304) => RSet.put_st hB (by omega) hn' hah (hE1.below hb) hgk.1.2 hst.1 hs hm ha hD hJ h1 h2 hb.size)
      have HB0 := hide (show RSet.Built w.heap.size B mb n wr (st (outL (dropG ms f t) (zs.take k)) ls []) by rw [show st (outL (dropG ms f t) (zs.take k)) ls [] = outL (dropG ms f t) (zs.take k) from if_pos rfl]; exact unhide HB)
      have hxok := hst.2.2.2
      have hx1000 := hst.2.2.1
      cases hlet : Mat.mlet ms ls
      · have hg0 : dropG ms f t (ls, xs) = xs := by unfold dropG; rw [hlet]; rfl
        rw [hg0] at hsn
        rw [hlet] at HL
        have HSn := hide hsn
        have HP2 := hide (fun (W : World) (hb : Below wr.heap.size wr W) => unhide HPut W n xs.length q1 a1 [] xs xs (by omega) (hbel.trans (hb.mono (by omega))) ((unhide HB0).below hb) (by rw [← e1]; exact smp_of_lies (hE2.below (hbel.trans (hb.mono (by omega)))) hxne) rfl rfl hxok (RSet.join_first hxok) (by omega) (by simp))
        clear hlet hgk hst hsn hah hg0 hE1 hE2 HPut HB HB0 hxok hxne
        subst e0 e1
        go_wp2_with fail
        obtain ⟨W, hW⟩ : ∃ W, W = wr.alloc (.cells #[.slice a0 ls.length q0, .slice a1 xs.length q1] 88) := ⟨_, rfl⟩
        rw [← hW]
        have bW : Below wr.heap.size wr W := by rw [hW]; exact hWf _
        have zW : W.heap.size = wr.heap.size + 1 := by rw [hW]; simp
        have y0 : W.cell? ⟨wr.heap.size, 0, none⟩ = some (.slice a0 ls.length q0) := by rw [hW]; simp [go_sem]
        have y1 : W.cell? ⟨wr.heap.size, 1, none⟩ = some (.slice a1 xs.length q1) := by rw [hW]; simp [go_sem]
        clear hW
        refine (unhide HL W (hbel.trans (bW.mono (by omega)))).mono ?_
        rintro e w3 ⟨rfl, b3⟩
        have z3 := b3.size
        have b4 := bW.trans (b3.mono bW.size)
        have y0' := (b3.cell (p := ⟨wr.heap.size, 0, none⟩) (by show wr.heap.size < _; omega)).trans y0
        have y1' := (b3.cell (p := ⟨wr.heap.size, 1, none⟩) (by show wr.heap.size < _; omega)).trans y1
        have HP3 := hide (unhide HP2 w3 b4)
        clear HL HP2 y0 y1
        go_wp2_with fail
        refine (unhide HP3).mono ?_
        rintro e w4 ⟨rfl, ⟨n', hn', hB4⟩, t4⟩
        have t5 := (h2.trans (RSet.Two.of_below b4)).trans t4
        have HB4 := hide (show RSet.Built w.heap.size B mb n' w4 (outL (dropG ms f t) (zs.take (k + 1))) by rw [unhide HSn]; exact hB4)
        clear HP3 hB4 t4 y0' y1'
        go_wp2_with fail
        go_roundw
        case rel => exact ⟨k + 1, n', by omega, by go_num, by omega, HB4, t5⟩
        case measure => simp [intOf]; omega
      · have hgG : dropG ms f t (ls, xs) = Samp.sides xs f t := by unfold dropG; rw [hlet]; rfl
        rw [hgG] at hsn
        rw [hlet] at HL
        have HSn := hide hsn
        have HCut := hide (fun (F T : Int) W (hb : Below w.heap.size w W) => show Calls Tryz.prog 81 #[c1, .int .i64 F, .int .i64 T] W fun e w' => ∃ v, e = .returned v ∧ w'.ownsRow W.heap.size 133 2 v (Samp.cutL xs F T).length (Samp.flat (Samp.cutL xs F T)) ∧ Below W.heap.size W w' by
          have := Samp.impl_cut F T (smp_of_lies (hE2.below hb) hxne) (by omega)
          rwa [show Samp.cut xs F T = Samp.cutL xs F T by unfold Samp.cut; rw [hxok]; rfl] at this)
        obtain ⟨D1, hD1⟩ : ∃ D, D = Samp.cutL xs 0 f := ⟨_, rfl⟩
        obtain ⟨D2, hD2⟩ : ∃ D, D = Samp.cutL xs t 10000 := ⟨_, rfl⟩
        obtain ⟨J, hJ⟩ : ∃ J, J = Samp.sides xs f t := ⟨_, rfl⟩
        have HJ := hide (show SampMath.join D1 D2 = (J, true) by rw [hD1, hD2, hJ]; exact Samp.join_cuts hxok f t)
        have HDk := hide (show (SampMath.ok D1 = true ∧ D1.length ≤ 1000) ∧ (SampMath.ok D2 = true ∧ D2.length ≤ 1000) by rw [hD1, hD2]; exact ⟨⟨Samp.ok_filter hxok _, Nat.le_trans (List.length_filter_le _ _) hx1000⟩, ⟨Samp.ok_filter hxok _, Nat.le_trans (List.length_filter_le _ _) hx1000⟩⟩)
        have HC1 := hide (fun W hb => unhide HCut 0 f W hb)
        have HC2 := hide (fun W hb => unhide HCut t 10000 W hb)
        rw [← hD1] at HC1
        rw [← hD2] at HC2
        rw [← hJ] at HSn
        clear hlet hgk hst hsn hah hgG hE1 hE2 HCut HB hD1 hD2 hJ hxok hxne hol
        obtain ⟨m1, hm1⟩ : ∃ m, m = D1.length := ⟨_, rfl⟩
        rw [← hm1] at HC1
        have HM1 := hide hm1
        obtain ⟨m2, hm2⟩ : ∃ m, m = D2.length := ⟨_, rfl⟩
        rw [← hm2] at HC2
        have HM2 := hide hm2
        clear hm1 hm2
        subst e0 e1
        go_wp2_with fail
        obtain ⟨W, hW⟩ : ∃ W, W = wr.alloc (.cells #[.slice a0 ls.length q0, .slice a1 xs.length q1] 88) := ⟨_, rfl⟩
        rw [← hW]
        have bW : Below wr.heap.size wr W := by rw [hW]; exact hWf _
        have zW : W.heap.size = wr.heap.size + 1 := by rw [hW]; simp
        have y0 : W.cell? ⟨wr.heap.size, 0, none⟩ = some (.slice a0 ls.length q0) := by rw [hW]; simp [go_sem]
        have y1 : W.cell? ⟨wr.heap.size, 1, none⟩ = some (.slice a1 xs.length q1) := by rw [hW]; simp [go_sem]
        clear hW
        refine (unhide HL W (hbel.trans (bW.mono (by omega)))).mono ?_
        rintro e w3 ⟨rfl, b3⟩
        have z3 := b3.size
        have b4 := bW.trans (b3.mono bW.size)
        have b5 : Below wr.heap.size wr w3.drew := b4.drew
        have S6 : (fun W : World => W.cell? ⟨wr.heap.size, 0, none⟩ = some (.slice a0 ls.length q0) ∧ W.cell? ⟨wr.heap.size, 1, none⟩ = some (.slice a1 xs.length q1)) w3.drew := ⟨by simpa using (b3.cell (p := ⟨wr.heap.size, 0, none⟩) (by show wr.heap.size < _; omega)).trans y0, by simpa using (b3.cell (p := ⟨wr.heap.size, 1, none⟩) (by show wr.heap.size < _; omega)).trans y1⟩
        have HC6 := hide (unhide HC1 w3.drew (hbel.trans (b5.mono (by omega))))
        clear HL HC1 y0 y1 b3 bW
        go_wp2_with fail
        go_region_held3 (fun W => W.cell? ⟨wr.heap.size, 0, none⟩ = some (.slice a0 ls.length q0) ∧ W.cell? ⟨wr.heap.size, 1, none⟩ = some (.slice a1 xs.length q1)) (first | exact S6 | exact S7 | exact S8) ((first | (go_at_call 81; refine (unhide HC6).mono ?_; rintro e w7 ⟨cv, rfl, oc, b7⟩; obtain ⟨ca, cq, rfl⟩ : ∃ a q, cv = .slice a m1 q := (by obtain ⟨-, a, q, e, -⟩ := lies_of_own oc; exact ⟨a, q, e⟩); have z7 := b7.size; simp only [World.size_drew] at z7; have S7 : (fun W : World => W.cell? ⟨wr.heap.size, 0, none⟩ = some (.slice a0 ls.length q0) ∧ W.cell? ⟨wr.heap.size, 1, none⟩ = some (.slice a1 xs.length q1)) w7 := ⟨(b7.cell (p := ⟨_, _, none⟩) (by show wr.heap.size < _; simp; omega)).trans S6.1, (b7.cell (p := ⟨_, _, none⟩) (by show wr.heap.size < _; simp; omega)).trans S6.2⟩) | (go_at_call 80; refine (unhide HPut w7 n m1 cq ca [] D1 D1 (by omega) (hbel.trans ((b5.trans (b7.mono b5.size)).mono (by omega))) ((unhide HB0).below (b5.trans (b7.mono b5.size))) (Samp.smp_of_own (by rw [← unhide HM1]; exact oc)) (unhide HM1).symm rfl (unhide HDk).1.1 (RSet.join_first (unhide HDk).1.1) (by have := (unhide HDk).1.2; have := unhide HM1; omega) (by simp)).mono ?_; rintro e w8 ⟨rfl, ⟨n8, hn8, hB8⟩, t8⟩; have S8 : (fun W : World => W.cell? ⟨wr.heap.size, 0, none⟩ = some (.slice a0 ls.length q0) ∧ W.cell? ⟨wr.heap.size, 1, none⟩ = some (.slice a1 xs.length q1)) w8 := ⟨(t8.cell (by omega) hob.1 hob.2).trans S7.1, (t8.cell (by omega) hob.1 hob.2).trans S7.2⟩)))
        have b8 := b5.trans (b7.mono b5.size)
        have t9 : RSet.Two B mb wr w8 := (RSet.Two.of_below b8).trans t8
        have z8 := t9.size
        have hb8 : Below w.heap.size w w8 := hbel.trans (t9.below hlows hlowm (by omega))
        have HB8 := hide hB8
        have T8 : (fun W : World => W.cell? ⟨wr.heap.size, 0, none⟩ = some (.slice a0 ls.length q0) ∧ W.cell? ⟨wr.heap.size, 1, none⟩ = some (.slice a1 xs.length q1)) w8.drew := ⟨by simpa using S8.1, by simpa using S8.2⟩
        have hb9 := hb8.drew
        have HC7 := hide (unhide HC2 w8.drew hb9)
        have z88 : wr.heap.size < w8.heap.size := by have := t8.size; omega
        clear S6 S7 S8 HC6 oc b7 t8 hB8 HB0 HC2 b5 b4
        go_wp2_with fail
        go_region_held3 (fun W => W.cell? ⟨wr.heap.size, 0, none⟩ = some (.slice a0 ls.length q0) ∧ W.cell? ⟨wr.heap.size, 1, none⟩ = some (.slice a1 xs.length q1)) (first | exact T8 | exact T9 | exact T10) ((first | (go_at_call 81; refine (unhide HC7).mono ?_; rintro e w9 ⟨cv, rfl, oc, b9⟩; obtain ⟨ca, cq, rfl⟩ : ∃ a q, cv = .slice a m2 q := (by obtain ⟨-, a, q, e, -⟩ := lies_of_own oc; exact ⟨a, q, e⟩); have z9 := b9.size; simp only [World.size_drew] at z9; have T9 : (fun W : World => W.cell? ⟨wr.heap.size, 0, none⟩ = some (.slice a0 ls.length q0) ∧ W.cell? ⟨wr.heap.size, 1, none⟩ = some (.slice a1 xs.length q1)) w9 := ⟨(b9.cell (p := ⟨_, _, none⟩) (by show wr.heap.size < _; simp; omega)).trans T8.1, (b9.cell (p := ⟨_, _, none⟩) (by show wr.heap.size < _; simp; omega)).trans T8.2⟩) | (go_at_call 80; refine (unhide HPut w9 n8 m2 cq ca D1 D2 J (by omega) (hb9.trans (b9.mono (by simp; omega))) (((unhide HB8).below (Below.refl _ _).drew).below b9) (Samp.smp_of_own (by rw [← unhide HM2]; exact oc)) (unhide HM2).symm (unhide HDk).1.1 (unhide HDk).2.1 (unhide HJ) (by have := (unhide HDk).2.2; have := unhide HM2; omega) (by have := (unhide HDk).1.2; omega)).mono ?_; rintro e w10 ⟨rfl, ⟨n10, hn10', hB10⟩, t10⟩; have T10 : (fun W : World => W.cell? ⟨wr.heap.size, 0, none⟩ = some (.slice a0 ls.length q0) ∧ W.cell? ⟨wr.heap.size, 1, none⟩ = some (.slice a1 xs.length q1)) w10 := ⟨(t10.cell (by omega) hob.1 hob.2).trans T9.1, (t10.cell (by omega) hob.1 hob.2).trans T9.2⟩)))
        have t11 := (((h2.trans t9).trans (RSet.Two.of_below (Below.refl _ _).drew)).trans (RSet.Two.of_below b9)).trans t10
        have HB10 := hide (show RSet.Built w.heap.size B mb n10 w10 (outL (dropG ms f t) (zs.take (k + 1))) by rw [unhide HSn]; exact hB10)
        clear T8 T9 T10 HC7 oc b9 t10 hB10 HB8 HPut HDk HJ t9
        go_wp2_with fail
        go_roundw
        case rel => exact ⟨k + 1, n10, by omega, by go_num, by omega, HB10, t11⟩
        case measure => simp [intOf]; omega
    · obtain rfl : k = l := by omega
      have hkz : k = zs.length := unhide HN
      have HRw := hide (RSet.built_rows (unhide HB) (outL_sorted (unhide HOK) k (by omega)) (by have := outL_len (dropG ms f t) (zs.take k); rw [List.length_take] at this; omega) (outL_ok (unhide HOK) (by omega)) (by omega))
      have HT := hide (show outL (dropG ms f t) (zs.take k) = drop ms f t zs by rw [unhide HR, List.take_of_length_le (by omega)])
      rw [unhide HT] at HRw
      clear hkz HB
      go_wp2_with fail
      refine (unhide HRw).mono ?_
      rintro e w9 ⟨r, rfl, ho, b9⟩
      have hb9 := hbel.trans (b9.mono (by omega))
      have HO9 := hide ho
      clear ho b9 HRw
      go_wp2_with fail
      go_ret
      exact ⟨r, rfl, unhide HO9, hb9⟩
end Go.Proofs.YtdggffcibcggoaaGreat.Row
