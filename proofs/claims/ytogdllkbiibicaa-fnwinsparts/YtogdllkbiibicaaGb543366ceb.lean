/- My own texts of one claim, laid together by program: WinMath4, Nest. -/
import Derived.Test.YtogdllkbiibicaaG952b55b70d
import Derived.Test.YtogdllkbiibicaaG81f535c845
import Derived.ChangeArms
/- What the program's fold comes to is what the model's whiles are. -/
namespace Go.Proofs.Ytogdllkbiibicaa.WinM
open SampMath Samp
set_option linter.unusedVariables false
theorem wrap_le {n : Int} (h0 : 0 ≤ n) (h1 : n ≤ 9223372036854775807) : IntKind.i64.wrap n = n := by
  have hb : (2 : Int) ^ IntKind.i64.bits = 18446744073709551616 := by decide
  have hb' : (2 : Int) ^ (IntKind.i64.bits - 1) = 9223372036854775808 := by decide
  have hs : IntKind.i64.signed = true := rfl
  unfold IntKind.wrap
  simp only [hb, hb', hs, Bool.true_and, decide_eq_true_eq]
  split <;> omega
abbrev foldW : List W6 → List W6 := Win.fold alW tgW
theorem tg_upd {b : Int} {g : List S} (hv : ∀ i, i < g.length → 0 ≤ (at' g i).2 ∧ (at' g i).2 ≤ 2147483647) (hl : g.length ≤ 10000) {k : Nat} (hk : k < g.length) : tgW (winTo b g k) (winOf b (at' g k).2) = winTo b g (k + 1) := by
  have a := winTo_sum (b := b) hv k (by omega)
  have c := winTo_count b g k
  have d := hv k hk
  show (_, _, _, _, _, _) = (_, _, _, _, _, _)
  simp only [winOf, addW, Prod.mk.injEq]
  refine ⟨trivial, ?_, ?_, ?_, ?_, trivial⟩
  · rw [wrap_le (by omega) (by omega)]
  · rw [wrap_le (by omega) (by omega)]
  · rw [Int.min_def]; split <;> split <;> omega
  · rw [Int.max_def]; split <;> split <;> omega
theorem step_new {out : List W6} {b v : Int} (h : ∀ x ∈ out, x.1 < b) : Win.fstep alW tgW out (winOf b v) = out ++ [winOf b v] := by
  by_cases e : out = []
  · subst e; rfl
  · obtain ⟨M, y, rfl⟩ := Win.snoc_of out e
    have hy := h y (by simp)
    exact Win.fstep_new tgW M (decide_eq_false (by show ¬ y.1 = b; omega))
theorem group {out : List W6} {b : Int} {g : List S} (h : ∀ x ∈ out, x.1 < b) (hv : ∀ i, i < g.length → 0 ≤ (at' g i).2 ∧ (at' g i).2 ≤ 2147483647) (hl : g.length ≤ 10000) :
    ∀ k, k < g.length → ((g.take (k + 1)).map fun x => winOf b x.2).foldl (Win.fstep alW tgW) out = out ++ [winTo b g (k + 1)] := by
  intro k
  induction k with
  | zero =>
    intro h0
    rw [at_snoc g 0 h0]
    simp only [List.take_zero, List.nil_append, List.map_cons, List.map_nil, List.foldl_cons, List.foldl_nil]
    rw [step_new h, winTo_one]
  | succ k ih =>
    intro hk
    rw [at_snoc g (k + 1) hk, List.map_append, List.foldl_append, ih (by omega)]
    simp only [List.map_cons, List.map_nil, List.foldl_cons, List.foldl_nil]
    rw [Win.fstep_same tgW out (decide_eq_true (by rw [winTo_from]; rfl)), tg_upd hv hl hk]
theorem group_all {out : List W6} {b : Int} {g : List S} (h : ∀ x ∈ out, x.1 < b) (hv : ∀ i, i < g.length → 0 ≤ (at' g i).2 ∧ (at' g i).2 ≤ 2147483647) (hl : g.length ≤ 10000) :
    (g.map fun x => winOf b x.2).foldl (Win.fstep alW tgW) out = out ++ oneW b g := by
  unfold oneW
  by_cases e : g = []
  · subst e; simp
  · have h0 : 0 < g.length := List.length_pos_iff.2 e
    have := group h hv hl (g.length - 1) (by omega)
    rw [show g.length - 1 + 1 = g.length by omega, List.take_length] at this
    rw [this, if_neg e]
theorem cut_vals {zs : List S} (h : ok zs = true) (f t : Int) : (∀ i, i < (cutL zs f t).length → 0 ≤ (at' (cutL zs f t) i).2 ∧ (at' (cutL zs f t) i).2 ≤ 2147483647) ∧ (cutL zs f t).length ≤ 10000 := by
  have ho : ok (cutL zs f t) = true := ok_filter h _
  exact ⟨fun i hi => (ok_range ho hi).2.2, ok_len ho⟩
def each (f st : Int) (g : List S) : List W6 := g.map fun x => winOf (beg f st x.1) x.2
theorem fold_wins {zs : List S} (h : ok zs = true) {f t st : Int} (h0 : 0 < st) : ∀ j : Nat, (∀ i : Nat, i < j → f + i * st < t) → foldW (each f st (cutL zs f (if t < f + j * st then t else f + j * st))) = winsTo zs f t st j := by
  intro j
  induction j with
  | zero =>
    intro _
    have : cutL zs f (if t < f + (0 : Nat) * st then t else f + (0 : Nat) * st) = [] := by
      unfold cutL
      rw [List.filter_eq_nil_iff]
      intro x _
      simp only [inT, Bool.and_eq_true, decide_eq_true_eq, not_and]
      intro h1
      split <;> simp <;> omega
    rw [this]; rfl
  | succ j ih =>
    intro hj
    have hb := hj j (by omega)
    have e : f + ((j + 1 : Nat) : Int) * st = f + j * st + st := by rw [Int.natCast_add, Int.add_mul]; simp; omega
    have i1 := ih (fun i hi => hj i (by omega))
    rw [if_neg (show ¬ t < f + (j : Int) * st by omega)] at i1
    obtain ⟨b, eb⟩ : ∃ b, b = f + (j : Int) * st := ⟨_, rfl⟩
    have hfb : f ≤ b := by rw [eb]; have := Int.mul_nonneg (Int.natCast_nonneg j) (Int.le_of_lt h0); omega
    rw [e, winsTo, ← eb]
    rw [← eb] at i1 hb
    obtain ⟨m, em⟩ : ∃ m, m = (if t < b + st then t else b + st) := ⟨_, rfl⟩
    have hm : b ≤ m ∧ m ≤ b + st := by rw [em]; split <;> omega
    rw [← em, ← cut_parts h hfb hm.1]
    unfold each foldW Win.fold at i1 ⊢
    rw [List.map_append, List.foldl_append, i1]
    have hmap : (cutL zs b m).map (fun x => winOf (beg f st x.1) x.2) = (cutL zs b m).map (fun x => winOf b x.2) := by
      refine List.map_congr_left fun x hx => ?_
      unfold cutL at hx
      have := (List.mem_filter.1 hx).2
      simp only [inT, Bool.and_eq_true, decide_eq_true_eq] at this
      rw [beg_in (j := j) h0 eb this.1 (by omega)]
    rw [hmap]
    have hlast := winsTo_from zs (f := f) (t := t) h0 j
    rw [← eb] at hlast
    exact group_all hlast (cut_vals h b m).1 (cut_vals h b m).2
def wins (zs : List S) (f t st : Int) : List W6 := if ok zs = true ∧ timesB f t = true ∧ thinB st = true then foldW (each f st (cutL zs f t)) else []
theorem wins_all {zs : List S} {f t st : Int} (h : ok zs = true) (ht : timesB f t = true) (hs : thinB st = true) {j : Nat} (hj : ∀ i : Nat, i < j → f + i * st < t) (he : t ≤ f + j * st) : wins zs f t st = winsTo zs f t st j := by
  have h0 : 0 < st := by unfold thinB at hs; simp at hs; omega
  unfold wins
  have em : (if t < f + (j : Int) * st then t else f + (j : Int) * st) = t := by
    split
    · rfl
    · omega
  rw [if_pos ⟨h, ht, hs⟩, ← fold_wins h h0 j hj, em]
theorem wins_len (zs : List S) (f t st : Int) : (wins zs f t st).length ≤ 10000 := by
  unfold wins
  split
  · rename_i h
    have a := Win.fold_len alW tgW (each f st (cutL zs f t)) (each f st (cutL zs f t)).length (Nat.le_refl _)
    rw [List.take_length] at a
    have b := (cut_vals h.1 f t).2
    unfold each at a ⊢
    rw [List.length_map] at a
    exact Nat.le_trans a b
  · simp
end Go.Proofs.Ytogdllkbiibicaa.WinM

/- Slices whose elements hold slices: small things that serve every such type. No condition. -/
namespace Go.Proofs.Ytogdllkbiibicaa.Rw
open Go.RowKit Go.ChangeShapes Go.WideShapes
theorem choose_list {α β : Type} [Inhabited α] [Inhabited β] {P : α → β → Prop} : ∀ (cs : List α), (∀ c ∈ cs, ∃ x, P c x) → ∃ zs : List β, zs.length = cs.length ∧ ∀ i, i < cs.length → P (cs.getD i default) (zs.getD i default)
  | [], _ => ⟨[], rfl, fun i h => by cases h⟩
  | c :: cs, h => by
    obtain ⟨x, hx⟩ := h c (by simp)
    obtain ⟨zs, hl, hz⟩ := choose_list cs (fun d hd => h d (by simp [hd]))
    refine ⟨x :: zs, by simp [hl], fun i hi => ?_⟩
    cases i with
    | zero => simpa using hx
    | succ i =>
      have := hz i (by simpa using hi)
      simpa using this
/-- a slice that came in, by its one cell -/
theorem slice_cell {H : Type} {enc : TypeId × Value → H} {W : World} {t e : TypeId} {n : Nat} {c : Value} {y : DataW H × List MemPlace} (ht : Try.prog.underlying t = some (.slice e))
    (h : DataW.trod enc Try.prog W 0 (fun _ => true) true n t [c] = some y) : ∃ a l k, c = .slice a l k ∧ DataW.Trod enc Try.prog W 0 (fun _ => true) true t (.slice a l k) y.1 y.2 := by
  rcases Go.Deep.open_slice ht h with ⟨hcs, _⟩ | ⟨x, l, k, m, n', D, Pl, hcs, _⟩
  · simp only [List.cons.injEq, and_true] at hcs
    subst hcs
    exact ⟨none, 0, 0, rfl, n, h⟩
  · simp only [List.cons.injEq, and_true] at hcs
    subst hcs
    exact ⟨some x, l, k, rfl, n, h⟩
theorem Lies.form {w : World} {v : Value} {n size : Nat} {xs : List Value} (h : Lies w v n size xs) : ∃ a cap, v = .slice a n cap ∧ n ≤ cap ∧ cap ≤ maxLen := by
  obtain ⟨_, a, cap, h1, h2, h3, _⟩ := h
  exact ⟨a, cap, h1, h2, h3⟩
end Go.Proofs.Ytogdllkbiibicaa.Rw
