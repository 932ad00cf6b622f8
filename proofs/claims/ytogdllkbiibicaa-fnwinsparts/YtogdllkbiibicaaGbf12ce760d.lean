/- My own texts of one claim, laid together by program: WinMath6, GReg. -/
import Derived.Test.YtogdllkbiibicaaG155000df8a
import Derived.Test.YtogdllkbiibicaaG14d68e4ffa
import Derived.Deep.RegionHeld3
/- Whiles joined, as plain mathematics: in parts or at once, and while by while or at once. No condition. -/
namespace Go.Proofs.Ytogdllkbiibicaa.WinM
open SampMath Samp
set_option linter.unusedVariables false
def tgP (x y : W6) : W6 := (x.1, x.2.1 + y.2.1, x.2.2.1 + y.2.2.1, min x.2.2.2.1 y.2.2.2.1, max x.2.2.2.2.1 y.2.2.2.2.1, y.2.2.2.2.2)
def jl : List W6 → W6
  | [] => (0, 0, 0, 0, 0, 0)
  | x :: L => L.foldl tgP x
theorem tgP_assoc (x y z : W6) : tgP (tgP x y) z = tgP x (tgP y z) := by
  unfold tgP
  simp only [Prod.mk.injEq]
  refine ⟨trivial, ?_, ?_, ?_, ?_, trivial⟩ <;> omega
theorem foldl_tg (a y : W6) (M : List W6) : M.foldl tgP (tgP a y) = tgP a (M.foldl tgP y) := by
  induction M generalizing y with
  | nil => rfl
  | cons z M ih => simp only [List.foldl_cons]; rw [tgP_assoc, ih]
theorem jl_app {A B : List W6} (hA : A ≠ []) (hB : B ≠ []) : jl (A ++ B) = tgP (jl A) (jl B) := by
  rcases A with _ | ⟨x, A⟩
  · exact absurd rfl hA
  rcases B with _ | ⟨y, B⟩
  · exact absurd rfl hB
  show (A ++ y :: B).foldl tgP x = tgP (A.foldl tgP x) (B.foldl tgP y)
  rw [List.foldl_append, List.foldl_cons, foldl_tg]
theorem jl_one (x : W6) : jl [x] = x := rfl
def okB (x : W6) : Bool := (decide (0 ≤ x.1) && decide (x.1 ≤ 9999)) && (decide (1 ≤ x.2.1) && decide (x.2.1 ≤ 10000)) && (decide (0 ≤ x.2.2.2.1) && (decide (x.2.2.2.1 ≤ x.2.2.2.2.2) && (decide (x.2.2.2.2.2 ≤ x.2.2.2.2.1) && decide (x.2.2.2.2.1 ≤ 2147483647)))) && (decide (x.2.2.2.1 * x.2.1 ≤ x.2.2.1) && decide (x.2.2.1 ≤ x.2.2.2.2.1 * x.2.1))
theorem okB_iff (x : W6) : okB x = true ↔ okW x := by
  unfold okB okW inW
  simp only [Bool.and_eq_true, decide_eq_true_eq, and_assoc]
def stepW (L : List W6) (i : Nat) : Bool := okB (Win.at' L i) && (i == 0 || decide ((Win.at' L (i - 1)).1 < (Win.at' L i).1))
def okToW (L : List W6) (k : Nat) : Bool := (List.range k).all (stepW L)
def okSB (L : List W6) : Bool := okToW L L.length
theorem okToW_succ (L : List W6) (k : Nat) : okToW L (k + 1) = (okToW L k && stepW L k) := by simp [okToW, List.range_succ]
theorem okToW_bad {L : List W6} {k : Nat} (hk : k < L.length) (h : stepW L k = false) : okSB L = false := by
  unfold okSB okToW
  rw [List.all_eq_false]
  exact ⟨k, List.mem_range.2 hk, by simp [h]⟩
theorem okToW_at {L : List W6} {k : Nat} (h : okToW L k = true) {i : Nat} (hi : i < k) : stepW L i = true := by
  unfold okToW at h
  exact List.all_eq_true.1 h i (List.mem_range.2 hi)
def okS (L : List W6) : Prop := (∀ x ∈ L, okW x) ∧ L.Pairwise (fun a b => a.1 < b.1)
theorem okSB_iff (L : List W6) : okSB L = true ↔ okS L := by
  constructor
  · intro h
    have hs : ∀ i, i < L.length → stepW L i = true := fun i hi => okToW_at h hi
    refine ⟨fun x hx => ?_, ?_⟩
    · obtain ⟨i, hi, rfl⟩ := List.getElem_of_mem hx
      have := hs i hi
      unfold stepW at this
      rw [Bool.and_eq_true, Win.at_get L i hi] at this
      exact (okB_iff _).1 this.1
    · have key : ∀ d i, i + d + 1 < L.length → (Win.at' L i).1 < (Win.at' L (i + d + 1)).1 := by
        intro d
        induction d with
        | zero =>
          intro i hi
          have := hs (i + 0 + 1) hi
          unfold stepW at this
          simp at this
          exact this.2
        | succ d ih =>
          intro i hi
          have a := ih i (by omega)
          have := hs (i + (d + 1) + 1) hi
          unfold stepW at this
          simp at this
          have b := this.2
          rw [show i + (d + 1) = i + d + 1 by omega] at b ⊢
          omega
      rw [List.pairwise_iff_getElem]
      intro i j hi hj hij
      have := key (j - i - 1) i (by omega)
      rw [show i + (j - i - 1) + 1 = j by omega, Win.at_get L i hi, Win.at_get L j hj] at this
      exact this
  · intro ⟨h1, h2⟩
    unfold okSB okToW
    rw [List.all_eq_true]
    intro i hi
    have hi := List.mem_range.1 hi
    unfold stepW
    rw [Bool.and_eq_true, Win.at_get L i hi]
    refine ⟨(okB_iff _).2 (h1 _ (List.getElem_mem hi)), ?_⟩
    rcases Nat.eq_zero_or_pos i with h0 | h0
    · subst h0; rfl
    · rw [Bool.or_eq_true]
      right
      rw [Win.at_get L (i - 1) (by omega)]
      exact decide_eq_true (List.pairwise_iff_getElem.1 h2 (i - 1) i (by omega) hi (by omega))
theorem okS_len {L : List W6} (h : okS L) : L.length ≤ 10000 := by
  have key : ∀ i, (hi : i < L.length) → (i : Int) ≤ (L[i]).1 := by
    intro i
    induction i with
    | zero => intro hi; exact (h.1 _ (List.getElem_mem hi)).1.1
    | succ i ih =>
      intro hi
      have a := ih (by omega)
      have b := List.pairwise_iff_getElem.1 h.2 i (i + 1) (by omega) hi (by omega)
      omega
  rcases Nat.eq_zero_or_pos L.length with h0 | h0
  · omega
  · have a := key (L.length - 1) (by omega)
    have b := (h.1 _ (List.getElem_mem (show L.length - 1 < L.length by omega))).1.2
    omega
theorem tgP_in {x y : W6} (hx : inW x) (hy : inW y) (cx : 0 ≤ x.2.1) (cy : 0 ≤ y.2.1) : inW (tgP x y) := by
  obtain ⟨b, c, s, l, u, z⟩ := x
  obtain ⟨b', c', s', l', u', z'⟩ := y
  obtain ⟨⟨h1, h2, h3, h4⟩, h5, h6⟩ := hx
  obtain ⟨⟨g1, g2, g3, g4⟩, g5, g6⟩ := hy
  simp only at h1 h2 h3 h4 h5 h6 g1 g2 g3 g4 g5 g6 cx cy
  unfold inW tgP
  simp only
  obtain ⟨m, hm⟩ : ∃ m, m = min l l' := ⟨_, rfl⟩
  obtain ⟨n, hn⟩ : ∃ n, n = max u u' := ⟨_, rfl⟩
  rw [← hm, ← hn]
  have a1 : m ≤ l ∧ m ≤ l' ∧ 0 ≤ m := by omega
  have a2 : u ≤ n ∧ u' ≤ n ∧ n ≤ 2147483647 := by omega
  have b1 := Int.mul_le_mul_of_nonneg_right a1.1 cx
  have b2 := Int.mul_le_mul_of_nonneg_right a1.2.1 cy
  have b3 := Int.mul_le_mul_of_nonneg_right a2.1 cx
  have b4 := Int.mul_le_mul_of_nonneg_right a2.2.1 cy
  rw [Int.mul_add, Int.mul_add]
  refine ⟨⟨a1.2.2, ?_, ?_, a2.2.2⟩, ?_, ?_⟩ <;> omega
theorem okW_bounds {x : W6} (h : okW x) : 0 ≤ x.2.2.1 ∧ x.2.2.1 ≤ 21474836470000 := by
  obtain ⟨b, c, s, l, u, z⟩ := x
  obtain ⟨-, ⟨h1, h2⟩, ⟨h3, h4, h5, h6⟩, h7, h8⟩ := h
  simp only at h1 h2 h3 h4 h5 h6 h7 h8 ⊢
  have a1 : 0 ≤ l * c := Int.mul_nonneg h3 (by omega)
  have a2 : u * c ≤ 2147483647 * c := Int.mul_le_mul_of_nonneg_right h6 (by omega)
  omega
/-- what joined whiles are: their first time, how many samples, all together -/
theorem jl_says : ∀ {L : List W6}, (∀ x ∈ L, okW x) → L ≠ [] → (jl L).1 = (Win.at' L 0).1 ∧ ((L.length : Int) ≤ (jl L).2.1 ∧ (jl L).2.1 ≤ 10000 * (L.length : Int)) ∧ (0 ≤ (jl L).2.2.1 ∧ (jl L).2.2.1 ≤ 21474836470000 * (L.length : Int)) ∧ inW (jl L) := by
  intro L
  induction hn : L.length generalizing L with
  | zero => intro _ h; exact absurd (List.eq_nil_of_length_eq_zero hn) h
  | succ n ih =>
    intro hok _
    by_cases h0 : n = 0
    · subst h0
      obtain ⟨x, rfl⟩ := List.length_eq_one_iff.1 hn
      have hx := hok x (List.mem_singleton.2 rfl)
      have hb := okW_bounds hx
      have hc := hx.2.1
      exact ⟨rfl, by rw [jl_one]; omega, by rw [jl_one]; omega, hx.2.2⟩
    · have hne : L ≠ [] := fun e => by rw [e] at hn; simp at hn
      have hd := (List.dropLast_concat_getLast hne).symm
      have hl : L.dropLast.length = n := by rw [List.length_dropLast, hn]; rfl
      have hne' : L.dropLast ≠ [] := fun e => by rw [e] at hl; exact h0 hl.symm
      obtain ⟨i1, i2, i3, i4⟩ := ih hl (fun x hx => hok x (List.dropLast_subset _ hx)) hne'
      have hz := hok (L.getLast hne) (List.getLast_mem hne)
      have hb := okW_bounds hz
      have hc := hz.2.1
      have e : jl L = tgP (jl L.dropLast) (L.getLast hne) := by
        conv => lhs; rw [hd]
        rw [jl_app hne' (by simp), jl_one]
      have e0 : Win.at' L.dropLast 0 = Win.at' L 0 := by
        rw [Win.at_get _ 0 (by omega), Win.at_get _ 0 (by omega), List.getElem_dropLast]
      rw [e]
      refine ⟨?_, ?_, ?_, tgP_in i4 hz.2.2 (by omega) (by omega)⟩
      · show (jl L.dropLast).1 = _; rw [i1, e0]
      · show _ ≤ (jl L.dropLast).2.1 + (L.getLast hne).2.1 ∧ (jl L.dropLast).2.1 + (L.getLast hne).2.1 ≤ _; omega
      · show 0 ≤ (jl L.dropLast).2.2.1 + (L.getLast hne).2.2.1 ∧ (jl L.dropLast).2.2.1 + (L.getLast hne).2.2.1 ≤ _; omega
def zeroW : W6 := (0, 0, 0, 0, 0, 0)
def winsJoin (L : List W6) : W6 × Bool := if L ≠ [] ∧ okSB L = true ∧ (jl L).2.1 ≤ 10000 then (jl L, true) else (zeroW, false)
theorem take_snocW {L : List W6} {k : Nat} (hk : k < L.length) (h0 : 0 < k) : jl (L.take (k + 1)) = tgP (jl (L.take k)) (Win.at' L k) := by
  rw [Win.at_snoc L k hk, jl_app (fun e => by have := congrArg List.length e; rw [List.length_take, List.length_nil] at this; omega) (by simp), jl_one]
/-- no sum is too great -/
theorem tgW_tgP {L : List W6} (h : okS L) {k : Nat} (hk : k < L.length) (h0 : 0 < k) : tgW (jl (L.take k)) (Win.at' L k) = tgP (jl (L.take k)) (Win.at' L k) := by
  have hl := okS_len h
  have hne : L.take k ≠ [] := fun e => by have := congrArg List.length e; rw [List.length_take, List.length_nil] at this; omega
  obtain ⟨-, i2, i3, -⟩ := jl_says (fun x hx => h.1 x (List.mem_of_mem_take hx)) hne
  have hz := h.1 _ (show Win.at' L k ∈ L by rw [Win.at_get L k hk]; exact List.getElem_mem hk)
  have hb := okW_bounds hz
  have hc := hz.2.1
  have hlen : (L.take k).length = k := by rw [List.length_take]; omega
  rw [hlen] at i2 i3
  unfold tgW tgP addW
  rw [wrap_le (by omega) (by omega), wrap_le (by omega) (by omega)]
theorem fold_one {L : List W6} (h : okS L) : ∀ k, k < L.length → Win.fold (fun _ _ => true) tgW (L.take (k + 1)) = [jl (L.take (k + 1))] := by
  intro k
  induction k with
  | zero =>
    intro hk
    rw [Win.fold_snoc _ _ L 0 hk]
    rw [Win.at_snoc L 0 hk]
    simp only [List.take_zero, List.nil_append]
    rfl
  | succ k ih =>
    intro hk
    rw [Win.fold_snoc _ _ L (k + 1) hk, ih (by omega), take_snocW hk (by omega), ← tgW_tgP h hk (by omega)]
    exact Win.fstep_same (al := fun _ _ => true) tgW [] rfl
theorem fold_all {L : List W6} (h : okS L) (hne : L ≠ []) : Win.fold (fun _ _ => true) tgW L = [jl L] := by
  have hl := List.length_pos_iff.2 hne
  have := fold_one h (L.length - 1) (by omega)
  rwa [show L.length - 1 + 1 = L.length by omega, List.take_length] at this
/-- in parts or at once -/
theorem parts_join {L : List W6} {k : Nat} (h : (winsJoin L).2 = true) (h1 : 1 ≤ k) (h2 : k < L.length) :
    winsJoin (L.take k) = (jl (L.take k), true) ∧ winsJoin (L.drop k) = (jl (L.drop k), true) ∧ winsJoin [jl (L.take k), jl (L.drop k)] = ((winsJoin L).1, true) := by
  unfold winsJoin at h
  split at h
  · rename_i hh
    obtain ⟨hne, hok, hc⟩ := hh
    have hS := (okSB_iff L).1 hok
    have hA : L.take k ≠ [] := fun e => by have := congrArg List.length e; rw [List.length_take, List.length_nil] at this; omega
    have hB : L.drop k ≠ [] := fun e => by have := congrArg List.length e; rw [List.length_drop, List.length_nil] at this; omega
    have e : jl L = tgP (jl (L.take k)) (jl (L.drop k)) := by rw [← jl_app hA hB, List.take_append_drop]
    have SA : okS (L.take k) := ⟨fun x hx => hS.1 x (List.mem_of_mem_take hx), hS.2.sublist (List.take_sublist _ _)⟩
    have SB : okS (L.drop k) := ⟨fun x hx => hS.1 x (List.mem_of_mem_drop hx), hS.2.sublist (List.drop_sublist _ _)⟩
    obtain ⟨a1, a2, a3, a4⟩ := jl_says SA.1 hA
    obtain ⟨b1, b2, b3, b4⟩ := jl_says SB.1 hB
    have lA : (L.take k).length = k := by rw [List.length_take]; omega
    have lB : (L.drop k).length = L.length - k := by rw [List.length_drop]
    rw [lA] at a2
    rw [lB] at b2
    have hc' : (jl (L.take k)).2.1 + (jl (L.drop k)).2.1 ≤ 10000 := by rw [e] at hc; exact hc
    have fA : 0 ≤ (Win.at' (L.take k) 0).1 ∧ (Win.at' (L.take k) 0).1 ≤ 9999 := by
      rw [Win.at_get _ 0 (by omega)]
      exact (SA.1 _ (List.getElem_mem (by omega))).1
    have fB : 0 ≤ (Win.at' (L.drop k) 0).1 ∧ (Win.at' (L.drop k) 0).1 ≤ 9999 := by
      rw [Win.at_get _ 0 (by omega)]
      exact (SB.1 _ (List.getElem_mem (by omega))).1
    have oA : okW (jl (L.take k)) := ⟨by rw [a1]; exact fA, by omega, a4⟩
    have oB : okW (jl (L.drop k)) := ⟨by rw [b1]; exact fB, by omega, b4⟩
    have hlt : (jl (L.take k)).1 < (jl (L.drop k)).1 := by
      rw [a1, b1, Win.at_get _ 0 (by omega), Win.at_get _ 0 (by omega), List.getElem_take, List.getElem_drop]
      exact List.pairwise_iff_getElem.1 hS.2 0 (k + 0) (by omega) (by omega) (by omega)
    have SP : okS [jl (L.take k), jl (L.drop k)] := by
      refine ⟨fun x hx => ?_, ?_⟩
      · simp only [List.mem_cons, List.not_mem_nil, or_false] at hx
        rcases hx with rfl | rfl
        · exact oA
        · exact oB
      · simpa using hlt
    refine ⟨?_, ?_, ?_⟩
    · unfold winsJoin; rw [if_pos ⟨hA, (okSB_iff _).2 SA, by omega⟩]
    · unfold winsJoin; rw [if_pos ⟨hB, (okSB_iff _).2 SB, by omega⟩]
    · have e2 : jl [jl (L.take k), jl (L.drop k)] = jl L := by rw [e]; rfl
      unfold winsJoin
      rw [if_pos ⟨by simp, (okSB_iff _).2 SP, by rw [e2]; exact hc⟩, if_pos ⟨hne, hok, hc⟩, e2]
  · cases h
theorem min_upd (a l v : Int) : (if v < min a l then v else min a l) = min a (if v < l then v else l) := by split <;> split <;> omega
theorem max_upd (a l v : Int) : (if max a l < v then v else max a l) = max a (if l < v then v else l) := by split <;> split <;> omega
/-- a longer while -/
theorem winTo_app (b c : Int) (g h : List S) (hg : 0 < g.length) : ∀ k, k < h.length → winTo b (g ++ h) (g.length + (k + 1)) = tgP (winTo b g g.length) (winTo c h (k + 1)) := by
  have pre : ∀ j, j ≤ g.length → winTo b (g ++ h) j = winTo b g j := by
    intro j
    induction j with
    | zero =>
      intro _
      show (_, _, _, _, _, _) = (_, _, _, _, _, _)
      have : at' (g ++ h) 0 = at' g 0 := by unfold at'; rw [List.getD_eq_getElem?_getD, List.getD_eq_getElem?_getD, List.getElem?_append_left hg]
      rw [this]
    | succ j ih =>
      intro hj
      show upd (winTo b (g ++ h) j) (at' (g ++ h) j).2 = upd (winTo b g j) (at' g j).2
      have : at' (g ++ h) j = at' g j := by unfold at'; rw [List.getD_eq_getElem?_getD, List.getD_eq_getElem?_getD, List.getElem?_append_left (by omega)]
      rw [ih (by omega), this]
  have post : ∀ k, at' (g ++ h) (g.length + k) = at' h k := by
    intro k
    unfold at'
    rw [List.getD_eq_getElem?_getD, List.getD_eq_getElem?_getD, List.getElem?_append_right (by omega), Nat.add_sub_cancel_left]
  intro k
  induction k with
  | zero =>
    intro hk
    have e : winTo b (g ++ h) (g.length + 1) = upd (winTo b (g ++ h) g.length) (at' (g ++ h) g.length).2 := rfl
    rw [e, pre _ (Nat.le_refl _), show g.length = g.length + 0 from rfl, post 0, winTo_one]
    unfold upd tgP winOf
    simp only [Nat.add_zero, Prod.mk.injEq]
    refine ⟨trivial, trivial, trivial, ?_, ?_, trivial⟩
    · rw [Int.min_def]; split <;> split <;> omega
    · rw [Int.max_def]; split <;> split <;> omega
  | succ k ih =>
    intro hk
    have e : winTo b (g ++ h) (g.length + (k + 1 + 1)) = upd (winTo b (g ++ h) (g.length + (k + 1))) (at' (g ++ h) (g.length + (k + 1))).2 := rfl
    have e2 : winTo c h (k + 1 + 1) = upd (winTo c h (k + 1)) (at' h (k + 1)).2 := rfl
    rw [e, ih (by omega), post, e2]
    unfold upd tgP
    simp only [Prod.mk.injEq]
    refine ⟨trivial, by omega, by omega, ?_, ?_, trivial⟩
    · exact min_upd _ _ _
    · exact max_upd _ _ _
theorem winsTo_join {zs : List S} (h : ok zs = true) {f t st : Int} (h0 : 0 < st) : ∀ j : Nat, (∀ i : Nat, i < j → f + i * st < t) →
    (winsTo zs f t st j = [] ∧ cutL zs f (if t < f + j * st then t else f + j * st) = []) ∨ (winsTo zs f t st j ≠ [] ∧ cutL zs f (if t < f + j * st then t else f + j * st) ≠ [] ∧ jl (winsTo zs f t st j) = winTo (Win.at' (winsTo zs f t st j) 0).1 (cutL zs f (if t < f + j * st then t else f + j * st)) (cutL zs f (if t < f + j * st then t else f + j * st)).length) := by
  intro j
  induction j with
  | zero =>
    intro _
    left
    refine ⟨rfl, ?_⟩
    unfold cutL
    rw [List.filter_eq_nil_iff]
    intro x _
    simp only [inT, Bool.and_eq_true, decide_eq_true_eq, not_and]
    intro h1
    split <;> simp <;> omega
  | succ j ih =>
    intro hj
    have hb := hj j (by omega)
    have e : f + ((j + 1 : Nat) : Int) * st = f + j * st + st := by rw [Int.natCast_add, Int.add_mul]; simp; omega
    have ih := ih (fun i hi => hj i (by omega))
    rw [if_neg (show ¬ t < f + (j : Int) * st by omega)] at ih
    obtain ⟨b, eb⟩ : ∃ b, b = f + (j : Int) * st := ⟨_, rfl⟩
    have hfb : f ≤ b := by rw [eb]; have := Int.mul_nonneg (Int.natCast_nonneg j) (Int.le_of_lt h0); omega
    rw [e, winsTo, ← eb]
    rw [← eb] at ih hb
    obtain ⟨m, em⟩ : ∃ m, m = (if t < b + st then t else b + st) := ⟨_, rfl⟩
    have hm : b ≤ m ∧ m ≤ b + st := by rw [em]; split <;> omega
    rw [← em, ← cut_parts h hfb hm.1]
    generalize cutL zs f b = G at ih
    generalize cutL zs b m = H
    generalize winsTo zs f t st j = L at ih
    unfold oneW
    by_cases hH : H = []
    · subst hH
      rw [if_pos rfl, List.append_nil, List.append_nil]
      exact ih
    · rw [if_neg hH]
      have hHl := List.length_pos_iff.2 hH
      rcases ih with ⟨rfl, rfl⟩ | ⟨i1, i2, i3⟩
      · right
        refine ⟨by simp, by simpa using hH, ?_⟩
        simp only [List.nil_append]
        rw [jl_one]
        show _ = winTo (winTo b H H.length).1 H H.length
        rw [winTo_from]
      · right
        have hGl := List.length_pos_iff.2 i2
        refine ⟨by simp, by simp [i2], ?_⟩
        rw [jl_app i1 (by simp), jl_one, i3]
        have e0 : Win.at' (L ++ [winTo b H H.length]) 0 = Win.at' L 0 := by
          rw [Win.at_get _ 0 (by simp), Win.at_get _ 0 (List.length_pos_iff.2 i1), List.getElem_append_left (List.length_pos_iff.2 i1)]
        rw [e0, List.length_append]
        have := winTo_app (Win.at' L 0).1 b G H hGl (H.length - 1) (by omega)
        rw [show H.length - 1 + 1 = H.length by omega] at this
        rw [this]
theorem wins_join {zs : List S} {f t st : Int} (hne : wins zs f t st ≠ []) :
    ok zs = true ∧ cutL zs f t ≠ [] ∧ winsJoin (wins zs f t st) = (winTo (Win.at' (wins zs f t st) 0).1 (cutL zs f t) (cutL zs f t).length, true) := by
  by_cases hh : ok zs = true ∧ timesB f t = true ∧ thinB st = true
  · obtain ⟨h, ht, hs⟩ := hh
    have h0 : 0 < st := by unfold thinB at hs; simp at hs; omega
    have hT := times_is ht
    obtain ⟨j, hj, he⟩ := steps_exist (f := f) (t := t) h0 hT.2.2.1
    have hS := wins_okW zs f t st
    have hw := wins_all h ht hs hj he
    have hJ := winsTo_join h (f := f) (t := t) h0 j hj
    rw [show (if t < f + (j : Int) * st then t else f + (j : Int) * st) = t by split <;> omega, ← hw] at hJ
    rcases hJ with ⟨h1, -⟩ | ⟨-, h2, h3⟩
    · exact absurd h1 hne
    · refine ⟨h, h2, ?_⟩
      unfold winsJoin
      rw [if_pos ⟨hne, (okSB_iff _).2 hS, by rw [h3, winTo_count]; have := (cut_vals h f t).2; omega⟩, h3]
  · exact absurd (wins_bad hh) hne
end Go.Proofs.Ytogdllkbiibicaa.WinM

/- A region that draws its order, walked operation by operation: what is wanted and yields, what is not wanted, what is carried out alone. No condition. -/
namespace Go.Proofs.Ytogdllkbiibicaa.Grl
open Go.RowKit
section
variable {P : Program} {l : List Oper} {Q : Exit → Act → World → Prop} {md : Region.Mode} {S : World → Prop}
theorem yes (i : Nat) {oi : Oper} {v : Value} {fuel : Nat} {listed : Array Bool} {a : Act} {w : World} (hi : l[i]? = some oi)
    (hs : Region.noSelect l.toArray = true) (hf : Region.free md l.toArray listed i = true) (hr : (Region.ready md l.toArray listed).contains i = true)
    (hQ : ∀ c a w, Q (.panic c) (a.put oi.dst v) w → Q (.panic c) a w) (hw : Region.wanted oi (yielded l.toArray a.tmps) = true) (hy : ∀ w, S w → (execOp a.eval oi).run P w = .ok (.value v) w) (hS : S w)
    (h : wpAnyH P md l.toArray Q S fuel (listed.setIfInBounds i true) (a.put oi.dst v) w) : wpAnyH P md l.toArray Q S (fuel + 1) listed a w :=
  wpAnyH_take (by simpa using hi) hs hf hr hQ (.inl ⟨hw, hy⟩) hS h
theorem no (i : Nat) {oi : Oper} {fuel : Nat} {listed : Array Bool} {a : Act} {w : World} (hi : l[i]? = some oi)
    (hs : Region.noSelect l.toArray = true) (hf : Region.free md l.toArray listed i = true) (hr : (Region.ready md l.toArray listed).contains i = true)
    (hQ : ∀ c a w, Q (.panic c) (a.put oi.dst undef) w → Q (.panic c) a w) (hw : Region.wanted oi (yielded l.toArray a.tmps) = false) (hS : S w)
    (h : wpAnyH P md l.toArray Q S fuel (listed.setIfInBounds i true) (a.put oi.dst undef) w) : wpAnyH P md l.toArray Q S (fuel + 1) listed a w :=
  wpAnyH_take (by simpa using hi) hs hf hr hQ (.inr ⟨hw, rfl⟩) hS h
theorem one (i : Nat) {o : Oper} {fuel : Nat} {listed : Array Bool} {a : Act} {w : World} (hi : l[i]? = some o) (hr : Region.ready md l.toArray listed = [i])
    (h : ∀ K' : Act → World → Prop, Shut (∀ a w, S w → (S w → wpAnyH P md l.toArray Q S fuel (listed.setIfInBounds i true) a w) → K' a w) → if Region.wanted o (yielded l.toArray a.tmps) = true then Oper.wp P o a w K' Q else K' (a.put o.dst undef) w) :
    wpAnyH P md l.toArray Q S (fuel + 1) listed a w :=
  wpAnyH_ready hr (by simp) (AllReadyH.cons (by simpa using hi) h AllReadyH.nil)
theorem start {id : Nat} {a : Act} {w : World} (hm : P.follows .mixedOrders = true) (hS : S w.drew)
    (h : S w.drew → wpAnyH P .any l.toArray Q S l.length (Array.replicate l.length false) a w.drew) : (Code.region id l.toArray true).wp P Q a w :=
  wp_region_held_drew hm hS (by simpa using h)
end
theorem wrap_ok {n : Int} (h0 : -4611686018427387904 ≤ n) (h1 : n ≤ 4611686018427387904) : IntKind.i64.wrap n = n := by
  have hb : (2 : Int) ^ IntKind.i64.bits = 18446744073709551616 := by decide
  have hb' : (2 : Int) ^ (IntKind.i64.bits - 1) = 9223372036854775808 := by decide
  unfold IntKind.wrap
  simp only [hb, hb']
  have hs : IntKind.i64.signed = true := rfl
  simp only [hs, Bool.true_and, decide_eq_true_eq]
  split <;> omega
end Go.Proofs.Ytogdllkbiibicaa.Grl
