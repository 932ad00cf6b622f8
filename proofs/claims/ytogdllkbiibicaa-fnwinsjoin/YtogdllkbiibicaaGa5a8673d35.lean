/- My own texts of one claim, laid together by program: WinMath6, WinOne. -/
import Derived.Test.YtogdllkbiibicaaGabe28b7af2
import Derived.Test.YtogdllkbiibicaaG5c0b434f33
import Derived.Test.YtogdllkbiibicaaG341cf6558d
/- Whiles joined, as plain mathematics: in parts or at once, and while by while or at once. No condition. -/
namespace Go.Proofs.Ytogdllkbiibicaa.WinM
open SampMath Samp
set_option linter.unusedVariables false
def tgP (x y : W6) : W6 := (x.1, x.2.1 + y.2.1, x.2.2.1 + y.2.2.1, min x.2.2.2.1 y.2.2.2.1, max x.2.2.2.2.1 y.2.2.2.2.1, y.2.2.2.2.2)
def jl : List W6 → W6
  | [] => (0, 0, 0, 0, 0, 0)
  | x :: L => L.foldl tgP x
theorem tgP_assoc (x y z : W6) : tgP (tgP x y) z = tgP x (tgP y z) := by
  unfold tgP
  simp only [Prod.mk.injEq]
  refine ⟨trivial, ?_, ?_, ?_, ?_, trivial⟩ <;> omega
theorem foldl_tg (a y : W6) (M : List W6) : M.foldl tgP (tgP a y) = tgP a (M.foldl tgP y) := by
  induction M generalizing y with
  | nil => rfl
  | cons z M ih => simp only [List.foldl_cons]; rw [tgP_assoc, ih]
theorem jl_app {A B : List W6} (hA : A ≠ []) (hB : B ≠ []) : jl (A ++ B) = tgP (jl A) (jl B) := by
  rcases A with _ | ⟨x, A⟩
  · exact absurd rfl hA
  rcases B with _ | ⟨y, B⟩
  · exact absurd rfl hB
  show (A ++ y :: B).foldl tgP x = tgP (A.foldl tgP x) (B.foldl tgP y)
  rw [List.foldl_append, List.foldl_cons, foldl_tg]
theorem jl_one (x : W6) : jl [x] = x := rfl
def okB (x : W6) : Bool := (decide (0 ≤ x.1) && decide (x.1 ≤ 9999)) && (decide (1 ≤ x.2.1) && decide (x.2.1 ≤ 10000)) && (decide (0 ≤ x.2.2.2.1) && (decide (x.2.2.2.1 ≤ x.2.2.2.2.2) && (decide (x.2.2.2.2.2 ≤ x.2.2.2.2.1) && decide (x.2.2.2.2.1 ≤ 2147483647)))) && (decide (x.2.2.2.1 * x.2.1 ≤ x.2.2.1) && decide (x.2.2.1 ≤ x.2.2.2.2.1 * x.2.1))
theorem okB_iff (x : W6) : okB x = true ↔ okW x := by
  unfold okB okW inW
  simp only [Bool.and_eq_true, decide_eq_true_eq, and_assoc]
def stepW (L : List W6) (i : Nat) : Bool := okB (Win.at' L i) && (i == 0 || decide ((Win.at' L (i - 1)).1 < (Win.at' L i).1))
def okToW (L : List W6) (k : Nat) : Bool := (List.range k).all (stepW L)
def okSB (L : List W6) : Bool := okToW L L.length
theorem okToW_succ (L : List W6) (k : Nat) : okToW L (k + 1) = (okToW L k && stepW L k) := by simp [okToW, List.range_succ]
theorem okToW_bad {L : List W6} {k : Nat} (hk : k < L.length) (h : stepW L k = false) : okSB L = false := by
  unfold okSB okToW
  rw [List.all_eq_false]
  exact ⟨k, List.mem_range.2 hk, by simp [h]⟩
theorem okToW_at {L : List W6} {k : Nat} (h : okToW L k = true) {i : Nat} (hi : i < k) : stepW L i = true := by
  unfold okToW at h
  exact List.all_eq_true.1 h i (List.mem_range.2 hi)
def okS (L : List W6) : Prop := (∀ x ∈ L, okW x) ∧ L.Pairwise (fun a b => a.1 < b.1)
theorem okSB_iff (L : List W6) : okSB L = true ↔ okS L := by
  constructor
  · intro h
    have hs : ∀ i, i < L.length → stepW L i = true := fun i hi => okToW_at h hi
    refine ⟨fun x hx => ?_, ?_⟩
    · obtain ⟨i, hi, rfl⟩ := List.getElem_of_mem hx
      have := hs i hi
      unfold stepW at this
      rw [Bool.and_eq_true, Win.at_get L i hi] at this
      exact (okB_iff _).1 this.1
    · have key : ∀ d i, i + d + 1 < L.length → (Win.at' L i).1 < (Win.at' L (i + d + 1)).1 := by
        intro d
        induction d with
        | zero =>
          intro i hi
          have := hs (i + 0 + 1) hi
          unfold stepW at this
          simp at this
          exact this.2
        | succ d ih =>
          intro i hi
          have a := ih i (by omega)
          have := hs (i + (d + 1) + 1) hi
          unfold stepW at this
          simp at this
          have b := this.2
          rw [show i + (d + 1) = i + d + 1 by omega] at b ⊢
          omega
      rw [List.pairwise_iff_getElem]
      intro i j hi hj hij
      have := key (j - i - 1) i (by omega)
      rw [show i + (j - i - 1) + 1 = j by omega, Win.at_get L i hi, Win.at_get L j hj] at this
      exact this
  · intro ⟨h1, h2⟩
    unfold okSB okToW
    rw [List.all_eq_true]
    intro i hi
    have hi := List.mem_range.1 hi
    unfold stepW
    rw [Bool.and_eq_true, Win.at_get L i hi]
    refine ⟨(okB_iff _).2 (h1 _ (List.getElem_mem hi)), ?_⟩
    rcases Nat.eq_zero_or_pos i with h0 | h0
    · subst h0; rfl
    · rw [Bool.or_eq_true]
      right
      rw [Win.at_get L (i - 1) (by omega)]
      exact decide_eq_true (List.pairwise_iff_getElem.1 h2 (i - 1) i (by omega) hi (by omega))
theorem okS_len {L : List W6} (h : okS L) : L.length ≤ 10000 := by
  have key : ∀ i, (hi : i < L.length) → (i : Int) ≤ (L[i]).1 := by
    intro i
    induction i with
    | zero => intro hi; exact (h.1 _ (List.getElem_mem hi)).1.1
    | succ i ih =>
      intro hi
      have a := ih (by omega)
      have b := List.pairwise_iff_getElem.1 h.2 i (i + 1) (by omega) hi (by omega)
      omega
  rcases Nat.eq_zero_or_pos L.length with h0 | h0
  · omega
  · have a := key (L.length - 1) (by omega)
    have b := (h.1 _ (List.getElem_mem (show L.length - 1 < L.length by omega))).1.2
    omega
theorem tgP_in {x y : W6} (hx : inW x) (hy : inW y) (cx : 0 ≤ x.2.1) (cy : 0 ≤ y.2.1) : inW (tgP x y) := by
  obtain ⟨b, c, s, l, u, z⟩ := x
  obtain ⟨b', c', s', l', u', z'⟩ := y
  obtain ⟨⟨h1, h2, h3, h4⟩, h5, h6⟩ := hx
  obtain ⟨⟨g1, g2, g3, g4⟩, g5, g6⟩ := hy
  simp only at h1 h2 h3 h4 h5 h6 g1 g2 g3 g4 g5 g6 cx cy
  unfold inW tgP
  simp only
  obtain ⟨m, hm⟩ : ∃ m, m = min l l' := ⟨_, rfl⟩
  obtain ⟨n, hn⟩ : ∃ n, n = max u u' := ⟨_, rfl⟩
  rw [← hm, ← hn]
  have a1 : m ≤ l ∧ m ≤ l' ∧ 0 ≤ m := by omega
  have a2 : u ≤ n ∧ u' ≤ n ∧ n ≤ 2147483647 := by omega
  have b1 := Int.mul_le_mul_of_nonneg_right a1.1 cx
  have b2 := Int.mul_le_mul_of_nonneg_right a1.2.1 cy
  have b3 := Int.mul_le_mul_of_nonneg_right a2.1 cx
  have b4 := Int.mul_le_mul_of_nonneg_right a2.2.1 cy
  rw [Int.mul_add, Int.mul_add]
  refine ⟨⟨a1.2.2, ?_, ?_, a2.2.2⟩, ?_, ?_⟩ <;> omega
theorem okW_bounds {x : W6} (h : okW x) : 0 ≤ x.2.2.1 ∧ x.2.2.1 ≤ 21474836470000 := by
  obtain ⟨b, c, s, l, u, z⟩ := x
  obtain ⟨-, ⟨h1, h2⟩, ⟨h3, h4, h5, h6⟩, h7, h8⟩ := h
  simp only at h1 h2 h3 h4 h5 h6 h7 h8 ⊢
  have a1 : 0 ≤ l * c := Int.mul_nonneg h3 (by omega)
  have a2 : u * c ≤ 2147483647 * c := Int.mul_le_mul_of_nonneg_right h6 (by omega)
  omega
/-- what joined whiles are: their first time, how many samples, all together -/
theorem jl_says : ∀ {L : List W6}, (∀ x ∈ L, okW x) → L ≠ [] → (jl L).1 = (Win.at' L 0).1 ∧ ((L.length : Int) ≤ (jl L).2.1 ∧ (jl L).2.1 ≤ 10000 * (L.length : Int)) ∧ (0 ≤ (jl L).2.2.1 ∧ (jl L).2.2.1 ≤ 21474836470000 * (L.length : Int)) ∧ inW (jl L) := by
  intro L
  induction hn : L.length generalizing L with
  | zero => intro _ h; exact absurd (List.eq_nil_of_length_eq_zero hn) h
  | succ n ih =>
    intro hok _
    by_cases h0 : n = 0
    · subst h0
      obtain ⟨x, rfl⟩ := List.length_eq_one_iff.1 hn
      have hx := hok x (List.mem_singleton.2 rfl)
      have hb := okW_bounds hx
      have hc := hx.2.1
      exact ⟨rfl, by rw [jl_one]; omega, by rw [jl_one]; omega, hx.2.2⟩
    · have hne : L ≠ [] := fun e => by rw [e] at hn; simp at hn
      have hd := (List.dropLast_concat_getLast hne).symm
      have hl : L.dropLast.length = n := by rw [List.length_dropLast, hn]; rfl
      have hne' : L.dropLast ≠ [] := fun e => by rw [e] at hl; exact h0 hl.symm
      obtain ⟨i1, i2, i3, i4⟩ := ih hl (fun x hx => hok x (List.dropLast_subset _ hx)) hne'
      have hz := hok (L.getLast hne) (List.getLast_mem hne)
      have hb := okW_bounds hz
      have hc := hz.2.1
      have e : jl L = tgP (jl L.dropLast) (L.getLast hne) := by
        conv => lhs; rw [hd]
        rw [jl_app hne' (by simp), jl_one]
      have e0 : Win.at' L.dropLast 0 = Win.at' L 0 := by
        rw [Win.at_get _ 0 (by omega), Win.at_get _ 0 (by omega), List.getElem_dropLast]
      rw [e]
      refine ⟨?_, ?_, ?_, tgP_in i4 hz.2.2 (by omega) (by omega)⟩
      · show (jl L.dropLast).1 = _; rw [i1, e0]
      · show _ ≤ (jl L.dropLast).2.1 + (L.getLast hne).2.1 ∧ (jl L.dropLast).2.1 + (L.getLast hne).2.1 ≤ _; omega
      · show 0 ≤ (jl L.dropLast).2.2.1 + (L.getLast hne).2.2.1 ∧ (jl L.dropLast).2.2.1 + (L.getLast hne).2.2.1 ≤ _; omega
def zeroW : W6 := (0, 0, 0, 0, 0, 0)
def winsJoin (L : List W6) : W6 × Bool := if L ≠ [] ∧ okSB L = true ∧ (jl L).2.1 ≤ 10000 then (jl L, true) else (zeroW, false)
theorem take_snocW {L : List W6} {k : Nat} (hk : k < L.length) (h0 : 0 < k) : jl (L.take (k + 1)) = tgP (jl (L.take k)) (Win.at' L k) := by
  rw [Win.at_snoc L k hk, jl_app (fun e => by have := congrArg List.length e; rw [List.length_take, List.length_nil] at this; omega) (by simp), jl_one]
/-- no sum is too great -/
theorem tgW_tgP {L : List W6} (h : okS L) {k : Nat} (hk : k < L.length) (h0 : 0 < k) : tgW (jl (L.take k)) (Win.at' L k) = tgP (jl (L.take k)) (Win.at' L k) := by
  have hl := okS_len h
  have hne : L.take k ≠ [] := fun e => by have := congrArg List.length e; rw [List.length_take, List.length_nil] at this; omega
  obtain ⟨-, i2, i3, -⟩ := jl_says (fun x hx => h.1 x (List.mem_of_mem_take hx)) hne
  have hz := h.1 _ (show Win.at' L k ∈ L by rw [Win.at_get L k hk]; exact List.getElem_mem hk)
  have hb := okW_bounds hz
  have hc := hz.2.1
  have hlen : (L.take k).length = k := by rw [List.length_take]; omega
  rw [hlen] at i2 i3
  unfold tgW tgP addW
  rw [wrap_le (by omega) (by omega), wrap_le (by omega) (by omega)]
theorem fold_one {L : List W6} (h : okS L) : ∀ k, k < L.length → Win.fold (fun _ _ => true) tgW (L.take (k + 1)) = [jl (L.take (k + 1))] := by
  intro k
  induction k with
  | zero =>
    intro hk
    rw [Win.fold_snoc _ _ L 0 hk]
    rw [Win.at_snoc L 0 hk]
    simp only [List.take_zero, List.nil_append]
    rfl
  | succ k ih =>
    intro hk
    rw [Win.fold_snoc _ _ L (k + 1) hk, ih (by omega), take_snocW hk (by omega), ← tgW_tgP h hk (by omega)]
    exact Win.fstep_same (al := fun _ _ => true) tgW [] rfl
theorem fold_all {L : List W6} (h : okS L) (hne : L ≠ []) : Win.fold (fun _ _ => true) tgW L = [jl L] := by
  have hl := List.length_pos_iff.2 hne
  have := fold_one h (L.length - 1) (by omega)
  rwa [show L.length - 1 + 1 = L.length by omega, List.take_length] at this
/-- in parts or at once -/
theorem parts_join {L : List W6} {k : Nat} (h : (winsJoin L).2 = true) (h1 : 1 ≤ k) (h2 : k < L.length) :
    winsJoin (L.take k) = (jl (L.take k), true) ∧ winsJoin (L.drop k) = (jl (L.drop k), true) ∧ winsJoin [jl (L.take k), jl (L.drop k)] = ((winsJoin L).1, true) := by
  unfold winsJoin at h
  split at h
  · rename_i hh
    obtain ⟨hne, hok, hc⟩ := hh
    have hS := (okSB_iff L).1 hok
    have hA : L.take k ≠ [] := fun e => by have := congrArg List.length e; rw [List.length_take, List.length_nil] at this; omega
    have hB : L.drop k ≠ [] := fun e => by have := congrArg List.length e; rw [List.length_drop, List.length_nil] at this; omega
    have e : jl L = tgP (jl (L.take k)) (jl (L.drop k)) := by rw [← jl_app hA hB, List.take_append_drop]
    have SA : okS (L.take k) := ⟨fun x hx => hS.1 x (List.mem_of_mem_take hx), hS.2.sublist (List.take_sublist _ _)⟩
    have SB : okS (L.drop k) := ⟨fun x hx => hS.1 x (List.mem_of_mem_drop hx), hS.2.sublist (List.drop_sublist _ _)⟩
    obtain ⟨a1, a2, a3, a4⟩ := jl_says SA.1 hA
    obtain ⟨b1, b2, b3, b4⟩ := jl_says SB.1 hB
    have lA : (L.take k).length = k := by rw [List.length_take]; omega
    have lB : (L.drop k).length = L.length - k := by rw [List.length_drop]
    rw [lA] at a2
    rw [lB] at b2
    have hc' : (jl (L.take k)).2.1 + (jl (L.drop k)).2.1 ≤ 10000 := by rw [e] at hc; exact hc
    have fA : 0 ≤ (Win.at' (L.take k) 0).1 ∧ (Win.at' (L.take k) 0).1 ≤ 9999 := by
      rw [Win.at_get _ 0 (by omega)]
      exact (SA.1 _ (List.getElem_mem (by omega))).1
    have fB : 0 ≤ (Win.at' (L.drop k) 0).1 ∧ (Win.at' (L.drop k) 0).1 ≤ 9999 := by
      rw [Win.at_get _ 0 (by omega)]
      exact (SB.1 _ (List.getElem_mem (by omega))).1
    have oA : okW (jl (L.take k)) := ⟨by rw [a1]; exact fA, by omega, a4⟩
    have oB : okW (jl (L.drop k)) := ⟨by rw [b1]; exact fB, by omega, b4⟩
    have hlt : (jl (L.take k)).1 < (jl (L.drop k)).1 := by
      rw [a1, b1, Win.at_get _ 0 (by omega), Win.at_get _ 0 (by omega), List.getElem_take, List.getElem_drop]
      exact List.pairwise_iff_getElem.1 hS.2 0 (k + 0) (by omega) (by omega) (by omega)
    have SP : okS [jl (L.take k), jl (L.drop k)] := by
      refine ⟨fun x hx => ?_, ?_⟩
      · simp only [List.mem_cons, List.not_mem_nil, or_false] at hx
        rcases hx with rfl | rfl
        · exact oA
        · exact oB
      · simpa using hlt
    refine ⟨?_, ?_, ?_⟩
    · unfold winsJoin; rw [if_pos ⟨hA, (okSB_iff _).2 SA, by omega⟩]
    · unfold winsJoin; rw [if_pos ⟨hB, (okSB_iff _).2 SB, by omega⟩]
    · have e2 : jl [jl (L.take k), jl (L.drop k)] = jl L := by rw [e]; rfl
      unfold winsJoin
      rw [if_pos ⟨by simp, (okSB_iff _).2 SP, by rw [e2]; exact hc⟩, if_pos ⟨hne, hok, hc⟩, e2]
  · cases h
theorem min_upd (a l v : Int) : (if v < min a l then v else min a l) = min a (if v < l then v else l) := by split <;> split <;> omega
theorem max_upd (a l v : Int) : (if max a l < v then v else max a l) = max a (if l < v then v else l) := by split <;> split <;> omega
/-- a longer while -/
theorem winTo_app (b c : Int) (g h : List S) (hg : 0 < g.length) : ∀ k, k < h.length → winTo b (g ++ h) (g.length + (k + 1)) = tgP (winTo b g g.length) (winTo c h (k + 1)) := by
  have pre : ∀ j, j ≤ g.length → winTo b (g ++ h) j = winTo b g j := by
    intro j
    induction j with
    | zero =>
      intro _
      show (_, _, _, _, _, _) = (_, _, _, _, _, _)
      have : at' (g ++ h) 0 = at' g 0 := by unfold at'; rw [List.getD_eq_getElem?_getD, List.getD_eq_getElem?_getD, List.getElem?_append_left hg]
      rw [this]
    | succ j ih =>
      intro hj
      show upd (winTo b (g ++ h) j) (at' (g ++ h) j).2 = upd (winTo b g j) (at' g j).2
      have : at' (g ++ h) j = at' g j := by unfold at'; rw [List.getD_eq_getElem?_getD, List.getD_eq_getElem?_getD, List.getElem?_append_left (by omega)]
      rw [ih (by omega), this]
  have post : ∀ k, at' (g ++ h) (g.length + k) = at' h k := by
    intro k
    unfold at'
    rw [List.getD_eq_getElem?_getD, List.getD_eq_getElem?_getD, List.getElem?_append_right (by omega), Nat.add_sub_cancel_left]
  intro k
  induction k with
  | zero =>
    intro hk
    have e : winTo b (g ++ h) (g.length + 1) = upd (winTo b (g ++ h) g.length) (at' (g ++ h) g.length).2 := rfl
    rw [e, pre _ (Nat.le_refl _), show g.length = g.length + 0 from rfl, post 0, winTo_one]
    unfold upd tgP winOf
    simp only [Nat.add_zero, Prod.mk.injEq]
    refine ⟨trivial, trivial, trivial, ?_, ?_, trivial⟩
    · rw [Int.min_def]; split <;> split <;> omega
    · rw [Int.max_def]; split <;> split <;> omega
  | succ k ih =>
    intro hk
    have e : winTo b (g ++ h) (g.length + (k + 1 + 1)) = upd (winTo b (g ++ h) (g.length + (k + 1))) (at' (g ++ h) (g.length + (k + 1))).2 := rfl
    have e2 : winTo c h (k + 1 + 1) = upd (winTo c h (k + 1)) (at' h (k + 1)).2 := rfl
    rw [e, ih (by omega), post, e2]
    unfold upd tgP
    simp only [Prod.mk.injEq]
    refine ⟨trivial, by omega, by omega, ?_, ?_, trivial⟩
    · exact min_upd _ _ _
    · exact max_upd _ _ _
theorem winsTo_join {zs : List S} (h : ok zs = true) {f t st : Int} (h0 : 0 < st) : ∀ j : Nat, (∀ i : Nat, i < j → f + i * st < t) →
    (winsTo zs f t st j = [] ∧ cutL zs f (if t < f + j * st then t else f + j * st) = []) ∨ (winsTo zs f t st j ≠ [] ∧ cutL zs f (if t < f + j * st then t else f + j * st) ≠ [] ∧ jl (winsTo zs f t st j) = winTo (Win.at' (winsTo zs f t st j) 0).1 (cutL zs f (if t < f + j * st then t else f + j * st)) (cutL zs f (if t < f + j * st then t else f + j * st)).length) := by
  intro j
  induction j with
  | zero =>
    intro _
    left
    refine ⟨rfl, ?_⟩
    unfold cutL
    rw [List.filter_eq_nil_iff]
    intro x _
    simp only [inT, Bool.and_eq_true, decide_eq_true_eq, not_and]
    intro h1
    split <;> simp <;> omega
  | succ j ih =>
    intro hj
    have hb := hj j (by omega)
    have e : f + ((j + 1 : Nat) : Int) * st = f + j * st + st := by rw [Int.natCast_add, Int.add_mul]; simp; omega
    have ih := ih (fun i hi => hj i (by omega))
    rw [if_neg (show ¬ t < f + (j : Int) * st by omega)] at ih
    obtain ⟨b, eb⟩ : ∃ b, b = f + (j : Int) * st := ⟨_, rfl⟩
    have hfb : f ≤ b := by rw [eb]; have := Int.mul_nonneg (Int.natCast_nonneg j) (Int.le_of_lt h0); omega
    rw [e, winsTo, ← eb]
    rw [← eb] at ih hb
    obtain ⟨m, em⟩ : ∃ m, m = (if t < b + st then t else b + st) := ⟨_, rfl⟩
    have hm : b ≤ m ∧ m ≤ b + st := by rw [em]; split <;> omega
    rw [← em, ← cut_parts h hfb hm.1]
    generalize cutL zs f b = G at ih
    generalize cutL zs b m = H
    generalize winsTo zs f t st j = L at ih
    unfold oneW
    by_cases hH : H = []
    · subst hH
      rw [if_pos rfl, List.append_nil, List.append_nil]
      exact ih
    · rw [if_neg hH]
      have hHl := List.length_pos_iff.2 hH
      rcases ih with ⟨rfl, rfl⟩ | ⟨i1, i2, i3⟩
      · right
        refine ⟨by simp, by simpa using hH, ?_⟩
        simp only [List.nil_append]
        rw [jl_one]
        show _ = winTo (winTo b H H.length).1 H H.length
        rw [winTo_from]
      · right
        have hGl := List.length_pos_iff.2 i2
        refine ⟨by simp, by simp [i2], ?_⟩
        rw [jl_app i1 (by simp), jl_one, i3]
        have e0 : Win.at' (L ++ [winTo b H H.length]) 0 = Win.at' L 0 := by
          rw [Win.at_get _ 0 (by simp), Win.at_get _ 0 (List.length_pos_iff.2 i1), List.getElem_append_left (List.length_pos_iff.2 i1)]
        rw [e0, List.length_append]
        have := winTo_app (Win.at' L 0).1 b G H hGl (H.length - 1) (by omega)
        rw [show H.length - 1 + 1 = H.length by omega] at this
        rw [this]
theorem wins_join {zs : List S} {f t st : Int} (hne : wins zs f t st ≠ []) :
    ok zs = true ∧ cutL zs f t ≠ [] ∧ winsJoin (wins zs f t st) = (winTo (Win.at' (wins zs f t st) 0).1 (cutL zs f t) (cutL zs f t).length, true) := by
  by_cases hh : ok zs = true ∧ timesB f t = true ∧ thinB st = true
  · obtain ⟨h, ht, hs⟩ := hh
    have h0 : 0 < st := by unfold thinB at hs; simp at hs; omega
    have hT := times_is ht
    obtain ⟨j, hj, he⟩ := steps_exist (f := f) (t := t) h0 hT.2.2.1
    have hS := wins_okW zs f t st
    have hw := wins_all h ht hs hj he
    have hJ := winsTo_join h (f := f) (t := t) h0 j hj
    rw [show (if t < f + (j : Int) * st then t else f + (j : Int) * st) = t by split <;> omega, ← hw] at hJ
    rcases hJ with ⟨h1, -⟩ | ⟨-, h2, h3⟩
    · exact absurd h1 hne
    · refine ⟨h, h2, ?_⟩
      unfold winsJoin
      rw [if_pos ⟨hne, (okSB_iff _).2 hS, by rw [h3, winTo_count]; have := (cut_vals h f t).2; omega⟩, h3]
  · exact absurd (wins_bad hh) hne
end Go.Proofs.Ytogdllkbiibicaa.WinM

/- What samples of one while come to, of the model; cuts of samples at slices whose address is open. -/
namespace Go.Proofs.Ytogdllkbiibicaa.Sam
open Go.RowKit Rw
set_option linter.unusedVariables false
attribute [local go_sem ↓] Go.wp_at_zero Go.wp_at_succ
theorem impl_cut_zero (a : Option Addr) (cap : Nat) (f t : Int) (w : World) :
    Calls Try.prog 29 #[.slice a 0 cap, .int .i64 f, .int .i64 t] w fun e w' => ∃ v, e = .returned v ∧ w'.ownsRow w.heap.size 41 2 v (Samp.cut [] f t).length (flat (Samp.cut [] f t)) ∧ Below w.heap.size w w' := by
  have HOK := hide (fun W => impl_ok_zero a cap W)
  go_enter Try.func29, Try.ntmps29
  go_wp2_with (go_at_call 38; refine (unhide HOK _).mono ?_; rintro e w1 ⟨rfl, hb1⟩; rw [show SampMath.ok [] = true from rfl])
  refine wp_loop_rounds 1 ?_
  rw [rounds_succ]
  go_wp2
  go_ret
  exact ⟨_, rfl, World.ownsRow_nil _ _ _ _, hb1⟩
theorem l2cut_zero (a : Option Addr) (cap : Nat) (f t : Int) (w : World) :
    Calls Try.prog 46 #[.slice a 0 cap, .int .i64 f, .int .i64 t] w fun e w' => ∃ v, e = .returned v ∧ w'.ownsRow w.heap.size 41 2 v (Samp.cutL [] f t).length (flat (Samp.cutL [] f t)) ∧ Below w.heap.size w w' := by
  go_enter Try.func46, Try.ntmps46
  go_wp2
  refine wp_loop_rounds 1 ?_
  rw [rounds_succ]
  go_wp2
  go_ret
  exact ⟨_, rfl, own_empty (Nat.le_refl _), (Below.refl _ _).alloc (Nat.le_refl _) _⟩
theorem impl_cut {w : World} {v : Value} {zs : List E} (f t : Int) (h : Is w v zs) (hn : zs.length ≤ 4194304) :
    Calls Try.prog 29 #[v, .int .i64 f, .int .i64 t] w fun e w' => ∃ v, e = .returned v ∧ w'.ownsRow w.heap.size 41 2 v (Samp.cut zs f t).length (flat (Samp.cut zs f t)) ∧ Below w.heap.size w w' := by
  obtain ⟨-, a, cap, rfl, hc, hm, -, hr⟩ := id h
  by_cases h0 : zs.length = 0
  · obtain rfl : zs = [] := List.eq_nil_of_length_eq_zero h0
    exact impl_cut_zero a cap f t w
  · obtain ⟨b, off, rfl, hl, -⟩ := hr (by omega)
    refine (Samp.impl_cut f t (smp_of_is h ⟨b, off, _, cap, rfl, hl⟩) hn).mono ?_
    rintro e w' ⟨r, rfl, o, hb⟩
    rw [sflat_eq] at o
    exact ⟨r, rfl, o, hb⟩
theorem l2cut {w : World} {v : Value} {zs : List E} (f t : Int) (h : Is w v zs) (hn : zs.length ≤ 4194304) :
    Calls Try.prog 46 #[v, .int .i64 f, .int .i64 t] w fun e w' => ∃ v, e = .returned v ∧ w'.ownsRow w.heap.size 41 2 v (Samp.cutL zs f t).length (flat (Samp.cutL zs f t)) ∧ Below w.heap.size w w' := by
  obtain ⟨-, a, cap, rfl, hc, hm, -, hr⟩ := id h
  by_cases h0 : zs.length = 0
  · obtain rfl : zs = [] := List.eq_nil_of_length_eq_zero h0
    exact l2cut_zero a cap f t w
  · obtain ⟨b, off, rfl, hl, -⟩ := hr (by omega)
    refine (Samp.l2cut f t (smp_of_is h ⟨b, off, _, cap, rfl, hl⟩) hn).mono ?_
    rintro e w' ⟨r, rfl, o, hb⟩
    rw [sflat_eq] at o
    exact ⟨r, rfl, o, hb⟩
end Go.Proofs.Ytogdllkbiibicaa.Sam
namespace Go.Proofs.Ytogdllkbiibicaa.WinM
open Go.RowKit Rw
set_option linter.unusedVariables false
attribute [local go_sem ↓] Go.wp_at_zero Go.wp_at_succ
theorem own_new {w : World} {base : Nat} {cs : Array Value} {t : TypeId} (hb : base ≤ w.heap.size) (h : cs.size = 6) : (w.alloc (.cells cs t)).ownsRow base t 6 (.slice (some ⟨w.heap.size, 0, none⟩) 1 1) 1 cs.toList :=
  ⟨by simp [h], .inr ⟨w.heap.size, 1, cs, rfl, hb, heap_alloc_new w _, Nat.le_refl _, by unfold maxLen; omega, by simp [h], by simp [List.take_of_length_le, h]⟩⟩
abbrev Z6 : Array Value := #[.int .i64 0, .int .i64 0, .int .i64 0, .int .i64 0, .int .i64 0, .int .i64 0]
def vals (x : W6) : List Value := [.int .i64 x.1, .int .i64 x.2.1, .int .i64 x.2.2.1, .int .i64 x.2.2.2.1, .int .i64 x.2.2.2.2.1, .int .i64 x.2.2.2.2.2]
set_option maxRecDepth 100000 in
set_option maxHeartbeats 8000000 in
theorem l11win {w : World} {v : Value} {g : List SampMath.S} (b0 : Int) (h : Sam.Is w v g) (h0 : 0 < g.length) (hlen : g.length ≤ 10000) (hv : ∀ i, i < g.length → 0 ≤ (SampMath.at' g i).2 ∧ (SampMath.at' g i).2 ≤ 2147483647) :
    Calls Try.prog 47 #[.int .i64 b0, v] w fun e w' => e = .returned (.agg (vals (winTo b0 g g.length)).toArray) ∧ Below w.heap.size w w' := by
  obtain ⟨-, a, cap, rfl, hc, hm, -, -⟩ := id h
  obtain ⟨n, hn⟩ : ∃ n, n = g.length := ⟨_, rfl⟩
  rw [← hn] at hc h0 hlen h ⊢
  obtain ⟨b, off, rfl, hbl, hcell⟩ := Sam.v_cell h (Below.refl _ _) h0 hn
  have HC := hide hcell
  have HV := hide hv
  have HN := hide hn
  have hV0 := hv 0 (by omega)
  obtain ⟨V0, eV⟩ : ∃ V0, V0 = (SampMath.at' g 0).2 := ⟨_, rfl⟩
  have hx := (hcell 0 h0).2
  rw [← eV] at hx hV0
  have HV0 := hide eV
  unfold maxLen at hm
  have hn0 : (0 : Int) < (n : Int) := by omega
  obtain ⟨W, hW⟩ : ∃ W, w.alloc (.cells Z6 52) = W := ⟨_, rfl⟩
  have bW : Below w.heap.size w W := by rw [← hW]; exact (Below.refl _ _).alloc (Nat.le_refl _) _
  have zW : W.heap.size = w.heap.size + 1 := by rw [← hW]; simp
  have oR : W.ownsRow w.heap.size 52 6 (.slice (some ⟨w.heap.size, 0, none⟩) 1 1) 1 Z6.toList := by rw [← hW]; exact own_new (Nat.le_refl _) rfl
  have xW : W.cell? ⟨b, off + 1, none⟩ = some (.int .i64 V0) := (bW.cell (p := ⟨b, _, none⟩) hbl).trans (by simpa using hx)
  have hblW : b < W.heap.size := by omega
  have xD : W.drew.cell? ⟨b, off + 1, none⟩ = some (.int .i64 V0) := by simpa using xW
  have xA : (W.drew.alloc (.cells Z6 52)).cell? ⟨b, off + 1, none⟩ = some (.int .i64 V0) := (((Below.refl W.drew.heap.size W.drew).alloc (Nat.le_refl _) _).cell (p := ⟨b, _, none⟩) (by simpa using hblW)).trans xD
  clear hcell hv hn eV hx h
  go_enter Try.func47, Try.ntmps47
  go_wp2_with fail
  try rw [hW]
  clear hW
  go_region_with (fail)
  all_goals
    obtain ⟨W1, hW1⟩ : ∃ W1, W1 = (W.alloc (.cells #[.int .i64 b0, .int .i64 0, .int .i64 0, .int .i64 V0, .int .i64 V0, .int .i64 0] 52)).drew := ⟨_, rfl⟩
    rw [← hW1]
    have b1 : Below w.heap.size w W1 := by rw [hW1]; exact (bW.alloc bW.size _).drew
    have o1 : W1.ownsRow w.heap.size 52 6 (.slice (some ⟨w.heap.size + 1, 0, none⟩) 1 1) 1 (vals (winTo b0 g 0)) := by
      have := World.ownsRow.drew (own_new (w := W) (base := w.heap.size) (cs := #[.int .i64 b0, .int .i64 0, .int .i64 0, .int .i64 V0, .int .i64 V0, .int .i64 0]) (t := 52) bW.size rfl)
      rw [hW1, ← zW]
      rw [unhide HV0] at this ⊢
      exact this
    have r1 : W1.ownsRow w.heap.size 52 6 (.slice (some ⟨w.heap.size, 0, none⟩) 1 1) 1 Z6.toList := by
      rw [hW1]; exact World.ownsRow.drew (oR.alloc _)
    have HW := hide hW1
    clear hW1 xW xD xA oR
    go_wp2_with fail
    go_loopw [6] (fun iv wr => ∃ k : Nat, k ≤ n ∧ iv = .int .i64 k ∧ wr.ownsRow w.heap.size 52 6 (.slice (some ⟨w.heap.size + 1, 0, none⟩) 1 1) 1 (vals (winTo b0 g k)) ∧ wr.ownsRow w.heap.size 52 6 (.slice (some ⟨w.heap.size, 0, none⟩) 1 1) 1 Z6.toList ∧ Below w.heap.size w wr) (fun iv _ => n - (intOf iv).toNat)
    case atStart => exact ⟨0, Nat.zero_le _, rfl, o1, r1, b1⟩
    case round =>
      obtain ⟨k, hk, rfl, hox, hor, hbel⟩ := hrel
      by_cases hlt : k < n
      · have hcl := (unhide HC k hlt).2
        have hvk := unhide HV k (by have := unhide HN; omega)
        have hsm := winTo_sum (b := b0) (unhide HV) k (by have := unhide HN; omega)
        have hct := winTo_count b0 g k
        have hSu : winTo b0 g (k + 1) = upd (winTo b0 g k) (SampMath.at' g k).2 := rfl
        obtain ⟨V, eV⟩ : ∃ V, V = (SampMath.at' g k).2 := ⟨_, rfl⟩
        rw [← eV] at hcl hvk hSu
        obtain ⟨F, C, U, L, H, A, eX⟩ : ∃ F C U L H A, (F, C, U, L, H, A) = winTo b0 g k := ⟨_, _, _, _, _, _, rfl⟩
        rw [← eX] at hox hsm hct hSu
        simp only at hsm hct
        have hx : wr.cell? ⟨b, off + k * 2 + 1, none⟩ = some (.int .i64 V) := (hbel.cell (p := ⟨b, _, none⟩) hbl).trans hcl
        have hU : 0 ≤ U ∧ U ≤ 21474836470000 := by omega
        have hC : 0 ≤ C ∧ C ≤ 10000 := by omega
        have HSu := hide hSu
        have p0 : wr.ownsRow w.heap.size 52 6 (.slice (some ⟨w.heap.size + 1, 0, none⟩) 1 1) 1 [.int .i64 F, .int .i64 C, .int .i64 U, .int .i64 L, .int .i64 H, .int .i64 A] := hox
        have hk0 : (0 : Int) ≤ (k : Int) := Int.natCast_nonneg _
        have hk1 : (k : Int) < (n : Int) := by omega
        clear hcl hsm hct hSu eV eX hox
        have hd1 : wr.cell? ⟨w.heap.size + 1, 1, none⟩ = some (.int .i64 C) := by rw [p0.cellAt 1 (by omega)]; rfl
        have hf1 := p0.frozenAt 1
        have s1 := (p0.stored 1 (.int .i64 (C + 1))).1
        obtain ⟨w1, hw1⟩ : ∃ w', wr.setCell ⟨w.heap.size + 1, 1, none⟩ (.int .i64 (C + 1)) = w' := ⟨_, rfl⟩
        rw [hw1] at s1
        have q1 : w1.ownsRow w.heap.size 52 6 (.slice (some ⟨w.heap.size + 1, 0, none⟩) 1 1) 1 [.int .i64 F, .int .i64 (C + 1), .int .i64 U, .int .i64 L, .int .i64 H, .int .i64 A] := s1
        clear s1
        have hd2 : w1.cell? ⟨w.heap.size + 1, 2, none⟩ = some (.int .i64 U) := by rw [q1.cellAt 2 (by omega)]; rfl
        have hf2 := q1.frozenAt 2
        have s2 := (q1.stored 2 (.int .i64 (U + V))).1
        obtain ⟨w2, hw2⟩ : ∃ w', w1.setCell ⟨w.heap.size + 1, 2, none⟩ (.int .i64 (U + V)) = w' := ⟨_, rfl⟩
        rw [hw2] at s2
        have q2 : w2.ownsRow w.heap.size 52 6 (.slice (some ⟨w.heap.size + 1, 0, none⟩) 1 1) 1 [.int .i64 F, .int .i64 (C + 1), .int .i64 (U + V), .int .i64 L, .int .i64 H, .int .i64 A] := s2
        clear s2
        have hd5 : w2.cell? ⟨w.heap.size + 1, 5, none⟩ = some (.int .i64 A) := by rw [q2.cellAt 5 (by omega)]; rfl
        have hf5 := q2.frozenAt 5
        have s5 := (q2.stored 5 (.int .i64 V)).1
        obtain ⟨w3, hw5⟩ : ∃ w', w2.setCell ⟨w.heap.size + 1, 5, none⟩ (.int .i64 V) = w' := ⟨_, rfl⟩
        rw [hw5] at s5
        have q5 : w3.ownsRow w.heap.size 52 6 (.slice (some ⟨w.heap.size + 1, 0, none⟩) 1 1) 1 [.int .i64 F, .int .i64 (C + 1), .int .i64 (U + V), .int .i64 L, .int .i64 H, .int .i64 V] := s5
        clear s5
        have hd3 : w3.cell? ⟨w.heap.size + 1, 3, none⟩ = some (.int .i64 L) := by rw [q5.cellAt 3 (by omega)]; rfl
        have on3 := (((OnlyAt.refl (w.heap.size + 1) wr).setCell 1 (.int .i64 (C + 1))).setCell 2 (.int .i64 (U + V))).setCell 5 (.int .i64 V)
        rw [hw1, hw2, hw5] at on3
        by_cases hlo : V < L
        · have hdl : decide (V < L) = true := by simp; omega
          have hd3x : w3.cell? ⟨w.heap.size + 1, 3, none⟩ = some (.int .i64 L) := by rw [q5.cellAt 3 (by omega)]; rfl
          have hf3x := q5.frozenAt 3
          have s3x := (q5.stored 3 (.int .i64 V)).1
          obtain ⟨w4, hw3x⟩ : ∃ w', w3.setCell ⟨w.heap.size + 1, 3, none⟩ (.int .i64 V) = w' := ⟨_, rfl⟩
          rw [hw3x] at s3x
          have q3x : w4.ownsRow w.heap.size 52 6 (.slice (some ⟨w.heap.size + 1, 0, none⟩) 1 1) 1 [.int .i64 F, .int .i64 (C + 1), .int .i64 (U + V), .int .i64 V, .int .i64 H, .int .i64 V] := s3x
          clear s3x
          have on4 := on3.setCell 3 (.int .i64 V)
          rw [hw3x] at on4
          have hd4 : w4.cell? ⟨w.heap.size + 1, 4, none⟩ = some (.int .i64 H) := by rw [q3x.cellAt 4 (by omega)]; rfl
          by_cases hhi : H < V
          · have hdh : decide (H < V) = true := by simp; omega
            have hd4x : w4.cell? ⟨w.heap.size + 1, 4, none⟩ = some (.int .i64 H) := by rw [q3x.cellAt 4 (by omega)]; rfl
            have hf4x := q3x.frozenAt 4
            have s4x := (q3x.stored 4 (.int .i64 V)).1
            obtain ⟨w5, hw4x⟩ : ∃ w', w4.setCell ⟨w.heap.size + 1, 4, none⟩ (.int .i64 V) = w' := ⟨_, rfl⟩
            rw [hw4x] at s4x
            have q4x : w5.ownsRow w.heap.size 52 6 (.slice (some ⟨w.heap.size + 1, 0, none⟩) 1 1) 1 [.int .i64 F, .int .i64 (C + 1), .int .i64 (U + V), .int .i64 V, .int .i64 V, .int .i64 V] := s4x
            clear s4x
            have on5 := on4.setCell 4 (.int .i64 V)
            rw [hw4x] at on5
            have HF := hide (show winTo b0 g (k + 1) = (F, C + 1, U + V, V, V, V) by rw [unhide HSu]; simp only [upd]; rw [if_pos hlo, if_pos hhi])
            have RO := hide (on5.own hor (fun k hk => by simp only [Value.ownBlock, Option.some.injEq] at hk; omega))
            have RB := hide (hbel.trans (on5.below (show w.heap.size ≤ w.heap.size + 1 by omega)))
            have RQ := hide q4x
            clear on5 hor
            go_wp2_with fail
            go_roundw
            case rel => exact ⟨k + 1, by omega, by go_num, by rw [unhide HF]; exact unhide RQ, unhide RO, unhide RB⟩
            case measure => simp [intOf]; omega
          · have hdh : decide (H < V) = false := by simp; omega
            have HF := hide (show winTo b0 g (k + 1) = (F, C + 1, U + V, V, H, V) by rw [unhide HSu]; simp only [upd]; rw [if_pos hlo, if_neg hhi])
            have RO := hide (on4.own hor (fun k hk => by simp only [Value.ownBlock, Option.some.injEq] at hk; omega))
            have RB := hide (hbel.trans (on4.below (show w.heap.size ≤ w.heap.size + 1 by omega)))
            have RQ := hide q3x
            clear on4 hor
            go_wp2_with fail
            go_roundw
            case rel => exact ⟨k + 1, by omega, by go_num, by rw [unhide HF]; exact unhide RQ, unhide RO, unhide RB⟩
            case measure => simp [intOf]; omega
        · have hdl : decide (V < L) = false := by simp; omega
          have hd4 : w3.cell? ⟨w.heap.size + 1, 4, none⟩ = some (.int .i64 H) := by rw [q5.cellAt 4 (by omega)]; rfl
          by_cases hhi : H < V
          · have hdh : decide (H < V) = true := by simp; omega
            have hd4x : w3.cell? ⟨w.heap.size + 1, 4, none⟩ = some (.int .i64 H) := by rw [q5.cellAt 4 (by omega)]; rfl
            have hf4x := q5.frozenAt 4
            have s4x := (q5.stored 4 (.int .i64 V)).1
            obtain ⟨w5, hw4x⟩ : ∃ w', w3.setCell ⟨w.heap.size + 1, 4, none⟩ (.int .i64 V) = w' := ⟨_, rfl⟩
            rw [hw4x] at s4x
            have q4x : w5.ownsRow w.heap.size 52 6 (.slice (some ⟨w.heap.size + 1, 0, none⟩) 1 1) 1 [.int .i64 F, .int .i64 (C + 1), .int .i64 (U + V), .int .i64 L, .int .i64 V, .int .i64 V] := s4x
            clear s4x
            have on5 := on3.setCell 4 (.int .i64 V)
            rw [hw4x] at on5
            have HF := hide (show winTo b0 g (k + 1) = (F, C + 1, U + V, L, V, V) by rw [unhide HSu]; simp only [upd]; rw [if_neg hlo, if_pos hhi])
            have RO := hide (on5.own hor (fun k hk => by simp only [Value.ownBlock, Option.some.injEq] at hk; omega))
            have RB := hide (hbel.trans (on5.below (show w.heap.size ≤ w.heap.size + 1 by omega)))
            have RQ := hide q4x
            clear on5 hor
            go_wp2_with fail
            go_roundw
            case rel => exact ⟨k + 1, by omega, by go_num, by rw [unhide HF]; exact unhide RQ, unhide RO, unhide RB⟩
            case measure => simp [intOf]; omega
          · have hdh : decide (H < V) = false := by simp; omega
            have HF := hide (show winTo b0 g (k + 1) = (F, C + 1, U + V, L, H, V) by rw [unhide HSu]; simp only [upd]; rw [if_neg hlo, if_neg hhi])
            have RO := hide (on3.own hor (fun k hk => by simp only [Value.ownBlock, Option.some.injEq] at hk; omega))
            have RB := hide (hbel.trans (on3.below (show w.heap.size ≤ w.heap.size + 1 by omega)))
            have RQ := hide q5
            clear on3 hor
            go_wp2_with fail
            go_roundw
            case rel => exact ⟨k + 1, by omega, by go_num, by rw [unhide HF]; exact unhide RQ, unhide RO, unhide RB⟩
            case measure => simp [intOf]; omega
      · obtain rfl : k = n := by omega
        obtain ⟨F, C, U, L, H, A, eX⟩ : ∃ F C U L H A, (F, C, U, L, H, A) = winTo b0 g k := ⟨_, _, _, _, _, _, rfl⟩
        rw [← eX] at hox
        have HEX := hide eX
        have p0 : wr.ownsRow w.heap.size 52 6 (.slice (some ⟨w.heap.size + 1, 0, none⟩) 1 1) 1 [.int .i64 F, .int .i64 C, .int .i64 U, .int .i64 L, .int .i64 H, .int .i64 A] := hox
        have hd0 : wr.cell? ⟨w.heap.size + 1, 0, none⟩ = some (.int .i64 F) := by rw [p0.cellAt 0 (by omega)]; rfl
        have hd1 : wr.cell? ⟨w.heap.size + 1, 1, none⟩ = some (.int .i64 C) := by rw [p0.cellAt 1 (by omega)]; rfl
        have hd2 : wr.cell? ⟨w.heap.size + 1, 2, none⟩ = some (.int .i64 U) := by rw [p0.cellAt 2 (by omega)]; rfl
        have hd3 : wr.cell? ⟨w.heap.size + 1, 3, none⟩ = some (.int .i64 L) := by rw [p0.cellAt 3 (by omega)]; rfl
        have hd4 : wr.cell? ⟨w.heap.size + 1, 4, none⟩ = some (.int .i64 H) := by rw [p0.cellAt 4 (by omega)]; rfl
        have hd5 : wr.cell? ⟨w.heap.size + 1, 5, none⟩ = some (.int .i64 A) := by rw [p0.cellAt 5 (by omega)]; rfl
        clear eX hox p0
        have hr0 : wr.cell? ⟨w.heap.size, 0, none⟩ = some (.int .i64 0) := by rw [hor.cellAt 0 (by omega)]; rfl
        have hg0 := hor.frozenAt 0
        have t0 := (hor.stored 0 (.int .i64 F)).1
        obtain ⟨y0, hy0⟩ : ∃ w', wr.setCell ⟨w.heap.size, 0, none⟩ (.int .i64 F) = w' := ⟨_, rfl⟩
        rw [hy0] at t0
        have hr1 : y0.cell? ⟨w.heap.size, 1, none⟩ = some (.int .i64 0) := by rw [t0.cellAt 1 (by omega)]; rfl
        have hg1 := t0.frozenAt 1
        have t1 := (t0.stored 1 (.int .i64 C)).1
        obtain ⟨y1, hy1⟩ : ∃ w', y0.setCell ⟨w.heap.size, 1, none⟩ (.int .i64 C) = w' := ⟨_, rfl⟩
        rw [hy1] at t1
        have hr2 : y1.cell? ⟨w.heap.size, 2, none⟩ = some (.int .i64 0) := by rw [t1.cellAt 2 (by omega)]; rfl
        have hg2 := t1.frozenAt 2
        have t2 := (t1.stored 2 (.int .i64 U)).1
        obtain ⟨y2, hy2⟩ : ∃ w', y1.setCell ⟨w.heap.size, 2, none⟩ (.int .i64 U) = w' := ⟨_, rfl⟩
        rw [hy2] at t2
        have hr3 : y2.cell? ⟨w.heap.size, 3, none⟩ = some (.int .i64 0) := by rw [t2.cellAt 3 (by omega)]; rfl
        have hg3 := t2.frozenAt 3
        have t3 := (t2.stored 3 (.int .i64 L)).1
        obtain ⟨y3, hy3⟩ : ∃ w', y2.setCell ⟨w.heap.size, 3, none⟩ (.int .i64 L) = w' := ⟨_, rfl⟩
        rw [hy3] at t3
        have hr4 : y3.cell? ⟨w.heap.size, 4, none⟩ = some (.int .i64 0) := by rw [t3.cellAt 4 (by omega)]; rfl
        have hg4 := t3.frozenAt 4
        have t4 := (t3.stored 4 (.int .i64 H)).1
        obtain ⟨y4, hy4⟩ : ∃ w', y3.setCell ⟨w.heap.size, 4, none⟩ (.int .i64 H) = w' := ⟨_, rfl⟩
        rw [hy4] at t4
        have hr5 : y4.cell? ⟨w.heap.size, 5, none⟩ = some (.int .i64 0) := by rw [t4.cellAt 5 (by omega)]; rfl
        have hg5 := t4.frozenAt 5
        have t5 := (t4.stored 5 (.int .i64 A)).1
        obtain ⟨y5, hy5⟩ : ∃ w', y4.setCell ⟨w.heap.size, 5, none⟩ (.int .i64 A) = w' := ⟨_, rfl⟩
        rw [hy5] at t5
        have on := OnlyAt.refl w.heap.size wr
        have on := on.setCell 0 (.int .i64 F)
        rw [hy0] at on
        have on := on.setCell 1 (.int .i64 C)
        rw [hy1] at on
        have on := on.setCell 2 (.int .i64 U)
        rw [hy2] at on
        have on := on.setCell 3 (.int .i64 L)
        rw [hy3] at on
        have on := on.setCell 4 (.int .i64 H)
        rw [hy4] at on
        have on := on.setCell 5 (.int .i64 A)
        rw [hy5] at on
        have z0 : y5.cell? ⟨w.heap.size, 0, none⟩ = some (.int .i64 F) := by rw [t5.cellAt 0 (by omega)]; rfl
        have z1 : y5.cell? ⟨w.heap.size, 1, none⟩ = some (.int .i64 C) := by rw [t5.cellAt 1 (by omega)]; rfl
        have z2 : y5.cell? ⟨w.heap.size, 2, none⟩ = some (.int .i64 U) := by rw [t5.cellAt 2 (by omega)]; rfl
        have z3 : y5.cell? ⟨w.heap.size, 3, none⟩ = some (.int .i64 L) := by rw [t5.cellAt 3 (by omega)]; rfl
        have z4 : y5.cell? ⟨w.heap.size, 4, none⟩ = some (.int .i64 H) := by rw [t5.cellAt 4 (by omega)]; rfl
        have z5 : y5.cell? ⟨w.heap.size, 5, none⟩ = some (.int .i64 A) := by rw [t5.cellAt 5 (by omega)]; rfl
        have RB := hide (hbel.trans (on.below (Nat.le_refl _)))
        clear on hor t0 t1 t2 t3 t4 t5
        go_wp2_with fail
        refine bodyPost_ret (v := .agg #[.int .i64 F, .int .i64 C, .int .i64 U, .int .i64 L, .int .i64 H, .int .i64 A]) (by simp [results, Try.results47, go_sem, z0, z1, z2, z3, z4, z5]) rfl ⟨by rw [← unhide HEX]; rfl, unhide RB⟩
end Go.Proofs.Ytogdllkbiibicaa.WinM
