/- My own texts of one claim, laid together by program: DrawSamp2, JoinMath. -/
import Derived.Test.YtogdllkbiibicaaG5159c8d96d
import Derived.Test.YtogdllkbiibicaaGcb61fec047
/- Samples are drawn, some of them spoilt. -/
namespace Go.Proofs.Ytogdllkbiibicaa.Draw
open Go.RowKit Samp SampMath Rw
set_option linter.unusedVariables false
attribute [local go_sem ↓] Go.wp_at_zero Go.wp_at_succ
theorem flat_setT (zs : List S) (k : Nat) (h : k < zs.length) (T : Int) : flat (zs.set k (T, (at' zs k).2)) = (flat zs).set (k * 2) (.int .i64 T) := by
  induction zs generalizing k with
  | nil => simp at h
  | cons z zs ih =>
    rcases k with _ | k
    · simp [flat, at']
    · have := ih k (by simpa using h)
      have e : (k + 1) * 2 = k * 2 + 1 + 1 := by omega
      have e2 : at' (z :: zs) (k + 1) = at' zs k := by simp [at']
      simp only [flat, List.set_cons_succ, List.flatMap_cons, List.cons_append, List.nil_append, e, e2] at this ⊢
      rw [this]
theorem flat_setV (zs : List S) (k : Nat) (h : k < zs.length) (V : Int) : flat (zs.set k ((at' zs k).1, V)) = (flat zs).set (k * 2 + 1) (.int .i64 V) := by
  induction zs generalizing k with
  | nil => simp at h
  | cons z zs ih =>
    rcases k with _ | k
    · simp [flat, at']
    · have := ih k (by simpa using h)
      have e : (k + 1) * 2 + 1 = k * 2 + 1 + 1 + 1 := by omega
      have e2 : at' (z :: zs) (k + 1) = at' zs k := by simp [at']
      simp only [flat, List.set_cons_succ, List.flatMap_cons, List.cons_append, List.nil_append, e, e2] at this ⊢
      rw [this]
set_option maxRecDepth 100000 in
set_option maxHeartbeats 4000000 in
theorem anysamples_any (rb p most : Nat) (w : World) (h : Rd w rb p) (hp : p ≤ 600000) (hmost : most ≤ 1000) :
    Calls Try.prog 54 #[.pointer (some ⟨rb, 0, none⟩), .int .i64 most] w fun e w' => ∃ (zs : List S) (g cp : Nat), e = .returned (.slice (some ⟨g, 0, none⟩) zs.length cp) ∧ zs.length ≤ most ∧ w'.ownsRow w.heap.size 41 2 (.slice (some ⟨g, 0, none⟩) zs.length cp) zs.length (flat zs) ∧ (∃ p', p' ≤ p + 20 + 8 * most ∧ Rd w' rb p') ∧ w.grownBy w' (some rb) := by
  have hrl := h.lt
  have HR := hide h
  clear h
  go_enter Try.func54, Try.ntmps54
  go_wp2_with fail
  refine (samples_any rb p most _ (unhide HR) (by omega) hmost).mono ?_
  rintro e w1 ⟨zs, g, cp, rfl, hl, o1, ⟨p1, hp1, r1⟩, q1⟩
  obtain ⟨n, hn⟩ : ∃ n, n = zs.length := ⟨_, rfl⟩
  rw [← hn] at hl o1 ⊢
  have HN := hide hn
  clear hn HR
  rcases n with _ | n
  · go_wp2
    go_ret
    exact ⟨zs, g, cp, by rw [← unhide HN]; rfl, by have := unhide HN; omega, by rw [← unhide HN]; exact o1, ⟨p1, by omega, r1⟩, q1⟩
  · have hnp : 0 < n + 1 := by omega
    go_wp2_with fail
    refine (pick_any rb p1 _ _ r1 (by omega) (by omega)).mono ?_
    rintro e w2 ⟨m, rfl, m0, m1, -, r2, g2⟩
    have o2 := own_kept o1 g2 hrl
    have q2 := grown_trans q1 g2
    clear o1 q1 r1 g2 m1
    by_cases hm : m = 0
    · subst hm
      go_wp2_with fail
      refine (pick_any rb (p1 + 1) _ _ r2 (by omega) (by omega)).mono ?_
      rintro e w3 ⟨kk, rfl, k0, k1, -, r3, g3⟩
      have k2 : kk < ((n + 1 : Nat) : Int) := k1 (by omega)
      obtain ⟨k, rfl⟩ := Int.eq_ofNat_of_zero_le k0
      have o3 := own_kept o2 g3 hrl
      have q3 := grown_trans q2 g3
      clear o2 q2 r2 g3 k1
      go_wp2_with fail
      refine (pick_any rb (p1 + 1 + 1) _ _ r3 (by omega) (by omega)).mono ?_
      rintro e w4 ⟨c, rfl, c0, c1, -, r4, g4⟩
      have o4 := own_kept o3 g4 hrl
      have q4 := grown_trans q3 g4
      clear o3 q3 r3 g4 c1
      have hkl : k < zs.length := by have := unhide HN; omega
      have hk0 : (0 : Int) ≤ (k : Int) := Int.natCast_nonneg _
      have hk1 : (k : Int) < (n : Int) + 1 := by omega
      by_cases hc0 : c = 0
      · subst hc0
        go_wp2_with fail
        have hone := one_new rb (p1 + 1 + 1 + 1) [-1, 10000, 0] _ r4 (by omega) (by simp) (by simp)
        simp only [List.map_cons, List.map_nil, List.length_cons, List.length_nil, Nat.zero_add, Nat.reduceAdd] at hone
        refine hone.mono ?_
        clear hone
        rintro e w5 ⟨x, rfl, hx, r5, g5⟩
        have o5 := own_kept o4 g5 hrl
        have q5 := grown_trans q4 g5
        have u0 := o5.cellAt (k * 2) (by omega)
        have u1 := o5.cellAt (k * 2 + 1) (by omega)
        rw [(flat_get zs k hkl).1] at u0
        rw [(flat_get zs k hkl).2] at u1
        have f0 := o5.frozenAt (k * 2)
        have f1 := o5.frozenAt (k * 2 + 1)
        clear o4 q4 r4 g5 hx
        have hge : w.heap.size ≤ g := own_ge o5 g rfl
        have O := hide (show (w5.setCell ⟨g, k * 2, none⟩ (.int .i64 x)).ownsRow w.heap.size 41 2 (.slice (some ⟨g, 0, none⟩) (n + 1) cp) (n + 1) (flat (zs.set k (x, (at' zs k).2))) by
          rw [flat_setT zs k hkl x]
          exact (o5.stored (k * 2) (.int .i64 x)).1)
        have gS := grown_only ((OnlyAt.refl g w5).setCell (k * 2) (.int .i64 x))
        have Q := grown_other q5 gS (fun j hj => by cases hj; exact hge)
        have R := r5.grown gS (fun j hj => by cases hj; omega)
        have HL := hide (show (zs.set k (x, (at' zs k).2)).length = n + 1 by rw [List.length_set, ← unhide HN])
        clear o5 gS
        go_wp2
        go_ret
        exact ⟨zs.set k (x, (at' zs k).2), g, cp, by rw [unhide HL]; rfl, by rw [unhide HL]; omega, by rw [unhide HL]; exact unhide O, ⟨p1 + 1 + 1 + 1 + 1, by omega, R⟩, Q⟩
      by_cases hc1 : c = 1
      · subst hc1
        go_wp2_with fail
        have hone := one_new rb (p1 + 1 + 1 + 1) [-1, 2147483648] _ r4 (by omega) (by simp) (by simp)
        simp only [List.map_cons, List.map_nil, List.length_cons, List.length_nil, Nat.zero_add, Nat.reduceAdd] at hone
        refine hone.mono ?_
        clear hone
        rintro e w5 ⟨x, rfl, hx, r5, g5⟩
        have o5 := own_kept o4 g5 hrl
        have q5 := grown_trans q4 g5
        have u0 := o5.cellAt (k * 2) (by omega)
        have u1 := o5.cellAt (k * 2 + 1) (by omega)
        rw [(flat_get zs k hkl).1] at u0
        rw [(flat_get zs k hkl).2] at u1
        have f0 := o5.frozenAt (k * 2)
        have f1 := o5.frozenAt (k * 2 + 1)
        clear o4 q4 r4 g5 hx
        have hge : w.heap.size ≤ g := own_ge o5 g rfl
        have O := hide (show (w5.setCell ⟨g, k * 2 + 1, none⟩ (.int .i64 x)).ownsRow w.heap.size 41 2 (.slice (some ⟨g, 0, none⟩) (n + 1) cp) (n + 1) (flat (zs.set k ((at' zs k).1, x))) by
          rw [flat_setV zs k hkl x]
          exact (o5.stored (k * 2 + 1) (.int .i64 x)).1)
        have gS := grown_only ((OnlyAt.refl g w5).setCell (k * 2 + 1) (.int .i64 x))
        have Q := grown_other q5 gS (fun j hj => by cases hj; exact hge)
        have R := r5.grown gS (fun j hj => by cases hj; omega)
        have HL := hide (show (zs.set k ((at' zs k).1, x)).length = n + 1 by rw [List.length_set, ← unhide HN])
        clear o5 gS
        go_wp2
        go_ret
        exact ⟨zs.set k ((at' zs k).1, x), g, cp, by rw [unhide HL]; rfl, by rw [unhide HL]; omega, by rw [unhide HL]; exact unhide O, ⟨p1 + 1 + 1 + 1 + 1, by omega, R⟩, Q⟩
      have v0 := o4.cellAt 0 (by omega)
      have u0 := o4.cellAt (k * 2) (by omega)
      rw [(flat_get zs k hkl).1] at u0
      have hz := (flat_get zs 0 (by omega)).1
      rw [Nat.zero_mul] at hz
      rw [hz] at v0
      have f0 := o4.frozenAt (k * 2)
      obtain ⟨T, hT⟩ : ∃ T, T = (at' zs 0).1 := ⟨_, rfl⟩
      rw [← hT] at v0
      clear hT hz
      have hge : w.heap.size ≤ g := own_ge o4 g rfl
      have O := hide (show (w4.setCell ⟨g, k * 2, none⟩ (.int .i64 T)).ownsRow w.heap.size 41 2 (.slice (some ⟨g, 0, none⟩) (n + 1) cp) (n + 1) (flat (zs.set k (T, (at' zs k).2))) by
        rw [flat_setT zs k hkl T]
        exact (o4.stored (k * 2) (.int .i64 T)).1)
      have gS := grown_only ((OnlyAt.refl g w4).setCell (k * 2) (.int .i64 T))
      have Q := grown_other q4 gS (fun j hj => by cases hj; exact hge)
      have R := r4.grown gS (fun j hj => by cases hj; omega)
      have HL := hide (show (zs.set k (T, (at' zs k).2)).length = n + 1 by rw [List.length_set, ← unhide HN])
      clear o4 gS
      go_wp2
      go_ret
      exact ⟨zs.set k (T, (at' zs k).2), g, cp, by rw [unhide HL]; rfl, by rw [unhide HL]; omega, by rw [unhide HL]; exact unhide O, ⟨p1 + 1 + 1 + 1, by omega, R⟩, Q⟩
    · go_wp2
      go_ret
      exact ⟨zs, g, cp, by rw [← unhide HN]; rfl, by have := unhide HN; omega, by rw [← unhide HN]; exact o2, ⟨p1 + 1, by omega, r2⟩, q2⟩
end Go.Proofs.Ytogdllkbiibicaa.Draw

/- Samples of both, as plain mathematics: by time, each once; none if they have two numbers for one time. No condition. -/
namespace Go.Proofs.Ytogdllkbiibicaa.SampMath
def merge : List S → List S → Option (List S)
  | [], b => some b
  | x :: a, [] => some (x :: a)
  | x :: a, y :: b =>
    if x.1 < y.1 then (merge a (y :: b)).map (x :: ·)
    else if y.1 < x.1 then (merge (x :: a) b).map (y :: ·)
    else if x.2 = y.2 then (merge a b).map (x :: ·) else none
theorem merge_nil (b : List S) : merge [] b = some b := by rw [merge]
theorem merge_nil_right (a : List S) : merge a [] = some a := by cases a <;> rw [merge]
theorem drop_at (zs : List S) (i : Nat) (h : i < zs.length) : zs.drop i = at' zs i :: zs.drop (i + 1) := by
  rw [List.drop_eq_getElem_cons h]; simp [at', List.getD, h]
/-- what the loops keep: the result is what is out, and what is left together -/
def MLeft (a b L : List S) (i j : Nat) : Prop := merge a b = (merge (a.drop i) (b.drop j)).map (L ++ ·)
theorem left_start (a b : List S) : MLeft a b [] 0 0 := by
  unfold MLeft
  simp
theorem left_first {a b L : List S} {i j : Nat} (h : MLeft a b L i j) (hi : i < a.length) (hj : j < b.length) (hlt : (at' a i).1 < (at' b j).1) : MLeft a b (L ++ [at' a i]) (i + 1) j := by
  unfold MLeft at *
  rw [h, drop_at a i hi, drop_at b j hj, merge, if_pos hlt, Option.map_map, ← drop_at b j hj]
  congr 1
  funext x
  simp
theorem left_second {a b L : List S} {i j : Nat} (h : MLeft a b L i j) (hi : i < a.length) (hj : j < b.length) (hlt : (at' b j).1 < (at' a i).1) : MLeft a b (L ++ [at' b j]) i (j + 1) := by
  unfold MLeft at *
  rw [h, drop_at a i hi, drop_at b j hj, merge, if_neg (by omega), if_pos hlt, Option.map_map, ← drop_at a i hi]
  congr 1
  funext x
  simp
theorem left_both {a b L : List S} {i j : Nat} (h : MLeft a b L i j) (hi : i < a.length) (hj : j < b.length) (ht : (at' a i).1 = (at' b j).1) (hv : (at' a i).2 = (at' b j).2) : MLeft a b (L ++ [at' a i]) (i + 1) (j + 1) := by
  unfold MLeft at *
  rw [h, drop_at a i hi, drop_at b j hj, merge, if_neg (by omega), if_neg (by omega), if_pos hv, Option.map_map]
  congr 1
  funext x
  simp
theorem left_clash {a b L : List S} {i j : Nat} (h : MLeft a b L i j) (hi : i < a.length) (hj : j < b.length) (ht : (at' a i).1 = (at' b j).1) (hv : (at' a i).2 ≠ (at' b j).2) : merge a b = none := by
  unfold MLeft at *
  rw [h, drop_at a i hi, drop_at b j hj, merge, if_neg (by omega), if_neg (by omega), if_neg hv]
  rfl
theorem left_end_a {a b L : List S} {i j : Nat} (h : MLeft a b L i j) (hi : a.length ≤ i) : merge a b = some (L ++ b.drop j) := by
  unfold MLeft at *
  rw [h, List.drop_eq_nil_of_le hi, merge_nil]
  rfl
theorem left_end_b {a b L : List S} {i j : Nat} (h : MLeft a b L i j) (hj : b.length ≤ j) : merge a b = some (L ++ a.drop i) := by
  unfold MLeft at *
  rw [h, List.drop_eq_nil_of_le hj, merge_nil_right]
  rfl
/-- what SamplesJoin answers -/
def join (a b : List S) : List S × Bool := if ok a = true ∧ ok b = true then (match merge a b with | some L => (L, true) | none => ([], false)) else ([], false)
theorem join_bad {a b : List S} (h : ok a = false ∨ ok b = false) : join a b = ([], false) := by
  unfold join
  rw [if_neg]
  rintro ⟨h1, h2⟩
  rcases h with h | h <;> simp_all
theorem join_some {a b L : List S} (h1 : ok a = true) (h2 : ok b = true) (h : merge a b = some L) : join a b = (L, true) := by
  unfold join
  rw [if_pos ⟨h1, h2⟩, h]
theorem join_none {a b : List S} (h1 : ok a = true) (h2 : ok b = true) (h : merge a b = none) : join a b = ([], false) := by
  unfold join
  rw [if_pos ⟨h1, h2⟩, h]
theorem merge_le : ∀ (a b L : List S), merge a b = some L → L.length ≤ a.length + b.length := by
  intro a b
  induction a, b using merge.induct with
  | case1 b => intro L h; rw [merge_nil] at h; cases h; simp
  | case2 x a => intro L h; rw [merge_nil_right] at h; cases h; simp
  | case3 x a y b hlt ih =>
    intro L h
    rw [merge, if_pos hlt] at h
    obtain ⟨M, hM, rfl⟩ := Option.map_eq_some_iff.1 h
    have := ih M hM
    simp only [List.length_cons] at *
    omega
  | case4 x a y b h1 hlt ih =>
    intro L h
    rw [merge, if_neg h1, if_pos hlt] at h
    obtain ⟨M, hM, rfl⟩ := Option.map_eq_some_iff.1 h
    have := ih M hM
    simp only [List.length_cons] at *
    omega
  | case5 x a y b h1 h2 hv ih =>
    intro L h
    rw [merge, if_neg h1, if_neg h2, if_pos hv] at h
    obtain ⟨M, hM, rfl⟩ := Option.map_eq_some_iff.1 h
    have := ih M hM
    simp only [List.length_cons] at *
    omega
  | case6 x a y b h1 h2 hv =>
    intro L h
    rw [merge, if_neg h1, if_neg h2, if_neg hv] at h
    cases h
theorem join_le (a b : List S) : (join a b).1.length ≤ a.length + b.length := by
  unfold join
  split
  · cases h : merge a b with
    | none => simp
    | some L => exact merge_le a b L h
  · simp
end Go.Proofs.Ytogdllkbiibicaa.SampMath
