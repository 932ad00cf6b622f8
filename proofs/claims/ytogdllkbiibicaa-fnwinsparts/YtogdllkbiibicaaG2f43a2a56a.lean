/- My own texts of one claim, laid together by program: DrawSampG, WinLaw. -/
import Derived.Test.YtogdllkbiibicaaG3b0891f528
import Derived.Test.YtogdllkbiibicaaG81f535c845
import Derived.ChangeArms
/- Samples that are drawn lie between bounds. -/
namespace Go.Proofs.Ytogdllkbiibicaa.Draw
open Go.RowKit Samp SampMath Rw
set_option linter.unusedVariables false
attribute [local go_sem ↓] Go.wp_at_zero Go.wp_at_succ
def sgood (z : S) : Prop := -1 ≤ z.1 ∧ z.1 ≤ 20000 ∧ -1 ≤ z.2 ∧ z.2 ≤ 2147483648
def SG (L : List S) : Prop := ∀ z ∈ L, sgood z
theorem sg_snoc {L : List S} {x : S} (h : ∀ z ∈ L, sgood z) (hx : sgood x) : ∀ z ∈ L ++ [x], sgood z := by
  intro z hz
  rcases List.mem_append.1 hz with hz | hz
  · exact h z hz
  · rw [List.mem_singleton.1 hz]; exact hx
theorem sg_at {zs : List S} {k : Nat} (h : ∀ z ∈ zs, sgood z) (hk : k < zs.length) : sgood (at' zs k) := by
  have e : at' zs k = zs[k] := by simp [at', List.getD, hk]
  rw [e]; exact h _ (List.getElem_mem hk)
theorem sg_set {zs : List S} {k : Nat} {x : S} (h : ∀ z ∈ zs, sgood z) (hx : sgood x) : ∀ z ∈ zs.set k x, sgood z := by
  intro z hz
  rcases List.mem_or_eq_of_mem_set hz with hz | hz
  · exact h z hz
  · rw [hz]; exact hx
set_option maxRecDepth 100000 in
set_option maxHeartbeats 4000000 in
theorem samples_good (rb p most : Nat) (w : World) (h : Rd w rb p) (hp : p ≤ 700000) (hmost : most ≤ 1000) :
    Calls Try.prog 63 #[.pointer (some ⟨rb, 0, none⟩), .int .i64 most] w fun e w' => ∃ (zs : List S) (g cp : Nat), e = .returned (.slice (some ⟨g, 0, none⟩) zs.length cp) ∧ zs.length ≤ most ∧ SG zs ∧ w'.ownsRow w.heap.size 41 2 (.slice (some ⟨g, 0, none⟩) zs.length cp) zs.length (flat zs) ∧ (∃ p', p' ≤ p + 9 + 8 * most ∧ Rd w' rb p') ∧ w.grownBy w' (some rb) := by
  obtain ⟨i0, hi, hz0, hz1, hz2⟩ := info_parts info_sample
  have hrl := h.lt
  have HR := hide h
  clear h
  go_enter Try.func63, Try.ntmps63
  go_wp2_with fail
  refine (pick_any rb p _ _ ((unhide HR).below ((Below.refl _ _).alloc (Nat.le_refl _) _)) (by omega) (by omega)).mono ?_
  rintro e w1 ⟨x, rfl, x0, x1, -, r1, g1⟩
  have x2 : x < 300 := x1 (by omega)
  have o1 := own_kept (own_empty (w := w) (base := w.heap.size) (e := 41) (size := 2) (Nat.le_refl _)) g1 hrl
  have q1 : w.grownBy w1 (some rb) := grown_trans (grown_below ((Below.refl _ _).alloc (Nat.le_refl _) _)) g1
  clear x1 HR g1
  go_wp2_with fail
  have hone := one_new rb (p + 1) [0, x, 9000, 5000] _ r1 (by omega) (by simp) (by simp)
  simp only [List.map_cons, List.map_nil, List.length_cons, List.length_nil, Nat.zero_add, Nat.reduceAdd] at hone
  refine hone.mono ?_
  clear hone
  rintro e w2 ⟨t, rfl, ht, r2, g2⟩
  have t0 : 0 ≤ t ∧ t ≤ 9000 := by
    simp only [List.mem_cons, List.not_mem_nil, or_false] at ht
    omega
  have o2 := own_kept o1 g2 hrl
  have q2 := grown_trans q1 g2
  clear ht o1 q1 r1 g2
  go_wp2_with fail
  refine (value_any rb (p + 1 + 1) _ r2 (by omega)).mono ?_
  rintro e w3 ⟨v, rfl, v0, v1, r3, g3⟩
  have o3 := own_kept o2 g3 hrl
  have q3 := grown_trans q2 g3
  clear o2 q2 r2 g3
  go_wp2_with fail
  refine (pick_any rb (p + 1 + 1 + 6) _ _ r3 (by omega) (by omega)).mono ?_
  rintro e w4 ⟨n, rfl, n0, n1, -, r4, g4⟩
  have n2 : n < (most : Int) + 1 := n1 (by omega)
  have o4 := own_kept o3 g4 hrl
  have q4 := grown_trans q3 g4
  clear o3 q3 r3 g4 n1
  go_wp2_with fail
  go_loopw [5, 6, 7, 8] (fun ov tv vv nv wr => ∃ (k : Nat) (L : List S) (p' g cp : Nat) (T V : Int), nv = .int .i64 (k : Int) ∧ L.length + k ≤ most ∧ p' ≤ p + 9 + 8 * L.length ∧ ov = .slice (some ⟨g, 0, none⟩) L.length cp ∧ tv = .int .i64 T ∧ vv = .int .i64 V ∧ 0 ≤ T ∧ T ≤ 20000 ∧ 0 ≤ V ∧ V ≤ 2147483647 ∧ SG L ∧ wr.ownsRow w.heap.size 41 2 ov L.length (flat L) ∧ Rd wr rb p' ∧ w.grownBy wr (some rb)) (fun _ _ _ nv _ => (intOf nv).toNat)
  case atStart => exact ⟨n.toNat, [], p + 1 + 1 + 6 + 1, w.heap.size, 0, t, v, by rw [Int.toNat_of_nonneg n0], by simp; omega, by simp, rfl, rfl, rfl, t0.1, by omega, v0, v1, (fun z hz => (by cases hz)), o4, r4, q4⟩
  case round =>
    clear o4 q4 r4
    obtain ⟨k, L, p', g, cp, T, V, rfl, hk, hp', rfl, rfl, rfl, hT0, hT1, hV0, hV1, HG, hown, hrd, hg⟩ := hrel
    have hsz := hg.size
    by_cases hk0 : 0 < k
    · have hk1 : (0 : Int) < (k : Int) := by omega
      by_cases hT9 : T ≤ 9999
      · have HG2 : SG (L ++ [(T, V)]) := sg_snoc (x := (T, V)) HG ⟨by show -1 ≤ T; omega, hT1, by show -1 ≤ V; omega, by show V ≤ 2147483648; omega⟩
        go_wp2_with (at_builtin; refine wpList_append_lies _ rfl _ _ _ rfl w.heap.size 41 i0 _ 2 16 Try.underlying25 hi hz0 hz1 hz2 rfl (by omega) _ L.length _ rfl (hown.alloc _) _ 1 1 [.int .i64 T, .int .i64 V] rfl rfl (World.news_of_block (cs := #[.int .i64 T, .int .i64 V]) (t := 41) (fr := (0, 0)) (heap_alloc_new _ _)) (by simp [Value.oneCell']) (by omega) (by unfold maxLen; omega) (by omega) (by simp; omega) _ rfl ?_; intro gg cap2 w9 hown2 hgrow hat hlt2)
        have ge := own_ge hown
        have gA : wr.grownBy (wr.alloc (.cells #[.int .i64 T, .int .i64 V] 41)) (some rb) := grown_below ((Below.refl _ _).alloc (Nat.le_refl _) _)
        have R : w.grownBy w9 (some rb) := grown_other (grown_trans hg gA) hgrow ge
        have R1 : Rd w9 rb p' := (hrd.below ((Below.refl _ _).alloc (Nat.le_refl _) _)).grown hgrow (fun k hk => by have := ge k hk; omega)
        have R2 : w9.ownsRow w.heap.size 41 2 (.slice (some ⟨gg, 0, none⟩) (L.length + 1) cap2) (L ++ [(T, V)]).length (flat (L ++ [(T, V)])) := by
          rw [List.length_append, flat_append]; exact hown2
        clear hown2 hgrow ge gA hown hg hrd
        have hone := one_new rb p' [1, 1, 10, 10, 10, 63, 64, 65, 130, 700] _ R1 (by omega) (by simp) (by simp)
        simp only [List.map_cons, List.map_nil, List.length_cons, List.length_nil, Nat.zero_add, Nat.reduceAdd] at hone
        refine hone.mono ?_
        clear hone
        rintro e w5 ⟨d, rfl, hd, r5, g5⟩
        have d0 : 1 ≤ d ∧ d ≤ 700 := by
          simp only [List.mem_cons, List.not_mem_nil, or_false] at hd
          omega
        obtain ⟨d1, d2⟩ := d0
        have o5 := own_kept R2 g5 hrl
        have q5 := grown_trans R g5
        clear hd R R1 R2 g5
        go_wp2_with fail
        refine (pick_any rb (p' + 1) _ _ r5 (by omega) (by omega)).mono ?_
        rintro e w6 ⟨m, rfl, m0, m1, -, r6, g6⟩
        have o6 := own_kept o5 g6 hrl
        have q6 := grown_trans q5 g6
        clear o5 q5 r5 g6 m1
        by_cases hm : 0 < m
        · go_wp2_with fail
          refine (value_any rb (p' + 1 + 1) _ r6 (by omega)).mono ?_
          rintro e w7 ⟨v', rfl, v0', v1', r7, g7⟩
          have o7 := own_kept o6 g7 hrl
          have q7 := grown_trans q6 g7
          have HO := hide o7
          clear o6 q6 r6 g7 o7
          go_wp2
          go_roundw
          case rel => exact ⟨k - 1, L ++ [(T, V)], p' + 1 + 1 + 6, gg, cap2, T + d, v', by go_num, by simp; omega, by simp; omega, by simp, by go_num, rfl, by omega, by omega, v0', v1', HG2, by simpa using unhide HO, r7, q7⟩
          case measure => simp [intOf]; omega
        · have HO := hide o6
          clear o6
          go_wp2
          go_roundw
          case rel => exact ⟨k - 1, L ++ [(T, V)], p' + 1 + 1, gg, cap2, T + d, V, by go_num, by simp; omega, by simp; omega, by simp, by go_num, rfl, by omega, by omega, hV0, hV1, HG2, by simpa using unhide HO, r6, q6⟩
          case measure => simp [intOf]; omega
      · go_wp2
        go_ret
        exact ⟨L, g, cp, rfl, by omega, HG, hown, ⟨p', by omega, hrd⟩, hg⟩
    · go_wp2
      go_ret
      exact ⟨L, g, cp, rfl, by omega, HG, hown, ⟨p', by omega, hrd⟩, hg⟩
set_option maxRecDepth 100000 in
set_option maxHeartbeats 4000000 in
theorem anysamples_good (rb p most : Nat) (w : World) (h : Rd w rb p) (hp : p ≤ 600000) (hmost : most ≤ 1000) :
    Calls Try.prog 54 #[.pointer (some ⟨rb, 0, none⟩), .int .i64 most] w fun e w' => ∃ (zs : List S) (g cp : Nat), e = .returned (.slice (some ⟨g, 0, none⟩) zs.length cp) ∧ zs.length ≤ most ∧ SG zs ∧ w'.ownsRow w.heap.size 41 2 (.slice (some ⟨g, 0, none⟩) zs.length cp) zs.length (flat zs) ∧ (∃ p', p' ≤ p + 20 + 8 * most ∧ Rd w' rb p') ∧ w.grownBy w' (some rb) := by
  have hrl := h.lt
  have HR := hide h
  clear h
  go_enter Try.func54, Try.ntmps54
  go_wp2_with fail
  refine (samples_good rb p most _ (unhide HR) (by omega) hmost).mono ?_
  rintro e w1 ⟨zs, g, cp, rfl, hl, hsg, o1, ⟨p1, hp1, r1⟩, q1⟩
  have HSG := hide hsg
  clear hsg
  obtain ⟨n, hn⟩ : ∃ n, n = zs.length := ⟨_, rfl⟩
  rw [← hn] at hl o1 ⊢
  have HN := hide hn
  clear hn HR
  rcases n with _ | n
  · go_wp2
    go_ret
    exact ⟨zs, g, cp, by rw [← unhide HN]; rfl, by have := unhide HN; omega, unhide HSG, by rw [← unhide HN]; exact o1, ⟨p1, by omega, r1⟩, q1⟩
  · have hnp : 0 < n + 1 := by omega
    go_wp2_with fail
    refine (pick_any rb p1 _ _ r1 (by omega) (by omega)).mono ?_
    rintro e w2 ⟨m, rfl, m0, m1, -, r2, g2⟩
    have o2 := own_kept o1 g2 hrl
    have q2 := grown_trans q1 g2
    clear o1 q1 r1 g2 m1
    by_cases hm : m = 0
    · subst hm
      go_wp2_with fail
      refine (pick_any rb (p1 + 1) _ _ r2 (by omega) (by omega)).mono ?_
      rintro e w3 ⟨kk, rfl, k0, k1, -, r3, g3⟩
      have k2 : kk < ((n + 1 : Nat) : Int) := k1 (by omega)
      obtain ⟨k, rfl⟩ := Int.eq_ofNat_of_zero_le k0
      have o3 := own_kept o2 g3 hrl
      have q3 := grown_trans q2 g3
      clear o2 q2 r2 g3 k1
      go_wp2_with fail
      refine (pick_any rb (p1 + 1 + 1) _ _ r3 (by omega) (by omega)).mono ?_
      rintro e w4 ⟨c, rfl, c0, c1, -, r4, g4⟩
      have o4 := own_kept o3 g4 hrl
      have q4 := grown_trans q3 g4
      clear o3 q3 r3 g4 c1
      have hkl : k < zs.length := by have := unhide HN; omega
      have hk0 : (0 : Int) ≤ (k : Int) := Int.natCast_nonneg _
      have hk1 : (k : Int) < (n : Int) + 1 := by omega
      by_cases hc0 : c = 0
      · subst hc0
        go_wp2_with fail
        have hone := one_new rb (p1 + 1 + 1 + 1) [-1, 10000, 0] _ r4 (by omega) (by simp) (by simp)
        simp only [List.map_cons, List.map_nil, List.length_cons, List.length_nil, Nat.zero_add, Nat.reduceAdd] at hone
        refine hone.mono ?_
        clear hone
        rintro e w5 ⟨x, rfl, hx, r5, g5⟩
        have o5 := own_kept o4 g5 hrl
        have q5 := grown_trans q4 g5
        have u0 := o5.cellAt (k * 2) (by omega)
        have u1 := o5.cellAt (k * 2 + 1) (by omega)
        rw [(flat_get zs k hkl).1] at u0
        rw [(flat_get zs k hkl).2] at u1
        have f0 := o5.frozenAt (k * 2)
        have f1 := o5.frozenAt (k * 2 + 1)
        have HX := hide (show sgood (x, (at' zs k).2) by
          simp only [List.mem_cons, List.not_mem_nil, or_false] at hx
          have := sg_at (unhide HSG) hkl
          exact ⟨by show -1 ≤ x; omega, by show x ≤ 20000; omega, this.2.2⟩)
        clear o4 q4 r4 g5 hx
        have hge : w.heap.size ≤ g := own_ge o5 g rfl
        have O := hide (show (w5.setCell ⟨g, k * 2, none⟩ (.int .i64 x)).ownsRow w.heap.size 41 2 (.slice (some ⟨g, 0, none⟩) (n + 1) cp) (n + 1) (flat (zs.set k (x, (at' zs k).2))) by
          rw [flat_setT zs k hkl x]
          exact (o5.stored (k * 2) (.int .i64 x)).1)
        have gS := grown_only ((OnlyAt.refl g w5).setCell (k * 2) (.int .i64 x))
        have Q := grown_other q5 gS (fun j hj => by cases hj; exact hge)
        have R := r5.grown gS (fun j hj => by cases hj; omega)
        have HL := hide (show (zs.set k (x, (at' zs k).2)).length = n + 1 by rw [List.length_set, ← unhide HN])
        clear o5 gS
        go_wp2
        go_ret
        exact ⟨zs.set k (x, (at' zs k).2), g, cp, by rw [unhide HL]; rfl, by rw [unhide HL]; omega, sg_set (unhide HSG) (unhide HX), by rw [unhide HL]; exact unhide O, ⟨p1 + 1 + 1 + 1 + 1, by omega, R⟩, Q⟩
      by_cases hc1 : c = 1
      · subst hc1
        go_wp2_with fail
        have hone := one_new rb (p1 + 1 + 1 + 1) [-1, 2147483648] _ r4 (by omega) (by simp) (by simp)
        simp only [List.map_cons, List.map_nil, List.length_cons, List.length_nil, Nat.zero_add, Nat.reduceAdd] at hone
        refine hone.mono ?_
        clear hone
        rintro e w5 ⟨x, rfl, hx, r5, g5⟩
        have o5 := own_kept o4 g5 hrl
        have q5 := grown_trans q4 g5
        have u0 := o5.cellAt (k * 2) (by omega)
        have u1 := o5.cellAt (k * 2 + 1) (by omega)
        rw [(flat_get zs k hkl).1] at u0
        rw [(flat_get zs k hkl).2] at u1
        have f0 := o5.frozenAt (k * 2)
        have f1 := o5.frozenAt (k * 2 + 1)
        have HX := hide (show sgood ((at' zs k).1, x) by
          simp only [List.mem_cons, List.not_mem_nil, or_false] at hx
          have := sg_at (unhide HSG) hkl
          exact ⟨this.1, this.2.1, by show -1 ≤ x; omega, by show x ≤ 2147483648; omega⟩)
        clear o4 q4 r4 g5 hx
        have hge : w.heap.size ≤ g := own_ge o5 g rfl
        have O := hide (show (w5.setCell ⟨g, k * 2 + 1, none⟩ (.int .i64 x)).ownsRow w.heap.size 41 2 (.slice (some ⟨g, 0, none⟩) (n + 1) cp) (n + 1) (flat (zs.set k ((at' zs k).1, x))) by
          rw [flat_setV zs k hkl x]
          exact (o5.stored (k * 2 + 1) (.int .i64 x)).1)
        have gS := grown_only ((OnlyAt.refl g w5).setCell (k * 2 + 1) (.int .i64 x))
        have Q := grown_other q5 gS (fun j hj => by cases hj; exact hge)
        have R := r5.grown gS (fun j hj => by cases hj; omega)
        have HL := hide (show (zs.set k ((at' zs k).1, x)).length = n + 1 by rw [List.length_set, ← unhide HN])
        clear o5 gS
        go_wp2
        go_ret
        exact ⟨zs.set k ((at' zs k).1, x), g, cp, by rw [unhide HL]; rfl, by rw [unhide HL]; omega, sg_set (unhide HSG) (unhide HX), by rw [unhide HL]; exact unhide O, ⟨p1 + 1 + 1 + 1 + 1, by omega, R⟩, Q⟩
      have v0 := o4.cellAt 0 (by omega)
      have u0 := o4.cellAt (k * 2) (by omega)
      rw [(flat_get zs k hkl).1] at u0
      have hz := (flat_get zs 0 (by omega)).1
      rw [Nat.zero_mul] at hz
      rw [hz] at v0
      have f0 := o4.frozenAt (k * 2)
      obtain ⟨T, hT⟩ : ∃ T, T = (at' zs 0).1 := ⟨_, rfl⟩
      rw [← hT] at v0
      have HX := hide (show sgood (T, (at' zs k).2) by
        have h1 := sg_at (unhide HSG) hkl
        have h2 := sg_at (unhide HSG) (k := 0) (by omega)
        exact ⟨by show -1 ≤ T; rw [hT]; exact h2.1, by show T ≤ 20000; rw [hT]; exact h2.2.1, h1.2.2⟩)
      clear hT hz
      have hge : w.heap.size ≤ g := own_ge o4 g rfl
      have O := hide (show (w4.setCell ⟨g, k * 2, none⟩ (.int .i64 T)).ownsRow w.heap.size 41 2 (.slice (some ⟨g, 0, none⟩) (n + 1) cp) (n + 1) (flat (zs.set k (T, (at' zs k).2))) by
        rw [flat_setT zs k hkl T]
        exact (o4.stored (k * 2) (.int .i64 T)).1)
      have gS := grown_only ((OnlyAt.refl g w4).setCell (k * 2) (.int .i64 T))
      have Q := grown_other q4 gS (fun j hj => by cases hj; exact hge)
      have R := r4.grown gS (fun j hj => by cases hj; omega)
      have HL := hide (show (zs.set k (T, (at' zs k).2)).length = n + 1 by rw [List.length_set, ← unhide HN])
      clear o4 gS
      go_wp2
      go_ret
      exact ⟨zs.set k (T, (at' zs k).2), g, cp, by rw [unhide HL]; rfl, by rw [unhide HL]; omega, sg_set (unhide HSG) (unhide HX), by rw [unhide HL]; exact unhide O, ⟨p1 + 1 + 1 + 1, by omega, R⟩, Q⟩
    · go_wp2
      go_ret
      exact ⟨zs, g, cp, by rw [← unhide HN]; rfl, by have := unhide HN; omega, unhide HSG, by rw [← unhide HN]; exact o2, ⟨p1 + 1, by omega, r2⟩, q2⟩
end Go.Proofs.Ytogdllkbiibicaa.Draw

/- What the laws' own helpers do with slices of impl.Win: they are copied, held against each other, and counted. -/
namespace Go.Proofs.Ytogdllkbiibicaa.Win
open Go.RowKit Rw
set_option linter.unusedVariables false
attribute [local go_sem ↓] Go.wp_at_zero Go.wp_at_succ
abbrev E := Int × Int × Int × Int × Int × Int
def fl (x : E) : List Value := [.int .i64 (x.1), .int .i64 (x.2.1), .int .i64 (x.2.2.1), .int .i64 (x.2.2.2.1), .int .i64 (x.2.2.2.2.1), .int .i64 (x.2.2.2.2.2)]
theorem flk (x : E) : (fl x).length = 6 := rfl
def at' (zs : List E) (i : Nat) : E := zs.getD i default
abbrev flat (zs : List E) : List Value := flatOf fl zs
abbrev Is (w : World) (v : Value) (zs : List E) : Prop := Lies w v zs.length 6 (flat zs)
theorem flat_length (zs : List E) : (flat zs).length = zs.length * 6 := flatOf_length flk zs
theorem flat_oneCell (zs : List E) : ∀ u ∈ flat zs, u.oneCell' = true := by
  intro u hu
  obtain ⟨x, _, hx⟩ := List.mem_flatMap.1 hu
  simp only [fl, List.mem_cons, List.not_mem_nil, or_false] at hx
  rcases hx with rfl | rfl | rfl | rfl | rfl | rfl <;> rfl
theorem at_get (zs : List E) (i : Nat) (h : i < zs.length) : at' zs i = zs[i] := by simp [at', List.getD, h]
theorem at_snoc (zs : List E) (i : Nat) (h : i < zs.length) : zs.take (i + 1) = zs.take i ++ [at' zs i] := by rw [List.take_succ_eq_append_getElem h, at_get zs i h]
theorem flat_at (zs : List E) (i : Nat) (h : i < zs.length) : (flat zs)[i * 6]? = some (.int .i64 ((at' zs i).1)) ∧ (flat zs)[i * 6 + 1]? = some (.int .i64 ((at' zs i).2.1)) ∧ (flat zs)[i * 6 + 2]? = some (.int .i64 ((at' zs i).2.2.1)) ∧ (flat zs)[i * 6 + 3]? = some (.int .i64 ((at' zs i).2.2.2.1)) ∧ (flat zs)[i * 6 + 4]? = some (.int .i64 ((at' zs i).2.2.2.2.1)) ∧ (flat zs)[i * 6 + 5]? = some (.int .i64 ((at' zs i).2.2.2.2.2)) := by
  rw [at_get zs i h]
  exact ⟨flatOf_get flk zs i 0 h (by omega), flatOf_get flk zs i 1 h (by omega), flatOf_get flk zs i 2 h (by omega), flatOf_get flk zs i 3 h (by omega), flatOf_get flk zs i 4 h (by omega), flatOf_get flk zs i 5 h (by omega)⟩
theorem is_of_own {w : World} {base : Nat} {v : Value} {zs : List E} (h : w.ownsRow base 52 6 v zs.length (flat zs)) : Is w v zs := lies_of_own h
theorem info_e : (Try.prog.info? 52).map (fun i => (i.zero, i.size, i.bytes)) = some (some (.agg #[.int .i64 0, .int .i64 0, .int .i64 0, .int .i64 0, .int .i64 0, .int .i64 0]), 6, 48) := by kernel_rfl
def good (x : E) : Prop := (Lit.int .i64 (x.1)).wf = true ∧ (Lit.int .i64 (x.2.1)).wf = true ∧ (Lit.int .i64 (x.2.2.1)).wf = true ∧ (Lit.int .i64 (x.2.2.2.1)).wf = true ∧ (Lit.int .i64 (x.2.2.2.2.1)).wf = true ∧ (Lit.int .i64 (x.2.2.2.2.2)).wf = true
theorem set_e (A : List Value) (u0 u1 u2 u3 u4 u5 x0 x1 x2 x3 x4 x5 : Value) (L : List Value) (k : Nat) (h : A.length = k) : (((((((A ++ u0 :: u1 :: u2 :: u3 :: u4 :: u5 :: L).set k x0).set (k + 1) x1).set (k + 2) x2).set (k + 3) x3).set (k + 4) x4).set (k + 5) x5) = A ++ [x0, x1, x2, x3, x4, x5] ++ L := by
  subst h
  simp [List.set_append_right]
theorem split_e (r : List Value) (n : Nat) (h : r.length = (n + 1) * 6) : ∃ u0 u1 u2 u3 u4 u5 L, r = u0 :: u1 :: u2 :: u3 :: u4 :: u5 :: L ∧ L.length = n * 6 := by
  match r, h with
  | u0 :: u1 :: u2 :: u3 :: u4 :: u5 :: L, h => exact ⟨u0, u1, u2, u3, u4, u5, L, rfl, by simp only [List.length_cons] at h; omega⟩
  | [], h => simp at h <;> omega
  | [_], h => simp at h <;> omega
  | [_, _], h => simp at h <;> omega
  | [_, _, _], h => simp at h <;> omega
  | [_, _, _, _], h => simp at h <;> omega
  | [_, _, _, _, _], h => simp at h <;> omega
theorem eq_one (A : Int) (B : Int) (C : Int) (D : Int) (E : Int) (F : Int) (w : World) : Calls Try.prog 53 #[.agg #[.int .i64 A, .int .i64 B, .int .i64 C, .int .i64 D, .int .i64 E, .int .i64 F], .agg #[.int .i64 A, .int .i64 B, .int .i64 C, .int .i64 D, .int .i64 E, .int .i64 F]] w fun e w' => e = .returned (.bool true) ∧ Below w.heap.size w w' := by
  go_enter Try.func53, Try.ntmps53
  go_wp2
  go_ret
  exact ⟨rfl, ((Below.refl _ _).alloc (Nat.le_refl _) _).alloc (by simp) _⟩
set_option maxRecDepth 100000 in
set_option maxHeartbeats 2000000 in
theorem eq_any {v u : Value} {zs : List E} {w : World} (h : Is w v zs) (h' : Is w u zs) : Calls Try.prog 22 #[v, u] w fun e w' => e = .returned (.bool true) ∧ Below w.heap.size w w' := by
  obtain ⟨-, a, cap, rfl, hc, hm, -, hr⟩ := h
  obtain ⟨-, a', cap', rfl, hc', hm', -, hr'⟩ := h'
  unfold maxLen at hm hm'
  obtain ⟨n, hn⟩ : ∃ n, n = zs.length := ⟨_, rfl⟩
  rw [← hn] at hc hr hc' hr' ⊢
  have HN := hide hn
  clear hn
  go_enter Try.func22, Try.ntmps22
  go_wp2
  go_loopw [5] (fun i wr => ∃ (j : Nat), j ≤ n ∧ i = .int .i64 j ∧ Below w.heap.size w wr) (fun i _ => n - (intOf i).toNat)
  case atStart => exact ⟨0, Nat.zero_le _, rfl, Below.refl _ _⟩
  case round =>
    obtain ⟨j, hj, rfl, hbel⟩ := hrel
    have hsz := hbel.size
    by_cases hlt : j < n
    · obtain ⟨b, off, rfl, hl, hcells⟩ := hr (by omega)
      obtain ⟨b', off', rfl, hl', hcells'⟩ := hr' (by omega)
      have fa := flat_at zs j (by have := unhide HN; omega)
      obtain ⟨A, B, C, D, E, F, hX⟩ : ∃ A B C D E F, (A, B, C, D, E, F) = at' zs j := ⟨_, _, _, _, _, _, rfl⟩
      rw [← hX] at fa
      have hq0 : ∀ x : Cls wr.heap.size wr, x.val.cell? ⟨b, off + j * 6, none⟩ = some (.int .i64 A) := fun x => by rw [x.cell (by omega)]; exact (hbel.cell (p := ⟨b, _, none⟩) hl).trans (hcells (j * 6) _ fa.1)
      have hp0 : ∀ x : Cls wr.heap.size wr, x.val.cell? ⟨b', off' + j * 6, none⟩ = some (.int .i64 A) := fun x => by rw [x.cell (by omega)]; exact (hbel.cell (p := ⟨b', _, none⟩) hl').trans (hcells' (j * 6) _ fa.1)
      have hq1 : ∀ x : Cls wr.heap.size wr, x.val.cell? ⟨b, off + j * 6 + 1, none⟩ = some (.int .i64 B) := fun x => by rw [x.cell (by omega)]; exact (hbel.cell (p := ⟨b, _, none⟩) hl).trans (hcells (j * 6 + 1) _ fa.2.1)
      have hp1 : ∀ x : Cls wr.heap.size wr, x.val.cell? ⟨b', off' + j * 6 + 1, none⟩ = some (.int .i64 B) := fun x => by rw [x.cell (by omega)]; exact (hbel.cell (p := ⟨b', _, none⟩) hl').trans (hcells' (j * 6 + 1) _ fa.2.1)
      have hq2 : ∀ x : Cls wr.heap.size wr, x.val.cell? ⟨b, off + j * 6 + 2, none⟩ = some (.int .i64 C) := fun x => by rw [x.cell (by omega)]; exact (hbel.cell (p := ⟨b, _, none⟩) hl).trans (hcells (j * 6 + 2) _ fa.2.2.1)
      have hp2 : ∀ x : Cls wr.heap.size wr, x.val.cell? ⟨b', off' + j * 6 + 2, none⟩ = some (.int .i64 C) := fun x => by rw [x.cell (by omega)]; exact (hbel.cell (p := ⟨b', _, none⟩) hl').trans (hcells' (j * 6 + 2) _ fa.2.2.1)
      have hq3 : ∀ x : Cls wr.heap.size wr, x.val.cell? ⟨b, off + j * 6 + 3, none⟩ = some (.int .i64 D) := fun x => by rw [x.cell (by omega)]; exact (hbel.cell (p := ⟨b, _, none⟩) hl).trans (hcells (j * 6 + 3) _ fa.2.2.2.1)
      have hp3 : ∀ x : Cls wr.heap.size wr, x.val.cell? ⟨b', off' + j * 6 + 3, none⟩ = some (.int .i64 D) := fun x => by rw [x.cell (by omega)]; exact (hbel.cell (p := ⟨b', _, none⟩) hl').trans (hcells' (j * 6 + 3) _ fa.2.2.2.1)
      have hq4 : ∀ x : Cls wr.heap.size wr, x.val.cell? ⟨b, off + j * 6 + 4, none⟩ = some (.int .i64 E) := fun x => by rw [x.cell (by omega)]; exact (hbel.cell (p := ⟨b, _, none⟩) hl).trans (hcells (j * 6 + 4) _ fa.2.2.2.2.1)
      have hp4 : ∀ x : Cls wr.heap.size wr, x.val.cell? ⟨b', off' + j * 6 + 4, none⟩ = some (.int .i64 E) := fun x => by rw [x.cell (by omega)]; exact (hbel.cell (p := ⟨b', _, none⟩) hl').trans (hcells' (j * 6 + 4) _ fa.2.2.2.2.1)
      have hq5 : ∀ x : Cls wr.heap.size wr, x.val.cell? ⟨b, off + j * 6 + 5, none⟩ = some (.int .i64 F) := fun x => by rw [x.cell (by omega)]; exact (hbel.cell (p := ⟨b, _, none⟩) hl).trans (hcells (j * 6 + 5) _ fa.2.2.2.2.2)
      have hp5 : ∀ x : Cls wr.heap.size wr, x.val.cell? ⟨b', off' + j * 6 + 5, none⟩ = some (.int .i64 F) := fun x => by rw [x.cell (by omega)]; exact (hbel.cell (p := ⟨b', _, none⟩) hl').trans (hcells' (j * 6 + 5) _ fa.2.2.2.2.2)
      have hk0 : (0 : Int) ≤ (j : Int) := Int.natCast_nonneg _
      have hk1 : (j : Int) < (n : Int) := by omega
      clear hX fa
      have hne := cls_nonempty wr.heap.size wr
      go_wp2_with fail
      refine region_cls (by kernel_rfl) (by kernel_rfl) ?_
      repeat (go_big_quiet_step ((go_at_call 53; exact cls_call (Nat.le_refl _) (eq_one _ _ _ _ _ _ _))))
      refine wpQuiet_nil ?_
      rintro wq ⟨⟨_, hq⟩, rfl⟩
      go_wp2
      go_roundw
      case rel => exact ⟨j + 1, by omega, by go_num, hbel.trans (hq.mono hsz)⟩
      case measure => simp [intOf]; omega
    · go_wp2
      go_ret
      exact ⟨rfl, hbel⟩
def tot (zs : List E) : Nat := zs.length
end Go.Proofs.Ytogdllkbiibicaa.Win
