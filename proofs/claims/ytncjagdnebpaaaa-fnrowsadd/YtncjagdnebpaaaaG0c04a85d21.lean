/- My own texts of one claim, laid together by program: DrawSamp2, DrawSampG, PutMath, Lab. -/
import Derived.Test.YtncjagdnebpaaaaG5e89bfada3
import Derived.Test.YtncjagdnebpaaaaGae2850a088
import Derived.Lib.Join
import Derived.Test.YtncjagdnebpaaaaShelf
import Derived.Shelf.Abstract
/- Samples are drawn, some of them spoilt. -/
namespace Go.Proofs.Ytncjagdnebpaaaa.Draw
open Go.RowKit Samp SampMath Rw
set_option linter.unusedVariables false
attribute [local go_sem ↓] Go.wp_at_zero Go.wp_at_succ
theorem flat_setT (zs : List S) (k : Nat) (h : k < zs.length) (T : Int) : flat (zs.set k (T, (at' zs k).2)) = (flat zs).set (k * 2) (.int .i64 T) := by
  induction zs generalizing k with
  | nil => simp at h
  | cons z zs ih =>
    rcases k with _ | k
    · simp [flat, at']
    · have := ih k (by simpa using h)
      have e : (k + 1) * 2 = k * 2 + 1 + 1 := by omega
      have e2 : at' (z :: zs) (k + 1) = at' zs k := by simp [at']
      simp only [flat, List.set_cons_succ, List.flatMap_cons, List.cons_append, List.nil_append, e, e2] at this ⊢
      rw [this]
theorem flat_setV (zs : List S) (k : Nat) (h : k < zs.length) (V : Int) : flat (zs.set k ((at' zs k).1, V)) = (flat zs).set (k * 2 + 1) (.int .i64 V) := by
  induction zs generalizing k with
  | nil => simp at h
  | cons z zs ih =>
    rcases k with _ | k
    · simp [flat, at']
    · have := ih k (by simpa using h)
      have e : (k + 1) * 2 + 1 = k * 2 + 1 + 1 + 1 := by omega
      have e2 : at' (z :: zs) (k + 1) = at' zs k := by simp [at']
      simp only [flat, List.set_cons_succ, List.flatMap_cons, List.cons_append, List.nil_append, e, e2] at this ⊢
      rw [this]
set_option maxRecDepth 100000 in
set_option maxHeartbeats 4000000 in
theorem anysamples_any (rb p most : Nat) (w : World) (h : Rd w rb p) (hp : p ≤ 600000) (hmost : most ≤ 1000) :
    Calls Try.prog 34 #[.pointer (some ⟨rb, 0, none⟩), .int .i64 most] w fun e w' => ∃ (zs : List S) (g cp : Nat), e = .returned (.slice (some ⟨g, 0, none⟩) zs.length cp) ∧ zs.length ≤ most ∧ w'.ownsRow w.heap.size 26 2 (.slice (some ⟨g, 0, none⟩) zs.length cp) zs.length (flat zs) ∧ (∃ p', p' ≤ p + 20 + 8 * most ∧ Rd w' rb p') ∧ w.grownBy w' (some rb) := by
  have hrl := h.lt
  have HR := hide h
  clear h
  go_enter Try.func34, Try.ntmps34
  go_wp2_with fail
  refine (samples_any rb p most _ (unhide HR) (by omega) hmost).mono ?_
  rintro e w1 ⟨zs, g, cp, rfl, hl, o1, ⟨p1, hp1, r1⟩, q1⟩
  obtain ⟨n, hn⟩ : ∃ n, n = zs.length := ⟨_, rfl⟩
  rw [← hn] at hl o1 ⊢
  have HN := hide hn
  clear hn HR
  rcases n with _ | n
  · go_wp2
    go_ret
    exact ⟨zs, g, cp, by rw [← unhide HN]; rfl, by have := unhide HN; omega, by rw [← unhide HN]; exact o1, ⟨p1, by omega, r1⟩, q1⟩
  · have hnp : 0 < n + 1 := by omega
    go_wp2_with fail
    refine (pick_any rb p1 _ _ r1 (by omega) (by omega)).mono ?_
    rintro e w2 ⟨m, rfl, m0, m1, -, r2, g2⟩
    have o2 := own_kept o1 g2 hrl
    have q2 := grown_trans q1 g2
    clear o1 q1 r1 g2 m1
    by_cases hm : m = 0
    · subst hm
      go_wp2_with fail
      refine (pick_any rb (p1 + 1) _ _ r2 (by omega) (by omega)).mono ?_
      rintro e w3 ⟨kk, rfl, k0, k1, -, r3, g3⟩
      have k2 : kk < ((n + 1 : Nat) : Int) := k1 (by omega)
      obtain ⟨k, rfl⟩ := Int.eq_ofNat_of_zero_le k0
      have o3 := own_kept o2 g3 hrl
      have q3 := grown_trans q2 g3
      clear o2 q2 r2 g3 k1
      go_wp2_with fail
      refine (pick_any rb (p1 + 1 + 1) _ _ r3 (by omega) (by omega)).mono ?_
      rintro e w4 ⟨c, rfl, c0, c1, -, r4, g4⟩
      have o4 := own_kept o3 g4 hrl
      have q4 := grown_trans q3 g4
      clear o3 q3 r3 g4 c1
      have hkl : k < zs.length := by have := unhide HN; omega
      have hk0 : (0 : Int) ≤ (k : Int) := Int.natCast_nonneg _
      have hk1 : (k : Int) < (n : Int) + 1 := by omega
      by_cases hc0 : c = 0
      · subst hc0
        go_wp2_with fail
        have hone := one_new rb (p1 + 1 + 1 + 1) [-1, 10000, 0] _ r4 (by omega) (by simp) (by simp)
        simp only [List.map_cons, List.map_nil, List.length_cons, List.length_nil, Nat.zero_add, Nat.reduceAdd] at hone
        refine hone.mono ?_
        clear hone
        rintro e w5 ⟨x, rfl, hx, r5, g5⟩
        have o5 := own_kept o4 g5 hrl
        have q5 := grown_trans q4 g5
        have u0 := o5.cellAt (k * 2) (by omega)
        have u1 := o5.cellAt (k * 2 + 1) (by omega)
        rw [(flat_get zs k hkl).1] at u0
        rw [(flat_get zs k hkl).2] at u1
        have f0 := o5.frozenAt (k * 2)
        have f1 := o5.frozenAt (k * 2 + 1)
        clear o4 q4 r4 g5 hx
        have hge : w.heap.size ≤ g := own_ge o5 g rfl
        have O := hide (show (w5.setCell ⟨g, k * 2, none⟩ (.int .i64 x)).ownsRow w.heap.size 26 2 (.slice (some ⟨g, 0, none⟩) (n + 1) cp) (n + 1) (flat (zs.set k (x, (at' zs k).2))) by
          rw [flat_setT zs k hkl x]
          exact (o5.stored (k * 2) (.int .i64 x)).1)
        have gS := grown_only ((OnlyAt.refl g w5).setCell (k * 2) (.int .i64 x))
        have Q := grown_other q5 gS (fun j hj => by cases hj; exact hge)
        have R := r5.grown gS (fun j hj => by cases hj; omega)
        have HL := hide (show (zs.set k (x, (at' zs k).2)).length = n + 1 by rw [List.length_set, ← unhide HN])
        clear o5 gS
        go_wp2
        go_ret
        exact ⟨zs.set k (x, (at' zs k).2), g, cp, by rw [unhide HL]; rfl, by rw [unhide HL]; omega, by rw [unhide HL]; exact unhide O, ⟨p1 + 1 + 1 + 1 + 1, by omega, R⟩, Q⟩
      by_cases hc1 : c = 1
      · subst hc1
        go_wp2_with fail
        have hone := one_new rb (p1 + 1 + 1 + 1) [-1, 2147483648] _ r4 (by omega) (by simp) (by simp)
        simp only [List.map_cons, List.map_nil, List.length_cons, List.length_nil, Nat.zero_add, Nat.reduceAdd] at hone
        refine hone.mono ?_
        clear hone
        rintro e w5 ⟨x, rfl, hx, r5, g5⟩
        have o5 := own_kept o4 g5 hrl
        have q5 := grown_trans q4 g5
        have u0 := o5.cellAt (k * 2) (by omega)
        have u1 := o5.cellAt (k * 2 + 1) (by omega)
        rw [(flat_get zs k hkl).1] at u0
        rw [(flat_get zs k hkl).2] at u1
        have f0 := o5.frozenAt (k * 2)
        have f1 := o5.frozenAt (k * 2 + 1)
        clear o4 q4 r4 g5 hx
        have hge : w.heap.size ≤ g := own_ge o5 g rfl
        have O := hide (show (w5.setCell ⟨g, k * 2 + 1, none⟩ (.int .i64 x)).ownsRow w.heap.size 26 2 (.slice (some ⟨g, 0, none⟩) (n + 1) cp) (n + 1) (flat (zs.set k ((at' zs k).1, x))) by
          rw [flat_setV zs k hkl x]
          exact (o5.stored (k * 2 + 1) (.int .i64 x)).1)
        have gS := grown_only ((OnlyAt.refl g w5).setCell (k * 2 + 1) (.int .i64 x))
        have Q := grown_other q5 gS (fun j hj => by cases hj; exact hge)
        have R := r5.grown gS (fun j hj => by cases hj; omega)
        have HL := hide (show (zs.set k ((at' zs k).1, x)).length = n + 1 by rw [List.length_set, ← unhide HN])
        clear o5 gS
        go_wp2
        go_ret
        exact ⟨zs.set k ((at' zs k).1, x), g, cp, by rw [unhide HL]; rfl, by rw [unhide HL]; omega, by rw [unhide HL]; exact unhide O, ⟨p1 + 1 + 1 + 1 + 1, by omega, R⟩, Q⟩
      have v0 := o4.cellAt 0 (by omega)
      have u0 := o4.cellAt (k * 2) (by omega)
      rw [(flat_get zs k hkl).1] at u0
      have hz := (flat_get zs 0 (by omega)).1
      rw [Nat.zero_mul] at hz
      rw [hz] at v0
      have f0 := o4.frozenAt (k * 2)
      obtain ⟨T, hT⟩ : ∃ T, T = (at' zs 0).1 := ⟨_, rfl⟩
      rw [← hT] at v0
      clear hT hz
      have hge : w.heap.size ≤ g := own_ge o4 g rfl
      have O := hide (show (w4.setCell ⟨g, k * 2, none⟩ (.int .i64 T)).ownsRow w.heap.size 26 2 (.slice (some ⟨g, 0, none⟩) (n + 1) cp) (n + 1) (flat (zs.set k (T, (at' zs k).2))) by
        rw [flat_setT zs k hkl T]
        exact (o4.stored (k * 2) (.int .i64 T)).1)
      have gS := grown_only ((OnlyAt.refl g w4).setCell (k * 2) (.int .i64 T))
      have Q := grown_other q4 gS (fun j hj => by cases hj; exact hge)
      have R := r4.grown gS (fun j hj => by cases hj; omega)
      have HL := hide (show (zs.set k (T, (at' zs k).2)).length = n + 1 by rw [List.length_set, ← unhide HN])
      clear o4 gS
      go_wp2
      go_ret
      exact ⟨zs.set k (T, (at' zs k).2), g, cp, by rw [unhide HL]; rfl, by rw [unhide HL]; omega, by rw [unhide HL]; exact unhide O, ⟨p1 + 1 + 1 + 1, by omega, R⟩, Q⟩
    · go_wp2
      go_ret
      exact ⟨zs, g, cp, by rw [← unhide HN]; rfl, by have := unhide HN; omega, by rw [← unhide HN]; exact o2, ⟨p1 + 1, by omega, r2⟩, q2⟩
end Go.Proofs.Ytncjagdnebpaaaa.Draw

/- Samples that are drawn lie between bounds. -/
namespace Go.Proofs.Ytncjagdnebpaaaa.Draw
open Go.RowKit Samp SampMath Rw
set_option linter.unusedVariables false
attribute [local go_sem ↓] Go.wp_at_zero Go.wp_at_succ
def sgood (z : S) : Prop := -1 ≤ z.1 ∧ z.1 ≤ 20000 ∧ -1 ≤ z.2 ∧ z.2 ≤ 2147483648
def SG (L : List S) : Prop := ∀ z ∈ L, sgood z
theorem sg_snoc {L : List S} {x : S} (h : ∀ z ∈ L, sgood z) (hx : sgood x) : ∀ z ∈ L ++ [x], sgood z := by
  intro z hz
  rcases List.mem_append.1 hz with hz | hz
  · exact h z hz
  · rw [List.mem_singleton.1 hz]; exact hx
theorem sg_at {zs : List S} {k : Nat} (h : ∀ z ∈ zs, sgood z) (hk : k < zs.length) : sgood (at' zs k) := by
  have e : at' zs k = zs[k] := by simp [at', List.getD, hk]
  rw [e]; exact h _ (List.getElem_mem hk)
theorem sg_set {zs : List S} {k : Nat} {x : S} (h : ∀ z ∈ zs, sgood z) (hx : sgood x) : ∀ z ∈ zs.set k x, sgood z := by
  intro z hz
  rcases List.mem_or_eq_of_mem_set hz with hz | hz
  · exact h z hz
  · rw [hz]; exact hx
set_option maxRecDepth 100000 in
set_option maxHeartbeats 4000000 in
theorem samples_good (rb p most : Nat) (w : World) (h : Rd w rb p) (hp : p ≤ 700000) (hmost : most ≤ 1000) :
    Calls Try.prog 53 #[.pointer (some ⟨rb, 0, none⟩), .int .i64 most] w fun e w' => ∃ (zs : List S) (g cp : Nat), e = .returned (.slice (some ⟨g, 0, none⟩) zs.length cp) ∧ zs.length ≤ most ∧ SG zs ∧ w'.ownsRow w.heap.size 26 2 (.slice (some ⟨g, 0, none⟩) zs.length cp) zs.length (flat zs) ∧ (∃ p', p' ≤ p + 9 + 8 * most ∧ Rd w' rb p') ∧ w.grownBy w' (some rb) := by
  obtain ⟨i0, hi, hz0, hz1, hz2⟩ := info_parts info_sample
  have hrl := h.lt
  have HR := hide h
  clear h
  go_enter Try.func53, Try.ntmps53
  go_wp2_with fail
  refine (pick_any rb p _ _ ((unhide HR).below ((Below.refl _ _).alloc (Nat.le_refl _) _)) (by omega) (by omega)).mono ?_
  rintro e w1 ⟨x, rfl, x0, x1, -, r1, g1⟩
  have x2 : x < 300 := x1 (by omega)
  have o1 := own_kept (own_empty (w := w) (base := w.heap.size) (e := 26) (size := 2) (Nat.le_refl _)) g1 hrl
  have q1 : w.grownBy w1 (some rb) := grown_trans (grown_below ((Below.refl _ _).alloc (Nat.le_refl _) _)) g1
  clear x1 HR g1
  go_wp2_with fail
  have hone := one_new rb (p + 1) [0, x, 9000, 5000] _ r1 (by omega) (by simp) (by simp)
  simp only [List.map_cons, List.map_nil, List.length_cons, List.length_nil, Nat.zero_add, Nat.reduceAdd] at hone
  refine hone.mono ?_
  clear hone
  rintro e w2 ⟨t, rfl, ht, r2, g2⟩
  have t0 : 0 ≤ t ∧ t ≤ 9000 := by
    simp only [List.mem_cons, List.not_mem_nil, or_false] at ht
    omega
  have o2 := own_kept o1 g2 hrl
  have q2 := grown_trans q1 g2
  clear ht o1 q1 r1 g2
  go_wp2_with fail
  refine (value_any rb (p + 1 + 1) _ r2 (by omega)).mono ?_
  rintro e w3 ⟨v, rfl, v0, v1, r3, g3⟩
  have o3 := own_kept o2 g3 hrl
  have q3 := grown_trans q2 g3
  clear o2 q2 r2 g3
  go_wp2_with fail
  refine (pick_any rb (p + 1 + 1 + 6) _ _ r3 (by omega) (by omega)).mono ?_
  rintro e w4 ⟨n, rfl, n0, n1, -, r4, g4⟩
  have n2 : n < (most : Int) + 1 := n1 (by omega)
  have o4 := own_kept o3 g4 hrl
  have q4 := grown_trans q3 g4
  clear o3 q3 r3 g4 n1
  go_wp2_with fail
  go_loopw [5, 6, 7, 8] (fun ov tv vv nv wr => ∃ (k : Nat) (L : List S) (p' g cp : Nat) (T V : Int), nv = .int .i64 (k : Int) ∧ L.length + k ≤ most ∧ p' ≤ p + 9 + 8 * L.length ∧ ov = .slice (some ⟨g, 0, none⟩) L.length cp ∧ tv = .int .i64 T ∧ vv = .int .i64 V ∧ 0 ≤ T ∧ T ≤ 20000 ∧ 0 ≤ V ∧ V ≤ 2147483647 ∧ SG L ∧ wr.ownsRow w.heap.size 26 2 ov L.length (flat L) ∧ Rd wr rb p' ∧ w.grownBy wr (some rb)) (fun _ _ _ nv _ => (intOf nv).toNat)
  case atStart => exact ⟨n.toNat, [], p + 1 + 1 + 6 + 1, w.heap.size, 0, t, v, by rw [Int.toNat_of_nonneg n0], by simp; omega, by simp, rfl, rfl, rfl, t0.1, by omega, v0, v1, (fun z hz => (by cases hz)), o4, r4, q4⟩
  case round =>
    clear o4 q4 r4
    obtain ⟨k, L, p', g, cp, T, V, rfl, hk, hp', rfl, rfl, rfl, hT0, hT1, hV0, hV1, HG, hown, hrd, hg⟩ := hrel
    have hsz := hg.size
    by_cases hk0 : 0 < k
    · have hk1 : (0 : Int) < (k : Int) := by omega
      by_cases hT9 : T ≤ 9999
      · have HG2 : SG (L ++ [(T, V)]) := sg_snoc (x := (T, V)) HG ⟨by show -1 ≤ T; omega, hT1, by show -1 ≤ V; omega, by show V ≤ 2147483648; omega⟩
        go_wp2_with (at_builtin; refine wpList_append_lies _ rfl _ _ _ rfl w.heap.size 26 i0 _ 2 16 Try.underlying42 hi hz0 hz1 hz2 rfl (by omega) _ L.length _ rfl (hown.alloc _) _ 1 1 [.int .i64 T, .int .i64 V] rfl rfl (World.news_of_block (cs := #[.int .i64 T, .int .i64 V]) (t := 26) (fr := (0, 0)) (heap_alloc_new _ _)) (by simp [Value.oneCell']) (by omega) (by unfold maxLen; omega) (by omega) (by simp; omega) _ rfl ?_; intro gg cap2 w9 hown2 hgrow hat hlt2)
        have ge := own_ge hown
        have gA : wr.grownBy (wr.alloc (.cells #[.int .i64 T, .int .i64 V] 26)) (some rb) := grown_below ((Below.refl _ _).alloc (Nat.le_refl _) _)
        have R : w.grownBy w9 (some rb) := grown_other (grown_trans hg gA) hgrow ge
        have R1 : Rd w9 rb p' := (hrd.below ((Below.refl _ _).alloc (Nat.le_refl _) _)).grown hgrow (fun k hk => by have := ge k hk; omega)
        have R2 : w9.ownsRow w.heap.size 26 2 (.slice (some ⟨gg, 0, none⟩) (L.length + 1) cap2) (L ++ [(T, V)]).length (flat (L ++ [(T, V)])) := by
          rw [List.length_append, flat_append]; exact hown2
        clear hown2 hgrow ge gA hown hg hrd
        have hone := one_new rb p' [1, 1, 10, 10, 10, 63, 64, 65, 130, 700] _ R1 (by omega) (by simp) (by simp)
        simp only [List.map_cons, List.map_nil, List.length_cons, List.length_nil, Nat.zero_add, Nat.reduceAdd] at hone
        refine hone.mono ?_
        clear hone
        rintro e w5 ⟨d, rfl, hd, r5, g5⟩
        have d0 : 1 ≤ d ∧ d ≤ 700 := by
          simp only [List.mem_cons, List.not_mem_nil, or_false] at hd
          omega
        obtain ⟨d1, d2⟩ := d0
        have o5 := own_kept R2 g5 hrl
        have q5 := grown_trans R g5
        clear hd R R1 R2 g5
        go_wp2_with fail
        refine (pick_any rb (p' + 1) _ _ r5 (by omega) (by omega)).mono ?_
        rintro e w6 ⟨m, rfl, m0, m1, -, r6, g6⟩
        have o6 := own_kept o5 g6 hrl
        have q6 := grown_trans q5 g6
        clear o5 q5 r5 g6 m1
        by_cases hm : 0 < m
        · go_wp2_with fail
          refine (value_any rb (p' + 1 + 1) _ r6 (by omega)).mono ?_
          rintro e w7 ⟨v', rfl, v0', v1', r7, g7⟩
          have o7 := own_kept o6 g7 hrl
          have q7 := grown_trans q6 g7
          have HO := hide o7
          clear o6 q6 r6 g7 o7
          go_wp2
          go_roundw
          case rel => exact ⟨k - 1, L ++ [(T, V)], p' + 1 + 1 + 6, gg, cap2, T + d, v', by go_num, by simp; omega, by simp; omega, by simp, by go_num, rfl, by omega, by omega, v0', v1', HG2, by simpa using unhide HO, r7, q7⟩
          case measure => simp [intOf]; omega
        · have HO := hide o6
          clear o6
          go_wp2
          go_roundw
          case rel => exact ⟨k - 1, L ++ [(T, V)], p' + 1 + 1, gg, cap2, T + d, V, by go_num, by simp; omega, by simp; omega, by simp, by go_num, rfl, by omega, by omega, hV0, hV1, HG2, by simpa using unhide HO, r6, q6⟩
          case measure => simp [intOf]; omega
      · go_wp2
        go_ret
        exact ⟨L, g, cp, rfl, by omega, HG, hown, ⟨p', by omega, hrd⟩, hg⟩
    · go_wp2
      go_ret
      exact ⟨L, g, cp, rfl, by omega, HG, hown, ⟨p', by omega, hrd⟩, hg⟩
set_option maxRecDepth 100000 in
set_option maxHeartbeats 4000000 in
theorem anysamples_good (rb p most : Nat) (w : World) (h : Rd w rb p) (hp : p ≤ 600000) (hmost : most ≤ 1000) :
    Calls Try.prog 34 #[.pointer (some ⟨rb, 0, none⟩), .int .i64 most] w fun e w' => ∃ (zs : List S) (g cp : Nat), e = .returned (.slice (some ⟨g, 0, none⟩) zs.length cp) ∧ zs.length ≤ most ∧ SG zs ∧ w'.ownsRow w.heap.size 26 2 (.slice (some ⟨g, 0, none⟩) zs.length cp) zs.length (flat zs) ∧ (∃ p', p' ≤ p + 20 + 8 * most ∧ Rd w' rb p') ∧ w.grownBy w' (some rb) := by
  have hrl := h.lt
  have HR := hide h
  clear h
  go_enter Try.func34, Try.ntmps34
  go_wp2_with fail
  refine (samples_good rb p most _ (unhide HR) (by omega) hmost).mono ?_
  rintro e w1 ⟨zs, g, cp, rfl, hl, hsg, o1, ⟨p1, hp1, r1⟩, q1⟩
  have HSG := hide hsg
  clear hsg
  obtain ⟨n, hn⟩ : ∃ n, n = zs.length := ⟨_, rfl⟩
  rw [← hn] at hl o1 ⊢
  have HN := hide hn
  clear hn HR
  rcases n with _ | n
  · go_wp2
    go_ret
    exact ⟨zs, g, cp, by rw [← unhide HN]; rfl, by have := unhide HN; omega, unhide HSG, by rw [← unhide HN]; exact o1, ⟨p1, by omega, r1⟩, q1⟩
  · have hnp : 0 < n + 1 := by omega
    go_wp2_with fail
    refine (pick_any rb p1 _ _ r1 (by omega) (by omega)).mono ?_
    rintro e w2 ⟨m, rfl, m0, m1, -, r2, g2⟩
    have o2 := own_kept o1 g2 hrl
    have q2 := grown_trans q1 g2
    clear o1 q1 r1 g2 m1
    by_cases hm : m = 0
    · subst hm
      go_wp2_with fail
      refine (pick_any rb (p1 + 1) _ _ r2 (by omega) (by omega)).mono ?_
      rintro e w3 ⟨kk, rfl, k0, k1, -, r3, g3⟩
      have k2 : kk < ((n + 1 : Nat) : Int) := k1 (by omega)
      obtain ⟨k, rfl⟩ := Int.eq_ofNat_of_zero_le k0
      have o3 := own_kept o2 g3 hrl
      have q3 := grown_trans q2 g3
      clear o2 q2 r2 g3 k1
      go_wp2_with fail
      refine (pick_any rb (p1 + 1 + 1) _ _ r3 (by omega) (by omega)).mono ?_
      rintro e w4 ⟨c, rfl, c0, c1, -, r4, g4⟩
      have o4 := own_kept o3 g4 hrl
      have q4 := grown_trans q3 g4
      clear o3 q3 r3 g4 c1
      have hkl : k < zs.length := by have := unhide HN; omega
      have hk0 : (0 : Int) ≤ (k : Int) := Int.natCast_nonneg _
      have hk1 : (k : Int) < (n : Int) + 1 := by omega
      by_cases hc0 : c = 0
      · subst hc0
        go_wp2_with fail
        have hone := one_new rb (p1 + 1 + 1 + 1) [-1, 10000, 0] _ r4 (by omega) (by simp) (by simp)
        simp only [List.map_cons, List.map_nil, List.length_cons, List.length_nil, Nat.zero_add, Nat.reduceAdd] at hone
        refine hone.mono ?_
        clear hone
        rintro e w5 ⟨x, rfl, hx, r5, g5⟩
        have o5 := own_kept o4 g5 hrl
        have q5 := grown_trans q4 g5
        have u0 := o5.cellAt (k * 2) (by omega)
        have u1 := o5.cellAt (k * 2 + 1) (by omega)
        rw [(flat_get zs k hkl).1] at u0
        rw [(flat_get zs k hkl).2] at u1
        have f0 := o5.frozenAt (k * 2)
        have f1 := o5.frozenAt (k * 2 + 1)
        have HX := hide (show sgood (x, (at' zs k).2) by
          simp only [List.mem_cons, List.not_mem_nil, or_false] at hx
          have := sg_at (unhide HSG) hkl
          exact ⟨by show -1 ≤ x; omega, by show x ≤ 20000; omega, this.2.2⟩)
        clear o4 q4 r4 g5 hx
        have hge : w.heap.size ≤ g := own_ge o5 g rfl
        have O := hide (show (w5.setCell ⟨g, k * 2, none⟩ (.int .i64 x)).ownsRow w.heap.size 26 2 (.slice (some ⟨g, 0, none⟩) (n + 1) cp) (n + 1) (flat (zs.set k (x, (at' zs k).2))) by
          rw [flat_setT zs k hkl x]
          exact (o5.stored (k * 2) (.int .i64 x)).1)
        have gS := grown_only ((OnlyAt.refl g w5).setCell (k * 2) (.int .i64 x))
        have Q := grown_other q5 gS (fun j hj => by cases hj; exact hge)
        have R := r5.grown gS (fun j hj => by cases hj; omega)
        have HL := hide (show (zs.set k (x, (at' zs k).2)).length = n + 1 by rw [List.length_set, ← unhide HN])
        clear o5 gS
        go_wp2
        go_ret
        exact ⟨zs.set k (x, (at' zs k).2), g, cp, by rw [unhide HL]; rfl, by rw [unhide HL]; omega, sg_set (unhide HSG) (unhide HX), by rw [unhide HL]; exact unhide O, ⟨p1 + 1 + 1 + 1 + 1, by omega, R⟩, Q⟩
      by_cases hc1 : c = 1
      · subst hc1
        go_wp2_with fail
        have hone := one_new rb (p1 + 1 + 1 + 1) [-1, 2147483648] _ r4 (by omega) (by simp) (by simp)
        simp only [List.map_cons, List.map_nil, List.length_cons, List.length_nil, Nat.zero_add, Nat.reduceAdd] at hone
        refine hone.mono ?_
        clear hone
        rintro e w5 ⟨x, rfl, hx, r5, g5⟩
        have o5 := own_kept o4 g5 hrl
        have q5 := grown_trans q4 g5
        have u0 := o5.cellAt (k * 2) (by omega)
        have u1 := o5.cellAt (k * 2 + 1) (by omega)
        rw [(flat_get zs k hkl).1] at u0
        rw [(flat_get zs k hkl).2] at u1
        have f0 := o5.frozenAt (k * 2)
        have f1 := o5.frozenAt (k * 2 + 1)
        have HX := hide (show sgood ((at' zs k).1, x) by
          simp only [List.mem_cons, List.not_mem_nil, or_false] at hx
          have := sg_at (unhide HSG) hkl
          exact ⟨this.1, this.2.1, by show -1 ≤ x; omega, by show x ≤ 2147483648; omega⟩)
        clear o4 q4 r4 g5 hx
        have hge : w.heap.size ≤ g := own_ge o5 g rfl
        have O := hide (show (w5.setCell ⟨g, k * 2 + 1, none⟩ (.int .i64 x)).ownsRow w.heap.size 26 2 (.slice (some ⟨g, 0, none⟩) (n + 1) cp) (n + 1) (flat (zs.set k ((at' zs k).1, x))) by
          rw [flat_setV zs k hkl x]
          exact (o5.stored (k * 2 + 1) (.int .i64 x)).1)
        have gS := grown_only ((OnlyAt.refl g w5).setCell (k * 2 + 1) (.int .i64 x))
        have Q := grown_other q5 gS (fun j hj => by cases hj; exact hge)
        have R := r5.grown gS (fun j hj => by cases hj; omega)
        have HL := hide (show (zs.set k ((at' zs k).1, x)).length = n + 1 by rw [List.length_set, ← unhide HN])
        clear o5 gS
        go_wp2
        go_ret
        exact ⟨zs.set k ((at' zs k).1, x), g, cp, by rw [unhide HL]; rfl, by rw [unhide HL]; omega, sg_set (unhide HSG) (unhide HX), by rw [unhide HL]; exact unhide O, ⟨p1 + 1 + 1 + 1 + 1, by omega, R⟩, Q⟩
      have v0 := o4.cellAt 0 (by omega)
      have u0 := o4.cellAt (k * 2) (by omega)
      rw [(flat_get zs k hkl).1] at u0
      have hz := (flat_get zs 0 (by omega)).1
      rw [Nat.zero_mul] at hz
      rw [hz] at v0
      have f0 := o4.frozenAt (k * 2)
      obtain ⟨T, hT⟩ : ∃ T, T = (at' zs 0).1 := ⟨_, rfl⟩
      rw [← hT] at v0
      have HX := hide (show sgood (T, (at' zs k).2) by
        have h1 := sg_at (unhide HSG) hkl
        have h2 := sg_at (unhide HSG) (k := 0) (by omega)
        exact ⟨by show -1 ≤ T; rw [hT]; exact h2.1, by show T ≤ 20000; rw [hT]; exact h2.2.1, h1.2.2⟩)
      clear hT hz
      have hge : w.heap.size ≤ g := own_ge o4 g rfl
      have O := hide (show (w4.setCell ⟨g, k * 2, none⟩ (.int .i64 T)).ownsRow w.heap.size 26 2 (.slice (some ⟨g, 0, none⟩) (n + 1) cp) (n + 1) (flat (zs.set k (T, (at' zs k).2))) by
        rw [flat_setT zs k hkl T]
        exact (o4.stored (k * 2) (.int .i64 T)).1)
      have gS := grown_only ((OnlyAt.refl g w4).setCell (k * 2) (.int .i64 T))
      have Q := grown_other q4 gS (fun j hj => by cases hj; exact hge)
      have R := r4.grown gS (fun j hj => by cases hj; omega)
      have HL := hide (show (zs.set k (T, (at' zs k).2)).length = n + 1 by rw [List.length_set, ← unhide HN])
      clear o4 gS
      go_wp2
      go_ret
      exact ⟨zs.set k (T, (at' zs k).2), g, cp, by rw [unhide HL]; rfl, by rw [unhide HL]; omega, sg_set (unhide HSG) (unhide HX), by rw [unhide HL]; exact unhide O, ⟨p1 + 1 + 1 + 1, by omega, R⟩, Q⟩
    · go_wp2
      go_ret
      exact ⟨zs, g, cp, by rw [← unhide HN]; rfl, by have := unhide HN; omega, unhide HSG, by rw [← unhide HN]; exact o2, ⟨p1 + 1, by omega, r2⟩, q2⟩
end Go.Proofs.Ytncjagdnebpaaaa.Draw

/- Texts with a sign between, as plain mathematics. No condition. -/
namespace Go.Proofs.Ytncjagdnebpaaaa.PutMath
def joinB (ps : List ByteArray) : List UInt8 := Lib.join (ps.map (·.data.toList)) [44]
theorem joinB_nil : joinB [] = [] := rfl
theorem joinTail_snoc (sep : List UInt8) (r : List (List UInt8)) (y : List UInt8) : Lib.joinTail sep (r ++ [y]) = Lib.joinTail sep r ++ (sep ++ y) := by simp [Lib.joinTail]
theorem joinB_snoc (ps : List ByteArray) (p : ByteArray) : joinB (ps ++ [p]) = (if ps.length = 0 then [] else joinB ps ++ [44]) ++ p.data.toList := by
  unfold joinB
  cases ps with
  | nil => simp [Lib.join_one]
  | cons x r => simp [Lib.join_cons, joinTail_snoc]
theorem joinB_len (ps : List ByteArray) (M : Nat) (h : ∀ p ∈ ps, p.size ≤ M) : (joinB ps).length ≤ ps.length * (M + 1) := by
  have t : ∀ (r : List ByteArray), (∀ p ∈ r, p.size ≤ M) → (Lib.joinTail [44] (r.map (·.data.toList))).length ≤ r.length * (M + 1) := by
    intro r
    induction r with
    | nil => intro _; simp [Lib.joinTail]
    | cons x r ih =>
      intro hr
      have h1 := ih (fun p hp => hr p (List.mem_cons_of_mem _ hp))
      have h2 := hr x (List.mem_cons_self ..)
      have hl : x.data.toList.length = x.size := Array.length_toList
      have e : Lib.joinTail [44] ((x :: r).map (·.data.toList)) = [44] ++ x.data.toList ++ Lib.joinTail [44] (r.map (·.data.toList)) := by simp [Lib.joinTail]
      have e2 : (x :: r).length * (M + 1) = r.length * (M + 1) + (M + 1) := by rw [List.length_cons, Nat.add_mul, Nat.one_mul]
      rw [e, e2, List.length_append, List.length_append, hl]
      simp only [List.length_cons, List.length_nil]
      omega
  unfold joinB
  cases ps with
  | nil => simp [Lib.join_nil]
  | cons x r =>
    have h1 := t r (fun p hp => h p (List.mem_cons_of_mem _ hp))
    have h2 := h x (List.mem_cons_self ..)
    have hl : x.data.toList.length = x.size := Array.length_toList
    rw [List.map_cons, Lib.join_cons, List.length_append, List.length_cons, Nat.add_mul, hl]
    omega
theorem app_toList (a b : ByteArray) : (a ++ b).data.toList = a.data.toList ++ b.data.toList := by simp [ByteArray.data_append]
theorem of_toList (l : List UInt8) : (⟨l.toArray⟩ : ByteArray).data.toList = l := by simp
theorem size_of (l : List UInt8) : (⟨l.toArray⟩ : ByteArray).size = l.length := by simp [ByteArray.size]
/-- open, what stands between, shut -/
def wrap (o s : UInt8) (ps : List ByteArray) : ByteArray := ⟨(o :: joinB ps ++ [s]).toArray⟩
/-- the text of the loop that puts one part behind the other -/
def out (o : UInt8) (ps : List ByteArray) : ByteArray := ⟨(o :: joinB ps).toArray⟩
theorem out_size (o : UInt8) (ps : List ByteArray) : (out o ps).size = (joinB ps).length + 1 := by rw [out, size_of, List.length_cons]
theorem wrap_join (o s : UInt8) (ps : List ByteArray) : (⟨#[o]⟩ ++ (⟨(joinB ps).toArray⟩ : ByteArray)) ++ ⟨#[s]⟩ = wrap o s ps := by
  apply Go.WideShapes.bytes_inj
  rw [app_toList, app_toList]
  simp [wrap]
theorem wrap_out (o s : UInt8) (ps : List ByteArray) : out o ps ++ ⟨#[s]⟩ = wrap o s ps := by
  apply Go.WideShapes.bytes_inj
  rw [app_toList]
  simp [wrap, out]
theorem out_first (o : UInt8) : out o [] = ⟨#[o]⟩ := by simp [out, joinB_nil]
theorem out_next (o : UInt8) (ps : List ByteArray) (p q : ByteArray) (h : (if ps.length = 0 then out o ps else out o ps ++ ⟨#[44]⟩) = q) : q ++ p = out o (ps ++ [p]) := by
  subst h
  apply Go.WideShapes.bytes_inj
  have e : (out o (ps ++ [p])).data.toList = o :: joinB (ps ++ [p]) := by unfold out; rw [of_toList]
  have e0 : (out o ps).data.toList = o :: joinB ps := by unfold out; rw [of_toList]
  rw [app_toList, e, joinB_snoc]
  by_cases h0 : ps.length = 0
  · obtain rfl : ps = [] := List.eq_nil_of_length_eq_zero h0
    simp [out, joinB_nil]
  · rw [if_neg h0, if_neg h0, app_toList, e0]
    simp
theorem app_assoc (a b c : ByteArray) : a ++ b ++ c = a ++ (b ++ c) := by
  apply Go.WideShapes.bytes_inj
  rw [app_toList, app_toList, app_toList, app_toList, List.append_assoc]
theorem app_size (a b : ByteArray) : (a ++ b).size = a.size + b.size := by
  have h : ∀ x : ByteArray, x.data.toList.length = x.size := fun x => Array.length_toList
  rw [← h, ← h a, ← h b, app_toList, List.length_append]
end Go.Proofs.Ytncjagdnebpaaaa.PutMath

/- Letters, names, words: of the program and of the model. -/
namespace Go.Proofs.Ytncjagdnebpaaaa.Lab
open Go.RowKit Rw Go.Lib
set_option linter.unusedVariables false
attribute [local go_sem ↓] Go.wp_at_zero Go.wp_at_succ
theorem notLetter_runes (w : World) : PredAtRunes Try.prog 60 #[] notL w := fun W r hr _ => by
  unfold FnGives
  rcases (show r < 97 ∨ (97 ≤ r ∧ r ≤ 122) ∨ (97 ≤ r ∧ 122 < r) from by omega) with h | ⟨h, h'⟩ | ⟨h, h'⟩
  · have hn : notL r = true := by unfold notL; rw [decide_eq_true h]; rfl
    have z : (r : Int) < 97 := by omega
    rw [hn]
    clear hn
    go_enter Try.func60, Try.ntmps60
    go_wp2
    go_ret
    exact ⟨rfl, 0, rfl⟩
  · have hn : notL r = false := by unfold notL; rw [decide_eq_false (by omega), decide_eq_false (by omega)]; rfl
    have z : decide ((r : Int) < 97) = false := by simp; omega
    have z2 : decide ((122 : Int) < (r : Int)) = false := by simp; omega
    rw [hn]
    clear hn
    go_enter Try.func60, Try.ntmps60
    go_wp2
    go_ret
    exact ⟨by first | rfl | exact ret_bool (decide_eq_false (by omega)), 0, rfl⟩
  · have hn : notL r = true := by unfold notL; rw [decide_eq_true h', Bool.or_true]
    have z : decide ((r : Int) < 97) = false := by simp; omega
    have z2 : (122 : Int) < (r : Int) := by omega
    rw [hn]
    clear hn
    go_enter Try.func60, Try.ntmps60
    go_wp2
    go_ret
    exact ⟨by first | rfl | exact ret_bool (decide_eq_true (by omega)), 0, rfl⟩
theorem letters_any (s : ByteArray) (w : World) : Calls Try.prog 54 #[.string s] w fun e w' => e = .returned (.bool (letters s)) ∧ Below w.heap.size w w' := by
  have H := hide (Try.strings_IndexFunc_runes 60 #[] (enters_of Try.func60 (by kernel_rfl) rfl) notL s w (notLetter_runes w))
  have HI := hide (idx_letters s)
  go_enter Try.func54, Try.ntmps54
  go_wp2_with fail
  refine (unhide H).mono ?_
  rintro e w1 ⟨rfl, b1⟩
  go_wp2_with fail
  go_ret
  exact ⟨ret_bool (unhide HI), b1⟩
theorem name_any (s : ByteArray) (w : World) (hs : s.size ≤ maxLen) : Calls Try.prog 39 #[.string s] w fun e w' => e = .returned (.bool (nameB s)) ∧ Below w.heap.size w w' := by
  unfold maxLen at hs
  have H := hide (letters_any s w)
  by_cases h1 : 1 ≤ s.size
  · by_cases h2 : s.size ≤ 6
    · have HN := hide (show nameB s = letters s by unfold nameB; rw [decide_eq_true h1, decide_eq_true h2]; rfl)
      go_enter Try.func39, Try.ntmps39
      go_wp2_with fail
      refine (unhide H).mono ?_
      rintro e w1 ⟨rfl, b1⟩
      go_wp2_with fail
      go_ret
      exact ⟨ret_bool (unhide HN).symm, b1⟩
    · have HN := hide (show nameB s = false by unfold nameB; rw [decide_eq_false h2, Bool.and_false]; rfl)
      go_enter Try.func39, Try.ntmps39
      go_wp2_with fail
      go_ret
      exact ⟨ret_bool (unhide HN).symm, Below.refl _ _⟩
  · have HN := hide (show nameB s = false by unfold nameB; rw [decide_eq_false h1]; rfl)
    go_enter Try.func39, Try.ntmps39
    go_wp2_with fail
    go_ret
    exact ⟨ret_bool (unhide HN).symm, Below.refl _ _⟩
theorem word_any (s : ByteArray) (w : World) (hs : s.size ≤ maxLen) : Calls Try.prog 40 #[.string s] w fun e w' => e = .returned (.bool (wordB s)) ∧ Below w.heap.size w w' := by
  unfold maxLen at hs
  have H := hide (letters_any s w)
  by_cases h2 : s.size ≤ 8
  · have HN := hide (show wordB s = letters s by unfold wordB; rw [decide_eq_true h2]; rfl)
    go_enter Try.func40, Try.ntmps40
    go_wp2_with fail
    refine (unhide H).mono ?_
    rintro e w1 ⟨rfl, b1⟩
    go_wp2_with fail
    go_ret
    exact ⟨ret_bool (unhide HN).symm, b1⟩
  · have HN := hide (show wordB s = false by unfold wordB; rw [decide_eq_false h2]; rfl)
    go_enter Try.func40, Try.ntmps40
    go_wp2_with fail
    go_ret
    exact ⟨ret_bool (unhide HN).symm, Below.refl _ _⟩
theorem take_snoc (s : ByteArray) (k : Nat) (h : k < s.size) : s.data.toList.take (k + 1) = s.data.toList.take k ++ [s[k]] := by
  rw [List.take_succ_eq_append_getElem (by simpa using h)]; rfl
set_option maxHeartbeats 1000000 in
theorem l3Letters_any (s : ByteArray) (most : Int) (w : World) (hs : s.size ≤ maxLen) : Calls Try.prog 47 #[.string s, .int .i64 most] w fun e w' => e = .returned (.bool (letters s && decide ((s.size : Int) ≤ most))) ∧ w' = w := by
  unfold maxLen at hs
  go_enter Try.func47, Try.ntmps47
  go_wp2
  go_loop [5] (fun i => ∃ k : Nat, k ≤ s.size ∧ i = .int .i64 k ∧ (s.data.toList.take k).all letter = true) (fun i => s.size - (intOf i).toNat)
  case atStart => exact ⟨0, Nat.zero_le _, rfl, rfl⟩
  case round =>
    obtain ⟨k, hk, rfl, hall⟩ := hrel
    have HA := hide hall
    clear hall
    by_cases hlt : k < s.size
    · have HT := hide (take_snoc s k hlt)
      have HL := hide (show letter s[k] = (decide (97 ≤ s[k].toNat) && decide (s[k].toNat ≤ 122)) from rfl)
      by_cases h1 : (s[k].toNat : Int) < 97
      · have HF := hide (show letters s = false by
          have hl : letter s[k] = false := by rw [unhide HL, decide_eq_false (by omega)]; rfl
          unfold letters
          rw [List.all_eq_false]
          exact ⟨s[k], by have : s[k] = s.data.toList[k]'(by simpa using hlt) := rfl
                          rw [this]; exact List.getElem_mem _, by simp [hl]⟩)
        go_wp2
        go_ret
        exact ⟨ret_bool (by rw [unhide HF]; rfl), rfl⟩
      · by_cases h2 : 122 < (s[k].toNat : Int)
        · have HF := hide (show letters s = false by
            have hl : letter s[k] = false := by rw [unhide HL, decide_eq_false (show ¬ s[k].toNat ≤ 122 by omega), Bool.and_false]
            unfold letters
            rw [List.all_eq_false]
            exact ⟨s[k], by have : s[k] = s.data.toList[k]'(by simpa using hlt) := rfl
                            rw [this]; exact List.getElem_mem _, by simp [hl]⟩)
          go_wp2
          go_ret
          exact ⟨ret_bool (by rw [unhide HF]; rfl), rfl⟩
        · have HS := hide (show (s.data.toList.take (k + 1)).all letter = true by
            have hl : letter s[k] = true := by rw [unhide HL, decide_eq_true (show 97 ≤ s[k].toNat by omega), decide_eq_true (show s[k].toNat ≤ 122 by omega)]; rfl
            rw [unhide HT, List.all_append, unhide HA]
            simp [hl])
          go_wp2
          go_round
          case rel => exact ⟨k + 1, by omega, by go_num, unhide HS⟩
          case measure => simp [intOf]; omega
    · have HF := hide (show letters s = true by
        have := unhide HA
        rw [List.take_of_length_le (by simp; omega)] at this
        exact this)
      go_wp2
      go_ret
      exact ⟨ret_bool (by rw [unhide HF]; rfl), rfl⟩
theorem empty_iff (s : ByteArray) : (s = ByteArray.empty) ↔ s.size = 0 := by
  constructor
  · rintro rfl; rfl
  · intro h
    cases s with
    | mk d =>
      have : d = #[] := Array.eq_empty_of_size_eq_zero h
      rw [this]; rfl
end Go.Proofs.Ytncjagdnebpaaaa.Lab
