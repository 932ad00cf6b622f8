/- My own texts of one claim, laid together by program: RdOne, DrawBig, DrawSamp, DrawSamp2. -/
import Derived.Test.YtlboekimnhgfdaaGreatG5be0a6915a
import Derived.Test.YtlboekimnhgfdaaGreatGb177af0568
/- The laws draw their inputs from bytes: what is drawn lies within bounds, and nothing that lay there is turned. -/
namespace Go.Proofs.YtlboekimnhgfdaaGreat.Draw
open Go.RowKit Rw
set_option linter.unusedVariables false
attribute [local go_sem ↓] Go.wp_at_zero Go.wp_at_succ
/-- numbers that lie in a block of their own -/
def Ints (w : World) (g : Nat) (l : List Int) : Prop := ∀ i, i < l.length → w.cell? ⟨g, i, none⟩ = some (.int .i64 (l.getD i 0))
set_option maxHeartbeats 1000000 in
theorem one_any (rb p g : Nat) (l : List Int) (w : World) (h : Rd w rb p) (hp : p ≤ 1000000) (hl : 0 < l.length) (hl2 : l.length ≤ 1000) (hg : Ints w g l) (hgs : g < w.heap.size) (hne : g ≠ rb) :
    Calls Tryz.prog 75 #[.pointer (some ⟨rb, 0, none⟩), .slice (some ⟨g, 0, none⟩) l.length l.length] w fun e w' => ∃ x : Int, e = .returned (.int .i64 x) ∧ x ∈ l ∧ Rd w' rb (p + 1) ∧ w.grownBy w' (some rb) := by
  obtain ⟨n, hn⟩ : ∃ n, n = l.length := ⟨_, rfl⟩
  rw [← hn]
  have HN := hide hn
  have n1 : 0 < n := by omega
  have n2 : n ≤ 1000 := by omega
  have HP := hide (fun k (hk : k ≤ (4294967296 : Int)) => pick_any rb p k w h hp hk)
  clear h hn hl hl2
  go_enter Tryz.func75, Tryz.ntmps75
  go_wp2_with fail
  refine (unhide HP _ (by omega)).mono ?_
  rintro e w1 ⟨x, rfl, x0, x1, -, r1, g1⟩
  have x2 : x < (n : Int) := x1 (by omega)
  obtain ⟨k, rfl⟩ := Int.eq_ofNat_of_zero_le x0
  have hk : k < n := by omega
  have hc : w1.cell? ⟨g, k, none⟩ = some (.int .i64 (l.getD k 0)) := (grown_cell g1 hgs hne).trans (hg k (by have := unhide HN; omega))
  have hm := hide (show l.getD k 0 ∈ l by
    have hk' : k < l.length := by have := unhide HN; omega
    simp [List.getD, hk'])
  generalize l.getD k 0 = X at hc hm
  clear x1
  go_wp2
  go_ret
  exact ⟨X, rfl, unhide hm, r1, g1⟩
theorem ints_block {w : World} {g : Nat} {l : List Int} {t : TypeId} (h : w.heap[g]? = some (.cells (l.map (Value.int .i64)).toArray t (0, 0))) : Ints w g l := fun i hi => by
  rw [cell_of_row w g i _ _ _ h]
  simp [List.getD, hi]
/-- one of numbers that are written out -/
theorem one_new (rb p : Nat) (l : List Int) (w : World) (h : Rd w rb p) (hp : p ≤ 1000000) (hl : 0 < l.length) (hl2 : l.length ≤ 1000) :
    Calls Tryz.prog 75 #[.pointer (some ⟨rb, 0, none⟩), .slice (some ⟨w.heap.size, 0, none⟩) l.length l.length] (w.alloc (.cells (l.map (Value.int .i64)).toArray 3)) fun e w' => ∃ x : Int, e = .returned (.int .i64 x) ∧ x ∈ l ∧ Rd w' rb (p + 1) ∧ w.grownBy w' (some rb) := by
  have hb : Below w.heap.size w (w.alloc (.cells (l.map (Value.int .i64)).toArray 3)) := (Below.refl _ _).alloc (Nat.le_refl _) _
  refine (one_any rb p w.heap.size l _ (h.below hb) hp hl hl2 (ints_block (heap_alloc_new w _)) (by simp) (by have := h.lt; omega)).mono ?_
  rintro e w' ⟨x, rfl, hx, hr, hg⟩
  exact ⟨x, rfl, hx, hr, grown_trans (grown_below hb) hg⟩
end Go.Proofs.YtlboekimnhgfdaaGreat.Draw

/- Great numbers are drawn. -/
namespace Go.Proofs.YtlboekimnhgfdaaGreat.Draw
open Go.RowKit Rw
set_option linter.unusedVariables false
attribute [local go_sem ↓] Go.wp_at_zero Go.wp_at_succ
set_option maxRecDepth 100000 in
set_option maxHeartbeats 2000000 in
theorem big_any (rb p n : Nat) (w : World) (h : Rd w rb p) (hp : p ≤ 900000) (hn : 0 < n) (hn2 : n ≤ 4294967296) :
    Calls Tryz.prog 159 #[.pointer (some ⟨rb, 0, none⟩), .int .i64 n] w fun e w' => ∃ x : Nat, e = .returned (.int .i64 x) ∧ x < n ∧ Rd w' rb (p + 3) ∧ w.grownBy w' (some rb) := by
  have HR := hide h
  clear h
  go_enter Tryz.func159, Tryz.ntmps159
  go_wp2_with fail
  refine (pick_any rb p _ _ (unhide HR) (by omega) (by omega)).mono ?_
  rintro e w1 ⟨x, rfl, x0, x1, -, r1, g1⟩
  have x2 : x < 256 := x1 (by omega)
  clear x1 HR
  go_wp2_with fail
  refine (pick_any rb (p + 1) _ _ r1 (by omega) (by omega)).mono ?_
  rintro e w2 ⟨y, rfl, y0, y1, -, r2, g2⟩
  have y2 : y < 256 := y1 (by omega)
  have q2 := grown_trans g1 g2
  clear y1 r1 g1 g2
  go_wp2_with fail
  refine (pick_any rb (p + 1 + 1) _ _ r2 (by omega) (by omega)).mono ?_
  rintro e w3 ⟨z, rfl, z0, z1, -, r3, g3⟩
  have z2 : z < 256 := z1 (by omega)
  have q3 := grown_trans q2 g3
  clear z1 r2 q2 g3
  obtain ⟨X, hX⟩ : ∃ X : Nat, (X : Int) = (x * 65536 + y * 256 + z) % (n : Int) := ⟨((x * 65536 + y * 256 + z) % (n : Int)).toNat, Int.toNat_of_nonneg (Int.emod_nonneg _ (by omega))⟩
  have hX2 : X < n := by have := Int.emod_lt_of_pos (x * 65536 + y * 256 + z) (show (0 : Int) < (n : Int) by omega); omega
  have hX3 : (x * 65536 + y * 256 + z).tmod (n : Int) = (X : Int) := by rw [Int.tmod_eq_emod_of_nonneg (by omega), hX]
  have hX4 := hX.symm
  clear hX
  go_wp2
  go_ret
  exact ⟨X, rfl, hX2, r3, q3⟩
end Go.Proofs.YtlboekimnhgfdaaGreat.Draw

/- Samples are drawn. -/
namespace Go.Proofs.YtlboekimnhgfdaaGreat.Draw
open Go.RowKit Samp SampMath Rw
set_option linter.unusedVariables false
attribute [local go_sem ↓] Go.wp_at_zero Go.wp_at_succ
set_option maxRecDepth 100000 in
set_option maxHeartbeats 2000000 in
theorem value_any (rb p : Nat) (w : World) (h : Rd w rb p) (hp : p ≤ 800000) :
    Calls Tryz.prog 143 #[.pointer (some ⟨rb, 0, none⟩)] w fun e w' => ∃ x : Int, e = .returned (.int .i64 x) ∧ 0 ≤ x ∧ x ≤ 2147483647 ∧ Rd w' rb (p + 6) ∧ w.grownBy w' (some rb) := by
  have HR := hide h
  clear h
  go_enter Tryz.func143, Tryz.ntmps143
  go_wp2_with fail
  refine (pick_any rb p _ _ (unhide HR) (by omega) (by omega)).mono ?_
  rintro e w1 ⟨x, rfl, x0, x1, -, r1, g1⟩
  have x2 : x < 10 := x1 (by omega)
  clear x1 HR
  go_wp2_with fail
  refine (big_any rb (p + 1) 16777216 _ r1 (by omega) (by omega) (by omega)).mono ?_
  rintro e w2 ⟨y, rfl, y2, r2, g2⟩
  have q2 := grown_trans g1 g2
  clear r1 g1 g2
  go_wp2_with fail
  refine (pick_any rb (p + 1 + 3) _ _ r2 (by omega) (by omega)).mono ?_
  rintro e w3 ⟨z, rfl, z0, z1, -, r3, g3⟩
  have z2 : z < 4 := z1 (by omega)
  have q3 := grown_trans q2 g3
  clear z1 r2 q2 g3
  go_wp2_with fail
  have hone := one_new rb (p + 1 + 3 + 1) [x, (y : Int), 2147483647, 0, 1073741824, z * 1000] _ r3 (by omega) (by simp) (by simp)
  simp only [List.map_cons, List.map_nil, List.length_cons, List.length_nil, Nat.zero_add, Nat.reduceAdd] at hone
  refine hone.mono ?_
  clear hone
  rintro e w4 ⟨u, rfl, hu, r4, g4⟩
  have u0 : 0 ≤ u ∧ u ≤ 2147483647 := by
    simp only [List.mem_cons, List.not_mem_nil, or_false] at hu
    omega
  have q4 := grown_trans q3 g4
  clear hu
  go_wp2
  go_ret
  exact ⟨u, rfl, u0.1, u0.2, r4, q4⟩
set_option maxRecDepth 100000 in
set_option maxHeartbeats 4000000 in
theorem samples_any (rb p most : Nat) (w : World) (h : Rd w rb p) (hp : p ≤ 700000) (hmost : most ≤ 1000) :
    Calls Tryz.prog 151 #[.pointer (some ⟨rb, 0, none⟩), .int .i64 most] w fun e w' => ∃ (zs : List S) (g cp : Nat), e = .returned (.slice (some ⟨g, 0, none⟩) zs.length cp) ∧ zs.length ≤ most ∧ w'.ownsRow w.heap.size 106 2 (.slice (some ⟨g, 0, none⟩) zs.length cp) zs.length (flat zs) ∧ (∃ p', p' ≤ p + 9 + 8 * most ∧ Rd w' rb p') ∧ w.grownBy w' (some rb) := by
  obtain ⟨i0, hi, hz0, hz1, hz2⟩ := info_parts info_sample
  have hrl := h.lt
  have HR := hide h
  clear h
  go_enter Tryz.func151, Tryz.ntmps151
  go_wp2_with fail
  refine (pick_any rb p _ _ ((unhide HR).below ((Below.refl _ _).alloc (Nat.le_refl _) _)) (by omega) (by omega)).mono ?_
  rintro e w1 ⟨x, rfl, x0, x1, -, r1, g1⟩
  have x2 : x < 300 := x1 (by omega)
  have o1 := own_kept (own_empty (w := w) (base := w.heap.size) (e := 106) (size := 2) (Nat.le_refl _)) g1 hrl
  have q1 : w.grownBy w1 (some rb) := grown_trans (grown_below ((Below.refl _ _).alloc (Nat.le_refl _) _)) g1
  clear x1 HR g1
  go_wp2_with fail
  have hone := one_new rb (p + 1) [0, x, 9000, 5000] _ r1 (by omega) (by simp) (by simp)
  simp only [List.map_cons, List.map_nil, List.length_cons, List.length_nil, Nat.zero_add, Nat.reduceAdd] at hone
  refine hone.mono ?_
  clear hone
  rintro e w2 ⟨t, rfl, ht, r2, g2⟩
  have t0 : 0 ≤ t ∧ t ≤ 9000 := by
    simp only [List.mem_cons, List.not_mem_nil, or_false] at ht
    omega
  have o2 := own_kept o1 g2 hrl
  have q2 := grown_trans q1 g2
  clear ht o1 q1 r1 g2
  go_wp2_with fail
  refine (value_any rb (p + 1 + 1) _ r2 (by omega)).mono ?_
  rintro e w3 ⟨v, rfl, v0, v1, r3, g3⟩
  have o3 := own_kept o2 g3 hrl
  have q3 := grown_trans q2 g3
  clear o2 q2 r2 g3
  go_wp2_with fail
  refine (pick_any rb (p + 1 + 1 + 6) _ _ r3 (by omega) (by omega)).mono ?_
  rintro e w4 ⟨n, rfl, n0, n1, -, r4, g4⟩
  have n2 : n < (most : Int) + 1 := n1 (by omega)
  have o4 := own_kept o3 g4 hrl
  have q4 := grown_trans q3 g4
  clear o3 q3 r3 g4 n1
  go_wp2_with fail
  go_loopw [5, 6, 7, 8] (fun ov tv vv nv wr => ∃ (k : Nat) (L : List S) (p' g cp : Nat) (T V : Int), nv = .int .i64 (k : Int) ∧ L.length + k ≤ most ∧ p' ≤ p + 9 + 8 * L.length ∧ ov = .slice (some ⟨g, 0, none⟩) L.length cp ∧ tv = .int .i64 T ∧ vv = .int .i64 V ∧ 0 ≤ T ∧ T ≤ 20000 ∧ wr.ownsRow w.heap.size 106 2 ov L.length (flat L) ∧ Rd wr rb p' ∧ w.grownBy wr (some rb)) (fun _ _ _ nv _ => (intOf nv).toNat)
  case atStart => exact ⟨n.toNat, [], p + 1 + 1 + 6 + 1, w.heap.size, 0, t, v, by rw [Int.toNat_of_nonneg n0], by simp; omega, by simp, rfl, rfl, rfl, t0.1, by omega, o4, r4, q4⟩
  case round =>
    clear o4 q4 r4
    obtain ⟨k, L, p', g, cp, T, V, rfl, hk, hp', rfl, rfl, rfl, hT0, hT1, hown, hrd, hg⟩ := hrel
    have hsz := hg.size
    by_cases hk0 : 0 < k
    · have hk1 : (0 : Int) < (k : Int) := by omega
      by_cases hT9 : T ≤ 9999
      · go_wp2_with (at_builtin; refine wpList_append_lies _ rfl _ _ _ rfl w.heap.size 106 i0 _ 2 16 Tryz.underlying91 hi hz0 hz1 hz2 rfl (by omega) _ L.length _ rfl (hown.alloc _) _ 1 1 [.int .i64 T, .int .i64 V] rfl rfl (World.news_of_block (cs := #[.int .i64 T, .int .i64 V]) (t := 106) (fr := (0, 0)) (heap_alloc_new _ _)) (by simp [Value.oneCell']) (by omega) (by unfold maxLen; omega) (by omega) (by simp; omega) _ rfl ?_; intro gg cap2 w9 hown2 hgrow hat hlt2)
        have ge := own_ge hown
        have gA : wr.grownBy (wr.alloc (.cells #[.int .i64 T, .int .i64 V] 106)) (some rb) := grown_below ((Below.refl _ _).alloc (Nat.le_refl _) _)
        have R : w.grownBy w9 (some rb) := grown_other (grown_trans hg gA) hgrow ge
        have R1 : Rd w9 rb p' := (hrd.below ((Below.refl _ _).alloc (Nat.le_refl _) _)).grown hgrow (fun k hk => by have := ge k hk; omega)
        have R2 : w9.ownsRow w.heap.size 106 2 (.slice (some ⟨gg, 0, none⟩) (L.length + 1) cap2) (L ++ [(T, V)]).length (flat (L ++ [(T, V)])) := by
          rw [List.length_append, flat_append]; exact hown2
        clear hown2 hgrow ge gA hown hg hrd
        have hone := one_new rb p' [1, 1, 10, 10, 10, 63, 64, 65, 130, 700] _ R1 (by omega) (by simp) (by simp)
        simp only [List.map_cons, List.map_nil, List.length_cons, List.length_nil, Nat.zero_add, Nat.reduceAdd] at hone
        refine hone.mono ?_
        clear hone
        rintro e w5 ⟨d, rfl, hd, r5, g5⟩
        have d0 : 1 ≤ d ∧ d ≤ 700 := by
          simp only [List.mem_cons, List.not_mem_nil, or_false] at hd
          omega
        obtain ⟨d1, d2⟩ := d0
        have o5 := own_kept R2 g5 hrl
        have q5 := grown_trans R g5
        clear hd R R1 R2 g5
        go_wp2_with fail
        refine (pick_any rb (p' + 1) _ _ r5 (by omega) (by omega)).mono ?_
        rintro e w6 ⟨m, rfl, m0, m1, -, r6, g6⟩
        have o6 := own_kept o5 g6 hrl
        have q6 := grown_trans q5 g6
        clear o5 q5 r5 g6 m1
        by_cases hm : 0 < m
        · go_wp2_with fail
          refine (value_any rb (p' + 1 + 1) _ r6 (by omega)).mono ?_
          rintro e w7 ⟨v', rfl, v0', v1', r7, g7⟩
          have o7 := own_kept o6 g7 hrl
          have q7 := grown_trans q6 g7
          have HO := hide o7
          clear o6 q6 r6 g7 o7
          go_wp2
          go_roundw
          case rel => exact ⟨k - 1, L ++ [(T, V)], p' + 1 + 1 + 6, gg, cap2, T + d, v', by go_num, by simp; omega, by simp; omega, by simp, by go_num, rfl, by omega, by omega, by simpa using unhide HO, r7, q7⟩
          case measure => simp [intOf]; omega
        · have HO := hide o6
          clear o6
          go_wp2
          go_roundw
          case rel => exact ⟨k - 1, L ++ [(T, V)], p' + 1 + 1, gg, cap2, T + d, V, by go_num, by simp; omega, by simp; omega, by simp, by go_num, rfl, by omega, by omega, by simpa using unhide HO, r6, q6⟩
          case measure => simp [intOf]; omega
      · go_wp2
        go_ret
        exact ⟨L, g, cp, rfl, by omega, hown, ⟨p', by omega, hrd⟩, hg⟩
    · go_wp2
      go_ret
      exact ⟨L, g, cp, rfl, by omega, hown, ⟨p', by omega, hrd⟩, hg⟩
end Go.Proofs.YtlboekimnhgfdaaGreat.Draw

/- Samples are drawn, some of them spoilt. -/
namespace Go.Proofs.YtlboekimnhgfdaaGreat.Draw
open Go.RowKit Samp SampMath Rw
set_option linter.unusedVariables false
attribute [local go_sem ↓] Go.wp_at_zero Go.wp_at_succ
theorem flat_setT (zs : List S) (k : Nat) (h : k < zs.length) (T : Int) : flat (zs.set k (T, (at' zs k).2)) = (flat zs).set (k * 2) (.int .i64 T) := by
  induction zs generalizing k with
  | nil => simp at h
  | cons z zs ih =>
    rcases k with _ | k
    · simp [flat, at']
    · have := ih k (by simpa using h)
      have e : (k + 1) * 2 = k * 2 + 1 + 1 := by omega
      have e2 : at' (z :: zs) (k + 1) = at' zs k := by simp [at']
      simp only [flat, List.set_cons_succ, List.flatMap_cons, List.cons_append, List.nil_append, e, e2] at this ⊢
      rw [this]
theorem flat_setV (zs : List S) (k : Nat) (h : k < zs.length) (V : Int) : flat (zs.set k ((at' zs k).1, V)) = (flat zs).set (k * 2 + 1) (.int .i64 V) := by
  induction zs generalizing k with
  | nil => simp at h
  | cons z zs ih =>
    rcases k with _ | k
    · simp [flat, at']
    · have := ih k (by simpa using h)
      have e : (k + 1) * 2 + 1 = k * 2 + 1 + 1 + 1 := by omega
      have e2 : at' (z :: zs) (k + 1) = at' zs k := by simp [at']
      simp only [flat, List.set_cons_succ, List.flatMap_cons, List.cons_append, List.nil_append, e, e2] at this ⊢
      rw [this]
set_option maxRecDepth 100000 in
set_option maxHeartbeats 4000000 in
theorem anysamples_any (rb p most : Nat) (w : World) (h : Rd w rb p) (hp : p ≤ 600000) (hmost : most ≤ 1000) :
    Calls Tryz.prog 130 #[.pointer (some ⟨rb, 0, none⟩), .int .i64 most] w fun e w' => ∃ (zs : List S) (g cp : Nat), e = .returned (.slice (some ⟨g, 0, none⟩) zs.length cp) ∧ zs.length ≤ most ∧ w'.ownsRow w.heap.size 106 2 (.slice (some ⟨g, 0, none⟩) zs.length cp) zs.length (flat zs) ∧ (∃ p', p' ≤ p + 20 + 8 * most ∧ Rd w' rb p') ∧ w.grownBy w' (some rb) := by
  have hrl := h.lt
  have HR := hide h
  clear h
  go_enter Tryz.func130, Tryz.ntmps130
  go_wp2_with fail
  refine (samples_any rb p most _ (unhide HR) (by omega) hmost).mono ?_
  rintro e w1 ⟨zs, g, cp, rfl, hl, o1, ⟨p1, hp1, r1⟩, q1⟩
  obtain ⟨n, hn⟩ : ∃ n, n = zs.length := ⟨_, rfl⟩
  rw [← hn] at hl o1 ⊢
  have HN := hide hn
  clear hn HR
  rcases n with _ | n
  · go_wp2
    go_ret
    exact ⟨zs, g, cp, by rw [← unhide HN]; rfl, by have := unhide HN; omega, by rw [← unhide HN]; exact o1, ⟨p1, by omega, r1⟩, q1⟩
  · have hnp : 0 < n + 1 := by omega
    go_wp2_with fail
    refine (pick_any rb p1 _ _ r1 (by omega) (by omega)).mono ?_
    rintro e w2 ⟨m, rfl, m0, m1, -, r2, g2⟩
    have o2 := own_kept o1 g2 hrl
    have q2 := grown_trans q1 g2
    clear o1 q1 r1 g2 m1
    by_cases hm : m = 0
    · subst hm
      go_wp2_with fail
      refine (pick_any rb (p1 + 1) _ _ r2 (by omega) (by omega)).mono ?_
      rintro e w3 ⟨kk, rfl, k0, k1, -, r3, g3⟩
      have k2 : kk < ((n + 1 : Nat) : Int) := k1 (by omega)
      obtain ⟨k, rfl⟩ := Int.eq_ofNat_of_zero_le k0
      have o3 := own_kept o2 g3 hrl
      have q3 := grown_trans q2 g3
      clear o2 q2 r2 g3 k1
      go_wp2_with fail
      refine (pick_any rb (p1 + 1 + 1) _ _ r3 (by omega) (by omega)).mono ?_
      rintro e w4 ⟨c, rfl, c0, c1, -, r4, g4⟩
      have o4 := own_kept o3 g4 hrl
      have q4 := grown_trans q3 g4
      clear o3 q3 r3 g4 c1
      have hkl : k < zs.length := by have := unhide HN; omega
      have hk0 : (0 : Int) ≤ (k : Int) := Int.natCast_nonneg _
      have hk1 : (k : Int) < (n : Int) + 1 := by omega
      by_cases hc0 : c = 0
      · subst hc0
        go_wp2_with fail
        have hone := one_new rb (p1 + 1 + 1 + 1) [-1, 10000, 0] _ r4 (by omega) (by simp) (by simp)
        simp only [List.map_cons, List.map_nil, List.length_cons, List.length_nil, Nat.zero_add, Nat.reduceAdd] at hone
        refine hone.mono ?_
        clear hone
        rintro e w5 ⟨x, rfl, hx, r5, g5⟩
        have o5 := own_kept o4 g5 hrl
        have q5 := grown_trans q4 g5
        have u0 := o5.cellAt (k * 2) (by omega)
        have u1 := o5.cellAt (k * 2 + 1) (by omega)
        rw [(flat_get zs k hkl).1] at u0
        rw [(flat_get zs k hkl).2] at u1
        have f0 := o5.frozenAt (k * 2)
        have f1 := o5.frozenAt (k * 2 + 1)
        clear o4 q4 r4 g5 hx
        have hge : w.heap.size ≤ g := own_ge o5 g rfl
        have O := hide (show (w5.setCell ⟨g, k * 2, none⟩ (.int .i64 x)).ownsRow w.heap.size 106 2 (.slice (some ⟨g, 0, none⟩) (n + 1) cp) (n + 1) (flat (zs.set k (x, (at' zs k).2))) by
          rw [flat_setT zs k hkl x]
          exact (o5.stored (k * 2) (.int .i64 x)).1)
        have gS := grown_only ((OnlyAt.refl g w5).setCell (k * 2) (.int .i64 x))
        have Q := grown_other q5 gS (fun j hj => by cases hj; exact hge)
        have R := r5.grown gS (fun j hj => by cases hj; omega)
        have HL := hide (show (zs.set k (x, (at' zs k).2)).length = n + 1 by rw [List.length_set, ← unhide HN])
        clear o5 gS
        go_wp2
        go_ret
        exact ⟨zs.set k (x, (at' zs k).2), g, cp, by rw [unhide HL]; rfl, by rw [unhide HL]; omega, by rw [unhide HL]; exact unhide O, ⟨p1 + 1 + 1 + 1 + 1, by omega, R⟩, Q⟩
      by_cases hc1 : c = 1
      · subst hc1
        go_wp2_with fail
        have hone := one_new rb (p1 + 1 + 1 + 1) [-1, 2147483648] _ r4 (by omega) (by simp) (by simp)
        simp only [List.map_cons, List.map_nil, List.length_cons, List.length_nil, Nat.zero_add, Nat.reduceAdd] at hone
        refine hone.mono ?_
        clear hone
        rintro e w5 ⟨x, rfl, hx, r5, g5⟩
        have o5 := own_kept o4 g5 hrl
        have q5 := grown_trans q4 g5
        have u0 := o5.cellAt (k * 2) (by omega)
        have u1 := o5.cellAt (k * 2 + 1) (by omega)
        rw [(flat_get zs k hkl).1] at u0
        rw [(flat_get zs k hkl).2] at u1
        have f0 := o5.frozenAt (k * 2)
        have f1 := o5.frozenAt (k * 2 + 1)
        clear o4 q4 r4 g5 hx
        have hge : w.heap.size ≤ g := own_ge o5 g rfl
        have O := hide (show (w5.setCell ⟨g, k * 2 + 1, none⟩ (.int .i64 x)).ownsRow w.heap.size 106 2 (.slice (some ⟨g, 0, none⟩) (n + 1) cp) (n + 1) (flat (zs.set k ((at' zs k).1, x))) by
          rw [flat_setV zs k hkl x]
          exact (o5.stored (k * 2 + 1) (.int .i64 x)).1)
        have gS := grown_only ((OnlyAt.refl g w5).setCell (k * 2 + 1) (.int .i64 x))
        have Q := grown_other q5 gS (fun j hj => by cases hj; exact hge)
        have R := r5.grown gS (fun j hj => by cases hj; omega)
        have HL := hide (show (zs.set k ((at' zs k).1, x)).length = n + 1 by rw [List.length_set, ← unhide HN])
        clear o5 gS
        go_wp2
        go_ret
        exact ⟨zs.set k ((at' zs k).1, x), g, cp, by rw [unhide HL]; rfl, by rw [unhide HL]; omega, by rw [unhide HL]; exact unhide O, ⟨p1 + 1 + 1 + 1 + 1, by omega, R⟩, Q⟩
      have v0 := o4.cellAt 0 (by omega)
      have u0 := o4.cellAt (k * 2) (by omega)
      rw [(flat_get zs k hkl).1] at u0
      have hz := (flat_get zs 0 (by omega)).1
      rw [Nat.zero_mul] at hz
      rw [hz] at v0
      have f0 := o4.frozenAt (k * 2)
      obtain ⟨T, hT⟩ : ∃ T, T = (at' zs 0).1 := ⟨_, rfl⟩
      rw [← hT] at v0
      clear hT hz
      have hge : w.heap.size ≤ g := own_ge o4 g rfl
      have O := hide (show (w4.setCell ⟨g, k * 2, none⟩ (.int .i64 T)).ownsRow w.heap.size 106 2 (.slice (some ⟨g, 0, none⟩) (n + 1) cp) (n + 1) (flat (zs.set k (T, (at' zs k).2))) by
        rw [flat_setT zs k hkl T]
        exact (o4.stored (k * 2) (.int .i64 T)).1)
      have gS := grown_only ((OnlyAt.refl g w4).setCell (k * 2) (.int .i64 T))
      have Q := grown_other q4 gS (fun j hj => by cases hj; exact hge)
      have R := r4.grown gS (fun j hj => by cases hj; omega)
      have HL := hide (show (zs.set k (T, (at' zs k).2)).length = n + 1 by rw [List.length_set, ← unhide HN])
      clear o4 gS
      go_wp2
      go_ret
      exact ⟨zs.set k (T, (at' zs k).2), g, cp, by rw [unhide HL]; rfl, by rw [unhide HL]; omega, by rw [unhide HL]; exact unhide O, ⟨p1 + 1 + 1 + 1, by omega, R⟩, Q⟩
    · go_wp2
      go_ret
      exact ⟨zs, g, cp, by rw [← unhide HN]; rfl, by have := unhide HN; omega, by rw [← unhide HN]; exact o2, ⟨p1 + 1, by omega, r2⟩, q2⟩
end Go.Proofs.YtlboekimnhgfdaaGreat.Draw
