/- Two slices of samples are drawn, the second one often made of the first. -/
import Derived.Test.YtdkenakgppdabaaAlSamp
import Derived.Test.YtdkenakgppdabaaJoinMath3
namespace Go.Proofs.Ytdkenakgppdabaa.Draw
open Go.RowKit Samp SampMath Rw
set_option linter.unusedVariables false
attribute [local go_sem ↓] Go.wp_at_zero Go.wp_at_succ
theorem smp_tail {w : World} {base g cap n : Nat} {zs : List S} (hn : zs.length = n) (h : w.ownsRow base 31 2 (.slice (some ⟨g, 0, none⟩) n cap) n (flat zs)) (h2 : 2 ≤ n) : Smp w (.slice (some ⟨g, 2, none⟩) (n - 1) (cap - 1)) (zs.drop 1) := by
  subst hn
  rcases smp_of_own h with ⟨h1, _⟩ | ⟨b, off, cap', h1, h3, h4, h5, h6⟩
  · cases h1
  · simp only [Value.slice.injEq, Option.some.injEq, Addr.mk.injEq, and_true, true_and] at h1
    obtain ⟨⟨rfl, rfl⟩, rfl⟩ := h1
    refine .inr ⟨_, 2, cap - 1, by simp, by simp; omega, by omega, h5, fun i hi => ?_⟩
    have hi' : i + 1 < zs.length := by simp at hi; omega
    have e : at' (zs.drop 1) i = at' zs (i + 1) := by simp [at', List.getD]
    have := h6 (i + 1) hi'
    rw [e, show 2 + i * 2 = 0 + (i + 1) * 2 from by omega]
    exact this
theorem smp_own {w : World} {base n : Nat} {v : Value} {zs : List S} (hn : n = zs.length) (h : w.ownsRow base 31 2 v n (flat zs)) : Smp w v zs := by
  subst hn
  exact smp_of_own h
theorem own_slice {w : World} {base : Nat} {e : TypeId} {size n : Nat} {v : Value} {xs : List Value} (h : w.ownsRow base e size v n xs) : ∃ ad c, v = .slice ad n c := by
  rcases h.2 with ⟨h1, h2⟩ | ⟨g, cap, cur, h1, _⟩
  · exact ⟨none, 0, by rw [h1, h2]⟩
  · exact ⟨_, _, h1⟩
theorem own_form {w : World} {base : Nat} {e : TypeId} {size n : Nat} {v : Value} {xs : List Value} (h : w.ownsRow base e size v n xs) (hn : 0 < n) : ∃ g cap, v = .slice (some ⟨g, 0, none⟩) n cap ∧ n ≤ cap ∧ cap ≤ maxLen := by
  rcases h.2 with ⟨_, h2⟩ | ⟨g, cap, cur, rfl, _, _, h3, h4, _⟩
  · omega
  · exact ⟨g, cap, rfl, h3, h4⟩
set_option maxRecDepth 100000 in
set_option maxHeartbeats 4000000 in
theorem draw_join {a : Option Addr} {len cap : Nat} {zs : List Int} (w0 w : World) (h : IsRow .u8 w0 a len cap zs) (hB : Below w0.heap.size w0 w) :
    Calls Try.prog 10 #[.slice a len cap] w fun e w' => ∃ (zs ys : List S) (v u : Value), e = .returned (.tuple #[v, u]) ∧ zs.length ≤ 6 ∧ ys.length ≤ 6 ∧ Smp w' v zs ∧ Smp w' u ys ∧ Below w.heap.size w w' := by
  obtain ⟨i0, hi, hz0, hz1, hz2⟩ := info_parts info_sample
  have HO := hide (open_any w0 w h hB)
  clear h hB
  go_enter Try.func10, Try.ntmps10
  go_wp2_with fail
  refine (unhide HO).mono ?_
  rintro e w1 ⟨rfl, r1, b1⟩
  have hlt := r1.lt
  have hs1 := b1.size
  go_wp2_with fail
  refine (anysamples_any w.heap.size 0 6 _ r1 (by omega) (by omega)).mono ?_
  rintro e w2 ⟨zs, g, cp, rfl, hl, o2, ⟨p2, hp2, r2⟩, q2⟩
  clear r1 HO
  have hs2 := q2.size
  go_wp2_with fail
  refine (anysamples_any w.heap.size p2 6 _ r2 (by omega) (by omega)).mono ?_
  rintro e w3 ⟨ys, g', cp', rfl, hl', o3', ⟨p3, hp3, r3⟩, q3'⟩
  have o3 := own_kept o2 q3' hlt
  have q3 := grown_trans q2 q3'
  have hs3 := q3'.size
  clear o2 q2 r2 q3'
  go_wp2_with fail
  refine (pick_any w.heap.size p3 _ _ r3 (by omega) (by omega)).mono ?_
  rintro e w4 ⟨m, rfl, m0, -, -, r4, g4⟩
  have o4 := own_kept o3 g4 hlt
  have o4' := own_kept o3' g4 (by omega)
  have q4 := grown_trans q3 g4
  have hs4 := q4.size
  have b4 := b1.trans (below_of_grown q4 (Nat.le_refl _) hs1)
  have S1 := hide (smp_of_own o4)
  have S2 := hide (smp_of_own o4')
  clear o3 o3' q3 r3 g4 o4'
  by_cases hm : m = 0
  · subst hm
    have IL := hide (lies_of_own o4)
    obtain ⟨n, hn⟩ : ∃ n, n = zs.length := ⟨_, rfl⟩
    rw [← hn] at hl IL o4 ⊢
    have HN := hide hn
    have hs44 : w1.heap.size ≤ w4.heap.size := hs4
    clear hn S2
    rcases n with _ | n
    · go_wp2_with (at_builtin; refine app_wp _ rfl _ _ _ rfl w4.heap.size 31 i0 _ 2 16 Try.underlying23 hi hz0 hz1 hz2 rfl (by omega) _ 0 [] rfl (own_empty (Nat.le_refl _)) _ 0 (flat zs) rfl ((unhide IL).alloc _) (flat_oneCell _) (by unfold maxLen; omega) (by omega) (by simp) ?_; intro vn w5 on gn an; rw [Nat.zero_add, List.nil_append] at on; obtain ⟨ad, c, hfv⟩ := own_slice on; subst hfv)
      have hb5 : Below w4.heap.size w4 (w4.alloc (.cells #[] 31)) := (Below.refl _ _).alloc (Nat.le_refl _) _
      have g5 := below_of_grown (B := w4.heap.size) gn (Nat.le_refl _) (by simp)
      have b5 := hb5.trans g5
      have hs5 := b5.size
      have r5 := r4.below b5
      have S15 := hide ((unhide S1).below b5)
      have B5 := b4.trans (b5.mono b4.size)
      have oa5 := own_below o4 b5
      have hg4 : g < w4.heap.size := own_block_lt o4 g rfl
      clear gn an g5 hb5 r4 S1 IL o4 q4 b4 b5
      have S25 := hide (smp_own (unhide HN) on)
      have S16 := hide (smp_own (unhide HN) oa5)
      clear on oa5
      go_wp2_with fail
      go_ret2
      exact ⟨zs, zs, _, _, rfl, by rw [← unhide HN]; omega, by rw [← unhide HN]; omega, unhide S16, unhide S25, B5⟩
    · go_wp2_with (at_builtin; refine app_wp _ rfl _ _ _ rfl w4.heap.size 31 i0 _ 2 16 Try.underlying23 hi hz0 hz1 hz2 rfl (by omega) _ 0 [] rfl (own_empty (Nat.le_refl _)) _ (n + 1) (flat zs) rfl ((unhide IL).alloc _) (flat_oneCell _) (by unfold maxLen; omega) (by omega) (by simp) ?_; intro vn w5 on gn an; rw [Nat.zero_add, List.nil_append] at on; obtain ⟨gb, cb, hfv, hcb1, hcb2⟩ := own_form on (by omega); subst hfv)
      have hb5 : Below w4.heap.size w4 (w4.alloc (.cells #[] 31)) := (Below.refl _ _).alloc (Nat.le_refl _) _
      have g5 := below_of_grown (B := w4.heap.size) gn (Nat.le_refl _) (by simp)
      have b5 := hb5.trans g5
      have hs5 := b5.size
      have r5 := r4.below b5
      have S15 := hide ((unhide S1).below b5)
      have B5 := b4.trans (b5.mono b4.size)
      have oa5 := own_below o4 b5
      have hg4 : g < w4.heap.size := own_block_lt o4 g rfl
      clear gn an g5 hb5 r4 S1 IL o4 q4 b4 b5
      have hge : w4.heap.size ≤ gb := own_ge on gb rfl
      have hr4 : w.heap.size < w4.heap.size := by omega
      unfold maxLen at hcb2
      have hnp : 0 < n + 1 := by omega
      clear S15
      go_wp2_with fail
      refine (pick_any w.heap.size (p3 + 1) _ _ r5 (by omega) (by omega)).mono ?_
      rintro e w6 ⟨m2, rfl, m20, -, -, r6, g6⟩
      have o6 := own_kept on g6 hr4
      have oa6 := own_kept oa5 g6 hlt
      have B6 := B5.trans (below_of_grown g6 (Nat.le_refl _) (by omega))
      have hs6 := g6.size
      clear on oa5 r5 g6 B5
      by_cases hm2 : m2 = 0
      · subst hm2
        go_wp2_with fail
        refine (pick_any w.heap.size (p3 + 1 + 1) _ _ r6 (by omega) (by omega)).mono ?_
        rintro e w7 ⟨kk, rfl, k0, k1, -, r7, g7⟩
        have k2 : kk < ((n + 1 : Nat) : Int) := k1 (by omega)
        obtain ⟨k, rfl⟩ := Int.eq_ofNat_of_zero_le k0
        have o7 := own_kept o6 g7 hr4
        have oa7 := own_kept oa6 g7 hlt
        have B7 := B6.trans (below_of_grown g7 (Nat.le_refl _) (by omega))
        have hs7 := g7.size
        clear o6 oa6 r6 g7 B6 k1
        have hkl : k < zs.length := by have := unhide HN; omega
        have hk0 : (0 : Int) ≤ (k : Int) := Int.natCast_nonneg _
        have hk1 : (k : Int) < (n : Int) + 1 := by omega
        have u1 := o7.cellAt (k * 2 + 1) (by omega)
        rw [(flat_get zs k hkl).2] at u1
        have f1 := o7.frozenAt (k * 2 + 1)
        have O := hide (show (w7.setCell ⟨gb, k * 2 + 1, none⟩ (.int .i64 3)).ownsRow w4.heap.size 31 2 (.slice (some ⟨gb, 0, none⟩) (n + 1) cb) (n + 1) (flat (zs.set k ((at' zs k).1, 3))) by
          rw [flat_setV zs k hkl 3]
          exact (o7.stored (k * 2 + 1) (.int .i64 3)).1)
        have OA := hide (((OnlyAt.refl gb w7).setCell (k * 2 + 1) (.int .i64 3)).own oa7 (fun j hj => by cases hj; dsimp only; omega))
        have B8 := hide (B7.setCell (p := ⟨gb, k * 2 + 1, none⟩) (by show w.heap.size ≤ gb; omega) (.int .i64 3))
        have HL := hide (show (zs.set k ((at' zs k).1, 3)).length = n + 1 by rw [List.length_set, ← unhide HN])
        clear o7 oa7 B7 r7
        have O8 := unhide O
        have OA8 := unhide OA
        clear O OA
        rcases n with _ | n
        · have SA := hide (smp_own (unhide HN) OA8)
          have SB := hide (smp_own (unhide HL).symm O8)
          clear OA8 O8
          go_wp2_with fail
          go_ret2
          exact ⟨zs, (zs.set k ((at' zs k).1, 3)), _, _, rfl, by rw [← unhide HN]; omega, by rw [unhide HL]; omega, unhide SA, unhide SB, unhide B8⟩
        · have SA := hide (smp_own (unhide HN) OA8)
          have SB := hide (smp_tail (zs := (zs.set k ((at' zs k).1, 3))) (unhide HL) O8 (by omega))
          have hsl : ∀ X : World, (Instr.slice 23 (.slice (some ⟨gb, 0, none⟩) (n + 1 + 1) cb) (some (.int .i64 1)) none none).run Try.prog X = .ok (.slice (some ⟨gb, 2, none⟩) (n + 1 + 1 - 1) (cb - 1)) X := fun X => by
            have := tail_run (some ⟨gb, 0, none⟩) (n + 1 + 1) cb 1 (by omega) hcb1 X
            rw [show tailA (some ⟨gb, 0, none⟩) 1 cb = some ⟨gb, 2, none⟩ from by unfold tailA; rw [if_neg (by omega)]; simp [Go.WideShapes.add_plain]] at this
            exact this
          have hgt : (1 : Int) < ((n + 1 + 1 : Nat) : Int) := by omega
          clear OA8 O8
          go_wp2_with fail
          go_ret2
          exact ⟨zs, ((zs.set k ((at' zs k).1, 3))).drop 1, _, _, rfl, by rw [← unhide HN]; omega, by rw [List.length_drop, unhide HL]; omega, unhide SA, unhide SB, unhide B8⟩
      · have hm2f : (m2 == 0) = false := by simpa using hm2
        rcases n with _ | n
        · have SA := hide (smp_own (unhide HN) oa6)
          have SB := hide (smp_own (unhide HN) o6)
          clear oa6 o6
          go_wp2_with fail
          go_ret2
          exact ⟨zs, zs, _, _, rfl, by rw [← unhide HN]; omega, by rw [(unhide HN).symm]; omega, unhide SA, unhide SB, B6⟩
        · have SA := hide (smp_own (unhide HN) oa6)
          have SB := hide (smp_tail (zs := zs) ((unhide HN).symm) o6 (by omega))
          have hsl : ∀ X : World, (Instr.slice 23 (.slice (some ⟨gb, 0, none⟩) (n + 1 + 1) cb) (some (.int .i64 1)) none none).run Try.prog X = .ok (.slice (some ⟨gb, 2, none⟩) (n + 1 + 1 - 1) (cb - 1)) X := fun X => by
            have := tail_run (some ⟨gb, 0, none⟩) (n + 1 + 1) cb 1 (by omega) hcb1 X
            rw [show tailA (some ⟨gb, 0, none⟩) 1 cb = some ⟨gb, 2, none⟩ from by unfold tailA; rw [if_neg (by omega)]; simp [Go.WideShapes.add_plain]] at this
            exact this
          have hgt : (1 : Int) < ((n + 1 + 1 : Nat) : Int) := by omega
          clear oa6 o6
          go_wp2_with fail
          go_ret2
          exact ⟨zs, (zs).drop 1, _, _, rfl, by rw [← unhide HN]; omega, by rw [List.length_drop, (unhide HN).symm]; omega, unhide SA, unhide SB, B6⟩
  · have hmf : (m == 0) = false := by simpa using hm
    go_wp2_with fail
    go_ret2
    exact ⟨zs, ys, _, _, rfl, hl, hl', unhide S1, unhide S2, b4⟩
end Go.Proofs.Ytdkenakgppdabaa.Draw
