/- My own texts of one claim, laid together by program: AlLab, DrawSamp2, AlSamp, AlRows. -/
import Derived.Test.YtlboekimnhgfdaaGreatG5987eed685
import Derived.Test.YtlboekimnhgfdaaGreatGfbf2e4a745
import Derived.Test.YtlboekimnhgfdaaGreatG41a3f3c89c
import Derived.Test.YtlboekimnhgfdaaGreatGca9424efef
import Derived.Test.YtlboekimnhgfdaaGreatGe77bb4e215
import Derived.Test.YtlboekimnhgfdaaGreatGfd13fb5380
import Derived.Test.YtlboekimnhgfdaaGreatG5b9f8c3b84
import Derived.Test.YtlboekimnhgfdaaGreatG32ba85294a
/- Labels are drawn twice; whether labels are the same. -/
namespace Go.Proofs.YtlboekimnhgfdaaGreat.Lab
open Go.RowKit Rw Draw
set_option linter.unusedVariables false
attribute [local go_sem ↓] Go.wp_at_zero Go.wp_at_succ
set_option maxRecDepth 100000 in
set_option maxHeartbeats 2000000 in
theorem al_any {v u : Value} {zs ys : List E} {w : World} (h : Is w v zs) (h' : Is w u ys) : Calls Tryz.prog 69 #[v, u] w fun e w' => ∃ R : Bool, e = .returned (.bool R) ∧ (R = true ↔ zs = ys) ∧ Below w.heap.size w w' := by
  obtain ⟨-, a, cap, rfl, hc, hm, -, hr⟩ := h
  obtain ⟨-, a', cap', rfl, hc', hm', -, hr'⟩ := h'
  unfold maxLen at hm hm'
  by_cases hll : zs.length = ys.length
  · obtain ⟨n, hn⟩ : ∃ n, n = zs.length := ⟨_, rfl⟩
    rw [← hll] at hc' hr' ⊢
    rw [← hn] at hc hr hc' hr' ⊢
    have HN := hide hn
    have HM := hide (hn.trans hll)
    clear hn hll
    go_enter Tryz.func69, Tryz.ntmps69
    go_wp2_with fail
    go_loopw [5] (fun i wr => ∃ (k : Nat), k ≤ n ∧ i = .int .i64 k ∧ zs.take k = ys.take k ∧ Below w.heap.size w wr) (fun i _ => n - (intOf i).toNat)
    case atStart => exact ⟨0, Nat.zero_le _, rfl, by simp, Below.refl _ _⟩
    case round =>
      obtain ⟨k, hk, rfl, hT, hbel⟩ := hrel
      have HT := hide hT
      clear hT
      have hsz := hbel.size
      by_cases hlt : k < n
      · obtain ⟨b, off, rfl, hl, hcells⟩ := hr (by omega)
        obtain ⟨b', off', rfl, hl', hcells'⟩ := hr' (by omega)
        have hkz : k < zs.length := by have := unhide HN; omega
        have hky : k < ys.length := by have := unhide HM; omega
        have s1 := at_snoc zs k hkz
        have s2 := at_snoc ys k hky
        obtain ⟨A, B, hX⟩ : ∃ A B, (A, B) = at' zs k := ⟨_, _, rfl⟩
        obtain ⟨C, D, hY⟩ : ∃ C D, (C, D) = at' ys k := ⟨_, _, rfl⟩
        have fa := ag hkz A B hX
        have fb := ag hky C D hY
        rw [← hX] at s1
        rw [← hY] at s2
        have hq0 : ∀ x : Cls wr.heap.size wr, x.val.cell? ⟨b, off + k * 2, none⟩ = some (.string A) := fun x => by rw [x.cell (by omega)]; exact (hbel.cell (p := ⟨b, _, none⟩) hl).trans (hcells (k * 2) _ fa.1)
        have hq1 : ∀ x : Cls wr.heap.size wr, x.val.cell? ⟨b, off + k * 2 + 1, none⟩ = some (.string B) := fun x => by rw [x.cell (by omega)]; exact (hbel.cell (p := ⟨b, _, none⟩) hl).trans (hcells (k * 2 + 1) _ fa.2)
        have hp0 : ∀ x : Cls wr.heap.size wr, x.val.cell? ⟨b', off' + k * 2, none⟩ = some (.string C) := fun x => by rw [x.cell (by omega)]; exact (hbel.cell (p := ⟨b', _, none⟩) hl').trans (hcells' (k * 2) _ fb.1)
        have hp1 : ∀ x : Cls wr.heap.size wr, x.val.cell? ⟨b', off' + k * 2 + 1, none⟩ = some (.string D) := fun x => by rw [x.cell (by omega)]; exact (hbel.cell (p := ⟨b', _, none⟩) hl').trans (hcells' (k * 2 + 1) _ fb.2)
        have hk0 : (0 : Int) ≤ (k : Int) := Int.natCast_nonneg _
        have hk1 : (k : Int) < (n : Int) := by omega
        have S := hide (And.intro s1 s2)
        clear s1 s2 hX hY fa fb hcells hcells' hr hr'
        have hne := cls_nonempty wr.heap.size wr
        by_cases he : A = C ∧ B = D
        · have hs : ∀ W, (binOp .neq 64 (.agg #[.string A, .string B]) (.agg #[.string C, .string D])).run Tryz.prog W = .ok (.bool false) W := fun W => run_neL A B C D false (by rw [he.1, he.2]; simp) W
          have HE := hide he
          clear he
          go_wp2_with fail
          refine region_cls (by kernel_rfl) (by kernel_rfl) ?_
          repeat (go_big_quiet_step ((fail)))
          refine wpQuiet_nil ?_
          rintro wq ⟨⟨_, hq⟩, rfl⟩
          have H7 := hide (show zs.take (k + 1) = ys.take (k + 1) by rw [(unhide S).1, (unhide S).2, unhide HT, (unhide HE).1, (unhide HE).2])
          go_wp2_with fail
          go_roundw
          case rel => exact ⟨k + 1, by omega, by go_num, unhide H7, hbel.trans (hq.mono hsz)⟩
          case measure => simp [intOf]; omega
        · have hs : ∀ W, (binOp .neq 64 (.agg #[.string A, .string B]) (.agg #[.string C, .string D])).run Tryz.prog W = .ok (.bool true) W := fun W => run_neL A B C D true (by
            rw [ByteArray.toList_eq, ByteArray.toList_eq, ByteArray.toList_eq, ByteArray.toList_eq]
            cases h1 : (A.data.toList == C.data.toList)
            · rfl
            · cases h2 : (B.data.toList == D.data.toList)
              · rfl
              · exact absurd ⟨Go.WideShapes.bytes_inj (beq_iff_eq.1 h1), Go.WideShapes.bytes_inj (beq_iff_eq.1 h2)⟩ he) W
          have HE := hide (show ¬ zs = ys from fun e => he (by
            have h1 := (unhide S).1
            have h2 := (unhide S).2
            rw [e, h2] at h1
            have := List.append_cancel_left h1
            simp only [List.cons.injEq, Prod.mk.injEq, and_true] at this
            exact ⟨this.1.symm, this.2.symm⟩))
          clear he
          go_wp2_with fail
          refine region_cls (by kernel_rfl) (by kernel_rfl) ?_
          repeat (go_big_quiet_step ((fail)))
          refine wpQuiet_nil ?_
          rintro wq ⟨⟨_, hq⟩, rfl⟩
          go_wp2_with fail
          go_ret
          exact ⟨false, rfl, ⟨fun h => (by cases h), fun h => absurd h (unhide HE)⟩, hbel.trans (hq.mono hsz)⟩
      · have hkf : decide ((k : Int) < (n : Int)) = false := by simp; omega
        have H7 := hide (show zs = ys by
          have := unhide HT
          rwa [List.take_of_length_le (by have := unhide HN; omega), List.take_of_length_le (by have := unhide HM; omega)] at this)
        go_wp2_with fail
        go_ret
        exact ⟨true, rfl, ⟨fun _ => unhide H7, fun _ => rfl⟩, hbel⟩
  · have hne : ((zs.length : Int) != (ys.length : Int)) = true := by simp; omega
    have HE := hide (show ¬ zs = ys from fun e => hll (by rw [e]))
    go_enter Tryz.func69, Tryz.ntmps69
    go_wp2_with fail
    go_ret
    exact ⟨false, rfl, ⟨fun h => (by cases h), fun h => absurd h (unhide HE)⟩, Below.refl _ _⟩
end Go.Proofs.YtlboekimnhgfdaaGreat.Lab

/- Samples are drawn, some of them spoilt. -/
namespace Go.Proofs.YtlboekimnhgfdaaGreat.Draw
open Go.RowKit Samp SampMath Rw
set_option linter.unusedVariables false
attribute [local go_sem ↓] Go.wp_at_zero Go.wp_at_succ
theorem flat_setT (zs : List S) (k : Nat) (h : k < zs.length) (T : Int) : flat (zs.set k (T, (at' zs k).2)) = (flat zs).set (k * 2) (.int .i64 T) := by
  induction zs generalizing k with
  | nil => simp at h
  | cons z zs ih =>
    rcases k with _ | k
    · simp [flat, at']
    · have := ih k (by simpa using h)
      have e : (k + 1) * 2 = k * 2 + 1 + 1 := by omega
      have e2 : at' (z :: zs) (k + 1) = at' zs k := by simp [at']
      simp only [flat, List.set_cons_succ, List.flatMap_cons, List.cons_append, List.nil_append, e, e2] at this ⊢
      rw [this]
theorem flat_setV (zs : List S) (k : Nat) (h : k < zs.length) (V : Int) : flat (zs.set k ((at' zs k).1, V)) = (flat zs).set (k * 2 + 1) (.int .i64 V) := by
  induction zs generalizing k with
  | nil => simp at h
  | cons z zs ih =>
    rcases k with _ | k
    · simp [flat, at']
    · have := ih k (by simpa using h)
      have e : (k + 1) * 2 + 1 = k * 2 + 1 + 1 + 1 := by omega
      have e2 : at' (z :: zs) (k + 1) = at' zs k := by simp [at']
      simp only [flat, List.set_cons_succ, List.flatMap_cons, List.cons_append, List.nil_append, e, e2] at this ⊢
      rw [this]
set_option maxRecDepth 100000 in
set_option maxHeartbeats 4000000 in
theorem anysamples_any (rb p most : Nat) (w : World) (h : Rd w rb p) (hp : p ≤ 600000) (hmost : most ≤ 1000) :
    Calls Tryz.prog 130 #[.pointer (some ⟨rb, 0, none⟩), .int .i64 most] w fun e w' => ∃ (zs : List S) (g cp : Nat), e = .returned (.slice (some ⟨g, 0, none⟩) zs.length cp) ∧ zs.length ≤ most ∧ w'.ownsRow w.heap.size 106 2 (.slice (some ⟨g, 0, none⟩) zs.length cp) zs.length (flat zs) ∧ (∃ p', p' ≤ p + 20 + 8 * most ∧ Rd w' rb p') ∧ w.grownBy w' (some rb) := by
  have hrl := h.lt
  have HR := hide h
  clear h
  go_enter Tryz.func130, Tryz.ntmps130
  go_wp2_with fail
  refine (samples_any rb p most _ (unhide HR) (by omega) hmost).mono ?_
  rintro e w1 ⟨zs, g, cp, rfl, hl, o1, ⟨p1, hp1, r1⟩, q1⟩
  obtain ⟨n, hn⟩ : ∃ n, n = zs.length := ⟨_, rfl⟩
  rw [← hn] at hl o1 ⊢
  have HN := hide hn
  clear hn HR
  rcases n with _ | n
  · go_wp2
    go_ret
    exact ⟨zs, g, cp, by rw [← unhide HN]; rfl, by have := unhide HN; omega, by rw [← unhide HN]; exact o1, ⟨p1, by omega, r1⟩, q1⟩
  · have hnp : 0 < n + 1 := by omega
    go_wp2_with fail
    refine (pick_any rb p1 _ _ r1 (by omega) (by omega)).mono ?_
    rintro e w2 ⟨m, rfl, m0, m1, -, r2, g2⟩
    have o2 := own_kept o1 g2 hrl
    have q2 := grown_trans q1 g2
    clear o1 q1 r1 g2 m1
    by_cases hm : m = 0
    · subst hm
      go_wp2_with fail
      refine (pick_any rb (p1 + 1) _ _ r2 (by omega) (by omega)).mono ?_
      rintro e w3 ⟨kk, rfl, k0, k1, -, r3, g3⟩
      have k2 : kk < ((n + 1 : Nat) : Int) := k1 (by omega)
      obtain ⟨k, rfl⟩ := Int.eq_ofNat_of_zero_le k0
      have o3 := own_kept o2 g3 hrl
      have q3 := grown_trans q2 g3
      clear o2 q2 r2 g3 k1
      go_wp2_with fail
      refine (pick_any rb (p1 + 1 + 1) _ _ r3 (by omega) (by omega)).mono ?_
      rintro e w4 ⟨c, rfl, c0, c1, -, r4, g4⟩
      have o4 := own_kept o3 g4 hrl
      have q4 := grown_trans q3 g4
      clear o3 q3 r3 g4 c1
      have hkl : k < zs.length := by have := unhide HN; omega
      have hk0 : (0 : Int) ≤ (k : Int) := Int.natCast_nonneg _
      have hk1 : (k : Int) < (n : Int) + 1 := by omega
      by_cases hc0 : c = 0
      · subst hc0
        go_wp2_with fail
        have hone := one_new rb (p1 + 1 + 1 + 1) [-1, 10000, 0] _ r4 (by omega) (by simp) (by simp)
        simp only [List.map_cons, List.map_nil, List.length_cons, List.length_nil, Nat.zero_add, Nat.reduceAdd] at hone
        refine hone.mono ?_
        clear hone
        rintro e w5 ⟨x, rfl, hx, r5, g5⟩
        have o5 := own_kept o4 g5 hrl
        have q5 := grown_trans q4 g5
        have u0 := o5.cellAt (k * 2) (by omega)
        have u1 := o5.cellAt (k * 2 + 1) (by omega)
        rw [(flat_get zs k hkl).1] at u0
        rw [(flat_get zs k hkl).2] at u1
        have f0 := o5.frozenAt (k * 2)
        have f1 := o5.frozenAt (k * 2 + 1)
        clear o4 q4 r4 g5 hx
        have hge : w.heap.size ≤ g := own_ge o5 g rfl
        have O := hide (show (w5.setCell ⟨g, k * 2, none⟩ (.int .i64 x)).ownsRow w.heap.size 106 2 (.slice (some ⟨g, 0, none⟩) (n + 1) cp) (n + 1) (flat (zs.set k (x, (at' zs k).2))) by
          rw [flat_setT zs k hkl x]
          exact (o5.stored (k * 2) (.int .i64 x)).1)
        have gS := grown_only ((OnlyAt.refl g w5).setCell (k * 2) (.int .i64 x))
        have Q := grown_other q5 gS (fun j hj => by cases hj; exact hge)
        have R := r5.grown gS (fun j hj => by cases hj; omega)
        have HL := hide (show (zs.set k (x, (at' zs k).2)).length = n + 1 by rw [List.length_set, ← unhide HN])
        clear o5 gS
        go_wp2
        go_ret
        exact ⟨zs.set k (x, (at' zs k).2), g, cp, by rw [unhide HL]; rfl, by rw [unhide HL]; omega, by rw [unhide HL]; exact unhide O, ⟨p1 + 1 + 1 + 1 + 1, by omega, R⟩, Q⟩
      by_cases hc1 : c = 1
      · subst hc1
        go_wp2_with fail
        have hone := one_new rb (p1 + 1 + 1 + 1) [-1, 2147483648] _ r4 (by omega) (by simp) (by simp)
        simp only [List.map_cons, List.map_nil, List.length_cons, List.length_nil, Nat.zero_add, Nat.reduceAdd] at hone
        refine hone.mono ?_
        clear hone
        rintro e w5 ⟨x, rfl, hx, r5, g5⟩
        have o5 := own_kept o4 g5 hrl
        have q5 := grown_trans q4 g5
        have u0 := o5.cellAt (k * 2) (by omega)
        have u1 := o5.cellAt (k * 2 + 1) (by omega)
        rw [(flat_get zs k hkl).1] at u0
        rw [(flat_get zs k hkl).2] at u1
        have f0 := o5.frozenAt (k * 2)
        have f1 := o5.frozenAt (k * 2 + 1)
        clear o4 q4 r4 g5 hx
        have hge : w.heap.size ≤ g := own_ge o5 g rfl
        have O := hide (show (w5.setCell ⟨g, k * 2 + 1, none⟩ (.int .i64 x)).ownsRow w.heap.size 106 2 (.slice (some ⟨g, 0, none⟩) (n + 1) cp) (n + 1) (flat (zs.set k ((at' zs k).1, x))) by
          rw [flat_setV zs k hkl x]
          exact (o5.stored (k * 2 + 1) (.int .i64 x)).1)
        have gS := grown_only ((OnlyAt.refl g w5).setCell (k * 2 + 1) (.int .i64 x))
        have Q := grown_other q5 gS (fun j hj => by cases hj; exact hge)
        have R := r5.grown gS (fun j hj => by cases hj; omega)
        have HL := hide (show (zs.set k ((at' zs k).1, x)).length = n + 1 by rw [List.length_set, ← unhide HN])
        clear o5 gS
        go_wp2
        go_ret
        exact ⟨zs.set k ((at' zs k).1, x), g, cp, by rw [unhide HL]; rfl, by rw [unhide HL]; omega, by rw [unhide HL]; exact unhide O, ⟨p1 + 1 + 1 + 1 + 1, by omega, R⟩, Q⟩
      have v0 := o4.cellAt 0 (by omega)
      have u0 := o4.cellAt (k * 2) (by omega)
      rw [(flat_get zs k hkl).1] at u0
      have hz := (flat_get zs 0 (by omega)).1
      rw [Nat.zero_mul] at hz
      rw [hz] at v0
      have f0 := o4.frozenAt (k * 2)
      obtain ⟨T, hT⟩ : ∃ T, T = (at' zs 0).1 := ⟨_, rfl⟩
      rw [← hT] at v0
      clear hT hz
      have hge : w.heap.size ≤ g := own_ge o4 g rfl
      have O := hide (show (w4.setCell ⟨g, k * 2, none⟩ (.int .i64 T)).ownsRow w.heap.size 106 2 (.slice (some ⟨g, 0, none⟩) (n + 1) cp) (n + 1) (flat (zs.set k (T, (at' zs k).2))) by
        rw [flat_setT zs k hkl T]
        exact (o4.stored (k * 2) (.int .i64 T)).1)
      have gS := grown_only ((OnlyAt.refl g w4).setCell (k * 2) (.int .i64 T))
      have Q := grown_other q4 gS (fun j hj => by cases hj; exact hge)
      have R := r4.grown gS (fun j hj => by cases hj; omega)
      have HL := hide (show (zs.set k (T, (at' zs k).2)).length = n + 1 by rw [List.length_set, ← unhide HN])
      clear o4 gS
      go_wp2
      go_ret
      exact ⟨zs.set k (T, (at' zs k).2), g, cp, by rw [unhide HL]; rfl, by rw [unhide HL]; omega, by rw [unhide HL]; exact unhide O, ⟨p1 + 1 + 1 + 1, by omega, R⟩, Q⟩
    · go_wp2
      go_ret
      exact ⟨zs, g, cp, by rw [← unhide HN]; rfl, by have := unhide HN; omega, by rw [← unhide HN]; exact o2, ⟨p1 + 1, by omega, r2⟩, q2⟩
end Go.Proofs.YtlboekimnhgfdaaGreat.Draw

/- Samples and times are drawn; the same samples are the same. -/
namespace Go.Proofs.YtlboekimnhgfdaaGreat.Draw
open Go.RowKit Samp SampMath Rw
set_option linter.unusedVariables false
attribute [local go_sem ↓] Go.wp_at_zero Go.wp_at_succ
set_option maxRecDepth 100000 in
set_option maxHeartbeats 2000000 in
theorem al_some (b off b' off' len cap cap' : Nat) (zs : List S) (w : World) (hz : zs.length = len) (h1 : len ≤ cap) (h2 : cap ≤ maxLen) (hbl : b < w.heap.size) (hr : Reads w b off zs) (h1' : len ≤ cap') (h2' : cap' ≤ maxLen) (hbl' : b' < w.heap.size) (hr' : Reads w b' off' zs) :
    Calls Tryz.prog 70 #[.slice (some ⟨b, off, none⟩) len cap, .slice (some ⟨b', off', none⟩) len cap'] w fun e w' => e = .returned (.bool true) ∧ Below w.heap.size w w' := by
  unfold maxLen at h2 h2'
  go_enter Tryz.func70, Tryz.ntmps70
  go_wp2_with fail
  go_loopw [5] (fun i wr => ∃ (k : Nat), k ≤ len ∧ i = .int .i64 k ∧ Below w.heap.size w wr) (fun i _ => len - (intOf i).toNat)
  case atStart => exact ⟨0, Nat.zero_le _, rfl, Below.refl _ _⟩
  case round =>
    obtain ⟨k, hk, rfl, hbel⟩ := hrel
    have hsz := hbel.size
    by_cases hlt : k < len
    · obtain ⟨T, hT⟩ : ∃ T, T = (at' zs k).1 := ⟨_, rfl⟩
      obtain ⟨V, hV⟩ : ∃ V, V = (at' zs k).2 := ⟨_, rfl⟩
      have hq0 : ∀ x : Cls wr.heap.size wr, x.val.cell? ⟨b, off + k * 2, none⟩ = some (.int .i64 T) := fun x => by rw [x.cell (by omega), hT]; exact (hbel.cell (p := ⟨b, _, none⟩) hbl).trans (hr k (by omega)).1
      have hq1 : ∀ x : Cls wr.heap.size wr, x.val.cell? ⟨b, off + k * 2 + 1, none⟩ = some (.int .i64 V) := fun x => by rw [x.cell (by omega), hV]; exact (hbel.cell (p := ⟨b, _, none⟩) hbl).trans (hr k (by omega)).2
      have hp0 : ∀ x : Cls wr.heap.size wr, x.val.cell? ⟨b', off' + k * 2, none⟩ = some (.int .i64 T) := fun x => by rw [x.cell (by omega), hT]; exact (hbel.cell (p := ⟨b', _, none⟩) hbl').trans (hr' k (by omega)).1
      have hp1 : ∀ x : Cls wr.heap.size wr, x.val.cell? ⟨b', off' + k * 2 + 1, none⟩ = some (.int .i64 V) := fun x => by rw [x.cell (by omega), hV]; exact (hbel.cell (p := ⟨b', _, none⟩) hbl').trans (hr' k (by omega)).2
      have hk0 : (0 : Int) ≤ (k : Int) := Int.natCast_nonneg _
      have hk1 : (k : Int) < (len : Int) := by omega
      clear hT hV
      have hne := cls_nonempty wr.heap.size wr
      go_wp2_with fail
      refine region_cls (by kernel_rfl) (by kernel_rfl) ?_
      repeat (go_big_quiet_step ((fail)))
      refine wpQuiet_nil ?_
      rintro wq ⟨⟨_, hq⟩, rfl⟩
      go_wp2
      go_roundw
      case rel => exact ⟨k + 1, by omega, by go_num, hbel.trans (hq.mono hsz)⟩
      case measure => simp [intOf]; omega
    · go_wp2
      go_ret
      exact ⟨rfl, hbel⟩
theorem al_zero (a a' : Option Addr) (c c' : Nat) (w : World) : Calls Tryz.prog 70 #[.slice a 0 c, .slice a' 0 c'] w fun e w' => e = .returned (.bool true) ∧ Below w.heap.size w w' := by
  go_enter Tryz.func70, Tryz.ntmps70
  go_wp2
  refine wp_loop_rounds 1 ?_
  rw [rounds_succ]
  go_wp2
  go_ret
  exact ⟨rfl, Below.refl _ _⟩
theorem al_same {v u : Value} {zs : List S} {w : World} (h : Smp w v zs) (h' : Smp w u zs) : Calls Tryz.prog 70 #[v, u] w fun e w' => e = .returned (.bool true) ∧ Below w.heap.size w w' := by
  rcases h with ⟨rfl, rfl⟩ | ⟨b, off, cap, rfl, h2, h3, h4, h5⟩
  · rcases h' with ⟨rfl, _⟩ | ⟨b', off', cap', rfl, _, _, _, _⟩
    · exact al_zero _ _ _ _ w
    · exact al_zero _ _ _ _ w
  · rcases h' with ⟨rfl, rfl⟩ | ⟨b', off', cap', rfl, g2, g3, g4, g5⟩
    · exact al_zero _ _ _ _ w
    · exact al_some b off b' off' _ cap cap' zs w rfl h2 h3 h4 h5 g2 g3 g4 g5
end Go.Proofs.YtlboekimnhgfdaaGreat.Draw

/- Rows are told to be the same; how many samples there are. -/
namespace Go.Proofs.YtlboekimnhgfdaaGreat.Row
open Go.RowKit Rw
set_option linter.unusedVariables false
attribute [local go_sem ↓] Go.wp_at_zero Go.wp_at_succ
theorem al_lab {v u : Value} {zs : List Lab.E} {w : World} (h : Lab.Is w v zs) (h' : Lab.Is w u zs) : Calls Tryz.prog 69 #[v, u] w fun e w' => e = .returned (.bool true) ∧ Below w.heap.size w w' :=
  (Lab.al_any h h').mono fun e w' ⟨R, h1, h2, h3⟩ => ⟨by rw [h1, h2.2 rfl], h3⟩
theorem al_sam {v u : Value} {zs : List Sam.E} {w : World} (h : Sam.Is w v zs) (h' : Sam.Is w u zs) : Calls Tryz.prog 70 #[v, u] w fun e w' => e = .returned (.bool true) ∧ Below w.heap.size w w' := by
  by_cases h0 : zs = []
  · subst h0
    obtain ⟨-, a, cap, rfl, -⟩ := h
    obtain ⟨-, a', cap', rfl, -⟩ := h'
    exact Draw.al_zero a a' cap cap' w
  · exact Draw.al_same (smp_of_lies h h0) (smp_of_lies h' h0)
set_option maxRecDepth 100000 in
set_option maxHeartbeats 4000000 in
theorem al_rows {v u : Value} {zs : List E} {w : World} (h : Is w v zs) (h' : Is w u zs) : Calls Tryz.prog 31 #[v, u] w fun e w' => e = .returned (.bool true) ∧ Below w.heap.size w w' := by
  obtain ⟨cs, hcs, hL, hE⟩ := h
  obtain ⟨ds, hds, hL', hE'⟩ := h'
  have HE := hide hE
  have HE' := hide hE'
  obtain ⟨-, a, cap, rfl, hc, hm, -, hr⟩ := hL
  obtain ⟨-, a', cap', rfl, hc', hm', -, hr'⟩ := hL'
  unfold maxLen at hm hm'
  obtain ⟨n, hn⟩ : ∃ n, n = zs.length := ⟨_, rfl⟩
  rw [← hn] at hc hr hc' hr' hcs hds ⊢
  have HN := hide hn
  have HC := hide hcs
  have HD := hide hds
  clear hn hE hE' hcs hds
  go_enter Tryz.func31, Tryz.ntmps31
  go_wp2
  go_loopw [5] (fun i wr => ∃ (j : Nat), j ≤ n ∧ i = .int .i64 j ∧ Below w.heap.size w wr) (fun i _ => n - (intOf i).toNat)
  case atStart => exact ⟨0, Nat.zero_le _, rfl, Below.refl _ _⟩
  case round =>
    obtain ⟨j, hj, rfl, hbel⟩ := hrel
    have hsz := hbel.size
    by_cases hlt : j < n
    · obtain ⟨b, off, rfl, hl, hcells⟩ := hr (by omega)
      obtain ⟨b', off', rfl, hl', hcells'⟩ := hr' (by omega)
      have fa := flat_at cs j (by have := unhide HC; omega)
      have fb := flat_at ds j (by have := unhide HD; omega)
      have hE1 := unhide HE j (by have := unhide HN; omega)
      have hE2 := unhide HE' j (by have := unhide HN; omega)
      have HO1 := hide (fun x : Cls wr.heap.size wr => al_lab ((hE1.1.below hbel).below x.isBelow) ((hE2.1.below hbel).below x.isBelow))
      have HO2 := hide (fun x : Cls wr.heap.size wr => al_sam ((hE1.2.below hbel).below x.isBelow) ((hE2.2.below hbel).below x.isBelow))
      obtain ⟨c0, c1, hX⟩ : ∃ c0 c1, (c0, c1) = cat cs j := ⟨_, _, rfl⟩
      obtain ⟨d0, d1, hY⟩ : ∃ d0 d1, (d0, d1) = cat ds j := ⟨_, _, rfl⟩
      rw [← hX] at fa HO1 HO2
      rw [← hY] at fb HO1 HO2
      have hq0 : ∀ x : Cls wr.heap.size wr, x.val.cell? ⟨b, off + j * 2, none⟩ = some c0 := fun x => by rw [x.cell (by omega)]; exact (hbel.cell (p := ⟨b, _, none⟩) hl).trans (hcells (j * 2) _ fa.1)
      have hp0 : ∀ x : Cls wr.heap.size wr, x.val.cell? ⟨b', off' + j * 2, none⟩ = some d0 := fun x => by rw [x.cell (by omega)]; exact (hbel.cell (p := ⟨b', _, none⟩) hl').trans (hcells' (j * 2) _ fb.1)
      have hq1 : ∀ x : Cls wr.heap.size wr, x.val.cell? ⟨b, off + j * 2 + 1, none⟩ = some c1 := fun x => by rw [x.cell (by omega)]; exact (hbel.cell (p := ⟨b, _, none⟩) hl).trans (hcells (j * 2 + 1) _ fa.2)
      have hp1 : ∀ x : Cls wr.heap.size wr, x.val.cell? ⟨b', off' + j * 2 + 1, none⟩ = some d1 := fun x => by rw [x.cell (by omega)]; exact (hbel.cell (p := ⟨b', _, none⟩) hl').trans (hcells' (j * 2 + 1) _ fb.2)
      have hk0 : (0 : Int) ≤ (j : Int) := Int.natCast_nonneg _
      have hk1 : (j : Int) < (n : Int) := by omega
      clear hX hY fa fb hE1 hE2
      have hne := cls_nonempty wr.heap.size wr
      go_wp2_with fail
      refine region_cls (by kernel_rfl) (by kernel_rfl) ?_
      repeat (go_big_quiet_step ((first | (go_at_call 69; exact cls_call (Nat.le_refl _) (unhide HO1 _)) | (go_at_call 70; exact cls_call (Nat.le_refl _) (unhide HO2 _)))))
      refine wpQuiet_nil ?_
      rintro w2 ⟨⟨_, hq⟩, rfl⟩
      have R := hbel.trans (hq.mono hsz)
      clear hq0 hp0 hq1 hp1 hne HO1 HO2
      go_wp2_with fail
      go_roundw
      case rel => exact ⟨j + 1, by omega, by go_num, R⟩
      case measure => simp [intOf]; omega
    · obtain rfl : j = n := by omega
      go_wp2
      go_ret
      exact ⟨rfl, hbel⟩
end Go.Proofs.YtlboekimnhgfdaaGreat.Row
