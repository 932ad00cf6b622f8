/- FnThin returns true at every text of bytes. -/
import Derived.Test.YtogdllkbiibicaaDrawThin
import Derived.Test.YtogdllkbiibicaaThinMath
import Derived.Test.YtogdllkbiibicaaWinThin
import Derived.Test.YtogdllkbiibicaaGReg
namespace Go.Proofs.Ytogdllkbiibicaa
open Go.RowKit Draw Rw
set_option linter.unusedVariables false
set_option linter.unusedSimpArgs false
theorem Sam.smp_own {w : World} {base : Nat} {v : Value} {zs : List Sam.E} (h : w.ownsRow base 41 2 v zs.length (Sam.flat zs)) : Samp.Smp w v zs := Samp.smp_of_own (by rw [Sam.sflat_eq]; exact h)
set_option maxRecDepth 100000 in
set_option maxHeartbeats 16000000 in
theorem fnThin.walk (a0 : Option Addr) (len0 cap0 : Nat) (z0 : List Int) (w : World) (w0 : IsRow .u8 w a0 len0 cap0 z0) :
    Calls Try.prog 7 #[.slice a0 len0 cap0] w fun e w' => e = .returned (.bool true) ∧ Below w.heap.size w w' := by
  have l0 := (row_bytes w0)
  have c0 : len0 ≤ 9223372036854775807 := by have := l0.1; have := l0.2.1; unfold maxLen at this; omega
  have H0 := hide (draw_thin w w w0 (Below.refl _ _))
  clear l0 w0
  by_cases hb0 : 1048576 < len0
  · go_enter Try.func7, Try.ntmps7
    go_wp2
    go_ret
    exact ⟨rfl, Below.refl _ _⟩
  go_enter Try.func7, Try.ntmps7
  go_wp2_with fail
  refine (unhide H0).mono ?_
  rintro e W ⟨zs, g, cp, st, rfl, hl, hst1, hst2, i1, hg, b1⟩
  obtain ⟨n, hn⟩ : ∃ n, n = zs.length := ⟨_, rfl⟩
  have s1 := Sam.smp_of_is i1 ⟨g, 0, zs.length, cp, rfl, hg⟩
  have hcp : zs.length ≤ cp ∧ cp ≤ 9223372036854775807 := by
    obtain ⟨-, a', c', h1, h2, h3, -⟩ := i1
    simp only [Value.slice.injEq] at h1
    unfold maxLen at h3
    omega
  rw [← hn] at hl s1 hcp ⊢
  have HN := hide hn
  have HL := hide (show zs.length ≤ 4194304 by omega)
  have HXL := hide (show (SampMath.thin zs st).length ≤ 4194304 by have := SampMath.thin_le zs st; omega)
  clear hn H0 i1 hg
  go_wp2_with fail
  refine (Sam.impl_thin st (Sam.is_of_smp s1) (unhide HL)).mono ?_
  rintro e W2 ⟨x, rfl, ox, b2⟩
  have s2 := s1.below b2
  have sx2 := Sam.smp_own ox
  have d2 := b1.trans (b2.mono b1.size)
  clear s1 b1 b2 ox
  go_wp2_with fail
  refine (Sam.spec_thin st (Sam.is_of_smp s2) (unhide HL)).mono ?_
  rintro e W3 ⟨y, rfl, oy, b3⟩
  have s3 := s2.below b3
  have sx3 := sx2.below b3
  have sy3 := Sam.smp_own oy
  have d3 := d2.trans (b3.mono d2.size)
  clear s2 sx2 d2 b3 oy
  go_wp2_with fail
  refine (al_same sx3 sy3).mono ?_
  rintro e W4 ⟨rfl, b4⟩
  have s4 := s3.below b4
  have sx4 := sx3.below b4
  have d4 := d3.trans (b4.mono d3.size)
  clear s3 sx3 sy3 d3 b4
  go_wp2_with fail
  refine (Samp.spec_ok s4).mono ?_
  rintro e W5 ⟨rfl, b5⟩
  have s5 := s4.below b5
  have sx5 := sx4.below b5
  have d5 := d4.trans (b5.mono d4.size)
  clear s4 sx4 d4 b5
  have HBad := hide (Sam.spec_thin st (Sam.is_of_smp s5) (unhide HL))
  cases hok : SampMath.ok zs
  · clear hok
    go_wp2_with fail
    refine (unhide HBad).mono ?_
    rintro e W6 ⟨y', rfl, oy, b6⟩
    have sx6 := sx5.below b6
    have sy6 := Sam.smp_own oy
    have d6 := d5.trans (b6.mono d5.size)
    clear oy b6
    go_wp2_with fail
    refine (al_same sx6 sy6).mono ?_
    rintro e W7 ⟨rfl, b7⟩
    have d7 := d6.trans (b7.mono d6.size)
    go_wp2
    go_ret
    exact ⟨rfl, d7⟩
  by_cases hst : st < 1
  · clear hok
    go_wp2_with fail
    refine (unhide HBad).mono ?_
    rintro e W6 ⟨y', rfl, oy, b6⟩
    have sx6 := sx5.below b6
    have sy6 := Sam.smp_own oy
    have d6 := d5.trans (b6.mono d5.size)
    clear oy b6
    go_wp2_with fail
    refine (al_same sx6 sy6).mono ?_
    rintro e W7 ⟨rfl, b7⟩
    have d7 := d6.trans (b7.mono d6.size)
    go_wp2
    go_ret
    exact ⟨rfl, d7⟩
  have hst0 : decide (st < 1) = false := by simp; omega
  have HK := hide hok
  have HS := hide (show SampMath.thinB st = true by unfold SampMath.thinB; rw [decide_eq_true (show 1 ≤ st by omega), decide_eq_true (show st ≤ 9999 by omega)]; rfl)
  have HCut := hide (fun i (hi : i < (SampMath.thin zs st).length) => SampMath.thin_cut (unhide HK) (unhide HS) hi)
  have HRg := hide (fun i (hi : i < (SampMath.thin zs st).length) => SampMath.ok_range (SampMath.ok_sub (unhide HK) (SampMath.thin_sub zs st)) hi)
  have HJ := hide (SampMath.join_thin st (unhide HK))
  have HTT := hide (SampMath.thin_thin (unhide HK) (unhide HS))
  have HLast := hide (fun (h : 0 < zs.length) => SampMath.thin_last (unhide HK) (unhide HS) h)
  clear hok HBad
  generalize SampMath.thin zs st = ys at sx5 HCut HRg HJ HTT HLast HXL
  obtain ⟨ax, nx, cx, rfl, vx⟩ := Samp.view_of sx5
  have HVx := hide vx
  have hx1 := vx.2.1
  have hx2 := vx.2.2.1
  unfold maxLen at hx2
  have HSx := hide sx5
  have HS5 := hide s5
  have hz5 := d5.size
  clear vx sx5 s5
  go_wp2_with fail
  clear hst0
  go_loopw [6] (fun iv wr => ∃ k : Nat, iv = .int .i64 (k : Int) ∧ k ≤ nx ∧ Below W5.heap.size W5 wr) (fun iv _ => nx - (intOf iv).toNat)
  case atStart => exact ⟨0, rfl, Nat.zero_le _, Below.refl _ _⟩
  case round =>
    obtain ⟨k, rfl, hk, hbel⟩ := hrel
    have hsz := hbel.size
    by_cases hlt : k < nx
    · obtain ⟨bx, offx, rfl, hbx, hrx⟩ := (unhide HVx).2.2.2.2 (by omega)
      have hky : k < ys.length := by rw [(unhide HVx).1]; exact hlt
      obtain ⟨M, hM⟩ := unhide HCut k hky
      have hrg := unhide HRg k hky
      have hc0 := (hbel.cell (p := ⟨bx, _, none⟩) hbx).trans (hrx k hky).1
      have hc1 := (hbel.cell (p := ⟨bx, _, none⟩) hbx).trans (hrx k hky).2
      obtain ⟨T, V, hTV⟩ : ∃ T V, (T, V) = SampMath.at' ys k := ⟨_, _, rfl⟩
      rw [← hTV] at hM hrg hc0 hc1
      simp only at hM hrg hc0 hc1
      obtain ⟨Q, hQ⟩ : ∃ Q, T / st = Q := ⟨_, rfl⟩
      have hQ0 : 0 ≤ Q ∧ Q ≤ 9999 := by rw [← hQ]; exact ⟨Int.ediv_nonneg (by omega) (by omega), Int.le_trans (Int.ediv_le_self _ (by omega)) (by omega)⟩
      have hQt : T.tdiv st = Q := by rw [Int.tdiv_eq_ediv_of_nonneg (by omega)]; exact hQ
      rw [hQ] at hM
      obtain ⟨lo, hlo⟩ : ∃ lo, Q * st = lo := ⟨_, rfl⟩
      have hlo0 : 0 ≤ lo ∧ lo ≤ 9999 := by
        rw [← hlo, ← hQ]
        have a := Int.mul_ediv_add_emod T st
        have b := Int.emod_nonneg T (show st ≠ 0 by omega)
        rw [Int.mul_comm] at a
        have c := Int.mul_nonneg (show 0 ≤ T / st by rw [hQ]; omega) (show 0 ≤ st by omega)
        omega
      rw [hlo] at hM
      have u1 : IntKind.i64.wrap Q = Q := Sam.wrap_small (by omega) (by omega)
      have u2 : IntKind.i64.wrap lo = lo := Sam.wrap_small (by omega) (by omega)
      have v1 : wrap64 Q = Q := IntWalk.wrap64_in Q ⟨by omega, by omega⟩
      have v2 : wrap64 lo = lo := IntWalk.wrap64_in lo ⟨by omega, by omega⟩
      have hsz0 : (st == 0) = false := by simp; omega
      have hsz2 : ¬ st = 0 := by omega
      have hk0 : (0 : Int) ≤ (k : Int) := Int.natCast_nonneg _
      have hk1 : (k : Int) < (nx : Int) := by omega
      have HC := hide (Samp.impl_cut lo (lo + st) ((unhide HS5).below hbel) (unhide HL))
      rw [hM] at HC
      obtain ⟨m, hm⟩ : ∃ m, m = M.length := ⟨_, rfl⟩
      have hlen : (M ++ [(T, V)]).length = m + 1 := by rw [List.length_append, hm]; rfl
      rw [hlen] at HC
      have hMl : m + 1 ≤ 9 := by
        have h1 : (Samp.cut zs lo (lo + st)).length ≤ zs.length := by unfold Samp.cut; split; exact List.length_filter_le _ _; exact Nat.zero_le _
        rw [hM, hlen] at h1
        have := unhide HN
        omega
      have HM := hide hm
      have HLn := hide hlen
      clear hTV hM hm hlen hrx hky
      go_wp2_with fail
      refine (unhide HC).mono ?_
      rintro e w6 ⟨vc, rfl, oc, b6⟩
      obtain ⟨gb, cc, rfl, hcc⟩ : ∃ gb cc, vc = .slice (some ⟨gb, 0, none⟩) (m + 1) cc ∧ m + 1 ≤ cc := by
        rcases oc.2 with ⟨-, h2⟩ | ⟨gb, cp', cu, h1, -, -, h4, -⟩
        · omega
        · exact ⟨gb, cp', h1, h4⟩
      have hcm : cc ≤ 9223372036854775807 := by
        obtain ⟨-, a', c', h1, h2, h3, -⟩ := lies_of_own oc
        simp only [Value.slice.injEq] at h1
        unfold maxLen at h3
        omega
      have fa := Samp.flat_get (M ++ [(T, V)]) m (by rw [unhide HLn]; omega)
      have ea : SampMath.at' (M ++ [(T, V)]) m = (T, V) := by rw [unhide HM]; simp [SampMath.at', List.getD]
      rw [ea] at fa
      have hgl := own_lt oc
      have k0 : w6.cell? ⟨gb, m * 2, none⟩ = some (.int .i64 T) := by rw [oc.cellAt (m * 2) (by omega)]; exact fa.1
      have k1 : w6.cell? ⟨gb, m * 2 + 1, none⟩ = some (.int .i64 V) := by rw [oc.cellAt (m * 2 + 1) (by omega)]; exact fa.2
      have hbx1 : bx < wr.heap.size := by omega
      have hbx2 : bx < w6.heap.size := by have := b6.size; omega
      have x0 : w6.cell? ⟨bx, offx + k * 2, none⟩ = some (.int .i64 T) := (b6.cell (p := ⟨bx, _, none⟩) hbx1).trans hc0
      have x1 : w6.cell? ⟨bx, offx + k * 2 + 1, none⟩ = some (.int .i64 V) := (b6.cell (p := ⟨bx, _, none⟩) hbx1).trans hc1
      have q0 : ∀ x : Cls w6.heap.size w6, x.val.cell? ⟨gb, m * 2, none⟩ = some (.int .i64 T) := fun x => by rw [x.cell hgl]; exact k0
      have q1 : ∀ x : Cls w6.heap.size w6, x.val.cell? ⟨gb, m * 2 + 1, none⟩ = some (.int .i64 V) := fun x => by rw [x.cell hgl]; exact k1
      have q2 : ∀ x : Cls w6.heap.size w6, x.val.cell? ⟨bx, offx + k * 2, none⟩ = some (.int .i64 T) := fun x => by rw [x.cell hbx2]; exact x0
      have q3 : ∀ x : Cls w6.heap.size w6, x.val.cell? ⟨bx, offx + k * 2 + 1, none⟩ = some (.int .i64 V) := fun x => by rw [x.cell hbx2]; exact x1
      have hne := cls_nonempty w6.heap.size w6
      have hm0 : (0 : Int) ≤ (m : Int) := Int.natCast_nonneg _
      have hm1 : ((m : Int) + 1 == 0) = false := by simp; omega
      have hm2 : decide ((m : Int) + 1 = 0) = false := by simp; omega
      have c6 := hbel.trans (b6.mono hsz)
      clear oc fa ea k0 k1 x0 x1 hc0 hc1 hQ hQt hlo u1 u2 v1 v2 hsz0 b6 HC
      go_wp2_with fail
      refine region_cls (by kernel_rfl) (by kernel_rfl) ?_
      repeat (go_big_quiet_step (fail))
      refine wpQuiet_nil ?_
      rintro w7 ⟨⟨_, hq⟩, rfl⟩
      have c7 := c6.trans (hq.mono c6.size)
      clear q0 q1 q2 q3 hne
      go_wp2_with fail
      go_roundw
      case rel => exact ⟨k + 1, by go_num, by omega, c7⟩
      case measure => simp [intOf]; omega
    · obtain rfl : k = nx := by omega
      have s6 := (unhide HS5).below hbel
      have sx6 := (unhide HSx).below hbel
      have d6 := d5.trans (hbel.mono hz5)
      have HI := hide (Samp.impl_join s6 sx6 (unhide HL) (unhide HXL))
      go_wp2_with fail
      refine (unhide HI).mono ?_
      rintro e W8 ⟨vall, rfl, oall, b8⟩
      rw [unhide HJ] at oall ⊢
      have s8 := s6.below b8
      have sx8 := sx6.below b8
      have sl8 := Samp.smp_of_own oall
      have d8 := d6.trans (b8.mono d6.size)
      have hb58 := hbel.trans (b8.mono hbel.size)
      obtain ⟨al, nl, cl, rfl, -⟩ := Samp.view_of sl8
      have HA1 := hide (al_same (sl8.below (Below.refl _ _).drew) (s8.below (Below.refl _ _).drew))
      have HTh := hide (fun W' (hb : Below W8.heap.size W8 W') => Sam.impl_thin st (Sam.is_of_smp (sx8.below hb)) (unhide HXL))
      rw [unhide HTT] at HTh
      have HSx8 := hide sx8
      clear s6 sx6 b8 oall sl8 HI
      rcases Nat.eq_zero_or_pos n with h0 | h0
      · subst h0
        go_wp2_with fail
        refine Grl.start (S := fun _ => True) (by kernel_rfl) (by trivial) (fun hHeld => ?_)
        refine Grl.yes 0 (v := ?_) rfl (by kernel_rfl) (by kernel_rfl) (by kernel_rfl) (fun _ _ _ h => h) (by kernel_rfl) ?_ (by assumption) ?_
        rotate_left
        · (intro w hSw; (try dsimp only at hSw); go_simp; try with_reducible rfl)
        simp only [Act.put, List.setIfInBounds_toArray, List.set_cons_zero, List.set_cons_succ]
        refine Grl.yes 1 (v := ?_) rfl (by kernel_rfl) (by kernel_rfl) (by kernel_rfl) (fun _ _ _ h => h) (by kernel_rfl) ?_ (by assumption) ?_
        rotate_left
        · (intro w hSw; (try dsimp only at hSw); go_simp; try with_reducible rfl)
        simp only [Act.put, List.setIfInBounds_toArray, List.set_cons_zero, List.set_cons_succ]
        refine Grl.yes 2 (v := ?_) rfl (by kernel_rfl) (by kernel_rfl) (by kernel_rfl) (fun _ _ _ h => h) (by kernel_rfl) ?_ (by assumption) ?_
        rotate_left
        · (intro w hSw; (try dsimp only at hSw); go_simp; try with_reducible rfl)
        simp only [Act.put, List.setIfInBounds_toArray, List.set_cons_zero, List.set_cons_succ]
        refine Grl.yes 3 (v := ?_) rfl (by kernel_rfl) (by kernel_rfl) (by kernel_rfl) (fun _ _ _ h => h) (by kernel_rfl) ?_ (by assumption) ?_
        rotate_left
        · (intro w hSw; (try dsimp only at hSw); go_simp; try with_reducible rfl)
        simp only [Act.put, List.setIfInBounds_toArray, List.set_cons_zero, List.set_cons_succ]
        refine Grl.one 4 rfl (by kernel_rfl) (fun K hK => ?_)
        go_simp
        go_wp2_with (refine (unhide HA1).mono ?_; rintro e w9 ⟨rfl, b9⟩; have c9 : Below W8.heap.size W8 w9 := (Below.refl _ _).drew.trans b9)
        refine hK.out _ _ (by trivial) (fun hHeld => ?_)
        clear hK K
        refine Grl.yes 5 (v := ?_) rfl (by kernel_rfl) (by kernel_rfl) (by kernel_rfl) (fun _ _ _ h => h) (by kernel_rfl) ?_ (by assumption) ?_
        rotate_left
        · (intro w hSw; (try dsimp only at hSw); go_simp; try with_reducible rfl)
        simp only [Act.put, List.setIfInBounds_toArray, List.set_cons_zero, List.set_cons_succ]
        refine Grl.yes 6 (v := ?_) rfl (by kernel_rfl) (by kernel_rfl) (by kernel_rfl) (fun _ _ _ h => h) (by kernel_rfl) ?_ (by assumption) ?_
        rotate_left
        · (intro w hSw; (try dsimp only at hSw); go_simp; try with_reducible rfl)
        simp only [Act.put, List.setIfInBounds_toArray, List.set_cons_zero, List.set_cons_succ]
        refine Grl.yes 7 (v := ?_) rfl (by kernel_rfl) (by kernel_rfl) (by kernel_rfl) (fun _ _ _ h => h) (by kernel_rfl) ?_ (by assumption) ?_
        rotate_left
        · (intro w hSw; (try dsimp only at hSw); go_simp; try with_reducible rfl)
        simp only [Act.put, List.setIfInBounds_toArray, List.set_cons_zero, List.set_cons_succ]
        refine Grl.yes 8 (v := ?_) rfl (by kernel_rfl) (by kernel_rfl) (by kernel_rfl) (fun _ _ _ h => h) (by kernel_rfl) ?_ (by assumption) ?_
        rotate_left
        · (intro w hSw; (try dsimp only at hSw); go_simp; try with_reducible rfl)
        simp only [Act.put, List.setIfInBounds_toArray, List.set_cons_zero, List.set_cons_succ]
        refine Grl.yes 10 (v := ?_) rfl (by kernel_rfl) (by kernel_rfl) (by kernel_rfl) (fun _ _ _ h => h) (by kernel_rfl) ?_ (by assumption) ?_
        rotate_left
        · (intro w hSw; (try dsimp only at hSw); go_simp; try with_reducible rfl)
        simp only [Act.put, List.setIfInBounds_toArray, List.set_cons_zero, List.set_cons_succ]
        refine Grl.one 9 rfl (by kernel_rfl) (fun K hK => ?_)
        go_simp
        go_wp2_with (refine (unhide HTh w9 c9).mono ?_; rintro e w10 ⟨r, rfl, or10, b10⟩; have c10 := c9.trans (b10.mono c9.size); obtain ⟨ar, nr, cr, hr10, -⟩ := Samp.view_of (Sam.smp_own or10); subst hr10)
        refine hK.out _ _ (by trivial) (fun hHeld => ?_)
        clear hK K
        refine Grl.one 11 rfl (by kernel_rfl) (fun K hK => ?_)
        go_simp
        go_wp2_with (refine (al_same (Sam.smp_own or10) ((unhide HSx8).below c10)).mono ?_; rintro e w11 ⟨rfl, b11⟩; have c11 := c10.trans (b11.mono c10.size))
        refine hK.out _ _ (by trivial) (fun hHeld => ?_)
        clear hK K
        refine Grl.yes 12 (v := ?_) rfl (by kernel_rfl) (by kernel_rfl) (by kernel_rfl) (fun _ _ _ h => h) (by kernel_rfl) ?_ (by assumption) ?_
        rotate_left
        · (intro w hSw; (try dsimp only at hSw); go_simp; try with_reducible rfl)
        simp only [Act.put, List.setIfInBounds_toArray, List.set_cons_zero, List.set_cons_succ]
        refine Grl.yes 13 (v := ?_) rfl (by kernel_rfl) (by kernel_rfl) (by kernel_rfl) (fun _ _ _ h => h) (by kernel_rfl) ?_ (by assumption) ?_
        rotate_left
        · (intro w hSw; (try dsimp only at hSw); go_simp; try with_reducible rfl)
        simp only [Act.put, List.setIfInBounds_toArray, List.set_cons_zero, List.set_cons_succ]
        refine Grl.yes 14 (v := ?_) rfl (by kernel_rfl) (by kernel_rfl) (by kernel_rfl) (fun _ _ _ h => h) (by kernel_rfl) ?_ (by assumption) ?_
        rotate_left
        · (intro w hSw; (try dsimp only at hSw); go_simp; try with_reducible rfl)
        simp only [Act.put, List.setIfInBounds_toArray, List.set_cons_zero, List.set_cons_succ]
        refine Grl.yes 15 (v := ?_) rfl (by kernel_rfl) (by kernel_rfl) (by kernel_rfl) (fun _ _ _ h => h) (by kernel_rfl) ?_ (by assumption) ?_
        rotate_left
        · (intro w hSw; (try dsimp only at hSw); go_simp; try with_reducible rfl)
        simp only [Act.put, List.setIfInBounds_toArray, List.set_cons_zero, List.set_cons_succ]
        refine Grl.yes 16 (v := ?_) rfl (by kernel_rfl) (by kernel_rfl) (by kernel_rfl) (fun _ _ _ h => h) (by kernel_rfl) ?_ (by assumption) ?_
        rotate_left
        · (intro w hSw; (try dsimp only at hSw); go_simp; try with_reducible rfl)
        simp only [Act.put, List.setIfInBounds_toArray, List.set_cons_zero, List.set_cons_succ]
        refine Grl.yes 17 (v := ?_) rfl (by kernel_rfl) (by kernel_rfl) (by kernel_rfl) (fun _ _ _ h => h) (by kernel_rfl) ?_ (by assumption) ?_
        rotate_left
        · (intro w hSw; (try dsimp only at hSw); go_simp; try with_reducible rfl)
        simp only [Act.put, List.setIfInBounds_toArray, List.set_cons_zero, List.set_cons_succ]
        refine Grl.no 18 rfl (by kernel_rfl) (by kernel_rfl) (by kernel_rfl) (fun _ _ _ h => h) (by kernel_rfl) (by assumption) ?_
        simp only [Act.put, List.setIfInBounds_toArray, List.set_cons_zero, List.set_cons_succ]
        refine Grl.no 19 rfl (by kernel_rfl) (by kernel_rfl) (by kernel_rfl) (fun _ _ _ h => h) (by kernel_rfl) (by assumption) ?_
        simp only [Act.put, List.setIfInBounds_toArray, List.set_cons_zero, List.set_cons_succ]
        refine Grl.no 20 rfl (by kernel_rfl) (by kernel_rfl) (by kernel_rfl) (fun _ _ _ h => h) (by kernel_rfl) (by assumption) ?_
        simp only [Act.put, List.setIfInBounds_toArray, List.set_cons_zero, List.set_cons_succ]
        refine Grl.no 21 rfl (by kernel_rfl) (by kernel_rfl) (by kernel_rfl) (fun _ _ _ h => h) (by kernel_rfl) (by assumption) ?_
        simp only [Act.put, List.setIfInBounds_toArray, List.set_cons_zero, List.set_cons_succ]
        refine Grl.no 22 rfl (by kernel_rfl) (by kernel_rfl) (by kernel_rfl) (fun _ _ _ h => h) (by kernel_rfl) (by assumption) ?_
        simp only [Act.put, List.setIfInBounds_toArray, List.set_cons_zero, List.set_cons_succ]
        refine Grl.no 23 rfl (by kernel_rfl) (by kernel_rfl) (by kernel_rfl) (fun _ _ _ h => h) (by kernel_rfl) (by assumption) ?_
        simp only [Act.put, List.setIfInBounds_toArray, List.set_cons_zero, List.set_cons_succ]
        refine Grl.no 24 rfl (by kernel_rfl) (by kernel_rfl) (by kernel_rfl) (fun _ _ _ h => h) (by kernel_rfl) (by assumption) ?_
        simp only [Act.put, List.setIfInBounds_toArray, List.set_cons_zero, List.set_cons_succ]
        refine Grl.no 25 rfl (by kernel_rfl) (by kernel_rfl) (by kernel_rfl) (fun _ _ _ h => h) (by kernel_rfl) (by assumption) ?_
        simp only [Act.put, List.setIfInBounds_toArray, List.set_cons_zero, List.set_cons_succ]
        refine Grl.no 26 rfl (by kernel_rfl) (by kernel_rfl) (by kernel_rfl) (fun _ _ _ h => h) (by kernel_rfl) (by assumption) ?_
        simp only [Act.put, List.setIfInBounds_toArray, List.set_cons_zero, List.set_cons_succ]
        refine Grl.no 27 rfl (by kernel_rfl) (by kernel_rfl) (by kernel_rfl) (fun _ _ _ h => h) (by kernel_rfl) (by assumption) ?_
        simp only [Act.put, List.setIfInBounds_toArray, List.set_cons_zero, List.set_cons_succ]
        refine Grl.no 28 rfl (by kernel_rfl) (by kernel_rfl) (by kernel_rfl) (fun _ _ _ h => h) (by kernel_rfl) (by assumption) ?_
        simp only [Act.put, List.setIfInBounds_toArray, List.set_cons_zero, List.set_cons_succ]
        refine Grl.no 29 rfl (by kernel_rfl) (by kernel_rfl) (by kernel_rfl) (fun _ _ _ h => h) (by kernel_rfl) (by assumption) ?_
        simp only [Act.put, List.setIfInBounds_toArray, List.set_cons_zero, List.set_cons_succ]
        refine Grl.no 30 rfl (by kernel_rfl) (by kernel_rfl) (by kernel_rfl) (fun _ _ _ h => h) (by kernel_rfl) (by assumption) ?_
        simp only [Act.put, List.setIfInBounds_toArray, List.set_cons_zero, List.set_cons_succ]
        refine Grl.no 31 rfl (by kernel_rfl) (by kernel_rfl) (by kernel_rfl) (fun _ _ _ h => h) (by kernel_rfl) (by assumption) ?_
        simp only [Act.put, List.setIfInBounds_toArray, List.set_cons_zero, List.set_cons_succ]
        refine Grl.no 32 rfl (by kernel_rfl) (by kernel_rfl) (by kernel_rfl) (fun _ _ _ h => h) (by kernel_rfl) (by assumption) ?_
        simp only [Act.put, List.setIfInBounds_toArray, List.set_cons_zero, List.set_cons_succ]
        refine Grl.no 33 rfl (by kernel_rfl) (by kernel_rfl) (by kernel_rfl) (fun _ _ _ h => h) (by kernel_rfl) (by assumption) ?_
        simp only [Act.put, List.setIfInBounds_toArray, List.set_cons_zero, List.set_cons_succ]
        refine Grl.no 34 rfl (by kernel_rfl) (by kernel_rfl) (by kernel_rfl) (fun _ _ _ h => h) (by kernel_rfl) (by assumption) ?_
        simp only [Act.put, List.setIfInBounds_toArray, List.set_cons_zero, List.set_cons_succ]
        refine Grl.no 35 rfl (by kernel_rfl) (by kernel_rfl) (by kernel_rfl) (fun _ _ _ h => h) (by kernel_rfl) (by assumption) ?_
        simp only [Act.put, List.setIfInBounds_toArray, List.set_cons_zero, List.set_cons_succ]
        refine Grl.yes 36 (v := ?_) rfl (by kernel_rfl) (by kernel_rfl) (by kernel_rfl) (fun _ _ _ h => h) (by kernel_rfl) ?_ (by assumption) ?_
        rotate_left
        · (intro w hSw; (try dsimp only at hSw); go_simp; try with_reducible rfl)
        simp only [Act.put, List.setIfInBounds_toArray, List.set_cons_zero, List.set_cons_succ]
        refine Grl.yes 37 (v := ?_) rfl (by kernel_rfl) (by kernel_rfl) (by kernel_rfl) (fun _ _ _ h => h) (by kernel_rfl) ?_ (by assumption) ?_
        rotate_left
        · (intro w hSw; (try dsimp only at hSw); go_simp; try with_reducible rfl)
        simp only [Act.put, List.setIfInBounds_toArray, List.set_cons_zero, List.set_cons_succ]
        refine Grl.yes 38 (v := ?_) rfl (by kernel_rfl) (by kernel_rfl) (by kernel_rfl) (fun _ _ _ h => h) (by kernel_rfl) ?_ (by assumption) ?_
        rotate_left
        · (intro w hSw; (try dsimp only at hSw); go_simp; try with_reducible rfl)
        simp only [Act.put, List.setIfInBounds_toArray, List.set_cons_zero, List.set_cons_succ]
        refine wpAnyH_done (by kernel_rfl) ?_ _
        have d11 := d8.trans (c11.mono d8.size)
        go_wp2
        go_ret
        exact ⟨rfl, d11⟩
      · obtain ⟨M, hM⟩ := unhide HLast (by have := unhide HN; omega)
        have hyl := (unhide HVx).1
        obtain ⟨m, hm⟩ : ∃ m, m = M.length := ⟨_, rfl⟩
        have hk : k = m + 1 := by rw [← hyl, hM, List.length_append, hm]; rfl
        obtain ⟨p, hp⟩ : ∃ p, n = p + 1 := ⟨n - 1, by omega⟩
        subst hk hp
        obtain ⟨bx, offx, rfl, hbx, hrx⟩ := (unhide HVx).2.2.2.2 (by omega)
        have hr1 := hrx m (by rw [hyl]; omega)
        obtain ⟨bg, og, eg, hbg, hrg⟩ : ∃ b off, (some ⟨g, 0, none⟩ : Option Addr) = some ⟨b, off, none⟩ ∧ b < W5.heap.size ∧ Samp.Reads W5 b off zs := by
          obtain ⟨a', n', c', e', v'⟩ := Samp.view_of (unhide HS5)
          simp only [Value.slice.injEq] at e'
          obtain ⟨rfl, rfl, rfl⟩ := e'
          exact v'.2.2.2.2 (by omega)
        simp only [Option.some.injEq, Addr.mk.injEq, and_true] at eg
        obtain ⟨rfl, rfl⟩ := eg
        have hr2 := hrg p (by have := unhide HN; omega)
        have e1 : SampMath.at' ys m = SampMath.at' zs p := by
          rw [hM, hm, show zs.length - 1 = p by have := unhide HN; omega]
          simp [SampMath.at', List.getD]
        rw [e1] at hr1
        obtain ⟨T, V, hTV⟩ : ∃ T V, (T, V) = SampMath.at' zs p := ⟨_, _, rfl⟩
        rw [← hTV] at hr1 hr2
        simp only [Nat.zero_add] at hr1 hr2
        have b58 : Below W5.heap.size W5 W8 := hb58
        have HR1 := hide hr1
        have HR2 := hide hr2
        have hp0 : (0 : Int) ≤ (p : Int) := Int.natCast_nonneg _
        have hm0 : (0 : Int) ≤ (m : Int) := Int.natCast_nonneg _
        have hp1 : ((p : Int) + 1 == 0) = false := by simp; omega
        have hp2 : decide ((p : Int) + 1 = 0) = false := by first | (simp; done) | (simp; omega)
        have hmp : decide (0 < (m : Int) + 1) = true := by first | (simp; done) | (simp; omega)
        have hpl : p + 1 ≤ 9 := by omega
        have hwm : IntKind.i64.wrap (m : Int) = (m : Int) := Grl.wrap_ok (by omega) (by have := unhide HXL; omega)
        have hwp : IntKind.i64.wrap (p : Int) = (p : Int) := Grl.wrap_ok (by omega) (by omega)
        have hm1 : (m : Int) < (m : Int) + 1 := by omega
        have hpp1 : (p : Int) < (p : Int) + 1 := by omega
        clear hM hm hyl hrx hrg e1 hTV hr1 hr2
        have HCells := hide (fun (X : World) (hX : Below W8.heap.size W8 X) => show (fun X => X.cell? ⟨bx, offx + m * 2, none⟩ = some (.int .i64 T) ∧ X.cell? ⟨bx, offx + m * 2 + 1, none⟩ = some (.int .i64 V) ∧ X.cell? ⟨g, p * 2, none⟩ = some (.int .i64 T) ∧ X.cell? ⟨g, p * 2 + 1, none⟩ = some (.int .i64 V)) X from ⟨((b58.trans (hX.mono b58.size)).cell (p := ⟨bx, _, none⟩) hbx).trans (unhide HR1).1, ((b58.trans (hX.mono b58.size)).cell (p := ⟨bx, _, none⟩) hbx).trans (unhide HR1).2, ((b58.trans (hX.mono b58.size)).cell (p := ⟨g, _, none⟩) hbg).trans (unhide HR2).1, ((b58.trans (hX.mono b58.size)).cell (p := ⟨g, _, none⟩) hbg).trans (unhide HR2).2⟩)
        go_wp2_with fail
        refine Grl.start (S := fun X => X.cell? ⟨bx, offx + m * 2, none⟩ = some (.int .i64 T) ∧ X.cell? ⟨bx, offx + m * 2 + 1, none⟩ = some (.int .i64 V) ∧ X.cell? ⟨g, p * 2, none⟩ = some (.int .i64 T) ∧ X.cell? ⟨g, p * 2 + 1, none⟩ = some (.int .i64 V)) (by kernel_rfl) (by exact unhide HCells _ (Below.refl _ _).drew) (fun hHeld => ?_)
        refine Grl.yes 0 (v := ?_) rfl (by kernel_rfl) (by kernel_rfl) (by kernel_rfl) (fun _ _ _ h => h) (by kernel_rfl) ?_ (by assumption) ?_
        rotate_left
        · (intro w hSw; (try dsimp only at hSw); go_simp; try with_reducible rfl)
        simp only [Act.put, List.setIfInBounds_toArray, List.set_cons_zero, List.set_cons_succ]
        refine Grl.yes 1 (v := ?_) rfl (by kernel_rfl) (by kernel_rfl) (by kernel_rfl) (fun _ _ _ h => h) (by kernel_rfl) ?_ (by assumption) ?_
        rotate_left
        · (intro w hSw; (try dsimp only at hSw); go_simp; try with_reducible rfl)
        simp only [Act.put, List.setIfInBounds_toArray, List.set_cons_zero, List.set_cons_succ]
        refine Grl.yes 2 (v := ?_) rfl (by kernel_rfl) (by kernel_rfl) (by kernel_rfl) (fun _ _ _ h => h) (by kernel_rfl) ?_ (by assumption) ?_
        rotate_left
        · (intro w hSw; (try dsimp only at hSw); go_simp; try with_reducible rfl)
        simp only [Act.put, List.setIfInBounds_toArray, List.set_cons_zero, List.set_cons_succ]
        refine Grl.yes 3 (v := ?_) rfl (by kernel_rfl) (by kernel_rfl) (by kernel_rfl) (fun _ _ _ h => h) (by kernel_rfl) ?_ (by assumption) ?_
        rotate_left
        · (intro w hSw; (try dsimp only at hSw); go_simp; try with_reducible rfl)
        simp only [Act.put, List.setIfInBounds_toArray, List.set_cons_zero, List.set_cons_succ]
        refine Grl.one 4 rfl (by kernel_rfl) (fun K hK => ?_)
        go_simp
        go_wp2_with (refine (unhide HA1).mono ?_; rintro e w9 ⟨rfl, b9⟩; have c9 : Below W8.heap.size W8 w9 := (Below.refl _ _).drew.trans b9)
        refine hK.out _ _ (by exact unhide HCells w9 c9) (fun hHeld => ?_)
        clear hK K
        refine Grl.yes 5 (v := ?_) rfl (by kernel_rfl) (by kernel_rfl) (by kernel_rfl) (fun _ _ _ h => h) (by kernel_rfl) ?_ (by assumption) ?_
        rotate_left
        · (intro w hSw; (try dsimp only at hSw); go_simp; try with_reducible rfl)
        simp only [Act.put, List.setIfInBounds_toArray, List.set_cons_zero, List.set_cons_succ]
        refine Grl.yes 6 (v := ?_) rfl (by kernel_rfl) (by kernel_rfl) (by kernel_rfl) (fun _ _ _ h => h) (by kernel_rfl) ?_ (by assumption) ?_
        rotate_left
        · (intro w hSw; (try dsimp only at hSw); go_simp; try with_reducible rfl)
        simp only [Act.put, List.setIfInBounds_toArray, List.set_cons_zero, List.set_cons_succ]
        refine Grl.yes 7 (v := ?_) rfl (by kernel_rfl) (by kernel_rfl) (by kernel_rfl) (fun _ _ _ h => h) (by kernel_rfl) ?_ (by assumption) ?_
        rotate_left
        · (intro w hSw; (try dsimp only at hSw); go_simp; try with_reducible rfl)
        simp only [Act.put, List.setIfInBounds_toArray, List.set_cons_zero, List.set_cons_succ]
        refine Grl.yes 8 (v := ?_) rfl (by kernel_rfl) (by kernel_rfl) (by kernel_rfl) (fun _ _ _ h => h) (by kernel_rfl) ?_ (by assumption) ?_
        rotate_left
        · (intro w hSw; (try dsimp only at hSw); go_simp; try with_reducible rfl)
        simp only [Act.put, List.setIfInBounds_toArray, List.set_cons_zero, List.set_cons_succ]
        refine Grl.yes 10 (v := ?_) rfl (by kernel_rfl) (by kernel_rfl) (by kernel_rfl) (fun _ _ _ h => h) (by kernel_rfl) ?_ (by assumption) ?_
        rotate_left
        · (intro w hSw; (try dsimp only at hSw); go_simp; try with_reducible rfl)
        simp only [Act.put, List.setIfInBounds_toArray, List.set_cons_zero, List.set_cons_succ]
        refine Grl.one 9 rfl (by kernel_rfl) (fun K hK => ?_)
        go_simp
        go_wp2_with (refine (unhide HTh w9 c9).mono ?_; rintro e w10 ⟨r, rfl, or10, b10⟩; have c10 := c9.trans (b10.mono c9.size); obtain ⟨ar, nr, cr, hr10, -⟩ := Samp.view_of (Sam.smp_own or10); subst hr10)
        refine hK.out _ _ (by exact unhide HCells w10 c10) (fun hHeld => ?_)
        clear hK K
        refine Grl.one 11 rfl (by kernel_rfl) (fun K hK => ?_)
        go_simp
        go_wp2_with (refine (al_same (Sam.smp_own or10) ((unhide HSx8).below c10)).mono ?_; rintro e w11 ⟨rfl, b11⟩; have c11 := c10.trans (b11.mono c10.size))
        refine hK.out _ _ (by exact unhide HCells w11 c11) (fun hHeld => ?_)
        clear hK K
        refine Grl.yes 12 (v := ?_) rfl (by kernel_rfl) (by kernel_rfl) (by kernel_rfl) (fun _ _ _ h => h) (by kernel_rfl) ?_ (by assumption) ?_
        rotate_left
        · (intro w hSw; (try dsimp only at hSw); go_simp; try with_reducible rfl)
        simp only [Act.put, List.setIfInBounds_toArray, List.set_cons_zero, List.set_cons_succ]
        refine Grl.yes 13 (v := ?_) rfl (by kernel_rfl) (by kernel_rfl) (by kernel_rfl) (fun _ _ _ h => h) (by kernel_rfl) ?_ (by assumption) ?_
        rotate_left
        · (intro w hSw; (try dsimp only at hSw); go_simp; try with_reducible rfl)
        simp only [Act.put, List.setIfInBounds_toArray, List.set_cons_zero, List.set_cons_succ]
        refine Grl.yes 14 (v := ?_) rfl (by kernel_rfl) (by kernel_rfl) (by kernel_rfl) (fun _ _ _ h => h) (by kernel_rfl) ?_ (by assumption) ?_
        rotate_left
        · (intro w hSw; (try dsimp only at hSw); go_simp; try with_reducible rfl)
        simp only [Act.put, List.setIfInBounds_toArray, List.set_cons_zero, List.set_cons_succ]
        refine Grl.yes 15 (v := ?_) rfl (by kernel_rfl) (by kernel_rfl) (by kernel_rfl) (fun _ _ _ h => h) (by kernel_rfl) ?_ (by assumption) ?_
        rotate_left
        · (intro w hSw; (try dsimp only at hSw); go_simp; try with_reducible rfl)
        simp only [Act.put, List.setIfInBounds_toArray, List.set_cons_zero, List.set_cons_succ]
        refine Grl.yes 16 (v := ?_) rfl (by kernel_rfl) (by kernel_rfl) (by kernel_rfl) (fun _ _ _ h => h) (by kernel_rfl) ?_ (by assumption) ?_
        rotate_left
        · (intro w hSw; (try dsimp only at hSw); go_simp; try with_reducible rfl)
        simp only [Act.put, List.setIfInBounds_toArray, List.set_cons_zero, List.set_cons_succ]
        refine Grl.yes 17 (v := ?_) rfl (by kernel_rfl) (by kernel_rfl) (by kernel_rfl) (fun _ _ _ h => h) (by kernel_rfl) ?_ (by assumption) ?_
        rotate_left
        · (intro w hSw; (try dsimp only at hSw); go_simp; try with_reducible rfl)
        simp only [Act.put, List.setIfInBounds_toArray, List.set_cons_zero, List.set_cons_succ]
        refine Grl.yes 18 (v := ?_) rfl (by kernel_rfl) (by kernel_rfl) (by kernel_rfl) (fun _ _ _ h => h) (by kernel_rfl) ?_ (by assumption) ?_
        rotate_left
        · (intro w hSw; (try dsimp only at hSw); go_simp; try with_reducible rfl)
        simp only [Act.put, List.setIfInBounds_toArray, List.set_cons_zero, List.set_cons_succ]
        refine Grl.yes 19 (v := ?_) rfl (by kernel_rfl) (by kernel_rfl) (by kernel_rfl) (fun _ _ _ h => h) (by kernel_rfl) ?_ (by assumption) ?_
        rotate_left
        · (intro w hSw; (try dsimp only at hSw); go_simp; try with_reducible rfl)
        simp only [Act.put, List.setIfInBounds_toArray, List.set_cons_zero, List.set_cons_succ]
        refine Grl.yes 20 (v := ?_) rfl (by kernel_rfl) (by kernel_rfl) (by kernel_rfl) (fun _ _ _ h => h) (by kernel_rfl) ?_ (by assumption) ?_
        rotate_left
        · (intro w hSw; (try dsimp only at hSw); go_simp; try with_reducible rfl)
        simp only [Act.put, List.setIfInBounds_toArray, List.set_cons_zero, List.set_cons_succ]
        refine Grl.yes 21 (v := ?_) rfl (by kernel_rfl) (by kernel_rfl) (by kernel_rfl) (fun _ _ _ h => h) (by kernel_rfl) ?_ (by assumption) ?_
        rotate_left
        · (intro w hSw; (try dsimp only at hSw); go_simp; try with_reducible rfl)
        simp only [Act.put, List.setIfInBounds_toArray, List.set_cons_zero, List.set_cons_succ]
        refine Grl.yes 22 (v := ?_) rfl (by kernel_rfl) (by kernel_rfl) (by kernel_rfl) (fun _ _ _ h => h) (by kernel_rfl) ?_ (by assumption) ?_
        rotate_left
        · (intro w hSw; (try dsimp only at hSw); go_simp; try with_reducible rfl)
        simp only [Act.put, List.setIfInBounds_toArray, List.set_cons_zero, List.set_cons_succ]
        refine Grl.yes 23 (v := ?_) rfl (by kernel_rfl) (by kernel_rfl) (by kernel_rfl) (fun _ _ _ h => h) (by kernel_rfl) ?_ (by assumption) ?_
        rotate_left
        · (intro w hSw; (try dsimp only at hSw); go_simp; try with_reducible rfl)
        simp only [Act.put, List.setIfInBounds_toArray, List.set_cons_zero, List.set_cons_succ]
        refine Grl.yes 24 (v := ?_) rfl (by kernel_rfl) (by kernel_rfl) (by kernel_rfl) (fun _ _ _ h => h) (by kernel_rfl) ?_ (by assumption) ?_
        rotate_left
        · (intro w hSw; (try dsimp only at hSw); go_simp; try with_reducible rfl)
        simp only [Act.put, List.setIfInBounds_toArray, List.set_cons_zero, List.set_cons_succ]
        refine Grl.yes 25 (v := ?_) rfl (by kernel_rfl) (by kernel_rfl) (by kernel_rfl) (fun _ _ _ h => h) (by kernel_rfl) ?_ (by assumption) ?_
        rotate_left
        · (intro w hSw; (try dsimp only at hSw); go_simp; try with_reducible rfl)
        simp only [Act.put, List.setIfInBounds_toArray, List.set_cons_zero, List.set_cons_succ]
        refine Grl.yes 26 (v := ?_) rfl (by kernel_rfl) (by kernel_rfl) (by kernel_rfl) (fun _ _ _ h => h) (by kernel_rfl) ?_ (by assumption) ?_
        rotate_left
        · (intro w hSw; (try dsimp only at hSw); go_simp; try with_reducible rfl)
        simp only [Act.put, List.setIfInBounds_toArray, List.set_cons_zero, List.set_cons_succ]
        refine Grl.yes 27 (v := ?_) rfl (by kernel_rfl) (by kernel_rfl) (by kernel_rfl) (fun _ _ _ h => h) (by kernel_rfl) ?_ (by assumption) ?_
        rotate_left
        · (intro w hSw; (try dsimp only at hSw); go_simp; try with_reducible rfl)
        simp only [Act.put, List.setIfInBounds_toArray, List.set_cons_zero, List.set_cons_succ]
        refine Grl.yes 28 (v := ?_) rfl (by kernel_rfl) (by kernel_rfl) (by kernel_rfl) (fun _ _ _ h => h) (by kernel_rfl) ?_ (by assumption) ?_
        rotate_left
        · (intro w hSw; (try dsimp only at hSw); go_simp; try with_reducible rfl)
        simp only [Act.put, List.setIfInBounds_toArray, List.set_cons_zero, List.set_cons_succ]
        refine Grl.yes 29 (v := ?_) rfl (by kernel_rfl) (by kernel_rfl) (by kernel_rfl) (fun _ _ _ h => h) (by kernel_rfl) ?_ (by assumption) ?_
        rotate_left
        · (intro w hSw; (try dsimp only at hSw); go_simp; try with_reducible rfl)
        simp only [Act.put, List.setIfInBounds_toArray, List.set_cons_zero, List.set_cons_succ]
        refine Grl.yes 30 (v := ?_) rfl (by kernel_rfl) (by kernel_rfl) (by kernel_rfl) (fun _ _ _ h => h) (by kernel_rfl) ?_ (by assumption) ?_
        rotate_left
        · (intro w hSw; (try dsimp only at hSw); go_simp; try with_reducible rfl)
        simp only [Act.put, List.setIfInBounds_toArray, List.set_cons_zero, List.set_cons_succ]
        refine Grl.yes 31 (v := ?_) rfl (by kernel_rfl) (by kernel_rfl) (by kernel_rfl) (fun _ _ _ h => h) (by kernel_rfl) ?_ (by assumption) ?_
        rotate_left
        · (intro w hSw; (try dsimp only at hSw); go_simp; try with_reducible rfl)
        simp only [Act.put, List.setIfInBounds_toArray, List.set_cons_zero, List.set_cons_succ]
        refine Grl.yes 32 (v := ?_) rfl (by kernel_rfl) (by kernel_rfl) (by kernel_rfl) (fun _ _ _ h => h) (by kernel_rfl) ?_ (by assumption) ?_
        rotate_left
        · (intro w hSw; (try dsimp only at hSw); go_simp; try with_reducible rfl)
        simp only [Act.put, List.setIfInBounds_toArray, List.set_cons_zero, List.set_cons_succ]
        refine Grl.yes 33 (v := ?_) rfl (by kernel_rfl) (by kernel_rfl) (by kernel_rfl) (fun _ _ _ h => h) (by kernel_rfl) ?_ (by assumption) ?_
        rotate_left
        · (intro w hSw; (try dsimp only at hSw); go_simp; try with_reducible rfl)
        simp only [Act.put, List.setIfInBounds_toArray, List.set_cons_zero, List.set_cons_succ]
        refine Grl.yes 34 (v := ?_) rfl (by kernel_rfl) (by kernel_rfl) (by kernel_rfl) (fun _ _ _ h => h) (by kernel_rfl) ?_ (by assumption) ?_
        rotate_left
        · (intro w hSw; (try dsimp only at hSw); go_simp; try with_reducible rfl)
        simp only [Act.put, List.setIfInBounds_toArray, List.set_cons_zero, List.set_cons_succ]
        refine Grl.yes 35 (v := ?_) rfl (by kernel_rfl) (by kernel_rfl) (by kernel_rfl) (fun _ _ _ h => h) (by kernel_rfl) ?_ (by assumption) ?_
        rotate_left
        · (intro w hSw; (try dsimp only at hSw); go_simp; try with_reducible rfl)
        simp only [Act.put, List.setIfInBounds_toArray, List.set_cons_zero, List.set_cons_succ]
        refine Grl.yes 36 (v := ?_) rfl (by kernel_rfl) (by kernel_rfl) (by kernel_rfl) (fun _ _ _ h => h) (by kernel_rfl) ?_ (by assumption) ?_
        rotate_left
        · (intro w hSw; (try dsimp only at hSw); go_simp; try with_reducible rfl)
        simp only [Act.put, List.setIfInBounds_toArray, List.set_cons_zero, List.set_cons_succ]
        refine Grl.yes 37 (v := ?_) rfl (by kernel_rfl) (by kernel_rfl) (by kernel_rfl) (fun _ _ _ h => h) (by kernel_rfl) ?_ (by assumption) ?_
        rotate_left
        · (intro w hSw; (try dsimp only at hSw); go_simp; try with_reducible rfl)
        simp only [Act.put, List.setIfInBounds_toArray, List.set_cons_zero, List.set_cons_succ]
        refine Grl.yes 38 (v := ?_) rfl (by kernel_rfl) (by kernel_rfl) (by kernel_rfl) (fun _ _ _ h => h) (by kernel_rfl) ?_ (by assumption) ?_
        rotate_left
        · (intro w hSw; (try dsimp only at hSw); go_simp; try with_reducible rfl)
        simp only [Act.put, List.setIfInBounds_toArray, List.set_cons_zero, List.set_cons_succ]
        refine wpAnyH_done (by kernel_rfl) ?_ _
        have d11 := d8.trans (c11.mono d8.size)
        go_wp2
        go_ret
        exact ⟨rfl, d11⟩
end Go.Proofs.Ytogdllkbiibicaa
