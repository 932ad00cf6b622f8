/- FnLabelsCmp returns true at every two texts of bytes. -/
import Derived.Test.YthlphelkcamagaaAlLab
namespace Go.Proofs.Ythlphelkcamagaa
open Go.RowKit Rw Lab Draw
set_option linter.unusedVariables false
attribute [local go_sem ↓] Go.wp_at_zero Go.wp_at_succ
theorem cmp_range' (a b : List Lab.E) : -1 ≤ cmp a b ∧ cmp a b ≤ 1 := by
  unfold cmp; split
  · exact cmpL_range a b
  · omega
theorem cmp_same {a b : List Lab.E} {R : Bool} (h1 : ok a = true) (h2 : ok b = true) (h : R = true ↔ a = b) : (cmp a b == 0) = R := by
  rw [cmp_ok h1 h2]
  cases hR : R
  · apply beq_false_of_ne
    intro e
    have := h.2 (l_zero a b e)
    rw [hR] at this
    cases this
  · have := h.1 hR
    subst this
    rw [ordL.self a]; rfl
theorem cmp_goes {a b c : List Lab.E} (h1 : ok a = true) (h2 : ok b = true) (h3 : ok c = true) (h : cmp a b ≤ 0) (h' : cmp b c ≤ 0) : cmp a c ≤ 0 := by
  rw [cmp_ok h1 h2] at h
  rw [cmp_ok h2 h3] at h'
  rw [cmp_ok h1 h3]
  exact l_trans a b c h h'
set_option maxRecDepth 100000 in
set_option maxHeartbeats 4000000 in
theorem fnLabelsCmp.walk (a0 : Option Addr) (len0 cap0 : Nat) (z0 : List Int) (a1 : Option Addr) (len1 cap1 : Nat) (z1 : List Int) (w : World) (w0 : IsRow .u8 w a0 len0 cap0 z0) (w1 : IsRow .u8 w a1 len1 cap1 z1) :
    Calls Try.prog 3 #[.slice a0 len0 cap0, .slice a1 len1 cap1] w fun e w' => e = .returned (.bool true) ∧ Below w.heap.size w w' := by
  have l0 := (row_bytes w0)
  have l1 := (row_bytes w1)
  have c00 : len0 ≤ 9223372036854775807 := by have := l0.1; have := l0.2.1; unfold maxLen at this; omega
  have c01 : len1 ≤ 9223372036854775807 := by have := l1.1; have := l1.2.1; unfold maxLen at this; omega
  have H0 := hide (draw_cmp w w w0 (Below.refl _ _))
  have H1 := hide (fun W (hB : Below w.heap.size w W) => draw_cmp w W w1 hB)
  clear l0 w0 l1 w1
  by_cases hb0 : 1048576 < len0
  · go_enter Try.func3, Try.ntmps3
    go_wp2
    go_ret
    exact ⟨rfl, Below.refl _ _⟩
  by_cases hb1 : 1048576 < len1
  · go_enter Try.func3, Try.ntmps3
    go_wp2
    go_ret
    exact ⟨rfl, Below.refl _ _⟩
  go_enter Try.func3, Try.ntmps3
  go_wp2_with fail
  refine (unhide H0).mono ?_
  rintro e W0 ⟨zs, ys, va, vb, rfl, hl, hl', hsm, hsm', f0_a, f0_b, c0⟩
  clear H0
  have La := hide (show zs.length ≤ maxLen by unfold maxLen; omega)
  have Lb := hide (show ys.length ≤ maxLen by unfold maxLen; omega)
  have Ga := hide (fun x hx => good_smallL (hsm x hx))
  have Gb := hide (fun x hx => good_smallL (hsm' x hx))
  clear hsm hsm' hl hl'
  obtain ⟨K, hK⟩ : ∃ K, K = cmp zs ys := ⟨_, rfl⟩
  have hKr := cmp_range' zs ys
  rw [← hK] at hKr
  obtain ⟨hK1, hK2⟩ := hKr
  have hKb := cmp_anti zs ys
  rw [← hK] at hKb
  have HK := hide hK
  have HKb := hide hKb
  clear hK hKb
  have kk : (K == K) = true := by simp
  have kn : (K != K) = false := by simp
  have nk : (-K == -K) = true := by simp
  have nn : (-K != -K) = false := by simp
  go_wp2_with fail
  refine (impl_cmp f0_a f0_b (unhide Ga) (unhide Gb) (unhide La) (unhide Lb)).mono ?_
  rintro e W1 ⟨rfl, bb⟩
  rw [← unhide HK]
  have f1_a := f0_a.below bb
  clear f0_a
  have f1_b := f0_b.below bb
  clear f0_b
  have c1 := c0.trans (bb.mono c0.size)
  clear c0 bb
  go_wp2_with fail
  refine (spec_cmp f1_a f1_b (unhide Ga) (unhide Gb) (unhide La) (unhide Lb)).mono ?_
  rintro e W2 ⟨rfl, bb⟩
  rw [← unhide HK]
  have f2_a := f1_a.below bb
  clear f1_a
  have f2_b := f1_b.below bb
  clear f1_b
  have c2 := c1.trans (bb.mono c1.size)
  clear c1 bb
  go_wp2_with fail
  refine (impl_cmp f2_b f2_a (unhide Gb) (unhide Ga) (unhide Lb) (unhide La)).mono ?_
  rintro e W3 ⟨rfl, bb⟩
  rw [unhide HKb]
  have f3_a := f2_a.below bb
  clear f2_a
  have f3_b := f2_b.below bb
  clear f2_b
  have c3 := c2.trans (bb.mono c2.size)
  clear c2 bb
  go_wp2_with fail
  cases hoa : ok zs
  · have Oa := hide hoa
    clear hoa
    refine (Lab.spec_ok f3_a (unhide Ga) (unhide La)).mono ?_
    rintro e W4 ⟨rfl, bb⟩
    rw [unhide Oa]
    have f4_a := f3_a.below bb
    clear f3_a
    have f4_b := f3_b.below bb
    clear f3_b
    have c4 := c3.trans (bb.mono c3.size)
    clear c3 bb
    go_wp2_with fail
    refine (spec_cmp f4_a f4_b (unhide Ga) (unhide Gb) (unhide La) (unhide Lb)).mono ?_
    rintro e W5 ⟨rfl, bb⟩
    rw [← unhide HK]
    have f5_a := f4_a.below bb
    clear f4_a
    have f5_b := f4_b.below bb
    clear f4_b
    have c5 := c4.trans (bb.mono c4.size)
    clear c4 bb
    go_wp2_with fail
    refine (impl_cmp f5_b f5_a (unhide Gb) (unhide Ga) (unhide Lb) (unhide La)).mono ?_
    rintro e W6 ⟨rfl, bb⟩
    rw [unhide HKb]
    have f6_a := f5_a.below bb
    clear f5_a
    have f6_b := f5_b.below bb
    clear f5_b
    have c6 := c5.trans (bb.mono c5.size)
    clear c5 bb
    clear f6_a f6_b
    go_wp2_with fail
    go_ret
    exact ⟨by first | rfl | exact ret_bool (by simp_all), c6⟩
  · have Oa := hide hoa
    clear hoa
    refine (Lab.spec_ok f3_a (unhide Ga) (unhide La)).mono ?_
    rintro e W4 ⟨rfl, bb⟩
    rw [unhide Oa]
    have f4_a := f3_a.below bb
    clear f3_a
    have f4_b := f3_b.below bb
    clear f3_b
    have c4 := c3.trans (bb.mono c3.size)
    clear c3 bb
    go_wp2_with fail
    cases hob : ok ys
    · have Ob := hide hob
      clear hob
      refine (Lab.spec_ok f4_b (unhide Gb) (unhide Lb)).mono ?_
      rintro e W5 ⟨rfl, bb⟩
      rw [unhide Ob]
      have f5_a := f4_a.below bb
      clear f4_a
      have f5_b := f4_b.below bb
      clear f4_b
      have c5 := c4.trans (bb.mono c4.size)
      clear c4 bb
      go_wp2_with fail
      refine (spec_cmp f5_a f5_b (unhide Ga) (unhide Gb) (unhide La) (unhide Lb)).mono ?_
      rintro e W6 ⟨rfl, bb⟩
      rw [← unhide HK]
      have f6_a := f5_a.below bb
      clear f5_a
      have f6_b := f5_b.below bb
      clear f5_b
      have c6 := c5.trans (bb.mono c5.size)
      clear c5 bb
      go_wp2_with fail
      refine (impl_cmp f6_b f6_a (unhide Gb) (unhide Ga) (unhide Lb) (unhide La)).mono ?_
      rintro e W7 ⟨rfl, bb⟩
      rw [unhide HKb]
      have f7_a := f6_a.below bb
      clear f6_a
      have f7_b := f6_b.below bb
      clear f6_b
      have c7 := c6.trans (bb.mono c6.size)
      clear c6 bb
      clear f7_a f7_b
      go_wp2_with fail
      go_ret
      exact ⟨by first | rfl | exact ret_bool (by simp_all), c7⟩
    · have Ob := hide hob
      clear hob
      refine (Lab.spec_ok f4_b (unhide Gb) (unhide Lb)).mono ?_
      rintro e W5 ⟨rfl, bb⟩
      rw [unhide Ob]
      have f5_a := f4_a.below bb
      clear f4_a
      have f5_b := f4_b.below bb
      clear f4_b
      have c5 := c4.trans (bb.mono c4.size)
      clear c4 bb
      go_wp2_with fail
      refine (unhide H1 _ c5).mono ?_
      rintro e W6 ⟨cs, ds, vc, vd, rfl, hl, -, hsm, -, f6_c, -, bb⟩
      clear H1
      have Lc := hide (show cs.length ≤ maxLen by unfold maxLen; omega)
      have Gc := hide (fun x hx => good_smallL (hsm x hx))
      clear hsm hl
      have f6_a := f5_a.below bb
      clear f5_a
      have f6_b := f5_b.below bb
      clear f5_b
      have c6 := c5.trans (bb.mono c5.size)
      clear c5 bb
      go_wp2_with fail
      refine (al_any f6_a f6_b).mono ?_
      rintro e W7 ⟨R, rfl, hR, bb⟩
      have hRk := cmp_same (unhide Oa) (unhide Ob) hR
      rw [← unhide HK] at hRk
      clear hR
      subst hRk
      have kz : ((K == 0) == (K == 0)) = true := by simp
      have kz' : ((K == 0) != (K == 0)) = false := by simp
      have f7_a := f6_a.below bb
      clear f6_a
      have f7_b := f6_b.below bb
      clear f6_b
      have f7_c := f6_c.below bb
      clear f6_c
      have c7 := c6.trans (bb.mono c6.size)
      clear c6 bb
      go_wp2_with fail
      cases hoc : ok cs
      · have Oc := hide hoc
        clear hoc
        refine (Lab.spec_ok f7_c (unhide Gc) (unhide Lc)).mono ?_
        rintro e W8 ⟨rfl, bb⟩
        rw [unhide Oc]
        have f8_a := f7_a.below bb
        clear f7_a
        have f8_b := f7_b.below bb
        clear f7_b
        have f8_c := f7_c.below bb
        clear f7_c
        have c8 := c7.trans (bb.mono c7.size)
        clear c7 bb
        go_wp2_with fail
        refine (al_any f8_a f8_b).mono ?_
        rintro e W9 ⟨R, rfl, hR, bb⟩
        have hRk := cmp_same (unhide Oa) (unhide Ob) hR
        rw [← unhide HK] at hRk
        clear hR
        subst hRk
        have f9_a := f8_a.below bb
        clear f8_a
        have f9_b := f8_b.below bb
        clear f8_b
        have f9_c := f8_c.below bb
        clear f8_c
        have c9 := c8.trans (bb.mono c8.size)
        clear c8 bb
        clear f9_a f9_b f9_c
        go_wp2_with fail
        go_ret
        exact ⟨by first | rfl | exact ret_bool (by simp_all), c9⟩
      · have Oc := hide hoc
        clear hoc
        refine (Lab.spec_ok f7_c (unhide Gc) (unhide Lc)).mono ?_
        rintro e W8 ⟨rfl, bb⟩
        rw [unhide Oc]
        have f8_a := f7_a.below bb
        clear f7_a
        have f8_b := f7_b.below bb
        clear f7_b
        have f8_c := f7_c.below bb
        clear f7_c
        have c8 := c7.trans (bb.mono c7.size)
        clear c7 bb
        by_cases hk0 : 0 < K
        · skip
          go_wp2_with fail
          refine (al_any f8_a f8_b).mono ?_
          rintro e W9 ⟨R, rfl, hR, bb⟩
          have hRk := cmp_same (unhide Oa) (unhide Ob) hR
          rw [← unhide HK] at hRk
          clear hR
          subst hRk
          have f9_a := f8_a.below bb
          clear f8_a
          have f9_b := f8_b.below bb
          clear f8_b
          have f9_c := f8_c.below bb
          clear f8_c
          have c9 := c8.trans (bb.mono c8.size)
          clear c8 bb
          clear f9_a f9_b f9_c
          go_wp2_with fail
          go_ret
          exact ⟨by first | rfl | exact ret_bool (by simp_all), c9⟩
        · have hk0f : decide (0 < K) = false := by simpa using hk0
          obtain ⟨L, hL⟩ : ∃ L, L = cmp ys cs := ⟨_, rfl⟩
          have HL := hide hL
          clear hL
          go_wp2_with fail
          refine (impl_cmp f8_b f8_c (unhide Gb) (unhide Gc) (unhide Lb) (unhide Lc)).mono ?_
          rintro e W9 ⟨rfl, bb⟩
          rw [← unhide HL]
          have f9_a := f8_a.below bb
          clear f8_a
          have f9_b := f8_b.below bb
          clear f8_b
          have f9_c := f8_c.below bb
          clear f8_c
          have c9 := c8.trans (bb.mono c8.size)
          clear c8 bb
          by_cases hl0 : 0 < L
          · skip
            go_wp2_with fail
            refine (al_any f9_a f9_b).mono ?_
            rintro e W10 ⟨R, rfl, hR, bb⟩
            have hRk := cmp_same (unhide Oa) (unhide Ob) hR
            rw [← unhide HK] at hRk
            clear hR
            subst hRk
            have f10_a := f9_a.below bb
            clear f9_a
            have f10_b := f9_b.below bb
            clear f9_b
            have f10_c := f9_c.below bb
            clear f9_c
            have c10 := c9.trans (bb.mono c9.size)
            clear c9 bb
            clear f10_a f10_b f10_c
            go_wp2_with fail
            go_ret
            exact ⟨by first | rfl | exact ret_bool (by simp_all), c10⟩
          · have hl0f : decide (0 < L) = false := by simpa using hl0
            obtain ⟨M, hM⟩ : ∃ M, M = cmp zs cs := ⟨_, rfl⟩
            have hM0 : M ≤ 0 := by rw [hM]; exact cmp_goes (unhide Oa) (unhide Ob) (unhide Oc) (by rw [← unhide HK]; omega) (by rw [← unhide HL]; omega)
            have HM := hide hM
            clear hM
            go_wp2_with fail
            refine (impl_cmp f9_a f9_c (unhide Ga) (unhide Gc) (unhide La) (unhide Lc)).mono ?_
            rintro e W10 ⟨rfl, bb⟩
            rw [← unhide HM]
            have f10_a := f9_a.below bb
            clear f9_a
            have f10_b := f9_b.below bb
            clear f9_b
            have f10_c := f9_c.below bb
            clear f9_c
            have c10 := c9.trans (bb.mono c9.size)
            clear c9 bb
            clear f10_a f10_b f10_c
            go_wp2_with fail
            go_ret
            exact ⟨by first | rfl | exact ret_bool (by simp_all), c10⟩
end Go.Proofs.Ythlphelkcamagaa
