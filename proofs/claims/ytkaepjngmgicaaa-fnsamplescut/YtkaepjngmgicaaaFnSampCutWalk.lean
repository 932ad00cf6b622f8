/- FnSamplesCut returns true at every text of bytes. -/
import Derived.Test.YtkaepjngmgicaaaAlSamp
namespace Go.Proofs.Ytkaepjngmgicaaa
open Go.RowKit Samp SampMath Draw
set_option linter.unusedVariables false
set_option maxRecDepth 100000 in
set_option maxHeartbeats 4000000 in
theorem fnSamplesCut.walk (a0 : Option Addr) (len0 cap0 : Nat) (z0 : List Int) (w : World) (w0 : IsRow .u8 w a0 len0 cap0 z0) :
    Calls Try.prog 9 #[.slice a0 len0 cap0] w fun e w' => e = .returned (.bool true) ∧ Below w.heap.size w w' := by
  have l0 := (row_bytes w0)
  have c0 : len0 ≤ 9223372036854775807 := by have := l0.1; have := l0.2.1; unfold maxLen at this; omega
  have H0 := hide (draw_cut w w w0 (Below.refl _ _))
  clear l0 w0
  by_cases hb0 : 1048576 < len0
  · go_enter Try.func9, Try.ntmps9
    go_wp2
    go_ret
    exact ⟨rfl, Below.refl _ _⟩
  go_enter Try.func9, Try.ntmps9
  go_wp2_with fail
  refine (unhide H0).mono ?_
  rintro e W ⟨zs, v, f, t, rfl, hl, s1, f1, f2, t1, t2, b1⟩
  have HL := hide (show zs.length ≤ 4194304 by omega)
  have HCL := hide (show (cut zs f t).length ≤ 4194304 by
    have : (cut zs f t).length ≤ zs.length := by
      unfold cut
      split
      · exact List.length_filter_le _ _
      · exact Nat.zero_le _
    omega)
  clear hl
  go_wp2_with fail
  refine (impl_cut f t s1 (unhide HL)).mono ?_
  rintro e W2 ⟨x, rfl, ox, b2⟩
  have s2 := s1.below b2
  have sx := smp_of_own ox
  have c2 := b1.trans (b2.mono b1.size)
  clear s1 b1 b2 ox
  go_wp2_with fail
  refine (spec_cut f t s2 (unhide HL)).mono ?_
  rintro e W3 ⟨y, rfl, oy, b3⟩
  have s3 := s2.below b3
  have sx3 := sx.below b3
  have sy3 := smp_of_own oy
  have c3 := c2.trans (b3.mono c2.size)
  clear s2 sx c2 b3 oy
  go_wp2_with fail
  refine (al_same sx3 sy3).mono ?_
  rintro e W4 ⟨rfl, b4⟩
  have s4 := s3.below b4
  have sx4 := sx3.below b4
  have c4 := c3.trans (b4.mono c3.size)
  clear s3 sx3 sy3 c3 b4
  go_wp2_with fail
  refine (spec_ok s4).mono ?_
  rintro e W5 ⟨rfl, b5⟩
  have s5 := s4.below b5
  have sx5 := sx4.below b5
  have c5 := c4.trans (b5.mono c4.size)
  clear s4 sx4 c4 b5
  cases hok : ok zs
  · have HK := hide hok
    clear hok
    go_wp2_with fail
    refine (spec_cut f t s5 (unhide HL)).mono ?_
    rintro e W6 ⟨y', rfl, oy, b6⟩
    have sx6 := sx5.below b6
    have sy6 := smp_of_own oy
    have c6 := c5.trans (b6.mono c5.size)
    clear oy b6
    go_wp2_with fail
    refine (al_same sx6 sy6).mono ?_
    rintro e W7 ⟨rfl, b7⟩
    have c7 := c6.trans (b7.mono c6.size)
    go_wp2
    go_ret
    exact ⟨rfl, c7⟩
  · have HK := hide hok
    clear hok
    obtain ⟨ax, nx, cx, rfl, vx⟩ := view_of sx5
    go_wp2_with fail
    go_loopw [7] (fun iv wr => ∃ k : Nat, iv = .int .i64 (k : Int) ∧ k ≤ nx ∧ wr = W5) (fun iv _ => nx - (intOf iv).toNat)
    case atStart => exact ⟨0, rfl, Nat.zero_le _, rfl⟩
    case round =>
      obtain ⟨k, rfl, hk, rfl⟩ := hrel
      have hx1 := vx.2.1
      have hx2 := vx.2.2.1
      unfold maxLen at hx2
      by_cases hlt : k < nx
      · obtain ⟨bx, offx, rfl, hbx, hrx⟩ := vx.2.2.2.2 (by omega)
        have hkc : k < (cut zs f t).length := by rw [vx.1]; exact hlt
        have hin := cut_in (unhide HK) f t k hkc
        have hc0 := (hrx k hkc).1
        generalize (at' (cut zs f t) k).1 = T at hin hc0
        obtain ⟨i1, i2⟩ := hin
        have hk0 : (0 : Int) ≤ (k : Int) := Int.natCast_nonneg _
        have hk1 : (k : Int) < (nx : Int) := by omega
        clear vx hrx hkc
        go_wp2
        go_roundw
        case rel => exact ⟨k + 1, by go_num, by omega, trivial⟩
        case measure => simp [intOf]; omega
      · have hnk : (k : Int) = (nx : Int) := by omega
        obtain rfl : k = nx := by omega
        clear vx hnk
        go_wp2_with fail
        refine (impl_cut 0 f s5 (unhide HL)).mono ?_
        rintro e W6 ⟨va, rfl, oa, b6⟩
        have s6 := s5.below b6
        have sx6 := sx5.below b6
        have sa6 := smp_of_own oa
        have c6 := c5.trans (b6.mono c5.size)
        clear s5 sx5 c5 b6 oa
        go_wp2_with fail
        refine (impl_cut f 10000 s6 (unhide HL)).mono ?_
        rintro e W7 ⟨vb, rfl, ob, b7⟩
        have s7 := s6.below b7
        have sx7 := sx6.below b7
        have sa7 := sa6.below b7
        have sb7 := smp_of_own ob
        have c7 := c6.trans (b7.mono c6.size)
        clear s6 sx6 sa6 c6 b7 ob
        have HJ := hide (join_sides (unhide HK) f)
        have L1 : (cut zs 0 f).length ≤ 4194304 := by
          have h1 : (cut zs 0 f).length ≤ zs.length := by
            unfold cut
            split
            · exact List.length_filter_le _ _
            · exact Nat.zero_le _
          have := unhide HL
          omega
        have L2 : (cut zs f 10000).length ≤ 4194304 := by
          have h1 : (cut zs f 10000).length ≤ zs.length := by
            unfold cut
            split
            · exact List.length_filter_le _ _
            · exact Nat.zero_le _
          have := unhide HL
          omega
        have HI := hide (impl_join sa7 sb7 L1 L2)
        clear L1 L2
        go_wp2_with fail
        refine (unhide HI).mono ?_
        rintro e W8 ⟨vall, rfl, oall, b8⟩
        rw [unhide HJ] at oall ⊢
        have s8 := s7.below b8
        have sx8 := sx7.below b8
        have sl8 := smp_of_own oall
        have c8 := c7.trans (b8.mono c7.size)
        clear s7 sx7 sa7 sb7 c7 b8 oall HI
        go_wp2_with fail
        refine (al_same sl8 s8).mono ?_
        rintro e W9 ⟨rfl, b9⟩
        have sx9 := sx8.below b9
        have c9 := c8.trans (b9.mono c8.size)
        clear s8 sx8 sl8 c8 b9
        have HC := hide (impl_cut f t sx9 (unhide HCL))
        rw [cut_cut (unhide HK)] at HC
        go_wp2_with fail
        refine (unhide HC).mono ?_
        rintro e W10 ⟨vc, rfl, oc, b10⟩
        have sx10 := sx9.below b10
        have sc10 := smp_of_own oc
        have c10 := c9.trans (b10.mono c9.size)
        clear sx9 c9 b10 oc HC
        go_wp2_with fail
        refine (al_same sc10 sx10).mono ?_
        rintro e W11 ⟨rfl, b11⟩
        have c11 := c10.trans (b11.mono c10.size)
        go_wp2
        go_ret
        exact ⟨rfl, c11⟩
end Go.Proofs.Ytkaepjngmgicaaa
