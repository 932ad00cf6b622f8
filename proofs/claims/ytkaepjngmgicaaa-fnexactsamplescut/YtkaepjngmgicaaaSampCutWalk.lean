/- FnExactSamplesCut returns true at every slice of samples and every two ints. -/
import Derived.Test.YtkaepjngmgicaaaSampCut
namespace Go.Proofs.Ytkaepjngmgicaaa
open Go.RowKit SampMath Samp
set_option linter.unusedVariables false
theorem cut_le (zs : List S) (f t : Int) : (cut zs f t).length ≤ zs.length := by
  unfold cut
  split
  · exact List.length_filter_le _ _
  · exact Nat.zero_le _
set_option maxHeartbeats 4000000 in
theorem fnExactSamplesCut.walk (a0 : Option Addr) (len0 cap0 : Nat) (z0 : List (Int × Int)) (a1 a2 : Int) (w : World) (w0 : IsPairs w a0 len0 cap0 z0) (w1 : (Lit.int .i64 a1).wf = true) (w2 : (Lit.int .i64 a2).wf = true) :
    Calls Try.prog 19 #[.slice a0 len0 cap0, .int .i64 a1, .int .i64 a2] w fun e w' => e = .returned (.bool true) ∧ Below w.heap.size w w' := by
  obtain ⟨h1, h2, h3, h4⟩ := pairs_at w0
  unfold maxLen at h2
  clear w1 w2
  by_cases hb : 1048576 < len0
  · have hs := fun W => sz_any a0 len0 cap0 1048576 W (by omega) (by omega) (by omega)
    have HS := hide hs
    clear hs
    have hneg : ((1048576 : Int) - (len0 : Int) < 0) := by omega
    go_enter Try.func19, Try.ntmps19
    go_wp2_with (go_at_call 53; refine (unhide HS _).mono ?_; rintro e w' ⟨rfl, rfl⟩; rw [if_pos hneg])
    go_ret
    exact ⟨rfl, Below.refl _ _⟩
  · have hs := fun W => sz_any a0 len0 cap0 1048576 W (by omega) (by omega) (by omega)
    have HS := hide hs
    clear hs
    have hneg : ¬ ((1048576 : Int) - (len0 : Int) < 0) := by omega
    have hlen : len0 ≤ 2097152 := by omega
    have cl := cut_le (z0.take len0) a1 a2
    rw [h3] at cl
    have hcl : (cut (z0.take len0) a1 a2).length ≤ 4194304 := by omega
    go_enter Try.func19, Try.ntmps19
    go_wp2_with (go_at_call 53; refine (unhide HS _).mono ?_; rintro e w' ⟨rfl, rfl⟩; rw [if_neg hneg])
    clear hneg h4 HS
    have to := fun W (hB : Below _ _ W) => to_any W _ w0 hlen hB
    generalize z0.take len0 = z at *
    have HTo := hide to
    have zl : z.length ≤ 4194304 := by omega
    clear to
    refine (unhide HTo _ (Below.refl _ _)).mono ?_
    rintro e w1 ⟨rfl, o1, b1⟩
    have s1 := smp_of_own o1
    go_wp2_with fail
    refine (spec_cut a1 a2 s1 zl).mono ?_
    rintro e w2 ⟨vw, rfl, ow, b2⟩
    have c2 := b1.trans (b2.mono b1.size)
    have gw := own_ge ow
    have lw := own_block_lt ow
    have sw := smp_of_own ow
    have z1 := own_lt o1
    have z2 := b2.size
    clear o1 s1 b2 ow b1
    go_wp2_with fail
    refine (unhide HTo _ c2).mono ?_
    rintro e w3 ⟨rfl, ox, b3⟩
    have sw3 := sw.below b3
    have sx := smp_of_own ox
    have c3 := c2.trans (b3.mono c2.size)
    have z3 := own_lt ox
    clear sw b3
    go_wp2_with fail
    refine (impl_cut a1 a2 sx zl).mono ?_
    rintro e w4 ⟨vg, rfl, og, b4⟩
    have sw4 := sw3.below b4
    have ox4 := own_below ox b4
    have c4 := c3.trans (b4.mono c3.size)
    have gg := own_ge og
    clear sw3 sx ox b4
    go_wp2_with fail
    refine (eq_any (smp_of_own og) sw4).mono ?_
    rintro e w5 ⟨rfl, b5⟩
    have sw5 := sw4.below b5
    have ox5 := own_below ox4 b5
    have og5 := own_below og b5
    have c5 := c4.trans (b5.mono c4.size)
    clear sw4 ox4 og b5
    go_wp2_with fail
    refine (unhide HTo _ c5).mono ?_
    rintro e w6 ⟨rfl, oy, b6⟩
    have sw6 := sw5.below b6
    have ox6 := own_below ox5 b6
    have og6 := own_below og5 b6
    have c6 := c5.trans (b6.mono c5.size)
    clear sw5 ox5 og5 b6
    go_wp2_with fail
    refine (eq_any (smp_of_own ox6) (smp_of_own oy)).mono ?_
    rintro e w7 ⟨rfl, b7⟩
    have sw7 := sw6.below b7
    have ox7 := own_below ox6 b7
    have og7 := own_below og6 b7
    have c7 := c6.trans (b7.mono c6.size)
    clear sw6 ox6 og6 oy b7
    go_wp2_with fail
    refine (mark_any 1 (by omega) (by omega) zl ox7).mono ?_
    rintro e w8 ⟨rfl, -, b8, z8, k8, j8⟩
    have sw8 := k8 _ _ sw7 (fun k hk e => by have := lw k hk; simp only [Value.ownBlock, Option.some.injEq] at e; omega)
    have og8 := j8 _ _ _ _ og7 (fun k hk e => by have := gg k hk; simp only [Value.ownBlock, Option.some.injEq] at e; omega)
    have c8 := c7.trans (b8.mono c2.size)
    have hm0 : decide ((1 : Int) + 2 * (z.length : Int) < 0) = false := by simp; omega
    clear sw7 ox7 og7 b8 k8 j8 z8
    go_wp2_with fail
    refine (eq_any (smp_of_own og8) sw8).mono ?_
    rintro e w9 ⟨rfl, b9⟩
    have sw9 := sw8.below b9
    have og9 := own_below og8 b9
    have c9 := c8.trans (b9.mono c8.size)
    clear sw8 og8 b9
    go_wp2_with fail
    refine (mark_any 1 (by omega) (by omega) hcl og9).mono ?_
    rintro e w10 ⟨rfl, om, b10, z10, k10, -⟩
    have sm := own_marks om
    have sw10 := k10 _ _ sw9 (fun k hk e => by have := lw k hk; have := gg k e; omega)
    have c10 := c9.trans (b10.mono (by have := c2.size; omega))
    have hq0 : decide ((1 : Int) + 2 * ((cut z a1 a2).length : Int) < 0) = false := by simp; omega
    clear om sw9 og9 b10 k10 z10
    go_wp2_with fail
    refine (held_any 1 (by omega) (by omega) hcl sm).mono ?_
    rintro e w10' ⟨rfl, rfl⟩
    go_wp2_with fail
    refine (unhide HTo _ c10).mono ?_
    rintro e w11 ⟨rfl, oy, b11⟩
    have sm11 := sm.below b11
    have sw11 := sw10.below b11
    have sy := smp_of_own oy
    have c11 := c10.trans (b11.mono c10.size)
    clear sm sw10 b11 oy
    go_wp2_with fail
    refine (impl_cut a1 a2 sy zl).mono ?_
    rintro e w12 ⟨vh, rfl, oh, b12⟩
    have sm12 := sm11.below b12
    have sw12 := sw11.below b12
    have sh := smp_of_own oh
    have c12 := c11.trans (b12.mono c11.size)
    clear sm11 sw11 b12 oh sy
    go_wp2_with fail
    refine (eq_any sh sw12).mono ?_
    rintro e w13 ⟨rfl, b13⟩
    have sm13 := sm12.below b13
    have c13 := c12.trans (b13.mono c12.size)
    clear sm12 sw12 b13 sh
    go_wp2_with fail
    refine (held_any 1 (by omega) (by omega) hcl sm13).mono ?_
    rintro e w14 ⟨rfl, rfl⟩
    go_wp2
    go_ret
    exact ⟨rfl, c13⟩
end Go.Proofs.Ytkaepjngmgicaaa
