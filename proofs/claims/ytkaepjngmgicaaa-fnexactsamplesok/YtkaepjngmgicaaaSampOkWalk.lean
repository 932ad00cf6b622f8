/- FnExactSamplesOk returns true at every slice of samples. -/
import Derived.Test.YtkaepjngmgicaaaSampLaw
namespace Go.Proofs.Ytkaepjngmgicaaa
open Go.RowKit SampMath Samp
set_option linter.unusedVariables false
theorem fnExactSamplesOk.walk (a0 : Option Addr) (len0 cap0 : Nat) (z0 : List (Int × Int)) (w : World) (w0 : IsPairs w a0 len0 cap0 z0) :
    Calls Try.prog 17 #[.slice a0 len0 cap0] w fun e w' => e = .returned (.bool true) ∧ Below w.heap.size w w' := by
  obtain ⟨h1, h2, h3, h4⟩ := pairs_at w0
  unfold maxLen at h2
  by_cases hb : 1048576 < len0
  · have hs := fun W => sz_any a0 len0 cap0 1048576 W (by omega) (by omega) (by omega)
    have HS := hide hs
    clear hs
    have hneg : ((1048576 : Int) - (len0 : Int) < 0) := by omega
    go_enter Try.func17, Try.ntmps17
    go_wp2_with (go_at_call 53; refine (unhide HS _).mono ?_; rintro e w' ⟨rfl, rfl⟩; rw [if_pos hneg])
    go_ret
    exact ⟨rfl, Below.refl _ _⟩
  · have hs := fun W => sz_any a0 len0 cap0 1048576 W (by omega) (by omega) (by omega)
    have HS := hide hs
    clear hs
    have hneg : ¬ ((1048576 : Int) - (len0 : Int) < 0) := by omega
    have hlen : len0 ≤ 2097152 := by omega
    go_enter Try.func17, Try.ntmps17
    go_wp2_with (go_at_call 53; refine (unhide HS _).mono ?_; rintro e w' ⟨rfl, rfl⟩; rw [if_neg hneg])
    clear hneg h4
    generalize hz : z0.take len0 = z at h3
    have HZ := hide hz
    clear hz
    have to := fun W (hB : Below _ _ W) => to_any W _ w0 hlen hB
    rw [unhide HZ] at to
    have HTo := hide to
    clear to
    refine (unhide HTo _ (Below.refl _ _)).mono ?_
    rintro e w1 ⟨rfl, o1, b1⟩
    have s1 := smp_of_own o1
    go_wp2_with fail
    refine (spec_ok s1).mono ?_
    rintro e w2 ⟨rfl, b2⟩
    have c2 := b1.trans (b2.mono b1.size)
    clear o1 s1 b2
    go_wp2_with fail
    refine (unhide HTo _ c2).mono ?_
    rintro e w3 ⟨rfl, o3, b3⟩
    have s3 := smp_of_own o3
    have c3 := c2.trans (b3.mono c2.size)
    go_wp2_with fail
    refine (impl_ok s3).mono ?_
    rintro e w4 ⟨rfl, b4⟩
    have s4 := s3.below b4
    have c4 := c3.trans (b4.mono c3.size)
    clear o3 s3 b4 b3
    go_wp2_with fail
    refine (unhide HTo _ c4).mono ?_
    rintro e w5 ⟨rfl, o5, b5⟩
    have t5 := smp_of_own o5
    have s5 := s4.below b5
    have c5 := c4.trans (b5.mono c4.size)
    clear o5 s4 b5
    go_wp2_with fail
    refine (eq_any s5 t5).mono ?_
    rintro e w6 ⟨rfl, b6⟩
    have c6 := c5.trans (b6.mono c5.size)
    go_wp2
    go_ret
    exact ⟨rfl, c6⟩
end Go.Proofs.Ytkaepjngmgicaaa
