/- FnExactBitsPut returns true at every slice of bits. -/
import Derived.Test.YtkaepjngmgicaaaBitLaw
import Derived.Test.YtkaepjngmgicaaaBitSpec3
namespace Go.Proofs.Ytkaepjngmgicaaa
open Go.RowKit SampMath Samp BitPut BitLaw
set_option linter.unusedVariables false
theorem smp_some {w : World} {g len : Nat} {zs : List S} (h : Smp w (.slice (some ⟨g, 0, none⟩) len len) zs) (hl : zs.length = len) : len ≤ maxLen ∧ g < w.heap.size ∧ Reads w g 0 zs := by
  rcases h with ⟨h, _⟩ | ⟨b, off, cap, h, h1, h2, h3, h4⟩
  · cases h
  · simp only [Value.slice.injEq, Option.some.injEq, Addr.mk.injEq, and_true] at h
    obtain ⟨⟨rfl, rfl⟩, _, rfl⟩ := h
    exact ⟨h2, h3, h4⟩
theorem spec_put {w : World} {g len : Nat} {zs : List S} (h : Smp w (.slice (some ⟨g, 0, none⟩) len len) zs) (hl : zs.length = len) :
    Calls Try.prog 22 #[.slice (some ⟨g, 0, none⟩) len len] w fun e w' => ∃ X : List UInt8, e = .returned (.string ⟨X.toArray⟩) ∧ ((BitPut.Good zs ∧ X = textK (bitsTo zs zs.length) (bitsTo zs zs.length).length) ∨ (¬ BitPut.Good zs ∧ X = [])) ∧ Below w.heap.size w w' := by
  obtain ⟨h1, h2, h3⟩ := smp_some h hl
  subst hl
  exact spec_some g 0 _ zs w (Nat.le_refl _) h1 h2 h3
theorem impl_put {w : World} {g len : Nat} {zs : List S} (h : Smp w (.slice (some ⟨g, 0, none⟩) len len) zs) (hl : zs.length = len) :
    Calls Try.prog 21 #[.slice (some ⟨g, 0, none⟩) len len] w fun e w' => ∃ X : List UInt8, e = .returned (.string ⟨X.toArray⟩) ∧ ((BitPut.Good zs ∧ X = textK (bitsTo zs zs.length) (bitsTo zs zs.length).length) ∨ (¬ BitPut.Good zs ∧ X = [])) ∧ Below w.heap.size w w' := by
  obtain ⟨h1, h2, h3⟩ := smp_some h hl
  subst hl
  exact impl_some g 0 _ zs w (Nat.le_refl _) h1 h2 h3
theorem fnExactBitsPut.walk (a0 : Option Addr) (len0 cap0 : Nat) (z0 : List (Int × Int)) (w : World) (w0 : IsPairs w a0 len0 cap0 z0) :
    Calls Try.prog 10 #[.slice a0 len0 cap0] w fun e w' => e = .returned (.bool true) ∧ Below w.heap.size w w' := by
  obtain ⟨h1, h2, h3, h4⟩ := BitLaw.pairs_at w0
  unfold maxLen at h2
  by_cases hb : 1048576 < len0
  · have hs := fun W => BitLaw.sz_any a0 len0 cap0 1048576 W (by omega) (by omega) (by omega)
    have HS := hide hs
    clear hs
    have hneg : ((1048576 : Int) - (len0 : Int) < 0) := by omega
    go_enter Try.func10, Try.ntmps10
    go_wp2_with (go_at_call 50; refine (unhide HS _).mono ?_; rintro e w' ⟨rfl, rfl⟩; rw [if_pos hneg])
    go_ret
    exact ⟨rfl, Below.refl _ _⟩
  · have hs := fun W => BitLaw.sz_any a0 len0 cap0 1048576 W (by omega) (by omega) (by omega)
    have HS := hide hs
    clear hs
    have hneg : ¬ ((1048576 : Int) - (len0 : Int) < 0) := by omega
    have hlen : len0 ≤ 2097152 := by omega
    go_enter Try.func10, Try.ntmps10
    go_wp2_with (go_at_call 50; refine (unhide HS _).mono ?_; rintro e w' ⟨rfl, rfl⟩; rw [if_neg hneg])
    clear hneg h4
    generalize hz : z0.take len0 = z at h3
    have HZ := hide hz
    clear hz
    have to := fun W (hB : Below _ _ W) => BitLaw.to_any W _ w0 hlen hB
    rw [unhide HZ] at to
    have HTo := hide to
    clear to
    refine (unhide HTo _ (Below.refl _ _)).mono ?_
    rintro e w1 ⟨rfl, o1, b1⟩
    have s1 := BitLaw.smp_of_own o1
    go_wp2_with fail
    refine (spec_put s1 h3).mono ?_
    rintro e w2 ⟨X, rfl, hX, b2⟩
    have HX := hide hX
    clear hX
    have c2 := b1.trans (b2.mono b1.size)
    clear o1 s1 b2
    go_wp2_with fail
    refine (unhide HTo _ c2).mono ?_
    rintro e w3 ⟨rfl, o3, b3⟩
    have s3 := BitLaw.smp_of_own o3
    have c3 := c2.trans (b3.mono c2.size)
    go_wp2_with fail
    refine (impl_put s3 h3).mono ?_
    rintro e w4 ⟨Y, rfl, hY, b4⟩
    obtain rfl : X = Y := by
      rcases unhide HX with ⟨g1, e1⟩ | ⟨g1, e1⟩ <;> rcases hY with ⟨g2, e2⟩ | ⟨g2, e2⟩
      · rw [e1, e2]
      · exact absurd g1 g2
      · exact absurd g2 g1
      · rw [e1, e2]
    clear hY
    have s4 := s3.below b4
    have c4 := c3.trans (b4.mono c3.size)
    clear o3 s3 b4 b3
    go_wp2_with fail
    refine (unhide HTo _ c4).mono ?_
    rintro e w5 ⟨rfl, o5, b5⟩
    have t5 := BitLaw.smp_of_own o5
    have s5 := s4.below b5
    have c5 := c4.trans (b5.mono c4.size)
    clear o5 s4 b5
    go_wp2_with fail
    refine (BitLaw.eq_any s5 t5).mono ?_
    rintro e w6 ⟨rfl, b6⟩
    have c6 := c5.trans (b6.mono c5.size)
    go_wp2
    go_ret
    exact ⟨rfl, c6⟩
end Go.Proofs.Ytkaepjngmgicaaa
