/- FnZig returns true at every two texts of bytes. -/
import Derived.Test.YtkaepjngmgicaaaDraw2
namespace Go.Proofs.Ytkaepjngmgicaaa
open Go.RowKit Draw
set_option linter.unusedVariables false
theorem zig_nonneg (n : Int) : 0 ≤ Zig.zig n := by unfold Zig.zig; split <;> (try split) <;> omega
theorem zag_zig {n : Int} (h1 : -1073741823 ≤ n) (h2 : n ≤ 1073741823) : Zig.zag (Zig.zig n) = n := by
  by_cases h : n < 0
  · rw [Zig.zig_neg h1 h, Zig.zag_odd (by omega) (by omega) (by omega)]; omega
  · rw [Zig.zig_pos h2 (by omega), Zig.zag_even (by omega) (by omega) (by omega)]; omega
theorem zig_zag {n : Int} (h1 : 0 ≤ n) (h2 : n ≤ 2147483646) : Zig.zig (Zig.zag n) = n := by
  by_cases h : n % 2 = 1
  · rw [Zig.zag_odd h1 h2 h, Zig.zig_neg (by omega) (by omega)]; omega
  · rw [Zig.zag_even h1 h2 (by omega), Zig.zig_pos (by omega) (by omega)]; omega
set_option maxHeartbeats 2000000 in
theorem fnZig.walk (a0 : Option Addr) (len0 cap0 : Nat) (z0 : List Int) (a1 : Option Addr) (len1 cap1 : Nat) (z1 : List Int) (w : World) (w0 : IsRow .u8 w a0 len0 cap0 z0) (w1 : IsRow .u8 w a1 len1 cap1 z1) :
    Calls Try.prog 5 #[.slice a0 len0 cap0, .slice a1 len1 cap1] w fun e w' => e = .returned (.bool true) ∧ Below w.heap.size w w' := by
  have l0 := (row_bytes w0)
  have l1 := (row_bytes w1)
  have c0 : len0 ≤ 9223372036854775807 := by have := l0.1; have := l0.2.1; unfold maxLen at this; omega
  have c1 : len1 ≤ 9223372036854775807 := by have := l1.1; have := l1.2.1; unfold maxLen at this; omega
  have H0 := hide (fun W (hB : Below w.heap.size w W) => draw_zig w W w0 hB)
  have H1 := hide (fun W (hB : Below w.heap.size w W) => draw_zag w W w1 hB)
  clear l0 l1 w0 w1
  by_cases hb0 : 1048576 < len0
  · go_enter Try.func5, Try.ntmps5
    go_wp2
    go_ret
    exact ⟨rfl, Below.refl _ _⟩
  by_cases hb1 : 1048576 < len1
  · go_enter Try.func5, Try.ntmps5
    go_wp2
    go_ret
    exact ⟨rfl, Below.refl _ _⟩
  go_enter Try.func5, Try.ntmps5
  go_wp2_with fail
  refine (unhide H0 _ (Below.refl _ _)).mono ?_
  rintro e w1 ⟨n, rfl, n0, n1, b1⟩
  go_wp2_with fail
  refine (Zig.impl_zig _ _).mono ?_
  rintro e w1' ⟨rfl, h⟩
  subst h
  go_wp2_with fail
  refine (Zig.spec_zig _ _).mono ?_
  rintro e w1' ⟨rfl, h⟩
  subst h
  have zn := zig_nonneg n
  have zz := hide (fun (h1 : -1073741823 ≤ n) (h2 : n ≤ 1073741823) => zag_zig h1 h2)
  generalize Zig.zig n = z at zn zz
  rcases (show 1073741823 < n ∨ (n ≤ 1073741823 ∧ n < -1073741823) ∨ (n ≤ 1073741823 ∧ -1073741823 ≤ n) from by omega) with hn | ⟨hn, hn'⟩ | ⟨hn, hn'⟩
  · go_wp2_with fail
    refine (unhide H1 _ b1).mono ?_
    rintro e w2 ⟨k, rfl, k0, k1, b2⟩
    have b3 := b1.trans (b2.mono b1.size)
    clear b2 b1
    go_wp2_with fail
    refine (Zig.impl_zag _ _).mono ?_
    rintro e w2' ⟨rfl, h⟩
    subst h
    go_wp2_with fail
    refine (Zig.spec_zag _ _).mono ?_
    rintro e w2' ⟨rfl, h⟩
    subst h
    have kk := hide (fun (h1 : 0 ≤ k) (h2 : k ≤ 2147483646) => zig_zag h1 h2)
    generalize Zig.zag k = x at kk
    rcases (show k < 0 ∨ 2147483646 < k ∨ (0 ≤ k ∧ k ≤ 2147483646) from by omega) with hk | hk | ⟨hk, hk'⟩
    · go_wp2
      go_ret
      exact ⟨rfl, b3⟩
    · go_wp2
      go_ret
      exact ⟨rfl, b3⟩
    · have e2 := hide (unhide kk hk hk')
      go_wp2_with fail
      refine (Zig.impl_zig _ _).mono ?_
      rintro e w3 ⟨rfl, h⟩
      subst h
      rw [unhide e2]
      go_wp2
      go_ret
      exact ⟨by simp, b3⟩
  · go_wp2_with fail
    refine (unhide H1 _ b1).mono ?_
    rintro e w2 ⟨k, rfl, k0, k1, b2⟩
    have b3 := b1.trans (b2.mono b1.size)
    clear b2 b1
    go_wp2_with fail
    refine (Zig.impl_zag _ _).mono ?_
    rintro e w2' ⟨rfl, h⟩
    subst h
    go_wp2_with fail
    refine (Zig.spec_zag _ _).mono ?_
    rintro e w2' ⟨rfl, h⟩
    subst h
    have kk := hide (fun (h1 : 0 ≤ k) (h2 : k ≤ 2147483646) => zig_zag h1 h2)
    generalize Zig.zag k = x at kk
    rcases (show k < 0 ∨ 2147483646 < k ∨ (0 ≤ k ∧ k ≤ 2147483646) from by omega) with hk | hk | ⟨hk, hk'⟩
    · go_wp2
      go_ret
      exact ⟨rfl, b3⟩
    · go_wp2
      go_ret
      exact ⟨rfl, b3⟩
    · have e2 := hide (unhide kk hk hk')
      go_wp2_with fail
      refine (Zig.impl_zig _ _).mono ?_
      rintro e w3 ⟨rfl, h⟩
      subst h
      rw [unhide e2]
      go_wp2
      go_ret
      exact ⟨by simp, b3⟩
  · have e1 := hide (unhide zz hn' hn)
    go_wp2_with fail
    refine (Zig.impl_zag _ _).mono ?_
    rintro e w1' ⟨rfl, h⟩
    subst h
    rw [unhide e1]
    go_wp2_with fail
    refine (unhide H1 _ b1).mono ?_
    rintro e w2 ⟨k, rfl, k0, k1, b2⟩
    have b3 := b1.trans (b2.mono b1.size)
    clear b2 b1
    go_wp2_with fail
    refine (Zig.impl_zag _ _).mono ?_
    rintro e w2' ⟨rfl, h⟩
    subst h
    go_wp2_with fail
    refine (Zig.spec_zag _ _).mono ?_
    rintro e w2' ⟨rfl, h⟩
    subst h
    have kk := hide (fun (h1 : 0 ≤ k) (h2 : k ≤ 2147483646) => zig_zag h1 h2)
    generalize Zig.zag k = x at kk
    rcases (show k < 0 ∨ 2147483646 < k ∨ (0 ≤ k ∧ k ≤ 2147483646) from by omega) with hk | hk | ⟨hk, hk'⟩
    · go_wp2
      go_ret
      exact ⟨rfl, b3⟩
    · go_wp2
      go_ret
      exact ⟨rfl, b3⟩
    · have e2 := hide (unhide kk hk hk')
      go_wp2_with fail
      refine (Zig.impl_zig _ _).mono ?_
      rintro e w3 ⟨rfl, h⟩
      subst h
      rw [unhide e2]
      go_wp2
      go_ret
      exact ⟨by simp, b3⟩
end Go.Proofs.Ytkaepjngmgicaaa
