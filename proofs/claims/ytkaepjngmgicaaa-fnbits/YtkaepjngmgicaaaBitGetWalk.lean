/- FnExactBitsGet returns true at every text and two numbers. -/
import Derived.Test.YtkaepjngmgicaaaBitIter
namespace Go.Proofs.Ytkaepjngmgicaaa
open Go.RowKit
theorem bits_yes (s : ByteArray) (p q : Nat) (w : World) (hs : s.size ≤ 751) (hq1 : 1 ≤ q) (hq : q ≤ 32) (hp : p + q ≤ 8 * s.size) :
    Calls Try.prog 23 #[.string s, .int .i64 p, .int .i64 q] w fun e w' => e = .returned (.tuple #[.int .i64 (BitMath.num s.data.toList p q), .bool true]) ∧ Below w.heap.size w w' :=
  callsIn_wide.1 (BitIter.yes_in s p q w hs hq1 hq hp)
set_option maxRecDepth 100000 in
set_option maxHeartbeats 1000000 in
theorem bits_no (s : ByteArray) (p q : Int) (w : World) (hs0 : s.size ≤ maxLen) (hq : -9223372036854775808 ≤ q) (hq' : q ≤ 9223372036854775807) (hp : -9223372036854775808 ≤ p) (hp' : p ≤ 9223372036854775807) (h : ¬(1 ≤ q ∧ q ≤ 32 ∧ s.size ≤ 751 ∧ 0 ≤ p ∧ p + q ≤ 8 * s.size)) :
    Calls Try.prog 23 #[.string s, .int .i64 p, .int .i64 q] w fun e w' => e = .returned (.tuple #[.int .i64 0, .bool false]) ∧ w' = w := by
  have hl : s.size ≤ 9223372036854775807 := by unfold maxLen at hs0; omega
  clear hs0
  by_cases h1 : q < 1
  · go_enter Try.func23, Try.ntmps23
    go_wp2
    go_ret2
    exact ⟨rfl, rfl⟩
  by_cases h2 : 32 < q
  · go_enter Try.func23, Try.ntmps23
    go_wp2
    go_ret2
    exact ⟨rfl, rfl⟩
  by_cases h3 : 751 < s.size
  · go_enter Try.func23, Try.ntmps23
    go_wp2
    go_ret2
    exact ⟨rfl, rfl⟩
  by_cases h4 : p < 0
  · go_enter Try.func23, Try.ntmps23
    go_wp2
    go_ret2
    exact ⟨rfl, rfl⟩
  have h5 : decide ((s.size : Int) * 8 - q < p) = true := by simp; omega
  clear h
  go_enter Try.func23, Try.ntmps23
  go_wp2
  go_ret2
  exact ⟨rfl, rfl⟩
theorem wf_range {n : Int} (h : (Lit.int .i64 n).wf = true) : -9223372036854775808 ≤ n ∧ n ≤ 9223372036854775807 := by
  have e : (Lit.int .i64 n).wf = (decide ((-9223372036854775808 : Int) ≤ n) && decide (n ≤ 9223372036854775807)) := rfl
  rw [e] at h
  simpa using h
set_option maxRecDepth 100000 in
set_option maxHeartbeats 1000000 in
theorem fnExactBitsGet.walk (a0 : ByteArray) (a1 a2 : Int) (w : World) (w0 : a0.size ≤ maxLen) (w1 : (Lit.int .i64 a1).wf = true) (w2 : (Lit.int .i64 a2).wf = true) :
    Calls Try.prog 11 #[.string a0, .int .i64 a1, .int .i64 a2] w fun e w' => e = .returned (.bool true) ∧ Below w.heap.size w w' := by
  have r1 : -9223372036854775808 ≤ a1 ∧ a1 ≤ 9223372036854775807 := wf_range w1
  have r2 : -9223372036854775808 ≤ a2 ∧ a2 ≤ 9223372036854775807 := wf_range w2
  obtain ⟨r1a, r1b⟩ := r1
  obtain ⟨r2a, r2b⟩ := r2
  clear w1 w2
  by_cases hb : 1048576 < a0.size
  · unfold maxLen at w0
    go_enter Try.func11, Try.ntmps11
    go_wp2
    go_ret
    exact ⟨rfl, Below.refl _ _⟩
  by_cases h : 1 ≤ a2 ∧ a2 ≤ 32 ∧ a0.size ≤ 751 ∧ 0 ≤ a1 ∧ a1 + a2 ≤ 8 * a0.size
  · obtain ⟨q1, q2, q3, q4, q5⟩ := h
    obtain ⟨p, rfl⟩ := Int.eq_ofNat_of_zero_le q4
    obtain ⟨q, rfl⟩ := Int.eq_ofNat_of_zero_le (show 0 ≤ a2 by omega)
    have HA := hide (fun W => BitGet.spec_yes a0 p q W q3 (by omega) (by omega) (by omega))
    have HB := hide (fun W => bits_yes a0 p q W q3 (by omega) (by omega) (by omega))
    generalize BitMath.num a0.data.toList p q = N at *
    unfold maxLen at w0
    go_enter Try.func11, Try.ntmps11
    go_wp2_with (first | (go_at_call 25; refine (unhide HA _).mono ?_; rintro e w1 ⟨rfl, hb1⟩; subst hb1) | (go_at_call 23; refine (unhide HB _).mono ?_; rintro e w2 ⟨rfl, hb2⟩))
    go_ret
    exact ⟨by simp, hb2⟩
  · have HA := hide (fun W => BitGet.spec_no a0 a1 a2 W w0 r2a r2b r1a r1b h)
    have HB := hide (fun W => bits_no a0 a1 a2 W w0 r2a r2b r1a r1b h)
    clear h
    unfold maxLen at w0
    go_enter Try.func11, Try.ntmps11
    go_wp2_with (first | (go_at_call 25; refine (unhide HA _).mono ?_; rintro e w1 ⟨rfl, hb1⟩; subst hb1) | (go_at_call 23; refine (unhide HB _).mono ?_; rintro e w2 ⟨rfl, hb2⟩; subst hb2))
    go_ret
    exact ⟨by simp, Below.refl _ _⟩
end Go.Proofs.Ytkaepjngmgicaaa
