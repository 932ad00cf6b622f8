/- Whiles: the program's small functions; times; the model's while of samples. -/
import Derived.Test.YtogdllkbiibicaaWinFold
import Derived.Test.YtogdllkbiibicaaWinMath3
import Derived.Test.YtogdllkbiibicaaWinThin
namespace Go.Proofs.Ytogdllkbiibicaa.WinM
open Go.RowKit Rw
set_option linter.unusedVariables false
attribute [local go_sem ↓] Go.wp_at_zero Go.wp_at_succ
theorem times_yes {f t : Int} (h1 : 0 ≤ f) (h2 : f ≤ 9999) (h3 : f ≤ t) (h4 : t ≤ 10000) : timesB f t = true := by unfold timesB; rw [decide_eq_true h1, decide_eq_true h2, decide_eq_true h3, decide_eq_true h4]; rfl
theorem times_is {f t : Int} (h : timesB f t = true) : 0 ≤ f ∧ f ≤ 9999 ∧ f ≤ t ∧ t ≤ 10000 := by
  unfold timesB at h
  simp only [Bool.and_eq_true, decide_eq_true_eq] at h
  omega
theorem times_no {f t : Int} (h : f < 0 ∨ 9999 < f ∨ t < f ∨ 10000 < t) : timesB f t = false := by
  rw [Bool.eq_false_iff]; intro e; have := times_is e; omega
theorem times_in (f t : Int) : timesB f t = (Zig.inB f 0 9999 && Zig.inB t f 10000) := by unfold timesB Zig.inB; rw [Bool.and_assoc]
theorem impl_times (f t : Int) (w : World) : Calls Try.prog 48 #[.int .i64 f, .int .i64 t] w fun e w' => e = .returned (.bool (timesB f t)) ∧ w' = w := by
  by_cases h1 : 0 ≤ f
  · by_cases h2 : f ≤ 9999
    · by_cases h3 : f ≤ t
      · by_cases h4 : t ≤ 10000
        · have HR := hide (times_yes h1 h2 h3 h4)
          go_enter Try.func48, Try.ntmps48
          go_wp2
          go_ret
          exact ⟨ret_bool (unhide HR).symm, rfl⟩
        · have HR := hide (times_no (f := f) (t := t) (by omega))
          go_enter Try.func48, Try.ntmps48
          go_wp2
          go_ret
          exact ⟨ret_bool (unhide HR).symm, rfl⟩
      · have HR := hide (times_no (f := f) (t := t) (by omega))
        go_enter Try.func48, Try.ntmps48
        go_wp2
        go_ret
        exact ⟨ret_bool (unhide HR).symm, rfl⟩
    · have HR := hide (times_no (f := f) (t := t) (by omega))
      go_enter Try.func48, Try.ntmps48
      go_wp2
      go_ret
      exact ⟨ret_bool (unhide HR).symm, rfl⟩
  · have HR := hide (times_no (f := f) (t := t) (by omega))
    go_enter Try.func48, Try.ntmps48
    go_wp2
    go_ret
    exact ⟨ret_bool (unhide HR).symm, rfl⟩
theorem spec_times (f t : Int) (w : World) : Calls Try.prog 45 #[.int .i64 f, .int .i64 t] w fun e w' => e = .returned (.bool (timesB f t)) ∧ w' = w := by
  cases h1 : Zig.inB f 0 9999
  · have HR := hide (show timesB f t = false by rw [times_in, h1]; rfl)
    have I1 := hide h1
    clear h1
    go_enter Try.func45, Try.ntmps45
    go_wp2_with fail
    refine (Samp.in_is f 0 9999 _ _ (unhide I1)).mono ?_
    rintro e v1 ⟨rfl, rfl⟩
    go_wp2_with fail
    go_ret
    exact ⟨ret_bool (unhide HR).symm, rfl⟩
  · have HR := hide (show timesB f t = Zig.inB t f 10000 by rw [times_in, h1]; rfl)
    have I1 := hide h1
    clear h1
    go_enter Try.func45, Try.ntmps45
    go_wp2_with fail
    refine (Samp.in_is f 0 9999 _ _ (unhide I1)).mono ?_
    rintro e v1 ⟨rfl, rfl⟩
    go_wp2_with fail
    refine (Zig.in_any t f 10000 _).mono ?_
    rintro e v2 ⟨rfl, rfl⟩
    go_wp2_with fail
    go_ret
    exact ⟨ret_bool (unhide HR).symm, rfl⟩
def alW (x y : W6) : Bool := decide (x.1 = y.1)
def addW (a b : Int) : Int := IntKind.i64.wrap (a + b)
def tgW (x y : W6) : W6 := (x.1, addW x.2.1 y.2.1, addW x.2.2.1 y.2.2.1, min x.2.2.2.1 y.2.2.2.1, max x.2.2.2.2.1 y.2.2.2.2.1, y.2.2.2.2.2)
set_option maxRecDepth 100000 in
theorem same_any (X0 X1 X2 X3 X4 X5 Y0 Y1 Y2 Y3 Y4 Y5 : Int) (w : World) :
    Calls Try.prog 51 #[.agg #[.int .i64 X0, .int .i64 X1, .int .i64 X2, .int .i64 X3, .int .i64 X4, .int .i64 X5], .agg #[.int .i64 Y0, .int .i64 Y1, .int .i64 Y2, .int .i64 Y3, .int .i64 Y4, .int .i64 Y5]] w fun e w' => e = .returned (.bool (alW (X0, X1, X2, X3, X4, X5) (Y0, Y1, Y2, Y3, Y4, Y5))) ∧ Below w.heap.size w w' := by
  have HA := hide (show alW (X0, X1, X2, X3, X4, X5) (Y0, Y1, Y2, Y3, Y4, Y5) = decide (X0 = Y0) from rfl)
  go_enter Try.func51, Try.ntmps51
  go_wp2
  go_ret
  exact ⟨by rw [unhide HA]; first | rfl | (apply ret_bool; simp), ((Below.refl _ _).alloc (Nat.le_refl _) _).alloc (by simp) _⟩
set_option maxRecDepth 100000 in
set_option maxHeartbeats 4000000 in
theorem with_any (X0 X1 X2 X3 X4 X5 Y0 Y1 Y2 Y3 Y4 Y5 : Int) (w : World) :
    Calls Try.prog 52 #[.agg #[.int .i64 X0, .int .i64 X1, .int .i64 X2, .int .i64 X3, .int .i64 X4, .int .i64 X5], .agg #[.int .i64 Y0, .int .i64 Y1, .int .i64 Y2, .int .i64 Y3, .int .i64 Y4, .int .i64 Y5]] w fun e w' => e = .returned (.agg #[.int .i64 X0, .int .i64 (addW X1 Y1), .int .i64 (addW X2 Y2), .int .i64 (min X3 Y3), .int .i64 (max X4 Y4), .int .i64 Y5]) ∧ Below w.heap.size w w' := by
  obtain ⟨c, hc⟩ : ∃ c, IntKind.i64.wrap (X1 + Y1) = c := ⟨_, rfl⟩
  obtain ⟨s, hs⟩ : ∃ s, IntKind.i64.wrap (X2 + Y2) = s := ⟨_, rfl⟩
  have HC := hide (show addW X1 Y1 = c from hc)
  have HS := hide (show addW X2 Y2 = s from hs)
  rw [unhide HC, unhide HS]
  rcases Int.lt_or_le Y3 X3 with a | a
  · rw [show min X3 Y3 = Y3 by omega]
    rcases Int.lt_or_le X4 Y4 with b | b
    · rw [show max X4 Y4 = Y4 by omega]
      go_enter Try.func52, Try.ntmps52
      go_wp2
      refine bodyPost_ret (v := .agg #[.int .i64 X0, .int .i64 c, .int .i64 s, .int .i64 Y3, .int .i64 Y4, .int .i64 Y5]) (by simp [results, Try.results52, go_sem]) rfl ⟨rfl, ?_⟩
      exact (((Below.refl _ _).alloc (Nat.le_refl _) _).alloc (by simp) _).alloc (by simp; omega) _
    · rw [show max X4 Y4 = X4 by omega]
      have b' : ¬ X4 < Y4 := by omega
      go_enter Try.func52, Try.ntmps52
      go_wp2
      refine bodyPost_ret (v := .agg #[.int .i64 X0, .int .i64 c, .int .i64 s, .int .i64 Y3, .int .i64 X4, .int .i64 Y5]) (by simp [results, Try.results52, go_sem]) rfl ⟨rfl, ?_⟩
      exact (((Below.refl _ _).alloc (Nat.le_refl _) _).alloc (by simp) _).alloc (by simp; omega) _
  · rw [show min X3 Y3 = X3 by omega]
    rcases Int.lt_or_le X4 Y4 with b | b
    · rw [show max X4 Y4 = Y4 by omega]
      have a' : ¬ Y3 < X3 := by omega
      go_enter Try.func52, Try.ntmps52
      go_wp2
      refine bodyPost_ret (v := .agg #[.int .i64 X0, .int .i64 c, .int .i64 s, .int .i64 X3, .int .i64 Y4, .int .i64 Y5]) (by simp [results, Try.results52, go_sem]) rfl ⟨rfl, ?_⟩
      exact (((Below.refl _ _).alloc (Nat.le_refl _) _).alloc (by simp) _).alloc (by simp; omega) _
    · rw [show max X4 Y4 = X4 by omega]
      have a' : ¬ Y3 < X3 := by omega
      have b' : ¬ X4 < Y4 := by omega
      go_enter Try.func52, Try.ntmps52
      go_wp2
      refine bodyPost_ret (v := .agg #[.int .i64 X0, .int .i64 c, .int .i64 s, .int .i64 X3, .int .i64 X4, .int .i64 Y5]) (by simp [results, Try.results52, go_sem]) rfl ⟨rfl, ?_⟩
      exact (((Below.refl _ _).alloc (Nat.le_refl _) _).alloc (by simp) _).alloc (by simp; omega) _
set_option maxRecDepth 100000 in
set_option maxHeartbeats 4000000 in
theorem winOf_any (b T V : Int) (w : World) :
    Calls Try.prog 49 #[.int .i64 b, .agg #[.int .i64 T, .int .i64 V]] w fun e w' => e = .returned (.agg #[.int .i64 b, .int .i64 1, .int .i64 V, .int .i64 V, .int .i64 V, .int .i64 V]) ∧ Below w.heap.size w w' := by
  go_enter Try.func49, Try.ntmps49
  go_wp2
  refine bodyPost_ret (v := .agg #[.int .i64 b, .int .i64 1, .int .i64 V, .int .i64 V, .int .i64 V, .int .i64 V]) (by simp [results, Try.results49, go_sem]) rfl ⟨rfl, ?_⟩
  exact ((Below.refl _ _).alloc (Nat.le_refl _) _).alloc (by simp) _
end Go.Proofs.Ytogdllkbiibicaa.WinM
