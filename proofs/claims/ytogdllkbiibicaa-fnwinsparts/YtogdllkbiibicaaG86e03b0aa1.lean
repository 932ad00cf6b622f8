/- My own texts of one claim, laid together by program: WinOkB, WinJoinI. -/
import Derived.Test.YtogdllkbiibicaaGbf12ce760d
import Derived.Test.YtogdllkbiibicaaG952b55b70d
/- What winOk of the program and l11Ok of the model answer, at every while. No condition. -/
namespace Go.Proofs.Ytogdllkbiibicaa.WinM
open Go.RowKit Rw
set_option linter.unusedVariables false
attribute [local go_sem ↓] Go.wp_at_zero Go.wp_at_succ
theorem okB_no {x : W6} (h : ¬ okW x) : okB x = false := Bool.eq_false_iff.2 (fun e => h ((okB_iff x).1 e))
theorem mul_in {l c : Int} (h1 : 0 ≤ l) (h2 : l ≤ 2147483647) (h3 : 1 ≤ c) (h4 : c ≤ 10000) : 0 ≤ l * c ∧ l * c ≤ 21474836470000 := by
  have a1 : 0 ≤ l * c := Int.mul_nonneg h1 (by omega)
  have a2 : l * c ≤ 2147483647 * c := Int.mul_le_mul_of_nonneg_right h2 (by omega)
  omega
theorem count_any (C : Int) (w : World) : Calls Try.prog 61 #[.int .i64 C] w fun e w' => e = .returned (.bool (decide (1 ≤ C) && decide (C ≤ 10000))) ∧ w' = w := by
  by_cases h1 : 1 ≤ C
  · by_cases h2 : C ≤ 10000
    · have HR := hide (show (decide (1 ≤ C) && decide (C ≤ 10000)) = true by rw [decide_eq_true h1, decide_eq_true h2]; rfl)
      rw [unhide HR]
      go_enter Try.func61, Try.ntmps61
      go_wp2
      go_ret
      exact ⟨rfl, rfl⟩
    · have HR := hide (show (decide (1 ≤ C) && decide (C ≤ 10000)) = false by rw [decide_eq_false h2]; simp)
      rw [unhide HR]
      have n2 : decide (C ≤ 10000) = false := decide_eq_false h2
      go_enter Try.func61, Try.ntmps61
      go_wp2
      go_ret
      exact ⟨rfl, rfl⟩
  · have HR := hide (show (decide (1 ≤ C) && decide (C ≤ 10000)) = false by rw [decide_eq_false h1]; simp)
    rw [unhide HR]
    have n1 : decide (1 ≤ C) = false := decide_eq_false h1
    go_enter Try.func61, Try.ntmps61
    go_wp2
    go_ret
    exact ⟨rfl, rfl⟩
set_option maxRecDepth 100000 in
set_option maxHeartbeats 4000000 in
theorem impl_winOk (F C U Lo Hi La : Int) (w : World) : Calls Try.prog 65 #[.agg #[.int .i64 F, .int .i64 C, .int .i64 U, .int .i64 Lo, .int .i64 Hi, .int .i64 La]] w fun e w' => e = .returned (.bool (okB (F, C, U, Lo, Hi, La))) ∧ Below w.heap.size w w' := by
  by_cases p0 : F < 0
  · have HR := hide (show okB (F, C, U, Lo, Hi, La) = false from okB_no (fun h => by unfold okW inW at h; simp only at h; omega))
    rw [unhide HR]
    go_enter Try.func65, Try.ntmps65
    go_wp2_with (fail)
    go_ret
    exact ⟨rfl, (Below.refl _ _).alloc (Nat.le_refl _) _⟩
  have n0 : decide (F < 0) = false := decide_eq_false p0
  by_cases p1 : 9999 < F
  · have HR := hide (show okB (F, C, U, Lo, Hi, La) = false from okB_no (fun h => by unfold okW inW at h; simp only at h; omega))
    rw [unhide HR]
    go_enter Try.func65, Try.ntmps65
    go_wp2_with (fail)
    go_ret
    exact ⟨rfl, (Below.refl _ _).alloc (Nat.le_refl _) _⟩
  have n1 : decide (9999 < F) = false := decide_eq_false p1
  by_cases p2 : C < 1
  · have HR := hide (show okB (F, C, U, Lo, Hi, La) = false from okB_no (fun h => by unfold okW inW at h; simp only at h; omega))
    rw [unhide HR]
    have HCt := hide (show (decide (1 ≤ C) && decide (C ≤ 10000)) = false by first | (rw [decide_eq_false (show ¬ 1 ≤ C by omega)]; rfl) | (rw [decide_eq_false (show ¬ C ≤ 10000 by omega)]; simp))
    go_enter Try.func65, Try.ntmps65
    go_wp2_with (go_at_call 61; refine (count_any _ _).mono ?_; rintro e v ⟨rfl, hv⟩; subst hv; rw [unhide HCt])
    go_ret
    exact ⟨rfl, (Below.refl _ _).alloc (Nat.le_refl _) _⟩
  have n2 : decide (C < 1) = false := decide_eq_false p2
  by_cases p3 : 10000 < C
  · have HR := hide (show okB (F, C, U, Lo, Hi, La) = false from okB_no (fun h => by unfold okW inW at h; simp only at h; omega))
    rw [unhide HR]
    have HCt := hide (show (decide (1 ≤ C) && decide (C ≤ 10000)) = false by first | (rw [decide_eq_false (show ¬ 1 ≤ C by omega)]; rfl) | (rw [decide_eq_false (show ¬ C ≤ 10000 by omega)]; simp))
    go_enter Try.func65, Try.ntmps65
    go_wp2_with (go_at_call 61; refine (count_any _ _).mono ?_; rintro e v ⟨rfl, hv⟩; subst hv; rw [unhide HCt])
    go_ret
    exact ⟨rfl, (Below.refl _ _).alloc (Nat.le_refl _) _⟩
  have n3 : decide (10000 < C) = false := decide_eq_false p3
  by_cases p4 : Lo < 0
  · have HR := hide (show okB (F, C, U, Lo, Hi, La) = false from okB_no (fun h => by unfold okW inW at h; simp only at h; omega))
    rw [unhide HR]
    have HCt := hide (show (decide (1 ≤ C) && decide (C ≤ 10000)) = true by rw [decide_eq_true (show 1 ≤ C by omega), decide_eq_true (show C ≤ 10000 by omega)]; rfl)
    go_enter Try.func65, Try.ntmps65
    go_wp2_with (go_at_call 61; refine (count_any _ _).mono ?_; rintro e v ⟨rfl, hv⟩; subst hv; rw [unhide HCt])
    go_ret
    exact ⟨rfl, (Below.refl _ _).alloc (Nat.le_refl _) _⟩
  have n4 : decide (Lo < 0) = false := decide_eq_false p4
  by_cases p5 : La < Lo
  · have HR := hide (show okB (F, C, U, Lo, Hi, La) = false from okB_no (fun h => by unfold okW inW at h; simp only at h; omega))
    rw [unhide HR]
    have HCt := hide (show (decide (1 ≤ C) && decide (C ≤ 10000)) = true by rw [decide_eq_true (show 1 ≤ C by omega), decide_eq_true (show C ≤ 10000 by omega)]; rfl)
    go_enter Try.func65, Try.ntmps65
    go_wp2_with (go_at_call 61; refine (count_any _ _).mono ?_; rintro e v ⟨rfl, hv⟩; subst hv; rw [unhide HCt])
    go_ret
    exact ⟨rfl, (Below.refl _ _).alloc (Nat.le_refl _) _⟩
  have n5 : decide (La < Lo) = false := decide_eq_false p5
  by_cases p6 : Hi < La
  · have HR := hide (show okB (F, C, U, Lo, Hi, La) = false from okB_no (fun h => by unfold okW inW at h; simp only at h; omega))
    rw [unhide HR]
    have HCt := hide (show (decide (1 ≤ C) && decide (C ≤ 10000)) = true by rw [decide_eq_true (show 1 ≤ C by omega), decide_eq_true (show C ≤ 10000 by omega)]; rfl)
    go_enter Try.func65, Try.ntmps65
    go_wp2_with (go_at_call 61; refine (count_any _ _).mono ?_; rintro e v ⟨rfl, hv⟩; subst hv; rw [unhide HCt])
    go_ret
    exact ⟨rfl, (Below.refl _ _).alloc (Nat.le_refl _) _⟩
  have n6 : decide (Hi < La) = false := decide_eq_false p6
  by_cases p7 : 2147483647 < Hi
  · have HR := hide (show okB (F, C, U, Lo, Hi, La) = false from okB_no (fun h => by unfold okW inW at h; simp only at h; omega))
    rw [unhide HR]
    have HCt := hide (show (decide (1 ≤ C) && decide (C ≤ 10000)) = true by rw [decide_eq_true (show 1 ≤ C by omega), decide_eq_true (show C ≤ 10000 by omega)]; rfl)
    go_enter Try.func65, Try.ntmps65
    go_wp2_with (go_at_call 61; refine (count_any _ _).mono ?_; rintro e v ⟨rfl, hv⟩; subst hv; rw [unhide HCt])
    go_ret
    exact ⟨rfl, (Below.refl _ _).alloc (Nat.le_refl _) _⟩
  have n7 : decide (2147483647 < Hi) = false := decide_eq_false p7
  have mP := mul_in (l := Lo) (c := C) (by omega) (by omega) (by omega) (by omega)
  have mQ := mul_in (l := Hi) (c := C) (by omega) (by omega) (by omega) (by omega)
  obtain ⟨P, hP⟩ : ∃ P, Lo * C = P := ⟨_, rfl⟩
  obtain ⟨Q, hQ⟩ : ∃ Q, Hi * C = Q := ⟨_, rfl⟩
  rw [hP] at mP
  rw [hQ] at mQ
  have HV := hide (show okB (F, C, U, Lo, Hi, La) = (decide (P ≤ U) && decide (U ≤ Q)) by
    rw [← hP, ← hQ]
    unfold okB
    simp only
    rw [decide_eq_true (show 0 ≤ F by omega), decide_eq_true (show F ≤ 9999 by omega), decide_eq_true (show 1 ≤ C by omega), decide_eq_true (show C ≤ 10000 by omega), decide_eq_true (show 0 ≤ Lo by omega), decide_eq_true (show Lo ≤ La by omega), decide_eq_true (show La ≤ Hi by omega), decide_eq_true (show Hi ≤ 2147483647 by omega)]
    simp)
  have u1 : IntKind.i64.wrap P = P := Grl.wrap_ok (by omega) (by omega)
  have u2 : IntKind.i64.wrap Q = Q := Grl.wrap_ok (by omega) (by omega)
  have v1 : wrap64 P = P := IntWalk.wrap64_in P ⟨by omega, by omega⟩
  have v2 : wrap64 Q = Q := IntWalk.wrap64_in Q ⟨by omega, by omega⟩
  by_cases p8 : U < P
  · have m8 : decide (P ≤ U) = false := by simp; omega
    have HR := hide (show okB (F, C, U, Lo, Hi, La) = false from by rw [unhide HV, m8]; rfl)
    rw [unhide HR]
    have HCt := hide (show (decide (1 ≤ C) && decide (C ≤ 10000)) = true by rw [decide_eq_true (show 1 ≤ C by omega), decide_eq_true (show C ≤ 10000 by omega)]; rfl)
    go_enter Try.func65, Try.ntmps65
    go_wp2_with (go_at_call 61; refine (count_any _ _).mono ?_; rintro e v ⟨rfl, hv⟩; subst hv; rw [unhide HCt])
    go_ret
    exact ⟨rfl, (Below.refl _ _).alloc (Nat.le_refl _) _⟩
  have m8 : decide (P ≤ U) = true := by simp; omega
  have l8 : P ≤ U := by omega
  by_cases p9 : Q < U
  · have m9 : decide (U ≤ Q) = false := by simp; omega
    have HR := hide (show okB (F, C, U, Lo, Hi, La) = false from by rw [unhide HV, m9]; simp)
    rw [unhide HR]
    have HCt := hide (show (decide (1 ≤ C) && decide (C ≤ 10000)) = true by rw [decide_eq_true (show 1 ≤ C by omega), decide_eq_true (show C ≤ 10000 by omega)]; rfl)
    go_enter Try.func65, Try.ntmps65
    go_wp2_with (go_at_call 61; refine (count_any _ _).mono ?_; rintro e v ⟨rfl, hv⟩; subst hv; rw [unhide HCt])
    go_ret
    exact ⟨rfl, (Below.refl _ _).alloc (Nat.le_refl _) _⟩
  have m9 : decide (U ≤ Q) = true := by simp; omega
  have l9 : U ≤ Q := by omega
  have HR := hide (show okB (F, C, U, Lo, Hi, La) = true from by rw [unhide HV, m8, m9]; rfl)
  rw [unhide HR]
  have HCt := hide (show (decide (1 ≤ C) && decide (C ≤ 10000)) = true by rw [decide_eq_true (show 1 ≤ C by omega), decide_eq_true (show C ≤ 10000 by omega)]; rfl)
  go_enter Try.func65, Try.ntmps65
  go_wp2_with (go_at_call 61; refine (count_any _ _).mono ?_; rintro e v ⟨rfl, hv⟩; subst hv; rw [unhide HCt])
  go_ret
  exact ⟨rfl, (Below.refl _ _).alloc (Nat.le_refl _) _⟩
set_option maxRecDepth 100000 in
set_option maxHeartbeats 4000000 in
theorem spec_l11Ok (F C U Lo Hi La : Int) (w : World) : Calls Try.prog 62 #[.agg #[.int .i64 F, .int .i64 C, .int .i64 U, .int .i64 Lo, .int .i64 Hi, .int .i64 La]] w fun e w' => e = .returned (.bool (okB (F, C, U, Lo, Hi, La))) ∧ Below w.heap.size w w' := by
  cases h0 : Zig.inB F 0 9999
  · have H0 := hide h0
    have HR := hide (show okB (F, C, U, Lo, Hi, La) = false from okB_no (fun h => by unfold okW inW at h; simp only at h; unfold Zig.inB at h0; simp only [Bool.and_eq_false_iff, decide_eq_false_iff_not] at h0; omega))
    clear h0
    rw [unhide HR]
    go_enter Try.func62, Try.ntmps62
    go_wp2_with (go_at_call 40; refine (Zig.in_any _ _ _ _).mono ?_; rintro e v ⟨rfl, hv⟩; subst hv; first | rw [unhide H0])
    go_ret
    exact ⟨rfl, (Below.refl _ _).alloc (Nat.le_refl _) _⟩
  have H0 := hide h0
  unfold Zig.inB at h0
  simp only [Bool.and_eq_true, decide_eq_true_eq] at h0
  cases h1 : Zig.inB C 1 10000
  · have H1 := hide h1
    have HR := hide (show okB (F, C, U, Lo, Hi, La) = false from okB_no (fun h => by unfold okW inW at h; simp only at h; unfold Zig.inB at h1; simp only [Bool.and_eq_false_iff, decide_eq_false_iff_not] at h1; omega))
    clear h1
    rw [unhide HR]
    go_enter Try.func62, Try.ntmps62
    go_wp2_with (go_at_call 40; refine (Zig.in_any _ _ _ _).mono ?_; rintro e v ⟨rfl, hv⟩; subst hv; first | rw [unhide H0] | rw [unhide H1])
    go_ret
    exact ⟨rfl, (Below.refl _ _).alloc (Nat.le_refl _) _⟩
  have H1 := hide h1
  unfold Zig.inB at h1
  simp only [Bool.and_eq_true, decide_eq_true_eq] at h1
  cases h2 : Zig.inB Lo 0 Hi
  · have H2 := hide h2
    have HR := hide (show okB (F, C, U, Lo, Hi, La) = false from okB_no (fun h => by unfold okW inW at h; simp only at h; unfold Zig.inB at h2; simp only [Bool.and_eq_false_iff, decide_eq_false_iff_not] at h2; omega))
    clear h2
    rw [unhide HR]
    go_enter Try.func62, Try.ntmps62
    go_wp2_with (go_at_call 40; refine (Zig.in_any _ _ _ _).mono ?_; rintro e v ⟨rfl, hv⟩; subst hv; first | rw [unhide H0] | rw [unhide H1] | rw [unhide H2])
    go_ret
    exact ⟨rfl, (Below.refl _ _).alloc (Nat.le_refl _) _⟩
  have H2 := hide h2
  unfold Zig.inB at h2
  simp only [Bool.and_eq_true, decide_eq_true_eq] at h2
  cases h3 : Zig.inB La Lo Hi
  · have H3 := hide h3
    have HR := hide (show okB (F, C, U, Lo, Hi, La) = false from okB_no (fun h => by unfold okW inW at h; simp only at h; unfold Zig.inB at h3; simp only [Bool.and_eq_false_iff, decide_eq_false_iff_not] at h3; omega))
    clear h3
    rw [unhide HR]
    go_enter Try.func62, Try.ntmps62
    go_wp2_with (go_at_call 40; refine (Zig.in_any _ _ _ _).mono ?_; rintro e v ⟨rfl, hv⟩; subst hv; first | rw [unhide H0] | rw [unhide H1] | rw [unhide H2] | rw [unhide H3])
    go_ret
    exact ⟨rfl, (Below.refl _ _).alloc (Nat.le_refl _) _⟩
  have H3 := hide h3
  unfold Zig.inB at h3
  simp only [Bool.and_eq_true, decide_eq_true_eq] at h3
  by_cases p7 : 2147483647 < Hi
  · have n7 : decide (Hi ≤ 2147483647) = false := by simp; omega
    have HR := hide (show okB (F, C, U, Lo, Hi, La) = false from okB_no (fun h => by unfold okW inW at h; simp only at h; omega))
    rw [unhide HR]
    go_enter Try.func62, Try.ntmps62
    go_wp2_with (go_at_call 40; refine (Zig.in_any _ _ _ _).mono ?_; rintro e v ⟨rfl, hv⟩; subst hv; first | rw [unhide H0] | rw [unhide H1] | rw [unhide H2] | rw [unhide H3])
    go_ret
    exact ⟨rfl, (Below.refl _ _).alloc (Nat.le_refl _) _⟩
  have l7 : Hi ≤ 2147483647 := by omega
  have mP := mul_in (l := Lo) (c := C) (by omega) (by omega) (by omega) (by omega)
  have mQ := mul_in (l := Hi) (c := C) (by omega) (by omega) (by omega) (by omega)
  obtain ⟨P, hP⟩ : ∃ P, Lo * C = P := ⟨_, rfl⟩
  obtain ⟨Q, hQ⟩ : ∃ Q, Hi * C = Q := ⟨_, rfl⟩
  rw [hP] at mP
  rw [hQ] at mQ
  have HV := hide (show okB (F, C, U, Lo, Hi, La) = Zig.inB U P Q by
    rw [← hP, ← hQ]
    unfold okB Zig.inB
    simp only
    rw [decide_eq_true (show 0 ≤ F by omega), decide_eq_true (show F ≤ 9999 by omega), decide_eq_true (show 1 ≤ C by omega), decide_eq_true (show C ≤ 10000 by omega), decide_eq_true (show 0 ≤ Lo by omega), decide_eq_true (show Lo ≤ La by omega), decide_eq_true (show La ≤ Hi by omega), decide_eq_true (show Hi ≤ 2147483647 by omega)]
    simp)
  have u1 : IntKind.i64.wrap P = P := Grl.wrap_ok (by omega) (by omega)
  have u2 : IntKind.i64.wrap Q = Q := Grl.wrap_ok (by omega) (by omega)
  have v1 : wrap64 P = P := IntWalk.wrap64_in P ⟨by omega, by omega⟩
  have v2 : wrap64 Q = Q := IntWalk.wrap64_in Q ⟨by omega, by omega⟩
  cases h4 : Zig.inB U P Q
  · have H4 := hide h4
    clear h4
    have HR := hide (show okB (F, C, U, Lo, Hi, La) = false from by rw [unhide HV, unhide H4])
    rw [unhide HR]
    go_enter Try.func62, Try.ntmps62
    go_wp2_with (go_at_call 40; refine (Zig.in_any _ _ _ _).mono ?_; rintro e v ⟨rfl, hv⟩; subst hv; first | rw [unhide H0] | rw [unhide H1] | rw [unhide H2] | rw [unhide H3] | rw [unhide H4])
    go_ret
    exact ⟨rfl, (Below.refl _ _).alloc (Nat.le_refl _) _⟩
  · have H4 := hide h4
    clear h4
    have HR := hide (show okB (F, C, U, Lo, Hi, La) = true from by rw [unhide HV, unhide H4])
    rw [unhide HR]
    go_enter Try.func62, Try.ntmps62
    go_wp2_with (go_at_call 40; refine (Zig.in_any _ _ _ _).mono ?_; rintro e v ⟨rfl, hv⟩; subst hv; first | rw [unhide H0] | rw [unhide H1] | rw [unhide H2] | rw [unhide H3] | rw [unhide H4])
    go_ret
    exact ⟨rfl, (Below.refl _ _).alloc (Nat.le_refl _) _⟩
end Go.Proofs.Ytogdllkbiibicaa.WinM

/- What winsOk and WinsJoin of the program answer, at all whiles. No condition but a bound on how many. -/
namespace Go.Proofs.Ytogdllkbiibicaa.WinM
open Go.RowKit Rw
set_option linter.unusedVariables false
attribute [local go_sem ↓] Go.wp_at_zero Go.wp_at_succ
set_option maxRecDepth 100000 in
set_option maxHeartbeats 8000000 in
theorem impl_winsOk {w : World} {v : Value} {L : List W6} (h : Win.Is w v L) : Calls Try.prog 59 #[v] w fun e w' => e = .returned (.bool (okSB L)) ∧ Below w.heap.size w w' := by
  obtain ⟨-, ax, cx, rfl, hxc, hxm, -, hxr⟩ := id h
  unfold maxLen at hxm
  obtain ⟨m, hm⟩ : ∃ m, m = L.length := ⟨_, rfl⟩
  have HM := hide hm
  rw [← hm] at hxc hxr ⊢
  clear hm h
  go_enter Try.func59, Try.ntmps59
  go_wp2_with fail
  go_loopw [7] (fun iv wr => ∃ k : Nat, iv = .int .i64 (k : Int) ∧ k ≤ m ∧ Hid (okToW L k = true) ∧ Below w.heap.size w wr) (fun iv _ => m - (intOf iv).toNat)
  case atStart => exact ⟨0, rfl, Nat.zero_le _, rfl, Below.refl _ _⟩
  case round =>
    obtain ⟨k, rfl, hk, HOk, hbel⟩ := hrel
    have hsz := hbel.size
    have hk0 : (0 : Int) ≤ (k : Int) := Int.natCast_nonneg _
    by_cases hlt : k < m
    · obtain ⟨bx, offx, rfl, hbx, hxcells⟩ := hxr (by omega)
      have hkz : k < L.length := by rw [← unhide HM]; exact hlt
      have fa := Win.flat_at L k hkz
      have hk1 : (k : Int) < (m : Int) := by omega
      have XX := fun j u (h : (Win.flat L)[k * 6 + j]? = some u) => (hbel.cell (p := ⟨bx, _, none⟩) hbx).trans (hxcells _ _ h)
      obtain ⟨⟨F, C, U, Lo, Hi, La⟩, hE⟩ : ∃ x, x = Win.at' L k := ⟨_, rfl⟩
      rw [← hE] at fa
      have HE := hide hE
      simp only at fa
      have x0 : wr.cell? ⟨bx, offx + k * 6, none⟩ = some (.int .i64 F) := XX 0 _ fa.1
      have x1 : wr.cell? ⟨bx, offx + k * 6 + 1, none⟩ = some (.int .i64 C) := XX 1 _ fa.2.1
      have x2 : wr.cell? ⟨bx, offx + k * 6 + 2, none⟩ = some (.int .i64 U) := XX 2 _ fa.2.2.1
      have x3 : wr.cell? ⟨bx, offx + k * 6 + 3, none⟩ = some (.int .i64 Lo) := XX 3 _ fa.2.2.2.1
      have x4 : wr.cell? ⟨bx, offx + k * 6 + 4, none⟩ = some (.int .i64 Hi) := XX 4 _ fa.2.2.2.2.1
      have x5 : wr.cell? ⟨bx, offx + k * 6 + 5, none⟩ = some (.int .i64 La) := XX 5 _ fa.2.2.2.2.2
      clear fa hE XX
      obtain ⟨wb, hwb⟩ : ∃ wb, wr.alloc (.cells #[.int .i64 F, .int .i64 C, .int .i64 U, .int .i64 Lo, .int .i64 Hi, .int .i64 La] 52) = wb := ⟨_, rfl⟩
      have bwb : Below wr.heap.size wr wb := by rw [← hwb]; exact (Below.refl _ _).alloc (Nat.le_refl _) _
      have zwb : wr.heap.size < wb.heap.size := by rw [← hwb]; simp
      have tc : ∀ j, wb.cell? ⟨wr.heap.size, j, none⟩ = (#[Value.int .i64 F, .int .i64 C, .int .i64 U, .int .i64 Lo, .int .i64 Hi, .int .i64 La] : Array Value)[j]? := fun j => by rw [← hwb]; exact cell_of_row _ _ j _ _ _ (heap_alloc_new wr _)
      have hxb : bx < wr.heap.size := Nat.lt_of_lt_of_le hbx hbel.size
      have hxb2 : bx < wb.heap.size := by omega
      have T0 : ∀ W : World, Below wb.heap.size wb W → W.cell? ⟨wr.heap.size, 0, none⟩ = some (.int .i64 F) := fun W hb => (hb.cell (p := ⟨wr.heap.size, 0, none⟩) zwb).trans (tc 0)
      have T1 : ∀ W : World, Below wb.heap.size wb W → W.cell? ⟨wr.heap.size, 1, none⟩ = some (.int .i64 C) := fun W hb => (hb.cell (p := ⟨wr.heap.size, 1, none⟩) zwb).trans (tc 1)
      have T2 : ∀ W : World, Below wb.heap.size wb W → W.cell? ⟨wr.heap.size, 2, none⟩ = some (.int .i64 U) := fun W hb => (hb.cell (p := ⟨wr.heap.size, 2, none⟩) zwb).trans (tc 2)
      have T3 : ∀ W : World, Below wb.heap.size wb W → W.cell? ⟨wr.heap.size, 3, none⟩ = some (.int .i64 Lo) := fun W hb => (hb.cell (p := ⟨wr.heap.size, 3, none⟩) zwb).trans (tc 3)
      have T4 : ∀ W : World, Below wb.heap.size wb W → W.cell? ⟨wr.heap.size, 4, none⟩ = some (.int .i64 Hi) := fun W hb => (hb.cell (p := ⟨wr.heap.size, 4, none⟩) zwb).trans (tc 4)
      have T5 : ∀ W : World, Below wb.heap.size wb W → W.cell? ⟨wr.heap.size, 5, none⟩ = some (.int .i64 La) := fun W hb => (hb.cell (p := ⟨wr.heap.size, 5, none⟩) zwb).trans (tc 5)
      have hq0 : ∀ x : Cls wb.heap.size wb, x.val.cell? ⟨wr.heap.size, 0, none⟩ = some (.int .i64 F) := fun x => T0 _ x.isBelow
      have hq1 : ∀ x : Cls wb.heap.size wb, x.val.cell? ⟨wr.heap.size, 1, none⟩ = some (.int .i64 C) := fun x => T1 _ x.isBelow
      have hq2 : ∀ x : Cls wb.heap.size wb, x.val.cell? ⟨wr.heap.size, 2, none⟩ = some (.int .i64 U) := fun x => T2 _ x.isBelow
      have hq3 : ∀ x : Cls wb.heap.size wb, x.val.cell? ⟨wr.heap.size, 3, none⟩ = some (.int .i64 Lo) := fun x => T3 _ x.isBelow
      have hq4 : ∀ x : Cls wb.heap.size wb, x.val.cell? ⟨wr.heap.size, 4, none⟩ = some (.int .i64 Hi) := fun x => T4 _ x.isBelow
      have hq5 : ∀ x : Cls wb.heap.size wb, x.val.cell? ⟨wr.heap.size, 5, none⟩ = some (.int .i64 La) := fun x => T5 _ x.isBelow
      have HT0 := hide T0
      have HT1 := hide T1
      have HT2 := hide T2
      have HT3 := hide T3
      have HT4 := hide T4
      have HT5 := hide T5
      have hne := cls_nonempty wb.heap.size wb
      clear tc T0 T1 T2 T3 T4 T5
      have HW := hide (fun W : World => impl_winOk F C U Lo Hi La W)
      cases hb : okB (F, C, U, Lo, Hi, La)
      · have HB := hide hb
        rw [hb] at HW
        have HBad := hide (okToW_bad hkz (show stepW L k = false by unfold stepW; rw [← unhide HE, unhide HB]; rfl))
        clear hb
        go_wp2_with fail
        refine region_cls (by kernel_rfl) (by kernel_rfl) ?_
        repeat (go_big_quiet_step ((go_at_call 65; exact cls_call (Nat.le_refl _) (unhide HW _))))
        refine wpQuiet_nil ?_
        rintro w7 ⟨⟨_, hq⟩, rfl⟩
        have c7 := hbel.trans ((bwb.trans (hq.mono bwb.size)).mono hsz)
        clear hq0 hq1 hq2 hq3 hq4 hq5 hne x0 x1 x2 x3 x4 x5 hwb HW
        go_wp2_with fail
        go_ret
        exact ⟨by rw [unhide HBad]; rfl, c7⟩
      have HB := hide hb
      rw [hb] at HW
      clear hb
      by_cases hkp : 0 < k
      · have hkp' : (0 : Int) < (k : Int) := by omega
        have hkw : wrap64 ((k : Int) - 1) = (k : Int) - 1 := by unfold wrap64; omega
        have hk2 : (0 : Int) ≤ (k : Int) - 1 := by omega
        have hk3 : (k : Int) - 1 < (m : Int) := by omega
        have hk4 : ((k : Int) - 1).toNat = k - 1 := by omega
        obtain ⟨F', hF'⟩ : ∃ F', F' = (Win.at' L (k - 1)).1 := ⟨_, rfl⟩
        have HF' := hide hF'
        have f0 : wr.cell? ⟨bx, offx + (k - 1) * 6, none⟩ = some (.int .i64 F') := by rw [hF']; exact (hbel.cell (p := ⟨bx, _, none⟩) hbx).trans (hxcells _ _ (Win.flat_at L (k - 1) (by rw [← unhide HM]; omega)).1)
        have hq6 : ∀ x : Cls wb.heap.size wb, x.val.cell? ⟨bx, offx + (k - 1) * 6, none⟩ = some (.int .i64 F') := fun x => (x.isBelow.cell (p := ⟨bx, _, none⟩) hxb2).trans ((bwb.cell (p := ⟨bx, _, none⟩) hxb).trans f0)
        clear hF' f0
        by_cases hFl : F ≤ F'
        · have HBad := hide (okToW_bad hkz (show stepW L k = false by unfold stepW; rw [← unhide HE, unhide HB, ← unhide HF', decide_eq_false (show ¬ F' < F by omega)]; simp; omega))
          go_wp2_with fail
          refine region_cls (by kernel_rfl) (by kernel_rfl) ?_
          repeat (go_big_quiet_step ((go_at_call 65; exact cls_call (Nat.le_refl _) (unhide HW _))))
          refine wpQuiet_nil ?_
          rintro w7 ⟨⟨_, hq⟩, rfl⟩
          have c7 := hbel.trans ((bwb.trans (hq.mono bwb.size)).mono hsz)
          clear hq0 hq1 hq2 hq3 hq4 hq5 hq6 hne x0 x1 x2 x3 x4 x5 hwb HW
          go_wp2_with fail
          go_ret
          exact ⟨by rw [unhide HBad]; rfl, c7⟩
        have hFd : decide (F ≤ F') = false := by simp; omega
        have hFF : decide (F' < F) = true := by simp; omega
        have HOk2 := hide (show okToW L (k + 1) = true by rw [okToW_succ, unhide HOk, Bool.true_and]; unfold stepW; rw [← unhide HE, unhide HB, ← unhide HF', hFF]; simp)
        clear hFF
        go_wp2_with fail
        refine region_cls (by kernel_rfl) (by kernel_rfl) ?_
        repeat (go_big_quiet_step ((go_at_call 65; exact cls_call (Nat.le_refl _) (unhide HW _))))
        refine wpQuiet_nil ?_
        rintro w7 ⟨⟨_, hq⟩, rfl⟩
        have c7 := hbel.trans ((bwb.trans (hq.mono bwb.size)).mono hsz)
        clear hq0 hq1 hq2 hq3 hq4 hq5 hq6 hne x0 x1 x2 x3 x4 x5 hwb HW
        go_wp2_with fail
        go_roundw
        case rel => exact ⟨k + 1, by go_num, by omega, HOk2, c7⟩
        case measure => first | (simp [intOf]; done) | (simp [intOf]; omega)
      · have hkp' : decide ((0 : Int) < (k : Int)) = false := by simp; omega
        have HOk2 := hide (show okToW L (k + 1) = true by rw [okToW_succ, unhide HOk, Bool.true_and]; unfold stepW; rw [← unhide HE, unhide HB]; simp; omega)
        go_wp2_with fail
        refine region_cls (by kernel_rfl) (by kernel_rfl) ?_
        repeat (go_big_quiet_step ((go_at_call 65; exact cls_call (Nat.le_refl _) (unhide HW _))))
        refine wpQuiet_nil ?_
        rintro w7 ⟨⟨_, hq⟩, rfl⟩
        have c7 := hbel.trans ((bwb.trans (hq.mono bwb.size)).mono hsz)
        clear hq0 hq1 hq2 hq3 hq4 hq5 hne x0 x1 x2 x3 x4 x5 hwb HW
        go_wp2_with fail
        go_roundw
        case rel => exact ⟨k + 1, by go_num, by omega, HOk2, c7⟩
        case measure => first | (simp [intOf]; done) | (simp [intOf]; omega)
    · have HR := hide (show okSB L = true by have := unhide HOk; unfold okSB; rwa [show k = L.length by rw [← unhide HM]; omega] at this)
      go_wp2_with fail
      go_ret
      exact ⟨by rw [unhide HR]; rfl, hbel⟩
theorem join_none {L : List W6} (h : L = [] ∨ okSB L = false ∨ 10000 < (jl L).2.1) : winsJoin L = (zeroW, false) := by
  unfold winsJoin
  rw [if_neg]
  rintro ⟨h1, h2, h3⟩
  rcases h with h | h | h
  · exact h1 h
  · rw [h] at h2; cases h2
  · omega
theorem join_all {L : List W6} (h1 : L ≠ []) (h2 : okSB L = true) (h3 : (jl L).2.1 ≤ 10000) : winsJoin L = (jl L, true) := by unfold winsJoin; rw [if_pos ⟨h1, h2, h3⟩]
theorem any_any (X0 X1 X2 X3 X4 X5 Y0 Y1 Y2 Y3 Y4 Y5 : Int) (w : World) : Calls Try.prog 60 #[.agg #[.int .i64 X0, .int .i64 X1, .int .i64 X2, .int .i64 X3, .int .i64 X4, .int .i64 X5], .agg #[.int .i64 Y0, .int .i64 Y1, .int .i64 Y2, .int .i64 Y3, .int .i64 Y4, .int .i64 Y5]] w fun e w' => e = .returned (.bool true) ∧ Below w.heap.size w w' := by
  go_enter Try.func60, Try.ntmps60
  go_wp2
  go_ret
  exact ⟨rfl, ((Below.refl _ _).alloc (Nat.le_refl _) _).alloc (by simp) _⟩
set_option maxRecDepth 100000 in
set_option maxHeartbeats 8000000 in
theorem impl_winsJoin {w : World} {v : Value} {L : List W6} (h : Win.Is w v L) (hlen : L.length ≤ 4194304) : Calls Try.prog 33 #[v] w fun e w' => e = .returned (.tuple #[.agg (vals (winsJoin L).1).toArray, .bool (winsJoin L).2]) ∧ Below w.heap.size w w' := by
  obtain ⟨W, hW⟩ : ∃ W, w.alloc (.cells Z6 52) = W := ⟨_, rfl⟩
  have bW : Below w.heap.size w W := by rw [← hW]; exact (Below.refl _ _).alloc (Nat.le_refl _) _
  have zW : W.heap.size = w.heap.size + 1 := by rw [← hW]; simp
  have oR : W.ownsRow w.heap.size 52 6 (.slice (some ⟨w.heap.size, 0, none⟩) 1 1) 1 Z6.toList := by rw [← hW]; exact own_new (Nat.le_refl _) rfl
  have HOk := hide (impl_winsOk (h.below bW))
  have HFo := hide (fun (V : World) (hb : Below w.heap.size w V) => Win.folded_any (fun _ _ => true) tgW 60 52 #[] (fun _ _ => by kernel_rfl) (fun _ _ => by kernel_rfl) (hide (fun X0 X1 X2 X3 X4 X5 Y0 Y1 Y2 Y3 Y4 Y5 W' hb' => any_any _ _ _ _ _ _ _ _ _ _ _ _ W')) (hide (fun X0 X1 X2 X3 X4 X5 Y0 Y1 Y2 Y3 Y4 Y5 Z0 Z1 Z2 Z3 Z4 Z5 W' e hb' => by
    have hw := with_any X0 X1 X2 X3 X4 X5 Y0 Y1 Y2 Y3 Y4 Y5 W'
    unfold tgW at e
    simp only [Prod.mk.injEq] at e
    obtain ⟨rfl, rfl, rfl, rfl, rfl, rfl⟩ := e
    exact hw)) (h.below hb) hlen)
  obtain ⟨-, ax, cx, rfl, hxc, hxm, -, -⟩ := id h
  unfold maxLen at hxm
  obtain ⟨m, hm⟩ : ∃ m, m = L.length := ⟨_, rfl⟩
  have HM := hide hm
  rw [← hm] at hxc HOk HFo ⊢
  clear h
  by_cases h0 : m = 0
  · have HR := hide (join_none (L := L) (.inl (List.eq_nil_of_length_eq_zero (by rw [← unhide HM]; exact h0))))
    subst h0
    clear hm
    have oR' : W.ownsRow w.heap.size 52 6 (.slice (some ⟨w.heap.size, 0, none⟩) 1 1) 1 [.int .i64 0, .int .i64 0, .int .i64 0, .int .i64 0, .int .i64 0, .int .i64 0] := oR
    go_enter Try.func33, Try.ntmps33
    have sd1 : W.cell? ⟨w.heap.size, 0, none⟩ = some (.int .i64 0) := by rw [oR'.cellAt 0 (by omega)]; rfl
    have sf1 := oR'.frozenAt 0
    have ss1 := (oR'.stored 0 (.int .i64 0)).1
    obtain ⟨y1, hy1⟩ : ∃ w', W.setCell ⟨w.heap.size, 0, none⟩ (.int .i64 0) = w' := ⟨_, rfl⟩
    rw [hy1] at ss1
    have so1 : y1.ownsRow w.heap.size 52 6 (.slice (some ⟨w.heap.size, 0, none⟩) 1 1) 1 [.int .i64 0, .int .i64 0, .int .i64 0, .int .i64 0, .int .i64 0, .int .i64 0] := ss1
    clear ss1
    have sd2 : y1.cell? ⟨w.heap.size, 1, none⟩ = some (.int .i64 0) := by rw [so1.cellAt 1 (by omega)]; rfl
    have sf2 := so1.frozenAt 1
    have ss2 := (so1.stored 1 (.int .i64 0)).1
    obtain ⟨y2, hy2⟩ : ∃ w', y1.setCell ⟨w.heap.size, 1, none⟩ (.int .i64 0) = w' := ⟨_, rfl⟩
    rw [hy2] at ss2
    have so2 : y2.ownsRow w.heap.size 52 6 (.slice (some ⟨w.heap.size, 0, none⟩) 1 1) 1 [.int .i64 0, .int .i64 0, .int .i64 0, .int .i64 0, .int .i64 0, .int .i64 0] := ss2
    clear ss2
    have sd3 : y2.cell? ⟨w.heap.size, 2, none⟩ = some (.int .i64 0) := by rw [so2.cellAt 2 (by omega)]; rfl
    have sf3 := so2.frozenAt 2
    have ss3 := (so2.stored 2 (.int .i64 0)).1
    obtain ⟨y3, hy3⟩ : ∃ w', y2.setCell ⟨w.heap.size, 2, none⟩ (.int .i64 0) = w' := ⟨_, rfl⟩
    rw [hy3] at ss3
    have so3 : y3.ownsRow w.heap.size 52 6 (.slice (some ⟨w.heap.size, 0, none⟩) 1 1) 1 [.int .i64 0, .int .i64 0, .int .i64 0, .int .i64 0, .int .i64 0, .int .i64 0] := ss3
    clear ss3
    have sd4 : y3.cell? ⟨w.heap.size, 3, none⟩ = some (.int .i64 0) := by rw [so3.cellAt 3 (by omega)]; rfl
    have sf4 := so3.frozenAt 3
    have ss4 := (so3.stored 3 (.int .i64 0)).1
    obtain ⟨y4, hy4⟩ : ∃ w', y3.setCell ⟨w.heap.size, 3, none⟩ (.int .i64 0) = w' := ⟨_, rfl⟩
    rw [hy4] at ss4
    have so4 : y4.ownsRow w.heap.size 52 6 (.slice (some ⟨w.heap.size, 0, none⟩) 1 1) 1 [.int .i64 0, .int .i64 0, .int .i64 0, .int .i64 0, .int .i64 0, .int .i64 0] := ss4
    clear ss4
    have sd5 : y4.cell? ⟨w.heap.size, 4, none⟩ = some (.int .i64 0) := by rw [so4.cellAt 4 (by omega)]; rfl
    have sf5 := so4.frozenAt 4
    have ss5 := (so4.stored 4 (.int .i64 0)).1
    obtain ⟨y5, hy5⟩ : ∃ w', y4.setCell ⟨w.heap.size, 4, none⟩ (.int .i64 0) = w' := ⟨_, rfl⟩
    rw [hy5] at ss5
    have so5 : y5.ownsRow w.heap.size 52 6 (.slice (some ⟨w.heap.size, 0, none⟩) 1 1) 1 [.int .i64 0, .int .i64 0, .int .i64 0, .int .i64 0, .int .i64 0, .int .i64 0] := ss5
    clear ss5
    have sd6 : y5.cell? ⟨w.heap.size, 5, none⟩ = some (.int .i64 0) := by rw [so5.cellAt 5 (by omega)]; rfl
    have sf6 := so5.frozenAt 5
    have ss6 := (so5.stored 5 (.int .i64 0)).1
    obtain ⟨y6, hy6⟩ : ∃ w', y5.setCell ⟨w.heap.size, 5, none⟩ (.int .i64 0) = w' := ⟨_, rfl⟩
    rw [hy6] at ss6
    have so6 : y6.ownsRow w.heap.size 52 6 (.slice (some ⟨w.heap.size, 0, none⟩) 1 1) 1 [.int .i64 0, .int .i64 0, .int .i64 0, .int .i64 0, .int .i64 0, .int .i64 0] := ss6
    clear ss6
    have on7 := OnlyAt.refl (w.heap.size) W
    have on7 := on7.setCell 0 (.int .i64 0)
    rw [hy1] at on7
    have on7 := on7.setCell 1 (.int .i64 0)
    rw [hy2] at on7
    have on7 := on7.setCell 2 (.int .i64 0)
    rw [hy3] at on7
    have on7 := on7.setCell 3 (.int .i64 0)
    rw [hy4] at on7
    have on7 := on7.setCell 4 (.int .i64 0)
    rw [hy5] at on7
    have on7 := on7.setCell 5 (.int .i64 0)
    rw [hy6] at on7
    have z0 : y6.cell? ⟨w.heap.size, 0, none⟩ = some (.int .i64 0) := by rw [so6.cellAt 0 (by omega)]; rfl
    have z1 : y6.cell? ⟨w.heap.size, 1, none⟩ = some (.int .i64 0) := by rw [so6.cellAt 1 (by omega)]; rfl
    have z2 : y6.cell? ⟨w.heap.size, 2, none⟩ = some (.int .i64 0) := by rw [so6.cellAt 2 (by omega)]; rfl
    have z3 : y6.cell? ⟨w.heap.size, 3, none⟩ = some (.int .i64 0) := by rw [so6.cellAt 3 (by omega)]; rfl
    have z4 : y6.cell? ⟨w.heap.size, 4, none⟩ = some (.int .i64 0) := by rw [so6.cellAt 4 (by omega)]; rfl
    have z5 : y6.cell? ⟨w.heap.size, 5, none⟩ = some (.int .i64 0) := by rw [so6.cellAt 5 (by omega)]; rfl
    have RBel := hide (bW.trans (on7.below (Nat.le_refl _)))
    clear on7 so1 so2 so3 so4 so5 so6
    go_wp2_with fail
    refine bodyPost_ret (v := .tuple #[.agg #[.int .i64 0, .int .i64 0, .int .i64 0, .int .i64 0, .int .i64 0, .int .i64 0], .bool false]) (by simp [results, Try.results33, go_sem, z0, z1, z2, z3, z4, z5]) rfl ⟨by rw [unhide HR]; rfl, unhide RBel⟩
  have hne : L ≠ [] := fun e => h0 (by rw [hm, e]; rfl)
  have hm0 : ((m : Int) == 0) = false := by simp; omega
  have hm1 : ¬ m = 0 := h0
  clear hm
  cases hk : okSB L
  · have HR := hide (join_none (L := L) (.inr (.inl hk)))
    rw [hk] at HOk
    clear hk
    go_enter Try.func33, Try.ntmps33
    go_wp2_with fail
    refine (unhide HOk).mono ?_
    rintro e w1 ⟨rfl, b1⟩
    have o1 : w1.ownsRow w.heap.size 52 6 (.slice (some ⟨w.heap.size, 0, none⟩) 1 1) 1 [.int .i64 0, .int .i64 0, .int .i64 0, .int .i64 0, .int .i64 0, .int .i64 0] := own_below oR b1
    have c1 := bW.trans (b1.mono bW.size)
    clear oR hW
    have sd8 : w1.cell? ⟨w.heap.size, 0, none⟩ = some (.int .i64 0) := by rw [o1.cellAt 0 (by omega)]; rfl
    have sf8 := o1.frozenAt 0
    have ss8 := (o1.stored 0 (.int .i64 0)).1
    obtain ⟨y8, hy8⟩ : ∃ w', w1.setCell ⟨w.heap.size, 0, none⟩ (.int .i64 0) = w' := ⟨_, rfl⟩
    rw [hy8] at ss8
    have so8 : y8.ownsRow w.heap.size 52 6 (.slice (some ⟨w.heap.size, 0, none⟩) 1 1) 1 [.int .i64 0, .int .i64 0, .int .i64 0, .int .i64 0, .int .i64 0, .int .i64 0] := ss8
    clear ss8
    have sd9 : y8.cell? ⟨w.heap.size, 1, none⟩ = some (.int .i64 0) := by rw [so8.cellAt 1 (by omega)]; rfl
    have sf9 := so8.frozenAt 1
    have ss9 := (so8.stored 1 (.int .i64 0)).1
    obtain ⟨y9, hy9⟩ : ∃ w', y8.setCell ⟨w.heap.size, 1, none⟩ (.int .i64 0) = w' := ⟨_, rfl⟩
    rw [hy9] at ss9
    have so9 : y9.ownsRow w.heap.size 52 6 (.slice (some ⟨w.heap.size, 0, none⟩) 1 1) 1 [.int .i64 0, .int .i64 0, .int .i64 0, .int .i64 0, .int .i64 0, .int .i64 0] := ss9
    clear ss9
    have sd10 : y9.cell? ⟨w.heap.size, 2, none⟩ = some (.int .i64 0) := by rw [so9.cellAt 2 (by omega)]; rfl
    have sf10 := so9.frozenAt 2
    have ss10 := (so9.stored 2 (.int .i64 0)).1
    obtain ⟨y10, hy10⟩ : ∃ w', y9.setCell ⟨w.heap.size, 2, none⟩ (.int .i64 0) = w' := ⟨_, rfl⟩
    rw [hy10] at ss10
    have so10 : y10.ownsRow w.heap.size 52 6 (.slice (some ⟨w.heap.size, 0, none⟩) 1 1) 1 [.int .i64 0, .int .i64 0, .int .i64 0, .int .i64 0, .int .i64 0, .int .i64 0] := ss10
    clear ss10
    have sd11 : y10.cell? ⟨w.heap.size, 3, none⟩ = some (.int .i64 0) := by rw [so10.cellAt 3 (by omega)]; rfl
    have sf11 := so10.frozenAt 3
    have ss11 := (so10.stored 3 (.int .i64 0)).1
    obtain ⟨y11, hy11⟩ : ∃ w', y10.setCell ⟨w.heap.size, 3, none⟩ (.int .i64 0) = w' := ⟨_, rfl⟩
    rw [hy11] at ss11
    have so11 : y11.ownsRow w.heap.size 52 6 (.slice (some ⟨w.heap.size, 0, none⟩) 1 1) 1 [.int .i64 0, .int .i64 0, .int .i64 0, .int .i64 0, .int .i64 0, .int .i64 0] := ss11
    clear ss11
    have sd12 : y11.cell? ⟨w.heap.size, 4, none⟩ = some (.int .i64 0) := by rw [so11.cellAt 4 (by omega)]; rfl
    have sf12 := so11.frozenAt 4
    have ss12 := (so11.stored 4 (.int .i64 0)).1
    obtain ⟨y12, hy12⟩ : ∃ w', y11.setCell ⟨w.heap.size, 4, none⟩ (.int .i64 0) = w' := ⟨_, rfl⟩
    rw [hy12] at ss12
    have so12 : y12.ownsRow w.heap.size 52 6 (.slice (some ⟨w.heap.size, 0, none⟩) 1 1) 1 [.int .i64 0, .int .i64 0, .int .i64 0, .int .i64 0, .int .i64 0, .int .i64 0] := ss12
    clear ss12
    have sd13 : y12.cell? ⟨w.heap.size, 5, none⟩ = some (.int .i64 0) := by rw [so12.cellAt 5 (by omega)]; rfl
    have sf13 := so12.frozenAt 5
    have ss13 := (so12.stored 5 (.int .i64 0)).1
    obtain ⟨y13, hy13⟩ : ∃ w', y12.setCell ⟨w.heap.size, 5, none⟩ (.int .i64 0) = w' := ⟨_, rfl⟩
    rw [hy13] at ss13
    have so13 : y13.ownsRow w.heap.size 52 6 (.slice (some ⟨w.heap.size, 0, none⟩) 1 1) 1 [.int .i64 0, .int .i64 0, .int .i64 0, .int .i64 0, .int .i64 0, .int .i64 0] := ss13
    clear ss13
    have on14 := OnlyAt.refl (w.heap.size) w1
    have on14 := on14.setCell 0 (.int .i64 0)
    rw [hy8] at on14
    have on14 := on14.setCell 1 (.int .i64 0)
    rw [hy9] at on14
    have on14 := on14.setCell 2 (.int .i64 0)
    rw [hy10] at on14
    have on14 := on14.setCell 3 (.int .i64 0)
    rw [hy11] at on14
    have on14 := on14.setCell 4 (.int .i64 0)
    rw [hy12] at on14
    have on14 := on14.setCell 5 (.int .i64 0)
    rw [hy13] at on14
    have z0 : y13.cell? ⟨w.heap.size, 0, none⟩ = some (.int .i64 0) := by rw [so13.cellAt 0 (by omega)]; rfl
    have z1 : y13.cell? ⟨w.heap.size, 1, none⟩ = some (.int .i64 0) := by rw [so13.cellAt 1 (by omega)]; rfl
    have z2 : y13.cell? ⟨w.heap.size, 2, none⟩ = some (.int .i64 0) := by rw [so13.cellAt 2 (by omega)]; rfl
    have z3 : y13.cell? ⟨w.heap.size, 3, none⟩ = some (.int .i64 0) := by rw [so13.cellAt 3 (by omega)]; rfl
    have z4 : y13.cell? ⟨w.heap.size, 4, none⟩ = some (.int .i64 0) := by rw [so13.cellAt 4 (by omega)]; rfl
    have z5 : y13.cell? ⟨w.heap.size, 5, none⟩ = some (.int .i64 0) := by rw [so13.cellAt 5 (by omega)]; rfl
    have RBel := hide (c1.trans (on14.below (Nat.le_refl _)))
    clear on14 so8 so9 so10 so11 so12 so13
    go_wp2_with fail
    refine bodyPost_ret (v := .tuple #[.agg #[.int .i64 0, .int .i64 0, .int .i64 0, .int .i64 0, .int .i64 0, .int .i64 0], .bool false]) (by simp [results, Try.results33, go_sem, z0, z1, z2, z3, z4, z5]) rfl ⟨by rw [unhide HR]; rfl, unhide RBel⟩
  have hS := (okSB_iff L).1 hk
  have HFa := hide (fold_all hS hne)
  obtain ⟨-, hcnt, -, -⟩ := jl_says hS.1 hne
  have hl1 : 1 ≤ L.length := List.length_pos_iff.2 hne
  have hcnt' : 1 ≤ (jl L).2.1 := by omega
  have HR1 := hide (fun h3 => join_all hne hk h3)
  have HR0 := hide (fun h3 => join_none (L := L) (.inr (.inr h3)))
  rw [hk] at HOk
  clear hk hS hcnt hl1
  obtain ⟨⟨F, C, U, Lo, Hi, La⟩, hJ⟩ : ∃ x, x = jl L := ⟨_, rfl⟩
  rw [← hJ] at HFa hcnt' HR1 HR0
  simp only at hcnt'
  have HC := hide (fun V : World => count_any C V)
  rw [decide_eq_true hcnt'] at HC
  clear hJ
  go_enter Try.func33, Try.ntmps33
  go_wp2_with fail
  refine (unhide HOk).mono ?_
  rintro e w1 ⟨rfl, b1⟩
  have o1 : w1.ownsRow w.heap.size 52 6 (.slice (some ⟨w.heap.size, 0, none⟩) 1 1) 1 [.int .i64 0, .int .i64 0, .int .i64 0, .int .i64 0, .int .i64 0, .int .i64 0] := own_below oR b1
  have c1 := bW.trans (b1.mono bW.size)
  clear oR hW b1 HOk
  go_wp2_with fail
  refine (unhide HFo w1 c1).mono ?_
  rintro e w2 ⟨r, rfl, orr, b2⟩
  rw [unhide HFa] at orr
  have o2 := own_below o1 b2
  have c2 := c1.trans (b2.mono c1.size)
  obtain ⟨-, a2, q2, rfl, hq1, hq2, -, hr2⟩ := lies_of_own orr
  obtain ⟨g2, off2, rfl, hg2, hcells⟩ := hr2 (by simp)
  have fa := Win.flat_at [(F, C, U, Lo, Hi, La)] 0 (by simp)
  simp only [Nat.zero_mul, Nat.zero_add] at fa
  have v0 : w2.cell? ⟨g2, off2, none⟩ = some (.int .i64 F) := hcells 0 _ fa.1
  have v1 : w2.cell? ⟨g2, off2 + 1, none⟩ = some (.int .i64 C) := hcells 1 _ fa.2.1
  have v2 : w2.cell? ⟨g2, off2 + 2, none⟩ = some (.int .i64 U) := hcells 2 _ fa.2.2.1
  have v3 : w2.cell? ⟨g2, off2 + 3, none⟩ = some (.int .i64 Lo) := hcells 3 _ fa.2.2.2.1
  have v4 : w2.cell? ⟨g2, off2 + 4, none⟩ = some (.int .i64 Hi) := hcells 4 _ fa.2.2.2.2.1
  have v5 : w2.cell? ⟨g2, off2 + 5, none⟩ = some (.int .i64 La) := hcells 5 _ fa.2.2.2.2.2
  unfold maxLen at hq2
  simp only [List.length_cons, List.length_nil, Nat.zero_add] at hq1 ⊢
  have z2 := c2.size
  obtain ⟨w3, hw3⟩ : ∃ w', w2.alloc (.cells #[.int .i64 F, .int .i64 C, .int .i64 U, .int .i64 Lo, .int .i64 Hi, .int .i64 La] 52) = w' := ⟨_, rfl⟩
  have b3 : Below w2.heap.size w2 w3 := by rw [← hw3]; exact (Below.refl _ _).alloc (Nat.le_refl _) _
  have c3 := c2.trans (b3.mono z2)
  have o3 : w3.ownsRow w.heap.size 52 6 (.slice (some ⟨w.heap.size, 0, none⟩) 1 1) 1 [.int .i64 0, .int .i64 0, .int .i64 0, .int .i64 0, .int .i64 0, .int .i64 0] := own_below o2 b3
  have p3 : w3.ownsRow w.heap.size 52 6 (.slice (some ⟨w2.heap.size, 0, none⟩) 1 1) 1 [.int .i64 F, .int .i64 C, .int .i64 U, .int .i64 Lo, .int .i64 Hi, .int .i64 La] := by rw [← hw3]; exact own_new z2 rfl
  have k0 : w3.cell? ⟨w2.heap.size, 0, none⟩ = some (.int .i64 F) := by rw [p3.cellAt 0 (by omega)]; rfl
  have k1 : w3.cell? ⟨w2.heap.size, 1, none⟩ = some (.int .i64 C) := by rw [p3.cellAt 1 (by omega)]; rfl
  have k2 : w3.cell? ⟨w2.heap.size, 2, none⟩ = some (.int .i64 U) := by rw [p3.cellAt 2 (by omega)]; rfl
  have k3 : w3.cell? ⟨w2.heap.size, 3, none⟩ = some (.int .i64 Lo) := by rw [p3.cellAt 3 (by omega)]; rfl
  have k4 : w3.cell? ⟨w2.heap.size, 4, none⟩ = some (.int .i64 Hi) := by rw [p3.cellAt 4 (by omega)]; rfl
  have k5 : w3.cell? ⟨w2.heap.size, 5, none⟩ = some (.int .i64 La) := by rw [p3.cellAt 5 (by omega)]; rfl
  clear orr o1 o2 hcells fa hr2 p3 HFo b2 b3 c1 c2
  go_wp2_with fail
  refine (unhide HC w3).mono ?_
  rintro e w4 ⟨rfl, hw4⟩
  subst hw4
  clear HC v0 v1 v2 v3 v4 v5 hw3
  by_cases hbig : C ≤ 10000
  · have HR := hide (unhide HR1 hbig)
    have hbd : decide (C ≤ 10000) = true := decide_eq_true hbig
    clear HR0 HR1
    have sd15 : w4.cell? ⟨w.heap.size, 0, none⟩ = some (.int .i64 0) := by rw [o3.cellAt 0 (by omega)]; rfl
    have sf15 := o3.frozenAt 0
    have ss15 := (o3.stored 0 (.int .i64 F)).1
    obtain ⟨y15, hy15⟩ : ∃ w', w4.setCell ⟨w.heap.size, 0, none⟩ (.int .i64 F) = w' := ⟨_, rfl⟩
    rw [hy15] at ss15
    have so15 : y15.ownsRow w.heap.size 52 6 (.slice (some ⟨w.heap.size, 0, none⟩) 1 1) 1 [.int .i64 F, .int .i64 0, .int .i64 0, .int .i64 0, .int .i64 0, .int .i64 0] := ss15
    clear ss15
    have sd16 : y15.cell? ⟨w.heap.size, 1, none⟩ = some (.int .i64 0) := by rw [so15.cellAt 1 (by omega)]; rfl
    have sf16 := so15.frozenAt 1
    have ss16 := (so15.stored 1 (.int .i64 C)).1
    obtain ⟨y16, hy16⟩ : ∃ w', y15.setCell ⟨w.heap.size, 1, none⟩ (.int .i64 C) = w' := ⟨_, rfl⟩
    rw [hy16] at ss16
    have so16 : y16.ownsRow w.heap.size 52 6 (.slice (some ⟨w.heap.size, 0, none⟩) 1 1) 1 [.int .i64 F, .int .i64 C, .int .i64 0, .int .i64 0, .int .i64 0, .int .i64 0] := ss16
    clear ss16
    have sd17 : y16.cell? ⟨w.heap.size, 2, none⟩ = some (.int .i64 0) := by rw [so16.cellAt 2 (by omega)]; rfl
    have sf17 := so16.frozenAt 2
    have ss17 := (so16.stored 2 (.int .i64 U)).1
    obtain ⟨y17, hy17⟩ : ∃ w', y16.setCell ⟨w.heap.size, 2, none⟩ (.int .i64 U) = w' := ⟨_, rfl⟩
    rw [hy17] at ss17
    have so17 : y17.ownsRow w.heap.size 52 6 (.slice (some ⟨w.heap.size, 0, none⟩) 1 1) 1 [.int .i64 F, .int .i64 C, .int .i64 U, .int .i64 0, .int .i64 0, .int .i64 0] := ss17
    clear ss17
    have sd18 : y17.cell? ⟨w.heap.size, 3, none⟩ = some (.int .i64 0) := by rw [so17.cellAt 3 (by omega)]; rfl
    have sf18 := so17.frozenAt 3
    have ss18 := (so17.stored 3 (.int .i64 Lo)).1
    obtain ⟨y18, hy18⟩ : ∃ w', y17.setCell ⟨w.heap.size, 3, none⟩ (.int .i64 Lo) = w' := ⟨_, rfl⟩
    rw [hy18] at ss18
    have so18 : y18.ownsRow w.heap.size 52 6 (.slice (some ⟨w.heap.size, 0, none⟩) 1 1) 1 [.int .i64 F, .int .i64 C, .int .i64 U, .int .i64 Lo, .int .i64 0, .int .i64 0] := ss18
    clear ss18
    have sd19 : y18.cell? ⟨w.heap.size, 4, none⟩ = some (.int .i64 0) := by rw [so18.cellAt 4 (by omega)]; rfl
    have sf19 := so18.frozenAt 4
    have ss19 := (so18.stored 4 (.int .i64 Hi)).1
    obtain ⟨y19, hy19⟩ : ∃ w', y18.setCell ⟨w.heap.size, 4, none⟩ (.int .i64 Hi) = w' := ⟨_, rfl⟩
    rw [hy19] at ss19
    have so19 : y19.ownsRow w.heap.size 52 6 (.slice (some ⟨w.heap.size, 0, none⟩) 1 1) 1 [.int .i64 F, .int .i64 C, .int .i64 U, .int .i64 Lo, .int .i64 Hi, .int .i64 0] := ss19
    clear ss19
    have sd20 : y19.cell? ⟨w.heap.size, 5, none⟩ = some (.int .i64 0) := by rw [so19.cellAt 5 (by omega)]; rfl
    have sf20 := so19.frozenAt 5
    have ss20 := (so19.stored 5 (.int .i64 La)).1
    obtain ⟨y20, hy20⟩ : ∃ w', y19.setCell ⟨w.heap.size, 5, none⟩ (.int .i64 La) = w' := ⟨_, rfl⟩
    rw [hy20] at ss20
    have so20 : y20.ownsRow w.heap.size 52 6 (.slice (some ⟨w.heap.size, 0, none⟩) 1 1) 1 [.int .i64 F, .int .i64 C, .int .i64 U, .int .i64 Lo, .int .i64 Hi, .int .i64 La] := ss20
    clear ss20
    have on21 := OnlyAt.refl (w.heap.size) w4
    have on21 := on21.setCell 0 (.int .i64 F)
    rw [hy15] at on21
    have on21 := on21.setCell 1 (.int .i64 C)
    rw [hy16] at on21
    have on21 := on21.setCell 2 (.int .i64 U)
    rw [hy17] at on21
    have on21 := on21.setCell 3 (.int .i64 Lo)
    rw [hy18] at on21
    have on21 := on21.setCell 4 (.int .i64 Hi)
    rw [hy19] at on21
    have on21 := on21.setCell 5 (.int .i64 La)
    rw [hy20] at on21
    have z0 : y20.cell? ⟨w.heap.size, 0, none⟩ = some (.int .i64 F) := by rw [so20.cellAt 0 (by omega)]; rfl
    have z1 : y20.cell? ⟨w.heap.size, 1, none⟩ = some (.int .i64 C) := by rw [so20.cellAt 1 (by omega)]; rfl
    have z2 : y20.cell? ⟨w.heap.size, 2, none⟩ = some (.int .i64 U) := by rw [so20.cellAt 2 (by omega)]; rfl
    have z3 : y20.cell? ⟨w.heap.size, 3, none⟩ = some (.int .i64 Lo) := by rw [so20.cellAt 3 (by omega)]; rfl
    have z4 : y20.cell? ⟨w.heap.size, 4, none⟩ = some (.int .i64 Hi) := by rw [so20.cellAt 4 (by omega)]; rfl
    have z5 : y20.cell? ⟨w.heap.size, 5, none⟩ = some (.int .i64 La) := by rw [so20.cellAt 5 (by omega)]; rfl
    have RBel := hide (c3.trans (on21.below (Nat.le_refl _)))
    clear on21 so15 so16 so17 so18 so19 so20
    go_wp2_with fail
    refine bodyPost_ret (v := .tuple #[.agg #[.int .i64 F, .int .i64 C, .int .i64 U, .int .i64 Lo, .int .i64 Hi, .int .i64 La], .bool true]) (by simp [results, Try.results33, go_sem, z0, z1, z2, z3, z4, z5]) rfl ⟨by rw [unhide HR]; rfl, unhide RBel⟩
  · have HR := hide (unhide HR0 (by first | omega | (simp only; omega)))
    have hbd : decide (C ≤ 10000) = false := decide_eq_false hbig
    clear HR0 HR1
    have sd22 : w4.cell? ⟨w.heap.size, 0, none⟩ = some (.int .i64 0) := by rw [o3.cellAt 0 (by omega)]; rfl
    have sf22 := o3.frozenAt 0
    have ss22 := (o3.stored 0 (.int .i64 0)).1
    obtain ⟨y22, hy22⟩ : ∃ w', w4.setCell ⟨w.heap.size, 0, none⟩ (.int .i64 0) = w' := ⟨_, rfl⟩
    rw [hy22] at ss22
    have so22 : y22.ownsRow w.heap.size 52 6 (.slice (some ⟨w.heap.size, 0, none⟩) 1 1) 1 [.int .i64 0, .int .i64 0, .int .i64 0, .int .i64 0, .int .i64 0, .int .i64 0] := ss22
    clear ss22
    have sd23 : y22.cell? ⟨w.heap.size, 1, none⟩ = some (.int .i64 0) := by rw [so22.cellAt 1 (by omega)]; rfl
    have sf23 := so22.frozenAt 1
    have ss23 := (so22.stored 1 (.int .i64 0)).1
    obtain ⟨y23, hy23⟩ : ∃ w', y22.setCell ⟨w.heap.size, 1, none⟩ (.int .i64 0) = w' := ⟨_, rfl⟩
    rw [hy23] at ss23
    have so23 : y23.ownsRow w.heap.size 52 6 (.slice (some ⟨w.heap.size, 0, none⟩) 1 1) 1 [.int .i64 0, .int .i64 0, .int .i64 0, .int .i64 0, .int .i64 0, .int .i64 0] := ss23
    clear ss23
    have sd24 : y23.cell? ⟨w.heap.size, 2, none⟩ = some (.int .i64 0) := by rw [so23.cellAt 2 (by omega)]; rfl
    have sf24 := so23.frozenAt 2
    have ss24 := (so23.stored 2 (.int .i64 0)).1
    obtain ⟨y24, hy24⟩ : ∃ w', y23.setCell ⟨w.heap.size, 2, none⟩ (.int .i64 0) = w' := ⟨_, rfl⟩
    rw [hy24] at ss24
    have so24 : y24.ownsRow w.heap.size 52 6 (.slice (some ⟨w.heap.size, 0, none⟩) 1 1) 1 [.int .i64 0, .int .i64 0, .int .i64 0, .int .i64 0, .int .i64 0, .int .i64 0] := ss24
    clear ss24
    have sd25 : y24.cell? ⟨w.heap.size, 3, none⟩ = some (.int .i64 0) := by rw [so24.cellAt 3 (by omega)]; rfl
    have sf25 := so24.frozenAt 3
    have ss25 := (so24.stored 3 (.int .i64 0)).1
    obtain ⟨y25, hy25⟩ : ∃ w', y24.setCell ⟨w.heap.size, 3, none⟩ (.int .i64 0) = w' := ⟨_, rfl⟩
    rw [hy25] at ss25
    have so25 : y25.ownsRow w.heap.size 52 6 (.slice (some ⟨w.heap.size, 0, none⟩) 1 1) 1 [.int .i64 0, .int .i64 0, .int .i64 0, .int .i64 0, .int .i64 0, .int .i64 0] := ss25
    clear ss25
    have sd26 : y25.cell? ⟨w.heap.size, 4, none⟩ = some (.int .i64 0) := by rw [so25.cellAt 4 (by omega)]; rfl
    have sf26 := so25.frozenAt 4
    have ss26 := (so25.stored 4 (.int .i64 0)).1
    obtain ⟨y26, hy26⟩ : ∃ w', y25.setCell ⟨w.heap.size, 4, none⟩ (.int .i64 0) = w' := ⟨_, rfl⟩
    rw [hy26] at ss26
    have so26 : y26.ownsRow w.heap.size 52 6 (.slice (some ⟨w.heap.size, 0, none⟩) 1 1) 1 [.int .i64 0, .int .i64 0, .int .i64 0, .int .i64 0, .int .i64 0, .int .i64 0] := ss26
    clear ss26
    have sd27 : y26.cell? ⟨w.heap.size, 5, none⟩ = some (.int .i64 0) := by rw [so26.cellAt 5 (by omega)]; rfl
    have sf27 := so26.frozenAt 5
    have ss27 := (so26.stored 5 (.int .i64 0)).1
    obtain ⟨y27, hy27⟩ : ∃ w', y26.setCell ⟨w.heap.size, 5, none⟩ (.int .i64 0) = w' := ⟨_, rfl⟩
    rw [hy27] at ss27
    have so27 : y27.ownsRow w.heap.size 52 6 (.slice (some ⟨w.heap.size, 0, none⟩) 1 1) 1 [.int .i64 0, .int .i64 0, .int .i64 0, .int .i64 0, .int .i64 0, .int .i64 0] := ss27
    clear ss27
    have on28 := OnlyAt.refl (w.heap.size) w4
    have on28 := on28.setCell 0 (.int .i64 0)
    rw [hy22] at on28
    have on28 := on28.setCell 1 (.int .i64 0)
    rw [hy23] at on28
    have on28 := on28.setCell 2 (.int .i64 0)
    rw [hy24] at on28
    have on28 := on28.setCell 3 (.int .i64 0)
    rw [hy25] at on28
    have on28 := on28.setCell 4 (.int .i64 0)
    rw [hy26] at on28
    have on28 := on28.setCell 5 (.int .i64 0)
    rw [hy27] at on28
    have z0 : y27.cell? ⟨w.heap.size, 0, none⟩ = some (.int .i64 0) := by rw [so27.cellAt 0 (by omega)]; rfl
    have z1 : y27.cell? ⟨w.heap.size, 1, none⟩ = some (.int .i64 0) := by rw [so27.cellAt 1 (by omega)]; rfl
    have z2 : y27.cell? ⟨w.heap.size, 2, none⟩ = some (.int .i64 0) := by rw [so27.cellAt 2 (by omega)]; rfl
    have z3 : y27.cell? ⟨w.heap.size, 3, none⟩ = some (.int .i64 0) := by rw [so27.cellAt 3 (by omega)]; rfl
    have z4 : y27.cell? ⟨w.heap.size, 4, none⟩ = some (.int .i64 0) := by rw [so27.cellAt 4 (by omega)]; rfl
    have z5 : y27.cell? ⟨w.heap.size, 5, none⟩ = some (.int .i64 0) := by rw [so27.cellAt 5 (by omega)]; rfl
    have RBel := hide (c3.trans (on28.below (Nat.le_refl _)))
    clear on28 so22 so23 so24 so25 so26 so27
    go_wp2_with fail
    refine bodyPost_ret (v := .tuple #[.agg #[.int .i64 0, .int .i64 0, .int .i64 0, .int .i64 0, .int .i64 0, .int .i64 0], .bool false]) (by simp [results, Try.results33, go_sem, z0, z1, z2, z3, z4, z5]) rfl ⟨by rw [unhide HR]; rfl, unhide RBel⟩
end Go.Proofs.Ytogdllkbiibicaa.WinM
