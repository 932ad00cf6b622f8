/- My own texts of one claim, laid together by program: FnWinsPartsWalk. -/
import Derived.Test.YtogdllkbiibicaaG155000df8a
import Derived.Test.YtogdllkbiibicaaGd01ea96c9a
/- FnWinsParts returns true at every two texts of bytes. -/
namespace Go.Proofs.Ytogdllkbiibicaa
open Go.RowKit Draw Rw
set_option linter.unusedVariables false
def Joined (V : World) (a : Value) (f : Nat) (J : WinM.W6) (B : Bool) : Prop :=
  Calls Try.prog f #[a] V fun e w' => e = .returned (.tuple #[.agg #[.int .i64 J.1, .int .i64 J.2.1, .int .i64 J.2.2.1, .int .i64 J.2.2.2.1, .int .i64 J.2.2.2.2.1, .int .i64 J.2.2.2.2.2], .bool B]) ∧ Below V.heap.size V w'
theorem box_new {V V2 : World} {A B C D E F : Int} (h : V.alloc (.cells #[.int .i64 A, .int .i64 B, .int .i64 C, .int .i64 D, .int .i64 E, .int .i64 F] 52) = V2) : Below V.heap.size V V2 ∧ V.heap.size < V2.heap.size ∧ ∀ (X : World), Below V2.heap.size V2 X →
    X.cell? ⟨V.heap.size, 0, none⟩ = some (.int .i64 A) ∧ X.cell? ⟨V.heap.size, 1, none⟩ = some (.int .i64 B) ∧ X.cell? ⟨V.heap.size, 2, none⟩ = some (.int .i64 C) ∧ X.cell? ⟨V.heap.size, 3, none⟩ = some (.int .i64 D) ∧ X.cell? ⟨V.heap.size, 4, none⟩ = some (.int .i64 E) ∧ X.cell? ⟨V.heap.size, 5, none⟩ = some (.int .i64 F) := by
  subst h
  have z : V.heap.size < (V.alloc (.cells #[.int .i64 A, .int .i64 B, .int .i64 C, .int .i64 D, .int .i64 E, .int .i64 F] 52)).heap.size := by simp
  refine ⟨(Below.refl _ _).alloc (Nat.le_refl _) _, z, fun X hb => ?_⟩
  have tc : ∀ j, X.cell? ⟨V.heap.size, j, none⟩ = (#[Value.int .i64 A, .int .i64 B, .int .i64 C, .int .i64 D, .int .i64 E, .int .i64 F] : Array Value)[j]? := fun j => (hb.cell (p := ⟨V.heap.size, j, none⟩) z).trans (cell_of_row _ _ j _ _ _ (heap_alloc_new V _))
  exact ⟨tc 0, tc 1, tc 2, tc 3, tc 4, tc 5⟩
set_option maxRecDepth 100000 in
set_option maxHeartbeats 8000000 in
theorem fnWinsParts.walk (a0 : Option Addr) (len0 cap0 : Nat) (z0 : List Int) (a1 : Option Addr) (len1 cap1 : Nat) (z1 : List Int) (w : World) (w0 : IsRow .u8 w a0 len0 cap0 z0) (w1 : IsRow .u8 w a1 len1 cap1 z1) :
    Calls Try.prog 10 #[.slice a0 len0 cap0, .slice a1 len1 cap1] w fun e w' => e = .returned (.bool true) ∧ Below w.heap.size w w' := by
  have l0 := (row_bytes w0)
  have c0 : len0 ≤ 9223372036854775807 := by have := l0.1; have := l0.2.1; unfold maxLen at this; omega
  have l1 := (row_bytes w1)
  have c1 : len1 ≤ 9223372036854775807 := by have := l1.1; have := l1.2.1; unfold maxLen at this; omega
  have H0 := hide (draw_winsjoin w w w0 (Below.refl _ _))
  clear l0 w0 l1 w1
  by_cases hb0 : 1048576 < len0
  · go_enter Try.func10, Try.ntmps10
    go_wp2
    go_ret
    exact ⟨rfl, Below.refl _ _⟩
  by_cases hb1 : 1048576 < len1
  · go_enter Try.func10, Try.ntmps10
    go_wp2
    go_ret
    exact ⟨rfl, Below.refl _ _⟩
  have hd1 : decide (1048576 < len1) = false := by simp; omega
  go_enter Try.func10, Try.ntmps10
  go_wp2_with fail
  refine (unhide H0).mono ?_
  rintro e W ⟨L, v, rfl, hL, hI, b1⟩
  obtain ⟨n, hn⟩ : ∃ n, n = L.length := ⟨_, rfl⟩
  obtain ⟨va, vq, rfl⟩ : ∃ a q, v = .slice a n q := by obtain ⟨-, a, q, e, -⟩ := hI; exact ⟨a, q, by rw [hn]; exact e⟩
  have HN := hide hn
  have hn4 : n ≤ 10000 := by rw [hn]; exact hL
  have hvq : n ≤ vq ∧ vq ≤ 9223372036854775807 := by
    obtain ⟨-, a', c', h1, h2, h3, -⟩ := id hI
    simp only [Value.slice.injEq] at h1
    unfold maxLen at h3
    omega
  have HI := hide hI
  have HJ1 := hide (fun V (hb : Below W.heap.size W V) => WinM.impl_winsJoin (hI.below hb) (by omega))
  have HJ2 := hide (fun V (hb : Below W.heap.size W V) => WinM.spec_winsJoin (hI.below hb))
  have HParts := hide (fun k h h1 h2 => WinM.parts_join (L := L) (k := k) h h1 h2)
  obtain ⟨⟨⟨F, C, U, Lo, Hi, La⟩, OK⟩, hJ⟩ : ∃ x, x = WinM.winsJoin L := ⟨_, rfl⟩
  rw [← hJ] at HJ1 HJ2 HParts
  dsimp only [WinM.vals] at HJ1 HJ2
  clear H0 hn hL hI hJ
  go_wp2_with fail
  refine (unhide HJ1 W (Below.refl _ _)).mono ?_
  rintro e W2 ⟨rfl, b2⟩
  obtain ⟨W3, hW3⟩ : ∃ w', W2.alloc (.cells #[.int .i64 F, .int .i64 C, .int .i64 U, .int .i64 Lo, .int .i64 Hi, .int .i64 La] 52) = w' := ⟨_, rfl⟩
  obtain ⟨b3, z3, K3⟩ := box_new hW3
  have c3 := b2.trans (b3.mono b2.size)
  clear b2 b3 HJ1
  go_wp2_with fail
  refine (unhide HJ2 W3 c3).mono ?_
  rintro e W4 ⟨rfl, b4⟩
  clear hW3
  obtain ⟨W5, hW5⟩ : ∃ w', W4.alloc (.cells #[.int .i64 F, .int .i64 C, .int .i64 U, .int .i64 Lo, .int .i64 Hi, .int .i64 La] 52) = w' := ⟨_, rfl⟩
  obtain ⟨b5, z5, K5⟩ := box_new hW5
  have b35 := b4.trans (b5.mono b4.size)
  have c5 := c3.trans (b35.mono c3.size)
  have d5 := b1.trans (c5.mono b1.size)
  have HK3 := hide (fun (X : World) (hb : Below W5.heap.size W5 X) => K3 X (b35.trans (hb.mono b35.size)))
  obtain ⟨r0, r1, r2, r3, r4, r5⟩ := unhide HK3 W5 (Below.refl _ _)
  obtain ⟨s0, s1, s2, s3, s4, s5⟩ := K5 W5 (Below.refl _ _)
  have hz5 := d5.size
  clear b4 b5 b35 K3 K5 c3 HJ2
  cases OK
  · go_wp2_with fail
    go_ret
    exact ⟨rfl, d5⟩
  by_cases hn2 : n < 2
  · have hn2' : (n : Int) < 2 := by omega
    go_wp2_with fail
    go_ret
    exact ⟨rfl, d5⟩
  obtain ⟨M, q, hM, hq, hq1, hM1⟩ : ∃ M q : Nat, (n : Int) - 1 = (M : Int) ∧ (len1 : Int).tmod (M : Int) = (q : Int) ∧ q < M ∧ M + 1 = n := by
    refine ⟨n - 1, len1 % (n - 1), by omega, ?_, Nat.mod_lt _ (by omega), by omega⟩
    rw [Int.tmod_eq_emod_of_nonneg (by omega)]
    exact (Int.natCast_emod len1 (n - 1)).symm
  have hq2 : (len1 : Int) % (M : Int) = (q : Int) := by rw [← Int.tmod_eq_emod_of_nonneg (by omega)]; exact hq
  have hM0 : ((M : Int) == 0) = false := by simp; omega
  have hM2 : ¬ (M : Int) = 0 := by omega
  have hkk : (1 : Int) + (q : Int) = (q : Int) + 1 := by omega
  obtain ⟨R1, e1, i1⟩ := Win.head_is (k := q + 1) (unhide HI) (unhide HN) (by omega)
  have e1' : ∀ X : World, (Instr.slice 32 (.slice va n vq) none (some (.int .i64 ((q : Int) + 1))) none).run Try.prog X = .ok R1 X := fun X => by have := e1 X; rwa [show ((q + 1 : Nat) : Int) = (q : Int) + 1 from by omega] at this
  obtain ⟨R2, e2, i2⟩ := Win.rest_is (k := q + 1) (unhide HI) (unhide HN) (by omega)
  have e2' : ∀ X : World, (Instr.slice 32 (.slice va n vq) (some (.int .i64 ((q : Int) + 1))) none none).run Try.prog X = .ok R2 X := fun X => by have := e2 X; rwa [show ((q + 1 : Nat) : Int) = (q : Int) + 1 from by omega] at this
  obtain ⟨p1, p2, p3⟩ := unhide HParts (q + 1) rfl (by omega) (by rw [← unhide HN]; omega)
  have lt1 : (L.take (q + 1)).length ≤ 4194304 := by rw [List.length_take]; omega
  have lt2 : (L.drop (q + 1)).length ≤ 4194304 := by rw [List.length_drop, ← unhide HN]; omega
  have HA1 := hide (fun V (hb : Below W.heap.size W V) => WinM.impl_winsJoin (i1.below hb) lt1)
  have HA2 := hide (fun V (hb : Below W.heap.size W V) => WinM.impl_winsJoin (i2.below hb) lt2)
  rw [p1] at HA1
  rw [p2] at HA2
  have HP3 := hide p3
  obtain ⟨⟨F1, C1, U1, Lo1, Hi1, La1⟩, hX1⟩ : ∃ x, x = WinM.jl (L.take (q + 1)) := ⟨_, rfl⟩
  obtain ⟨⟨F2, C2, U2, Lo2, Hi2, La2⟩, hX2⟩ : ∃ x, x = WinM.jl (L.drop (q + 1)) := ⟨_, rfl⟩
  rw [← hX1] at HA1 HP3
  rw [← hX2] at HA2 HP3
  dsimp only [WinM.vals] at HA1 HA2 HP3
  have hn2' : decide ((n : Int) < 2) = false := by simp; omega
  clear e1 e2 i1 i2 p1 p2 p3 hX1 hX2 lt1 lt2 HParts
  go_wp2_with fail
  refine (unhide HA1 W5 c5).mono ?_
  rintro e W6 ⟨rfl, b6⟩
  clear r0 r1 r2 r3 r4 r5 s0 s1 s2 s3 s4 s5 hW5
  obtain ⟨W7, hW7⟩ : ∃ w', W6.alloc (.cells #[.int .i64 F1, .int .i64 C1, .int .i64 U1, .int .i64 Lo1, .int .i64 Hi1, .int .i64 La1] 52) = w' := ⟨_, rfl⟩
  obtain ⟨b7, z7, K7⟩ := box_new hW7
  have b57 := b6.trans (b7.mono b6.size)
  have c7 := c5.trans (b57.mono c5.size)
  clear b6 b7 HA1
  go_wp2_with fail
  refine (unhide HA2 W7 c7).mono ?_
  rintro e W8 ⟨rfl, b8⟩
  clear hW7
  obtain ⟨W9, hW9⟩ : ∃ w', W8.alloc (.cells #[.int .i64 F2, .int .i64 C2, .int .i64 U2, .int .i64 Lo2, .int .i64 Hi2, .int .i64 La2] 52) = w' := ⟨_, rfl⟩
  obtain ⟨b9, z9, K9⟩ := box_new hW9
  have b79 := b8.trans (b9.mono b8.size)
  have c9 := c7.trans (b79.mono c7.size)
  have b59 := b57.trans (b79.mono b57.size)
  obtain ⟨r0, r1, r2, r3, r4, r5⟩ := K7 W9 b79
  obtain ⟨s0, s1, s2, s3, s4, s5⟩ := K9 W9 (Below.refl _ _)
  obtain ⟨W10, hW10⟩ : ∃ w', W9.alloc (.cells #[.int .i64 F1, .int .i64 C1, .int .i64 U1, .int .i64 Lo1, .int .i64 Hi1, .int .i64 La1, .int .i64 F2, .int .i64 C2, .int .i64 U2, .int .i64 Lo2, .int .i64 Hi2, .int .i64 La2] 52) = w' := ⟨_, rfl⟩
  have b10 : Below W9.heap.size W9 W10 := by rw [← hW10]; exact (Below.refl _ _).alloc (Nat.le_refl _) _
  have ip : Win.Is W10 (.slice (some ⟨W9.heap.size, 0, none⟩) 2 2) [(F1, C1, U1, Lo1, Hi1, La1), (F2, C2, U2, Lo2, Hi2, La2)] := by
    rw [← hW10]
    exact lies_new rfl rfl (by unfold maxLen; omega)
  have HPj := hide (WinM.impl_winsJoin ip (by simp))
  rw [unhide HP3] at HPj
  dsimp only [WinM.vals] at HPj
  have b510 := b59.trans (b10.mono b59.size)
  clear b8 b9 K7 K9 HA2 ip HP3 b57 b79 b59 c7 c9 b10
  go_wp2_with fail
  refine (unhide HPj).mono ?_
  rintro e W11 ⟨rfl, b11⟩
  clear r0 r1 r2 r3 r4 r5 s0 s1 s2 s3 s4 s5 hW9 hW10
  obtain ⟨W12, hW12⟩ : ∃ w', W11.alloc (.cells #[.int .i64 F, .int .i64 C, .int .i64 U, .int .i64 Lo, .int .i64 Hi, .int .i64 La] 52) = w' := ⟨_, rfl⟩
  obtain ⟨b12, z12, K12⟩ := box_new hW12
  have b512 := b510.trans ((b11.trans (b12.mono b11.size)).mono b510.size)
  obtain ⟨r0, r1, r2, r3, r4, r5⟩ := unhide HK3 W12 b512
  obtain ⟨s0, s1, s2, s3, s4, s5⟩ := K12 W12 (Below.refl _ _)
  have d12 := d5.trans (b512.mono hz5)
  clear K12 HK3 b11 b12 b510 b512 HPj
  go_wp2_with fail
  go_ret
  exact ⟨rfl, d12⟩
end Go.Proofs.Ytogdllkbiibicaa
