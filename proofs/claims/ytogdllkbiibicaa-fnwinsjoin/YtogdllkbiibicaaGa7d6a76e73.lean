/- My own texts of one claim, laid together by program: FnWinsJoinWalk. -/
import Derived.Test.YtogdllkbiibicaaGb5de20b78e
import Derived.Test.YtogdllkbiibicaaG8f201cb358
import Derived.Test.YtogdllkbiibicaaGc2a63e0fc9
/- FnWinsJoin returns true at every text of bytes. -/
namespace Go.Proofs.Ytogdllkbiibicaa
open Go.RowKit Draw Rw
set_option linter.unusedVariables false
set_option maxRecDepth 100000 in
set_option maxHeartbeats 16000000 in
theorem fnWinsJoin.walk (a0 : Option Addr) (len0 cap0 : Nat) (z0 : List Int) (w : World) (w0 : IsRow .u8 w a0 len0 cap0 z0) :
    Calls Try.prog 9 #[.slice a0 len0 cap0] w fun e w' => e = .returned (.bool true) ∧ Below w.heap.size w w' := by
  have l0 := (row_bytes w0)
  have c0 : len0 ≤ 9223372036854775807 := by have := l0.1; have := l0.2.1; unfold maxLen at this; omega
  have H0 := hide (draw_wins w w w0 (Below.refl _ _))
  clear l0 w0
  by_cases hb0 : 1048576 < len0
  · go_enter Try.func9, Try.ntmps9
    go_wp2
    go_ret
    exact ⟨rfl, Below.refl _ _⟩
  go_enter Try.func9, Try.ntmps9
  go_wp2_with fail
  refine (unhide H0).mono ?_
  rintro e W ⟨zs, g, cp, A, B, st, rfl, hl, hAB, i1, hg, b1⟩
  obtain ⟨n0, hn0⟩ : ∃ n, n = zs.length := ⟨_, rfl⟩
  have HN0 := hide hn0
  have hlen : zs.length ≤ 4194304 := by omega
  have HI := hide (fun V (hb : Below W.heap.size W V) => WinM.impl_wins A B st (i1.below hb) hlen)
  have HS := hide (fun V (hb : Below W.heap.size W V) => WinM.spec_wins A B st (i1.below hb) hlen)
  have HCut := hide (fun V (hb : Below W.heap.size W V) => Sam.impl_cut A B (i1.below hb) hlen)
  rw [← hn0] at HI HS HCut ⊢
  have hn9 : n0 ≤ 9 := by omega
  clear hn0 hl i1 hg H0 hlen
  go_wp2_with fail
  refine (unhide HI W (Below.refl _ _)).mono ?_
  rintro e W2 ⟨x, rfl, ox, b2⟩
  have HJoin := hide (fun h => WinM.wins_join (zs := zs) (f := A) (t := B) (st := st) h)
  have hm4 := WinM.wins_len zs A B st
  generalize WinM.wins zs A B st = L at *
  obtain ⟨m, hm⟩ : ∃ m, m = L.length := ⟨_, rfl⟩
  have HXI := hide (Win.is_of_own ox)
  rw [← hm] at ox hm4
  have HM := hide hm
  obtain ⟨-, ax, cx, rfl, hxc, hxm, -, hxr⟩ := lies_of_own ox
  unfold maxLen at hxm
  have d2 := b1.trans (b2.mono b1.size)
  clear ox b1 HI
  by_cases hm0 : m = 0
  · have HS2 := hide (unhide HS W2 b2)
    rw [← hm, hm0] at HS2
    subst hm0
    clear hm
    go_wp2_with fail
    refine (unhide HS2).mono ?_
    rintro e W3 ⟨y, rfl, oy, b3⟩
    obtain ⟨ya, yq, rfl⟩ : ∃ a q, y = .slice a 0 q := by obtain ⟨-, a, q, e, -⟩ := lies_of_own oy; exact ⟨a, q, e⟩
    have d3 := d2.trans (b3.mono d2.size)
    clear oy b3
    go_wp2_with fail
    go_ret
    exact ⟨rfl, d3⟩
  have hne : L ≠ [] := fun e => hm0 (by rw [hm, e]; rfl)
  have hm1 : ((m : Int) == 0) = false := by simp; omega
  have hmp : (0 : Int) < (m : Int) := by omega
  obtain ⟨hok, hGne, hJ⟩ := unhide HJoin hne
  have hL0 : 0 < L.length := List.length_pos_iff.2 hne
  have HXI' := hide (show Win.Is W2 (.slice ax m cx) L from unhide HXI)
  have HJ1 := hide (fun V (hb : Below W2.heap.size W2 V) => WinM.impl_winsJoin ((unhide HXI').below hb) (by omega))
  have HJ2 := hide (fun V (hb : Below W2.heap.size W2 V) => WinM.spec_winsJoin ((unhide HXI').below hb))
  rw [hJ] at HJ1 HJ2
  rw [← WinM.cut_good hok] at hGne hJ HJ1 HJ2
  have hGv : ∀ i, i < (Samp.cut zs A B).length → 0 ≤ (SampMath.at' (Samp.cut zs A B) i).2 ∧ (SampMath.at' (Samp.cut zs A B) i).2 ≤ 2147483647 := by rw [WinM.cut_good hok]; exact (WinM.cut_vals hok A B).1
  have hGl : (Samp.cut zs A B).length ≤ 9 := by
    rw [WinM.cut_good hok]
    exact Nat.le_trans (List.length_filter_le _ _) (by rw [← unhide HN0]; exact hn9)
  generalize Samp.cut zs A B = G at HCut hGne hJ HJ1 HJ2 hGv hGl
  obtain ⟨F, hF⟩ : ∃ F, F = (Win.at' L 0).1 := ⟨_, rfl⟩
  rw [← hF] at HJ1 HJ2
  obtain ⟨cn, hcn⟩ : ∃ c, G.length = c + 1 := ⟨G.length - 1, by have := List.length_pos_iff.2 hGne; omega⟩
  obtain ⟨⟨F', C, U, Lo, Hi, La⟩, hE⟩ : ∃ x, x = WinM.winTo F G G.length := ⟨_, rfl⟩
  have hFF : F' = F := by have := WinM.winTo_from F G G.length; rw [← hE] at this; exact this
  have hCC : C = (cn : Int) + 1 := by have := WinM.winTo_count F G G.length; rw [← hE, hcn] at this; simpa using this
  have hLa : La = (SampMath.at' G cn).2 := by
    have e : WinM.winTo F G (cn + 1) = WinM.upd (WinM.winTo F G cn) (SampMath.at' G cn).2 := rfl
    rw [← hcn, ← hE] at e
    exact congrArg (fun x : WinM.W6 => x.2.2.2.2.2) e
  subst hFF
  rw [← hE] at HJ1 HJ2
  dsimp only [WinM.vals] at HJ1 HJ2
  have HE := hide hE
  have HGV := hide hGv
  have HCN := hide hcn
  have HLa := hide hLa
  rw [hcn] at HCut
  have hx0 : ∃ bx offx, ax = some ⟨bx, offx, none⟩ ∧ bx < W2.heap.size ∧ W2.cell? ⟨bx, offx, none⟩ = some (.int .i64 F') := by
    obtain ⟨bx, offx, e, h1, h2⟩ := hxr (by omega)
    have fa := (Win.flat_at L 0 hL0).1
    rw [Nat.zero_mul] at fa
    have := h2 0 _ fa
    rw [Nat.add_zero, ← hF] at this
    exact ⟨bx, offx, e, h1, this⟩
  obtain ⟨bx, offx, rfl, hbx, hxcell⟩ := hx0
  clear hm hne hok hGne hJ hGv hE hCC hLa hF hcn HJoin HXI HXI' hxr hL0 hm0
  have hC : C = (cn : Int) + 1 := by have := WinM.winTo_count F' G G.length; rw [← unhide HE, unhide HCN] at this; simpa using this
  have HC := hide hC
  clear hC
  go_wp2_with fail
  refine (unhide HJ1 W2 (Below.refl _ _)).mono ?_
  rintro e W3 ⟨rfl, b3⟩
  have z3 := b3.size
  obtain ⟨W4, hW4⟩ : ∃ w', W3.alloc (.cells #[.int .i64 F', .int .i64 C, .int .i64 U, .int .i64 Lo, .int .i64 Hi, .int .i64 La] 52) = w' := ⟨_, rfl⟩
  have b4 : Below W3.heap.size W3 W4 := by rw [← hW4]; exact (Below.refl _ _).alloc (Nat.le_refl _) _
  have z4 : W3.heap.size < W4.heap.size := by rw [← hW4]; simp
  have tc : ∀ j, W4.cell? ⟨W3.heap.size, j, none⟩ = (#[Value.int .i64 F', .int .i64 C, .int .i64 U, .int .i64 Lo, .int .i64 Hi, .int .i64 La] : Array Value)[j]? := fun j => by rw [← hW4]; exact cell_of_row _ _ j _ _ _ (heap_alloc_new W3 _)
  have c4 := b3.trans (b4.mono z3)
  clear b3 b4 HJ1
  go_wp2_with fail
  refine (unhide HJ2 W4 c4).mono ?_
  rintro e W5 ⟨rfl, b5⟩
  clear hW4
  have z5 := b5.size
  obtain ⟨W6, hW6⟩ : ∃ w', W5.alloc (.cells #[.int .i64 F', .int .i64 C, .int .i64 U, .int .i64 Lo, .int .i64 Hi, .int .i64 La] 52) = w' := ⟨_, rfl⟩
  have b6 : Below W5.heap.size W5 W6 := by rw [← hW6]; exact (Below.refl _ _).alloc (Nat.le_refl _) _
  have z6 : W5.heap.size < W6.heap.size := by rw [← hW6]; simp
  have tc6 : ∀ j, W6.cell? ⟨W5.heap.size, j, none⟩ = (#[Value.int .i64 F', .int .i64 C, .int .i64 U, .int .i64 Lo, .int .i64 Hi, .int .i64 La] : Array Value)[j]? := fun j => by rw [← hW6]; exact cell_of_row _ _ j _ _ _ (heap_alloc_new W5 _)
  have b46 := b5.trans (b6.mono z5)
  have TC : ∀ j (V : World), Below W6.heap.size W6 V → V.cell? ⟨W3.heap.size, j, none⟩ = (#[Value.int .i64 F', .int .i64 C, .int .i64 U, .int .i64 Lo, .int .i64 Hi, .int .i64 La] : Array Value)[j]? := fun j V hb => ((b46.trans (hb.mono b46.size)).cell (p := ⟨W3.heap.size, j, none⟩) z4).trans (tc j)
  have HTC := hide TC
  have c6 := c4.trans (b46.mono c4.size)
  have e6 := b2.trans (c6.mono b2.size)
  have d6 := d2.trans (c6.mono d2.size)
  have r0 := TC 0 W6 (Below.refl _ _)
  have r1 := TC 1 W6 (Below.refl _ _)
  have r2 := TC 2 W6 (Below.refl _ _)
  have r3 := TC 3 W6 (Below.refl _ _)
  have r4 := TC 4 W6 (Below.refl _ _)
  have r5 := TC 5 W6 (Below.refl _ _)
  have s0 := tc6 0
  have s1 := tc6 1
  have s2 := tc6 2
  have s3 := tc6 3
  have s4 := tc6 4
  have s5 := tc6 5
  simp only [List.getElem?_toArray, List.getElem?_cons_zero, List.getElem?_cons_succ] at r0 r1 r2 r3 r4 r5 s0 s1 s2 s3 s4 s5
  have hxc6 := (c6.cell (p := ⟨bx, offx, none⟩) hbx).trans hxcell
  have hbx6 : bx < W6.heap.size := Nat.lt_of_lt_of_le hbx c6.size
  clear b5 b6 tc tc6 TC HJ2 b46 c4 hxcell hbx
  go_wp2_with fail
  clear r0 r1 r2 r3 r4 r5 s0 s1 s2 s3 s4 s5 hW6
  refine (unhide HCut W6 e6).mono ?_
  rintro e W7 ⟨v, rfl, oc, b7⟩
  obtain ⟨-, av, cv, rfl, hvc, hvm, -, hvr⟩ := lies_of_own oc
  unfold maxLen at hvm
  obtain ⟨bv, offv, rfl, hbv, hvcells⟩ := hvr (by omega)
  have HV := hide (fun k (hk : k < G.length) (V : World) (hb : Below W7.heap.size W7 V) => show V.cell? ⟨bv, offv + k * 2 + 1, none⟩ = some (.int .i64 (SampMath.at' G k).2) from (hb.cell (p := ⟨bv, _, none⟩) hbv).trans (hvcells _ _ (Sam.flat_at G k hk).2))
  have d7 := d6.trans (b7.mono d6.size)
  have z7 := d7.size
  have z67 := b7.size
  obtain ⟨V0, hV0⟩ : ∃ V0, V0 = (SampMath.at' G 0).2 := ⟨_, rfl⟩
  have w0c := unhide HV 0 (by rw [unhide HCN]; omega) W7 (Below.refl _ _)
  rw [Nat.zero_mul, Nat.add_zero, ← hV0] at w0c
  have hcn0 : (0 : Int) < (cn : Int) + 1 := by omega
  have HStart := hide (show V0 = (WinM.winTo F' G 0).2.2.2.1 ∧ V0 = (WinM.winTo F' G 0).2.2.2.2.1 from ⟨hV0, hV0⟩)
  clear hV0 oc hvcells HCut hvr
  go_wp2_with fail
  go_loopw [13, 14, 15] (fun lv hv iv wr => ∃ (k : Nat) (P Q : Int), iv = .int .i64 (k : Int) ∧ k ≤ cn + 1 ∧ lv = .int .i64 P ∧ hv = .int .i64 Q ∧ Hid (P = (WinM.winTo F' G k).2.2.2.1 ∧ Q = (WinM.winTo F' G k).2.2.2.2.1) ∧ Below W7.heap.size W7 wr) (fun _ _ iv _ => cn + 1 - (intOf iv).toNat)
  case atStart => exact ⟨0, V0, V0, rfl, Nat.zero_le _, rfl, rfl, HStart, Below.refl _ _⟩
  case round =>
    clear HStart w0c
    obtain ⟨k, P, Q, rfl, hk, rfl, rfl, HPQ, hbel⟩ := hrel
    have hsz := hbel.size
    have hk0 : (0 : Int) ≤ (k : Int) := Int.natCast_nonneg _
    by_cases hlt : k < cn + 1
    · have hkz : k < G.length := by rw [unhide HCN]; exact hlt
      obtain ⟨V, hV⟩ : ∃ V, V = (SampMath.at' G k).2 := ⟨_, rfl⟩
      have hc := unhide HV k hkz wr hbel
      rw [← hV] at hc
      have hk1 : (k : Int) < (cn : Int) + 1 := by omega
      have HU := hide (show (if V < P then V else P) = (WinM.winTo F' G (k + 1)).2.2.2.1 ∧ (if Q < V then V else Q) = (WinM.winTo F' G (k + 1)).2.2.2.2.1 by
        have e : WinM.winTo F' G (k + 1) = WinM.upd (WinM.winTo F' G k) (SampMath.at' G k).2 := rfl
        rw [e, (unhide HPQ).1, (unhide HPQ).2, hV]
        exact ⟨rfl, rfl⟩)
      clear hV
      by_cases h1 : V < P
      · by_cases h2 : Q < V
        · rw [if_pos h1, if_pos h2] at HU
          go_wp2_with fail
          go_roundw
          case rel => exact ⟨k + 1, V, V, by go_num, by omega, rfl, rfl, HU, hbel⟩
          case measure => first | (simp [intOf]; done) | (simp [intOf]; omega)
        · rw [if_pos h1, if_neg h2] at HU
          have n2 : decide (Q < V) = false := decide_eq_false h2
          go_wp2_with fail
          go_roundw
          case rel => exact ⟨k + 1, V, Q, by go_num, by omega, rfl, rfl, HU, hbel⟩
          case measure => first | (simp [intOf]; done) | (simp [intOf]; omega)
      · have n1 : decide (V < P) = false := decide_eq_false h1
        by_cases h2 : Q < V
        · rw [if_neg h1, if_pos h2] at HU
          go_wp2_with fail
          go_roundw
          case rel => exact ⟨k + 1, P, V, by go_num, by omega, rfl, rfl, HU, hbel⟩
          case measure => first | (simp [intOf]; done) | (simp [intOf]; omega)
        · rw [if_neg h1, if_neg h2] at HU
          have n2 : decide (Q < V) = false := decide_eq_false h2
          go_wp2_with fail
          go_roundw
          case rel => exact ⟨k + 1, P, Q, by go_num, by omega, rfl, rfl, HU, hbel⟩
          case measure => first | (simp [intOf]; done) | (simp [intOf]; omega)
    · have hPQ := unhide HPQ
      rw [show k = G.length by rw [unhide HCN]; omega, ← unhide HE] at hPQ
      obtain ⟨hP, hQ⟩ := hPQ
      simp only at hP hQ
      subst hP
      subst hQ
      have e7 := b7.trans (hbel.mono z67)
      have c7 := d7.trans (hbel.mono z7)
      have hz6r : W6.heap.size ≤ wr.heap.size := e7.size
      have k0 : ∀ c : Cls wr.heap.size wr, c.val.cell? ⟨W3.heap.size, 0, none⟩ = some (.int .i64 F') := fun c => unhide HTC 0 _ (e7.trans (c.isBelow.mono hz6r))
      have k1 : ∀ c : Cls wr.heap.size wr, c.val.cell? ⟨W3.heap.size, 1, none⟩ = some (.int .i64 C) := fun c => unhide HTC 1 _ (e7.trans (c.isBelow.mono hz6r))
      have k3 : ∀ c : Cls wr.heap.size wr, c.val.cell? ⟨W3.heap.size, 3, none⟩ = some (.int .i64 P) := fun c => unhide HTC 3 _ (e7.trans (c.isBelow.mono hz6r))
      have k4 : ∀ c : Cls wr.heap.size wr, c.val.cell? ⟨W3.heap.size, 4, none⟩ = some (.int .i64 Q) := fun c => unhide HTC 4 _ (e7.trans (c.isBelow.mono hz6r))
      have k5 : ∀ c : Cls wr.heap.size wr, c.val.cell? ⟨W3.heap.size, 5, none⟩ = some (.int .i64 La) := fun c => unhide HTC 5 _ (e7.trans (c.isBelow.mono hz6r))
      have kl : ∀ c : Cls wr.heap.size wr, c.val.cell? ⟨bv, offv + cn * 2 + 1, none⟩ = some (.int .i64 La) := fun c => by rw [unhide HLa]; exact unhide HV cn (by rw [unhide HCN]; omega) _ (hbel.trans (c.isBelow.mono hsz))
      have kx : ∀ c : Cls wr.heap.size wr, c.val.cell? ⟨bx, offx, none⟩ = some (.int .i64 F') := fun c => ((e7.trans (c.isBelow.mono hz6r)).cell (p := ⟨bx, offx, none⟩) hbx6).trans hxc6
      have hC1 : (C == (cn : Int) + 1) = true := by rw [unhide HC]; simp
      have hcn1 : (cn : Int) < (cn : Int) + 1 := by omega
      have hcn2 : (0 : Int) ≤ (cn : Int) := Int.natCast_nonneg _
      have hne := cls_nonempty wr.heap.size wr
      clear hxc6
      go_wp2_with fail
      refine region_cls (by kernel_rfl) (by kernel_rfl) ?_
      repeat (go_big_quiet_step (fail))
      refine wpQuiet_nil ?_
      rintro w9 ⟨⟨_, hq⟩, rfl⟩
      have c9 := c7.trans (hq.mono c7.size)
      clear k0 k1 k3 k4 k5 kl kx hne
      go_wp2
      go_ret
      exact ⟨rfl, c9⟩
end Go.Proofs.Ytogdllkbiibicaa
