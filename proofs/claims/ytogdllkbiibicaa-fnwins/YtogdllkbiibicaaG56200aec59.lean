/- My own texts of one claim, laid together by program: AlWin, FnWinsWalk. -/
import Derived.Test.YtogdllkbiibicaaGc044e6a058
import Derived.Laws.StructEq
import Derived.Test.YtogdllkbiibicaaGb5de20b78e
import Derived.Test.YtogdllkbiibicaaGabe28b7af2
import Derived.Test.YtogdllkbiibicaaG2a4f19b55e
import Derived.Test.YtogdllkbiibicaaG5c0b434f33
/- A while is itself, as the laws hold it against another. -/
namespace Go.Proofs.Ytogdllkbiibicaa.Win
open Go.RowKit Rw
set_option linter.unusedVariables false
attribute [local go_sem ↓] Go.wp_at_zero Go.wp_at_succ
theorem al_win (A B C D E F : Int) (w : World) : Calls Try.prog 32 #[.agg #[.int .i64 A, .int .i64 B, .int .i64 C, .int .i64 D, .int .i64 E, .int .i64 F], .agg #[.int .i64 A, .int .i64 B, .int .i64 C, .int .i64 D, .int .i64 E, .int .i64 F]] w fun e w' => e = .returned (.bool true) ∧ Below w.heap.size w w' := by
  go_enter Try.func32, Try.ntmps32
  go_wp2
  go_ret
  exact ⟨rfl, ((Below.refl _ _).alloc (Nat.le_refl _) _).alloc (by simp) _⟩
end Go.Proofs.Ytogdllkbiibicaa.Win

/- FnWins returns true at every text of bytes. -/
namespace Go.Proofs.Ytogdllkbiibicaa
open Go.RowKit Draw Rw
set_option linter.unusedVariables false
theorem Win.okW_sum {x : WinM.W6} (h : WinM.okW x) : 0 ≤ x.2.2.1 ∧ x.2.2.1 ≤ 21474836470000 ∧ 0 ≤ x.2.2.2.1 * x.2.1 ∧ x.2.2.2.1 * x.2.1 ≤ 21474836470000 ∧ 0 ≤ x.2.2.2.2.1 * x.2.1 ∧ x.2.2.2.2.1 * x.2.1 ≤ 21474836470000 := by
  obtain ⟨b, c, s, l, u, z⟩ := x
  obtain ⟨-, ⟨h1, h2⟩, ⟨h3, h4, h5, h6⟩, h7, h8⟩ := h
  simp only at h1 h2 h3 h4 h5 h6 h7 h8 ⊢
  have a1 : 0 ≤ l * c := Int.mul_nonneg h3 (by omega)
  have a2 : u * c ≤ 2147483647 * c := Int.mul_le_mul_of_nonneg_right h6 (by omega)
  have a3 : l * c ≤ u * c := Int.mul_le_mul_of_nonneg_right (by omega) (by omega)
  omega
set_option maxRecDepth 100000 in
set_option maxHeartbeats 16000000 in
theorem fnWins.walk (a0 : Option Addr) (len0 cap0 : Nat) (z0 : List Int) (w : World) (w0 : IsRow .u8 w a0 len0 cap0 z0) :
    Calls Try.prog 8 #[.slice a0 len0 cap0] w fun e w' => e = .returned (.bool true) ∧ Below w.heap.size w w' := by
  have l0 := (row_bytes w0)
  have c0 : len0 ≤ 9223372036854775807 := by have := l0.1; have := l0.2.1; unfold maxLen at this; omega
  have H0 := hide (draw_wins w w w0 (Below.refl _ _))
  clear l0 w0
  by_cases hb0 : 1048576 < len0
  · go_enter Try.func8, Try.ntmps8
    go_wp2
    go_ret
    exact ⟨rfl, Below.refl _ _⟩
  go_enter Try.func8, Try.ntmps8
  go_wp2_with fail
  refine (unhide H0).mono ?_
  rintro e W ⟨zs, g, cp, A, B, st, rfl, hl, hAB, i1, hg, b1⟩
  obtain ⟨n0, hn0⟩ : ∃ n, n = zs.length := ⟨_, rfl⟩
  have HN0 := hide hn0
  have hlen : zs.length ≤ 4194304 := by omega
  have HI := hide (fun V (hb : Below W.heap.size W V) => WinM.impl_wins A B st (i1.below hb) hlen)
  have HS := hide (fun V (hb : Below W.heap.size W V) => WinM.spec_wins A B st (i1.below hb) hlen)
  have HCut := hide (fun V (hb : Below W.heap.size W V) => Sam.impl_cut A B (i1.below hb) hlen)
  have HOk := hide (fun V (hb : Below W.heap.size W V) => Samp.spec_ok ((Sam.smp_of_is i1 ⟨g, 0, zs.length, cp, rfl, hg⟩).below hb))
  rw [← hn0] at HI HS HCut HOk ⊢
  have hcp : n0 ≤ cp ∧ cp ≤ 9223372036854775807 := by
    obtain ⟨-, a', c', h1, h2, h3, -⟩ := i1
    simp only [Value.slice.injEq] at h1
    unfold maxLen at h3
    omega
  have hn9 : n0 ≤ 9 := by omega
  clear hn0 hl i1 hg H0 hlen
  go_wp2_with fail
  refine (unhide HI W (Below.refl _ _)).mono ?_
  rintro e W2 ⟨x, rfl, ox, b2⟩
  have HSays := hide (fun h1 h2 h3 => WinM.wins_says (zs := zs) (f := A) (t := B) (st := st) h1 h2 h3)
  have HBad := hide (fun h => WinM.wins_bad (zs := zs) (f := A) (t := B) (st := st) h)
  have HOkW := hide (WinM.wins_okW zs A B st)
  have hm4 := WinM.wins_len zs A B st
  generalize WinM.wins zs A B st = L at *
  obtain ⟨m, hm⟩ : ∃ m, m = L.length := ⟨_, rfl⟩
  rw [← hm] at ox hm4
  have HM := hide hm
  have HX2 := hide (show Lies W2 x m 6 (Win.flat L) from lies_of_own ox)
  obtain ⟨ax, cx, rfl⟩ : ∃ a q, x = .slice a m q := by obtain ⟨-, a, q, e, -⟩ := unhide HX2; exact ⟨a, q, e⟩
  have d2 := b1.trans (b2.mono b1.size)
  clear ox b1 HI hm
  go_wp2_with fail
  refine (unhide HS W2 b2).mono ?_
  rintro e W3 ⟨y, rfl, oy, b3⟩
  rw [← unhide HM] at oy
  have HY := hide (show Lies W3 y m 6 (Win.flat L) from lies_of_own oy)
  have HX := hide ((unhide HX2).below b3)
  have d3 := d2.trans (b3.mono d2.size)
  have b13 := b2.trans (b3.mono b2.size)
  obtain ⟨-, ax', cx', ex, hxc, hxm, -, hxr⟩ := unhide HX
  obtain ⟨-, ay, cy, rfl, hyc, hym, -, hyr⟩ := unhide HY
  simp only [Value.slice.injEq, true_and] at ex
  obtain ⟨rfl, rfl⟩ := ex
  unfold maxLen at hxm hym
  have hz3 := d3.size
  clear oy b2 b3 d2 HX2 HS
  go_wp2_with fail
  go_loopw [9, 10, 11] (fun nv sv iv wr => ∃ (k : Nat) (N S : Int), iv = .int .i64 (k : Int) ∧ k ≤ m ∧ nv = .int .i64 N ∧ sv = .int .i64 S ∧ Hid (N = WinM.sumC (L.take k) ∧ S = WinM.sumS (L.take k)) ∧ (0 ≤ N ∧ N ≤ 10000 * (k : Int) ∧ 0 ≤ S ∧ S ≤ 21474836470000 * (k : Int)) ∧ Below W3.heap.size W3 wr) (fun _ _ iv _ => m - (intOf iv).toNat)
  case atStart => exact ⟨0, 0, 0, rfl, Nat.zero_le _, rfl, rfl, ⟨rfl, rfl⟩, by omega, Below.refl _ _⟩
  case round =>
    obtain ⟨k, N, S, rfl, hk, rfl, rfl, HNS, hNS, hbel⟩ := hrel
    have hsz := hbel.size
    have hk0 : (0 : Int) ≤ (k : Int) := Int.natCast_nonneg _
    by_cases hlt : k < m
    · obtain ⟨bx, offx, rfl, hbx, hxcells⟩ := hxr (by omega)
      obtain ⟨bY, offy, rfl, hby, hycells⟩ := hyr (by omega)
      have hkz : k < L.length := by rw [← unhide HM]; exact hlt
      have fa := Win.flat_at L k hkz
      have hok := (unhide HOkW).1 _ (Win.at_get L k hkz ▸ List.getElem_mem hkz : Win.at' L k ∈ L)
      have hsum := Win.okW_sum hok
      have hk1 : (k : Int) < (m : Int) := by omega
      have X := fun j u (h : (Win.flat L)[k * 6 + j]? = some u) => (hbel.cell (p := ⟨bx, _, none⟩) hbx).trans (hxcells _ _ h)
      have Y := fun j u (h : (Win.flat L)[k * 6 + j]? = some u) => (hbel.cell (p := ⟨bY, _, none⟩) hby).trans (hycells _ _ h)
      obtain ⟨⟨F, C, U, Lo, Hi, La⟩, hE⟩ : ∃ x, x = Win.at' L k := ⟨_, rfl⟩
      rw [← hE] at fa hok hsum
      have HE := hide hE
      obtain ⟨⟨o1, o2⟩, ⟨o3, o4⟩, ⟨o5, o6, o7, o8⟩, o9, o10⟩ := hok
      simp only at fa o1 o2 o3 o4 o5 o6 o7 o8 o9 o10 hsum
      have x0 : wr.cell? ⟨bx, offx + k * 6, none⟩ = some (.int .i64 F) := X 0 _ fa.1
      have x1 : wr.cell? ⟨bx, offx + k * 6 + 1, none⟩ = some (.int .i64 C) := X 1 _ fa.2.1
      have x2 : wr.cell? ⟨bx, offx + k * 6 + 2, none⟩ = some (.int .i64 U) := X 2 _ fa.2.2.1
      have x3 : wr.cell? ⟨bx, offx + k * 6 + 3, none⟩ = some (.int .i64 Lo) := X 3 _ fa.2.2.2.1
      have x4 : wr.cell? ⟨bx, offx + k * 6 + 4, none⟩ = some (.int .i64 Hi) := X 4 _ fa.2.2.2.2.1
      have x5 : wr.cell? ⟨bx, offx + k * 6 + 5, none⟩ = some (.int .i64 La) := X 5 _ fa.2.2.2.2.2
      have y0 : wr.cell? ⟨bY, offy + k * 6, none⟩ = some (.int .i64 F) := Y 0 _ fa.1
      have y1 : wr.cell? ⟨bY, offy + k * 6 + 1, none⟩ = some (.int .i64 C) := Y 1 _ fa.2.1
      have y2 : wr.cell? ⟨bY, offy + k * 6 + 2, none⟩ = some (.int .i64 U) := Y 2 _ fa.2.2.1
      have y3 : wr.cell? ⟨bY, offy + k * 6 + 3, none⟩ = some (.int .i64 Lo) := Y 3 _ fa.2.2.2.1
      have y4 : wr.cell? ⟨bY, offy + k * 6 + 4, none⟩ = some (.int .i64 Hi) := Y 4 _ fa.2.2.2.2.1
      have y5 : wr.cell? ⟨bY, offy + k * 6 + 5, none⟩ = some (.int .i64 La) := Y 5 _ fa.2.2.2.2.2
      clear fa hE hkz X Y
      obtain ⟨P, hP⟩ : ∃ P, Lo * C = P := ⟨_, rfl⟩
      obtain ⟨Q, hQ⟩ : ∃ Q, Hi * C = Q := ⟨_, rfl⟩
      rw [hP] at hsum o9
      rw [hQ] at hsum o10
      have HP := hide hP
      have HQ := hide hQ
      have u1 : IntKind.i64.wrap P = P := Grl.wrap_ok (by omega) (by omega)
      have u2 : IntKind.i64.wrap Q = Q := Grl.wrap_ok (by omega) (by omega)
      have v1 : wrap64 P = P := IntWalk.wrap64_in P ⟨by omega, by omega⟩
      have v2 : wrap64 Q = Q := IntWalk.wrap64_in Q ⟨by omega, by omega⟩
      have g1 : decide (C < 1) = false := by simp; omega
      have g2 : decide (La < Lo) = false := by simp; omega
      have g3 : decide (Hi < La) = false := by simp; omega
      have g4 : decide (U < P) = false := by simp; omega
      have g5 : decide (Q < U) = false := by simp; omega
      obtain ⟨wb, hwb⟩ : ∃ wb, wr.alloc (.cells #[.int .i64 F, .int .i64 C, .int .i64 U, .int .i64 Lo, .int .i64 Hi, .int .i64 La] 52) = wb := ⟨_, rfl⟩
      have bwb : Below wr.heap.size wr wb := by rw [← hwb]; exact (Below.refl _ _).alloc (Nat.le_refl _) _
      have z5 : wr.heap.size < wb.heap.size := by rw [← hwb]; simp
      have tc : ∀ j, wb.cell? ⟨wr.heap.size, j, none⟩ = (#[Value.int .i64 F, .int .i64 C, .int .i64 U, .int .i64 Lo, .int .i64 Hi, .int .i64 La] : Array Value)[j]? := fun j => by rw [← hwb]; exact cell_of_row _ _ j _ _ _ (heap_alloc_new wr _)
      have T0 : ∀ W : World, Below wb.heap.size wb W → W.cell? ⟨wr.heap.size, 0, none⟩ = some (.int .i64 F) := fun W hb => (hb.cell (p := ⟨wr.heap.size, 0, none⟩) z5).trans (tc 0)
      have T1 : ∀ W : World, Below wb.heap.size wb W → W.cell? ⟨wr.heap.size, 1, none⟩ = some (.int .i64 C) := fun W hb => (hb.cell (p := ⟨wr.heap.size, 1, none⟩) z5).trans (tc 1)
      have T2 : ∀ W : World, Below wb.heap.size wb W → W.cell? ⟨wr.heap.size, 2, none⟩ = some (.int .i64 U) := fun W hb => (hb.cell (p := ⟨wr.heap.size, 2, none⟩) z5).trans (tc 2)
      have T3 : ∀ W : World, Below wb.heap.size wb W → W.cell? ⟨wr.heap.size, 3, none⟩ = some (.int .i64 Lo) := fun W hb => (hb.cell (p := ⟨wr.heap.size, 3, none⟩) z5).trans (tc 3)
      have T4 : ∀ W : World, Below wb.heap.size wb W → W.cell? ⟨wr.heap.size, 4, none⟩ = some (.int .i64 Hi) := fun W hb => (hb.cell (p := ⟨wr.heap.size, 4, none⟩) z5).trans (tc 4)
      have T5 : ∀ W : World, Below wb.heap.size wb W → W.cell? ⟨wr.heap.size, 5, none⟩ = some (.int .i64 La) := fun W hb => (hb.cell (p := ⟨wr.heap.size, 5, none⟩) z5).trans (tc 5)
      have hbyr : bY < wr.heap.size := by omega
      have hbyb : bY < wb.heap.size := by omega
      have Y0 : ∀ W : World, Below wb.heap.size wb W → W.cell? ⟨bY, offy + k * 6, none⟩ = some (.int .i64 F) := fun W hb => (hb.cell (p := ⟨bY, _, none⟩) hbyb).trans ((bwb.cell (p := ⟨bY, _, none⟩) hbyr).trans y0)
      have Y1 : ∀ W : World, Below wb.heap.size wb W → W.cell? ⟨bY, offy + k * 6 + 1, none⟩ = some (.int .i64 C) := fun W hb => (hb.cell (p := ⟨bY, _, none⟩) hbyb).trans ((bwb.cell (p := ⟨bY, _, none⟩) hbyr).trans y1)
      have Y2 : ∀ W : World, Below wb.heap.size wb W → W.cell? ⟨bY, offy + k * 6 + 2, none⟩ = some (.int .i64 U) := fun W hb => (hb.cell (p := ⟨bY, _, none⟩) hbyb).trans ((bwb.cell (p := ⟨bY, _, none⟩) hbyr).trans y2)
      have Y3 : ∀ W : World, Below wb.heap.size wb W → W.cell? ⟨bY, offy + k * 6 + 3, none⟩ = some (.int .i64 Lo) := fun W hb => (hb.cell (p := ⟨bY, _, none⟩) hbyb).trans ((bwb.cell (p := ⟨bY, _, none⟩) hbyr).trans y3)
      have Y4 : ∀ W : World, Below wb.heap.size wb W → W.cell? ⟨bY, offy + k * 6 + 4, none⟩ = some (.int .i64 Hi) := fun W hb => (hb.cell (p := ⟨bY, _, none⟩) hbyb).trans ((bwb.cell (p := ⟨bY, _, none⟩) hbyr).trans y4)
      have Y5 : ∀ W : World, Below wb.heap.size wb W → W.cell? ⟨bY, offy + k * 6 + 5, none⟩ = some (.int .i64 La) := fun W hb => (hb.cell (p := ⟨bY, _, none⟩) hbyb).trans ((bwb.cell (p := ⟨bY, _, none⟩) hbyr).trans y5)
      have hm0 : (0 : Int) ≤ (m : Int) := Int.natCast_nonneg _
      have hnm : wb.heap.size = wb.heap.size := rfl
      have HNS2 := hide (show N + C = WinM.sumC (L.take (k + 1)) ∧ S + U = WinM.sumS (L.take (k + 1)) by
        rw [Win.at_snoc L k (by rw [← unhide HM]; exact hlt), WinM.sumC_app, WinM.sumS_app, ← (unhide HNS).1, ← (unhide HNS).2, ← unhide HE]
        simp [WinM.sumC, WinM.sumS])
      have hq0 : ∀ x : Cls wb.heap.size wb, x.val.cell? ⟨wr.heap.size, 0, none⟩ = some (.int .i64 F) := fun x => T0 _ x.isBelow
      have hq1 : ∀ x : Cls wb.heap.size wb, x.val.cell? ⟨wr.heap.size, 1, none⟩ = some (.int .i64 C) := fun x => T1 _ x.isBelow
      have hq2 : ∀ x : Cls wb.heap.size wb, x.val.cell? ⟨wr.heap.size, 2, none⟩ = some (.int .i64 U) := fun x => T2 _ x.isBelow
      have hq3 : ∀ x : Cls wb.heap.size wb, x.val.cell? ⟨wr.heap.size, 3, none⟩ = some (.int .i64 Lo) := fun x => T3 _ x.isBelow
      have hq4 : ∀ x : Cls wb.heap.size wb, x.val.cell? ⟨wr.heap.size, 4, none⟩ = some (.int .i64 Hi) := fun x => T4 _ x.isBelow
      have hq5 : ∀ x : Cls wb.heap.size wb, x.val.cell? ⟨wr.heap.size, 5, none⟩ = some (.int .i64 La) := fun x => T5 _ x.isBelow
      have hp0 : ∀ x : Cls wb.heap.size wb, x.val.cell? ⟨bY, offy + k * 6, none⟩ = some (.int .i64 F) := fun x => Y0 _ x.isBelow
      have hp1 : ∀ x : Cls wb.heap.size wb, x.val.cell? ⟨bY, offy + k * 6 + 1, none⟩ = some (.int .i64 C) := fun x => Y1 _ x.isBelow
      have hp2 : ∀ x : Cls wb.heap.size wb, x.val.cell? ⟨bY, offy + k * 6 + 2, none⟩ = some (.int .i64 U) := fun x => Y2 _ x.isBelow
      have hp3 : ∀ x : Cls wb.heap.size wb, x.val.cell? ⟨bY, offy + k * 6 + 3, none⟩ = some (.int .i64 Lo) := fun x => Y3 _ x.isBelow
      have hp4 : ∀ x : Cls wb.heap.size wb, x.val.cell? ⟨bY, offy + k * 6 + 4, none⟩ = some (.int .i64 Hi) := fun x => Y4 _ x.isBelow
      have hp5 : ∀ x : Cls wb.heap.size wb, x.val.cell? ⟨bY, offy + k * 6 + 5, none⟩ = some (.int .i64 La) := fun x => Y5 _ x.isBelow
      have hne := cls_nonempty wb.heap.size wb
      have HT1 := hide T1
      have HT2 := hide T2
      clear T0 T1 T2 T3 T4 T5 Y0 Y1 Y2 Y3 Y4 Y5 tc y0 y1 y2 y3 y4 y5 hnm
      by_cases hkp : 0 < k
      · have hkp' : (0 : Int) < (k : Int) := by omega
        have hkw : wrap64 ((k : Int) - 1) = (k : Int) - 1 := by unfold wrap64; omega
        have hk2 : (0 : Int) ≤ (k : Int) - 1 := by omega
        have hk3 : (k : Int) - 1 < (m : Int) := by omega
        have hk4 : ((k : Int) - 1).toNat = k - 1 := by omega
        obtain ⟨F', hF'⟩ : ∃ F', F' = (Win.at' L (k - 1)).1 := ⟨_, rfl⟩
        have hxb : bx < wr.heap.size := by omega
        have hxb2 : bx < wb.heap.size := by omega
        have f0 : wr.cell? ⟨bx, offx + (k - 1) * 6, none⟩ = some (.int .i64 F') := by rw [hF']; exact (hbel.cell (p := ⟨bx, _, none⟩) hbx).trans (hxcells _ _ (Win.flat_at L (k - 1) (by rw [← unhide HM]; omega)).1)
        have hq6 : ∀ x : Cls wb.heap.size wb, x.val.cell? ⟨bx, offx + (k - 1) * 6, none⟩ = some (.int .i64 F') := fun x => (x.isBelow.cell (p := ⟨bx, _, none⟩) hxb2).trans ((bwb.cell (p := ⟨bx, _, none⟩) hxb).trans f0)
        have hFF : F' < F := by
          have h := List.pairwise_iff_getElem.1 (unhide HOkW).2 (k - 1) k (by rw [← unhide HM]; omega) (by rw [← unhide HM]; omega) (by omega)
          rw [← Win.at_get L, ← Win.at_get L, ← hF', ← unhide HE] at h
          exact h
        have g6 : decide (F ≤ F') = false := by simp; omega
        clear hF' f0
        go_wp2_with fail
        refine region_cls (by kernel_rfl) (by kernel_rfl) ?_
        repeat (go_big_quiet_step ((go_at_call 32; exact cls_call (Nat.le_refl _) (Win.al_win _ _ _ _ _ _ _))))
        refine wpQuiet_nil ?_
        rintro w7 ⟨⟨_, hq⟩, rfl⟩
        have c7 := hbel.trans ((bwb.trans (hq.mono bwb.size)).mono hsz)
        have T1 := unhide HT1 w7 hq
        have T2 := unhide HT2 w7 hq
        clear hq0 hq1 hq2 hq3 hq4 hq5 hq6 hp0 hp1 hp2 hp3 hp4 hp5 hne x0 x1 x2 x3 x4 x5 hwb
        go_wp2_with fail
        go_roundw
        case rel => exact ⟨k + 1, N + C, S + U, by go_num, by omega, by go_num, by go_num, HNS2, by omega, c7⟩
        case measure => first | (simp [intOf]; done) | (simp [intOf]; omega)
      · have hkp' : decide ((0 : Int) < (k : Int)) = false := by simp; omega
        go_wp2_with fail
        refine region_cls (by kernel_rfl) (by kernel_rfl) ?_
        repeat (go_big_quiet_step ((go_at_call 32; exact cls_call (Nat.le_refl _) (Win.al_win _ _ _ _ _ _ _))))
        refine wpQuiet_nil ?_
        rintro w7 ⟨⟨_, hq⟩, rfl⟩
        have c7 := hbel.trans ((bwb.trans (hq.mono bwb.size)).mono hsz)
        have T1 := unhide HT1 w7 hq
        have T2 := unhide HT2 w7 hq
        clear hq0 hq1 hq2 hq3 hq4 hq5 hp0 hp1 hp2 hp3 hp4 hp5 hne x0 x1 x2 x3 x4 x5 hwb
        go_wp2_with fail
        go_roundw
        case rel => exact ⟨k + 1, N + C, S + U, by go_num, by omega, by go_num, by go_num, HNS2, by omega, c7⟩
        case measure => first | (simp [intOf]; done) | (simp [intOf]; omega)
    · have hkm : L.take k = L := List.take_of_length_le (by rw [← unhide HM]; omega)
      rw [hkm] at HNS
      have HFin := hide (show N = WinM.sumC L ∧ S = WinM.sumS L from unhide HNS)
      have HB0 := hide (fun h => show m = 0 by have := unhide HBad h; rw [unhide HM, this]; rfl)
      have eW : Below W.heap.size W wr := b13.trans (hbel.mono b13.size)
      have cW := d3.trans (hbel.mono hz3)
      have hm0 : (0 : Int) ≤ (m : Int) := Int.natCast_nonneg _
      have hN0 : 0 ≤ N ∧ N ≤ 100000000 ∧ 0 ≤ S ∧ S ≤ 214748364700000000 := by omega
      obtain rfl : k = m := by omega
      clear hxr hyr hkm HNS hNS hlt hk hk0 HX HY hxc hyc hxm hym
      go_wp2_with fail
      refine (unhide HOk wr eW).mono ?_
      rintro e w6 ⟨rfl, b6⟩
      have e6 := eW.trans (b6.mono eW.size)
      have c6 := cW.trans (b6.mono cW.size)
      clear b6 eW cW HOk hbel
      cases hok : SampMath.ok zs
      · rw [hok] at HB0
        have hmz : ((k : Int) == 0) = true := by have h := unhide HB0 (fun h => by cases h.1); simp; omega
        clear HB0 HSays HOkW HCut hm0
        go_wp2_with fail
        go_ret
        exact ⟨by first | rfl | rw [hmz], c6⟩
      by_cases hA : A < 0
      · have hmz : ((k : Int) == 0) = true := by have h := unhide HB0 (fun h => by have := WinM.times_is h.2.1; omega); simp; omega
        clear HB0 HSays HOkW HCut hm0
        go_wp2_with fail
        go_ret
        exact ⟨by first | rfl | rw [hmz], c6⟩
      have hA' : decide (A < 0) = false := by simp; omega
      by_cases hB : B < A
      · have hmz : ((k : Int) == 0) = true := by have h := unhide HB0 (fun h => by have := WinM.times_is h.2.1; omega); simp; omega
        clear HB0 HSays HOkW HCut hm0
        go_wp2_with fail
        go_ret
        exact ⟨by first | rfl | rw [hmz], c6⟩
      have hB' : decide (B < A) = false := by simp; omega
      by_cases hB2 : 10000 < B
      · have hmz : ((k : Int) == 0) = true := by have h := unhide HB0 (fun h => by have := WinM.times_is h.2.1; omega); simp; omega
        clear HB0 HSays HOkW HCut hm0
        go_wp2_with fail
        go_ret
        exact ⟨by first | rfl | rw [hmz], c6⟩
      have hB2' : decide (10000 < B) = false := by simp; omega
      by_cases hs1 : st < 1
      · have hmz : ((k : Int) == 0) = true := by have h := unhide HB0 (fun h => by have h2 := h.2.2; unfold SampMath.thinB at h2; simp at h2; omega); simp; omega
        clear HB0 HSays HOkW HCut hm0
        go_wp2_with fail
        go_ret
        exact ⟨by first | rfl | rw [hmz], c6⟩
      have hs1' : decide (st < 1) = false := by simp; omega
      by_cases hs2 : 9999 < st
      · have hmz : ((k : Int) == 0) = true := by have h := unhide HB0 (fun h => by have h2 := h.2.2; unfold SampMath.thinB at h2; simp at h2; omega); simp; omega
        clear HB0 HSays HOkW HCut hm0
        go_wp2_with fail
        go_ret
        exact ⟨by first | rfl | rw [hmz], c6⟩
      have hs2' : decide (9999 < st) = false := by simp; omega
      have hth : SampMath.thinB st = true := by unfold SampMath.thinB; rw [decide_eq_true (show 1 ≤ st by omega), decide_eq_true (show st ≤ 9999 by omega)]; rfl
      have hD : N = ((Samp.cut zs A B).length : Int) ∧ S = WinM.sumV (Samp.cut zs A B) := by
        rw [(unhide HFin).1, (unhide HFin).2, WinM.cut_good hok]
        by_cases hA9 : A ≤ 9999
        · have hs := unhide HSays hok (WinM.times_yes (by omega) hA9 (by omega) (by omega)) hth
          exact ⟨hs.1, hs.2.1⟩
        · have h1 := unhide HBad (fun h => by have := WinM.times_is h.2.1; omega)
          have h2 : Samp.cutL zs A B = [] := by
            unfold Samp.cutL
            rw [List.filter_eq_nil_iff]
            intro x _
            simp only [Samp.inT, Bool.and_eq_true, decide_eq_true_eq, not_and]
            intro h
            omega
          rw [h1, h2]
          exact ⟨rfl, rfl⟩
      have hDv : ∀ i, i < (Samp.cut zs A B).length → 0 ≤ (SampMath.at' (Samp.cut zs A B) i).2 ∧ (SampMath.at' (Samp.cut zs A B) i).2 ≤ 2147483647 := by rw [WinM.cut_good hok]; exact (WinM.cut_vals hok A B).1
      have hDl : (Samp.cut zs A B).length ≤ 9 := by
        rw [WinM.cut_good hok]
        exact Nat.le_trans (List.length_filter_le _ _) (by rw [← unhide HN0]; exact hn9)
      have HC := hide (unhide HCut w6 e6)
      generalize Samp.cut zs A B = D at HC hD hDv hDl
      obtain ⟨dn, hdn⟩ : ∃ n, n = D.length := ⟨_, rfl⟩
      have t1 : (N == (dn : Int)) = true := by rw [hdn, hD.1]; simp
      have HSD := hide hD.2
      have HDV := hide hDv
      have HDN := hide hdn
      rw [← hdn] at HC hDl
      clear HB0 HSays HOkW HCut hm0 hD hDv hdn hok hA hB hB2 hs1 hs2 hth HBad HFin
      go_wp2_with fail
      refine (unhide HC).mono ?_
      rintro e w7 ⟨v, rfl, oc, b7⟩
      have e7 := c6.trans (b7.mono c6.size)
      have z7 := e7.size
      obtain ⟨-, av, cv, rfl, hvc, hvm, -, hvr⟩ := lies_of_own oc
      unfold maxLen at hvm
      clear oc b7 HC
      go_wp2_with fail
      go_loopw [14, 15] (fun sv iv wr => ∃ (k : Nat) (R : Int), iv = .int .i64 (k : Int) ∧ k ≤ dn ∧ sv = .int .i64 R ∧ Hid (R = WinM.sumV (D.take k)) ∧ (0 ≤ R ∧ R ≤ 2147483647 * (k : Int)) ∧ Below w7.heap.size w7 wr) (fun _ iv _ => dn - (intOf iv).toNat)
      case atStart => exact ⟨0, 0, rfl, Nat.zero_le _, rfl, rfl, by omega, Below.refl _ _⟩
      case round =>
        obtain ⟨j, R, rfl, hj, rfl, HR, hR, hbel⟩ := hrel
        have hj0 : (0 : Int) ≤ (j : Int) := Int.natCast_nonneg _
        by_cases hlt : j < dn
        · obtain ⟨bv, offv, rfl, hbv, hvcells⟩ := hvr (by omega)
          have hjz : j < D.length := by rw [← unhide HDN]; exact hlt
          have hj1 : (j : Int) < (dn : Int) := by omega
          obtain ⟨V, hV⟩ : ∃ V, V = (SampMath.at' D j).2 := ⟨_, rfl⟩
          have hVb := unhide HDV j hjz
          have hc : wr.cell? ⟨bv, offv + j * 2 + 1, none⟩ = some (.int .i64 V) := by rw [hV]; exact (hbel.cell (p := ⟨bv, _, none⟩) hbv).trans (hvcells _ _ (Sam.flat_at D j hjz).2)
          have HR2 := hide (show R + V = WinM.sumV (D.take (j + 1)) by rw [WinM.sumV_take D j hjz, ← unhide HR, hV])
          rw [← hV] at hVb
          clear hV hvcells
          go_wp2_with fail
          go_roundw
          case rel => exact ⟨j + 1, R + V, by go_num, by omega, by go_num, HR2, by omega, hbel⟩
          case measure => first | (simp [intOf]; done) | (simp [intOf]; omega)
        · have t2 : (S == R) = true := by
            have h := unhide HR
            rw [List.take_of_length_le (by rw [← unhide HDN]; omega)] at h
            rw [unhide HSD, h]; simp
          obtain rfl : j = dn := by omega
          have e8 := e7.trans (hbel.mono z7)
          clear hvr hlt HR HSD
          go_wp2_with fail
          go_ret
          exact ⟨by first | rfl | rw [t2], e8⟩
end Go.Proofs.Ytogdllkbiibicaa
