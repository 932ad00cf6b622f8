/- My own texts of one claim, laid together by program: FnMatchesTextWalk. -/
import Derived.Test.YtkmoekbicbjdmaaDoorG4d6b791a7c
import Derived.Test.YtkmoekbicbjdmaaDoorG92797ac9ff
/- FnMatchesText returns true at every two texts of bytes. What it asks: internal/bytealg.MaxLen holds some int, as in every world of a started program. -/
namespace Go.Proofs.YtkmoekbicbjdmaaDoor
open Go.RowKit Rw Draw
set_option linter.unusedVariables false
set_option linter.unusedSimpArgs false
attribute [local go_sem ↓] Go.wp_at_zero Go.wp_at_succ
set_option maxRecDepth 100000 in
set_option maxHeartbeats 8000000 in
theorem fnMatchesText.walk (a0 : Option Addr) (len0 cap0 : Nat) (z0 : List Int) (a1 : Option Addr) (len1 cap1 : Nat) (z1 : List Int) (w : World) (w0 : IsRow .u8 w a0 len0 cap0 z0) (w1 : IsRow .u8 w a1 len1 cap1 z1) (hm : Lab.Mx w) :
    Calls Tryd.prog 4 #[.slice a0 len0 cap0, .slice a1 len1 cap1] w fun e w' => e = .returned (.bool true) ∧ Below w.heap.size w w' := by
  have l0 := (row_bytes w0)
  have l1 := (row_bytes w1)
  have c00 : len0 ≤ 9223372036854775807 := by have := l0.1; have := l0.2.1; unfold maxLen at this; omega
  have c01 : len1 ≤ 9223372036854775807 := by have := l1.1; have := l1.2.1; unfold maxLen at this; omega
  have H0 := hide (draw_putMat w w w0 (Below.refl _ _))
  have H1 := hide (fun W (hB : Below w.heap.size w W) => draw_textMat w W w1 hB)
  have HM := hide hm
  clear l0 w0 l1 w1 hm
  by_cases hb0 : 1048576 < len0
  · go_enter Tryd.func4, Tryd.ntmps4
    go_wp2
    go_ret
    exact ⟨rfl, Below.refl _ _⟩
  by_cases hb1 : 1048576 < len1
  · go_enter Tryd.func4, Tryd.ntmps4
    go_wp2
    go_ret
    exact ⟨rfl, Below.refl _ _⟩
  go_enter Tryd.func4, Tryd.ntmps4
  go_wp2_with fail
  refine (unhide H0).mono ?_
  rintro e W0 ⟨zs, va, rfl, hl, hsm, f0, c0⟩
  clear H0
  have Ga := hide (fun x hx => good_smallM (hsm x hx))
  have La := hide (show zs.length ≤ maxLen by unfold maxLen; omega)
  clear hsm hl
  go_wp2_with fail
  refine (Mat.impl_put f0 (unhide Ga) (unhide La)).mono ?_
  rintro e W1 ⟨rfl, bb⟩
  have f1 := f0.below bb
  have c1 := c0.trans (bb.mono c0.size)
  clear f0 c0 bb
  have HPs := hide (Mat.put_any zs)
  have HG0 := hide (Mat.impl_get (Mat.put zs) W1 (by have := (unhide HPs).1; omega) ((unhide HM).below c1))
  unfold Mat.Got at HG0
  rw [(unhide HPs).2] at HG0
  dsimp only at HG0
  clear HPs
  have HP2 := hide (fun W (hI : Mat.Is W va zs) => Mat.spec_put hI (unhide Ga) (unhide La))
  obtain ⟨PZ, hPZ⟩ : ∃ p, p = Mat.put zs := ⟨_, rfl⟩
  rw [← hPZ] at HG0 HP2 ⊢
  have hqq : (PZ.toList == PZ.toList) = true := by simp
  clear hPZ
  go_wp2_with fail
  refine (unhide HG0).mono ?_
  rintro e W2 ⟨x, rfl, ox, bb⟩
  have f2 := f1.below bb
  have c2 := c1.trans (bb.mono c1.size)
  have x2 := Mat.is_of_own ox
  clear f1 c1 bb ox HG0
  go_wp2_with fail
  refine (unhide HP2 W2 f2).mono ?_
  rintro e W3 ⟨rfl, bb⟩
  have f3 := f2.below bb
  have x3 := x2.below bb
  have c3 := c2.trans (bb.mono c2.size)
  clear f2 x2 c2 bb HP2
  have HOi := hide (fun W (hI : Mat.Is W va zs) => Mat.impl_ok hI (unhide Ga) (unhide La))
  have HOs := hide (fun W (hI : Mat.Is W va zs) => Mat.spec_ok hI (unhide Ga) (unhide La))
  cases hok : Mat.ok zs
  · rw [hok] at HOi HOs x3
    try simp only [Bool.false_eq_true, if_false, if_true] at x3
    clear hok
    go_wp2_with fail
    refine (unhide HOi W3 f3).mono ?_
    rintro e W4 ⟨rfl, bb⟩
    have f4 := f3.below bb
    have x4 := x3.below bb
    have c4 := c3.trans (bb.mono c3.size)
    clear f3 x3 c3 bb
    go_wp2_with fail
    refine (unhide HOs W4 f4).mono ?_
    rintro e W5 ⟨rfl, bb⟩
    have f5 := f4.below bb
    have x5 := x4.below bb
    have c5 := c4.trans (bb.mono c4.size)
    clear f4 x4 c4 bb
    go_wp2_with fail
    refine (unhide HOs W5 f5).mono ?_
    rintro e W6 ⟨rfl, bb⟩
    have f6 := f5.below bb
    have x6 := x5.below bb
    have c6 := c5.trans (bb.mono c5.size)
    clear f5 x5 c5 bb
    have c7 := c6
    obtain ⟨W7, hW7⟩ : ∃ W, W = W6 := ⟨_, rfl⟩
    rw [← hW7] at c7 ⊢
    clear f6 x6 c6 hW7
    go_wp2_with fail
    refine (unhide H1 W7 c7).mono ?_
    rintro e W8 ⟨T, rfl, hT, bb⟩
    have c8 := c7.trans (bb.mono c7.size)
    clear bb c7
    have HI := hide (Mat.impl_get T W8 (by omega) ((unhide HM).below c8))
    have HS := hide (fun W (hb : Below W8.heap.size W8 W) => Mat.spec_get T W (by omega))
    unfold Mat.Got at HI HS
    have HT := hide (fun (L : List Mat.E) (h : Mat.getB T = (L, true)) => Mat.getB_true h)
    obtain ⟨G, hG⟩ : ∃ G, G = Mat.getB T := ⟨_, rfl⟩
    rw [← hG] at HI HS HT
    obtain ⟨L, b⟩ := G
    dsimp only at HI HS
    clear hG hT
    go_wp2_with fail
    refine (unhide HI).mono ?_
    rintro e W9 ⟨y, rfl, oy, b9⟩
    have y9 := Mat.is_of_own oy
    have c9 := c8.trans (b9.mono c8.size)
    clear oy c8 HI
    go_wp2_with fail
    refine (unhide HS W9 b9).mono ?_
    rintro e W10 ⟨u, rfl, ou, bb⟩
    have u10 := Mat.is_of_own ou
    have y10 := y9.below bb
    have c10 := c9.trans (bb.mono c9.size)
    clear ou c9 y9 bb b9 HS
    have hbb : (b == b) = true := by simp
    cases b
    · skip
      go_wp2_with fail
      refine (Mat.al_any y10 u10).mono ?_
      rintro e W11 ⟨R, rfl, hR, bb⟩
      obtain rfl : true = R := (hR.2 rfl).symm
      have c11 := c10.trans (bb.mono c10.size)
      have y11 := y10.below bb
      clear y10 u10 c10 bb hR
      go_wp2_with fail
      go_ret
      exact ⟨rfl, c11⟩
    · skip
      go_wp2_with fail
      refine (Mat.al_any y10 u10).mono ?_
      rintro e W11 ⟨R, rfl, hR, bb⟩
      obtain rfl : true = R := (hR.2 rfl).symm
      have c11 := c10.trans (bb.mono c10.size)
      have y11 := y10.below bb
      clear y10 u10 c10 bb hR
      have hput := (unhide HT L rfl).2
      have HPu := hide (Mat.impl_put y11 (Mat.ok_good (unhide HT L rfl).1) (by have := (Mat.ok_small (unhide HT L rfl).1).1; unfold maxLen; omega))
      rw [hput] at HPu
      have htt : (T.toList == T.toList) = true := by simp
      clear hput HT y11
      go_wp2_with fail
      refine (unhide HPu).mono ?_
      rintro e W12 ⟨rfl, bb⟩
      have c12 := c11.trans (bb.mono c11.size)
      clear bb HPu
      go_wp2_with fail
      go_ret
      exact ⟨rfl, c12⟩
  · rw [hok] at HOi HOs x3
    try simp only [Bool.false_eq_true, if_false, if_true] at x3
    clear hok
    go_wp2_with fail
    refine (unhide HOi W3 f3).mono ?_
    rintro e W4 ⟨rfl, bb⟩
    have f4 := f3.below bb
    have x4 := x3.below bb
    have c4 := c3.trans (bb.mono c3.size)
    clear f3 x3 c3 bb
    go_wp2_with fail
    refine (unhide HOs W4 f4).mono ?_
    rintro e W5 ⟨rfl, bb⟩
    have f5 := f4.below bb
    have x5 := x4.below bb
    have c5 := c4.trans (bb.mono c4.size)
    clear f4 x4 c4 bb
    go_wp2_with fail
    refine (unhide HOs W5 f5).mono ?_
    rintro e W6 ⟨rfl, bb⟩
    have f6 := f5.below bb
    have x6 := x5.below bb
    have c6 := c5.trans (bb.mono c5.size)
    clear f5 x5 c5 bb
    go_wp2_with fail
    refine (Mat.al_any x6 f6).mono ?_
    rintro e W7 ⟨R, rfl, hR, bb⟩
    obtain rfl : true = R := (hR.2 rfl).symm
    have c7 := c6.trans (bb.mono c6.size)
    clear f6 x6 c6 bb hR
    go_wp2_with fail
    refine (unhide H1 W7 c7).mono ?_
    rintro e W8 ⟨T, rfl, hT, bb⟩
    have c8 := c7.trans (bb.mono c7.size)
    clear bb c7
    have HI := hide (Mat.impl_get T W8 (by omega) ((unhide HM).below c8))
    have HS := hide (fun W (hb : Below W8.heap.size W8 W) => Mat.spec_get T W (by omega))
    unfold Mat.Got at HI HS
    have HT := hide (fun (L : List Mat.E) (h : Mat.getB T = (L, true)) => Mat.getB_true h)
    obtain ⟨G, hG⟩ : ∃ G, G = Mat.getB T := ⟨_, rfl⟩
    rw [← hG] at HI HS HT
    obtain ⟨L, b⟩ := G
    dsimp only at HI HS
    clear hG hT
    go_wp2_with fail
    refine (unhide HI).mono ?_
    rintro e W9 ⟨y, rfl, oy, b9⟩
    have y9 := Mat.is_of_own oy
    have c9 := c8.trans (b9.mono c8.size)
    clear oy c8 HI
    go_wp2_with fail
    refine (unhide HS W9 b9).mono ?_
    rintro e W10 ⟨u, rfl, ou, bb⟩
    have u10 := Mat.is_of_own ou
    have y10 := y9.below bb
    have c10 := c9.trans (bb.mono c9.size)
    clear ou c9 y9 bb b9 HS
    have hbb : (b == b) = true := by simp
    cases b
    · skip
      go_wp2_with fail
      refine (Mat.al_any y10 u10).mono ?_
      rintro e W11 ⟨R, rfl, hR, bb⟩
      obtain rfl : true = R := (hR.2 rfl).symm
      have c11 := c10.trans (bb.mono c10.size)
      have y11 := y10.below bb
      clear y10 u10 c10 bb hR
      go_wp2_with fail
      go_ret
      exact ⟨rfl, c11⟩
    · skip
      go_wp2_with fail
      refine (Mat.al_any y10 u10).mono ?_
      rintro e W11 ⟨R, rfl, hR, bb⟩
      obtain rfl : true = R := (hR.2 rfl).symm
      have c11 := c10.trans (bb.mono c10.size)
      have y11 := y10.below bb
      clear y10 u10 c10 bb hR
      have hput := (unhide HT L rfl).2
      have HPu := hide (Mat.impl_put y11 (Mat.ok_good (unhide HT L rfl).1) (by have := (Mat.ok_small (unhide HT L rfl).1).1; unfold maxLen; omega))
      rw [hput] at HPu
      have htt : (T.toList == T.toList) = true := by simp
      clear hput HT y11
      go_wp2_with fail
      refine (unhide HPu).mono ?_
      rintro e W12 ⟨rfl, bb⟩
      have c12 := c11.trans (bb.mono c11.size)
      clear bb HPu
      go_wp2_with fail
      go_ret
      exact ⟨rfl, c12⟩
end Go.Proofs.YtkmoekbicbjdmaaDoor
