/- FnSamplesJoin returns true at every text of bytes. -/
import Derived.Test.YtdkenakgppdabaaDrawJoin
namespace Go.Proofs.Ytdkenakgppdabaa
open Go.RowKit Samp SampMath Draw Rw
set_option linter.unusedVariables false
theorem join_is {w : World} {v u : Value} {zs ys J : List S} {r : Bool} (hj : join zs ys = (J, r)) (h : Smp w v zs) (h' : Smp w u ys) (hn : zs.length ≤ 6) (hm : ys.length ≤ 6) :
    Calls Try.prog 11 #[v, u] w fun e w' => ∃ x, e = .returned (.tuple #[x, .bool r]) ∧ Smp w' x J ∧ Below w.heap.size w w' :=
  (impl_join h h' (by omega) (by omega)).mono fun e w' hx => by
    obtain ⟨x, rfl, ox, bx⟩ := hx
    rw [hj] at ox ⊢
    exact ⟨x, rfl, smp_of_own ox, bx⟩
theorem sjoin_is {w : World} {v u : Value} {zs ys J : List S} {r : Bool} (hj : join zs ys = (J, r)) (h : Smp w v zs) (h' : Smp w u ys) (hn : zs.length ≤ 6) (hm : ys.length ≤ 6) :
    Calls Try.prog 12 #[v, u] w fun e w' => ∃ x, e = .returned (.tuple #[x, .bool r]) ∧ Smp w' x J ∧ Below w.heap.size w w' :=
  (spec_join h h' (by omega) (by omega)).mono fun e w' hx => by
    obtain ⟨x, rfl, ox, bx⟩ := hx
    rw [hj] at ox ⊢
    exact ⟨x, rfl, smp_of_own ox, bx⟩
theorem ok_is {w : World} {v : Value} {zs : List S} {r : Bool} (hr : ok zs = r) (h : Smp w v zs) : Calls Try.prog 14 #[v] w fun e w' => e = .returned (.bool r) ∧ Below w.heap.size w w' := by rw [← hr]; exact impl_ok h
theorem sok_is {w : World} {v : Value} {zs : List S} {r : Bool} (hr : ok zs = r) (h : Smp w v zs) : Calls Try.prog 15 #[v] w fun e w' => e = .returned (.bool r) ∧ Below w.heap.size w w' := by rw [← hr]; exact spec_ok h
set_option maxRecDepth 100000 in
set_option maxHeartbeats 16000000 in
theorem fnSamplesJoin.walk (a0 : Option Addr) (len0 cap0 : Nat) (z0 : List Int) (w : World) (w0 : IsRow .u8 w a0 len0 cap0 z0) :
    Calls Try.prog 3 #[.slice a0 len0 cap0] w fun e w' => e = .returned (.bool true) ∧ Below w.heap.size w w' := by
  have l0 := (row_bytes w0)
  have cl0 : len0 ≤ 9223372036854775807 := by have := l0.1; have := l0.2.1; unfold maxLen at this; omega
  have H0 := hide (draw_join w w w0 (Below.refl _ _))
  clear l0 w0
  by_cases hb0 : 1048576 < len0
  · go_enter Try.func3, Try.ntmps3
    go_wp2
    go_ret
    exact ⟨rfl, Below.refl _ _⟩
  go_enter Try.func3, Try.ntmps3
  go_wp2_with fail
  refine (unhide H0).mono ?_
  rintro e V0 ⟨zs, ys, v, u, rfl, hz, hy, sa, sb, c0⟩
  clear H0
  have rb : ∀ (r : Bool) (W : World), (binOp .neq 4 (.bool r) (.bool r)).run Try.prog W = .ok (.bool false) W := fun r W => by cases r <;> rfl
  have re : ∀ (r : Bool) (W : World), (binOp .eql 4 (.bool r) (.bool r)).run Try.prog W = .ok (.bool true) W := fun r W => by cases r <;> rfl
  cases ha : ok zs
  · have HA := hide ha
    have HJ := hide (join_bad (b := ys) (.inl ha))
    clear ha
    have HJ' := hide ((join_comm ys zs).trans (unhide HJ))
    go_wp2_with fail
    refine (join_is (unhide HJ) sa sb hz hy).mono ?_
    rintro e V1 ⟨x, rfl, sx, bb⟩
    have f1_a := sa.below bb
    clear sa
    have f1_b := sb.below bb
    clear sb
    have f1_x := sx
    clear sx
    have c1 := c0.trans (bb.mono c0.size)
    clear c0 bb
    go_wp2_with fail
    refine (sjoin_is (unhide HJ) f1_a f1_b hz hy).mono ?_
    rintro e V2 ⟨wv, rfl, sw, bb⟩
    have f2_a := f1_a.below bb
    clear f1_a
    have f2_b := f1_b.below bb
    clear f1_b
    have f2_x := f1_x.below bb
    clear f1_x
    have f2_w := sw
    clear sw
    have c2 := c1.trans (bb.mono c1.size)
    clear c1 bb
    go_wp2_with fail
    refine (join_is (unhide HJ') f2_b f2_a hy hz).mono ?_
    rintro e V3 ⟨y, rfl, sy, bb⟩
    have f3_a := f2_a.below bb
    clear f2_a
    have f3_b := f2_b.below bb
    clear f2_b
    have f3_x := f2_x.below bb
    clear f2_x
    have f3_w := f2_w.below bb
    clear f2_w
    have f3_y := sy
    clear sy
    have c3 := c2.trans (bb.mono c2.size)
    clear c2 bb
    go_wp2_with fail
    refine (al_same f3_x f3_w).mono ?_
    rintro e V4 ⟨rfl, bb⟩
    have f4_a := f3_a.below bb
    clear f3_a
    have f4_b := f3_b.below bb
    clear f3_b
    have f4_x := f3_x.below bb
    clear f3_x
    have f4_w := f3_w.below bb
    clear f3_w
    have f4_y := f3_y.below bb
    clear f3_y
    have c4 := c3.trans (bb.mono c3.size)
    clear c3 bb
    go_wp2_with fail
    refine (al_same f4_y f4_x).mono ?_
    rintro e V5 ⟨rfl, bb⟩
    have f5_a := f4_a.below bb
    clear f4_a
    have f5_b := f4_b.below bb
    clear f4_b
    have f5_x := f4_x.below bb
    clear f4_x
    have f5_w := f4_w.below bb
    clear f4_w
    have f5_y := f4_y.below bb
    clear f4_y
    have c5 := c4.trans (bb.mono c4.size)
    clear c4 bb
    go_wp2_with fail
    refine (ok_is (unhide HA) f5_a).mono ?_
    rintro e V6 ⟨rfl, bb⟩
    have f6_a := f5_a.below bb
    clear f5_a
    have f6_b := f5_b.below bb
    clear f5_b
    have f6_x := f5_x.below bb
    clear f5_x
    have f6_w := f5_w.below bb
    clear f5_w
    have f6_y := f5_y.below bb
    clear f5_y
    have c6 := c5.trans (bb.mono c5.size)
    clear c5 bb
    go_wp2_with fail
    refine (sok_is (unhide HA) f6_a).mono ?_
    rintro e V7 ⟨rfl, bb⟩
    have f7_a := f6_a.below bb
    clear f6_a
    have f7_b := f6_b.below bb
    clear f6_b
    have f7_x := f6_x.below bb
    clear f6_x
    have f7_w := f6_w.below bb
    clear f6_w
    have f7_y := f6_y.below bb
    clear f6_y
    have c7 := c6.trans (bb.mono c6.size)
    clear c6 bb
    go_wp2_with fail
    refine (sok_is (unhide HA) f7_a).mono ?_
    rintro e V8 ⟨rfl, bb⟩
    have f8_a := f7_a.below bb
    clear f7_a
    have f8_b := f7_b.below bb
    clear f7_b
    have f8_x := f7_x.below bb
    clear f7_x
    have f8_w := f7_w.below bb
    clear f7_w
    have f8_y := f7_y.below bb
    clear f7_y
    have c8 := c7.trans (bb.mono c7.size)
    clear c7 bb
    go_wp2_with fail
    refine (al_same f8_x f8_w).mono ?_
    rintro e V9 ⟨rfl, bb⟩
    have f9_a := f8_a.below bb
    clear f8_a
    have f9_b := f8_b.below bb
    clear f8_b
    have f9_x := f8_x.below bb
    clear f8_x
    clear f8_w
    have f9_y := f8_y.below bb
    clear f8_y
    have c9 := c8.trans (bb.mono c8.size)
    clear c8 bb
    go_wp2_with fail
    refine (al_same f9_y f9_x).mono ?_
    rintro e V10 ⟨rfl, bb⟩
    have f10_a := f9_a.below bb
    clear f9_a
    clear f9_b
    clear f9_x
    clear f9_y
    have c10 := c9.trans (bb.mono c9.size)
    clear c9 bb
    go_wp2_with fail
    refine (ok_is (unhide HA) f10_a).mono ?_
    rintro e V11 ⟨rfl, bb⟩
    have f11_a := f10_a.below bb
    clear f10_a
    have c11 := c10.trans (bb.mono c10.size)
    clear c10 bb
    go_wp2_with fail
    refine (sok_is (unhide HA) f11_a).mono ?_
    rintro e V12 ⟨rfl, bb⟩
    have f12_a := f11_a.below bb
    clear f11_a
    have c12 := c11.trans (bb.mono c11.size)
    clear c11 bb
    go_wp2_with fail
    go_ret
    exact ⟨rfl, c12⟩
  · cases hb : ok ys
    · have HA := hide ha
      have HB := hide hb
      have HJ := hide (join_bad (a := zs) (.inr hb))
      clear ha hb
      have HJ' := hide ((join_comm ys zs).trans (unhide HJ))
      go_wp2_with fail
      refine (join_is (unhide HJ) sa sb hz hy).mono ?_
      rintro e V1 ⟨x, rfl, sx, bb⟩
      have f1_a := sa.below bb
      clear sa
      have f1_b := sb.below bb
      clear sb
      have f1_x := sx
      clear sx
      have c1 := c0.trans (bb.mono c0.size)
      clear c0 bb
      go_wp2_with fail
      refine (sjoin_is (unhide HJ) f1_a f1_b hz hy).mono ?_
      rintro e V2 ⟨wv, rfl, sw, bb⟩
      have f2_a := f1_a.below bb
      clear f1_a
      have f2_b := f1_b.below bb
      clear f1_b
      have f2_x := f1_x.below bb
      clear f1_x
      have f2_w := sw
      clear sw
      have c2 := c1.trans (bb.mono c1.size)
      clear c1 bb
      go_wp2_with fail
      refine (join_is (unhide HJ') f2_b f2_a hy hz).mono ?_
      rintro e V3 ⟨y, rfl, sy, bb⟩
      have f3_a := f2_a.below bb
      clear f2_a
      have f3_b := f2_b.below bb
      clear f2_b
      have f3_x := f2_x.below bb
      clear f2_x
      have f3_w := f2_w.below bb
      clear f2_w
      have f3_y := sy
      clear sy
      have c3 := c2.trans (bb.mono c2.size)
      clear c2 bb
      go_wp2_with fail
      refine (al_same f3_x f3_w).mono ?_
      rintro e V4 ⟨rfl, bb⟩
      have f4_a := f3_a.below bb
      clear f3_a
      have f4_b := f3_b.below bb
      clear f3_b
      have f4_x := f3_x.below bb
      clear f3_x
      have f4_w := f3_w.below bb
      clear f3_w
      have f4_y := f3_y.below bb
      clear f3_y
      have c4 := c3.trans (bb.mono c3.size)
      clear c3 bb
      go_wp2_with fail
      refine (al_same f4_y f4_x).mono ?_
      rintro e V5 ⟨rfl, bb⟩
      have f5_a := f4_a.below bb
      clear f4_a
      have f5_b := f4_b.below bb
      clear f4_b
      have f5_x := f4_x.below bb
      clear f4_x
      have f5_w := f4_w.below bb
      clear f4_w
      have f5_y := f4_y.below bb
      clear f4_y
      have c5 := c4.trans (bb.mono c4.size)
      clear c4 bb
      go_wp2_with fail
      refine (ok_is (unhide HA) f5_a).mono ?_
      rintro e V6 ⟨rfl, bb⟩
      have f6_a := f5_a.below bb
      clear f5_a
      have f6_b := f5_b.below bb
      clear f5_b
      have f6_x := f5_x.below bb
      clear f5_x
      have f6_w := f5_w.below bb
      clear f5_w
      have f6_y := f5_y.below bb
      clear f5_y
      have c6 := c5.trans (bb.mono c5.size)
      clear c5 bb
      go_wp2_with fail
      refine (sok_is (unhide HA) f6_a).mono ?_
      rintro e V7 ⟨rfl, bb⟩
      have f7_a := f6_a.below bb
      clear f6_a
      have f7_b := f6_b.below bb
      clear f6_b
      have f7_x := f6_x.below bb
      clear f6_x
      have f7_w := f6_w.below bb
      clear f6_w
      have f7_y := f6_y.below bb
      clear f6_y
      have c7 := c6.trans (bb.mono c6.size)
      clear c6 bb
      go_wp2_with fail
      refine (sok_is (unhide HA) f7_a).mono ?_
      rintro e V8 ⟨rfl, bb⟩
      have f8_a := f7_a.below bb
      clear f7_a
      have f8_b := f7_b.below bb
      clear f7_b
      have f8_x := f7_x.below bb
      clear f7_x
      have f8_w := f7_w.below bb
      clear f7_w
      have f8_y := f7_y.below bb
      clear f7_y
      have c8 := c7.trans (bb.mono c7.size)
      clear c7 bb
      go_wp2_with fail
      refine (sok_is (unhide HB) f8_b).mono ?_
      rintro e V9 ⟨rfl, bb⟩
      have f9_a := f8_a.below bb
      clear f8_a
      have f9_b := f8_b.below bb
      clear f8_b
      have f9_x := f8_x.below bb
      clear f8_x
      have f9_w := f8_w.below bb
      clear f8_w
      have f9_y := f8_y.below bb
      clear f8_y
      have c9 := c8.trans (bb.mono c8.size)
      clear c8 bb
      go_wp2_with fail
      refine (al_same f9_x f9_w).mono ?_
      rintro e V10 ⟨rfl, bb⟩
      have f10_a := f9_a.below bb
      clear f9_a
      have f10_b := f9_b.below bb
      clear f9_b
      have f10_x := f9_x.below bb
      clear f9_x
      clear f9_w
      have f10_y := f9_y.below bb
      clear f9_y
      have c10 := c9.trans (bb.mono c9.size)
      clear c9 bb
      go_wp2_with fail
      refine (al_same f10_y f10_x).mono ?_
      rintro e V11 ⟨rfl, bb⟩
      have f11_a := f10_a.below bb
      clear f10_a
      clear f10_b
      clear f10_x
      clear f10_y
      have c11 := c10.trans (bb.mono c10.size)
      clear c10 bb
      go_wp2_with fail
      refine (ok_is (unhide HA) f11_a).mono ?_
      rintro e V12 ⟨rfl, bb⟩
      have f12_a := f11_a.below bb
      clear f11_a
      have c12 := c11.trans (bb.mono c11.size)
      clear c11 bb
      go_wp2_with fail
      refine (sok_is (unhide HA) f12_a).mono ?_
      rintro e V13 ⟨rfl, bb⟩
      have f13_a := f12_a.below bb
      clear f12_a
      have c13 := c12.trans (bb.mono c12.size)
      clear c12 bb
      go_wp2_with fail
      go_ret
      exact ⟨rfl, c13⟩
    · have HA := hide ha
      have HB := hide hb
      obtain ⟨J, r, hJr⟩ : ∃ J r, join zs ys = (J, r) := ⟨_, _, rfl⟩
      have HJ := hide hJr
      clear ha hb hJr
      have HJ' := hide ((join_comm ys zs).trans (unhide HJ))
      go_wp2_with fail
      refine (join_is (unhide HJ) sa sb hz hy).mono ?_
      rintro e V1 ⟨x, rfl, sx, bb⟩
      have f1_a := sa.below bb
      clear sa
      have f1_b := sb.below bb
      clear sb
      have f1_x := sx
      clear sx
      have c1 := c0.trans (bb.mono c0.size)
      clear c0 bb
      go_wp2_with fail
      refine (sjoin_is (unhide HJ) f1_a f1_b hz hy).mono ?_
      rintro e V2 ⟨wv, rfl, sw, bb⟩
      have f2_a := f1_a.below bb
      clear f1_a
      have f2_b := f1_b.below bb
      clear f1_b
      have f2_x := f1_x.below bb
      clear f1_x
      have f2_w := sw
      clear sw
      have c2 := c1.trans (bb.mono c1.size)
      clear c1 bb
      go_wp2_with fail
      refine (join_is (unhide HJ') f2_b f2_a hy hz).mono ?_
      rintro e V3 ⟨y, rfl, sy, bb⟩
      have f3_a := f2_a.below bb
      clear f2_a
      have f3_b := f2_b.below bb
      clear f2_b
      have f3_x := f2_x.below bb
      clear f2_x
      have f3_w := f2_w.below bb
      clear f2_w
      have f3_y := sy
      clear sy
      have c3 := c2.trans (bb.mono c2.size)
      clear c2 bb
      go_wp2_with fail
      refine (al_same f3_x f3_w).mono ?_
      rintro e V4 ⟨rfl, bb⟩
      have f4_a := f3_a.below bb
      clear f3_a
      have f4_b := f3_b.below bb
      clear f3_b
      have f4_x := f3_x.below bb
      clear f3_x
      have f4_w := f3_w.below bb
      clear f3_w
      have f4_y := f3_y.below bb
      clear f3_y
      have c4 := c3.trans (bb.mono c3.size)
      clear c3 bb
      go_wp2_with fail
      refine (al_same f4_y f4_x).mono ?_
      rintro e V5 ⟨rfl, bb⟩
      have f5_a := f4_a.below bb
      clear f4_a
      have f5_b := f4_b.below bb
      clear f4_b
      have f5_x := f4_x.below bb
      clear f4_x
      have f5_w := f4_w.below bb
      clear f4_w
      have f5_y := f4_y.below bb
      clear f4_y
      have c5 := c4.trans (bb.mono c4.size)
      clear c4 bb
      go_wp2_with fail
      refine (ok_is (unhide HA) f5_a).mono ?_
      rintro e V6 ⟨rfl, bb⟩
      have f6_a := f5_a.below bb
      clear f5_a
      have f6_b := f5_b.below bb
      clear f5_b
      have f6_x := f5_x.below bb
      clear f5_x
      have f6_w := f5_w.below bb
      clear f5_w
      have f6_y := f5_y.below bb
      clear f5_y
      have c6 := c5.trans (bb.mono c5.size)
      clear c5 bb
      go_wp2_with fail
      refine (sok_is (unhide HA) f6_a).mono ?_
      rintro e V7 ⟨rfl, bb⟩
      have f7_a := f6_a.below bb
      clear f6_a
      have f7_b := f6_b.below bb
      clear f6_b
      have f7_x := f6_x.below bb
      clear f6_x
      have f7_w := f6_w.below bb
      clear f6_w
      have f7_y := f6_y.below bb
      clear f6_y
      have c7 := c6.trans (bb.mono c6.size)
      clear c6 bb
      go_wp2_with fail
      refine (sok_is (unhide HA) f7_a).mono ?_
      rintro e V8 ⟨rfl, bb⟩
      have f8_a := f7_a.below bb
      clear f7_a
      have f8_b := f7_b.below bb
      clear f7_b
      have f8_x := f7_x.below bb
      clear f7_x
      have f8_w := f7_w.below bb
      clear f7_w
      have f8_y := f7_y.below bb
      clear f7_y
      have c8 := c7.trans (bb.mono c7.size)
      clear c7 bb
      go_wp2_with fail
      refine (sok_is (unhide HB) f8_b).mono ?_
      rintro e V9 ⟨rfl, bb⟩
      have f9_a := f8_a.below bb
      clear f8_a
      have f9_b := f8_b.below bb
      clear f8_b
      have f9_x := f8_x.below bb
      clear f8_x
      have f9_w := f8_w.below bb
      clear f8_w
      have f9_y := f8_y.below bb
      clear f8_y
      have c9 := c8.trans (bb.mono c8.size)
      clear c8 bb
      clear f9_w f9_y
      obtain ⟨aa, na, ca, rfl, va⟩ := view_of f9_a
      obtain ⟨ab, nb, cb, rfl, vb⟩ := view_of f9_b
      obtain ⟨ha1, ha2, ha3, -, ha5⟩ := va
      obtain ⟨hb1, hb2, hb3, -, hb5⟩ := vb
      unfold maxLen at ha3 hb3
      have na6 : na ≤ 6 := by omega
      have nb6 : nb ≤ 6 := by omega
      have HNA := hide ha1
      have HNB := hide hb1
      have FA := hide f9_a
      have FX := hide f9_x
      clear f9_a f9_b f9_x ha1 hb1 hz hy
      obtain ⟨WW, hWW⟩ : ∃ WW, WW = V9 := ⟨_, rfl⟩
      rw [← hWW] at FA FX ha5 hb5 c9 ⊢
      clear hWW
      go_wp2_with fail
      go_loopw [11, 12, 13] (fun cv sv iv wr => ∃ (i : Nat), i ≤ na ∧ iv = .int .i64 (i : Int) ∧ cv = .bool (clashN (zs.take i) ys) ∧ sv = .int .i64 (sameN (zs.take i) ys : Int) ∧ Below WW.heap.size WW wr) (fun _ _ iv _ => na - (intOf iv).toNat)
      case atStart => exact ⟨0, Nat.zero_le _, rfl, rfl, rfl, Below.refl _ _⟩
      case round =>
        obtain ⟨i, hi, rfl, rfl, rfl, hbel⟩ := hrel
        obtain ⟨wo, hwo⟩ : ∃ wo, wo = wr := ⟨_, rfl⟩
        subst hwo
        have hszo := hbel.size
        by_cases hlt : i < na
        · obtain ⟨b1, off1, rfl, hl1, hr1⟩ := ha5 (by omega)
          obtain ⟨T, hT⟩ : ∃ T, T = (at' zs i).1 := ⟨_, rfl⟩
          obtain ⟨V, hV⟩ : ∃ V, V = (at' zs i).2 := ⟨_, rfl⟩
          have HX := hide (show at' zs i = (T, V) by rw [hT, hV])
          have ra := hr1 i (by have := unhide HNA; omega)
          rw [← hT, ← hV] at ra
          have hk0 : (0 : Int) ≤ (i : Int) := Int.natCast_nonneg _
          have hk1 : (i : Int) < (na : Int) := by omega
          have HS1 := hide (at_snoc zs i (by have := unhide HNA; omega))
          have SL := sameN_le2 (zs.take i) ys
          have SL2 : sameN (zs.take i) ys ≤ 36 := by
            have h1 : (zs.take i).length ≤ 6 := by simp; omega
            have h2 : ys.length ≤ 6 := by have := unhide HNB; omega
            have := Nat.mul_le_mul h1 h2
            omega
          obtain ⟨C0, hC0⟩ : ∃ C0, C0 = clashN (zs.take i) ys := ⟨_, rfl⟩
          obtain ⟨N0, hN0⟩ : ∃ N0, N0 = sameN (zs.take i) ys := ⟨_, rfl⟩
          rw [← hC0, ← hN0]
          rw [← hN0] at SL2
          have HC0 := hide hC0
          have HN0 := hide hN0
          clear hT hV hC0 hN0 SL
          go_wp2_with fail
          go_loopw [11, 12, 14] (fun cv sv kv wr => ∃ (k : Nat) (C : Bool) (N : Nat), k ≤ nb ∧ N ≤ 36 + k ∧ kv = .int .i64 (k : Int) ∧ cv = .bool C ∧ sv = .int .i64 (N : Int) ∧ Hid (C = (C0 || clashR (T, V) (ys.take k)) ∧ N = N0 + sameR (T, V) (ys.take k)) ∧ Below WW.heap.size WW wr) (fun _ _ kv _ => nb - (intOf kv).toNat)
          case atStart => exact ⟨0, C0, N0, Nat.zero_le _, by omega, rfl, rfl, rfl, hide ⟨by simp [clashR], by simp [sameR]⟩, hbel⟩
          case round =>
            obtain ⟨k, C, N, hk, hN36, rfl, rfl, rfl, HCN, hbel2⟩ := hrel
            have hszr := hbel2.size
            by_cases hlt2 : k < nb
            · obtain ⟨b2, off2, rfl, hl2, hr2⟩ := hb5 (by omega)
              obtain ⟨T2, hT2⟩ : ∃ T2, T2 = (at' ys k).1 := ⟨_, rfl⟩
              obtain ⟨V2, hV2⟩ : ∃ V2, V2 = (at' ys k).2 := ⟨_, rfl⟩
              have HY := hide (show at' ys k = (T2, V2) by rw [hT2, hV2])
              have rb := hr2 k (by have := unhide HNB; omega)
              rw [← hT2, ← hV2] at rb
              have hq0 : ∀ x : Cls wr.heap.size wr, x.val.cell? ⟨b1, off1 + i * 2, none⟩ = some (.int .i64 T) := fun x => by rw [x.cell (by omega)]; exact (hbel2.cell (p := ⟨b1, _, none⟩) hl1).trans ra.1
              have hq1 : ∀ x : Cls wr.heap.size wr, x.val.cell? ⟨b1, off1 + i * 2 + 1, none⟩ = some (.int .i64 V) := fun x => by rw [x.cell (by omega)]; exact (hbel2.cell (p := ⟨b1, _, none⟩) hl1).trans ra.2
              have hp0 : ∀ x : Cls wr.heap.size wr, x.val.cell? ⟨b2, off2 + k * 2, none⟩ = some (.int .i64 T2) := fun x => by rw [x.cell (by omega)]; exact (hbel2.cell (p := ⟨b2, _, none⟩) hl2).trans rb.1
              have hp1 : ∀ x : Cls wr.heap.size wr, x.val.cell? ⟨b2, off2 + k * 2 + 1, none⟩ = some (.int .i64 V2) := fun x => by rw [x.cell (by omega)]; exact (hbel2.cell (p := ⟨b2, _, none⟩) hl2).trans rb.2
              have hm0 : (0 : Int) ≤ (k : Int) := Int.natCast_nonneg _
              have hm1 : (k : Int) < (nb : Int) := by omega
              have HS2 := hide (at_snoc ys k (by have := unhide HNB; omega))
              clear hT2 hV2 rb hr2
              have hne := cls_nonempty wr.heap.size wr
              have r_hq0 : wr.cell? ⟨b1, off1 + i * 2, none⟩ = some (.int .i64 T) := hq0 ⟨wr, Below.refl _ _⟩
              have r_hq1 : wr.cell? ⟨b1, off1 + i * 2 + 1, none⟩ = some (.int .i64 V) := hq1 ⟨wr, Below.refl _ _⟩
              have r_hp0 : wr.cell? ⟨b2, off2 + k * 2, none⟩ = some (.int .i64 T2) := hp0 ⟨wr, Below.refl _ _⟩
              have r_hp1 : wr.cell? ⟨b2, off2 + k * 2 + 1, none⟩ = some (.int .i64 V2) := hp1 ⟨wr, Below.refl _ _⟩
              have hl1' : b1 < wr.heap.size := by omega
              have hl2' : b2 < wr.heap.size := by omega
              cases C
              · by_cases ht : T = T2
                · subst ht
                  by_cases hv : V = V2
                  · subst hv
                    have HU := hide (show false = (C0 || clashR (T, V) (ys.take (k + 1))) ∧ N + 1 = N0 + sameR (T, V) (ys.take (k + 1)) by
                      have h := unhide HCN
                      rw [unhide HS2, unhide HY, clashR_snoc, sameR_snoc, ← Bool.or_assoc, ← h.1, ← Nat.add_assoc, ← h.2]
                      simp)
                    clear HCN
                    have gd : ∀ x : Cls wr.heap.size wr, x.val.heap.size ≥ 0 := fun x => Nat.zero_le _
                    clear gd
                    go_wp2_with fail
                    refine region_cls (by kernel_rfl) (by kernel_rfl) ?_
                    repeat (go_big_quiet_step (fail))
                    refine wpQuiet_nil ?_
                    rintro wq ⟨⟨_, hq⟩, rfl⟩
                    clear hq0 hq1 hp0 hp1 hne
                    have hbq := hbel2.trans (hq.mono hszr)
                    have hszq := hbq.size
                    have hq0 : ∀ x : Cls wq.heap.size wq, x.val.cell? ⟨b1, off1 + i * 2, none⟩ = some (.int .i64 T) := fun x => by rw [x.cell (by omega), hq.cell (p := ⟨b1, _, none⟩) (by omega)]; exact r_hq0
                    have hq1 : ∀ x : Cls wq.heap.size wq, x.val.cell? ⟨b1, off1 + i * 2 + 1, none⟩ = some (.int .i64 V) := fun x => by rw [x.cell (by omega), hq.cell (p := ⟨b1, _, none⟩) (by omega)]; exact r_hq1
                    have hp0 : ∀ x : Cls wq.heap.size wq, x.val.cell? ⟨b2, off2 + k * 2, none⟩ = some (.int .i64 T) := fun x => by rw [x.cell (by omega), hq.cell (p := ⟨b2, _, none⟩) (by omega)]; exact r_hp0
                    have hp1 : ∀ x : Cls wq.heap.size wq, x.val.cell? ⟨b2, off2 + k * 2 + 1, none⟩ = some (.int .i64 V) := fun x => by rw [x.cell (by omega), hq.cell (p := ⟨b2, _, none⟩) (by omega)]; exact r_hp1
                    have hne := cls_nonempty wq.heap.size wq
                    go_wp2_with fail
                    refine region_cls (by kernel_rfl) (by kernel_rfl) ?_
                    repeat (go_big_quiet_step (fail))
                    refine wpQuiet_nil ?_
                    rintro wz ⟨⟨_, hz⟩, rfl⟩
                    have hbz := hbq.trans (hz.mono hszq)
                    clear hq0 hq1 hp0 hp1 hne
                    go_wp2
                    go_roundw
                    case rel => exact ⟨k + 1, _, N + 1, by omega, by omega, by go_num, rfl, by first | rfl | go_num, unhide HU, hbz⟩
                    case measure => simp [intOf]; omega
                  · have hvf : (V == V2) = false := by simpa using hv
                    have hvn : (V != V2) = true := by simp [bne, hvf]
                    have HU := hide (show true = (C0 || clashR (T, V) (ys.take (k + 1))) ∧ N = N0 + sameR (T, V) (ys.take (k + 1)) by
                      have h := unhide HCN
                      rw [unhide HS2, unhide HY, clashR_snoc, sameR_snoc, ← Bool.or_assoc, ← h.1, ← Nat.add_assoc, ← h.2]
                      have hv' : ¬ V = V2 := hv
                      simp [hv'])
                    clear HCN
                    have gd : ∀ x : Cls wr.heap.size wr, x.val.heap.size ≥ 0 := fun x => Nat.zero_le _
                    clear gd
                    go_wp2_with fail
                    refine region_cls (by kernel_rfl) (by kernel_rfl) ?_
                    repeat (go_big_quiet_step (fail))
                    refine wpQuiet_nil ?_
                    rintro wq ⟨⟨_, hq⟩, rfl⟩
                    clear hq0 hq1 hp0 hp1 hne
                    have hbq := hbel2.trans (hq.mono hszr)
                    have hszq := hbq.size
                    have hq0 : ∀ x : Cls wq.heap.size wq, x.val.cell? ⟨b1, off1 + i * 2, none⟩ = some (.int .i64 T) := fun x => by rw [x.cell (by omega), hq.cell (p := ⟨b1, _, none⟩) (by omega)]; exact r_hq0
                    have hq1 : ∀ x : Cls wq.heap.size wq, x.val.cell? ⟨b1, off1 + i * 2 + 1, none⟩ = some (.int .i64 V) := fun x => by rw [x.cell (by omega), hq.cell (p := ⟨b1, _, none⟩) (by omega)]; exact r_hq1
                    have hp0 : ∀ x : Cls wq.heap.size wq, x.val.cell? ⟨b2, off2 + k * 2, none⟩ = some (.int .i64 T) := fun x => by rw [x.cell (by omega), hq.cell (p := ⟨b2, _, none⟩) (by omega)]; exact r_hp0
                    have hp1 : ∀ x : Cls wq.heap.size wq, x.val.cell? ⟨b2, off2 + k * 2 + 1, none⟩ = some (.int .i64 V2) := fun x => by rw [x.cell (by omega), hq.cell (p := ⟨b2, _, none⟩) (by omega)]; exact r_hp1
                    have hne := cls_nonempty wq.heap.size wq
                    go_wp2_with fail
                    refine region_cls (by kernel_rfl) (by kernel_rfl) ?_
                    repeat (go_big_quiet_step (fail))
                    refine wpQuiet_nil ?_
                    rintro wz ⟨⟨_, hz⟩, rfl⟩
                    have hbz := hbq.trans (hz.mono hszq)
                    clear hq0 hq1 hp0 hp1 hne
                    go_wp2
                    go_roundw
                    case rel => exact ⟨k + 1, _, N, by omega, by omega, by go_num, rfl, by first | rfl | go_num, unhide HU, hbz⟩
                    case measure => simp [intOf]; omega
                · have htf : (T == T2) = false := by simpa using ht
                  have HU := hide (show false = (C0 || clashR (T, V) (ys.take (k + 1))) ∧ N = N0 + sameR (T, V) (ys.take (k + 1)) by
                    have h := unhide HCN
                    rw [unhide HS2, unhide HY, clashR_snoc, sameR_snoc, ← Bool.or_assoc, ← h.1, ← Nat.add_assoc, ← h.2]
                    have ht' : ¬ T = T2 := ht
                    simp [ht'])
                  clear HCN
                  have gd : ∀ x : Cls wr.heap.size wr, x.val.heap.size ≥ 0 := fun x => Nat.zero_le _
                  clear gd
                  go_wp2_with fail
                  refine region_cls (by kernel_rfl) (by kernel_rfl) ?_
                  repeat (go_big_quiet_step (fail))
                  refine wpQuiet_nil ?_
                  rintro wq ⟨⟨_, hq⟩, rfl⟩
                  clear hq0 hq1 hp0 hp1 hne
                  have hbq := hbel2.trans (hq.mono hszr)
                  have hszq := hbq.size
                  have hq0 : ∀ x : Cls wq.heap.size wq, x.val.cell? ⟨b1, off1 + i * 2, none⟩ = some (.int .i64 T) := fun x => by rw [x.cell (by omega), hq.cell (p := ⟨b1, _, none⟩) (by omega)]; exact r_hq0
                  have hq1 : ∀ x : Cls wq.heap.size wq, x.val.cell? ⟨b1, off1 + i * 2 + 1, none⟩ = some (.int .i64 V) := fun x => by rw [x.cell (by omega), hq.cell (p := ⟨b1, _, none⟩) (by omega)]; exact r_hq1
                  have hp0 : ∀ x : Cls wq.heap.size wq, x.val.cell? ⟨b2, off2 + k * 2, none⟩ = some (.int .i64 T2) := fun x => by rw [x.cell (by omega), hq.cell (p := ⟨b2, _, none⟩) (by omega)]; exact r_hp0
                  have hp1 : ∀ x : Cls wq.heap.size wq, x.val.cell? ⟨b2, off2 + k * 2 + 1, none⟩ = some (.int .i64 V2) := fun x => by rw [x.cell (by omega), hq.cell (p := ⟨b2, _, none⟩) (by omega)]; exact r_hp1
                  have hne := cls_nonempty wq.heap.size wq
                  go_wp2_with fail
                  refine region_cls (by kernel_rfl) (by kernel_rfl) ?_
                  repeat (go_big_quiet_step (fail))
                  refine wpQuiet_nil ?_
                  rintro wz ⟨⟨_, hz⟩, rfl⟩
                  have hbz := hbq.trans (hz.mono hszq)
                  clear hq0 hq1 hp0 hp1 hne
                  go_wp2
                  go_roundw
                  case rel => exact ⟨k + 1, _, N, by omega, by omega, by go_num, rfl, by first | rfl | go_num, unhide HU, hbz⟩
                  case measure => simp [intOf]; omega
              · by_cases ht : T = T2
                · subst ht
                  by_cases hv : V = V2
                  · subst hv
                    have HU := hide (show true = (C0 || clashR (T, V) (ys.take (k + 1))) ∧ N + 1 = N0 + sameR (T, V) (ys.take (k + 1)) by
                      have h := unhide HCN
                      rw [unhide HS2, unhide HY, clashR_snoc, sameR_snoc, ← Bool.or_assoc, ← h.1, ← Nat.add_assoc, ← h.2]
                      simp)
                    clear HCN
                    have gd : ∀ x : Cls wr.heap.size wr, x.val.heap.size ≥ 0 := fun x => Nat.zero_le _
                    clear gd
                    go_wp2_with fail
                    refine region_cls (by kernel_rfl) (by kernel_rfl) ?_
                    repeat (go_big_quiet_step (fail))
                    refine wpQuiet_nil ?_
                    rintro wq ⟨⟨_, hq⟩, rfl⟩
                    clear hq0 hq1 hp0 hp1 hne
                    have hbq := hbel2.trans (hq.mono hszr)
                    have hszq := hbq.size
                    have hq0 : ∀ x : Cls wq.heap.size wq, x.val.cell? ⟨b1, off1 + i * 2, none⟩ = some (.int .i64 T) := fun x => by rw [x.cell (by omega), hq.cell (p := ⟨b1, _, none⟩) (by omega)]; exact r_hq0
                    have hq1 : ∀ x : Cls wq.heap.size wq, x.val.cell? ⟨b1, off1 + i * 2 + 1, none⟩ = some (.int .i64 V) := fun x => by rw [x.cell (by omega), hq.cell (p := ⟨b1, _, none⟩) (by omega)]; exact r_hq1
                    have hp0 : ∀ x : Cls wq.heap.size wq, x.val.cell? ⟨b2, off2 + k * 2, none⟩ = some (.int .i64 T) := fun x => by rw [x.cell (by omega), hq.cell (p := ⟨b2, _, none⟩) (by omega)]; exact r_hp0
                    have hp1 : ∀ x : Cls wq.heap.size wq, x.val.cell? ⟨b2, off2 + k * 2 + 1, none⟩ = some (.int .i64 V) := fun x => by rw [x.cell (by omega), hq.cell (p := ⟨b2, _, none⟩) (by omega)]; exact r_hp1
                    have hne := cls_nonempty wq.heap.size wq
                    go_wp2_with fail
                    refine region_cls (by kernel_rfl) (by kernel_rfl) ?_
                    repeat (go_big_quiet_step (fail))
                    refine wpQuiet_nil ?_
                    rintro wz ⟨⟨_, hz⟩, rfl⟩
                    have hbz := hbq.trans (hz.mono hszq)
                    clear hq0 hq1 hp0 hp1 hne
                    go_wp2
                    go_roundw
                    case rel => exact ⟨k + 1, _, N + 1, by omega, by omega, by go_num, rfl, by first | rfl | go_num, unhide HU, hbz⟩
                    case measure => simp [intOf]; omega
                  · have hvf : (V == V2) = false := by simpa using hv
                    have hvn : (V != V2) = true := by simp [bne, hvf]
                    have HU := hide (show true = (C0 || clashR (T, V) (ys.take (k + 1))) ∧ N = N0 + sameR (T, V) (ys.take (k + 1)) by
                      have h := unhide HCN
                      rw [unhide HS2, unhide HY, clashR_snoc, sameR_snoc, ← Bool.or_assoc, ← h.1, ← Nat.add_assoc, ← h.2]
                      have hv' : ¬ V = V2 := hv
                      simp [hv'])
                    clear HCN
                    have gd : ∀ x : Cls wr.heap.size wr, x.val.heap.size ≥ 0 := fun x => Nat.zero_le _
                    clear gd
                    go_wp2_with fail
                    refine region_cls (by kernel_rfl) (by kernel_rfl) ?_
                    repeat (go_big_quiet_step (fail))
                    refine wpQuiet_nil ?_
                    rintro wq ⟨⟨_, hq⟩, rfl⟩
                    clear hq0 hq1 hp0 hp1 hne
                    have hbq := hbel2.trans (hq.mono hszr)
                    have hszq := hbq.size
                    have hq0 : ∀ x : Cls wq.heap.size wq, x.val.cell? ⟨b1, off1 + i * 2, none⟩ = some (.int .i64 T) := fun x => by rw [x.cell (by omega), hq.cell (p := ⟨b1, _, none⟩) (by omega)]; exact r_hq0
                    have hq1 : ∀ x : Cls wq.heap.size wq, x.val.cell? ⟨b1, off1 + i * 2 + 1, none⟩ = some (.int .i64 V) := fun x => by rw [x.cell (by omega), hq.cell (p := ⟨b1, _, none⟩) (by omega)]; exact r_hq1
                    have hp0 : ∀ x : Cls wq.heap.size wq, x.val.cell? ⟨b2, off2 + k * 2, none⟩ = some (.int .i64 T) := fun x => by rw [x.cell (by omega), hq.cell (p := ⟨b2, _, none⟩) (by omega)]; exact r_hp0
                    have hp1 : ∀ x : Cls wq.heap.size wq, x.val.cell? ⟨b2, off2 + k * 2 + 1, none⟩ = some (.int .i64 V2) := fun x => by rw [x.cell (by omega), hq.cell (p := ⟨b2, _, none⟩) (by omega)]; exact r_hp1
                    have hne := cls_nonempty wq.heap.size wq
                    go_wp2_with fail
                    refine region_cls (by kernel_rfl) (by kernel_rfl) ?_
                    repeat (go_big_quiet_step (fail))
                    refine wpQuiet_nil ?_
                    rintro wz ⟨⟨_, hz⟩, rfl⟩
                    have hbz := hbq.trans (hz.mono hszq)
                    clear hq0 hq1 hp0 hp1 hne
                    go_wp2
                    go_roundw
                    case rel => exact ⟨k + 1, _, N, by omega, by omega, by go_num, rfl, by first | rfl | go_num, unhide HU, hbz⟩
                    case measure => simp [intOf]; omega
                · have htf : (T == T2) = false := by simpa using ht
                  have HU := hide (show true = (C0 || clashR (T, V) (ys.take (k + 1))) ∧ N = N0 + sameR (T, V) (ys.take (k + 1)) by
                    have h := unhide HCN
                    rw [unhide HS2, unhide HY, clashR_snoc, sameR_snoc, ← Bool.or_assoc, ← h.1, ← Nat.add_assoc, ← h.2]
                    have ht' : ¬ T = T2 := ht
                    simp [ht'])
                  clear HCN
                  have gd : ∀ x : Cls wr.heap.size wr, x.val.heap.size ≥ 0 := fun x => Nat.zero_le _
                  clear gd
                  go_wp2_with fail
                  refine region_cls (by kernel_rfl) (by kernel_rfl) ?_
                  repeat (go_big_quiet_step (fail))
                  refine wpQuiet_nil ?_
                  rintro wq ⟨⟨_, hq⟩, rfl⟩
                  clear hq0 hq1 hp0 hp1 hne
                  have hbq := hbel2.trans (hq.mono hszr)
                  have hszq := hbq.size
                  have hq0 : ∀ x : Cls wq.heap.size wq, x.val.cell? ⟨b1, off1 + i * 2, none⟩ = some (.int .i64 T) := fun x => by rw [x.cell (by omega), hq.cell (p := ⟨b1, _, none⟩) (by omega)]; exact r_hq0
                  have hq1 : ∀ x : Cls wq.heap.size wq, x.val.cell? ⟨b1, off1 + i * 2 + 1, none⟩ = some (.int .i64 V) := fun x => by rw [x.cell (by omega), hq.cell (p := ⟨b1, _, none⟩) (by omega)]; exact r_hq1
                  have hp0 : ∀ x : Cls wq.heap.size wq, x.val.cell? ⟨b2, off2 + k * 2, none⟩ = some (.int .i64 T2) := fun x => by rw [x.cell (by omega), hq.cell (p := ⟨b2, _, none⟩) (by omega)]; exact r_hp0
                  have hp1 : ∀ x : Cls wq.heap.size wq, x.val.cell? ⟨b2, off2 + k * 2 + 1, none⟩ = some (.int .i64 V2) := fun x => by rw [x.cell (by omega), hq.cell (p := ⟨b2, _, none⟩) (by omega)]; exact r_hp1
                  have hne := cls_nonempty wq.heap.size wq
                  go_wp2_with fail
                  refine region_cls (by kernel_rfl) (by kernel_rfl) ?_
                  repeat (go_big_quiet_step (fail))
                  refine wpQuiet_nil ?_
                  rintro wz ⟨⟨_, hz⟩, rfl⟩
                  have hbz := hbq.trans (hz.mono hszq)
                  clear hq0 hq1 hp0 hp1 hne
                  go_wp2
                  go_roundw
                  case rel => exact ⟨k + 1, _, N, by omega, by omega, by go_num, rfl, by first | rfl | go_num, unhide HU, hbz⟩
                  case measure => simp [intOf]; omega
            · obtain rfl : k = nb := by omega
              have HE := hide (show C = clashN (zs.take (i + 1)) ys ∧ N = sameN (zs.take (i + 1)) ys by
                have h := unhide HCN
                rw [List.take_of_length_le (by have := unhide HNB; omega)] at h
                rw [unhide HS1, clashN_snoc, sameN_snoc, ← unhide HC0, ← unhide HN0, unhide HX]
                exact h)
              clear HCN
              go_wp2
              go_roundw
              case rel => exact ⟨i + 1, by omega, by go_num, by rw [(unhide HE).1], by rw [(unhide HE).2], hbel2⟩
              case measure => simp [intOf]; omega
        · obtain rfl : i = na := by omega
          have HE := hide (show zs.take i = zs from List.take_of_length_le (by have := unhide HNA; omega))
          obtain ⟨CC, hCC⟩ : ∃ CC, CC = clashN (zs.take i) ys := ⟨_, rfl⟩
          rw [← hCC]
          have HCC := hide (hCC.trans (by rw [unhide HE]))
          clear hCC
          have fA := (unhide FA).below hbel
          have fX := (unhide FX).below hbel
          have cE := c9.trans (hbel.mono c9.size)
          rcases (show (CC = true ∧ J = [] ∧ r = false) ∨ (CC = false ∧ r = true ∧ J.length + sameN zs ys = zs.length + ys.length ∧ ok J = true) from by
              rw [unhide HCC]
              rcases join_says (unhide HA) (unhide HB) with ⟨g1, g2⟩ | ⟨g1, L, g2, g3, g4⟩
              · have h := (unhide HJ).symm.trans g2
                simp only [Prod.mk.injEq] at h
                exact .inl ⟨g1, h.1, h.2⟩
              · have h := (unhide HJ).symm.trans g2
                simp only [Prod.mk.injEq] at h
                obtain ⟨rfl, rfl⟩ := h
                exact .inr ⟨g1, rfl, g3, g4⟩) with ⟨rfl, hJ, rfl⟩ | ⟨rfl, rfl, HCn, HOJ⟩
          · clear ha5 hb5 FA FX hJ
            go_wp2_with fail
            refine (join_is (join_self (unhide HA)) fA fA (by have := unhide HNA; omega) (by have := unhide HNA; omega)).mono ?_
            rintro e Y1 ⟨zv, rfl, sz, bb⟩
            have fA1 := fA.below bb
            have cE1 := cE.trans (bb.mono cE.size)
            clear bb fX
            go_wp2_with fail
            refine (al_same sz fA1).mono ?_
            rintro e Y2 ⟨rfl, bb⟩
            have cE2 := cE1.trans (bb.mono cE1.size)
            go_wp2_with fail
            go_ret
            exact ⟨rfl, cE2⟩
          · clear ha5 hb5 FA FX
            have HSm := hide (show J.length + sameN (zs.take i) ys = i + nb by rw [unhide HE]; have := unhide HNA; have := unhide HNB; omega)
            have HOJ' := hide HOJ
            obtain ⟨M, hM⟩ : ∃ M, M = sameN (zs.take i) ys := ⟨_, rfl⟩
            rw [← hM] at HSm ⊢
            clear hM HCn HOJ
            obtain ⟨ax, nx, cx, rfl, vx⟩ := view_of fX
            have HNX := hide vx.1
            have hx2 := vx.2.1
            have hx3 := vx.2.2.1
            unfold maxLen at hx3
            clear vx
            have hsum : (i : Int) + (nb : Int) - (M : Int) = (nx : Int) := by have := unhide HNX; have := unhide HSm; omega
            go_wp2_with fail
            refine (join_is (join_self (unhide HA)) fA fA (by have := unhide HNA; omega) (by have := unhide HNA; omega)).mono ?_
            rintro e Y1 ⟨zv, rfl, sz, bb⟩
            have fA1 := fA.below bb
            have fX1 := fX.below bb
            have cE1 := cE.trans (bb.mono cE.size)
            clear bb
            go_wp2_with fail
            refine (al_same sz fA1).mono ?_
            rintro e Y2 ⟨rfl, bb⟩
            have fX2 := fX1.below bb
            have cE2 := cE1.trans (bb.mono cE1.size)
            clear bb
            go_wp2_with fail
            refine (ok_is (unhide HOJ') fX2).mono ?_
            rintro e Y3 ⟨rfl, bb⟩
            have cE3 := cE2.trans (bb.mono cE2.size)
            go_wp2_with fail
            go_ret
            exact ⟨rfl, cE3⟩
end Go.Proofs.Ytdkenakgppdabaa
