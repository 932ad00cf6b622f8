/- FnListBoth returns true at every text of bytes. -/
import Derived.Test.YtddbgchmpehffaaAlList
namespace Go.Proofs.Ytddbgchmpehffaa
open Go.RowKit Rw Ints ListMath Draw
set_option linter.unusedVariables false
set_option maxRecDepth 100000 in
set_option maxHeartbeats 4000000 in
theorem fnListBoth.walk (a0 : Option Addr) (len0 cap0 : Nat) (z0 : List Int) (w : World) (w0 : IsRow .u8 w a0 len0 cap0 z0) :
    Calls Try.prog 3 #[.slice a0 len0 cap0] w fun e w' => e = .returned (.bool true) ∧ Below w.heap.size w w' := by
  have l0 := (row_bytes w0)
  have c00 : len0 ≤ 9223372036854775807 := by have := l0.1; have := l0.2.1; unfold maxLen at this; omega
  have H0 := hide (draw_listboth w w w0 (Below.refl _ _))
  clear l0 w0
  by_cases hb0 : 1048576 < len0
  · go_enter Try.func3, Try.ntmps3
    go_wp2
    go_ret
    exact ⟨rfl, Below.refl _ _⟩
  go_enter Try.func3, Try.ntmps3
  go_wp2_with fail
  refine (unhide H0).mono ?_
  rintro e W ⟨zs, ys, va, vb, rfl, hl, hl', sa, sb, c0⟩
  clear H0
  obtain ⟨aa, ca, ea⟩ : ∃ a c, va = .slice a zs.length c := by obtain ⟨-, a, c, e, -⟩ := sa; exact ⟨a, c, e⟩
  obtain ⟨ab, cb, eb⟩ : ∃ a c, vb = .slice a ys.length c := by obtain ⟨-, a, c, e, -⟩ := sb; exact ⟨a, c, e⟩
  subst ea eb
  have HLa := hide (show zs.length ≤ 4194304 by omega)
  have HLb := hide (show ys.length ≤ 4194304 by omega)
  have HL1 := hide hl
  have HL2 := hide hl'
  clear hl hl'
  go_wp2_with fail
  refine (impl_both sa sb (unhide HLa) (unhide HLb)).mono ?_
  rintro e W1 ⟨v_x, rfl, oo, bb⟩
  have f1_a := sa.below bb
  clear sa
  have f1_b := sb.below bb
  clear sb
  have c1 := c0.trans (bb.mono c0.size)
  clear c0
  have f1_x := is_of_own oo
  clear bb oo
  go_wp2_with fail
  refine (spec_both f1_a f1_b (unhide HLa) (unhide HLb)).mono ?_
  rintro e W2 ⟨v_y, rfl, oo, bb⟩
  have f2_a := f1_a.below bb
  clear f1_a
  have f2_b := f1_b.below bb
  clear f1_b
  have f2_x := f1_x.below bb
  clear f1_x
  have c2 := c1.trans (bb.mono c1.size)
  clear c1
  have f2_y := is_of_own oo
  clear bb oo
  go_wp2_with fail
  refine (al_same f2_x f2_y).mono ?_
  rintro e W3 ⟨rfl, bb⟩
  have f3_a := f2_a.below bb
  clear f2_a
  have f3_b := f2_b.below bb
  clear f2_b
  have f3_x := f2_x.below bb
  clear f2_x
  have f3_y := f2_y.below bb
  clear f2_y
  have c3 := c2.trans (bb.mono c2.size)
  clear c2
  clear bb
  go_wp2_with fail
  clear f3_y
  have HI := hide (impl_both f3_b f3_a (unhide HLb) (unhide HLa))
  rw [res_comm both both_comm] at HI
  refine (unhide HI).mono ?_
  rintro e W4 ⟨v_r, rfl, oo, bb⟩
  have f4_a := f3_a.below bb
  clear f3_a
  have f4_b := f3_b.below bb
  clear f3_b
  have f4_x := f3_x.below bb
  clear f3_x
  have c4 := c3.trans (bb.mono c3.size)
  clear c3
  have f4_r := is_of_own oo
  clear bb oo
  clear HI
  go_wp2_with fail
  refine (al_same f4_r f4_x).mono ?_
  rintro e W5 ⟨rfl, bb⟩
  have f5_a := f4_a.below bb
  clear f4_a
  have f5_b := f4_b.below bb
  clear f4_b
  have f5_x := f4_x.below bb
  clear f4_x
  have f5_r := f4_r.below bb
  clear f4_r
  have c5 := c4.trans (bb.mono c4.size)
  clear c4
  clear bb
  go_wp2_with fail
  clear f5_r
  cases hoa : ok zs
  · have KA := hide hoa
    clear hoa
    refine (impl_ok f5_a).mono ?_
    rintro e W6 ⟨rfl, hh⟩
    subst hh
    rw [unhide KA]
    go_wp2_with fail
    refine (spec_ok f5_a).mono ?_
    rintro e W7 ⟨rfl, bb⟩
    rw [unhide KA]
    have f7_a := f5_a.below bb
    clear f5_a
    have f7_b := f5_b.below bb
    clear f5_b
    have f7_x := f5_x.below bb
    clear f5_x
    have c7 := c5.trans (bb.mono c5.size)
    clear c5
    clear bb
    go_wp2_with fail
    refine (spec_ok f7_a).mono ?_
    rintro e W8 ⟨rfl, bb⟩
    rw [unhide KA]
    have f8_a := f7_a.below bb
    clear f7_a
    have f8_b := f7_b.below bb
    clear f7_b
    have f8_x := f7_x.below bb
    clear f7_x
    have c8 := c7.trans (bb.mono c7.size)
    clear c7
    clear bb
    go_wp2_with fail
    refine (spec_both f8_a f8_b (unhide HLa) (unhide HLb)).mono ?_
    rintro e W9 ⟨v_y, rfl, oo, bb⟩
    have f9_a := f8_a.below bb
    clear f8_a
    have f9_b := f8_b.below bb
    clear f8_b
    have f9_x := f8_x.below bb
    clear f8_x
    have c9 := c8.trans (bb.mono c8.size)
    clear c8
    have f9_y := is_of_own oo
    clear bb oo
    go_wp2_with fail
    refine (al_same f9_x f9_y).mono ?_
    rintro e W10 ⟨rfl, bb⟩
    have f10_a := f9_a.below bb
    clear f9_a
    have f10_b := f9_b.below bb
    clear f9_b
    have f10_x := f9_x.below bb
    clear f9_x
    have f10_y := f9_y.below bb
    clear f9_y
    have c10 := c9.trans (bb.mono c9.size)
    clear c9
    clear bb
    go_wp2_with fail
    have HI := hide (impl_both f10_b f10_a (unhide HLb) (unhide HLa))
    rw [res_comm both both_comm] at HI
    refine (unhide HI).mono ?_
    rintro e W11 ⟨v_r, rfl, oo, bb⟩
    have f11_a := f10_a.below bb
    clear f10_a
    have f11_b := f10_b.below bb
    clear f10_b
    have f11_x := f10_x.below bb
    clear f10_x
    have f11_y := f10_y.below bb
    clear f10_y
    have c11 := c10.trans (bb.mono c10.size)
    clear c10
    have f11_r := is_of_own oo
    clear bb oo
    clear HI
    go_wp2_with fail
    refine (al_same f11_r f11_x).mono ?_
    rintro e W12 ⟨rfl, bb⟩
    have f12_a := f11_a.below bb
    clear f11_a
    have f12_b := f11_b.below bb
    clear f11_b
    have f12_x := f11_x.below bb
    clear f11_x
    have f12_y := f11_y.below bb
    clear f11_y
    have f12_r := f11_r.below bb
    clear f11_r
    have c12 := c11.trans (bb.mono c11.size)
    clear c11
    clear bb
    go_wp2_with fail
    refine (impl_ok f12_a).mono ?_
    rintro e W13 ⟨rfl, hh⟩
    subst hh
    rw [unhide KA]
    go_wp2_with fail
    refine (spec_ok f12_a).mono ?_
    rintro e W14 ⟨rfl, bb⟩
    rw [unhide KA]
    have f14_a := f12_a.below bb
    clear f12_a
    have f14_b := f12_b.below bb
    clear f12_b
    have f14_x := f12_x.below bb
    clear f12_x
    have f14_y := f12_y.below bb
    clear f12_y
    have f14_r := f12_r.below bb
    clear f12_r
    have c14 := c12.trans (bb.mono c12.size)
    clear c12
    clear bb
    go_wp2
    go_ret
    exact ⟨rfl, c14⟩
  · have KA := hide hoa
    clear hoa
    cases hob : ok ys
    · have KB := hide hob
      clear hob
      refine (impl_ok f5_a).mono ?_
      rintro e W6 ⟨rfl, hh⟩
      subst hh
      rw [unhide KA]
      go_wp2_with fail
      refine (spec_ok f5_a).mono ?_
      rintro e W7 ⟨rfl, bb⟩
      rw [unhide KA]
      have f7_a := f5_a.below bb
      clear f5_a
      have f7_b := f5_b.below bb
      clear f5_b
      have f7_x := f5_x.below bb
      clear f5_x
      have c7 := c5.trans (bb.mono c5.size)
      clear c5
      clear bb
      go_wp2_with fail
      refine (spec_ok f7_a).mono ?_
      rintro e W8 ⟨rfl, bb⟩
      rw [unhide KA]
      have f8_a := f7_a.below bb
      clear f7_a
      have f8_b := f7_b.below bb
      clear f7_b
      have f8_x := f7_x.below bb
      clear f7_x
      have c8 := c7.trans (bb.mono c7.size)
      clear c7
      clear bb
      go_wp2_with fail
      refine (spec_ok f8_b).mono ?_
      rintro e W9 ⟨rfl, bb⟩
      rw [unhide KB]
      have f9_a := f8_a.below bb
      clear f8_a
      have f9_b := f8_b.below bb
      clear f8_b
      have f9_x := f8_x.below bb
      clear f8_x
      have c9 := c8.trans (bb.mono c8.size)
      clear c8
      clear bb
      go_wp2_with fail
      refine (spec_both f9_a f9_b (unhide HLa) (unhide HLb)).mono ?_
      rintro e W10 ⟨v_y, rfl, oo, bb⟩
      have f10_a := f9_a.below bb
      clear f9_a
      have f10_b := f9_b.below bb
      clear f9_b
      have f10_x := f9_x.below bb
      clear f9_x
      have c10 := c9.trans (bb.mono c9.size)
      clear c9
      have f10_y := is_of_own oo
      clear bb oo
      go_wp2_with fail
      refine (al_same f10_x f10_y).mono ?_
      rintro e W11 ⟨rfl, bb⟩
      have f11_a := f10_a.below bb
      clear f10_a
      have f11_b := f10_b.below bb
      clear f10_b
      have f11_x := f10_x.below bb
      clear f10_x
      have f11_y := f10_y.below bb
      clear f10_y
      have c11 := c10.trans (bb.mono c10.size)
      clear c10
      clear bb
      go_wp2_with fail
      have HI := hide (impl_both f11_b f11_a (unhide HLb) (unhide HLa))
      rw [res_comm both both_comm] at HI
      refine (unhide HI).mono ?_
      rintro e W12 ⟨v_r, rfl, oo, bb⟩
      have f12_a := f11_a.below bb
      clear f11_a
      have f12_b := f11_b.below bb
      clear f11_b
      have f12_x := f11_x.below bb
      clear f11_x
      have f12_y := f11_y.below bb
      clear f11_y
      have c12 := c11.trans (bb.mono c11.size)
      clear c11
      have f12_r := is_of_own oo
      clear bb oo
      clear HI
      go_wp2_with fail
      refine (al_same f12_r f12_x).mono ?_
      rintro e W13 ⟨rfl, bb⟩
      have f13_a := f12_a.below bb
      clear f12_a
      have f13_b := f12_b.below bb
      clear f12_b
      have f13_x := f12_x.below bb
      clear f12_x
      have f13_y := f12_y.below bb
      clear f12_y
      have f13_r := f12_r.below bb
      clear f12_r
      have c13 := c12.trans (bb.mono c12.size)
      clear c12
      clear bb
      go_wp2_with fail
      refine (impl_ok f13_a).mono ?_
      rintro e W14 ⟨rfl, hh⟩
      subst hh
      rw [unhide KA]
      go_wp2_with fail
      refine (spec_ok f13_a).mono ?_
      rintro e W15 ⟨rfl, bb⟩
      rw [unhide KA]
      have f15_a := f13_a.below bb
      clear f13_a
      have f15_b := f13_b.below bb
      clear f13_b
      have f15_x := f13_x.below bb
      clear f13_x
      have f15_y := f13_y.below bb
      clear f13_y
      have f15_r := f13_r.below bb
      clear f13_r
      have c15 := c13.trans (bb.mono c13.size)
      clear c13
      clear bb
      go_wp2
      go_ret
      exact ⟨rfl, c15⟩
    · have KB := hide hob
      clear hob
      refine (impl_ok f5_a).mono ?_
      rintro e W6 ⟨rfl, hh⟩
      subst hh
      rw [unhide KA]
      go_wp2_with fail
      refine (spec_ok f5_a).mono ?_
      rintro e W7 ⟨rfl, bb⟩
      rw [unhide KA]
      have f7_a := f5_a.below bb
      clear f5_a
      have f7_b := f5_b.below bb
      clear f5_b
      have f7_x := f5_x.below bb
      clear f5_x
      have c7 := c5.trans (bb.mono c5.size)
      clear c5
      clear bb
      go_wp2_with fail
      refine (spec_ok f7_a).mono ?_
      rintro e W8 ⟨rfl, bb⟩
      rw [unhide KA]
      have f8_a := f7_a.below bb
      clear f7_a
      have f8_b := f7_b.below bb
      clear f7_b
      have f8_x := f7_x.below bb
      clear f7_x
      have c8 := c7.trans (bb.mono c7.size)
      clear c7
      clear bb
      go_wp2_with fail
      refine (spec_ok f8_b).mono ?_
      rintro e W9 ⟨rfl, bb⟩
      rw [unhide KB]
      have f9_a := f8_a.below bb
      clear f8_a
      have f9_b := f8_b.below bb
      clear f8_b
      have f9_x := f8_x.below bb
      clear f8_x
      have c9 := c8.trans (bb.mono c8.size)
      clear c8
      clear bb
      go_wp2_with fail
      obtain ⟨ax, cx, ex⟩ : ∃ a c, v_x = .slice a (res both zs ys).length c := by obtain ⟨-, a, c, e, -⟩ := f9_x; exact ⟨a, c, e⟩
      subst ex
      obtain ⟨-, aa', ca', ea', -, -, -, hra⟩ := id f9_a
      simp only [Value.slice.injEq, true_and] at ea'
      obtain ⟨rfl, rfl⟩ := ea'
      obtain ⟨n, hn⟩ : ∃ n, n = zs.length := ⟨_, rfl⟩
      have hn60 : n ≤ 60 := by have := unhide HL1; omega
      rw [← hn] at hra ⊢
      have HN := hide hn
      clear hn
      have FA := hide f9_a
      have FB := hide f9_b
      have FX := hide f9_x
      clear f9_a f9_b f9_x
      go_loopw [6] (fun iv wr => ∃ k : Nat, iv = .int .i64 (k : Int) ∧ k ≤ n ∧ Below W9.heap.size W9 wr) (fun iv _ => n - (intOf iv).toNat)
      case atStart => exact ⟨0, rfl, Nat.zero_le _, Below.refl _ _⟩
      case round =>
        obtain ⟨k, rfl, hk, hbel⟩ := hrel
        have hsz := hbel.size
        by_cases hlt : k < n
        · obtain ⟨b, off, rfl, hbl, hcells⟩ := hra (by omega)
          obtain ⟨X, hX⟩ : ∃ X, X = at' zs k := ⟨_, rfl⟩
          have hq0 : ∀ x : Cls wr.heap.size wr, x.val.cell? ⟨b, off + k, none⟩ = some (.int .i64 X) := fun x => by rw [x.cell (by omega), hX]; exact (hbel.cell (p := ⟨b, _, none⟩) hbl).trans (hcells k _ (flat_get zs k (by have := unhide HN; omega)))
          have HE := hide (has_both (unhide KA) (unhide KB) X (by rw [hX]; exact at_mem zs k (by have := unhide HN; omega)))
          clear hX
          have hk0 : (0 : Int) ≤ (k : Int) := Int.natCast_nonneg _
          have hk1 : (k : Int) < (n : Int) := by omega
          obtain ⟨q, hq⟩ : ∃ q, q = has ys X := ⟨_, rfl⟩
          have HX1 := hide (fun (x : Cls wr.heap.size wr) => show Calls Try.prog 16 #[.slice ax (res both zs ys).length cx, .int .i64 X] x.val fun e w' => e = .returned (.bool q) ∧ w' = x.val from by rw [hq, ← unhide HE]; exact alHas_any X (((unhide FX).below hbel).below x.isBelow))
          have HB1 := hide (fun (x : Cls wr.heap.size wr) => show Calls Try.prog 16 #[.slice ab ys.length cb, .int .i64 X] x.val fun e w' => e = .returned (.bool q) ∧ w' = x.val from by rw [hq]; exact alHas_any X (((unhide FB).below hbel).below x.isBelow))
          clear hq
          have hne := cls_nonempty wr.heap.size wr
          go_wp2_with fail
          refine region_cls (by kernel_rfl) (by kernel_rfl) ?_
          repeat (go_big_quiet_step ((first | (go_at_call_of 16 (cx); exact cls_same (unhide HX1 _)) | (go_at_call_of 16 (cb); exact cls_same (unhide HB1 _)))))
          refine wpQuiet_nil ?_
          rintro wq ⟨⟨_, hq⟩, rfl⟩
          go_wp2
          go_roundw
          case rel => exact ⟨k + 1, by go_num, by omega, hbel.trans (hq.mono hsz)⟩
          case measure => simp [intOf]; omega
        · have hd : decide ((k : Int) < (n : Int)) = false := by simp; omega
          have fa := (unhide FA).below hbel
          have fb := (unhide FB).below hbel
          have fx := (unhide FX).below hbel
          have cc := c9.trans (hbel.mono c9.size)
          have OX := hide (ok_both (unhide KA) (unhide KB))
          have LX := hide (both_le' (unhide KA) (unhide KB))
          clear hra
          have hN := unhide HN
          clear HN
          subst hN
          go_wp2_with fail
          refine (impl_ok fx).mono ?_
          rintro e W11 ⟨rfl, hh⟩
          subst hh
          rw [unhide OX]
          go_wp2_with fail
          have HI := hide (impl_both fa fa (unhide HLa) (unhide HLa))
          rw [res_self both rfl (unhide KA)] at HI
          refine (unhide HI).mono ?_
          rintro e W12 ⟨v_s, rfl, oo, bb⟩
          have f12_a := fa.below bb
          clear fa
          have f12_x := fx.below bb
          clear fx
          have c12 := cc.trans (bb.mono cc.size)
          clear cc
          have f12_s := is_of_own oo
          clear bb oo
          clear HI
          go_wp2_with fail
          refine (al_same f12_s f12_a).mono ?_
          rintro e W13 ⟨rfl, bb⟩
          have f13_a := f12_a.below bb
          clear f12_a
          have f13_x := f12_x.below bb
          clear f12_x
          have f13_s := f12_s.below bb
          clear f12_s
          have c13 := c12.trans (bb.mono c12.size)
          clear c12
          clear bb
          go_wp2
          go_ret
          exact ⟨ret_bool (decide_eq_true (unhide LX)), c13⟩
end Go.Proofs.Ytddbgchmpehffaa
