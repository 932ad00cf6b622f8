/- FnListLess returns true at every text of bytes. -/
import Derived.Test.YtddbgchmpehffaaAlList
namespace Go.Proofs.Ytddbgchmpehffaa
open Go.RowKit Rw Ints ListMath Draw
set_option linter.unusedVariables false
theorem draw_listless {a : Option Addr} {len cap : Nat} {zs : List Int} (w0 w : World) (h : IsRow .u8 w0 a len cap zs) (hB : Below w0.heap.size w0 w) :
    Calls Try.prog 20 #[.slice a len cap] w fun e w' => ∃ (zs ys : List Int) (v u : Value), e = .returned (.tuple #[v, u]) ∧ zs.length ≤ 60 ∧ ys.length ≤ 60 ∧ Is w' v zs ∧ Is w' u ys ∧ Below w.heap.size w w' := by
  have HO := hide (draw_listboth w0 w h hB)
  clear h hB
  go_enter Try.func20, Try.ntmps20
  go_wp2_with fail
  refine (unhide HO).mono ?_
  rintro e W ⟨zs, ys, v, u, rfl, h1, h2, h3, h4, h5⟩
  have H3 := hide h3
  have H4 := hide h4
  clear h3 h4
  go_wp2_with fail
  go_ret2
  exact ⟨zs, ys, v, u, rfl, h1, h2, unhide H3, unhide H4, h5⟩
set_option maxRecDepth 100000 in
set_option maxHeartbeats 4000000 in
theorem fnListLess.walk (a0 : Option Addr) (len0 cap0 : Nat) (z0 : List Int) (w : World) (w0 : IsRow .u8 w a0 len0 cap0 z0) :
    Calls Try.prog 5 #[.slice a0 len0 cap0] w fun e w' => e = .returned (.bool true) ∧ Below w.heap.size w w' := by
  have l0 := (row_bytes w0)
  have c00 : len0 ≤ 9223372036854775807 := by have := l0.1; have := l0.2.1; unfold maxLen at this; omega
  have H0 := hide (draw_listless w w w0 (Below.refl _ _))
  clear l0 w0
  by_cases hb0 : 1048576 < len0
  · go_enter Try.func5, Try.ntmps5
    go_wp2
    go_ret
    exact ⟨rfl, Below.refl _ _⟩
  go_enter Try.func5, Try.ntmps5
  go_wp2_with fail
  refine (unhide H0).mono ?_
  rintro e W ⟨zs, ys, va, vb, rfl, hl, hl', sa, sb, c0⟩
  clear H0
  obtain ⟨aa, ca, ea⟩ : ∃ a c, va = .slice a zs.length c := by obtain ⟨-, a, c, e, -⟩ := sa; exact ⟨a, c, e⟩
  obtain ⟨ab, cb, eb⟩ : ∃ a c, vb = .slice a ys.length c := by obtain ⟨-, a, c, e, -⟩ := sb; exact ⟨a, c, e⟩
  subst ea eb
  have HLa := hide (show zs.length ≤ 4194304 by omega)
  have HLb := hide (show ys.length ≤ 4194304 by omega)
  have HL1 := hide hl
  have HL2 := hide hl'
  clear hl hl'
  go_wp2_with fail
  refine (impl_less sa sb (unhide HLa) (unhide HLb)).mono ?_
  rintro e W1 ⟨v_x, rfl, oo, bb⟩
  have f1_a := sa.below bb
  clear sa
  have f1_b := sb.below bb
  clear sb
  have c1 := c0.trans (bb.mono c0.size)
  clear c0
  have f1_x := is_of_own oo
  clear bb oo
  go_wp2_with fail
  refine (spec_less f1_a f1_b (unhide HLa) (unhide HLb)).mono ?_
  rintro e W2 ⟨v_y, rfl, oo, bb⟩
  have f2_a := f1_a.below bb
  clear f1_a
  have f2_b := f1_b.below bb
  clear f1_b
  have f2_x := f1_x.below bb
  clear f1_x
  have c2 := c1.trans (bb.mono c1.size)
  clear c1
  have f2_y := is_of_own oo
  clear bb oo
  go_wp2_with fail
  refine (al_same f2_x f2_y).mono ?_
  rintro e W3 ⟨rfl, bb⟩
  have f3_a := f2_a.below bb
  clear f2_a
  have f3_b := f2_b.below bb
  clear f2_b
  have f3_x := f2_x.below bb
  clear f2_x
  have f3_y := f2_y.below bb
  clear f2_y
  have c3 := c2.trans (bb.mono c2.size)
  clear c2
  clear bb
  go_wp2_with fail
  clear f3_y
  cases hoa : ok zs
  · have KA := hide hoa
    clear hoa
    refine (spec_ok f3_a).mono ?_
    rintro e W4 ⟨rfl, bb⟩
    rw [unhide KA]
    have f4_a := f3_a.below bb
    clear f3_a
    have f4_b := f3_b.below bb
    clear f3_b
    have f4_x := f3_x.below bb
    clear f3_x
    have c4 := c3.trans (bb.mono c3.size)
    clear c3
    clear bb
    go_wp2_with fail
    refine (spec_less f4_a f4_b (unhide HLa) (unhide HLb)).mono ?_
    rintro e W5 ⟨v_y, rfl, oo, bb⟩
    have f5_a := f4_a.below bb
    clear f4_a
    have f5_b := f4_b.below bb
    clear f4_b
    have f5_x := f4_x.below bb
    clear f4_x
    have c5 := c4.trans (bb.mono c4.size)
    clear c4
    have f5_y := is_of_own oo
    clear bb oo
    go_wp2_with fail
    refine (al_same f5_x f5_y).mono ?_
    rintro e W6 ⟨rfl, bb⟩
    have f6_a := f5_a.below bb
    clear f5_a
    have f6_b := f5_b.below bb
    clear f5_b
    have f6_x := f5_x.below bb
    clear f5_x
    have f6_y := f5_y.below bb
    clear f5_y
    have c6 := c5.trans (bb.mono c5.size)
    clear c5
    clear bb
    go_wp2
    go_ret
    exact ⟨rfl, c6⟩
  · have KA := hide hoa
    clear hoa
    cases hob : ok ys
    · have KB := hide hob
      clear hob
      refine (spec_ok f3_a).mono ?_
      rintro e W4 ⟨rfl, bb⟩
      rw [unhide KA]
      have f4_a := f3_a.below bb
      clear f3_a
      have f4_b := f3_b.below bb
      clear f3_b
      have f4_x := f3_x.below bb
      clear f3_x
      have c4 := c3.trans (bb.mono c3.size)
      clear c3
      clear bb
      go_wp2_with fail
      refine (spec_ok f4_b).mono ?_
      rintro e W5 ⟨rfl, bb⟩
      rw [unhide KB]
      have f5_a := f4_a.below bb
      clear f4_a
      have f5_b := f4_b.below bb
      clear f4_b
      have f5_x := f4_x.below bb
      clear f4_x
      have c5 := c4.trans (bb.mono c4.size)
      clear c4
      clear bb
      go_wp2_with fail
      refine (spec_less f5_a f5_b (unhide HLa) (unhide HLb)).mono ?_
      rintro e W6 ⟨v_y, rfl, oo, bb⟩
      have f6_a := f5_a.below bb
      clear f5_a
      have f6_b := f5_b.below bb
      clear f5_b
      have f6_x := f5_x.below bb
      clear f5_x
      have c6 := c5.trans (bb.mono c5.size)
      clear c5
      have f6_y := is_of_own oo
      clear bb oo
      go_wp2_with fail
      refine (al_same f6_x f6_y).mono ?_
      rintro e W7 ⟨rfl, bb⟩
      have f7_a := f6_a.below bb
      clear f6_a
      have f7_b := f6_b.below bb
      clear f6_b
      have f7_x := f6_x.below bb
      clear f6_x
      have f7_y := f6_y.below bb
      clear f6_y
      have c7 := c6.trans (bb.mono c6.size)
      clear c6
      clear bb
      go_wp2
      go_ret
      exact ⟨rfl, c7⟩
    · have KB := hide hob
      clear hob
      refine (spec_ok f3_a).mono ?_
      rintro e W4 ⟨rfl, bb⟩
      rw [unhide KA]
      have f4_a := f3_a.below bb
      clear f3_a
      have f4_b := f3_b.below bb
      clear f3_b
      have f4_x := f3_x.below bb
      clear f3_x
      have c4 := c3.trans (bb.mono c3.size)
      clear c3
      clear bb
      go_wp2_with fail
      refine (spec_ok f4_b).mono ?_
      rintro e W5 ⟨rfl, bb⟩
      rw [unhide KB]
      have f5_a := f4_a.below bb
      clear f4_a
      have f5_b := f4_b.below bb
      clear f4_b
      have f5_x := f4_x.below bb
      clear f4_x
      have c5 := c4.trans (bb.mono c4.size)
      clear c4
      clear bb
      go_wp2_with fail
      refine (impl_both f5_a f5_b (unhide HLa) (unhide HLb)).mono ?_
      rintro e W6 ⟨v_m, rfl, oo, bb⟩
      have f6_a := f5_a.below bb
      clear f5_a
      have f6_b := f5_b.below bb
      clear f5_b
      have f6_x := f5_x.below bb
      clear f5_x
      have c6 := c5.trans (bb.mono c5.size)
      clear c5
      have f6_m := is_of_own oo
      clear bb oo
      go_wp2_with fail
      have hx1 := hide (show (res first zs ys).length ≤ 4194304 by have := res_le first zs ys; have := unhide HL1; have := unhide HL2; omega)
      have hm1 := hide (show (res both zs ys).length ≤ 4194304 by have := res_le both zs ys; have := unhide HL1; have := unhide HL2; omega)
      have HI := hide (impl_either f6_x f6_m (unhide hx1) (unhide hm1))
      rw [less_whole (unhide KA) (unhide KB)] at HI
      refine (unhide HI).mono ?_
      rintro e W7 ⟨v_z, rfl, oo, bb⟩
      have f7_a := f6_a.below bb
      clear f6_a
      have f7_b := f6_b.below bb
      clear f6_b
      have f7_x := f6_x.below bb
      clear f6_x
      have f7_m := f6_m.below bb
      clear f6_m
      have c7 := c6.trans (bb.mono c6.size)
      clear c6
      have f7_z := is_of_own oo
      clear bb oo
      clear HI
      go_wp2_with fail
      refine (al_same f7_z f7_a).mono ?_
      rintro e W8 ⟨rfl, bb⟩
      have f8_a := f7_a.below bb
      clear f7_a
      have f8_b := f7_b.below bb
      clear f7_b
      have f8_x := f7_x.below bb
      clear f7_x
      have f8_m := f7_m.below bb
      clear f7_m
      have f8_z := f7_z.below bb
      clear f7_z
      have c8 := c7.trans (bb.mono c7.size)
      clear c7
      clear bb
      go_wp2_with fail
      have HI := hide (impl_both f8_x f8_b (unhide hx1) (unhide HLb))
      rw [less_none (unhide KA) (unhide KB)] at HI
      refine (unhide HI).mono ?_
      rintro e W9 ⟨v_n, rfl, oo, bb⟩
      have f9_a := f8_a.below bb
      clear f8_a
      have f9_b := f8_b.below bb
      clear f8_b
      have f9_x := f8_x.below bb
      clear f8_x
      have f9_m := f8_m.below bb
      clear f8_m
      have f9_z := f8_z.below bb
      clear f8_z
      have c9 := c8.trans (bb.mono c8.size)
      clear c8
      have f9_n := is_of_own oo
      clear bb oo
      obtain ⟨an, cn, en⟩ : ∃ a c, v_n = .slice a 0 c := by obtain ⟨-, a, c, e, -⟩ := f9_n; exact ⟨a, c, e⟩
      subst en
      clear HI
      go_wp2_with fail
      have HI := hide (impl_less f9_a f9_a (unhide HLa) (unhide HLa))
      rw [less_self (unhide KA)] at HI
      refine (unhide HI).mono ?_
      rintro e W10 ⟨v_o, rfl, oo, bb⟩
      have f10_a := f9_a.below bb
      clear f9_a
      have f10_b := f9_b.below bb
      clear f9_b
      have f10_x := f9_x.below bb
      clear f9_x
      have f10_m := f9_m.below bb
      clear f9_m
      have f10_z := f9_z.below bb
      clear f9_z
      have f10_n := f9_n.below bb
      clear f9_n
      have c10 := c9.trans (bb.mono c9.size)
      clear c9
      have f10_o := is_of_own oo
      clear bb oo
      obtain ⟨ao, co, eo⟩ : ∃ a c, v_o = .slice a 0 c := by obtain ⟨-, a, c, e, -⟩ := f10_o; exact ⟨a, c, e⟩
      subst eo
      clear HI
      go_wp2
      go_ret
      exact ⟨rfl, c10⟩
end Go.Proofs.Ytddbgchmpehffaa
