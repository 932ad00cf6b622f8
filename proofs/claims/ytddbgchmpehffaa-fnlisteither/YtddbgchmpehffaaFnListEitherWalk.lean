/- FnListEither returns true at every text of bytes. -/
import Derived.Test.YtddbgchmpehffaaAlList
namespace Go.Proofs.Ytddbgchmpehffaa
open Go.RowKit Rw Ints ListMath Draw
set_option linter.unusedVariables false
theorem draw_listeither {a : Option Addr} {len cap : Nat} {zs : List Int} (w0 w : World) (h : IsRow .u8 w0 a len cap zs) (hB : Below w0.heap.size w0 w) :
    Calls Try.prog 17 #[.slice a len cap] w fun e w' => ∃ (zs ys : List Int) (v u : Value), e = .returned (.tuple #[v, u]) ∧ zs.length ≤ 60 ∧ ys.length ≤ 60 ∧ Is w' v zs ∧ Is w' u ys ∧ Below w.heap.size w w' := by
  have HO := hide (draw_listboth w0 w h hB)
  clear h hB
  go_enter Try.func17, Try.ntmps17
  go_wp2_with fail
  refine (unhide HO).mono ?_
  rintro e W ⟨zs, ys, v, u, rfl, h1, h2, h3, h4, h5⟩
  have H3 := hide h3
  have H4 := hide h4
  clear h3 h4
  go_wp2_with fail
  go_ret2
  exact ⟨zs, ys, v, u, rfl, h1, h2, unhide H3, unhide H4, h5⟩
set_option maxRecDepth 100000 in
set_option maxHeartbeats 4000000 in
theorem fnListEither.walk (a0 : Option Addr) (len0 cap0 : Nat) (z0 : List Int) (w : World) (w0 : IsRow .u8 w a0 len0 cap0 z0) :
    Calls Try.prog 4 #[.slice a0 len0 cap0] w fun e w' => e = .returned (.bool true) ∧ Below w.heap.size w w' := by
  have l0 := (row_bytes w0)
  have c00 : len0 ≤ 9223372036854775807 := by have := l0.1; have := l0.2.1; unfold maxLen at this; omega
  have H0 := hide (draw_listeither w w w0 (Below.refl _ _))
  clear l0 w0
  by_cases hb0 : 1048576 < len0
  · go_enter Try.func4, Try.ntmps4
    go_wp2
    go_ret
    exact ⟨rfl, Below.refl _ _⟩
  go_enter Try.func4, Try.ntmps4
  go_wp2_with fail
  refine (unhide H0).mono ?_
  rintro e W ⟨zs, ys, va, vb, rfl, hl, hl', sa, sb, c0⟩
  clear H0
  obtain ⟨aa, ca, ea⟩ : ∃ a c, va = .slice a zs.length c := by obtain ⟨-, a, c, e, -⟩ := sa; exact ⟨a, c, e⟩
  obtain ⟨ab, cb, eb⟩ : ∃ a c, vb = .slice a ys.length c := by obtain ⟨-, a, c, e, -⟩ := sb; exact ⟨a, c, e⟩
  subst ea eb
  have HLa := hide (show zs.length ≤ 4194304 by omega)
  have HLb := hide (show ys.length ≤ 4194304 by omega)
  have HL1 := hide hl
  have HL2 := hide hl'
  clear hl hl'
  go_wp2_with fail
  refine (impl_either sa sb (unhide HLa) (unhide HLb)).mono ?_
  rintro e W1 ⟨v_x, rfl, oo, bb⟩
  have f1_a := sa.below bb
  clear sa
  have f1_b := sb.below bb
  clear sb
  have c1 := c0.trans (bb.mono c0.size)
  clear c0
  have f1_x := is_of_own oo
  clear bb oo
  go_wp2_with fail
  refine (spec_either f1_a f1_b (unhide HLa) (unhide HLb)).mono ?_
  rintro e W2 ⟨v_y, rfl, oo, bb⟩
  have f2_a := f1_a.below bb
  clear f1_a
  have f2_b := f1_b.below bb
  clear f1_b
  have f2_x := f1_x.below bb
  clear f1_x
  have c2 := c1.trans (bb.mono c1.size)
  clear c1
  have f2_y := is_of_own oo
  clear bb oo
  go_wp2_with fail
  refine (al_same f2_x f2_y).mono ?_
  rintro e W3 ⟨rfl, bb⟩
  have f3_a := f2_a.below bb
  clear f2_a
  have f3_b := f2_b.below bb
  clear f2_b
  have f3_x := f2_x.below bb
  clear f2_x
  have f3_y := f2_y.below bb
  clear f2_y
  have c3 := c2.trans (bb.mono c2.size)
  clear c2
  clear bb
  go_wp2_with fail
  clear f3_y
  have HI := hide (impl_either f3_b f3_a (unhide HLb) (unhide HLa))
  rw [res_comm either either_comm] at HI
  refine (unhide HI).mono ?_
  rintro e W4 ⟨v_r, rfl, oo, bb⟩
  have f4_a := f3_a.below bb
  clear f3_a
  have f4_b := f3_b.below bb
  clear f3_b
  have f4_x := f3_x.below bb
  clear f3_x
  have c4 := c3.trans (bb.mono c3.size)
  clear c3
  have f4_r := is_of_own oo
  clear bb oo
  clear HI
  go_wp2_with fail
  refine (al_same f4_r f4_x).mono ?_
  rintro e W5 ⟨rfl, bb⟩
  have f5_a := f4_a.below bb
  clear f4_a
  have f5_b := f4_b.below bb
  clear f4_b
  have f5_x := f4_x.below bb
  clear f4_x
  have f5_r := f4_r.below bb
  clear f4_r
  have c5 := c4.trans (bb.mono c4.size)
  clear c4
  clear bb
  go_wp2_with fail
  clear f5_r
  cases hoa : ok zs
  · have KA := hide hoa
    clear hoa
    refine (spec_ok f5_a).mono ?_
    rintro e W6 ⟨rfl, bb⟩
    rw [unhide KA]
    have f6_a := f5_a.below bb
    clear f5_a
    have f6_b := f5_b.below bb
    clear f5_b
    have f6_x := f5_x.below bb
    clear f5_x
    have c6 := c5.trans (bb.mono c5.size)
    clear c5
    clear bb
    go_wp2_with fail
    refine (spec_either f6_a f6_b (unhide HLa) (unhide HLb)).mono ?_
    rintro e W7 ⟨v_y, rfl, oo, bb⟩
    have f7_a := f6_a.below bb
    clear f6_a
    have f7_b := f6_b.below bb
    clear f6_b
    have f7_x := f6_x.below bb
    clear f6_x
    have c7 := c6.trans (bb.mono c6.size)
    clear c6
    have f7_y := is_of_own oo
    clear bb oo
    go_wp2_with fail
    refine (al_same f7_x f7_y).mono ?_
    rintro e W8 ⟨rfl, bb⟩
    have f8_a := f7_a.below bb
    clear f7_a
    have f8_b := f7_b.below bb
    clear f7_b
    have f8_x := f7_x.below bb
    clear f7_x
    have f8_y := f7_y.below bb
    clear f7_y
    have c8 := c7.trans (bb.mono c7.size)
    clear c7
    clear bb
    go_wp2_with fail
    have HI := hide (impl_either f8_b f8_a (unhide HLb) (unhide HLa))
    rw [res_comm either either_comm] at HI
    refine (unhide HI).mono ?_
    rintro e W9 ⟨v_r, rfl, oo, bb⟩
    have f9_a := f8_a.below bb
    clear f8_a
    have f9_b := f8_b.below bb
    clear f8_b
    have f9_x := f8_x.below bb
    clear f8_x
    have f9_y := f8_y.below bb
    clear f8_y
    have c9 := c8.trans (bb.mono c8.size)
    clear c8
    have f9_r := is_of_own oo
    clear bb oo
    clear HI
    go_wp2_with fail
    refine (al_same f9_r f9_x).mono ?_
    rintro e W10 ⟨rfl, bb⟩
    have f10_a := f9_a.below bb
    clear f9_a
    have f10_b := f9_b.below bb
    clear f9_b
    have f10_x := f9_x.below bb
    clear f9_x
    have f10_y := f9_y.below bb
    clear f9_y
    have f10_r := f9_r.below bb
    clear f9_r
    have c10 := c9.trans (bb.mono c9.size)
    clear c9
    clear bb
    go_wp2
    go_ret
    exact ⟨rfl, c10⟩
  · have KA := hide hoa
    clear hoa
    cases hob : ok ys
    · have KB := hide hob
      clear hob
      refine (spec_ok f5_a).mono ?_
      rintro e W6 ⟨rfl, bb⟩
      rw [unhide KA]
      have f6_a := f5_a.below bb
      clear f5_a
      have f6_b := f5_b.below bb
      clear f5_b
      have f6_x := f5_x.below bb
      clear f5_x
      have c6 := c5.trans (bb.mono c5.size)
      clear c5
      clear bb
      go_wp2_with fail
      refine (spec_ok f6_b).mono ?_
      rintro e W7 ⟨rfl, bb⟩
      rw [unhide KB]
      have f7_a := f6_a.below bb
      clear f6_a
      have f7_b := f6_b.below bb
      clear f6_b
      have f7_x := f6_x.below bb
      clear f6_x
      have c7 := c6.trans (bb.mono c6.size)
      clear c6
      clear bb
      go_wp2_with fail
      refine (spec_either f7_a f7_b (unhide HLa) (unhide HLb)).mono ?_
      rintro e W8 ⟨v_y, rfl, oo, bb⟩
      have f8_a := f7_a.below bb
      clear f7_a
      have f8_b := f7_b.below bb
      clear f7_b
      have f8_x := f7_x.below bb
      clear f7_x
      have c8 := c7.trans (bb.mono c7.size)
      clear c7
      have f8_y := is_of_own oo
      clear bb oo
      go_wp2_with fail
      refine (al_same f8_x f8_y).mono ?_
      rintro e W9 ⟨rfl, bb⟩
      have f9_a := f8_a.below bb
      clear f8_a
      have f9_b := f8_b.below bb
      clear f8_b
      have f9_x := f8_x.below bb
      clear f8_x
      have f9_y := f8_y.below bb
      clear f8_y
      have c9 := c8.trans (bb.mono c8.size)
      clear c8
      clear bb
      go_wp2_with fail
      have HI := hide (impl_either f9_b f9_a (unhide HLb) (unhide HLa))
      rw [res_comm either either_comm] at HI
      refine (unhide HI).mono ?_
      rintro e W10 ⟨v_r, rfl, oo, bb⟩
      have f10_a := f9_a.below bb
      clear f9_a
      have f10_b := f9_b.below bb
      clear f9_b
      have f10_x := f9_x.below bb
      clear f9_x
      have f10_y := f9_y.below bb
      clear f9_y
      have c10 := c9.trans (bb.mono c9.size)
      clear c9
      have f10_r := is_of_own oo
      clear bb oo
      clear HI
      go_wp2_with fail
      refine (al_same f10_r f10_x).mono ?_
      rintro e W11 ⟨rfl, bb⟩
      have f11_a := f10_a.below bb
      clear f10_a
      have f11_b := f10_b.below bb
      clear f10_b
      have f11_x := f10_x.below bb
      clear f10_x
      have f11_y := f10_y.below bb
      clear f10_y
      have f11_r := f10_r.below bb
      clear f10_r
      have c11 := c10.trans (bb.mono c10.size)
      clear c10
      clear bb
      go_wp2
      go_ret
      exact ⟨rfl, c11⟩
    · have KB := hide hob
      clear hob
      refine (spec_ok f5_a).mono ?_
      rintro e W6 ⟨rfl, bb⟩
      rw [unhide KA]
      have f6_a := f5_a.below bb
      clear f5_a
      have f6_b := f5_b.below bb
      clear f5_b
      have f6_x := f5_x.below bb
      clear f5_x
      have c6 := c5.trans (bb.mono c5.size)
      clear c5
      clear bb
      go_wp2_with fail
      refine (spec_ok f6_b).mono ?_
      rintro e W7 ⟨rfl, bb⟩
      rw [unhide KB]
      have f7_a := f6_a.below bb
      clear f6_a
      have f7_b := f6_b.below bb
      clear f6_b
      have f7_x := f6_x.below bb
      clear f6_x
      have c7 := c6.trans (bb.mono c6.size)
      clear c6
      clear bb
      go_wp2_with fail
      refine (impl_both f7_a f7_b (unhide HLa) (unhide HLb)).mono ?_
      rintro e W8 ⟨v_m, rfl, oo, bb⟩
      have f8_a := f7_a.below bb
      clear f7_a
      have f8_b := f7_b.below bb
      clear f7_b
      have f8_x := f7_x.below bb
      clear f7_x
      have c8 := c7.trans (bb.mono c7.size)
      clear c7
      have f8_m := is_of_own oo
      clear bb oo
      go_wp2_with fail
      obtain ⟨am, cm, em⟩ : ∃ a c, v_m = .slice a (res both zs ys).length c := by obtain ⟨-, a, c, e, -⟩ := f8_m; exact ⟨a, c, e⟩
      subst em
      obtain ⟨ax, cx, ex⟩ : ∃ a c, v_x = .slice a (res either zs ys).length c := by obtain ⟨-, a, c, e, -⟩ := f8_x; exact ⟨a, c, e⟩
      subst ex
      obtain ⟨-, ax', cx', ex', -, -, -, hrx⟩ := id f8_x
      simp only [Value.slice.injEq, true_and] at ex'
      obtain ⟨rfl, rfl⟩ := ex'
      obtain ⟨n, hn⟩ : ∃ n, n = (res either zs ys).length := ⟨_, rfl⟩
      have hnb : n ≤ 120 := by have := res_le either zs ys; have := unhide HL1; have := unhide HL2; omega
      rw [← hn] at hrx ⊢
      have HN := hide hn
      clear hn
      have FA := hide f8_a
      have FB := hide f8_b
      clear f8_a f8_b f8_x f8_m
      go_loopw [7] (fun iv wr => ∃ k : Nat, iv = .int .i64 (k : Int) ∧ k ≤ n ∧ Below W8.heap.size W8 wr) (fun iv _ => n - (intOf iv).toNat)
      case atStart => exact ⟨0, rfl, Nat.zero_le _, Below.refl _ _⟩
      case round =>
        obtain ⟨k, rfl, hk, hbel⟩ := hrel
        have hsz := hbel.size
        by_cases hlt : k < n
        · obtain ⟨b, off, rfl, hbl, hcells⟩ := hrx (by omega)
          obtain ⟨X, hX⟩ : ∃ X, X = at' (res either zs ys) k := ⟨_, rfl⟩
          have hq0 : ∀ x : Cls wr.heap.size wr, x.val.cell? ⟨b, off + k, none⟩ = some (.int .i64 X) := fun x => by rw [x.cell (by omega), hX]; exact (hbel.cell (p := ⟨b, _, none⟩) hbl).trans (hcells k _ (flat_get (res either zs ys) k (by have := unhide HN; omega)))
          have HE := has_either (unhide KA) (unhide KB) k (by have := unhide HN; omega)
          rw [← hX] at HE
          have HXX := hide hX
          clear hX
          have hk0 : (0 : Int) ≤ (k : Int) := Int.natCast_nonneg _
          have hk1 : (k : Int) < (n : Int) := by omega
          have HA1 := hide (fun (x : Cls wr.heap.size wr) => alHas_any X (((unhide FA).below hbel).below x.isBelow))
          have HB1 := hide (fun (x : Cls wr.heap.size wr) => alHas_any X (((unhide FB).below hbel).below x.isBelow))
          have hne := cls_nonempty wr.heap.size wr
          replace HE : has zs X = true ∨ (has zs X = false ∧ has ys X = true) := by
            cases h1 : has zs X
            · right
              rw [h1] at HE
              exact ⟨rfl, by simpa using HE⟩
            · exact .inl rfl
          by_cases hk00 : k = 0
          · have hd : decide ((0 : Int) < (k : Int)) = false := by simp; omega
            have hd2 : decide (0 < k) = false := by simp; omega
            clear hk00
            rcases HE with h1 | ⟨h1, h2⟩
            · rw [h1] at HA1
              clear h1
              go_wp2_with fail
              refine region_cls (by kernel_rfl) (by kernel_rfl) ?_
              repeat (go_big_quiet_step ((first | (go_at_call_of 16 (ca); exact cls_same (unhide HA1 _)) | (go_at_call_of 16 (cb); exact cls_same (unhide HB1 _)))))
              refine wpQuiet_nil ?_
              rintro wq ⟨⟨_, hq⟩, rfl⟩
              go_wp2
              go_roundw
              case rel => exact ⟨k + 1, by go_num, by omega, hbel.trans (hq.mono hsz)⟩
              case measure => simp [intOf]; omega
            · rw [h1] at HA1
              rw [h2] at HB1
              clear h1 h2
              go_wp2_with fail
              refine region_cls (by kernel_rfl) (by kernel_rfl) ?_
              repeat (go_big_quiet_step ((first | (go_at_call_of 16 (ca); exact cls_same (unhide HA1 _)) | (go_at_call_of 16 (cb); exact cls_same (unhide HB1 _)))))
              refine wpQuiet_nil ?_
              rintro wq ⟨⟨_, hq⟩, rfl⟩
              go_wp2
              go_roundw
              case rel => exact ⟨k + 1, by go_num, by omega, hbel.trans (hq.mono hsz)⟩
              case measure => simp [intOf]; omega
          · have hkp : 0 < k := by omega
            have hkp' : (0 : Int) < (k : Int) := by omega
            obtain ⟨P, hP⟩ : ∃ P, P = at' (res either zs ys) (k - 1) := ⟨_, rfl⟩
            have hqp : ∀ x : Cls wr.heap.size wr, x.val.cell? ⟨b, off + (k - 1), none⟩ = some (.int .i64 P) := fun x => by rw [x.cell (by omega), hP]; exact (hbel.cell (p := ⟨b, _, none⟩) hbl).trans (hcells (k - 1) _ (flat_get (res either zs ys) (k - 1) (by have := unhide HN; omega)))
            have hPX : P < X := by rw [hP, unhide HXX]; exact up_at (up_res (unhide KA) (unhide KB)) k hkp (by have := unhide HN; omega)
            have hPd : decide (X ≤ P) = false := by simp; omega
            clear hP
            rcases HE with h1 | ⟨h1, h2⟩
            · rw [h1] at HA1
              clear h1
              go_wp2_with fail
              refine region_cls (by kernel_rfl) (by kernel_rfl) ?_
              repeat (go_big_quiet_step ((first | (go_at_call_of 16 (ca); exact cls_same (unhide HA1 _)) | (go_at_call_of 16 (cb); exact cls_same (unhide HB1 _)))))
              refine wpQuiet_nil ?_
              rintro wq ⟨⟨_, hq⟩, rfl⟩
              go_wp2
              go_roundw
              case rel => exact ⟨k + 1, by go_num, by omega, hbel.trans (hq.mono hsz)⟩
              case measure => simp [intOf]; omega
            · rw [h1] at HA1
              rw [h2] at HB1
              clear h1 h2
              go_wp2_with fail
              refine region_cls (by kernel_rfl) (by kernel_rfl) ?_
              repeat (go_big_quiet_step ((first | (go_at_call_of 16 (ca); exact cls_same (unhide HA1 _)) | (go_at_call_of 16 (cb); exact cls_same (unhide HB1 _)))))
              refine wpQuiet_nil ?_
              rintro wq ⟨⟨_, hq⟩, rfl⟩
              go_wp2
              go_roundw
              case rel => exact ⟨k + 1, by go_num, by omega, hbel.trans (hq.mono hsz)⟩
              case measure => simp [intOf]; omega
        · have hd : decide ((k : Int) < (n : Int)) = false := by simp; omega
          have fa := (unhide FA).below hbel
          have cc := c8.trans (hbel.mono c8.size)
          have hcnt := res_count (unhide KA) (unhide KB)
          have hce : ((n : Int) + ((res both zs ys).length : Int) == (zs.length : Int) + (ys.length : Int)) = true := by have := unhide HN; simp; omega
          have hbb : (res both zs ys).length ≤ 120 := by have := res_le both zs ys; have := unhide HL1; have := unhide HL2; omega
          have ha6 := unhide HL1
          have hb6 := unhide HL2
          clear hrx hcnt
          go_wp2_with fail
          have HI := hide (impl_either fa fa (unhide HLa) (unhide HLa))
          rw [res_self either rfl (unhide KA)] at HI
          refine (unhide HI).mono ?_
          rintro e W10 ⟨v_s, rfl, oo, bb⟩
          have f10_a := fa.below bb
          clear fa
          have c10 := cc.trans (bb.mono cc.size)
          clear cc
          have f10_s := is_of_own oo
          clear bb oo
          clear HI
          go_wp2_with fail
          refine (al_same f10_s f10_a).mono ?_
          rintro e W11 ⟨rfl, bb⟩
          have f11_a := f10_a.below bb
          clear f10_a
          have f11_s := f10_s.below bb
          clear f10_s
          have c11 := c10.trans (bb.mono c10.size)
          clear c10
          clear bb
          go_wp2
          go_ret
          exact ⟨rfl, c11⟩
end Go.Proofs.Ytddbgchmpehffaa
