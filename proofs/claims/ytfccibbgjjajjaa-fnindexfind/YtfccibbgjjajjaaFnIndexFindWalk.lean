/- FnIndexFind returns true at every text of bytes. -/
import Derived.Test.YtfccibbgjjajjaaFindMath
import Derived.Test.YtfccibbgjjajjaaDrawFind
import Derived.Test.YtfccibbgjjajjaaIdxFind
import Derived.Test.YtfccibbgjjajjaaIntsImpl
import Derived.Test.YtfccibbgjjajjaaAlInts
namespace Go.Proofs.Ytfccibbgjjajjaa
open Go.RowKit Rw Draw
set_option linter.unusedVariables false
theorem is_nilM (w : World) : Mat.Is w (.slice none 0 0) [] := ⟨rfl, none, 0, rfl, Nat.le_refl _, Nat.zero_le _, fun _ => rfl, fun h => absurd h (by decide)⟩
set_option maxRecDepth 100000 in
set_option maxHeartbeats 8000000 in
theorem fnIndexFind.walk (a0 : Option Addr) (len0 cap0 : Nat) (z0 : List Int) (w : World) (w0 : IsRow .u8 w a0 len0 cap0 z0) :
    Calls Try.prog 7 #[.slice a0 len0 cap0] w fun e w' => e = .returned (.bool true) ∧ Below w.heap.size w w' := by
  have l0 := (row_bytes w0)
  have c00 : len0 ≤ 9223372036854775807 := by have := l0.1; have := l0.2.1; unfold maxLen at this; omega
  have H0 := hide (draw_indexfind w w w0 (Below.refl _ _))
  clear l0 w0
  by_cases hb0 : 1048576 < len0
  · go_enter Try.func7, Try.ntmps7
    go_wp2
    go_ret
    exact ⟨rfl, Below.refl _ _⟩
  go_enter Try.func7, Try.ntmps7
  go_wp2_with fail
  refine (unhide H0).mono ?_
  rintro e W ⟨zs, ms, va, vb, rfl, hl, hl', hs, hs', sa, sb, c0⟩
  clear H0
  have HG := hide (fun x (hx : x ∈ zs) => good_smallLL (hs x hx))
  have HG' := hide (fun x (hx : x ∈ ms) => good_smallM (hs' x hx))
  have hz : ms.length ≤ maxLen := by unfold maxLen; omega
  have cW := c0.size
  clear hs hs'
  have XF := hide (fun (V : World) (hb : Below W.heap.size W V) => Lss.impl_find (sa.below hb) (sb.below hb) (unhide HG) (unhide HG') hz)
  have SF := hide (fun (V : World) (hb : Below W.heap.size W V) => Lss.spec_find (sa.below hb) (sb.below hb) (unhide HG) (unhide HG') hz)
  have NF := hide (fun (V : World) (hb : Below W.heap.size W V) => Lss.impl_find (sa.below hb) (is_nilM V) (unhide HG) (fun x hx => by cases hx) (Nat.zero_le _))
  have SM := hide (fun (V : World) (hb : Below W.heap.size W V) => Mat.spec_ok (sb.below hb) (unhide HG') hz)
  obtain ⟨ab, cb, rfl⟩ : ∃ a c, vb = .slice a ms.length c := by obtain ⟨-, a, c, e, -⟩ := sb; exact ⟨a, c, e⟩
  have OF := hide (fun (i : Nat) (hi : i < ms.length) => (show ∃ R, (∀ W, (Instr.slice 37 (.slice ab ms.length cb) (some (.int .i64 (i : Int))) (some (.int .i64 ((i : Int) + 1))) none).run Try.prog W = .ok R W) ∧ (∃ a l q, R = .slice a l q) ∧ ∀ (V : World) (hb : Below W.heap.size W V), Calls Try.prog 21 #[va, R] V fun e w' => ∃ r, e = .returned r ∧ w'.ownsRow V.heap.size 3 1 r (Lss.find [Mat.at' ms i] zs).length (Ints.flat (Lss.find [Mat.at' ms i] zs)) ∧ Below V.heap.size V w' by
    obtain ⟨R, h1, h2, h3⟩ := one_match sb hi
    exact ⟨R, h1, h3, fun V hb => Lss.impl_find (sa.below hb) (h2.below hb) (unhide HG) (fun x hx => by rw [List.mem_singleton] at hx; rw [hx, Mat.at_get ms i hi]; exact unhide HG' _ (List.getElem_mem _)) (by unfold maxLen; simp)⟩))
  obtain ⟨cs, hcs, hL, hE⟩ := sa
  have ML := hide (fun (V : World) (hb : Below W.heap.size W V) (i : Nat) (hi : i < zs.length) => Mat.impl_let (sb.below hb) ((hE i hi).below hb) (unhide HG') (unhide HG _ (Lss.at_mem zs i hi)).2 hz)
  obtain ⟨-, aa, ca, rfl, hca, hma, -, hra⟩ := hL
  unfold maxLen at hma
  obtain ⟨n, hn⟩ : ∃ n, n = zs.length := ⟨_, rfl⟩
  obtain ⟨m, hm⟩ : ∃ m, m = ms.length := ⟨_, rfl⟩
  rw [← hn] at hl hca hra hcs XF SF NF OF ML ⊢
  rw [← hm] at hl' OF XF SF SM ML ⊢
  have HN := hide hn
  have HMm := hide hm
  have HC := hide hcs
  clear hn hm hcs hE sb HG HG' hz
  go_wp2_with fail
  refine (unhide XF _ (Below.refl _ _)).mono ?_
  rintro e w1 ⟨vx, rfl, ox, b1⟩
  have sx1 := hide (Ints.is_of_own ox)
  obtain ⟨ax, cx, hvx⟩ : ∃ a c, vx = .slice a (Lss.find ms zs).length c := by obtain ⟨-, a, c, e, -⟩ := Ints.is_of_own ox; exact ⟨a, c, e⟩
  subst hvx
  have e1 := b1
  clear ox
  go_wp2_with fail
  refine (unhide SF _ e1).mono ?_
  rintro e w2 ⟨vs, rfl, os, b2⟩
  have e2 := e1.trans (b2.mono e1.size)
  have sx2 := hide ((unhide sx1).below b2)
  have ss2 := hide (Ints.is_of_own os)
  obtain ⟨asx, lsx, csx, rfl⟩ : ∃ a l c, vs = .slice a l c := by obtain ⟨-, a, c, e, -⟩ := Ints.is_of_own os; exact ⟨a, _, c, e⟩
  clear os b2 sx1 b1
  go_wp2_with fail
  refine (Ints.al_same (unhide sx2) (unhide ss2)).mono ?_
  rintro e w3 ⟨rfl, b3⟩
  have e3 := e2.trans (b3.mono e2.size)
  have sx3 := hide ((unhide sx2).below b3)
  clear b3 sx2 ss2 e2 e1
  go_wp2_with fail
  refine (unhide NF _ e3).mono ?_
  rintro e w4 ⟨vn, rfl, on, b4⟩
  have e4 := e3.trans (b4.mono e3.size)
  have sx4 := hide ((unhide sx3).below b4)
  obtain ⟨an, cn, hvn⟩ : ∃ a c, vn = .slice a (Lss.find [] zs).length c := by obtain ⟨-, a, c, e, -⟩ := Ints.is_of_own on; exact ⟨a, c, e⟩
  subst hvn
  clear b4 on sx3 e3
  cases hA : Lss.allOk zs
  · have hlen : (((Lss.find [] zs).length : Int) == (n : Int)) = false := by
      have h1 : (Lss.find [] zs).length = 0 := by rw [Lss.find_no hA]; rfl
      have h2 := Lss.allOk_some hA (by have := unhide HN; omega)
      have h3 := unhide HN
      rw [h1]
      simp
      omega
    clear hA
    go_wp2_with fail
    refine (unhide SF _ e4).mono ?_
    rintro e w5 ⟨vt, rfl, ot, b5⟩
    have e5 := e4.trans (b5.mono e4.size)
    have sx5 := hide ((unhide sx4).below b5)
    have st5 := hide (Ints.is_of_own ot)
    obtain ⟨atx, ltx, ctx, rfl⟩ : ∃ a l c, vt = .slice a l c := by obtain ⟨-, a, c, e, -⟩ := Ints.is_of_own ot; exact ⟨a, _, c, e⟩
    clear b5 ot sx4 e4
    go_wp2_with fail
    refine (Ints.al_same (unhide sx5) (unhide st5)).mono ?_
    rintro e w6 ⟨rfl, b6⟩
    have e6 := e5.trans (b6.mono e5.size)
    have f6 := c0.trans (e6.mono cW)
    clear sx5 st5 b6
    go_wp2_with fail
    go_ret
    exact ⟨rfl, f6⟩
  have hlen : (((Lss.find [] zs).length : Int) == (n : Int)) = true := by
    have h1 := Lss.find_nil_len hA
    have h3 := unhide HN
    simp
    omega
  have HA := hide hA
  clear hA
  go_wp2_with fail
  clear hlen
  refine (unhide NF _ e4).mono ?_
  rintro e w5 ⟨vy, rfl, oy, b5⟩
  have e5 := e4.trans (b5.mono e4.size)
  have sx5 := hide ((unhide sx4).below b5)
  have sy5 := hide (show Ints.Is w5 vy (Lss.yTo ms zs 0) by rw [← Lss.find_nil (unhide HA)]; exact Ints.is_of_own oy)
  obtain ⟨ay, ly, cy, rfl⟩ : ∃ a l c, vy = .slice a l c := by obtain ⟨-, a, c, e, -⟩ := Ints.is_of_own oy; exact ⟨a, _, c, e⟩
  clear b5 oy sx4 e4 NF SF XF
  have z5 := e5.size
  go_wp2_with fail
  go_loopw [6, 7] (fun yv i wr => ∃ k : Nat, k ≤ m ∧ i = .int .i64 k ∧ (∃ a l q, yv = .slice a l q) ∧ Hid (Ints.Is wr yv (Lss.yTo ms zs k)) ∧ Below w5.heap.size w5 wr) (fun _ i _ => m - (intOf i).toNat)
  case atStart => exact ⟨0, Nat.zero_le _, rfl, ⟨_, _, _, rfl⟩, sy5, Below.refl _ _⟩
  case round =>
    clear sy5
    obtain ⟨k, hk, rfl, ⟨oa, ol, oq, rfl⟩, HY, hbel⟩ := hrel
    have hsz := hbel.size
    have hk0 : (0 : Int) ≤ (k : Int) := Int.natCast_nonneg _
    have eW : Below W.heap.size W wr := e5.trans (hbel.mono z5)
    by_cases hlt : k < m
    · have hk1 : (k : Int) < (m : Int) := by omega
      obtain ⟨R, hR, ⟨ra, rl, rq, rfl⟩, HRF⟩ := unhide OF k hlt
      have HF := hide (HRF wr eW)
      have HS := hide (Lss.y_step (unhide HA) (show k < ms.length by have := unhide HMm; omega))
      have HL1 := hide (show (Lss.yTo ms zs k).length ≤ 4194304 by have := Lss.y_len ms zs k; have := unhide HN; omega)
      have HL2 := hide (show (Lss.find [Mat.at' ms k] zs).length ≤ 4194304 by have := Lss.find_len [Mat.at' ms k] zs; omega)
      clear HRF
      go_wp2_with fail
      refine (unhide HF).mono ?_
      rintro e w6 ⟨vf, rfl, of, b6⟩
      have d6 := hbel.trans (b6.mono hsz)
      have sy6 := hide ((unhide HY).below b6)
      have sf6 := hide (Ints.is_of_own of)
      obtain ⟨fa, fl, fc, rfl⟩ : ∃ a l c, vf = .slice a l c := by obtain ⟨-, a, c, e, -⟩ := Ints.is_of_own of; exact ⟨a, _, c, e⟩
      clear b6 of HF hR HY
      have HB := hide (Ints.impl_both (unhide sy6) (unhide sf6) (unhide HL1) (unhide HL2))
      rw [unhide HS] at HB
      clear sy6 sf6
      go_wp2_with fail
      refine (unhide HB).mono ?_
      rintro e w7 ⟨vg, rfl, og, b7⟩
      have d7 := d6.trans (b7.mono d6.size)
      have sg7 := hide (Ints.is_of_own og)
      obtain ⟨ga, gl, gc, rfl⟩ : ∃ a l c, vg = .slice a l c := by obtain ⟨-, a, c, e, -⟩ := Ints.is_of_own og; exact ⟨a, _, c, e⟩
      clear b7 og HB
      go_wp2_with fail
      go_roundw
      case rel => exact ⟨k + 1, by omega, by go_num, ⟨_, _, _, rfl⟩, sg7, d7⟩
      case measure => simp [intOf]; omega
    · obtain rfl : k = m := by omega
      have hkf : decide ((k : Int) < (k : Int)) = false := by simp
      clear OF
      obtain ⟨wo, hwo⟩ : ∃ wo, wo = wr := ⟨_, rfl⟩
      subst hwo
      have sx6 := hide ((unhide sx5).below hbel)
      obtain ⟨N, hN⟩ : ∃ N, N = (Lss.find ms zs).length := ⟨_, rfl⟩
      have HX := hide (fun (j : Nat) (hj : j < N) => (show ∃ i : Nat, i < zs.length ∧ ListMath.at' (Lss.find ms zs) j = (i : Int) ∧ Mat.mlet ms (Lss.at' zs i) = true from Lss.find_let (by rw [← hN]; exact hj)))
      have hN40 : N ≤ 40 := by rw [hN]; exact Lss.find_len ms zs
      obtain ⟨-, ax', cx', hxe, hxc, hxm, -, hxr⟩ := unhide sx6
      simp only [Value.slice.injEq, true_and] at hxe
      obtain ⟨rfl, rfl⟩ := hxe
      rw [← hN] at hxc hxr ⊢
      unfold maxLen at hxm
      have HNN := hide hN
      clear hN
      go_wp2_with fail
      clear hkf
      go_loopw [8] (fun i wr => ∃ j : Nat, j ≤ N ∧ i = .int .i64 j ∧ Below wo.heap.size wo wr) (fun i _ => N - (intOf i).toNat)
      case atStart => exact ⟨0, Nat.zero_le _, rfl, Below.refl _ _⟩
      case round =>
        obtain ⟨j, hj, rfl, hbj⟩ := hrel
        have hsj := hbj.size
        have hj0 : (0 : Int) ≤ (j : Int) := Int.natCast_nonneg _
        have eV : Below W.heap.size W wr := eW.trans (hbj.mono eW.size)
        by_cases hjt : j < N
        · have hj1 : (j : Int) < (N : Int) := by omega
          obtain ⟨i, hi, hie, hil⟩ := unhide HX j hjt
          obtain ⟨xb, xoff, rfl, hxl, hxcells⟩ := hxr (by omega)
          have hxc0 : wr.cell? ⟨xb, xoff + j, none⟩ = some (.int .i64 (i : Int)) := by
            have := hxcells j _ (Ints.flat_get (Lss.find ms zs) j (by have := unhide HNN; omega))
            rw [hie] at this
            exact (hbj.cell (p := ⟨xb, _, none⟩) hxl).trans this
          have HLt := hide (unhide ML wr eV i (by have := unhide HN; omega))
          rw [hil] at HLt
          rw [← unhide HN] at hi
          obtain ⟨b, off, rfl, hbl, hcells⟩ := hra (by omega)
          have fa := Lss.flat_at cs i (by have := unhide HC; omega)
          have hc0 : wr.cell? ⟨b, off + i, none⟩ = some (Lss.cat cs i) := (eV.cell (p := ⟨b, _, none⟩) hbl).trans (hcells i _ fa)
          have hi0 : (0 : Int) ≤ (i : Int) := Int.natCast_nonneg _
          have hi1 : (i : Int) < (n : Int) := by omega
          obtain ⟨c1, hC⟩ : ∃ c1, c1 = Lss.cat cs i := ⟨_, rfl⟩
          rw [← hC] at hc0 HLt
          clear hC fa hie hil hxcells hcells
          go_wp2_with fail
          refine (unhide HLt).mono ?_
          rintro e w8 ⟨rfl, b8⟩
          have d8 := hbj.trans (b8.mono hsj)
          clear b8 HLt
          go_wp2_with fail
          go_roundw
          case rel => exact ⟨j + 1, by omega, by go_num, d8⟩
          case measure => simp [intOf]; omega
        · obtain rfl : j = N := by omega
          have hjf : decide ((j : Int) < (j : Int)) = false := by simp
          have sx8 := hide ((unhide sx6).below hbj)
          have sy8 := hide ((unhide HY).below hbj)
          have f0 : Below w.heap.size w wr := c0.trans (eV.mono cW)
          cases hM : Mat.ok ms
          · have HMo := hide (unhide SM wr eV)
            rw [hM] at HMo
            clear hM
            go_wp2_with fail
            refine (unhide HMo).mono ?_
            rintro e w9 ⟨rfl, b9⟩
            have f9 := f0.trans (b9.mono f0.size)
            go_wp2_with fail
            go_ret
            exact ⟨rfl, f9⟩
          · have HMo := hide (unhide SM wr eV)
            have HE := hide (Lss.y_end (unhide HA) hM)
            rw [hM] at HMo
            clear hM
            go_wp2_with fail
            refine (unhide HMo).mono ?_
            rintro e w9 ⟨rfl, b9⟩
            have f9 := f0.trans (b9.mono f0.size)
            have sx9 := hide ((unhide sx8).below b9)
            have sy9 := hide (show Ints.Is w9 (.slice oa ol oq) (Lss.find ms zs) by rw [unhide HE, ← unhide HMm]; exact (unhide sy8).below b9)
            rw [← unhide HNN] at sx9
            go_wp2_with fail
            refine (Ints.al_same (zs := Lss.find ms zs) (show Lies w9 (.slice ax j cx) (Lss.find ms zs).length 1 (Ints.flat (Lss.find ms zs)) by rw [← unhide HNN]; exact unhide sx9) (unhide sy9)).mono ?_
            rintro e w10 ⟨rfl, b10⟩
            have f10 := f9.trans (b10.mono f9.size)
            clear b10 b9
            go_wp2_with fail
            go_ret
            exact ⟨rfl, f10⟩
end Go.Proofs.Ytfccibbgjjajjaa
