/- My own texts of one claim, laid together by program: FnIndexWordsWalk. -/
import Derived.Test.YtbkolpiekcifpaaG21276fb227
import Derived.Test.YtbkolpiekcifpaaGadb5439fca
import Derived.Test.YtbkolpiekcifpaaG13efb0c789
import Derived.Deep.Cut
import Derived.Deep.CutRange
/- FnIndexWords returns true at every text of bytes. -/
namespace Go.Proofs.Ytbkolpiekcifpaa
open Go.RowKit Rw Draw
set_option linter.unusedVariables false
set_option linter.unusedSimpArgs false
theorem flat_more (ms : List Mat.E) (k : Int) (A B : ByteArray) : Mat.flat (ms ++ [(k, A, B)]) = [] ++ Mat.flat ms ++ [.int .i64 k, .string A, .string B] := by
  unfold Mat.flat
  rw [flatOf_append, flatOf_one, List.nil_append]
  rfl
theorem is_more {w : World} {base : Nat} {v : Value} {n : Nat} {ms : List Mat.E} {k : Int} {A B : ByteArray} (hn : n = ms.length) (h : w.ownsRow base 42 3 v (0 + n + 1) ([] ++ Mat.flat ms ++ [.int .i64 k, .string A, .string B])) : Mat.Is w v (ms ++ [(k, A, B)]) := by
  subst hn
  refine Mat.is_of_own (base := base) ?_
  rw [flat_more, List.length_append, show ms.length + [(k, A, B)].length = 0 + ms.length + 1 by simp]
  exact h
theorem good_more {ms : List Mat.E} {k : Int} {A B : ByteArray} (h : ∀ x ∈ ms, Mat.good x) (h1 : 0 ≤ k) (h2 : k ≤ 10) (hA : A.size ≤ 100) (hB : B.size ≤ 100) : ∀ x ∈ ms ++ [(k, A, B)], Mat.good x := by
  intro x hx
  rw [List.mem_append, List.mem_singleton] at hx
  rcases hx with hx | rfl
  · exact h x hx
  · refine ⟨WalkArith.wf_i64 (by show -9223372036854775808 ≤ k ∧ k ≤ 9223372036854775807; omega), by show A.size ≤ maxLen; unfold maxLen; omega, by show B.size ≤ maxLen; unfold maxLen; omega⟩
set_option maxRecDepth 100000 in
set_option maxHeartbeats 8000000 in
theorem fnIndexWords.walk (a0 : Option Addr) (len0 cap0 : Nat) (z0 : List Int) (w : World) (w0 : IsRow .u8 w a0 len0 cap0 z0) :
    Calls Try.prog 5 #[.slice a0 len0 cap0] w fun e w' => e = .returned (.bool true) ∧ Below w.heap.size w w' := by
  have l0 := (row_bytes w0)
  have c00 : len0 ≤ 9223372036854775807 := by have := l0.1; have := l0.2.1; unfold maxLen at this; omega
  have H0 := hide (draw_indexwords w w w0 (Below.refl _ _))
  clear l0 w0
  obtain ⟨i0, hi, hz0, hz1, hz2⟩ := info_parts Mat.info_e
  by_cases hb0 : 1048576 < len0
  · go_enter Try.func5, Try.ntmps5
    go_wp2
    go_ret
    exact ⟨rfl, Below.refl _ _⟩
  go_enter Try.func5, Try.ntmps5
  go_wp2_with fail
  refine (unhide H0).mono ?_
  rintro e W ⟨zs, nm, ms, va, vb, rfl, hl, hl', hnb, hns, hs, hs', sa, sb, c0⟩
  clear H0
  have HG := hide (fun x (hx : x ∈ zs) => good_smallLL (hs x hx))
  have HG' := hide (fun x (hx : x ∈ ms) => good_smallM (hs' x hx))
  have hz : ms.length ≤ maxLen := by unfold maxLen; omega
  have hmx : 1 ≤ maxLen := by unfold maxLen; omega
  have cW := c0.size
  clear hs hs'
  have XW := hide (fun (V : World) (hb : Below W.heap.size W V) => Lss.impl_words nm (sa.below hb) (sb.below hb) (unhide HG) (unhide HG') hz)
  have SW := hide (fun (V : World) (hb : Below W.heap.size W V) => Lss.spec_words nm (sa.below hb) (sb.below hb) (unhide HG) (unhide HG') hz)
  have MF := hide (fun (V : World) (u : Value) (k : Int) (X : ByteArray) (hb : Below W.heap.size W V) (hu : Mat.Is V u (ms ++ [(k, nm, X)])) (k0 : 0 ≤ k) (k1 : k ≤ 10) (hX : X.size ≤ 100) => Lss.impl_find (sa.below hb) hu (unhide HG) (good_more (unhide HG') k0 k1 (by omega) hX) (by rw [List.length_append]; unfold maxLen; simp; omega))
  obtain ⟨ab, cb, rfl⟩ : ∃ a c, vb = .slice a ms.length c := by obtain ⟨-, a, c, e, -⟩ := sb; exact ⟨a, c, e⟩
  obtain ⟨aa, la, ca, rfl⟩ : ∃ a l c, va = .slice a l c := by obtain ⟨cs, -, ⟨-, a, c, e, -⟩, -⟩ := sa; exact ⟨a, _, c, e⟩
  have HS1 := hide (fun (V : World) (hb : Below W.heap.size W V) => (show Lies V (.slice ab ms.length cb) ms.length 3 (Mat.flat ms) from sb.below hb))
  have HO1 := hide (Mat.flat_oneCell ms)
  obtain ⟨m, hm⟩ : ∃ m, m = ms.length := ⟨_, rfl⟩
  rw [← hm] at hl' XW SW HS1 hz ⊢
  have HMm := hide hm
  clear hm sa sb HG HG' hz
  go_wp2_with fail
  refine (unhide XW _ (Below.refl _ _)).mono ?_
  rintro e w1 ⟨vx, rfl, ox, b1⟩
  have sx1 := hide (Str.is_of_own ox)
  obtain ⟨ax, cx, hvx⟩ : ∃ a c, vx = .slice a (Lss.words ms zs nm).length c := by obtain ⟨-, a, c, e, -⟩ := Str.is_of_own ox; exact ⟨a, c, e⟩
  subst hvx
  have e1 := b1
  clear ox b1 XW
  go_wp2_with fail
  refine (unhide SW _ e1).mono ?_
  rintro e w2 ⟨vs, rfl, os, b2⟩
  have e2 := e1.trans (b2.mono e1.size)
  have sx2 := hide ((unhide sx1).below b2)
  have ss2 := hide (Str.is_of_own os)
  obtain ⟨asx, lsx, csx, rfl⟩ : ∃ a l c, vs = .slice a l c := by obtain ⟨-, a, c, e, -⟩ := Str.is_of_own os; exact ⟨a, _, c, e⟩
  clear os b2 sx1 e1
  go_wp2_with fail
  refine (Str.al_same (unhide sx2) (unhide ss2)).mono ?_
  rintro e w3 ⟨rfl, b3⟩
  have e3 := e2.trans (b3.mono e2.size)
  have sx3 := hide ((unhide sx2).below b3)
  clear b3 sx2 ss2 e2
  have z3 := e3.size
  by_cases hm4 : 4 ≤ m
  · have hm4' : (4 : Int) ≤ (m : Int) := by omega
    go_wp2_with fail
    refine (unhide SW _ e3).mono ?_
    rintro e w5 ⟨vt, rfl, ot, b5⟩
    have e5 := e3.trans (b5.mono e3.size)
    have sx5 := hide ((unhide sx3).below b5)
    have st5 := hide (Str.is_of_own ot)
    obtain ⟨atx, ltx, ctx, rfl⟩ : ∃ a l c, vt = .slice a l c := by obtain ⟨-, a, c, e, -⟩ := Str.is_of_own ot; exact ⟨a, _, c, e⟩
    clear b5 ot sx3 e3
    go_wp2_with fail
    refine (Str.al_same (unhide sx5) (unhide st5)).mono ?_
    rintro e w6 ⟨rfl, b6⟩
    have e6 := e5.trans (b6.mono e5.size)
    have f6 := c0.trans (e6.mono cW)
    clear sx5 st5 b6
    go_wp2_with fail
    go_ret
    exact ⟨rfl, f6⟩
  have hm4f : decide ((4 : Int) ≤ (m : Int)) = false := by simp; omega
  by_cases hn0 : nm.size = 0
  · have l1 := Lss.is_empty hn0
    clear hn0 hnb
    go_wp2_with fail
    refine (unhide SW _ e3).mono ?_
    rintro e w5 ⟨vt, rfl, ot, b5⟩
    have e5 := e3.trans (b5.mono e3.size)
    have sx5 := hide ((unhide sx3).below b5)
    have st5 := hide (Str.is_of_own ot)
    obtain ⟨atx, ltx, ctx, rfl⟩ : ∃ a l c, vt = .slice a l c := by obtain ⟨-, a, c, e, -⟩ := Str.is_of_own ot; exact ⟨a, _, c, e⟩
    clear b5 ot sx3 e3
    go_wp2_with fail
    refine (Str.al_same (unhide sx5) (unhide st5)).mono ?_
    rintro e w6 ⟨rfl, b6⟩
    have e6 := e5.trans (b6.mono e5.size)
    have f6 := c0.trans (e6.mono cW)
    clear sx5 st5 b6
    go_wp2_with fail
    go_ret
    exact ⟨rfl, f6⟩
  have l1 := Lab.not_empty hn0
  have HNB := hide (hnb hn0)
  have hm3 : m < 4 := by omega
  clear hn0 hnb hm4
  obtain ⟨N, hN⟩ : ∃ N, N = (Lss.words ms zs nm).length := ⟨_, rfl⟩
  have hN40 : N ≤ 40 := by rw [hN]; exact Lss.words_len ms zs nm
  obtain ⟨-, ax', cx', hxe, hxc, hxm, -, hxr⟩ := unhide sx3
  simp only [Value.slice.injEq, true_and] at hxe
  obtain ⟨rfl, rfl⟩ := hxe
  rw [← hN] at hxc hxr ⊢
  unfold maxLen at hxm
  have HNN := hide hN
  clear hN sx3 SW
  go_wp2_with fail
  clear hm4f l1
  go_loopw [7] (fun i wr => ∃ k : Nat, k ≤ N ∧ i = .int .i64 k ∧ Below w3.heap.size w3 wr) (fun i _ => N - (intOf i).toNat)
  case atStart => exact ⟨0, Nat.zero_le _, rfl, Below.refl _ _⟩
  case round =>
    obtain ⟨k, hk, rfl, hbel⟩ := hrel
    have hsz := hbel.size
    have hk0 : (0 : Int) ≤ (k : Int) := Int.natCast_nonneg _
    have eW : Below W.heap.size W wr := e3.trans (hbel.mono z3)
    have zW := eW.size
    by_cases hlt : k < N
    · have hk1 : (k : Int) < (N : Int) := by omega
      obtain ⟨xb, xoff, rfl, hxl, hxcells⟩ := hxr (by omega)
      have hxlr : xb < wr.heap.size := by omega
      obtain ⟨X, hX⟩ : ∃ X, X = StrMath.at' (Lss.words ms zs nm) k := ⟨_, rfl⟩
      have hc0 : wr.cell? ⟨xb, xoff + k, none⟩ = some (.string X) := by rw [hX]; exact (hbel.cell (p := ⟨xb, _, none⟩) hxl).trans (hxcells k _ (Str.flat_at _ k (by have := unhide HNN; omega)))
      have HMo := hide (Lss.more_found (nm := nm) (show ms.length < 4 by have := unhide HMm; omega) (show k < (Lss.words ms zs nm).length by have := unhide HNN; omega))
      have HXs := hide (show X.size ≤ 100 by
        rw [hX]
        obtain ⟨i, h1, hA, h2, g1, g2⟩ := Lss.mem_words.1 (Lss.at_mem' (show k < (Lss.words ms zs nm).length by have := unhide HNN; omega))
        rw [g2]
        have := Lss.word_small nm (Lss.allOk_at hA h1)
        omega)
      rw [← hX] at HMo
      have HX := hide hX
      clear hX
      go_upto_region 10 with fail
      go_cut [8] from 45 to 82 (fun mv wx => ∃ a l q, mv = .slice a l q ∧ Hid (Mat.Is wx mv (ms ++ [(1, nm, X)])) ∧ Below wr.heap.size wr wx)
      case first =>
        go_region_law ((first | (refine app_step _ (by rfl) _ _ _ (by rfl) wr.heap.size 42 i0 _ 3 40 Try.underlying43 hi hz0 hz1 hz2 rfl (by omega) _ 0 [] (by rfl) (by first | exact World.ownsRow.drew (Str.own_empty' (Nat.le_refl _) rfl) | exact World.ownsRow.drew (World.ownsRow.alloc (Str.own_empty' (Nat.le_refl _) rfl) _) | exact World.ownsRow.drew (Str.own_empty' (w := wr.alloc _) (by simp <;> omega) (by simp <;> omega))) (.slice ab m cb) m _ (by rfl) (unhide HS1 _ (by first | exact (eW.alloc zW _).drew | exact ((eW.alloc zW _).alloc (by simp <;> omega) _).drew)) (unhide HO1) (by unfold maxLen; omega) (by omega) (by simp <;> omega) ?_; intro v1 w1' o1 g1 a1; have B1 : Below wr.heap.size wr w1' := below_grown (by first | exact ((Below.refl _ _).alloc (Nat.le_refl _) _).drew | exact (((Below.refl _ _).alloc (Nat.le_refl _) _).alloc (by simp <;> omega) _).drew) (by simp <;> omega) g1 (by intro k hk; have e := Option.some.inj hk; simp at e; omega); have s1 := B1.size; have hx1 : w1'.cell? ⟨xb, xoff + k, none⟩ = some (.string X) := (B1.cell (p := ⟨xb, xoff + k, none⟩) hxlr).trans hc0) | (refine app_step _ (by rfl) _ _ _ (by rfl) wr.heap.size 42 i0 _ 3 40 Try.underlying43 hi hz0 hz1 hz2 rfl (by omega) _ (0 + m) _ (by rfl) (o1.alloc _) _ 1 [.int .i64 1, .string nm, .string X] (by rfl) (lies_new rfl rfl hmx) (by simp [Value.oneCell']) (by unfold maxLen; omega) (by omega) (by simp <;> omega) ?_; intro v2 w2' o2 g2 a2; have B2 : Below wr.heap.size wr w2' := below_grown (B1.alloc s1 _) (by simp <;> omega) g2 (own_ge o1); have s2 := B2.size) | (refine app_step _ (by rfl) _ _ _ (by rfl) wr.heap.size 42 i0 _ 3 40 Try.underlying43 hi hz0 hz1 hz2 rfl (by omega) _ (0 + m) _ (by rfl) o1 _ 1 [.int .i64 1, .string nm, .string X] (by rfl) (Lies.grown (by first | exact Lies.drew (Lies.alloc (lies_new rfl rfl hmx) _) | exact Lies.drew (lies_new (w := wr.alloc _) (by simp) rfl hmx)) g1 (fun k hk e' => by have e := Option.some.inj hk; have e2 := Option.some.inj e'; simp at e e2; omega)) (by simp [Value.oneCell']) (by unfold maxLen; omega) (by omega) (by omega) ?_; intro v2 w2' o2 g2 a2; have B2 : Below wr.heap.size wr w2' := below_grown B1 s1 g2 (own_ge o1); have s2 := B2.size)))
        all_goals
          have im := hide (is_more (unhide HMm) o2)
          obtain ⟨ma, ml, mq, rfl⟩ : ∃ a l q, v2 = .slice a l q := by obtain ⟨-, a, q, e, -⟩ := lies_of_own o2; exact ⟨a, _, q, e⟩
          clear o1 g1 a1 o2 g2 a2
          go_wp2_with fail
          go_meet
          exact ⟨_, _, _, rfl, im, B2⟩
      case rest =>
      obtain ⟨ma, ml, mq, rfl, im, B2⟩ := hcut
      have d2 := hbel.trans (B2.mono hsz)
      have eV : Below W.heap.size W wc := eW.trans (B2.mono zW)
      have hc2 : wc.cell? ⟨xb, xoff + k, none⟩ = some (.string X) := (B2.cell (p := ⟨xb, xoff + k, none⟩) hxlr).trans hc0
      have hxl2 : xb < wc.heap.size := by have := B2.size; omega
      have MFk := hide (unhide MF wc.drew _ 1 X eV.drew ((unhide im).below (Below.refl _ _).drew) (by omega) (by omega) (unhide HXs))
      have keep2 := hide (fun o => B2.cell (p := ⟨xb, o, none⟩) hxlr)
      have hL0 : (((Lss.find (ms ++ [(1, nm, X)]) zs).length : Int) == 0) = false := by have := unhide HMo; apply beq_eq_false_iff_ne.2; omega
      have zz := d2.size
      clear B2 im
      by_cases hkp : 0 < k
      · have hkp' : (0 : Int) < (k : Int) := by omega
        have hkpn : decide (0 < k) = true := by simp; omega
        have hkw : wrap64 ((k : Int) - 1) = (k : Int) - 1 := by unfold wrap64; omega
        have hkw2 : IntKind.i64.wrap ((k : Int) - 1) = (k : Int) - 1 := Grl.wrap_ok (by omega) (by omega)
        have hkp1 : (1 : Int) ≤ (k : Int) := by omega
        have hk2 : (0 : Int) ≤ (k : Int) - 1 := by omega
        have hk3 : (k : Int) - 1 < (N : Int) := by omega
        have hk4 : ((k : Int) - 1).toNat = k - 1 := by omega
        obtain ⟨Y, hY⟩ : ∃ Y, Y = StrMath.at' (Lss.words ms zs nm) (k - 1) := ⟨_, rfl⟩
        have hcy : wr.cell? ⟨xb, xoff + (k - 1), none⟩ = some (.string Y) := by rw [hY]; exact (hbel.cell (p := ⟨xb, _, none⟩) hxl).trans (hxcells (k - 1) _ (Str.flat_at _ (k - 1) (by have := unhide HNN; omega)))
        have hlY : StrMath.lt Y X := by rw [hY, unhide HX]; exact Lss.words_lt hkp (by have := unhide HNN; omega)
        have hge : ∀ W, (binOp .geq 9 (.string Y) (.string X)).run Try.prog W = .ok (.bool false) W := fun W => by rw [Lab.run_geq, show Lab.ltS Y X = true from hlY]; rfl
        have hge' : Op.bytesLess Y.toList X.toList = true := hlY
        have hcy2 : wc.cell? ⟨xb, xoff + (k - 1), none⟩ = some (.string Y) := (unhide keep2 _).trans hcy
        have hcyd : wc.drew.cell? ⟨xb, xoff + (k - 1), none⟩ = some (.string Y) := by simpa using hcy2
        have hcd : wc.drew.cell? ⟨xb, xoff + k, none⟩ = some (.string X) := by simpa using hc2
        have hcyx : (fun V : World => V.cell? ⟨xb, xoff + (k - 1), none⟩ = some (.string Y) ∧ V.cell? ⟨xb, xoff + k, none⟩ = some (.string X)) wc := ⟨hcy2, hc2⟩
        clear hY hlY hcy hc0 keep2 HX HXs HMo
        go_wp2_with fail
        refine Grl.start (S := fun V => V.cell? ⟨xb, xoff + (k - 1), none⟩ = some (.string Y) ∧ V.cell? ⟨xb, xoff + k, none⟩ = some (.string X)) (by kernel_rfl) (by exact ⟨hcyd, hcd⟩) (fun hHeld => ?_)
        refine Grl.yes 0 (v := ?_) rfl (by kernel_rfl) (by kernel_rfl) (by kernel_rfl) (fun _ _ _ h => h) (by kernel_rfl) ?_ (by assumption) ?_
        rotate_left
        · (intro w hSw; (try dsimp only at hSw); go_simp; try with_reducible rfl)
        simp only [Act.put, List.setIfInBounds_toArray, List.set_cons_zero, List.set_cons_succ]
        refine Grl.yes 1 (v := ?_) rfl (by kernel_rfl) (by kernel_rfl) (by kernel_rfl) (fun _ _ _ h => h) (by kernel_rfl) ?_ (by assumption) ?_
        rotate_left
        · (intro w hSw; (try dsimp only at hSw); go_simp; try with_reducible rfl)
        simp only [Act.put, List.setIfInBounds_toArray, List.set_cons_zero, List.set_cons_succ]
        refine Grl.yes 2 (v := ?_) rfl (by kernel_rfl) (by kernel_rfl) (by kernel_rfl) (fun _ _ _ h => h) (by kernel_rfl) ?_ (by assumption) ?_
        rotate_left
        · (intro w hSw; (try dsimp only at hSw); go_simp; try with_reducible rfl)
        simp only [Act.put, List.setIfInBounds_toArray, List.set_cons_zero, List.set_cons_succ]
        refine Grl.yes 3 (v := ?_) rfl (by kernel_rfl) (by kernel_rfl) (by kernel_rfl) (fun _ _ _ h => h) (by kernel_rfl) ?_ (by assumption) ?_
        rotate_left
        · (intro w hSw; (try dsimp only at hSw); go_simp; try with_reducible rfl)
        simp only [Act.put, List.setIfInBounds_toArray, List.set_cons_zero, List.set_cons_succ]
        refine Grl.yes 4 (v := ?_) rfl (by kernel_rfl) (by kernel_rfl) (by kernel_rfl) (fun _ _ _ h => h) (by kernel_rfl) ?_ (by assumption) ?_
        rotate_left
        · (intro w hSw; (try dsimp only at hSw); go_simp; try with_reducible rfl)
        simp only [Act.put, List.setIfInBounds_toArray, List.set_cons_zero, List.set_cons_succ]
        refine Grl.yes 5 (v := ?_) rfl (by kernel_rfl) (by kernel_rfl) (by kernel_rfl) (fun _ _ _ h => h) (by kernel_rfl) ?_ (by assumption) ?_
        rotate_left
        · (intro w hSw; (try dsimp only at hSw); go_simp; try with_reducible rfl)
        simp only [Act.put, List.setIfInBounds_toArray, List.set_cons_zero, List.set_cons_succ]
        refine Grl.yes 6 (v := ?_) rfl (by kernel_rfl) (by kernel_rfl) (by kernel_rfl) (fun _ _ _ h => h) (by kernel_rfl) ?_ (by assumption) ?_
        rotate_left
        · (intro w hSw; (try dsimp only at hSw); go_simp; try with_reducible rfl)
        simp only [Act.put, List.setIfInBounds_toArray, List.set_cons_zero, List.set_cons_succ]
        refine Grl.yes 7 (v := ?_) rfl (by kernel_rfl) (by kernel_rfl) (by kernel_rfl) (fun _ _ _ h => h) (by kernel_rfl) ?_ (by assumption) ?_
        rotate_left
        · (intro w hSw; (try dsimp only at hSw); go_simp; try with_reducible rfl)
        simp only [Act.put, List.setIfInBounds_toArray, List.set_cons_zero, List.set_cons_succ]
        refine Grl.yes 8 (v := ?_) rfl (by kernel_rfl) (by kernel_rfl) (by kernel_rfl) (fun _ _ _ h => h) (by kernel_rfl) ?_ (by assumption) ?_
        rotate_left
        · (intro w hSw; (try dsimp only at hSw); go_simp; try with_reducible rfl)
        simp only [Act.put, List.setIfInBounds_toArray, List.set_cons_zero, List.set_cons_succ]
        refine Grl.yes 9 (v := ?_) rfl (by kernel_rfl) (by kernel_rfl) (by kernel_rfl) (fun _ _ _ h => h) (by kernel_rfl) ?_ (by assumption) ?_
        rotate_left
        · (intro w hSw; (try dsimp only at hSw); go_simp; try with_reducible rfl)
        simp only [Act.put, List.setIfInBounds_toArray, List.set_cons_zero, List.set_cons_succ]
        refine Grl.yes 10 (v := ?_) rfl (by kernel_rfl) (by kernel_rfl) (by kernel_rfl) (fun _ _ _ h => h) (by kernel_rfl) ?_ (by assumption) ?_
        rotate_left
        · (intro w hSw; (try dsimp only at hSw); go_simp; try with_reducible rfl)
        simp only [Act.put, List.setIfInBounds_toArray, List.set_cons_zero, List.set_cons_succ]
        refine Grl.yes 11 (v := ?_) rfl (by kernel_rfl) (by kernel_rfl) (by kernel_rfl) (fun _ _ _ h => h) (by kernel_rfl) ?_ (by assumption) ?_
        rotate_left
        · (intro w hSw; (try dsimp only at hSw); go_simp; try with_reducible rfl)
        simp only [Act.put, List.setIfInBounds_toArray, List.set_cons_zero, List.set_cons_succ]
        refine Grl.yes 12 (v := ?_) rfl (by kernel_rfl) (by kernel_rfl) (by kernel_rfl) (fun _ _ _ h => h) (by kernel_rfl) ?_ (by assumption) ?_
        rotate_left
        · (intro w hSw; (try dsimp only at hSw); go_simp; try with_reducible rfl)
        simp only [Act.put, List.setIfInBounds_toArray, List.set_cons_zero, List.set_cons_succ]
        refine Grl.yes 13 (v := ?_) rfl (by kernel_rfl) (by kernel_rfl) (by kernel_rfl) (fun _ _ _ h => h) (by kernel_rfl) ?_ (by assumption) ?_
        rotate_left
        · (intro w hSw; (try dsimp only at hSw); go_simp; try with_reducible rfl)
        simp only [Act.put, List.setIfInBounds_toArray, List.set_cons_zero, List.set_cons_succ]
        refine Grl.yes 14 (v := ?_) rfl (by kernel_rfl) (by kernel_rfl) (by kernel_rfl) (fun _ _ _ h => h) (by kernel_rfl) ?_ (by assumption) ?_
        rotate_left
        · (intro w hSw; (try dsimp only at hSw); go_simp; try with_reducible rfl)
        simp only [Act.put, List.setIfInBounds_toArray, List.set_cons_zero, List.set_cons_succ]
        refine Grl.yes 15 (v := ?_) rfl (by kernel_rfl) (by kernel_rfl) (by kernel_rfl) (fun _ _ _ h => h) (by kernel_rfl) ?_ (by assumption) ?_
        rotate_left
        · (intro w hSw; (try dsimp only at hSw); go_simp; try with_reducible rfl)
        simp only [Act.put, List.setIfInBounds_toArray, List.set_cons_zero, List.set_cons_succ]
        refine Grl.yes 16 (v := ?_) rfl (by kernel_rfl) (by kernel_rfl) (by kernel_rfl) (fun _ _ _ h => h) (by kernel_rfl) ?_ (by assumption) ?_
        rotate_left
        · (intro w hSw; (try dsimp only at hSw); go_simp; try with_reducible rfl)
        simp only [Act.put, List.setIfInBounds_toArray, List.set_cons_zero, List.set_cons_succ]
        refine Grl.one 17 rfl (by kernel_rfl) (fun K hK => ?_)
        go_simp
        go_wp2_with (refine (unhide MFk).mono ?_; rintro e w5 ⟨r, rfl, o5, b5⟩; obtain ⟨ra, rc, rfl⟩ : ∃ a c, r = .slice a (Lss.find (ms ++ [(1, nm, X)]) zs).length c := (by obtain ⟨-, a, c, e, -⟩ := Ints.is_of_own o5; exact ⟨a, c, e⟩); have hcy3 := (b5.cell (p := ⟨xb, xoff + (k - 1), none⟩) (by simp; omega)).trans hcyd; have hc3 := (b5.cell (p := ⟨xb, xoff + k, none⟩) (by simp; omega)).trans hcd)
        refine hK.out _ _ (by exact ⟨hcy3, hc3⟩) (fun hHeld => ?_)
        clear hK K
        refine Grl.yes 18 (v := ?_) rfl (by kernel_rfl) (by kernel_rfl) (by kernel_rfl) (fun _ _ _ h => h) (by kernel_rfl) ?_ (by assumption) ?_
        rotate_left
        · (intro w hSw; (try dsimp only at hSw); go_simp; try with_reducible rfl)
        simp only [Act.put, List.setIfInBounds_toArray, List.set_cons_zero, List.set_cons_succ]
        refine Grl.yes 19 (v := ?_) rfl (by kernel_rfl) (by kernel_rfl) (by kernel_rfl) (fun _ _ _ h => h) (by kernel_rfl) ?_ (by assumption) ?_
        rotate_left
        · (intro w hSw; (try dsimp only at hSw); go_simp; try with_reducible rfl)
        simp only [Act.put, List.setIfInBounds_toArray, List.set_cons_zero, List.set_cons_succ]
        refine Grl.yes 20 (v := ?_) rfl (by kernel_rfl) (by kernel_rfl) (by kernel_rfl) (fun _ _ _ h => h) (by kernel_rfl) ?_ (by assumption) ?_
        rotate_left
        · (intro w hSw; (try dsimp only at hSw); go_simp; try with_reducible rfl)
        simp only [Act.put, List.setIfInBounds_toArray, List.set_cons_zero, List.set_cons_succ]
        refine wpAnyH_done (by kernel_rfl) ?_ _
        have d5 := d2.drew.trans (b5.mono (by simp; omega))
        clear b5 o5 hcy3 hc3 hcyd hcd hcy2 hc2 hcyx MFk
        go_wp2_with fail
        go_roundw
        case rel => exact ⟨k + 1, by omega, by go_num, d5⟩
        case measure => simp [intOf]; omega
      · obtain rfl : k = 0 := by omega
        clear hkp hc0 hc2 keep2 HX HXs HMo
        go_wp2_with fail
        refine Grl.start (S := fun _ => True) (by kernel_rfl) (by trivial) (fun hHeld => ?_)
        refine Grl.yes 0 (v := ?_) rfl (by kernel_rfl) (by kernel_rfl) (by kernel_rfl) (fun _ _ _ h => h) (by kernel_rfl) ?_ (by assumption) ?_
        rotate_left
        · (intro w hSw; (try dsimp only at hSw); go_simp; try with_reducible rfl)
        simp only [Act.put, List.setIfInBounds_toArray, List.set_cons_zero, List.set_cons_succ]
        refine Grl.yes 1 (v := ?_) rfl (by kernel_rfl) (by kernel_rfl) (by kernel_rfl) (fun _ _ _ h => h) (by kernel_rfl) ?_ (by assumption) ?_
        rotate_left
        · (intro w hSw; (try dsimp only at hSw); go_simp; try with_reducible rfl)
        simp only [Act.put, List.setIfInBounds_toArray, List.set_cons_zero, List.set_cons_succ]
        refine Grl.yes 2 (v := ?_) rfl (by kernel_rfl) (by kernel_rfl) (by kernel_rfl) (fun _ _ _ h => h) (by kernel_rfl) ?_ (by assumption) ?_
        rotate_left
        · (intro w hSw; (try dsimp only at hSw); go_simp; try with_reducible rfl)
        simp only [Act.put, List.setIfInBounds_toArray, List.set_cons_zero, List.set_cons_succ]
        refine Grl.no 3 rfl (by kernel_rfl) (by kernel_rfl) (by kernel_rfl) (fun _ _ _ h => h) (by kernel_rfl) (by assumption) ?_
        simp only [Act.put, List.setIfInBounds_toArray, List.set_cons_zero, List.set_cons_succ]
        refine Grl.no 4 rfl (by kernel_rfl) (by kernel_rfl) (by kernel_rfl) (fun _ _ _ h => h) (by kernel_rfl) (by assumption) ?_
        simp only [Act.put, List.setIfInBounds_toArray, List.set_cons_zero, List.set_cons_succ]
        refine Grl.no 5 rfl (by kernel_rfl) (by kernel_rfl) (by kernel_rfl) (fun _ _ _ h => h) (by kernel_rfl) (by assumption) ?_
        simp only [Act.put, List.setIfInBounds_toArray, List.set_cons_zero, List.set_cons_succ]
        refine Grl.no 6 rfl (by kernel_rfl) (by kernel_rfl) (by kernel_rfl) (fun _ _ _ h => h) (by kernel_rfl) (by assumption) ?_
        simp only [Act.put, List.setIfInBounds_toArray, List.set_cons_zero, List.set_cons_succ]
        refine Grl.no 7 rfl (by kernel_rfl) (by kernel_rfl) (by kernel_rfl) (fun _ _ _ h => h) (by kernel_rfl) (by assumption) ?_
        simp only [Act.put, List.setIfInBounds_toArray, List.set_cons_zero, List.set_cons_succ]
        refine Grl.no 8 rfl (by kernel_rfl) (by kernel_rfl) (by kernel_rfl) (fun _ _ _ h => h) (by kernel_rfl) (by assumption) ?_
        simp only [Act.put, List.setIfInBounds_toArray, List.set_cons_zero, List.set_cons_succ]
        refine Grl.no 9 rfl (by kernel_rfl) (by kernel_rfl) (by kernel_rfl) (fun _ _ _ h => h) (by kernel_rfl) (by assumption) ?_
        simp only [Act.put, List.setIfInBounds_toArray, List.set_cons_zero, List.set_cons_succ]
        refine Grl.no 10 rfl (by kernel_rfl) (by kernel_rfl) (by kernel_rfl) (fun _ _ _ h => h) (by kernel_rfl) (by assumption) ?_
        simp only [Act.put, List.setIfInBounds_toArray, List.set_cons_zero, List.set_cons_succ]
        refine Grl.no 11 rfl (by kernel_rfl) (by kernel_rfl) (by kernel_rfl) (fun _ _ _ h => h) (by kernel_rfl) (by assumption) ?_
        simp only [Act.put, List.setIfInBounds_toArray, List.set_cons_zero, List.set_cons_succ]
        refine Grl.no 12 rfl (by kernel_rfl) (by kernel_rfl) (by kernel_rfl) (fun _ _ _ h => h) (by kernel_rfl) (by assumption) ?_
        simp only [Act.put, List.setIfInBounds_toArray, List.set_cons_zero, List.set_cons_succ]
        refine Grl.yes 13 (v := ?_) rfl (by kernel_rfl) (by kernel_rfl) (by kernel_rfl) (fun _ _ _ h => h) (by kernel_rfl) ?_ (by assumption) ?_
        rotate_left
        · (intro w hSw; (try dsimp only at hSw); go_simp; try with_reducible rfl)
        simp only [Act.put, List.setIfInBounds_toArray, List.set_cons_zero, List.set_cons_succ]
        refine Grl.yes 14 (v := ?_) rfl (by kernel_rfl) (by kernel_rfl) (by kernel_rfl) (fun _ _ _ h => h) (by kernel_rfl) ?_ (by assumption) ?_
        rotate_left
        · (intro w hSw; (try dsimp only at hSw); go_simp; try with_reducible rfl)
        simp only [Act.put, List.setIfInBounds_toArray, List.set_cons_zero, List.set_cons_succ]
        refine Grl.yes 15 (v := ?_) rfl (by kernel_rfl) (by kernel_rfl) (by kernel_rfl) (fun _ _ _ h => h) (by kernel_rfl) ?_ (by assumption) ?_
        rotate_left
        · (intro w hSw; (try dsimp only at hSw); go_simp; try with_reducible rfl)
        simp only [Act.put, List.setIfInBounds_toArray, List.set_cons_zero, List.set_cons_succ]
        refine Grl.yes 16 (v := ?_) rfl (by kernel_rfl) (by kernel_rfl) (by kernel_rfl) (fun _ _ _ h => h) (by kernel_rfl) ?_ (by assumption) ?_
        rotate_left
        · (intro w hSw; (try dsimp only at hSw); go_simp; try with_reducible rfl)
        simp only [Act.put, List.setIfInBounds_toArray, List.set_cons_zero, List.set_cons_succ]
        refine Grl.one 17 rfl (by kernel_rfl) (fun K hK => ?_)
        go_simp
        go_wp2_with (refine (unhide MFk).mono ?_; rintro e w5 ⟨r, rfl, o5, b5⟩; obtain ⟨ra, rc, rfl⟩ : ∃ a c, r = .slice a (Lss.find (ms ++ [(1, nm, X)]) zs).length c := (by obtain ⟨-, a, c, e, -⟩ := Ints.is_of_own o5; exact ⟨a, c, e⟩))
        refine hK.out _ _ (by trivial) (fun hHeld => ?_)
        clear hK K
        refine Grl.yes 18 (v := ?_) rfl (by kernel_rfl) (by kernel_rfl) (by kernel_rfl) (fun _ _ _ h => h) (by kernel_rfl) ?_ (by assumption) ?_
        rotate_left
        · (intro w hSw; (try dsimp only at hSw); go_simp; try with_reducible rfl)
        simp only [Act.put, List.setIfInBounds_toArray, List.set_cons_zero, List.set_cons_succ]
        refine Grl.yes 19 (v := ?_) rfl (by kernel_rfl) (by kernel_rfl) (by kernel_rfl) (fun _ _ _ h => h) (by kernel_rfl) ?_ (by assumption) ?_
        rotate_left
        · (intro w hSw; (try dsimp only at hSw); go_simp; try with_reducible rfl)
        simp only [Act.put, List.setIfInBounds_toArray, List.set_cons_zero, List.set_cons_succ]
        refine Grl.yes 20 (v := ?_) rfl (by kernel_rfl) (by kernel_rfl) (by kernel_rfl) (fun _ _ _ h => h) (by kernel_rfl) ?_ (by assumption) ?_
        rotate_left
        · (intro w hSw; (try dsimp only at hSw); go_simp; try with_reducible rfl)
        simp only [Act.put, List.setIfInBounds_toArray, List.set_cons_zero, List.set_cons_succ]
        refine wpAnyH_done (by kernel_rfl) ?_ _
        have d5 := d2.drew.trans (b5.mono (by simp; omega))
        clear b5 o5 MFk
        go_wp2_with fail
        go_roundw
        case rel => exact ⟨1, by omega, by go_num, d5⟩
        case measure => simp [intOf]; omega
    · obtain rfl : k = N := by omega
      have hkf : decide ((k : Int) < (k : Int)) = false := by simp
      have HNF := hide (Lss.not_found (zs := zs) (show ms.length < 4 by have := unhide HMm; omega) (unhide HNB))
      rw [← unhide HNN] at HNF
      clear hxr hxc
      go_wp2_with (first | (at_builtin; refine app_wp _ rfl _ _ _ rfl wr.heap.size 42 i0 _ 3 40 Try.underlying43 hi hz0 hz1 hz2 rfl (by omega) _ 0 [] rfl (Str.own_empty' (Nat.le_refl _) rfl) (.slice ab m cb) m _ rfl (unhide HS1 _ (eW.alloc zW _)) (unhide HO1) (by unfold maxLen; omega) (by omega) (by simp) ?_; intro v1 w1' o1 g1 a1; have B1 : Below wr.heap.size wr w1' := below_grown ((Below.refl _ _).alloc (Nat.le_refl _) _) (by simp) g1 (by intro k hk; cases hk; exact Nat.le_refl _); have s1 := B1.size) | (at_builtin; refine app_wp _ rfl _ _ _ rfl wr.heap.size 42 i0 _ 3 40 Try.underlying43 hi hz0 hz1 hz2 rfl (by omega) _ (0 + m) _ rfl (o1.alloc _) _ 1 [.int .i64 2, .string nm, .string ByteArray.empty] rfl (lies_new rfl rfl hmx) (by simp [Value.oneCell']) (by unfold maxLen; omega) (by omega) (by simp; omega) ?_; intro v2 w2' o2 g2 a2; have B2 : Below wr.heap.size wr w2' := below_grown (B1.alloc s1 _) (by simp; omega) g2 (own_ge o1)))
      have im := hide (is_more (unhide HMm) o2)
      obtain ⟨ma, ml, mq, rfl⟩ : ∃ a l q, v2 = .slice a l q := by obtain ⟨-, a, q, e, -⟩ := lies_of_own o2; exact ⟨a, _, q, e⟩
      have eV : Below W.heap.size W w2' := eW.trans (B2.mono zW)
      have MFk := hide (unhide MF w2' _ 2 ByteArray.empty eV (unhide im) (by omega) (by omega) (by decide))
      have f2 : Below w.heap.size w w2' := c0.trans (eV.mono cW)
      clear o1 g1 a1 o2 g2 a2 B1 B2 im
      go_wp2_with fail
      refine (unhide MFk).mono ?_
      rintro e w5 ⟨r, rfl, o5, b5⟩
      have f5 := f2.trans (b5.mono f2.size)
      obtain ⟨ra, rc, rfl⟩ : ∃ a c, r = .slice a (Lss.find (ms ++ [(2, nm, ByteArray.empty)]) zs).length c := by obtain ⟨-, a, c, e, -⟩ := Ints.is_of_own o5; exact ⟨a, c, e⟩
      obtain ⟨L2, hL2⟩ : ∃ L, L = (Lss.find (ms ++ [(2, nm, ByteArray.empty)]) zs).length := ⟨_, rfl⟩
      rw [← hL2] at HNF ⊢
      clear b5 o5 MFk hL2
      by_cases hp : 0 < k
      · have q1 : (0 : Int) < (k : Int) := by omega
        have q2 : (0 : Int) < (L2 : Int) := by
          have := unhide HNF
          rw [decide_eq_decide] at this
          have := this.2 hp
          omega
        have q3 : 0 < L2 := by omega
        go_wp2_with fail
        go_ret
        first | exact ⟨rfl, f5⟩ | exact ⟨show Ending.returned (.bool (decide (0 < L2))) = _ by rw [decide_eq_true q3], f5⟩
      · have q1 : decide ((0 : Int) < (k : Int)) = false := by simp; omega
        have q2 : decide ((0 : Int) < (L2 : Int)) = false := by
          have := unhide HNF
          rw [decide_eq_decide] at this
          have h3 : ¬ 0 < L2 := fun h => hp (this.1 h)
          simp
          omega
        have q3 : ¬ 0 < L2 := by simp at q2; omega
        go_wp2_with fail
        go_ret
        first | exact ⟨rfl, f5⟩ | exact ⟨show Ending.returned (.bool !decide (0 < L2)) = _ by rw [decide_eq_false q3]; rfl, f5⟩
end Go.Proofs.Ytbkolpiekcifpaa
