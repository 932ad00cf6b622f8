/- My own texts of one claim, laid together by program: GReg3, EntCut, FnTableOneWalk. -/
import Derived.Test.YtlboekimnhgfdaaGreatGf4b634e24e
import Derived.Test.YtlboekimnhgfdaaGreatGe77bb4e215
import Derived.Test.YtlboekimnhgfdaaGreatGdb5fa6ac22
import Derived.Test.YtlboekimnhgfdaaGreatGcec203178b
import Derived.Test.YtlboekimnhgfdaaGreatG4412f2cd47
/- A region of which three operations may come first. No condition. -/
namespace Go.Proofs.YtlboekimnhgfdaaGreat.Grl
open Go.RowKit
section
variable {P : Program} {l : List Oper} {Q : Exit → Act → World → Prop} {md : Region.Mode} {S : World → Prop}
theorem three (i j k : Nat) {oi oj ok : Oper} {fuel : Nat} {listed : Array Bool} {a : Act} {w : World} (hi : l[i]? = some oi) (hj : l[j]? = some oj) (hk : l[k]? = some ok) (hr : Region.ready md l.toArray listed = [i, j, k])
    (h1 : ∀ K' : Act → World → Prop, Shut (∀ a w, S w → (S w → wpAnyH P md l.toArray Q S fuel (listed.setIfInBounds i true) a w) → K' a w) → if Region.wanted oi (yielded l.toArray a.tmps) = true then Oper.wp P oi a w K' Q else K' (a.put oi.dst undef) w)
    (h2 : ∀ K' : Act → World → Prop, Shut (∀ a w, S w → (S w → wpAnyH P md l.toArray Q S fuel (listed.setIfInBounds j true) a w) → K' a w) → if Region.wanted oj (yielded l.toArray a.tmps) = true then Oper.wp P oj a w K' Q else K' (a.put oj.dst undef) w)
    (h3 : ∀ K' : Act → World → Prop, Shut (∀ a w, S w → (S w → wpAnyH P md l.toArray Q S fuel (listed.setIfInBounds k true) a w) → K' a w) → if Region.wanted ok (yielded l.toArray a.tmps) = true then Oper.wp P ok a w K' Q else K' (a.put ok.dst undef) w) :
    wpAnyH P md l.toArray Q S (fuel + 1) listed a w :=
  wpAnyH_ready hr (by simp) (AllReadyH.cons (by simpa using hi) h1 (AllReadyH.cons (by simpa using hj) h2 (AllReadyH.cons (by simpa using hk) h3 AllReadyH.nil)))
end
end Go.Proofs.YtlboekimnhgfdaaGreat.Grl

/- One entry of several, cut out. No condition. -/
namespace Go.Proofs.YtlboekimnhgfdaaGreat.Ent
open Go.RowKit Rw
set_option linter.unusedVariables false
theorem size_ent : (sizeOf (Tryz.prog.elem 34)).run Tryz.prog = fun w => .ok 3 w := by kernel_rfl
theorem mid_is {w : World} {a : Option Addr} {N cap k : Nat} {b : List E} (h : Is w (.slice a N cap) b) (hN : N = b.length) (hk : k < N) :
    ∃ (a' : Option Addr) (q : Nat), (∀ W, (Instr.slice 34 (.slice a N cap) (some (.int .i64 (k : Int))) (some (.int .i64 ((k : Int) + 1))) none).run Tryz.prog W = .ok (.slice a' 1 q) W) ∧ Is w (.slice a' 1 q) [at' b k] := by
  obtain ⟨cs, hcs, hL, hE⟩ := h
  rw [← hN] at hL
  have hc : N ≤ cap := by obtain ⟨-, a', cap', h1, h2, -⟩ := hL; simp only [Value.slice.injEq, true_and] at h1; omega
  have h1 := take_lies (k := 1) (cut_lies hL (i := k) (by omega)) (by omega)
  refine ⟨if cap = k then a else a.map (·.add (k * 3)), cap - k, fun W => ?_, ?_⟩
  rotate_left
  · refine ⟨[cat cs k], rfl, ?_, fun i hi => ?_⟩
    · have e : flatOf cl [cat cs k] = ((flatOf cl cs).drop (k * 3)).take (1 * 3) := by
        rw [← flatOf_drop clk, ← flatOf_take clk, List.drop_eq_getElem_cons (by omega), cat_get cs k (by omega)]
        rfl
      rw [e]
      exact h1
    · simp only [List.length_cons, List.length_nil] at hi
      obtain rfl : i = 0 := by omega
      exact hE k (by omega)
  · have e := run_slice_lh (P := Tryz.prog) W 34 a N cap (by kernel_rfl) .i64 .i64 (k : Int) ((k : Int) + 1) (by omega) (by omega) (by omega)
    rw [e]
    show ((sizeOf (Tryz.prog.elem 34)).run Tryz.prog W).andThen _ = _
    rw [size_ent]
    have h2 : ((k : Int) + 1).toNat = k + 1 := by omega
    simp [sliced, h2]
end Go.Proofs.YtlboekimnhgfdaaGreat.Ent

/- FnTableOne returns true at every text of bytes. -/
namespace Go.Proofs.YtlboekimnhgfdaaGreat
open Go.RowKit Draw Rw
set_option linter.unusedVariables false
set_option linter.unusedSimpArgs false
set_option maxRecDepth 100000 in
set_option maxHeartbeats 32000000 in
theorem fnTableOne.walk (a0 : Option Addr) (len0 cap0 : Nat) (z0 : List Int) (w : World) (w0 : IsRow .u8 w a0 len0 cap0 z0) :
    Calls Tryz.prog 8 #[.slice a0 len0 cap0] w fun e w' => e = .returned (.bool true) ∧ Below w.heap.size w w' := by
  have l0 := (row_bytes w0)
  have c0 : len0 ≤ 9223372036854775807 := by have := l0.1; have := l0.2.1; unfold maxLen at this; omega
  have H0 := hide (draw_tadd w w w0 (Below.refl _ _))
  clear l0 w0
  by_cases hb0 : 1048576 < len0
  · go_enter Tryz.func8, Tryz.ntmps8
    go_wp2
    go_ret
    exact ⟨rfl, Below.refl _ _⟩
  go_enter Tryz.func8, Tryz.ntmps8
  go_wp2_with fail
  refine (unhide H0).mono ?_
  rintro e W1 ⟨L, v, bv, b, H, F, rfl, hTG, hv, hB7, hbv, b1⟩
  have hgL : Hid (∀ x ∈ L, Row.good x) := fun x hx => (hTG.1.2 x hx).1
  have hlL : Hid (L.length ≤ maxLen) := by have := hTG.1.1; show L.length ≤ maxLen; unfold maxLen; omega
  have hHF := hTG.2
  have hOky : Hid (Tab.Okay b) := entB_okay hB7.2
  have hb7 := hB7.1
  obtain ⟨va, vq, rfl⟩ := Tab.row_form hv
  obtain ⟨vn, hvn⟩ : ∃ n, n = L.length := ⟨_, rfl⟩
  rw [← hvn] at hv ⊢
  obtain ⟨ba, bq, rfl⟩ := ent_form hbv
  obtain ⟨bn, hbn⟩ : ∃ n, n = b.length := ⟨_, rfl⟩
  have HBN := hide hbn
  rw [← hbn] at hbv hb7 ⊢
  clear H0 hTG hvn hB7 hbn
  obtain ⟨sd2, sf2, so2, bb2, zz2⟩ := Tab.box_new (w := W1) (base := w.heap.size) (.slice va vn vq) H F b1.size
  obtain ⟨V2, hV2⟩ : ∃ V, W1.alloc (.cells #[.slice va vn vq, .int .i64 H, .int .i64 0] 30) = V := ⟨_, rfl⟩
  rw [hV2] at sd2 sf2 so2 bb2 zz2
  obtain ⟨W2, hW2⟩ : ∃ V, V2.setCell ⟨W1.heap.size, 2, none⟩ (.int .i64 F) = V := ⟨_, rfl⟩
  rw [hW2] at so2 bb2 zz2
  have HV := hide (hv.below bb2)
  have HBv := hide (hbv.below bb2)
  have HK := hide (fun (X : World) (hb : Below W2.heap.size W2 X) => Tab.box_three (own_below so2 hb))
  have d2 := b1.trans (bb2.mono b1.size)
  have HOk := hide (fun X (hb : Below W2.heap.size W2 X) => Row.spec_table (H := H) (F := F) ((unhide HV).below hb) (unhide hgL) (unhide hlL))
  have HOi := hide (fun X (hb : Below W2.heap.size W2 X) => Row.impl_table (H := H) (F := F) ((unhide HV).below hb) (unhide hgL) (unhide hlL))
  have HI := hide (Tab.impl_tadd H F (unhide HV) (unhide hgL) (unhide hlL) (unhide HBv) (unhide hOky))
  have HS := hide (fun X (hb : Below W2.heap.size W2 X) => Tab.spec_tadd H F ((unhide HV).below hb) (unhide hgL) (unhide hlL) ((unhide HBv).below hb) (unhide hOky))
  obtain ⟨⟨⟨X, XH, XF⟩, kc⟩, hX⟩ : ∃ t, t = Tab.tadd L H F b := ⟨_, rfl⟩
  rw [← hX] at HI HS
  have HX := hide hX
  obtain ⟨k0, k1, k2⟩ := unhide HK W2 (Below.refl _ _)
  clear hX hv hbv bb2 so2 b1
  go_wp2_with fail
  refine (unhide HI).mono ?_
  rintro e W3 ⟨x, rfl, ox, c3⟩
  obtain ⟨xa, xn, xq, rfl⟩ := ox.form
  clear k0 k1 k2 sd2 sf2 hV2 hW2 HI
  have z3 := c3.size
  have z2 : W1.heap.size < W2.heap.size := zz2
  obtain ⟨sd4, sf4, so4, bb4, zz4⟩ := Tab.box_new (w := W3) (base := W2.heap.size) (.slice xa xn xq) XH XF (by omega)
  obtain ⟨V4, hV4⟩ : ∃ V, W3.alloc (.cells #[.slice xa xn xq, .int .i64 XH, .int .i64 0] 30) = V := ⟨_, rfl⟩
  rw [hV4] at sd4 sf4 so4 bb4 zz4
  obtain ⟨W4, hW4⟩ : ∃ V, V4.setCell ⟨W3.heap.size, 2, none⟩ (.int .i64 XF) = V := ⟨_, rfl⟩
  rw [hW4] at so4 bb4 zz4
  have SX4 := hide (ox.is.below bb4)
  have c4 := c3.trans (bb4.mono c3.size)
  have HKx := hide (fun (X : World) (hb : Below W4.heap.size W4 X) => Tab.box_three (own_below so4 hb))
  have HS4 := hide (unhide HS W4 c4)
  obtain ⟨k0, k1, k2⟩ := unhide HK W4 c4
  clear ox bb4 so4 c3 HS
  go_wp2_with fail
  refine (unhide HS4).mono ?_
  rintro e W5 ⟨y, rfl, oy, b5⟩
  obtain ⟨ya, yn, yq, rfl⟩ := oy.form
  clear k0 k1 k2 sd4 sf4 hV4 hW4 HS4
  have z4 := c4.size
  have z5 := b5.size
  have z43 : W3.heap.size < W4.heap.size := zz4
  obtain ⟨sd6, sf6, so6, bb6, zz6⟩ := Tab.box_new (w := W5) (base := W4.heap.size) (.slice ya yn yq) XH XF (by omega)
  obtain ⟨V6, hV6⟩ : ∃ V, W5.alloc (.cells #[.slice ya yn yq, .int .i64 XH, .int .i64 0] 30) = V := ⟨_, rfl⟩
  rw [hV6] at sd6 sf6 so6 bb6 zz6
  obtain ⟨W6, hW6⟩ : ∃ V, V6.setCell ⟨W5.heap.size, 2, none⟩ (.int .i64 XF) = V := ⟨_, rfl⟩
  rw [hW6] at so6 bb6 zz6
  have b46 := b5.trans (bb6.mono b5.size)
  have SX6 := hide ((unhide SX4).below b46)
  have SY6 := hide (oy.is.below bb6)
  have c6 := c4.trans (b46.mono c4.size)
  have HKK := hide (fun (X : World) (hb : Below W6.heap.size W6 X) => And.intro (unhide HK X (c6.trans (hb.mono c6.size))) (And.intro (unhide HKx X (b46.trans (hb.mono b46.size))) (Tab.box_three (own_below so6 hb))))
  have z65 : W5.heap.size < W6.heap.size := zz6
  clear oy b5 bb6 so6 c4 SX4 HK HKx b46
  have HAl := hide (Tab.al_table (H := XH) (F := XF) (unhide SX6) (unhide SY6))
  have hkk : (kc != kc) = false := by simp
  have hkq : (kc == kc) = true := by simp
  obtain ⟨⟨k0, k1, k2⟩, ⟨j0, j1, j2⟩, ⟨i0, i1, i2⟩⟩ := unhide HKK W6 (Below.refl _ _)
  go_wp2_with fail
  refine (unhide HAl).mono ?_
  rintro e w7 ⟨rfl, b7⟩
  have c7 := c6.trans (b7.mono c6.size)
  clear k0 k1 k2 j0 j1 j2 i0 i1 i2 HAl
  obtain ⟨⟨k0, k1, k2⟩, ⟨j0, j1, j2⟩, ⟨i0, i1, i2⟩⟩ := unhide HKK w7 b7
  go_wp2_with fail
  refine (unhide HOk w7 c7).mono ?_
  rintro e w8 ⟨rfl, b8⟩
  have b68 := b7.trans (b8.mono b7.size)
  have c8 := c7.trans (b8.mono c7.size)
  clear HOk HOi k0 k1 k2 j0 j1 j2 i0 i1 i2 b7 b8 c7
  have HAl := hide (Tab.al_table (H := XH) (F := XF) ((unhide SX6).below b68) ((unhide SY6).below b68))
  obtain ⟨⟨k0, k1, k2⟩, ⟨j0, j1, j2⟩, ⟨i0, i1, i2⟩⟩ := unhide HKK w8 b68
  cases hT : Row.tableB L H F
  · clear hT
    go_wp2_with fail
    refine (unhide HAl).mono ?_
    rintro e w9 ⟨rfl, b9⟩
    have d9 := d2.trans ((c8.trans (b9.mono c8.size)).mono d2.size)
    go_wp2
    go_ret
    exact ⟨rfl, d9⟩
  have HT := hide hT
  clear hT
  by_cases hn0 : bn = 0
  · have hq0 : ((bn : Int) == 0) = true := by simp; omega
    go_wp2_with fail
    refine (unhide HAl).mono ?_
    rintro e w9 ⟨rfl, b9⟩
    have d9 := d2.trans ((c8.trans (b9.mono c8.size)).mono d2.size)
    go_wp2
    go_ret
    exact ⟨rfl, d9⟩
  have hq0 : ((bn : Int) == 0) = false := by simp; omega
  by_cases hn6 : (6 : Int) < (bn : Int)
  · go_wp2_with fail
    refine (unhide HAl).mono ?_
    rintro e w9 ⟨rfl, b9⟩
    have d9 := d2.trans ((c8.trans (b9.mono c8.size)).mono d2.size)
    go_wp2
    go_ret
    exact ⟨rfl, d9⟩
  have hl : 1 ≤ b.length ∧ b.length ≤ 6 := by rw [← unhide HBN]; omega
  have hXe : ((X, XH, XF), kc) = Tab.addE (L, H, F) b := by rw [unhide HX]; exact Tab.tadd_yes (unhide HT)
  have HStop := hide (fun (k : Int) (h2 : (Tab.runT (L, H, F) b).2 = k) (h3 : k ≠ 0) => show kc = k from by have := hXe; rw [Tab.addE_stop hl h2 h3, Prod.mk.injEq] at this; exact this.2)
  have HFine := hide (fun (t' : Tab.T3) (h2 : Tab.runT (L, H, F) b = (t', 0)) => show (X, XH, XF) = t' ∧ kc = 0 from by have := hXe; rw [Tab.addE_fine hl h2, Prod.mk.injEq] at this; exact this)
  have z8 := c8.size
  have z86 := b68.size
  obtain ⟨sd9, sf9, so9, bb9, zz9⟩ := Tab.box_new (w := w8) (base := w8.heap.size) (.slice va vn vq) H F (Nat.le_refl _)
  obtain ⟨V9, hV9⟩ : ∃ V, w8.alloc (.cells #[.slice va vn vq, .int .i64 H, .int .i64 0] 30) = V := ⟨_, rfl⟩
  rw [hV9] at sd9 sf9 so9 bb9 zz9
  obtain ⟨W9, hW9⟩ : ∃ V, V9.setCell ⟨w8.heap.size, 2, none⟩ (.int .i64 F) = V := ⟨_, rfl⟩
  rw [hW9] at so9 bb9 zz9
  have b69 := b68.trans (bb9.mono b68.size)
  have HK9 := hide (fun (X : World) (hb : Below w8.heap.size w8 X) => unhide HKK X (b68.trans (hb.mono b68.size)))
  have SX8 := hide ((unhide SX6).below b68)
  have HV8 := hide (((unhide HV).below c8).below bb9)
  have HB8 := hide ((unhide HBv).below c8)
  have hso9 := hide so9
  have d8 := hide (d2.trans (c8.mono d2.size))
  have z98 : w8.heap.size < W9.heap.size := zz9
  clear hXe hkk hkq HAl SX6 SY6 HKK b68 HX so9 hl
  go_wp2_with fail
  clear k0 k1 k2 j0 j1 j2 i0 i1 i2 sd9 sf9 hV9 hW9
  go_loopw [10] (fun iv wr => ∃ (k : Nat) (R : List Row.E) (H' : Int) (ra : Option Addr) (rl rq : Nat), iv = .int .i64 (k : Int) ∧ k ≤ bn ∧ Hid (Tab.runT (L, H, F) (b.take k) = ((R, H', F), 0)) ∧ Hid (Row.tableB R H' F = true) ∧ Hid (wr.ownsRow w8.heap.size 30 3 (.slice (some ⟨w8.heap.size, 0, none⟩) 1 1) 1 [.slice ra rl rq, .int .i64 H', .int .i64 F]) ∧ Hid (Row.Is wr (.slice ra rl rq) R) ∧ Below w8.heap.size w8 wr ∧ w8.heap.size < wr.heap.size) (fun iv _ => bn - (intOf iv).toNat)
  case atStart => exact ⟨0, L, H, va, vn, vq, rfl, Nat.zero_le _, hide rfl, HT, hso9, HV8, bb9, z98⟩
  case round =>
    clear hso9 HV8 bb9 z98
    obtain ⟨k, R, H', ra, rl, rq, rfl, hk, HRun, HTb, HOw, HRi, hbel, hyb⟩ := hrel
    have hsz := hbel.size
    have hk00 : (0 : Int) ≤ (k : Int) := Int.natCast_nonneg _
    by_cases hlt : k < bn
    · have hkz : k < b.length := by rw [← unhide HBN]; exact hlt
      have hk1 : (k : Int) < (bn : Int) := by omega
      obtain ⟨sa, sq, hsl, hsi⟩ := Ent.mid_is (k := k) ((unhide HB8).below hbel) (unhide HBN) hlt
      have hw0 : -9223372036854775808 ≤ (k : Int) + 1 ∧ (k : Int) + 1 ≤ 9223372036854775807 := by omega
      have hRok := Tab.table_ok (unhide HTb)
      have hOk1 : Tab.Okay [Ent.at' b k] := fun e he => by rw [List.mem_singleton] at he; rw [he]; exact unhide hOky _ (Ent.at_mem b k hkz)
      have hgR := Row.fine_good (Row.fine_ok hRok)
      have hlR : R.length ≤ maxLen := by have := Row.ok_len hRok; unfold maxLen; omega
      have HAdd := hide (fun (X : World) (hb : Below wr.heap.size wr X) => Tab.impl_tadd H' F ((unhide HRi).below hb) hgR hlR (hsi.below hb) hOk1)
      obtain ⟨⟨⟨Z, ZH, ZF⟩, kz⟩, hZ⟩ : ∃ t, t = Tab.tadd R H' F [Ent.at' b k] := ⟨_, rfl⟩
      rw [← hZ] at HAdd
      have hZe : ((Z, ZH, ZF), kz) = Tab.addE (R, H', F) [Ent.at' b k] := by rw [hZ]; exact Tab.tadd_yes (unhide HTb)
      have HNx := hide (Tab.runT_next hkz (unhide HRun))
      have HZS := hide (show kz ≠ 0 → kc = kz from fun h0 => by
        have h1 : (1 ≤ [Ent.at' b k].length ∧ [Ent.at' b k].length ≤ 6) := by simp
        have h2 : (Tab.oneE (R, H', F) (Ent.at' b k)).2 = kz := by
          by_cases h3 : (Tab.oneE (R, H', F) (Ent.at' b k)).2 = 0
          · obtain ⟨t', ht'⟩ : ∃ t', Tab.oneE (R, H', F) (Ent.at' b k) = (t', 0) := ⟨(Tab.oneE (R, H', F) (Ent.at' b k)).1, by rw [← h3]⟩
            rw [Tab.addE_fine h1 (by rw [Tab.runT_one]; exact ht'), Prod.mk.injEq] at hZe
            exact absurd hZe.2 h0
          · rw [Tab.addE_stop h1 (by rw [Tab.runT_one]) h3, Prod.mk.injEq] at hZe
            exact hZe.2.symm
        exact unhide HStop kz (by rw [Tab.runT_stop hkz (unhide HRun) (by rw [h2]; exact h0)]; exact h2) h0)
      have HZF := hide (show kz = 0 → ZF = F ∧ Tab.runT (L, H, F) (b.take (k + 1)) = ((Z, ZH, F), 0) ∧ Row.tableB Z ZH F = true from fun h0 => by
        have h1 : (1 ≤ [Ent.at' b k].length ∧ [Ent.at' b k].length ≤ 6) := by simp
        have h2 : Tab.oneE (R, H', F) (Ent.at' b k) = ((Z, ZH, ZF), 0) := by
          by_cases h3 : (Tab.oneE (R, H', F) (Ent.at' b k)).2 = 0
          · obtain ⟨t', ht'⟩ : ∃ t', Tab.oneE (R, H', F) (Ent.at' b k) = (t', 0) := ⟨(Tab.oneE (R, H', F) (Ent.at' b k)).1, by rw [← h3]⟩
            rw [Tab.addE_fine h1 (by rw [Tab.runT_one]; exact ht'), Prod.mk.injEq] at hZe
            rw [ht', hZe.1]
          · rw [Tab.addE_stop h1 (by rw [Tab.runT_one]) h3, Prod.mk.injEq] at hZe
            exact absurd (hZe.2.symm.trans h0) h3
        have hF := (Tab.one_says (Tab.table_ok (unhide HTb)) h2).1
        subst hF
        exact ⟨rfl, by rw [unhide HNx, h2], Tab.one_table (unhide HTb) h2⟩)
      have HSy := hide (fun (X : World) (hb : Below wr.heap.size wr X) => Tab.box_three (own_below (unhide HOw) hb))
      have eW : Below wr.heap.size wr wr.drew := (Below.refl _ _).drew
      have zW : wr.drew.heap.size = wr.heap.size := by simp
      obtain ⟨wA, hwA⟩ : ∃ V, wr.drew.alloc (.cells #[.slice none 0 0, .int .i64 0, .int .i64 0] 30) = V := ⟨_, rfl⟩
      have bA : Below wr.heap.size wr wA := eW.trans (by rw [← hwA, ← zW]; exact (Below.refl _ _).alloc (Nat.le_refl _) _)
      have zA : wA.heap.size = wr.heap.size + 1 := by rw [← hwA]; simp
      have PA : wA.ownsRow wr.heap.size 30 3 (.slice (some ⟨wr.heap.size, 0, none⟩) 1 1) 1 [.slice none 0 0, .int .i64 0, .int .i64 0] := by
        rw [← hwA]
        have := Tab.own_new3 (w := wr.drew) (base := wr.heap.size) (t := 30) (cs := #[.slice none 0 0, .int .i64 0, .int .i64 0]) (Nat.le_of_eq zW.symm) rfl
        rw [zW] at this
        exact this
      have u1 := Tab.wrap_in (n := (k : Int) + 1) hw0.1 hw0.2
      have u2 : wrap64 ((k : Int) + 1) = (k : Int) + 1 := IntWalk.wrap64_in ((k : Int) + 1) hw0
      obtain ⟨k0, k1, k2⟩ := unhide HSy wr (Below.refl _ _)
      clear hRok hOk1 hgR hlR hZ hZe hsi HStop HTb
      go_wp2_with fail
      clear k0 k1 k2
      refine Grl.start (S := fun X => X.cell? ⟨w8.heap.size, 0, none⟩ = some (.slice ra rl rq) ∧ X.cell? ⟨w8.heap.size, 1, none⟩ = some (.int .i64 H') ∧ X.cell? ⟨w8.heap.size, 2, none⟩ = some (.int .i64 F)) (by kernel_rfl) (by exact unhide HSy _ eW) (fun hHeld => ?_)
      refine Grl.yes 0 (v := ?_) rfl (by kernel_rfl) (by kernel_rfl) (by kernel_rfl) (fun _ _ _ h => h) (by kernel_rfl) ?_ (by assumption) ?_
      rotate_left
      · (intro w hSw; (try dsimp only at hSw); go_simp; try with_reducible rfl)
      simp only [Act.put, List.setIfInBounds_toArray, List.set_cons_zero, List.set_cons_succ]
      refine Grl.yes 1 (v := ?_) rfl (by kernel_rfl) (by kernel_rfl) (by kernel_rfl) (fun _ _ _ h => h) (by kernel_rfl) ?_ (by assumption) ?_
      rotate_left
      · (intro w hSw; (try dsimp only at hSw); go_simp; try with_reducible rfl)
      simp only [Act.put, List.setIfInBounds_toArray, List.set_cons_zero, List.set_cons_succ]
      refine Grl.yes 2 (v := ?_) rfl (by kernel_rfl) (by kernel_rfl) (by kernel_rfl) (fun _ _ _ h => h) (by kernel_rfl) ?_ (by assumption) ?_
      rotate_left
      · (intro w hSw; (try dsimp only at hSw); go_simp; try with_reducible rfl)
      simp only [Act.put, List.setIfInBounds_toArray, List.set_cons_zero, List.set_cons_succ]
      refine Grl.yes 3 (v := ?_) rfl (by kernel_rfl) (by kernel_rfl) (by kernel_rfl) (fun _ _ _ h => h) (by kernel_rfl) ?_ (by assumption) ?_
      rotate_left
      · (intro w hSw; (try dsimp only at hSw); go_simp; try with_reducible rfl)
      simp only [Act.put, List.setIfInBounds_toArray, List.set_cons_zero, List.set_cons_succ]
      refine Grl.yes 4 (v := ?_) rfl (by kernel_rfl) (by kernel_rfl) (by kernel_rfl) (fun _ _ _ h => h) (by kernel_rfl) ?_ (by assumption) ?_
      rotate_left
      · (intro w hSw; (try dsimp only at hSw); go_simp; try with_reducible rfl)
      simp only [Act.put, List.setIfInBounds_toArray, List.set_cons_zero, List.set_cons_succ]
      refine Grl.yes 5 (v := ?_) rfl (by kernel_rfl) (by kernel_rfl) (by kernel_rfl) (fun _ _ _ h => h) (by kernel_rfl) ?_ (by assumption) ?_
      rotate_left
      · (intro w hSw; (try dsimp only at hSw); go_simp; try with_reducible rfl)
      simp only [Act.put, List.setIfInBounds_toArray, List.set_cons_zero, List.set_cons_succ]
      refine Grl.two 6 10 rfl rfl (by kernel_rfl) (fun K hK => ?_) (fun K hK => ?_)
      · go_simp
        go_wp2_with (refine (unhide HAdd wr.drew eW).mono ?_; rintro e w12 ⟨z, rfl, oz, b12⟩; obtain ⟨za, zn, zq, rfl⟩ := oz.form; have z12 := b12.size; have e12 := eW.trans (b12.mono eW.size); obtain ⟨w13, hw13⟩ : ∃ V, w12.alloc (.cells #[.slice none 0 0, .int .i64 0, .int .i64 0] 30) = V := ⟨_, rfl⟩; have b13 : Below w12.heap.size w12 w13 := (by rw [← hw13]; exact (Below.refl _ _).alloc (Nat.le_refl _) _); have z13 : w13.heap.size = w12.heap.size + 1 := (by rw [← hw13]; simp); have P13 : w13.ownsRow w12.heap.size 30 3 (.slice (some ⟨w12.heap.size, 0, none⟩) 1 1) 1 [.slice none 0 0, .int .i64 0, .int .i64 0] := (by rw [← hw13]; exact Tab.own_new3 (Nat.le_refl _) rfl); have e13 := e12.trans (b13.mono e12.size); obtain ⟨⟨pca, pfa⟩, ⟨pcb, pfb⟩, ⟨pcc, pfc⟩, so9, on9⟩ := Tab.box_put (w := w13) (.slice za zn zq) (.int .i64 ZH) (.int .i64 ZF) P13; obtain ⟨y9a, hy9a⟩ : ∃ V, w13.setCell ⟨w12.heap.size, 0, none⟩ (.slice za zn zq) = V := ⟨_, rfl⟩; rw [hy9a] at pcb pfb pcc pfc so9 on9; obtain ⟨y9b, hy9b⟩ : ∃ V, y9a.setCell ⟨w12.heap.size, 1, none⟩ (.int .i64 ZH) = V := ⟨_, rfl⟩; rw [hy9b] at pcc pfc so9 on9; obtain ⟨y9, hy9⟩ : ∃ V, y9b.setCell ⟨w12.heap.size, 2, none⟩ (.int .i64 ZF) = V := ⟨_, rfl⟩; rw [hy9] at so9 on9; have e9 := e13.trans (on9.below (show wr.heap.size ≤ w12.heap.size from e12.size)))
        refine hK.out _ _ (by exact unhide HSy _ e12) (fun hHeld => ?_)
        clear hK K
        refine Grl.yes 7 (v := ?_) rfl (by kernel_rfl) (by kernel_rfl) (by kernel_rfl) (fun _ _ _ h => h) (by kernel_rfl) ?_ (by assumption) ?_
        rotate_left
        · (intro w hSw; (try dsimp only at hSw); go_simp; try with_reducible rfl)
        simp only [Act.put, List.setIfInBounds_toArray, List.set_cons_zero, List.set_cons_succ]
        refine Grl.yes 8 (v := ?_) rfl (by kernel_rfl) (by kernel_rfl) (by kernel_rfl) (fun _ _ _ h => h) (by kernel_rfl) ?_ (by assumption) ?_
        rotate_left
        · (intro w hSw; (try dsimp only at hSw); go_simp; try with_reducible rfl)
        simp only [Act.put, List.setIfInBounds_toArray, List.set_cons_zero, List.set_cons_succ]
        refine Grl.yes 9 (v := ?_) rfl (by kernel_rfl) (by kernel_rfl) (by kernel_rfl) (fun _ _ _ h => h) (by kernel_rfl) ?_ (by assumption) ?_
        rotate_left
        · (intro w hSw; (try dsimp only at hSw); go_simp; try with_reducible rfl)
        simp only [Act.put, List.setIfInBounds_toArray, List.set_cons_zero, List.set_cons_succ]
        refine Grl.one 10 rfl (by kernel_rfl) (fun K hK => ?_)
        go_simp
        skip
        refine hK.out _ _ (by exact unhide HSy _ e13) (fun hHeld => ?_)
        clear hK K
        refine Grl.one 11 rfl (by kernel_rfl) (fun K hK => ?_)
        go_simp
        skip
        refine hK.out _ _ (by exact unhide HSy _ e9) (fun hHeld => ?_)
        clear hK K
        refine Grl.yes 12 (v := ?_) rfl (by kernel_rfl) (by kernel_rfl) (by kernel_rfl) (fun _ _ _ h => h) (by kernel_rfl) ?_ (by assumption) ?_
        rotate_left
        · (intro w hSw; (try dsimp only at hSw); go_simp; try with_reducible rfl)
        simp only [Act.put, List.setIfInBounds_toArray, List.set_cons_zero, List.set_cons_succ]
        refine wpAnyH_done (by kernel_rfl) ?_ _
        clear u1 u2
        have hsd := on9.size
        have HZo := hide (show Row.Own wr.heap.size y9.heap.size y9 (.slice za zn zq) Z from ((oz.below b13).zone (Zone.of_only on9 (Nat.le_refl _) (Nat.lt_succ_self _)) (.inl (Nat.le_refl _))).wide (by omega) (by omega) (Nat.le_refl _))
        have HY9 := own_below (unhide HOw) e9
        have HKr := hide (unhide HK9 y9 (hbel.trans (e9.mono hsz)))
        obtain ⟨n0, n1, n2⟩ := Tab.box_three so9
        have bel9 := hbel.trans (e9.mono hsz)
        clear on9 oz b12 HAdd HSy
        by_cases hz0 : kz = 0
        · obtain ⟨hZF, hrun2, htb2⟩ := unhide HZF hz0
          obtain rfl : F = ZF := hZF.symm
          have HRun2 := hide hrun2
          have HTb2 := hide htb2
          obtain ⟨⟨qca, qfa⟩, ⟨qcb, qfb⟩, ⟨qcc, qfc⟩, so8, on8⟩ := Tab.box_put (w := y9) (.slice za zn zq) (.int .i64 ZH) (.int .i64 F) HY9
          obtain ⟨y8a, hy8a⟩ : ∃ V, y9.setCell ⟨w8.heap.size, 0, none⟩ (.slice za zn zq) = V := ⟨_, rfl⟩
          rw [hy8a] at qcb qfb qcc qfc so8 on8
          obtain ⟨y8b, hy8b⟩ : ∃ V, y8a.setCell ⟨w8.heap.size, 1, none⟩ (.int .i64 ZH) = V := ⟨_, rfl⟩
          rw [hy8b] at qcc qfc so8 on8
          obtain ⟨y8, hy8⟩ : ∃ V, y8b.setCell ⟨w8.heap.size, 2, none⟩ (.int .i64 F) = V := ⟨_, rfl⟩
          rw [hy8] at so8 on8
          have hs8 := on8.size
          have HZi := hide ((unhide HZo).zone (Zone.of_only on8 (Nat.le_refl _) (Nat.lt_succ_self _)) (.inr (by omega))).is
          have HSo8 := hide so8
          have bel8 := hide (bel9.trans (on8.below (Nat.le_refl _)))
          have hlt8 : w8.heap.size < y8.heap.size := by have := e9.size; omega
          clear so8 on8 HZo so9 HY9 hrun2 htb2
          go_wp2_with fail
          go_roundw
          case rel => exact ⟨k + 1, Z, ZH, za, zn, zq, by go_num, by omega, HRun2, HTb2, HSo8, HZi, unhide bel8, hlt8⟩
          case measure => first | (simp [intOf]; done) | (simp [intOf]; omega)
        · have hzb : (kz != 0) = true := by simp [hz0]
          have hkz2 := unhide HZS hz0
          have hkk : (kc == kz) = true := by rw [hkz2]; simp
          have dd := (unhide d8).trans (bel9.mono (unhide d8).size)
          clear HZo so9 HY9
          go_wp2_with fail
          go_ret
          exact ⟨rfl, dd⟩
      · go_simp
        skip
        refine hK.out _ _ (by exact unhide HSy _ bA) (fun hHeld => ?_)
        clear hK K
        refine Grl.one 6 rfl (by kernel_rfl) (fun K hK => ?_)
        go_simp
        go_wp2_with (refine (unhide HAdd wA bA).mono ?_; rintro e w12 ⟨z, rfl, oz, b12⟩; obtain ⟨za, zn, zq, rfl⟩ := oz.form; have z12 := b12.size; have e12 := bA.trans (b12.mono bA.size); have P12 := own_below PA b12; obtain ⟨⟨pca, pfa⟩, ⟨pcb, pfb⟩, ⟨pcc, pfc⟩, so9, on9⟩ := Tab.box_put (w := w12) (.slice za zn zq) (.int .i64 ZH) (.int .i64 ZF) P12; obtain ⟨y9a, hy9a⟩ : ∃ V, w12.setCell ⟨wr.heap.size, 0, none⟩ (.slice za zn zq) = V := ⟨_, rfl⟩; rw [hy9a] at pcb pfb pcc pfc so9 on9; obtain ⟨y9b, hy9b⟩ : ∃ V, y9a.setCell ⟨wr.heap.size, 1, none⟩ (.int .i64 ZH) = V := ⟨_, rfl⟩; rw [hy9b] at pcc pfc so9 on9; obtain ⟨y9, hy9⟩ : ∃ V, y9b.setCell ⟨wr.heap.size, 2, none⟩ (.int .i64 ZF) = V := ⟨_, rfl⟩; rw [hy9] at so9 on9; have e9 := e12.trans (on9.below (Nat.le_refl _)))
        refine hK.out _ _ (by exact unhide HSy _ e12) (fun hHeld => ?_)
        clear hK K
        refine Grl.yes 7 (v := ?_) rfl (by kernel_rfl) (by kernel_rfl) (by kernel_rfl) (fun _ _ _ h => h) (by kernel_rfl) ?_ (by assumption) ?_
        rotate_left
        · (intro w hSw; (try dsimp only at hSw); go_simp; try with_reducible rfl)
        simp only [Act.put, List.setIfInBounds_toArray, List.set_cons_zero, List.set_cons_succ]
        refine Grl.yes 8 (v := ?_) rfl (by kernel_rfl) (by kernel_rfl) (by kernel_rfl) (fun _ _ _ h => h) (by kernel_rfl) ?_ (by assumption) ?_
        rotate_left
        · (intro w hSw; (try dsimp only at hSw); go_simp; try with_reducible rfl)
        simp only [Act.put, List.setIfInBounds_toArray, List.set_cons_zero, List.set_cons_succ]
        refine Grl.yes 9 (v := ?_) rfl (by kernel_rfl) (by kernel_rfl) (by kernel_rfl) (fun _ _ _ h => h) (by kernel_rfl) ?_ (by assumption) ?_
        rotate_left
        · (intro w hSw; (try dsimp only at hSw); go_simp; try with_reducible rfl)
        simp only [Act.put, List.setIfInBounds_toArray, List.set_cons_zero, List.set_cons_succ]
        refine Grl.one 11 rfl (by kernel_rfl) (fun K hK => ?_)
        go_simp
        skip
        refine hK.out _ _ (by exact unhide HSy _ e9) (fun hHeld => ?_)
        clear hK K
        refine Grl.yes 12 (v := ?_) rfl (by kernel_rfl) (by kernel_rfl) (by kernel_rfl) (fun _ _ _ h => h) (by kernel_rfl) ?_ (by assumption) ?_
        rotate_left
        · (intro w hSw; (try dsimp only at hSw); go_simp; try with_reducible rfl)
        simp only [Act.put, List.setIfInBounds_toArray, List.set_cons_zero, List.set_cons_succ]
        refine wpAnyH_done (by kernel_rfl) ?_ _
        clear u1 u2
        have hsd := on9.size
        have HZo := hide (show Row.Own wr.heap.size y9.heap.size y9 (.slice za zn zq) Z from (oz.zone (Zone.of_only on9 (Nat.le_refl _) (Nat.lt_succ_self _)) (.inr (by omega))).wide (by omega) (by omega) (Nat.le_refl _))
        have HY9 := own_below (unhide HOw) e9
        have HKr := hide (unhide HK9 y9 (hbel.trans (e9.mono hsz)))
        obtain ⟨n0, n1, n2⟩ := Tab.box_three so9
        have bel9 := hbel.trans (e9.mono hsz)
        clear on9 oz b12 HAdd HSy
        by_cases hz0 : kz = 0
        · obtain ⟨hZF, hrun2, htb2⟩ := unhide HZF hz0
          obtain rfl : F = ZF := hZF.symm
          have HRun2 := hide hrun2
          have HTb2 := hide htb2
          obtain ⟨⟨qca, qfa⟩, ⟨qcb, qfb⟩, ⟨qcc, qfc⟩, so8, on8⟩ := Tab.box_put (w := y9) (.slice za zn zq) (.int .i64 ZH) (.int .i64 F) HY9
          obtain ⟨y8a, hy8a⟩ : ∃ V, y9.setCell ⟨w8.heap.size, 0, none⟩ (.slice za zn zq) = V := ⟨_, rfl⟩
          rw [hy8a] at qcb qfb qcc qfc so8 on8
          obtain ⟨y8b, hy8b⟩ : ∃ V, y8a.setCell ⟨w8.heap.size, 1, none⟩ (.int .i64 ZH) = V := ⟨_, rfl⟩
          rw [hy8b] at qcc qfc so8 on8
          obtain ⟨y8, hy8⟩ : ∃ V, y8b.setCell ⟨w8.heap.size, 2, none⟩ (.int .i64 F) = V := ⟨_, rfl⟩
          rw [hy8] at so8 on8
          have hs8 := on8.size
          have HZi := hide ((unhide HZo).zone (Zone.of_only on8 (Nat.le_refl _) (Nat.lt_succ_self _)) (.inr (by omega))).is
          have HSo8 := hide so8
          have bel8 := hide (bel9.trans (on8.below (Nat.le_refl _)))
          have hlt8 : w8.heap.size < y8.heap.size := by have := e9.size; omega
          clear so8 on8 HZo so9 HY9 hrun2 htb2
          go_wp2_with fail
          go_roundw
          case rel => exact ⟨k + 1, Z, ZH, za, zn, zq, by go_num, by omega, HRun2, HTb2, HSo8, HZi, unhide bel8, hlt8⟩
          case measure => first | (simp [intOf]; done) | (simp [intOf]; omega)
        · have hzb : (kz != 0) = true := by simp [hz0]
          have hkz2 := unhide HZS hz0
          have hkk : (kc == kz) = true := by rw [hkz2]; simp
          have dd := (unhide d8).trans (bel9.mono (unhide d8).size)
          clear HZo so9 HY9
          go_wp2_with fail
          go_ret
          exact ⟨rfl, dd⟩
    · obtain rfl : k = bn := by omega
      have hrun : Tab.runT (L, H, F) b = ((R, H', F), 0) := by have := unhide HRun; rwa [List.take_of_length_le (by rw [← unhide HBN]; exact Nat.le_refl _)] at this
      obtain ⟨hXX, hkc⟩ := unhide HFine _ hrun
      subst hkc
      simp only [Prod.mk.injEq] at hXX
      obtain ⟨hX1, hXH, hXF⟩ := hXX
      obtain rfl : R = X := hX1.symm
      obtain rfl : H' = XH := hXH.symm
      obtain rfl : F = XF := hXF.symm
      have HAl := hide (Tab.al_table (H := H') (F := F) ((unhide SX8).below hbel) (unhide HRi))
      obtain ⟨⟨k0, k1, k2⟩, ⟨j0, j1, j2⟩, ⟨i0, i1, i2⟩⟩ := unhide HK9 wr hbel
      obtain ⟨y0, y1, y2⟩ := Tab.box_three (unhide HOw)
      clear hrun
      go_wp2_with fail
      refine (unhide HAl).mono ?_
      rintro e w14 ⟨rfl, b14⟩
      have d14 := (unhide d8).trans ((hbel.trans (b14.mono hsz)).mono (unhide d8).size)
      go_wp2
      go_ret
      exact ⟨rfl, d14⟩
end Go.Proofs.YtlboekimnhgfdaaGreat
