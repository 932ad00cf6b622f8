/- My own texts of one claim, laid together by program: GReg3, FnTableAddWalk. -/
import Derived.Test.YtlboekimnhgfdaaGreatGf4b634e24e
import Derived.Test.YtlboekimnhgfdaaGreatGdb5fa6ac22
import Derived.Test.YtlboekimnhgfdaaGreatGcec203178b
import Derived.Test.YtlboekimnhgfdaaGreatG4412f2cd47
import Derived.Test.YtlboekimnhgfdaaGreatG2c63d1bf77
/- A region of which three operations may come first. No condition. -/
namespace Go.Proofs.YtlboekimnhgfdaaGreat.Grl
open Go.RowKit
section
variable {P : Program} {l : List Oper} {Q : Exit → Act → World → Prop} {md : Region.Mode} {S : World → Prop}
theorem three (i j k : Nat) {oi oj ok : Oper} {fuel : Nat} {listed : Array Bool} {a : Act} {w : World} (hi : l[i]? = some oi) (hj : l[j]? = some oj) (hk : l[k]? = some ok) (hr : Region.ready md l.toArray listed = [i, j, k])
    (h1 : ∀ K' : Act → World → Prop, Shut (∀ a w, S w → (S w → wpAnyH P md l.toArray Q S fuel (listed.setIfInBounds i true) a w) → K' a w) → if Region.wanted oi (yielded l.toArray a.tmps) = true then Oper.wp P oi a w K' Q else K' (a.put oi.dst undef) w)
    (h2 : ∀ K' : Act → World → Prop, Shut (∀ a w, S w → (S w → wpAnyH P md l.toArray Q S fuel (listed.setIfInBounds j true) a w) → K' a w) → if Region.wanted oj (yielded l.toArray a.tmps) = true then Oper.wp P oj a w K' Q else K' (a.put oj.dst undef) w)
    (h3 : ∀ K' : Act → World → Prop, Shut (∀ a w, S w → (S w → wpAnyH P md l.toArray Q S fuel (listed.setIfInBounds k true) a w) → K' a w) → if Region.wanted ok (yielded l.toArray a.tmps) = true then Oper.wp P ok a w K' Q else K' (a.put ok.dst undef) w) :
    wpAnyH P md l.toArray Q S (fuel + 1) listed a w :=
  wpAnyH_ready hr (by simp) (AllReadyH.cons (by simpa using hi) h1 (AllReadyH.cons (by simpa using hj) h2 (AllReadyH.cons (by simpa using hk) h3 AllReadyH.nil)))
end
end Go.Proofs.YtlboekimnhgfdaaGreat.Grl

/- FnTableAdd returns true at every text of bytes. -/
namespace Go.Proofs.YtlboekimnhgfdaaGreat
open Go.RowKit Draw Rw
set_option linter.unusedVariables false
set_option linter.unusedSimpArgs false
set_option maxRecDepth 100000 in
set_option maxHeartbeats 32000000 in
theorem fnTableAdd.walk (a0 : Option Addr) (len0 cap0 : Nat) (z0 : List Int) (w : World) (w0 : IsRow .u8 w a0 len0 cap0 z0) :
    Calls Tryz.prog 7 #[.slice a0 len0 cap0] w fun e w' => e = .returned (.bool true) ∧ Below w.heap.size w w' := by
  have l0 := (row_bytes w0)
  have c0 : len0 ≤ 9223372036854775807 := by have := l0.1; have := l0.2.1; unfold maxLen at this; omega
  have H0 := hide (draw_tadd w w w0 (Below.refl _ _))
  clear l0 w0
  by_cases hb0 : 1048576 < len0
  · go_enter Tryz.func7, Tryz.ntmps7
    go_wp2
    go_ret
    exact ⟨rfl, Below.refl _ _⟩
  go_enter Tryz.func7, Tryz.ntmps7
  go_wp2_with fail
  refine (unhide H0).mono ?_
  rintro e W1 ⟨L, v, bv, b, H, F, rfl, hTG, hv, hB7, hbv, b1⟩
  have hgL : Hid (∀ x ∈ L, Row.good x) := fun x hx => (hTG.1.2 x hx).1
  have hlL : Hid (L.length ≤ maxLen) := by have := hTG.1.1; show L.length ≤ maxLen; unfold maxLen; omega
  have hHF := hTG.2
  have hOky : Hid (Tab.Okay b) := entB_okay hB7.2
  have hb7 := hB7.1
  obtain ⟨va, vq, rfl⟩ := Tab.row_form hv
  obtain ⟨vn, hvn⟩ : ∃ n, n = L.length := ⟨_, rfl⟩
  rw [← hvn] at hv ⊢
  obtain ⟨ba, bq, rfl⟩ := ent_form hbv
  obtain ⟨bn, hbn⟩ : ∃ n, n = b.length := ⟨_, rfl⟩
  have HBN := hide hbn
  rw [← hbn] at hbv hb7 ⊢
  clear H0 hTG hvn hB7 hbn
  obtain ⟨sd2, sf2, so2, bb2, zz2⟩ := Tab.box_new (w := W1) (base := w.heap.size) (.slice va vn vq) H F b1.size
  obtain ⟨V2, hV2⟩ : ∃ V, W1.alloc (.cells #[.slice va vn vq, .int .i64 H, .int .i64 0] 30) = V := ⟨_, rfl⟩
  rw [hV2] at sd2 sf2 so2 bb2 zz2
  obtain ⟨W2, hW2⟩ : ∃ V, V2.setCell ⟨W1.heap.size, 2, none⟩ (.int .i64 F) = V := ⟨_, rfl⟩
  rw [hW2] at so2 bb2 zz2
  have HV := hide (hv.below bb2)
  have HBv := hide (hbv.below bb2)
  have HK := hide (fun (X : World) (hb : Below W2.heap.size W2 X) => Tab.box_three (own_below so2 hb))
  have d2 := b1.trans (bb2.mono b1.size)
  have HOk := hide (fun X (hb : Below W2.heap.size W2 X) => Row.spec_table (H := H) (F := F) ((unhide HV).below hb) (unhide hgL) (unhide hlL))
  have HOi := hide (fun X (hb : Below W2.heap.size W2 X) => Row.impl_table (H := H) (F := F) ((unhide HV).below hb) (unhide hgL) (unhide hlL))
  have HI := hide (Tab.impl_tadd H F (unhide HV) (unhide hgL) (unhide hlL) (unhide HBv) (unhide hOky))
  have HS := hide (fun X (hb : Below W2.heap.size W2 X) => Tab.spec_tadd H F ((unhide HV).below hb) (unhide hgL) (unhide hlL) ((unhide HBv).below hb) (unhide hOky))
  obtain ⟨⟨⟨X, XH, XF⟩, kc⟩, hX⟩ : ∃ t, t = Tab.tadd L H F b := ⟨_, rfl⟩
  rw [← hX] at HI HS
  have HX := hide hX
  obtain ⟨k0, k1, k2⟩ := unhide HK W2 (Below.refl _ _)
  clear hX hv hbv bb2 so2 b1
  go_wp2_with fail
  refine (unhide HI).mono ?_
  rintro e W3 ⟨x, rfl, ox, c3⟩
  obtain ⟨xa, xn, xq, rfl⟩ := ox.form
  clear k0 k1 k2 sd2 sf2 hV2 hW2 HI
  have z3 := c3.size
  have z2 : W1.heap.size < W2.heap.size := zz2
  obtain ⟨sd4, sf4, so4, bb4, zz4⟩ := Tab.box_new (w := W3) (base := W2.heap.size) (.slice xa xn xq) XH XF (by omega)
  obtain ⟨V4, hV4⟩ : ∃ V, W3.alloc (.cells #[.slice xa xn xq, .int .i64 XH, .int .i64 0] 30) = V := ⟨_, rfl⟩
  rw [hV4] at sd4 sf4 so4 bb4 zz4
  obtain ⟨W4, hW4⟩ : ∃ V, V4.setCell ⟨W3.heap.size, 2, none⟩ (.int .i64 XF) = V := ⟨_, rfl⟩
  rw [hW4] at so4 bb4 zz4
  have SX4 := hide (ox.is.below bb4)
  have c4 := c3.trans (bb4.mono c3.size)
  have HKx := hide (fun (X : World) (hb : Below W4.heap.size W4 X) => Tab.box_three (own_below so4 hb))
  have HS4 := hide (unhide HS W4 c4)
  obtain ⟨k0, k1, k2⟩ := unhide HK W4 c4
  clear ox bb4 so4 c3 HS
  go_wp2_with fail
  refine (unhide HS4).mono ?_
  rintro e W5 ⟨y, rfl, oy, b5⟩
  obtain ⟨ya, yn, yq, rfl⟩ := oy.form
  clear k0 k1 k2 sd4 sf4 hV4 hW4 HS4
  have z4 := c4.size
  have z5 := b5.size
  have z43 : W3.heap.size < W4.heap.size := zz4
  obtain ⟨sd6, sf6, so6, bb6, zz6⟩ := Tab.box_new (w := W5) (base := W4.heap.size) (.slice ya yn yq) XH XF (by omega)
  obtain ⟨V6, hV6⟩ : ∃ V, W5.alloc (.cells #[.slice ya yn yq, .int .i64 XH, .int .i64 0] 30) = V := ⟨_, rfl⟩
  rw [hV6] at sd6 sf6 so6 bb6 zz6
  obtain ⟨W6, hW6⟩ : ∃ V, V6.setCell ⟨W5.heap.size, 2, none⟩ (.int .i64 XF) = V := ⟨_, rfl⟩
  rw [hW6] at so6 bb6 zz6
  have b46 := b5.trans (bb6.mono b5.size)
  have SX6 := hide ((unhide SX4).below b46)
  have SY6 := hide (oy.is.below bb6)
  have c6 := c4.trans (b46.mono c4.size)
  have HKK := hide (fun (X : World) (hb : Below W6.heap.size W6 X) => And.intro (unhide HK X (c6.trans (hb.mono c6.size))) (And.intro (unhide HKx X (b46.trans (hb.mono b46.size))) (Tab.box_three (own_below so6 hb))))
  have z65 : W5.heap.size < W6.heap.size := zz6
  clear oy b5 bb6 so6 c4 SX4 HK HKx b46
  have eD : Below W6.heap.size W6 W6.drew := (Below.refl _ _).drew
  have hkk : (kc != kc) = false := by simp
  have hkq : (kc == kc) = true := by simp
  cases hT : Row.tableB L H F
  · rw [hT] at HOk HOi
    clear hT
    obtain ⟨⟨k0, k1, k2⟩, ⟨j0, j1, j2⟩, ⟨i0, i1, i2⟩⟩ := unhide HKK W6 (Below.refl _ _)
    go_wp2_with fail
    clear k0 k1 k2 j0 j1 j2 i0 i1 i2
    refine Grl.start (S := fun X => (X.cell? ⟨W1.heap.size, 0, none⟩ = some (.slice va vn vq) ∧ X.cell? ⟨W1.heap.size, 1, none⟩ = some (.int .i64 H) ∧ X.cell? ⟨W1.heap.size, 2, none⟩ = some (.int .i64 F)) ∧ (X.cell? ⟨W3.heap.size, 0, none⟩ = some (.slice xa xn xq) ∧ X.cell? ⟨W3.heap.size, 1, none⟩ = some (.int .i64 XH) ∧ X.cell? ⟨W3.heap.size, 2, none⟩ = some (.int .i64 XF)) ∧ (X.cell? ⟨W5.heap.size, 0, none⟩ = some (.slice ya yn yq) ∧ X.cell? ⟨W5.heap.size, 1, none⟩ = some (.int .i64 XH) ∧ X.cell? ⟨W5.heap.size, 2, none⟩ = some (.int .i64 XF))) (by kernel_rfl) (by exact unhide HKK _ eD) (fun hHeld => ?_)
    refine Grl.yes 0 (v := ?_) rfl (by kernel_rfl) (by kernel_rfl) (by kernel_rfl) (fun _ _ _ h => h) (by kernel_rfl) ?_ (by assumption) ?_
    rotate_left
    · (intro w hSw; (try dsimp only at hSw); go_simp; try with_reducible rfl)
    simp only [Act.put, List.setIfInBounds_toArray, List.set_cons_zero, List.set_cons_succ]
    refine Grl.yes 1 (v := ?_) rfl (by kernel_rfl) (by kernel_rfl) (by kernel_rfl) (fun _ _ _ h => h) (by kernel_rfl) ?_ (by assumption) ?_
    rotate_left
    · (intro w hSw; (try dsimp only at hSw); go_simp; try with_reducible rfl)
    simp only [Act.put, List.setIfInBounds_toArray, List.set_cons_zero, List.set_cons_succ]
    refine Grl.yes 2 (v := ?_) rfl (by kernel_rfl) (by kernel_rfl) (by kernel_rfl) (fun _ _ _ h => h) (by kernel_rfl) ?_ (by assumption) ?_
    rotate_left
    · (intro w hSw; (try dsimp only at hSw); go_simp; try with_reducible rfl)
    simp only [Act.put, List.setIfInBounds_toArray, List.set_cons_zero, List.set_cons_succ]
    refine Grl.yes 3 (v := ?_) rfl (by kernel_rfl) (by kernel_rfl) (by kernel_rfl) (fun _ _ _ h => h) (by kernel_rfl) ?_ (by assumption) ?_
    rotate_left
    · (intro w hSw; (try dsimp only at hSw); go_simp; try with_reducible rfl)
    simp only [Act.put, List.setIfInBounds_toArray, List.set_cons_zero, List.set_cons_succ]
    refine Grl.yes 4 (v := ?_) rfl (by kernel_rfl) (by kernel_rfl) (by kernel_rfl) (fun _ _ _ h => h) (by kernel_rfl) ?_ (by assumption) ?_
    rotate_left
    · (intro w hSw; (try dsimp only at hSw); go_simp; try with_reducible rfl)
    simp only [Act.put, List.setIfInBounds_toArray, List.set_cons_zero, List.set_cons_succ]
    refine Grl.yes 5 (v := ?_) rfl (by kernel_rfl) (by kernel_rfl) (by kernel_rfl) (fun _ _ _ h => h) (by kernel_rfl) ?_ (by assumption) ?_
    rotate_left
    · (intro w hSw; (try dsimp only at hSw); go_simp; try with_reducible rfl)
    simp only [Act.put, List.setIfInBounds_toArray, List.set_cons_zero, List.set_cons_succ]
    refine Grl.one 6 rfl (by kernel_rfl) (fun K hK => ?_)
    go_simp
    go_wp2_with (refine (Tab.al_table ((unhide SX6).below eD) ((unhide SY6).below eD)).mono ?_; rintro e w7 ⟨rfl, b7⟩; have e7 := eD.trans (b7.mono eD.size))
    refine hK.out _ _ (by exact unhide HKK _ e7) (fun hHeld => ?_)
    clear hK K
    refine Grl.yes 7 (v := ?_) rfl (by kernel_rfl) (by kernel_rfl) (by kernel_rfl) (fun _ _ _ h => h) (by kernel_rfl) ?_ (by assumption) ?_
    rotate_left
    · (intro w hSw; (try dsimp only at hSw); go_simp; try with_reducible rfl)
    simp only [Act.put, List.setIfInBounds_toArray, List.set_cons_zero, List.set_cons_succ]
    refine Grl.yes 8 (v := ?_) rfl (by kernel_rfl) (by kernel_rfl) (by kernel_rfl) (fun _ _ _ h => h) (by kernel_rfl) ?_ (by assumption) ?_
    rotate_left
    · (intro w hSw; (try dsimp only at hSw); go_simp; try with_reducible rfl)
    simp only [Act.put, List.setIfInBounds_toArray, List.set_cons_zero, List.set_cons_succ]
    refine Grl.yes 9 (v := ?_) rfl (by kernel_rfl) (by kernel_rfl) (by kernel_rfl) (fun _ _ _ h => h) (by kernel_rfl) ?_ (by assumption) ?_
    rotate_left
    · (intro w hSw; (try dsimp only at hSw); go_simp; try with_reducible rfl)
    simp only [Act.put, List.setIfInBounds_toArray, List.set_cons_zero, List.set_cons_succ]
    refine Grl.yes 10 (v := ?_) rfl (by kernel_rfl) (by kernel_rfl) (by kernel_rfl) (fun _ _ _ h => h) (by kernel_rfl) ?_ (by assumption) ?_
    rotate_left
    · (intro w hSw; (try dsimp only at hSw); go_simp; try with_reducible rfl)
    simp only [Act.put, List.setIfInBounds_toArray, List.set_cons_zero, List.set_cons_succ]
    refine Grl.yes 12 (v := ?_) rfl (by kernel_rfl) (by kernel_rfl) (by kernel_rfl) (fun _ _ _ h => h) (by kernel_rfl) ?_ (by assumption) ?_
    rotate_left
    · (intro w hSw; (try dsimp only at hSw); go_simp; try with_reducible rfl)
    simp only [Act.put, List.setIfInBounds_toArray, List.set_cons_zero, List.set_cons_succ]
    refine Grl.one 11 rfl (by kernel_rfl) (fun K hK => ?_)
    go_simp
    go_wp2_with (refine (unhide HOi w7 (c6.trans (e7.mono c6.size))).mono ?_; rintro e w8 ⟨rfl, b8⟩; have e8 := e7.trans (b8.mono e7.size))
    refine hK.out _ _ (by exact unhide HKK _ e8) (fun hHeld => ?_)
    clear hK K
    refine Grl.one 13 rfl (by kernel_rfl) (fun K hK => ?_)
    go_simp
    go_wp2_with (refine (unhide HOk w8 (c6.trans (e8.mono c6.size))).mono ?_; rintro e w9 ⟨rfl, b9⟩; have e9 := e8.trans (b9.mono e8.size))
    refine hK.out _ _ (by exact unhide HKK _ e9) (fun hHeld => ?_)
    clear hK K
    refine Grl.yes 14 (v := ?_) rfl (by kernel_rfl) (by kernel_rfl) (by kernel_rfl) (fun _ _ _ h => h) (by kernel_rfl) ?_ (by assumption) ?_
    rotate_left
    · (intro w hSw; (try dsimp only at hSw); go_simp; try with_reducible rfl)
    simp only [Act.put, List.setIfInBounds_toArray, List.set_cons_zero, List.set_cons_succ]
    refine Grl.yes 15 (v := ?_) rfl (by kernel_rfl) (by kernel_rfl) (by kernel_rfl) (fun _ _ _ h => h) (by kernel_rfl) ?_ (by assumption) ?_
    rotate_left
    · (intro w hSw; (try dsimp only at hSw); go_simp; try with_reducible rfl)
    simp only [Act.put, List.setIfInBounds_toArray, List.set_cons_zero, List.set_cons_succ]
    refine Grl.yes 16 (v := ?_) rfl (by kernel_rfl) (by kernel_rfl) (by kernel_rfl) (fun _ _ _ h => h) (by kernel_rfl) ?_ (by assumption) ?_
    rotate_left
    · (intro w hSw; (try dsimp only at hSw); go_simp; try with_reducible rfl)
    simp only [Act.put, List.setIfInBounds_toArray, List.set_cons_zero, List.set_cons_succ]
    refine Grl.yes 17 (v := ?_) rfl (by kernel_rfl) (by kernel_rfl) (by kernel_rfl) (fun _ _ _ h => h) (by kernel_rfl) ?_ (by assumption) ?_
    rotate_left
    · (intro w hSw; (try dsimp only at hSw); go_simp; try with_reducible rfl)
    simp only [Act.put, List.setIfInBounds_toArray, List.set_cons_zero, List.set_cons_succ]
    refine Grl.one 18 rfl (by kernel_rfl) (fun K hK => ?_)
    go_simp
    go_wp2_with (refine (unhide HOk w9 (c6.trans (e9.mono c6.size))).mono ?_; rintro e w10 ⟨rfl, b10⟩; have e10 := e9.trans (b10.mono e9.size))
    refine hK.out _ _ (by exact unhide HKK _ e10) (fun hHeld => ?_)
    clear hK K
    refine Grl.yes 19 (v := ?_) rfl (by kernel_rfl) (by kernel_rfl) (by kernel_rfl) (fun _ _ _ h => h) (by kernel_rfl) ?_ (by assumption) ?_
    rotate_left
    · (intro w hSw; (try dsimp only at hSw); go_simp; try with_reducible rfl)
    simp only [Act.put, List.setIfInBounds_toArray, List.set_cons_zero, List.set_cons_succ]
    refine Grl.yes 20 (v := ?_) rfl (by kernel_rfl) (by kernel_rfl) (by kernel_rfl) (fun _ _ _ h => h) (by kernel_rfl) ?_ (by assumption) ?_
    rotate_left
    · (intro w hSw; (try dsimp only at hSw); go_simp; try with_reducible rfl)
    simp only [Act.put, List.setIfInBounds_toArray, List.set_cons_zero, List.set_cons_succ]
    refine wpAnyH_done (by kernel_rfl) ?_ _
    have eF : Below W6.heap.size W6 w10.drew := e10.drew
    obtain ⟨⟨k0, k1, k2⟩, ⟨j0, j1, j2⟩, ⟨i0, i1, i2⟩⟩ := unhide HKK w10 e10
    go_wp2_with fail
    clear k0 k1 k2 j0 j1 j2 i0 i1 i2
    refine Grl.start (S := fun X => (X.cell? ⟨W1.heap.size, 0, none⟩ = some (.slice va vn vq) ∧ X.cell? ⟨W1.heap.size, 1, none⟩ = some (.int .i64 H) ∧ X.cell? ⟨W1.heap.size, 2, none⟩ = some (.int .i64 F)) ∧ (X.cell? ⟨W3.heap.size, 0, none⟩ = some (.slice xa xn xq) ∧ X.cell? ⟨W3.heap.size, 1, none⟩ = some (.int .i64 XH) ∧ X.cell? ⟨W3.heap.size, 2, none⟩ = some (.int .i64 XF)) ∧ (X.cell? ⟨W5.heap.size, 0, none⟩ = some (.slice ya yn yq) ∧ X.cell? ⟨W5.heap.size, 1, none⟩ = some (.int .i64 XH) ∧ X.cell? ⟨W5.heap.size, 2, none⟩ = some (.int .i64 XF))) (by kernel_rfl) (by exact unhide HKK _ eF) (fun hHeld => ?_)
    refine Grl.yes 0 (v := ?_) rfl (by kernel_rfl) (by kernel_rfl) (by kernel_rfl) (fun _ _ _ h => h) (by kernel_rfl) ?_ (by assumption) ?_
    rotate_left
    · (intro w hSw; (try dsimp only at hSw); go_simp; try with_reducible rfl)
    simp only [Act.put, List.setIfInBounds_toArray, List.set_cons_zero, List.set_cons_succ]
    refine Grl.yes 1 (v := ?_) rfl (by kernel_rfl) (by kernel_rfl) (by kernel_rfl) (fun _ _ _ h => h) (by kernel_rfl) ?_ (by assumption) ?_
    rotate_left
    · (intro w hSw; (try dsimp only at hSw); go_simp; try with_reducible rfl)
    simp only [Act.put, List.setIfInBounds_toArray, List.set_cons_zero, List.set_cons_succ]
    refine Grl.yes 2 (v := ?_) rfl (by kernel_rfl) (by kernel_rfl) (by kernel_rfl) (fun _ _ _ h => h) (by kernel_rfl) ?_ (by assumption) ?_
    rotate_left
    · (intro w hSw; (try dsimp only at hSw); go_simp; try with_reducible rfl)
    simp only [Act.put, List.setIfInBounds_toArray, List.set_cons_zero, List.set_cons_succ]
    refine Grl.yes 3 (v := ?_) rfl (by kernel_rfl) (by kernel_rfl) (by kernel_rfl) (fun _ _ _ h => h) (by kernel_rfl) ?_ (by assumption) ?_
    rotate_left
    · (intro w hSw; (try dsimp only at hSw); go_simp; try with_reducible rfl)
    simp only [Act.put, List.setIfInBounds_toArray, List.set_cons_zero, List.set_cons_succ]
    refine Grl.yes 4 (v := ?_) rfl (by kernel_rfl) (by kernel_rfl) (by kernel_rfl) (fun _ _ _ h => h) (by kernel_rfl) ?_ (by assumption) ?_
    rotate_left
    · (intro w hSw; (try dsimp only at hSw); go_simp; try with_reducible rfl)
    simp only [Act.put, List.setIfInBounds_toArray, List.set_cons_zero, List.set_cons_succ]
    refine Grl.yes 5 (v := ?_) rfl (by kernel_rfl) (by kernel_rfl) (by kernel_rfl) (fun _ _ _ h => h) (by kernel_rfl) ?_ (by assumption) ?_
    rotate_left
    · (intro w hSw; (try dsimp only at hSw); go_simp; try with_reducible rfl)
    simp only [Act.put, List.setIfInBounds_toArray, List.set_cons_zero, List.set_cons_succ]
    refine Grl.one 6 rfl (by kernel_rfl) (fun K hK => ?_)
    go_simp
    go_wp2_with (refine (Tab.al_table ((unhide SX6).below eF) ((unhide SY6).below eF)).mono ?_; rintro e w21 ⟨rfl, b21⟩; have e21 := eF.trans (b21.mono eF.size))
    refine hK.out _ _ (by exact unhide HKK _ e21) (fun hHeld => ?_)
    clear hK K
    refine Grl.yes 7 (v := ?_) rfl (by kernel_rfl) (by kernel_rfl) (by kernel_rfl) (fun _ _ _ h => h) (by kernel_rfl) ?_ (by assumption) ?_
    rotate_left
    · (intro w hSw; (try dsimp only at hSw); go_simp; try with_reducible rfl)
    simp only [Act.put, List.setIfInBounds_toArray, List.set_cons_zero, List.set_cons_succ]
    refine Grl.yes 8 (v := ?_) rfl (by kernel_rfl) (by kernel_rfl) (by kernel_rfl) (fun _ _ _ h => h) (by kernel_rfl) ?_ (by assumption) ?_
    rotate_left
    · (intro w hSw; (try dsimp only at hSw); go_simp; try with_reducible rfl)
    simp only [Act.put, List.setIfInBounds_toArray, List.set_cons_zero, List.set_cons_succ]
    refine Grl.yes 9 (v := ?_) rfl (by kernel_rfl) (by kernel_rfl) (by kernel_rfl) (fun _ _ _ h => h) (by kernel_rfl) ?_ (by assumption) ?_
    rotate_left
    · (intro w hSw; (try dsimp only at hSw); go_simp; try with_reducible rfl)
    simp only [Act.put, List.setIfInBounds_toArray, List.set_cons_zero, List.set_cons_succ]
    refine Grl.yes 11 (v := ?_) rfl (by kernel_rfl) (by kernel_rfl) (by kernel_rfl) (fun _ _ _ h => h) (by kernel_rfl) ?_ (by assumption) ?_
    rotate_left
    · (intro w hSw; (try dsimp only at hSw); go_simp; try with_reducible rfl)
    simp only [Act.put, List.setIfInBounds_toArray, List.set_cons_zero, List.set_cons_succ]
    refine Grl.one 10 rfl (by kernel_rfl) (fun K hK => ?_)
    go_simp
    go_wp2_with (refine (unhide HOi w21 (c6.trans (e21.mono c6.size))).mono ?_; rintro e w22 ⟨rfl, b22⟩; have e22 := e21.trans (b22.mono e21.size))
    refine hK.out _ _ (by exact unhide HKK _ e22) (fun hHeld => ?_)
    clear hK K
    refine Grl.one 12 rfl (by kernel_rfl) (fun K hK => ?_)
    go_simp
    go_wp2_with (refine (unhide HOk w22 (c6.trans (e22.mono c6.size))).mono ?_; rintro e w23 ⟨rfl, b23⟩; have e23 := e22.trans (b23.mono e22.size))
    refine hK.out _ _ (by exact unhide HKK _ e23) (fun hHeld => ?_)
    clear hK K
    refine Grl.yes 13 (v := ?_) rfl (by kernel_rfl) (by kernel_rfl) (by kernel_rfl) (fun _ _ _ h => h) (by kernel_rfl) ?_ (by assumption) ?_
    rotate_left
    · (intro w hSw; (try dsimp only at hSw); go_simp; try with_reducible rfl)
    simp only [Act.put, List.setIfInBounds_toArray, List.set_cons_zero, List.set_cons_succ]
    refine Grl.yes 14 (v := ?_) rfl (by kernel_rfl) (by kernel_rfl) (by kernel_rfl) (fun _ _ _ h => h) (by kernel_rfl) ?_ (by assumption) ?_
    rotate_left
    · (intro w hSw; (try dsimp only at hSw); go_simp; try with_reducible rfl)
    simp only [Act.put, List.setIfInBounds_toArray, List.set_cons_zero, List.set_cons_succ]
    refine Grl.yes 15 (v := ?_) rfl (by kernel_rfl) (by kernel_rfl) (by kernel_rfl) (fun _ _ _ h => h) (by kernel_rfl) ?_ (by assumption) ?_
    rotate_left
    · (intro w hSw; (try dsimp only at hSw); go_simp; try with_reducible rfl)
    simp only [Act.put, List.setIfInBounds_toArray, List.set_cons_zero, List.set_cons_succ]
    refine wpAnyH_done (by kernel_rfl) ?_ _
    have d23 := d2.trans ((c6.trans (e23.mono c6.size)).mono d2.size)
    go_wp2
    go_ret
    exact ⟨rfl, d23⟩
  have HT := hide hT
  rw [hT] at HOk HOi
  clear hT
  obtain ⟨⟨k0, k1, k2⟩, ⟨j0, j1, j2⟩, ⟨i0, i1, i2⟩⟩ := unhide HKK W6 (Below.refl _ _)
  go_wp2_with fail
  clear k0 k1 k2 j0 j1 j2 i0 i1 i2
  refine Grl.start (S := fun X => (X.cell? ⟨W1.heap.size, 0, none⟩ = some (.slice va vn vq) ∧ X.cell? ⟨W1.heap.size, 1, none⟩ = some (.int .i64 H) ∧ X.cell? ⟨W1.heap.size, 2, none⟩ = some (.int .i64 F)) ∧ (X.cell? ⟨W3.heap.size, 0, none⟩ = some (.slice xa xn xq) ∧ X.cell? ⟨W3.heap.size, 1, none⟩ = some (.int .i64 XH) ∧ X.cell? ⟨W3.heap.size, 2, none⟩ = some (.int .i64 XF)) ∧ (X.cell? ⟨W5.heap.size, 0, none⟩ = some (.slice ya yn yq) ∧ X.cell? ⟨W5.heap.size, 1, none⟩ = some (.int .i64 XH) ∧ X.cell? ⟨W5.heap.size, 2, none⟩ = some (.int .i64 XF))) (by kernel_rfl) (by exact unhide HKK _ eD) (fun hHeld => ?_)
  refine Grl.yes 0 (v := ?_) rfl (by kernel_rfl) (by kernel_rfl) (by kernel_rfl) (fun _ _ _ h => h) (by kernel_rfl) ?_ (by assumption) ?_
  rotate_left
  · (intro w hSw; (try dsimp only at hSw); go_simp; try with_reducible rfl)
  simp only [Act.put, List.setIfInBounds_toArray, List.set_cons_zero, List.set_cons_succ]
  refine Grl.yes 1 (v := ?_) rfl (by kernel_rfl) (by kernel_rfl) (by kernel_rfl) (fun _ _ _ h => h) (by kernel_rfl) ?_ (by assumption) ?_
  rotate_left
  · (intro w hSw; (try dsimp only at hSw); go_simp; try with_reducible rfl)
  simp only [Act.put, List.setIfInBounds_toArray, List.set_cons_zero, List.set_cons_succ]
  refine Grl.yes 2 (v := ?_) rfl (by kernel_rfl) (by kernel_rfl) (by kernel_rfl) (fun _ _ _ h => h) (by kernel_rfl) ?_ (by assumption) ?_
  rotate_left
  · (intro w hSw; (try dsimp only at hSw); go_simp; try with_reducible rfl)
  simp only [Act.put, List.setIfInBounds_toArray, List.set_cons_zero, List.set_cons_succ]
  refine Grl.yes 3 (v := ?_) rfl (by kernel_rfl) (by kernel_rfl) (by kernel_rfl) (fun _ _ _ h => h) (by kernel_rfl) ?_ (by assumption) ?_
  rotate_left
  · (intro w hSw; (try dsimp only at hSw); go_simp; try with_reducible rfl)
  simp only [Act.put, List.setIfInBounds_toArray, List.set_cons_zero, List.set_cons_succ]
  refine Grl.yes 4 (v := ?_) rfl (by kernel_rfl) (by kernel_rfl) (by kernel_rfl) (fun _ _ _ h => h) (by kernel_rfl) ?_ (by assumption) ?_
  rotate_left
  · (intro w hSw; (try dsimp only at hSw); go_simp; try with_reducible rfl)
  simp only [Act.put, List.setIfInBounds_toArray, List.set_cons_zero, List.set_cons_succ]
  refine Grl.yes 5 (v := ?_) rfl (by kernel_rfl) (by kernel_rfl) (by kernel_rfl) (fun _ _ _ h => h) (by kernel_rfl) ?_ (by assumption) ?_
  rotate_left
  · (intro w hSw; (try dsimp only at hSw); go_simp; try with_reducible rfl)
  simp only [Act.put, List.setIfInBounds_toArray, List.set_cons_zero, List.set_cons_succ]
  refine Grl.one 6 rfl (by kernel_rfl) (fun K hK => ?_)
  go_simp
  go_wp2_with (refine (Tab.al_table ((unhide SX6).below eD) ((unhide SY6).below eD)).mono ?_; rintro e w7 ⟨rfl, b7⟩; have e7 := eD.trans (b7.mono eD.size))
  refine hK.out _ _ (by exact unhide HKK _ e7) (fun hHeld => ?_)
  clear hK K
  refine Grl.yes 7 (v := ?_) rfl (by kernel_rfl) (by kernel_rfl) (by kernel_rfl) (fun _ _ _ h => h) (by kernel_rfl) ?_ (by assumption) ?_
  rotate_left
  · (intro w hSw; (try dsimp only at hSw); go_simp; try with_reducible rfl)
  simp only [Act.put, List.setIfInBounds_toArray, List.set_cons_zero, List.set_cons_succ]
  refine Grl.yes 8 (v := ?_) rfl (by kernel_rfl) (by kernel_rfl) (by kernel_rfl) (fun _ _ _ h => h) (by kernel_rfl) ?_ (by assumption) ?_
  rotate_left
  · (intro w hSw; (try dsimp only at hSw); go_simp; try with_reducible rfl)
  simp only [Act.put, List.setIfInBounds_toArray, List.set_cons_zero, List.set_cons_succ]
  refine Grl.yes 9 (v := ?_) rfl (by kernel_rfl) (by kernel_rfl) (by kernel_rfl) (fun _ _ _ h => h) (by kernel_rfl) ?_ (by assumption) ?_
  rotate_left
  · (intro w hSw; (try dsimp only at hSw); go_simp; try with_reducible rfl)
  simp only [Act.put, List.setIfInBounds_toArray, List.set_cons_zero, List.set_cons_succ]
  refine Grl.yes 10 (v := ?_) rfl (by kernel_rfl) (by kernel_rfl) (by kernel_rfl) (fun _ _ _ h => h) (by kernel_rfl) ?_ (by assumption) ?_
  rotate_left
  · (intro w hSw; (try dsimp only at hSw); go_simp; try with_reducible rfl)
  simp only [Act.put, List.setIfInBounds_toArray, List.set_cons_zero, List.set_cons_succ]
  refine Grl.yes 12 (v := ?_) rfl (by kernel_rfl) (by kernel_rfl) (by kernel_rfl) (fun _ _ _ h => h) (by kernel_rfl) ?_ (by assumption) ?_
  rotate_left
  · (intro w hSw; (try dsimp only at hSw); go_simp; try with_reducible rfl)
  simp only [Act.put, List.setIfInBounds_toArray, List.set_cons_zero, List.set_cons_succ]
  refine Grl.one 11 rfl (by kernel_rfl) (fun K hK => ?_)
  go_simp
  go_wp2_with (refine (unhide HOi w7 (c6.trans (e7.mono c6.size))).mono ?_; rintro e w8 ⟨rfl, b8⟩; have e8 := e7.trans (b8.mono e7.size))
  refine hK.out _ _ (by exact unhide HKK _ e8) (fun hHeld => ?_)
  clear hK K
  refine Grl.one 13 rfl (by kernel_rfl) (fun K hK => ?_)
  go_simp
  go_wp2_with (refine (unhide HOk w8 (c6.trans (e8.mono c6.size))).mono ?_; rintro e w9 ⟨rfl, b9⟩; have e9 := e8.trans (b9.mono e8.size))
  refine hK.out _ _ (by exact unhide HKK _ e9) (fun hHeld => ?_)
  clear hK K
  refine Grl.yes 14 (v := ?_) rfl (by kernel_rfl) (by kernel_rfl) (by kernel_rfl) (fun _ _ _ h => h) (by kernel_rfl) ?_ (by assumption) ?_
  rotate_left
  · (intro w hSw; (try dsimp only at hSw); go_simp; try with_reducible rfl)
  simp only [Act.put, List.setIfInBounds_toArray, List.set_cons_zero, List.set_cons_succ]
  refine Grl.yes 15 (v := ?_) rfl (by kernel_rfl) (by kernel_rfl) (by kernel_rfl) (fun _ _ _ h => h) (by kernel_rfl) ?_ (by assumption) ?_
  rotate_left
  · (intro w hSw; (try dsimp only at hSw); go_simp; try with_reducible rfl)
  simp only [Act.put, List.setIfInBounds_toArray, List.set_cons_zero, List.set_cons_succ]
  refine Grl.yes 16 (v := ?_) rfl (by kernel_rfl) (by kernel_rfl) (by kernel_rfl) (fun _ _ _ h => h) (by kernel_rfl) ?_ (by assumption) ?_
  rotate_left
  · (intro w hSw; (try dsimp only at hSw); go_simp; try with_reducible rfl)
  simp only [Act.put, List.setIfInBounds_toArray, List.set_cons_zero, List.set_cons_succ]
  refine Grl.yes 17 (v := ?_) rfl (by kernel_rfl) (by kernel_rfl) (by kernel_rfl) (fun _ _ _ h => h) (by kernel_rfl) ?_ (by assumption) ?_
  rotate_left
  · (intro w hSw; (try dsimp only at hSw); go_simp; try with_reducible rfl)
  simp only [Act.put, List.setIfInBounds_toArray, List.set_cons_zero, List.set_cons_succ]
  refine Grl.one 18 rfl (by kernel_rfl) (fun K hK => ?_)
  go_simp
  go_wp2_with (refine (unhide HOk w9 (c6.trans (e9.mono c6.size))).mono ?_; rintro e w10 ⟨rfl, b10⟩; have e10 := e9.trans (b10.mono e9.size))
  refine hK.out _ _ (by exact unhide HKK _ e10) (fun hHeld => ?_)
  clear hK K
  refine Grl.yes 19 (v := ?_) rfl (by kernel_rfl) (by kernel_rfl) (by kernel_rfl) (fun _ _ _ h => h) (by kernel_rfl) ?_ (by assumption) ?_
  rotate_left
  · (intro w hSw; (try dsimp only at hSw); go_simp; try with_reducible rfl)
  simp only [Act.put, List.setIfInBounds_toArray, List.set_cons_zero, List.set_cons_succ]
  refine Grl.yes 20 (v := ?_) rfl (by kernel_rfl) (by kernel_rfl) (by kernel_rfl) (fun _ _ _ h => h) (by kernel_rfl) ?_ (by assumption) ?_
  rotate_left
  · (intro w hSw; (try dsimp only at hSw); go_simp; try with_reducible rfl)
  simp only [Act.put, List.setIfInBounds_toArray, List.set_cons_zero, List.set_cons_succ]
  refine wpAnyH_done (by kernel_rfl) ?_ _
  have c10 := hide (c6.trans (e10.mono c6.size))
  have SX10 := hide ((unhide SX6).below e10)
  have HK10 := hide (fun (X : World) (hb : Below w10.heap.size w10 X) => unhide HKK X (e10.trans (hb.mono e10.size)))
  have d10 := hide (d2.trans ((unhide c10).mono d2.size))
  have hXe : ((X, XH, XF), kc) = Tab.addE (L, H, F) b := by rw [unhide HX]; exact Tab.tadd_yes (unhide HT)
  have HV10 := hide ((unhide HV).below (unhide c10))
  have HB10 := hide ((unhide HBv).below (unhide c10))
  clear b7 b8 b9 b10 e7 e8 e9 e10 eD SX6 SY6 HKK HX c6 HOk HOi HV HBv
  obtain ⟨⟨k0, k1, k2⟩, ⟨j0, j1, j2⟩, ⟨i0, i1, i2⟩⟩ := unhide HK10 w10 (Below.refl _ _)
  by_cases hk0 : kc = 0
  · subst hk0
    have hrun : Tab.runT (L, H, F) b = ((X, XH, XF), 0) ∧ (1 ≤ b.length ∧ b.length ≤ 6) := by
      by_cases hl : 1 ≤ b.length ∧ b.length ≤ 6
      · refine ⟨?_, hl⟩
        by_cases h0 : (Tab.runT (L, H, F) b).2 = 0
        · obtain ⟨t', ht'⟩ : ∃ t', Tab.runT (L, H, F) b = (t', 0) := ⟨(Tab.runT (L, H, F) b).1, by rw [← h0]⟩
          rw [ht', ← Tab.addE_fine hl ht', ← hXe]
        · rw [Tab.addE_stop hl rfl h0, Prod.mk.injEq] at hXe
          exact absurd hXe.2.symm h0
      · rw [Tab.addE_bad hl, Prod.mk.injEq] at hXe
        exact absurd hXe.2 (by decide)
    obtain ⟨rfl, hH, hTX, hcnt, -, hhere⟩ := Tab.run_says b (unhide HT) hrun.1
    have hlen := hrun.2
    rw [← unhide HBN] at hlen hcnt
    have hXok := Tab.table_ok hTX
    have HHe := hide hhere
    have HTX := hide hTX
    have hLok := hide (Tab.table_ok (unhide HT))
    have HH := hide hH
    have HXok := hide hXok
    clear hXe hrun hhere hTX hH hXok hkq hkk
    obtain ⟨cs, hcs, hLi, hEl⟩ := unhide HB10
    obtain ⟨-, ab, qb, ee, hbc, hbm, -, hbr⟩ := hLi
    simp only [Value.slice.injEq] at ee
    obtain ⟨rfl, -, rfl⟩ := ee
    unfold maxLen at hbm
    have HCs := hide hcs
    have HEl := hide hEl
    rw [← unhide HBN] at hbc hbr
    obtain ⟨bb, boff, rfl, hbl, hcells⟩ := hbr (by omega)
    have HCl := hide hcells
    clear hcs hEl hbr hcells
    go_wp2_with fail
    clear k0 k1 k2 j0 j1 j2 i0 i1 i2
    go_loopw [9, 10] (fun hv iv wr => ∃ (k : Nat), hv = .int .i64 ((b.take k).foldl (fun h e => if h < e.2.1 then e.2.1 else h) H) ∧ iv = .int .i64 (k : Int) ∧ k ≤ bn ∧ Below w10.heap.size w10 wr) (fun _ iv _ => bn - (intOf iv).toNat)
    case atStart => exact ⟨0, rfl, rfl, Nat.zero_le _, Below.refl _ _⟩
    case round =>
      obtain ⟨k, rfl, rfl, hk, hbel⟩ := hrel
      have hsz := hbel.size
      have hk00 : (0 : Int) ≤ (k : Int) := Int.natCast_nonneg _
      by_cases hlt : k < bn
      · have hkz : k < b.length := by rw [← unhide HBN]; exact hlt
        have hk1 : (k : Int) < (bn : Int) := by omega
        have hel := unhide HEl k hkz
        have f0 := flatOf_get Ent.clk cs k 0 (by rw [unhide HCs]; exact hkz) (by omega)
        have f1 := flatOf_get Ent.clk cs k 1 (by rw [unhide HCs]; exact hkz) (by omega)
        have f2 := flatOf_get Ent.clk cs k 2 (by rw [unhide HCs]; exact hkz) (by omega)
        have ecat := Ent.cat_get cs k (by rw [unhide HCs]; exact hkz)
        have hhk := unhide HHe _ (Ent.at_mem b k hkz)
        have hsn := Ent.at_snoc b k hkz
        obtain ⟨⟨ls, A, V⟩, hE⟩ : ∃ x, x = Ent.at' b k := ⟨_, rfl⟩
        obtain ⟨⟨c0, c1, c2⟩, hC⟩ : ∃ c, c = Ent.cat cs k := ⟨_, rfl⟩
        rw [← hE, ← hC] at hel
        rw [← hE] at hhk hsn
        rw [← ecat, ← hC] at f0 f1 f2
        obtain ⟨hel1, hel2, hel3⟩ := hel
        simp only at hel1 hel2 hel3 hhk
        subst hel2
        subst hel3
        obtain ⟨au, nu, qu, rfl⟩ : ∃ a n q, c0 = .slice a n q := by obtain ⟨-, a, q, e, -⟩ := id hel1; exact ⟨a, _, q, e⟩
        have HSE := hide (fun (X : World) (hb : Below wr.heap.size wr X) => show X.cell? ⟨bb, boff + k * 3, none⟩ = some (.slice au nu qu) ∧ X.cell? ⟨bb, boff + k * 3 + 1, none⟩ = some (.int .i64 A) ∧ X.cell? ⟨bb, boff + k * 3 + 2, none⟩ = some (.int .i64 V) from
          have hX := hbel.trans (hb.mono hsz)
          ⟨(hX.cell (p := ⟨bb, _, none⟩) hbl).trans (unhide HCl (k * 3) _ f0), (hX.cell (p := ⟨bb, _, none⟩) hbl).trans (unhide HCl (k * 3 + 1) _ f1), (hX.cell (p := ⟨bb, _, none⟩) hbl).trans (unhide HCl (k * 3 + 2) _ f2)⟩)
        have HS14 := hide (fun (X : World) (hb : Below wr.heap.size wr X) => And.intro (unhide HK10 X (hbel.trans (hb.mono hsz))).2.1 (unhide HSE X hb))
        have eW : Below wr.heap.size wr wr.drew := (Below.refl _ _).drew
        have HAt := hide (Row.al_at A ((unhide SX10).below (hbel.trans (eW.mono hsz))) (unhide HXok) (hel1.below (hbel.trans (eW.mono hsz))))
        have HHk := hide hhk
        have hSn := hide hsn
        obtain ⟨hi, hhi⟩ : ∃ h, h = (b.take k).foldl (fun h e => if h < e.2.1 then e.2.1 else h) H := ⟨_, rfl⟩
        rw [← hhi]
        have HHi := hide hhi
        obtain ⟨⟨j0, j1, j2⟩, e0, e1, e2⟩ := unhide HS14 wr (Below.refl _ _)
        clear f0 f1 f2 hel1 ecat hE hC hhk hsn hhi
        go_wp2_with fail
        clear j0 j1 j2 e0 e1 e2
        refine Grl.start (S := fun X => (X.cell? ⟨W3.heap.size, 0, none⟩ = some (.slice xa xn xq) ∧ X.cell? ⟨W3.heap.size, 1, none⟩ = some (.int .i64 XH) ∧ X.cell? ⟨W3.heap.size, 2, none⟩ = some (.int .i64 XF)) ∧ X.cell? ⟨bb, boff + k * 3, none⟩ = some (.slice au nu qu) ∧ X.cell? ⟨bb, boff + k * 3 + 1, none⟩ = some (.int .i64 A) ∧ X.cell? ⟨bb, boff + k * 3 + 2, none⟩ = some (.int .i64 V)) (by kernel_rfl) (by exact unhide HS14 _ eW) (fun hHeld => ?_)
        refine Grl.yes 0 (v := ?_) rfl (by kernel_rfl) (by kernel_rfl) (by kernel_rfl) (fun _ _ _ h => h) (by kernel_rfl) ?_ (by assumption) ?_
        rotate_left
        · (intro w hSw; (try dsimp only at hSw); go_simp; try with_reducible rfl)
        simp only [Act.put, List.setIfInBounds_toArray, List.set_cons_zero, List.set_cons_succ]
        refine Grl.yes 1 (v := ?_) rfl (by kernel_rfl) (by kernel_rfl) (by kernel_rfl) (fun _ _ _ h => h) (by kernel_rfl) ?_ (by assumption) ?_
        rotate_left
        · (intro w hSw; (try dsimp only at hSw); go_simp; try with_reducible rfl)
        simp only [Act.put, List.setIfInBounds_toArray, List.set_cons_zero, List.set_cons_succ]
        refine Grl.yes 2 (v := ?_) rfl (by kernel_rfl) (by kernel_rfl) (by kernel_rfl) (fun _ _ _ h => h) (by kernel_rfl) ?_ (by assumption) ?_
        rotate_left
        · (intro w hSw; (try dsimp only at hSw); go_simp; try with_reducible rfl)
        simp only [Act.put, List.setIfInBounds_toArray, List.set_cons_zero, List.set_cons_succ]
        refine Grl.yes 3 (v := ?_) rfl (by kernel_rfl) (by kernel_rfl) (by kernel_rfl) (fun _ _ _ h => h) (by kernel_rfl) ?_ (by assumption) ?_
        rotate_left
        · (intro w hSw; (try dsimp only at hSw); go_simp; try with_reducible rfl)
        simp only [Act.put, List.setIfInBounds_toArray, List.set_cons_zero, List.set_cons_succ]
        refine Grl.yes 4 (v := ?_) rfl (by kernel_rfl) (by kernel_rfl) (by kernel_rfl) (fun _ _ _ h => h) (by kernel_rfl) ?_ (by assumption) ?_
        rotate_left
        · (intro w hSw; (try dsimp only at hSw); go_simp; try with_reducible rfl)
        simp only [Act.put, List.setIfInBounds_toArray, List.set_cons_zero, List.set_cons_succ]
        refine Grl.yes 5 (v := ?_) rfl (by kernel_rfl) (by kernel_rfl) (by kernel_rfl) (fun _ _ _ h => h) (by kernel_rfl) ?_ (by assumption) ?_
        rotate_left
        · (intro w hSw; (try dsimp only at hSw); go_simp; try with_reducible rfl)
        simp only [Act.put, List.setIfInBounds_toArray, List.set_cons_zero, List.set_cons_succ]
        refine Grl.yes 6 (v := ?_) rfl (by kernel_rfl) (by kernel_rfl) (by kernel_rfl) (fun _ _ _ h => h) (by kernel_rfl) ?_ (by assumption) ?_
        rotate_left
        · (intro w hSw; (try dsimp only at hSw); go_simp; try with_reducible rfl)
        simp only [Act.put, List.setIfInBounds_toArray, List.set_cons_zero, List.set_cons_succ]
        refine Grl.yes 7 (v := ?_) rfl (by kernel_rfl) (by kernel_rfl) (by kernel_rfl) (fun _ _ _ h => h) (by kernel_rfl) ?_ (by assumption) ?_
        rotate_left
        · (intro w hSw; (try dsimp only at hSw); go_simp; try with_reducible rfl)
        simp only [Act.put, List.setIfInBounds_toArray, List.set_cons_zero, List.set_cons_succ]
        refine Grl.yes 8 (v := ?_) rfl (by kernel_rfl) (by kernel_rfl) (by kernel_rfl) (fun _ _ _ h => h) (by kernel_rfl) ?_ (by assumption) ?_
        rotate_left
        · (intro w hSw; (try dsimp only at hSw); go_simp; try with_reducible rfl)
        simp only [Act.put, List.setIfInBounds_toArray, List.set_cons_zero, List.set_cons_succ]
        refine Grl.yes 9 (v := ?_) rfl (by kernel_rfl) (by kernel_rfl) (by kernel_rfl) (fun _ _ _ h => h) (by kernel_rfl) ?_ (by assumption) ?_
        rotate_left
        · (intro w hSw; (try dsimp only at hSw); go_simp; try with_reducible rfl)
        simp only [Act.put, List.setIfInBounds_toArray, List.set_cons_zero, List.set_cons_succ]
        refine Grl.yes 10 (v := ?_) rfl (by kernel_rfl) (by kernel_rfl) (by kernel_rfl) (fun _ _ _ h => h) (by kernel_rfl) ?_ (by assumption) ?_
        rotate_left
        · (intro w hSw; (try dsimp only at hSw); go_simp; try with_reducible rfl)
        simp only [Act.put, List.setIfInBounds_toArray, List.set_cons_zero, List.set_cons_succ]
        refine Grl.yes 11 (v := ?_) rfl (by kernel_rfl) (by kernel_rfl) (by kernel_rfl) (fun _ _ _ h => h) (by kernel_rfl) ?_ (by assumption) ?_
        rotate_left
        · (intro w hSw; (try dsimp only at hSw); go_simp; try with_reducible rfl)
        simp only [Act.put, List.setIfInBounds_toArray, List.set_cons_zero, List.set_cons_succ]
        refine Grl.one 12 rfl (by kernel_rfl) (fun K hK => ?_)
        go_simp
        go_wp2_with (refine (unhide HAt).mono ?_; rintro e w12 ⟨V2, B2, rfl, hsay, b12⟩; have hav := Tab.at_here (unhide HXok) (unhide HHk) hsay; obtain ⟨hB2, hV2⟩ := hav; subst hB2; have e12 := eW.trans (b12.mono eW.size))
        refine hK.out _ _ (by exact unhide HS14 _ e12) (fun hHeld => ?_)
        clear hK K
        refine Grl.yes 13 (v := ?_) rfl (by kernel_rfl) (by kernel_rfl) (by kernel_rfl) (fun _ _ _ h => h) (by kernel_rfl) ?_ (by assumption) ?_
        rotate_left
        · (intro w hSw; (try dsimp only at hSw); go_simp; try with_reducible rfl)
        simp only [Act.put, List.setIfInBounds_toArray, List.set_cons_zero, List.set_cons_succ]
        refine Grl.yes 14 (v := ?_) rfl (by kernel_rfl) (by kernel_rfl) (by kernel_rfl) (fun _ _ _ h => h) (by kernel_rfl) ?_ (by assumption) ?_
        rotate_left
        · (intro w hSw; (try dsimp only at hSw); go_simp; try with_reducible rfl)
        simp only [Act.put, List.setIfInBounds_toArray, List.set_cons_zero, List.set_cons_succ]
        refine Grl.yes 15 (v := ?_) rfl (by kernel_rfl) (by kernel_rfl) (by kernel_rfl) (fun _ _ _ h => h) (by kernel_rfl) ?_ (by assumption) ?_
        rotate_left
        · (intro w hSw; (try dsimp only at hSw); go_simp; try with_reducible rfl)
        simp only [Act.put, List.setIfInBounds_toArray, List.set_cons_zero, List.set_cons_succ]
        refine Grl.yes 16 (v := ?_) rfl (by kernel_rfl) (by kernel_rfl) (by kernel_rfl) (fun _ _ _ h => h) (by kernel_rfl) ?_ (by assumption) ?_
        rotate_left
        · (intro w hSw; (try dsimp only at hSw); go_simp; try with_reducible rfl)
        simp only [Act.put, List.setIfInBounds_toArray, List.set_cons_zero, List.set_cons_succ]
        refine Grl.yes 17 (v := ?_) rfl (by kernel_rfl) (by kernel_rfl) (by kernel_rfl) (fun _ _ _ h => h) (by kernel_rfl) ?_ (by assumption) ?_
        rotate_left
        · (intro w hSw; (try dsimp only at hSw); go_simp; try with_reducible rfl)
        simp only [Act.put, List.setIfInBounds_toArray, List.set_cons_zero, List.set_cons_succ]
        refine wpAnyH_done (by kernel_rfl) ?_ _
        have hvv : (V2 != V) = false := by rw [hV2]; simp
        obtain ⟨⟨j0, j1, j2⟩, e0, e1, e2⟩ := unhide HS14 w12 e12
        have bel12 := hbel.trans (e12.mono hsz)
        clear hsay b12 HAt HS14 HSE HHk
        by_cases hhA : hi < A
        · have HN := hide (show A = (b.take (k + 1)).foldl (fun h e => if h < e.2.1 then e.2.1 else h) H by rw [unhide hSn, List.foldl_append, ← unhide HHi]; simp [hhA])
          go_wp2_with fail
          go_roundw
          case rel => exact ⟨k + 1, by rw [← unhide HN], by go_num, by omega, bel12⟩
          case measure => first | (simp [intOf]; done) | (simp [intOf]; omega)
        · have HN := hide (show hi = (b.take (k + 1)).foldl (fun h e => if h < e.2.1 then e.2.1 else h) H by rw [unhide hSn, List.foldl_append, ← unhide HHi]; simp [hhA])
          go_wp2_with fail
          go_roundw
          case rel => exact ⟨k + 1, by rw [← unhide HN], by go_num, by omega, bel12⟩
          case measure => first | (simp [intOf]; done) | (simp [intOf]; omega)
      · obtain rfl : k = bn := by omega
        have hhf : (b.take k).foldl (fun h e => if h < e.2.1 then e.2.1 else h) H = XH := by rw [List.take_of_length_le (by rw [← unhide HBN]; exact Nat.le_refl _)]; exact (unhide HH).symm
        rw [hhf]
        have eD : Below wr.heap.size wr wr.drew := (Below.refl _ _).drew
        have SXr := hide ((unhide SX10).below hbel)
        have HVr := hide ((unhide HV10).below hbel)
        have HKr := hide (fun (X : World) (hb : Below wr.heap.size wr X) => unhide HK10 X (hbel.trans (hb.mono hsz)))
        have dr := hide ((unhide d10).trans (hbel.mono (unhide d10).size))
        have HXg := hide (Row.fine_good (Row.fine_ok (unhide HXok)))
        have hmlX : Hid (X.length ≤ maxLen) := by have := Row.ok_len (unhide HXok); show X.length ≤ maxLen; unfold maxLen; omega
        have HTx := hide (fun Z (hb : Below wr.heap.size wr Z) => Tab.impl_table2 ((unhide SXr).below hb) (unhide HXg) (unhide hmlX) (unhide HTX))
        have sX := Row.small_ok (unhide HXok)
        have sL := Row.small_ok (unhide hLok)
        have HcX := hide (fun Z (hb : Below wr.heap.size wr Z) => Row.al_count ((unhide SXr).below hb) sX.1 sX.2.1)
        have HcL := hide (fun Z (hb : Below wr.heap.size wr Z) => Row.al_count ((unhide HVr).below hb) sL.1 sL.2.1)
        obtain ⟨nX, hnX⟩ : ∃ k, k = Row.cntS X := ⟨_, rfl⟩
        obtain ⟨nL, hnL⟩ : ∃ k, k = Row.cntS L := ⟨_, rfl⟩
        have bL := sL.2.2
        rw [← hnX] at HcX hcnt
        rw [← hnL] at HcL hcnt bL
        have hle : (nX : Int) ≤ (nL : Int) + (k : Int) := by omega
        have hw0 : -9223372036854775808 ≤ (nL : Int) + (k : Int) ∧ (nL : Int) + (k : Int) ≤ 9223372036854775807 := by omega
        have hwr : IntKind.i64.wrap ((nL : Int) + (k : Int)) = (nL : Int) + (k : Int) := Tab.wrap_in (n := (nL : Int) + (k : Int)) hw0.1 hw0.2
        have hwr2 : wrap64 ((nL : Int) + (k : Int)) = (nL : Int) + (k : Int) := IntWalk.wrap64_in ((nL : Int) + (k : Int)) hw0
        obtain ⟨⟨k0, k1, k2⟩, ⟨j0, j1, j2⟩, ⟨i0, i1, i2⟩⟩ := unhide HKr wr (Below.refl _ _)
        clear sX sL hnX hnL bL hcnt hHF hb7 hk00
        go_wp2_with fail
        clear k0 k1 k2 j0 j1 j2 i0 i1 i2
        refine Grl.start (S := fun X => (X.cell? ⟨W1.heap.size, 0, none⟩ = some (.slice va vn vq) ∧ X.cell? ⟨W1.heap.size, 1, none⟩ = some (.int .i64 H) ∧ X.cell? ⟨W1.heap.size, 2, none⟩ = some (.int .i64 XF)) ∧ (X.cell? ⟨W3.heap.size, 0, none⟩ = some (.slice xa xn xq) ∧ X.cell? ⟨W3.heap.size, 1, none⟩ = some (.int .i64 XH) ∧ X.cell? ⟨W3.heap.size, 2, none⟩ = some (.int .i64 XF)) ∧ (X.cell? ⟨W5.heap.size, 0, none⟩ = some (.slice ya yn yq) ∧ X.cell? ⟨W5.heap.size, 1, none⟩ = some (.int .i64 XH) ∧ X.cell? ⟨W5.heap.size, 2, none⟩ = some (.int .i64 XF))) (by kernel_rfl) (by exact unhide HKr _ eD) (fun hHeld => ?_)
        refine Grl.yes 0 (v := ?_) rfl (by kernel_rfl) (by kernel_rfl) (by kernel_rfl) (fun _ _ _ h => h) (by kernel_rfl) ?_ (by assumption) ?_
        rotate_left
        · (intro w hSw; (try dsimp only at hSw); go_simp; try with_reducible rfl)
        simp only [Act.put, List.setIfInBounds_toArray, List.set_cons_zero, List.set_cons_succ]
        refine Grl.one 1 rfl (by kernel_rfl) (fun K hK => ?_)
        go_simp
        go_wp2_with (refine (unhide HTx wr.drew eD).mono ?_; rintro e w14 ⟨rfl, b14⟩; have e14 := eD.trans (b14.mono eD.size))
        refine hK.out _ _ (by exact unhide HKr _ e14) (fun hHeld => ?_)
        clear hK K
        refine Grl.yes 2 (v := ?_) rfl (by kernel_rfl) (by kernel_rfl) (by kernel_rfl) (fun _ _ _ h => h) (by kernel_rfl) ?_ (by assumption) ?_
        rotate_left
        · (intro w hSw; (try dsimp only at hSw); go_simp; try with_reducible rfl)
        simp only [Act.put, List.setIfInBounds_toArray, List.set_cons_zero, List.set_cons_succ]
        refine Grl.yes 3 (v := ?_) rfl (by kernel_rfl) (by kernel_rfl) (by kernel_rfl) (fun _ _ _ h => h) (by kernel_rfl) ?_ (by assumption) ?_
        rotate_left
        · (intro w hSw; (try dsimp only at hSw); go_simp; try with_reducible rfl)
        simp only [Act.put, List.setIfInBounds_toArray, List.set_cons_zero, List.set_cons_succ]
        refine Grl.yes 4 (v := ?_) rfl (by kernel_rfl) (by kernel_rfl) (by kernel_rfl) (fun _ _ _ h => h) (by kernel_rfl) ?_ (by assumption) ?_
        rotate_left
        · (intro w hSw; (try dsimp only at hSw); go_simp; try with_reducible rfl)
        simp only [Act.put, List.setIfInBounds_toArray, List.set_cons_zero, List.set_cons_succ]
        refine Grl.yes 5 (v := ?_) rfl (by kernel_rfl) (by kernel_rfl) (by kernel_rfl) (fun _ _ _ h => h) (by kernel_rfl) ?_ (by assumption) ?_
        rotate_left
        · (intro w hSw; (try dsimp only at hSw); go_simp; try with_reducible rfl)
        simp only [Act.put, List.setIfInBounds_toArray, List.set_cons_zero, List.set_cons_succ]
        refine Grl.yes 6 (v := ?_) rfl (by kernel_rfl) (by kernel_rfl) (by kernel_rfl) (fun _ _ _ h => h) (by kernel_rfl) ?_ (by assumption) ?_
        rotate_left
        · (intro w hSw; (try dsimp only at hSw); go_simp; try with_reducible rfl)
        simp only [Act.put, List.setIfInBounds_toArray, List.set_cons_zero, List.set_cons_succ]
        refine Grl.yes 7 (v := ?_) rfl (by kernel_rfl) (by kernel_rfl) (by kernel_rfl) (fun _ _ _ h => h) (by kernel_rfl) ?_ (by assumption) ?_
        rotate_left
        · (intro w hSw; (try dsimp only at hSw); go_simp; try with_reducible rfl)
        simp only [Act.put, List.setIfInBounds_toArray, List.set_cons_zero, List.set_cons_succ]
        refine Grl.yes 8 (v := ?_) rfl (by kernel_rfl) (by kernel_rfl) (by kernel_rfl) (fun _ _ _ h => h) (by kernel_rfl) ?_ (by assumption) ?_
        rotate_left
        · (intro w hSw; (try dsimp only at hSw); go_simp; try with_reducible rfl)
        simp only [Act.put, List.setIfInBounds_toArray, List.set_cons_zero, List.set_cons_succ]
        refine Grl.yes 9 (v := ?_) rfl (by kernel_rfl) (by kernel_rfl) (by kernel_rfl) (fun _ _ _ h => h) (by kernel_rfl) ?_ (by assumption) ?_
        rotate_left
        · (intro w hSw; (try dsimp only at hSw); go_simp; try with_reducible rfl)
        simp only [Act.put, List.setIfInBounds_toArray, List.set_cons_zero, List.set_cons_succ]
        refine Grl.yes 10 (v := ?_) rfl (by kernel_rfl) (by kernel_rfl) (by kernel_rfl) (fun _ _ _ h => h) (by kernel_rfl) ?_ (by assumption) ?_
        rotate_left
        · (intro w hSw; (try dsimp only at hSw); go_simp; try with_reducible rfl)
        simp only [Act.put, List.setIfInBounds_toArray, List.set_cons_zero, List.set_cons_succ]
        refine Grl.yes 11 (v := ?_) rfl (by kernel_rfl) (by kernel_rfl) (by kernel_rfl) (fun _ _ _ h => h) (by kernel_rfl) ?_ (by assumption) ?_
        rotate_left
        · (intro w hSw; (try dsimp only at hSw); go_simp; try with_reducible rfl)
        simp only [Act.put, List.setIfInBounds_toArray, List.set_cons_zero, List.set_cons_succ]
        refine Grl.yes 12 (v := ?_) rfl (by kernel_rfl) (by kernel_rfl) (by kernel_rfl) (fun _ _ _ h => h) (by kernel_rfl) ?_ (by assumption) ?_
        rotate_left
        · (intro w hSw; (try dsimp only at hSw); go_simp; try with_reducible rfl)
        simp only [Act.put, List.setIfInBounds_toArray, List.set_cons_zero, List.set_cons_succ]
        refine Grl.yes 13 (v := ?_) rfl (by kernel_rfl) (by kernel_rfl) (by kernel_rfl) (fun _ _ _ h => h) (by kernel_rfl) ?_ (by assumption) ?_
        rotate_left
        · (intro w hSw; (try dsimp only at hSw); go_simp; try with_reducible rfl)
        simp only [Act.put, List.setIfInBounds_toArray, List.set_cons_zero, List.set_cons_succ]
        refine Grl.yes 14 (v := ?_) rfl (by kernel_rfl) (by kernel_rfl) (by kernel_rfl) (fun _ _ _ h => h) (by kernel_rfl) ?_ (by assumption) ?_
        rotate_left
        · (intro w hSw; (try dsimp only at hSw); go_simp; try with_reducible rfl)
        simp only [Act.put, List.setIfInBounds_toArray, List.set_cons_zero, List.set_cons_succ]
        refine Grl.yes 15 (v := ?_) rfl (by kernel_rfl) (by kernel_rfl) (by kernel_rfl) (fun _ _ _ h => h) (by kernel_rfl) ?_ (by assumption) ?_
        rotate_left
        · (intro w hSw; (try dsimp only at hSw); go_simp; try with_reducible rfl)
        simp only [Act.put, List.setIfInBounds_toArray, List.set_cons_zero, List.set_cons_succ]
        refine Grl.yes 16 (v := ?_) rfl (by kernel_rfl) (by kernel_rfl) (by kernel_rfl) (fun _ _ _ h => h) (by kernel_rfl) ?_ (by assumption) ?_
        rotate_left
        · (intro w hSw; (try dsimp only at hSw); go_simp; try with_reducible rfl)
        simp only [Act.put, List.setIfInBounds_toArray, List.set_cons_zero, List.set_cons_succ]
        refine Grl.yes 17 (v := ?_) rfl (by kernel_rfl) (by kernel_rfl) (by kernel_rfl) (fun _ _ _ h => h) (by kernel_rfl) ?_ (by assumption) ?_
        rotate_left
        · (intro w hSw; (try dsimp only at hSw); go_simp; try with_reducible rfl)
        simp only [Act.put, List.setIfInBounds_toArray, List.set_cons_zero, List.set_cons_succ]
        refine Grl.yes 19 (v := ?_) rfl (by kernel_rfl) (by kernel_rfl) (by kernel_rfl) (fun _ _ _ h => h) (by kernel_rfl) ?_ (by assumption) ?_
        rotate_left
        · (intro w hSw; (try dsimp only at hSw); go_simp; try with_reducible rfl)
        simp only [Act.put, List.setIfInBounds_toArray, List.set_cons_zero, List.set_cons_succ]
        refine Grl.yes 20 (v := ?_) rfl (by kernel_rfl) (by kernel_rfl) (by kernel_rfl) (fun _ _ _ h => h) (by kernel_rfl) ?_ (by assumption) ?_
        rotate_left
        · (intro w hSw; (try dsimp only at hSw); go_simp; try with_reducible rfl)
        simp only [Act.put, List.setIfInBounds_toArray, List.set_cons_zero, List.set_cons_succ]
        refine Grl.yes 22 (v := ?_) rfl (by kernel_rfl) (by kernel_rfl) (by kernel_rfl) (fun _ _ _ h => h) (by kernel_rfl) ?_ (by assumption) ?_
        rotate_left
        · (intro w hSw; (try dsimp only at hSw); go_simp; try with_reducible rfl)
        simp only [Act.put, List.setIfInBounds_toArray, List.set_cons_zero, List.set_cons_succ]
        refine Grl.yes 23 (v := ?_) rfl (by kernel_rfl) (by kernel_rfl) (by kernel_rfl) (fun _ _ _ h => h) (by kernel_rfl) ?_ (by assumption) ?_
        rotate_left
        · (intro w hSw; (try dsimp only at hSw); go_simp; try with_reducible rfl)
        simp only [Act.put, List.setIfInBounds_toArray, List.set_cons_zero, List.set_cons_succ]
        refine Grl.one 18 rfl (by kernel_rfl) (fun K hK => ?_)
        go_simp
        go_wp2_with (refine (unhide HcX w14 e14).mono ?_; rintro e w15 ⟨rfl, b15⟩; have e15 := e14.trans (b15.mono e14.size))
        refine hK.out _ _ (by exact unhide HKr _ e15) (fun hHeld => ?_)
        clear hK K
        refine Grl.one 21 rfl (by kernel_rfl) (fun K hK => ?_)
        go_simp
        go_wp2_with (refine (unhide HcL w15 e15).mono ?_; rintro e w16 ⟨rfl, b16⟩; have e16 := e15.trans (b16.mono e15.size))
        refine hK.out _ _ (by exact unhide HKr _ e16) (fun hHeld => ?_)
        clear hK K
        refine Grl.yes 24 (v := ?_) rfl (by kernel_rfl) (by kernel_rfl) (by kernel_rfl) (fun _ _ _ h => h) (by kernel_rfl) ?_ (by assumption) ?_
        rotate_left
        · (intro w hSw; (try dsimp only at hSw); go_simp; try with_reducible rfl)
        simp only [Act.put, List.setIfInBounds_toArray, List.set_cons_zero, List.set_cons_succ]
        refine Grl.yes 25 (v := ?_) rfl (by kernel_rfl) (by kernel_rfl) (by kernel_rfl) (fun _ _ _ h => h) (by kernel_rfl) ?_ (by assumption) ?_
        rotate_left
        · (intro w hSw; (try dsimp only at hSw); go_simp; try with_reducible rfl)
        simp only [Act.put, List.setIfInBounds_toArray, List.set_cons_zero, List.set_cons_succ]
        refine Grl.yes 26 (v := ?_) rfl (by kernel_rfl) (by kernel_rfl) (by kernel_rfl) (fun _ _ _ h => h) (by kernel_rfl) ?_ (by assumption) ?_
        rotate_left
        · (intro w hSw; (try dsimp only at hSw); go_simp; try with_reducible rfl)
        simp only [Act.put, List.setIfInBounds_toArray, List.set_cons_zero, List.set_cons_succ]
        refine Grl.yes 27 (v := ?_) rfl (by kernel_rfl) (by kernel_rfl) (by kernel_rfl) (fun _ _ _ h => h) (by kernel_rfl) ?_ (by assumption) ?_
        rotate_left
        · (intro w hSw; (try dsimp only at hSw); go_simp; try with_reducible rfl)
        simp only [Act.put, List.setIfInBounds_toArray, List.set_cons_zero, List.set_cons_succ]
        refine wpAnyH_done (by kernel_rfl) ?_ _
        have d16 := (unhide dr).trans (e16.mono (unhide dr).size)
        go_wp2
        go_ret
        exact ⟨rfl, d16⟩
  · have hkb : (kc != 0) = true := by simp [hk0]
    have hXe2 : (X, XH, XF) = (L, H, F) := by
      by_cases hl : 1 ≤ b.length ∧ b.length ≤ 6
      · by_cases h0 : (Tab.runT (L, H, F) b).2 = 0
        · obtain ⟨t', ht'⟩ : ∃ t', Tab.runT (L, H, F) b = (t', 0) := ⟨(Tab.runT (L, H, F) b).1, by rw [← h0]⟩
          rw [Tab.addE_fine hl ht', Prod.mk.injEq] at hXe
          exact absurd hXe.2 hk0
        · rw [Tab.addE_stop hl rfl h0, Prod.mk.injEq] at hXe
          exact hXe.1
      · rw [Tab.addE_bad hl, Prod.mk.injEq] at hXe
        exact hXe.1
    simp only [Prod.mk.injEq] at hXe2
    obtain ⟨hX1, hXH, hXF⟩ := hXe2
    clear hXe
    obtain rfl : L = X := hX1.symm
    obtain rfl : H = XH := hXH.symm
    obtain rfl : F = XF := hXF.symm
    have HAl := hide (Tab.al_table (H := H) (F := F) (unhide SX10) (unhide HV10))
    go_wp2_with fail
    refine (unhide HAl).mono ?_
    rintro e w12 ⟨rfl, b12⟩
    have d12 := (unhide d10).trans (b12.mono (unhide d10).size)
    go_wp2
    go_ret
    exact ⟨rfl, d12⟩
end Go.Proofs.YtlboekimnhgfdaaGreat
