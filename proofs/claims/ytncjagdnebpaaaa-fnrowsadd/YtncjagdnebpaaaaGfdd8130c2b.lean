/- My own texts of one claim, laid together by program: FnRowsAddWalk. -/
import Derived.Test.YtncjagdnebpaaaaG2a52908472
import Derived.Test.YtncjagdnebpaaaaGae121fb56e
import Derived.Test.YtncjagdnebpaaaaG94f9771b75
import Derived.Test.YtncjagdnebpaaaaG3907c7d8cb
/- FnRowsAdd returns true at every text of bytes. -/
namespace Go.Proofs.Ytncjagdnebpaaaa
open Go.RowKit Draw Rw
set_option linter.unusedVariables false
set_option linter.unusedSimpArgs false
theorem Radd.form {w : World} {v : Value} {zs : List Row.E} (h : Row.Is w v zs) : ∃ a n q, v = .slice a n q := by obtain ⟨cs, -, hL, -⟩ := h; obtain ⟨-, a, q, e, -⟩ := hL; exact ⟨a, _, q, e⟩
theorem Radd.bounds {L : List Row.E} (h : Row.ok L = true) : L.length ≤ 1000 ∧ ∀ x ∈ L, x.2.length ≤ 1000 := ⟨by have := Row.ok_len h; omega, fun x hx => Row.row_bounds h hx⟩
/-- the other number: one more, without the greatest -/
theorem Radd.other {T V : Int} (h : SampMath.inR T V = true) : ∃ V' : Int, (V + 1).tmod 2147483647 = V' ∧ (V + 1) % 2147483647 = V' ∧ IntKind.i64.wrap (V + 1) = V + 1 ∧ IntKind.i64.wrap V' = V' ∧ SampMath.inR T V' = true ∧ V' ≠ V ∧ 0 ≤ V' ∧ V' < 2147483647 ∧ 0 ≤ V ∧ V ≤ 2147483647 := by
  unfold SampMath.inR at h ⊢
  simp only [Bool.and_eq_true, decide_eq_true_eq] at h
  obtain ⟨⟨h1, h2⟩, h3, h4⟩ := h
  have e : (V + 1).tmod 2147483647 = (V + 1) % 2147483647 := Int.tmod_eq_emod_of_nonneg (by omega)
  refine ⟨(V + 1) % 2147483647, e, rfl, Grl.wrap_ok (by omega) (by omega), Grl.wrap_ok (by omega) (by omega), ?_, by omega, by omega, by omega, h3, h4⟩
  simp only [Bool.and_eq_true, decide_eq_true_eq]
  omega
set_option maxRecDepth 100000 in
set_option maxHeartbeats 8000000 in
theorem fnRowsAdd.walk (a0 : Option Addr) (len0 cap0 : Nat) (z0 : List Int) (w : World) (w0 : IsRow .u8 w a0 len0 cap0 z0) :
    Calls Try.prog 3 #[.slice a0 len0 cap0] w fun e w' => e = .returned (.bool true) ∧ Below w.heap.size w w' := by
  have l0 := (row_bytes w0)
  have c0 : len0 ≤ 9223372036854775807 := by have := l0.1; have := l0.2.1; unfold maxLen at this; omega
  have H0 := hide (draw_radd w w w0 (Below.refl _ _))
  clear l0 w0
  by_cases hb0 : 1048576 < len0
  · go_enter Try.func3, Try.ntmps3
    go_wp2
    go_ret
    exact ⟨rfl, Below.refl _ _⟩
  go_enter Try.func3, Try.ntmps3
  go_wp2_with fail
  refine (unhide H0).mono ?_
  rintro e W1 ⟨zs, ls, T, V, v, u, rfl, hG, hLG, hTV, hv, hu, b1⟩
  have hgz : Hid (∀ x ∈ zs, Row.good x) := hG.2
  have hlz : Hid (zs.length ≤ maxLen) := by have := hG.1; show zs.length ≤ maxLen; unfold maxLen; omega
  have hgl : Hid (∀ y ∈ ls, Lab.good y) := hLG.2
  have hll : Hid (ls.length ≤ maxLen) := by have := hLG.1; show ls.length ≤ maxLen; unfold maxLen; omega
  obtain ⟨va, vn, vq, rfl⟩ := Radd.form hv
  obtain ⟨ua, un, uq, rfl⟩ : ∃ a n q, u = .slice a n q := by obtain ⟨-, a, q, e, -⟩ := id hu; exact ⟨a, _, q, e⟩
  obtain ⟨xb, hxb⟩ : ∃ k, k = W1.heap.size := ⟨_, rfl⟩
  obtain ⟨W2, hW2⟩ : ∃ X, W1.alloc (.cells #[.int .i64 T, .int .i64 V] 26) = X := ⟨_, rfl⟩
  have b12 : Below W1.heap.size W1 W2 := by rw [← hW2]; exact (Below.refl _ _).alloc (Nat.le_refl _) _
  have hSB : SB 0 W2 xb (.int .i64 T) (.int .i64 V) := by rw [← hW2, hxb]; exact sbox_new _ _ (Nat.zero_le _)
  have hxl : xb < W2.heap.size := own_block_lt hSB xb rfl
  have HK := hide (fun (X : World) (hb : Below W2.heap.size W2 X) => show (X.cell? ⟨xb, 0, none⟩ = some (.int .i64 T) ∧ X.cell? ⟨xb, 1, none⟩ = some (.int .i64 V)) from ⟨(hb.cell (p := ⟨xb, _, none⟩) hxl).trans (sbox_two hSB).1, (hb.cell (p := ⟨xb, _, none⟩) hxl).trans (sbox_two hSB).2.1⟩)
  have HV := hide (hv.below b12)
  have HU := hide (hu.below b12)
  have d2 := b1.trans (b12.mono b1.size)
  have z2 := d2.size
  have HI := hide (fun X (hb : Below W2.heap.size W2 X) => Row.impl_radd T V ((unhide HV).below hb) (unhide hgz) (unhide hlz) ((unhide HU).below hb) (unhide hgl))
  have HS := hide (fun X (hb : Below W2.heap.size W2 X) => Row.spec_radd T V ((unhide HV).below hb) (unhide hgz) (unhide hlz) ((unhide HU).below hb) (unhide hgl) (unhide hll))
  have HOi := hide (fun X (hb : Below W2.heap.size W2 X) => Row.impl_ok ((unhide HV).below hb) (unhide hgz) (unhide hlz))
  have HOs := hide (fun X (hb : Below W2.heap.size W2 X) => Row.spec_ok ((unhide HV).below hb) (unhide hgz) (unhide hlz))
  obtain ⟨⟨R, B⟩, hRB⟩ : ∃ t, t = Row.radd zs ls T V := ⟨_, rfl⟩
  rw [← hRB] at HI HS
  have HRB := hide hRB.symm
  obtain ⟨k0, k1⟩ : W2.cell? ⟨W1.heap.size, 0, none⟩ = some (.int .i64 T) ∧ W2.cell? ⟨W1.heap.size, 1, none⟩ = some (.int .i64 V) := by rw [← hxb]; exact unhide HK W2 (Below.refl _ _)
  have HXB := hide hxb
  clear hRB hSB hG hLG hTV hv hu b12 b1 H0 hxl hxb
  go_wp2_with fail
  rw [← unhide HXB]
  clear hW2 HXB
  refine (unhide HI W2 (Below.refl _ _)).mono ?_
  rintro e W3 ⟨x, rfl, ox, c3⟩
  obtain ⟨xa, xn, xq, rfl⟩ := Radd.form ox.is
  have SX3 := hide ox.is
  clear k0 k1 ox
  obtain ⟨k0, k1⟩ := unhide HK W3 c3
  go_wp2_with fail
  refine (unhide HS W3 c3).mono ?_
  rintro e W4 ⟨y, rfl, oy, b4⟩
  obtain ⟨ya, yn, yq, rfl⟩ := Radd.form oy.is
  have c4 := c3.trans (b4.mono c3.size)
  have SX4 := hide ((unhide SX3).below b4)
  have SY4 := hide oy.is
  clear k0 k1 oy b4 c3 SX3 HS
  cases B
  · cases hK : Row.ok zs
    · rw [hK] at HOi HOs
      clear hK
      go_wp2_with fail
      refine (Row.al_rows (unhide SX4) (unhide SY4)).mono ?_
      rintro e w5 ⟨rfl, b5⟩
      have c5 := c4.trans (b5.mono c4.size)
      have SX5 := hide ((unhide SX4).below b5)
      have SY5 := hide ((unhide SY4).below b5)
      clear b5
      go_wp2_with fail
      refine (unhide HOi w5 c5).mono ?_
      rintro e w6 ⟨rfl, b6⟩
      have c6 := c5.trans (b6.mono c5.size)
      have SX6 := hide ((unhide SX5).below b6)
      have SY6 := hide ((unhide SY5).below b6)
      clear b6
      go_wp2_with fail
      refine (unhide HOs w6 c6).mono ?_
      rintro e w7 ⟨rfl, b7⟩
      have c7 := c6.trans (b7.mono c6.size)
      have SX7 := hide ((unhide SX6).below b7)
      have SY7 := hide ((unhide SY6).below b7)
      clear b7
      go_wp2_with fail
      refine (Row.al_rows (unhide SX7) (unhide SY7)).mono ?_
      rintro e w8 ⟨rfl, b8⟩
      have c8 := c7.trans (b8.mono c7.size)
      clear b8
      go_wp2_with fail
      refine (unhide HOi w8 c8).mono ?_
      rintro e w9 ⟨rfl, b9⟩
      have c9 := c8.trans (b9.mono c8.size)
      clear b9
      go_wp2_with fail
      refine (unhide HOs w9 c9).mono ?_
      rintro e w10 ⟨rfl, b10⟩
      have c10 := c9.trans (b10.mono c9.size)
      clear b10
      have d10 := d2.trans (c10.mono z2)
      go_wp2
      go_ret
      exact ⟨rfl, d10⟩
    · rw [hK] at HOi HOs
      clear hK
      go_wp2_with fail
      refine (Row.al_rows (unhide SX4) (unhide SY4)).mono ?_
      rintro e w5 ⟨rfl, b5⟩
      have c5 := c4.trans (b5.mono c4.size)
      have SX5 := hide ((unhide SX4).below b5)
      have SY5 := hide ((unhide SY4).below b5)
      clear b5
      go_wp2_with fail
      refine (unhide HOi w5 c5).mono ?_
      rintro e w6 ⟨rfl, b6⟩
      have c6 := c5.trans (b6.mono c5.size)
      have SX6 := hide ((unhide SX5).below b6)
      have SY6 := hide ((unhide SY5).below b6)
      clear b6
      go_wp2_with fail
      refine (unhide HOs w6 c6).mono ?_
      rintro e w7 ⟨rfl, b7⟩
      have c7 := c6.trans (b7.mono c6.size)
      have SX7 := hide ((unhide SX6).below b7)
      have SY7 := hide ((unhide SY6).below b7)
      clear b7
      go_wp2_with fail
      refine (Row.al_rows (unhide SX7) (unhide SY7)).mono ?_
      rintro e w8 ⟨rfl, b8⟩
      have c8 := c7.trans (b8.mono c7.size)
      clear b8
      go_wp2_with fail
      refine (unhide HOi w8 c8).mono ?_
      rintro e w9 ⟨rfl, b9⟩
      have c9 := c8.trans (b9.mono c8.size)
      clear b9
      go_wp2_with fail
      refine (unhide HOs w9 c9).mono ?_
      rintro e w10 ⟨rfl, b10⟩
      have c10 := c9.trans (b10.mono c9.size)
      clear b10
      have d10 := d2.trans (c10.mono z2)
      go_wp2
      go_ret
      exact ⟨rfl, d10⟩
  obtain ⟨hok, hokl, hin, hokR, hhere, hag, hoth, hcnt⟩ := Row.radd_says (unhide HRB)
  obtain ⟨V', hV1, hV2, hV3, hV4, hinV, hVne, hV5, hV6, hV7, hV8⟩ := Radd.other hin
  have HC := hide hcnt
  have HKz := hide hok
  have HKR := hide hokR
  have HH := hide hhere
  have hgR := hide (Row.fine_good (Row.fine_ok hokR))
  have hlR : Hid (R.length ≤ maxLen) := by have := Row.ok_len hokR; show R.length ≤ maxLen; unfold maxLen; omega
  have HIn := hide hinV
  have HNe := hide hVne
  have HAg := hide hag
  have HOt := hide (hoth V' hinV hVne)
  rw [hok] at HOi HOs
  have hVq : (V' == V) = false := by simpa using hVne
  have hVd : decide (V' = V) = false := by simpa using hVne
  clear hok hokl hin hokR hhere hag hoth hinV hVne hcnt HRB
  go_wp2_with fail
  refine (Row.al_rows (unhide SX4) (unhide SY4)).mono ?_
  rintro e w5 ⟨rfl, b5⟩
  have c5 := c4.trans (b5.mono c4.size)
  have SX5 := hide ((unhide SX4).below b5)
  have SY5 := hide ((unhide SY4).below b5)
  clear b5
  go_wp2_with fail
  refine (unhide HOi w5 c5).mono ?_
  rintro e w6 ⟨rfl, b6⟩
  have c6 := c5.trans (b6.mono c5.size)
  have SX6 := hide ((unhide SX5).below b6)
  have SY6 := hide ((unhide SY5).below b6)
  clear b6
  go_wp2_with fail
  refine (unhide HOs w6 c6).mono ?_
  rintro e w7 ⟨rfl, b7⟩
  have c7 := c6.trans (b7.mono c6.size)
  have SX7 := hide ((unhide SX6).below b7)
  have SY7 := hide ((unhide SY6).below b7)
  clear b7
  obtain ⟨k0, k1⟩ := unhide HK w7 c7
  go_wp2_with fail
  refine (Row.al_at T (unhide SX7) (unhide HKR) ((unhide HU).below c7)).mono ?_
  rintro e w8 ⟨V1, B1, rfl, hAt, b8⟩
  obtain ⟨rfl, rfl⟩ : true = B1 ∧ V = V1 := by
    rcases hAt with ⟨e1, h4⟩ | ⟨e1, h4⟩
    · exact ⟨e1.symm, (Row.at_uniq (Row.fine_ok (unhide HKR)) h4 (unhide HH)).symm⟩
    · obtain ⟨z, hz, ez, hs⟩ := unhide HH
      exact absurd rfl (h4 z hz ez _ hs)
  have c8 := c7.trans (b8.mono c7.size)
  have SX8 := hide ((unhide SX7).below b8)
  clear k0 k1 hAt b8
  obtain ⟨k0, k1⟩ := unhide HK w8 c8
  go_wp2_with fail
  refine (Row.al_at T ((unhide HV).below c8) (unhide HKz) ((unhide HU).below c8)).mono ?_
  rintro e w9 ⟨V2, B2, rfl, hAt, b9⟩
  have hCN := unhide HC _ _ hAt
  have c9 := c8.trans (b9.mono c8.size)
  have SX9 := hide ((unhide SX8).below b9)
  clear k0 k1 hAt b9 HC
  obtain ⟨N0, hN0⟩ : ∃ n, n = Row.cntS zs := ⟨_, rfl⟩
  obtain ⟨N1, hN1⟩ : ∃ n, n = Row.cntS R := ⟨_, rfl⟩
  have HN0 := hide (fun X (hb : Below W2.heap.size W2 X) => Row.al_count ((unhide HV).below hb) (Radd.bounds (unhide HKz)).1 (Radd.bounds (unhide HKz)).2)
  have hbz := Row.cntS_le (Radd.bounds (unhide HKz)).2
  have hbz2 := (Row.ok_len (unhide HKz))
  have HN1 := hide (fun X (hb : Row.Is X (.slice xa xn xq) R) => Row.al_count hb (Radd.bounds (unhide HKR)).1 (Radd.bounds (unhide HKR)).2)
  rw [← hN0] at HN0 hbz hCN
  rw [← hN1] at HN1 hCN
  have hN0b : N0 ≤ 10000 := by omega
  clear hN0 hN1 hbz hbz2
  have hwN : IntKind.i64.wrap ((N0 : Int) + 1) = (N0 : Int) + 1 := Grl.wrap_ok (by omega) (by omega)
  have hwM : IntKind.i64.wrap ((N0 : Int) + 1 - 1) = (N0 : Int) := by rw [Int.add_sub_cancel]; exact Grl.wrap_ok (by omega) (by omega)
  obtain ⟨k0, k1⟩ := unhide HK w9 c9
  go_wp2_with fail
  have HI2 := hide (Row.impl_radd T V (unhide SX9) (unhide hgR) (unhide hlR) ((unhide HU).below c9) (unhide hgl))
  rw [unhide HAg] at HI2
  dsimp only at HI2
  refine (unhide HI2).mono ?_
  rintro e w10 ⟨p, rfl, op, b10⟩
  obtain ⟨pa, pn, pq, rfl⟩ := Radd.form op.is
  have c10 := c9.trans (b10.mono c9.size)
  have SX10 := hide ((unhide SX9).below b10)
  have SP10 := hide op.is
  clear k0 k1 op b10 SX9 HI2
  obtain ⟨k0, k1⟩ := unhide HK w10 c10
  have HI3 := hide (Row.impl_radd T V' (unhide SX10) (unhide hgR) (unhide hlR) ((unhide HU).below c10) (unhide hgl))
  rw [unhide HOt] at HI3
  dsimp only at HI3
  go_wp2_with fail
  refine (unhide HI3).mono ?_
  rintro e w11 ⟨o, rfl, oo, b11⟩
  obtain ⟨oa, on, oq, rfl⟩ := Radd.form oo.is
  have c11 := c10.trans (b11.mono c10.size)
  have SX11 := hide ((unhide SX10).below b11)
  have SP11 := hide ((unhide SP10).below b11)
  clear k0 k1 oo b11 SX10 SP10 HI3
  go_wp2_with fail
  refine (unhide HN0 w11 c11).mono ?_
  rintro e w12 ⟨rfl, b12⟩
  have c12 := c11.trans (b12.mono c11.size)
  have SX12 := hide ((unhide SX11).below b12)
  have SP12 := hide ((unhide SP11).below b12)
  clear b12 SX11 SP11 HN0
  obtain ⟨k0, k1⟩ := unhide HK w12 c12
  cases B2
  · skip
    obtain rfl : N1 = N0 + 1 := by simpa using hCN
    have hq1 : ((((N0 + 1 : Nat) : Int)) == (N0 : Int) + 1) = true := by simp
    have hq2 : ((N0 + 1 : Nat) : Int) = (N0 : Int) + 1 := by omega
    rw [hq2] at HN1
    clear hCN
    have HN1' := hide (unhide HN1 w12 (unhide SX12))
    clear HN1
    go_wp2_with fail
    refine (unhide HN1').mono ?_
    rintro e w13 ⟨rfl, b13⟩
    have c13 := c12.trans (b13.mono c12.size)
    have SX13 := hide ((unhide SX12).below b13)
    have SP13 := hide ((unhide SP12).below b13)
    clear b13 SX12 SP12 k0 k1 HN1'
    obtain ⟨k0, k1⟩ := unhide HK w13 c13
    have HA := hide (Row.al_rows (unhide SP13) (unhide SX13))
    go_wp2_with fail
    refine (unhide HA).mono ?_
    rintro e w14 ⟨rfl, b14⟩
    have c14 := c13.trans (b14.mono c13.size)
    have HO := hide (Row.impl_ok ((unhide SX13).below b14) (unhide hgR) (unhide hlR))
    rw [unhide HKR] at HO
    clear b14 SX13 SP13 k0 k1 HA
    obtain ⟨k0, k1⟩ := unhide HK w14 c14
    go_wp2_with fail
    refine (unhide HO).mono ?_
    rintro e w15 ⟨rfl, b15⟩
    have d15 := d2.trans ((c14.trans (b15.mono c14.size)).mono z2)
    clear b15 HO
    go_wp2
    go_ret
    exact ⟨rfl, d15⟩
  · skip
    obtain rfl : N1 = N0 := by simpa using hCN
    clear hCN
    have HN1' := hide (unhide HN1 w12 (unhide SX12))
    clear HN1
    go_wp2_with fail
    refine (unhide HN1').mono ?_
    rintro e w13 ⟨rfl, b13⟩
    have c13 := c12.trans (b13.mono c12.size)
    have SX13 := hide ((unhide SX12).below b13)
    have SP13 := hide ((unhide SP12).below b13)
    clear b13 SX12 SP12 k0 k1 HN1'
    obtain ⟨k0, k1⟩ := unhide HK w13 c13
    have HA := hide (Row.al_rows (unhide SP13) (unhide SX13))
    go_wp2_with fail
    refine (unhide HA).mono ?_
    rintro e w14 ⟨rfl, b14⟩
    have c14 := c13.trans (b14.mono c13.size)
    have HO := hide (Row.impl_ok ((unhide SX13).below b14) (unhide hgR) (unhide hlR))
    rw [unhide HKR] at HO
    clear b14 SX13 SP13 k0 k1 HA
    obtain ⟨k0, k1⟩ := unhide HK w14 c14
    go_wp2_with fail
    refine (unhide HO).mono ?_
    rintro e w15 ⟨rfl, b15⟩
    have d15 := d2.trans ((c14.trans (b15.mono c14.size)).mono z2)
    clear b15 HO
    go_wp2
    go_ret
    exact ⟨rfl, d15⟩
end Go.Proofs.Ytncjagdnebpaaaa
