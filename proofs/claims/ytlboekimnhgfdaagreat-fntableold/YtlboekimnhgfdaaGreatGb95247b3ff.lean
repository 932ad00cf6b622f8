/- My own texts of one claim, laid together by program: RowDrop, RowDrop2, TabDrop, TabKeep. -/
import Derived.Test.YtlboekimnhgfdaaGreatG4d8bebc498
/- RowsDrop of the program. -/
namespace Go.Proofs.YtlboekimnhgfdaaGreat.Row
open Go.RowKit Rw
set_option linter.unusedVariables false
attribute [local go_sem ↓] Go.wp_at_zero Go.wp_at_succ
theorem drop_snoc (ms : List Mat.E) (f t : Int) (zs : List E) (k : Nat) (h : k < zs.length) : outL (dropG ms f t) (zs.take (k + 1)) = st (outL (dropG ms f t) (zs.take k)) (at' zs k).1 (dropG ms f t (at' zs k)) := by
  rw [outL_snoc _ zs k h]
  unfold st
  split
  · rw [List.append_nil]
  · rfl
set_option maxRecDepth 100000 in
set_option maxHeartbeats 8000000 in
theorem impl_drop {w : World} {v u : Value} {zs : List E} {ms : List Mat.E} (f t : Int) (h : Is w v zs) (hm : Mat.Is w u ms) (hg : ∀ x ∈ zs, good x) (hlen : zs.length ≤ maxLen) (hmg : ∀ x ∈ ms, Mat.good x) (hml : ms.length ≤ maxLen) :
    Calls Tryz.prog 56 #[v, u, .int .i64 f, .int .i64 t] w fun e w' => ∃ r, e = .returned r ∧ Own w.heap.size w'.heap.size w' r (drop ms f t zs) ∧ Below w.heap.size w w' := by
  have HO := hide (impl_ok h hg hlen)
  obtain ⟨au, nu, cu, eu⟩ : ∃ a n c, u = .slice a n c := by obtain ⟨-, a, c, e, -⟩ := hm; exact ⟨a, _, c, e⟩
  subst eu
  have HMk := hide (fun W (hb : Below w.heap.size w W) => Mat.impl_ok (hm.below hb) hmg hml)
  obtain ⟨av, nv, cv, ev⟩ : ∃ a n c, v = .slice a n c := by obtain ⟨cs, -, hL, -⟩ := h; obtain ⟨-, a, c, e, -⟩ := hL; exact ⟨a, _, c, e⟩
  cases hok : ok zs
  · have HR := hide (show drop ms f t zs = [] by unfold drop; rw [hok]; simp)
    rw [hok] at HO
    clear h hm hg hmg hok
    subst ev
    go_enter Tryz.func56, Tryz.ntmps56
    go_wp2_with fail
    refine (unhide HO).mono ?_
    rintro e w1 ⟨rfl, b1⟩
    go_wp2_with fail
    go_ret
    exact ⟨_, rfl, by rw [unhide HR]; have := own_nil w.heap.size w1; exact this, b1⟩
  cases hmo : Mat.ok ms
  · have HR := hide (show drop ms f t zs = [] by unfold drop; rw [hmo]; simp)
    rw [hok] at HO
    rw [hmo] at HMk
    clear h hm hg hmg hok hmo
    subst ev
    go_enter Tryz.func56, Tryz.ntmps56
    go_wp2_with fail
    refine (unhide HO).mono ?_
    rintro e w1 ⟨rfl, b1⟩
    go_wp2_with fail
    refine (unhide HMk w1 b1).mono ?_
    rintro e w2 ⟨rfl, b2⟩
    have b12 := b1.trans (b2.mono b1.size)
    go_wp2_with fail
    go_ret
    exact ⟨_, rfl, by rw [unhide HR]; have := own_nil w.heap.size w2; exact this, b12⟩
  clear ev av nv cv
  have HR := hide (show drop ms f t zs = outL (dropG ms f t) zs by unfold drop; rw [if_pos ⟨hok, hmo⟩])
  rw [hok] at HO
  rw [hmo] at HMk
  have HOK := hide hok
  have hn10 := ok_len hok
  have HLet := hide (fun W (hb : Below w.heap.size w W) (lv : Value) (ls : List Lab.E) (hl : Lab.Is W lv ls) (hlg : ∀ x ∈ ls, Lab.good x) => Mat.impl_let (hm.below hb) hl hmg hlg hml)
  obtain ⟨cs, hcs, hL, hE⟩ := h
  have HE := hide hE
  have HG := hide hg
  obtain ⟨-, a, cap, rfl, hc, hmx, -, hr⟩ := hL
  unfold maxLen at hmx
  obtain ⟨l, hl⟩ : ∃ l, l = zs.length := ⟨_, rfl⟩
  rw [← hl] at hc hr hcs hn10 HO ⊢
  have HN := hide hl
  have HC := hide hcs
  clear hl hE hcs hg hm hmg hok hlen hml hmo
  go_enter Tryz.func56, Tryz.ntmps56
  go_wp2_with fail
  refine (unhide HO).mono ?_
  rintro e w0 ⟨rfl, b0⟩
  go_wp2_with fail
  refine (unhide HMk w0 b0).mono ?_
  rintro e w1 ⟨rfl, b1'⟩
  have b1 := b0.trans (b1'.mono b0.size)
  clear b1' b0
  go_wp2_with fail
  refine (RSet.new_any w1).mono ?_
  rintro e w2 ⟨mb, rfl, hmb, hM2, b2⟩
  have z1 := b1.size
  have z2 := b2.size
  go_wp2_with fail
  obtain ⟨wa, hwa⟩ : ∃ wa, wa = w2.alloc (.cells #[.slice none 0 0, .map (some mb)] 99) := ⟨_, rfl⟩
  rw [← hwa]
  have ba : Below w2.heap.size w2 wa := by rw [hwa]; exact (Below.refl _ _).alloc (Nat.le_refl _) _
  have za : wa.heap.size = w2.heap.size + 1 := by rw [hwa]; simp
  have bwa : Below w.heap.size w wa := (b1.trans (b2.mono z1)).trans (ba.mono (by omega))
  have hmlt := hM2.lt
  have hB0 : RSet.Built w.heap.size w2.heap.size mb 0 wa (outL (dropG ms f t) (zs.take 0)) := ⟨fun _ => none, fun _ => ([], []), ⟨by omega, by omega, by omega, by omega, ⟨.slice none 0 0, by rw [hwa]; simp [go_sem], World.ownsRow_nil _ _ _ _, fun k hk => by cases hk⟩, by rw [hwa]; simp [go_sem], by rw [hwa]; simp [go_sem], hM2.below ba, fun k => by simp [outL], fun k c hc => (by cases hc), fun k k' c c' _ hc => (by cases hc)⟩, by simp [outL]⟩
  have HB0 := hide hB0
  have hmlt' : mb < wa.heap.size := by omega
  have hlows : w.heap.size ≤ w2.heap.size := by omega
  have hlowm : w.heap.size ≤ mb := by omega
  generalize hBB : w2.heap.size = B at *
  have hBl : B < wa.heap.size := by omega
  have HBm := hide (show B ≠ mb by omega)
  clear hwa hB0 ba hM2 hBB b1 b2 HO HMk
  go_loopw [23] (fun i wr => ∃ (k n : Nat), k ≤ l ∧ i = .int .i64 k ∧ n ≤ 2 * k ∧ Hid (RSet.Built w.heap.size B mb n wr (outL (dropG ms f t) (zs.take k))) ∧ RSet.Two B mb wa wr) (fun i _ => l - (intOf i).toNat)
  case atStart => exact ⟨0, 0, Nat.zero_le _, rfl, Nat.le_refl _, HB0, RSet.Two.refl _ _ _⟩
  case round =>
    obtain ⟨k, n, hk, rfl, hnk, HB, h2⟩ := hrel
    have hsz := h2.size
    have hbel : Below w.heap.size w wr := bwa.trans (h2.below hlows hlowm (by omega))
    by_cases hlt : k < l
    · obtain ⟨b, off, rfl, hbl, hcells⟩ := hr (by omega)
      have fa := flat_at cs k (by have := unhide HC; omega)
      have hc0 : wr.cell? ⟨b, off + k * 2, none⟩ = some (cat cs k).1 := (hbel.cell (p := ⟨b, _, none⟩) hbl).trans (hcells (k * 2) _ fa.1)
      have hc1 : wr.cell? ⟨b, off + k * 2 + 1, none⟩ = some (cat cs k).2 := (hbel.cell (p := ⟨b, _, none⟩) hbl).trans (hcells (k * 2 + 1) _ fa.2)
      have hkz : k < zs.length := by have := unhide HN; omega
      have hEk := unhide HE k hkz
      have hgk := unhide HG (at' zs k) (at_mem zs k hkz)
      have hst := step_is (ok_at (unhide HOK) hkz)
      have hsn := drop_snoc ms f t zs k hkz
      have hah := outL_ahead (g := dropG ms f t) (unhide HOK) hkz
      have hol := outL_len (dropG ms f t) (zs.take k)
      rw [List.length_take] at hol
      obtain ⟨⟨ls, xs⟩, hX⟩ : ∃ x, x = at' zs k := ⟨_, rfl⟩
      rw [← hX] at hEk hgk hst hsn hah
      simp only at hst hah hsn
      obtain ⟨c0, c1, hY⟩ : ∃ c0 c1, (c0, c1) = cat cs k := ⟨_, _, rfl⟩
      rw [← hY] at hc0 hc1 hEk
      have hE1 : Lab.Is w c0 ls := hEk.1
      have hE2 : Sam.Is w c1 xs := hEk.2
      obtain ⟨-, a0, q0, e0, -⟩ := hE1
      obtain ⟨-, a1, q1, e1, -⟩ := hE2
      have hE1 : Lab.Is w c0 ls := hEk.1
      have hE2 : Sam.Is w c1 xs := hEk.2
      clear fa hEk hX hY
      have hxne : xs ≠ [] := fun e => by rw [e] at hst; simp at hst
      have hk0 : (0 : Int) ≤ (k : Int) := Int.natCast_nonneg _
      have hk1 : (k : Int) < (l : Int) := by omega
      have hWf : ∀ o, Below wr.heap.size wr (wr.alloc o) := fun o => (Below.refl _ _).alloc (Nat.le_refl _) _
      have hob : wr.heap.size ≠ B ∧ wr.heap.size ≠ mb := ⟨by omega, by omega⟩
      have HL := hide (fun W (hb : Below w.heap.size w W) => unhide HLet W hb c0 ls (hE1.below hb) hgk.1.2)
      have HPut := hide (fun (W : World) (n' m sc : Nat) (sa : Option Addr) (a D J : List Sam.E) (hn' : n' ≤ 1000) (hb : Below w.heap.size w W) (hB : RSet.Built w.heap.size B mb n' W (st (outL (dropG ms f t) (zs.take k)) ls a)) (hs : Samp.Smp W (.slice sa m sc) D) (hm : D.length = m) (ha : SampMath.ok a = true) (hD : SampMath.ok D = true) (hJ : SampMath.join a D = (J, true)) (h1 : m ≤ 4194304) (h2 : a.length ≤ 4194304) => RSet.put_st hB (by omega) hn' hah (hE1.below hb) hgk.1.2 hst.1 hs hm ha hD hJ h1 h2 hb.size)
      have HB0 := hide (show RSet.Built w.heap.size B mb n wr (st (outL (dropG ms f t) (zs.take k)) ls []) by rw [show st (outL (dropG ms f t) (zs.take k)) ls [] = outL (dropG ms f t) (zs.take k) from if_pos rfl]; exact unhide HB)
      have hxok := hst.2.2.2
      have hx1000 := hst.2.2.1
      cases hlet : Mat.mlet ms ls
      · have hg0 : dropG ms f t (ls, xs) = xs := by unfold dropG; rw [hlet]; rfl
        rw [hg0] at hsn
        rw [hlet] at HL
        have HSn := hide hsn
        have HP2 := hide (fun (W : World) (hb : Below wr.heap.size wr W) => unhide HPut W n xs.length q1 a1 [] xs xs (by omega) (hbel.trans (hb.mono (by omega))) ((unhide HB0).below hb) (by rw [← e1]; exact smp_of_lies (hE2.below (hbel.trans (hb.mono (by omega)))) hxne) rfl rfl hxok (RSet.join_first hxok) (by omega) (by simp))
        clear hlet hgk hst hsn hah hg0 hE1 hE2 HPut HB HB0 hxok hxne
        subst e0 e1
        go_wp2_with fail
        obtain ⟨W, hW⟩ : ∃ W, W = wr.alloc (.cells #[.slice a0 ls.length q0, .slice a1 xs.length q1] 93) := ⟨_, rfl⟩
        rw [← hW]
        have bW : Below wr.heap.size wr W := by rw [hW]; exact hWf _
        have zW : W.heap.size = wr.heap.size + 1 := by rw [hW]; simp
        have y0 : W.cell? ⟨wr.heap.size, 0, none⟩ = some (.slice a0 ls.length q0) := by rw [hW]; simp [go_sem]
        have y1 : W.cell? ⟨wr.heap.size, 1, none⟩ = some (.slice a1 xs.length q1) := by rw [hW]; simp [go_sem]
        clear hW
        refine (unhide HL W (hbel.trans (bW.mono (by omega)))).mono ?_
        rintro e w3 ⟨rfl, b3⟩
        have z3 := b3.size
        have b4 := bW.trans (b3.mono bW.size)
        have y0' := (b3.cell (p := ⟨wr.heap.size, 0, none⟩) (by show wr.heap.size < _; omega)).trans y0
        have y1' := (b3.cell (p := ⟨wr.heap.size, 1, none⟩) (by show wr.heap.size < _; omega)).trans y1
        have HP3 := hide (unhide HP2 w3 b4)
        clear HL HP2 y0 y1
        go_wp2_with fail
        refine (unhide HP3).mono ?_
        rintro e w4 ⟨rfl, ⟨n', hn', hB4⟩, t4⟩
        have t5 := (h2.trans (RSet.Two.of_below b4)).trans t4
        have HB4 := hide (show RSet.Built w.heap.size B mb n' w4 (outL (dropG ms f t) (zs.take (k + 1))) by rw [unhide HSn]; exact hB4)
        clear HP3 hB4 t4 y0' y1'
        go_wp2_with fail
        go_roundw
        case rel => exact ⟨k + 1, n', by omega, by go_num, by omega, HB4, t5⟩
        case measure => simp [intOf]; omega
      · have hgG : dropG ms f t (ls, xs) = Samp.sides xs f t := by unfold dropG; rw [hlet]; rfl
        rw [hgG] at hsn
        rw [hlet] at HL
        have HSn := hide hsn
        have HCut := hide (fun (F T : Int) W (hb : Below w.heap.size w W) => show Calls Tryz.prog 102 #[c1, .int .i64 F, .int .i64 T] W fun e w' => ∃ v, e = .returned v ∧ w'.ownsRow W.heap.size 106 2 v (Samp.cutL xs F T).length (Samp.flat (Samp.cutL xs F T)) ∧ Below W.heap.size W w' by
          have := Samp.impl_cut F T (smp_of_lies (hE2.below hb) hxne) (by omega)
          rwa [show Samp.cut xs F T = Samp.cutL xs F T by unfold Samp.cut; rw [hxok]; rfl] at this)
        obtain ⟨D1, hD1⟩ : ∃ D, D = Samp.cutL xs 0 f := ⟨_, rfl⟩
        obtain ⟨D2, hD2⟩ : ∃ D, D = Samp.cutL xs t 10000 := ⟨_, rfl⟩
        obtain ⟨J, hJ⟩ : ∃ J, J = Samp.sides xs f t := ⟨_, rfl⟩
        have HJ := hide (show SampMath.join D1 D2 = (J, true) by rw [hD1, hD2, hJ]; exact Samp.join_cuts hxok f t)
        have HDk := hide (show (SampMath.ok D1 = true ∧ D1.length ≤ 1000) ∧ (SampMath.ok D2 = true ∧ D2.length ≤ 1000) by rw [hD1, hD2]; exact ⟨⟨Samp.ok_filter hxok _, Nat.le_trans (List.length_filter_le _ _) hx1000⟩, ⟨Samp.ok_filter hxok _, Nat.le_trans (List.length_filter_le _ _) hx1000⟩⟩)
        have HC1 := hide (fun W hb => unhide HCut 0 f W hb)
        have HC2 := hide (fun W hb => unhide HCut t 10000 W hb)
        rw [← hD1] at HC1
        rw [← hD2] at HC2
        rw [← hJ] at HSn
        clear hlet hgk hst hsn hah hgG hE1 hE2 HCut HB hD1 hD2 hJ hxok hxne hol
        obtain ⟨m1, hm1⟩ : ∃ m, m = D1.length := ⟨_, rfl⟩
        rw [← hm1] at HC1
        have HM1 := hide hm1
        obtain ⟨m2, hm2⟩ : ∃ m, m = D2.length := ⟨_, rfl⟩
        rw [← hm2] at HC2
        have HM2 := hide hm2
        clear hm1 hm2
        subst e0 e1
        go_wp2_with fail
        obtain ⟨W, hW⟩ : ∃ W, W = wr.alloc (.cells #[.slice a0 ls.length q0, .slice a1 xs.length q1] 93) := ⟨_, rfl⟩
        rw [← hW]
        have bW : Below wr.heap.size wr W := by rw [hW]; exact hWf _
        have zW : W.heap.size = wr.heap.size + 1 := by rw [hW]; simp
        have y0 : W.cell? ⟨wr.heap.size, 0, none⟩ = some (.slice a0 ls.length q0) := by rw [hW]; simp [go_sem]
        have y1 : W.cell? ⟨wr.heap.size, 1, none⟩ = some (.slice a1 xs.length q1) := by rw [hW]; simp [go_sem]
        clear hW
        refine (unhide HL W (hbel.trans (bW.mono (by omega)))).mono ?_
        rintro e w3 ⟨rfl, b3⟩
        have z3 := b3.size
        have b4 := bW.trans (b3.mono bW.size)
        have b5 : Below wr.heap.size wr w3.drew := b4.drew
        have S6 : (fun W : World => W.cell? ⟨wr.heap.size, 0, none⟩ = some (.slice a0 ls.length q0) ∧ W.cell? ⟨wr.heap.size, 1, none⟩ = some (.slice a1 xs.length q1)) w3.drew := ⟨by simpa using (b3.cell (p := ⟨wr.heap.size, 0, none⟩) (by show wr.heap.size < _; omega)).trans y0, by simpa using (b3.cell (p := ⟨wr.heap.size, 1, none⟩) (by show wr.heap.size < _; omega)).trans y1⟩
        have HC6 := hide (unhide HC1 w3.drew (hbel.trans (b5.mono (by omega))))
        clear HL HC1 y0 y1 b3 bW
        go_wp2_with fail
        go_region_held3 (fun W => W.cell? ⟨wr.heap.size, 0, none⟩ = some (.slice a0 ls.length q0) ∧ W.cell? ⟨wr.heap.size, 1, none⟩ = some (.slice a1 xs.length q1)) (first | exact S6 | exact S7 | exact S8) ((first | (go_at_call 102; refine (unhide HC6).mono ?_; rintro e w7 ⟨cv, rfl, oc, b7⟩; obtain ⟨ca, cq, rfl⟩ : ∃ a q, cv = .slice a m1 q := (by obtain ⟨-, a, q, e, -⟩ := lies_of_own oc; exact ⟨a, q, e⟩); have z7 := b7.size; simp only [World.size_drew] at z7; have S7 : (fun W : World => W.cell? ⟨wr.heap.size, 0, none⟩ = some (.slice a0 ls.length q0) ∧ W.cell? ⟨wr.heap.size, 1, none⟩ = some (.slice a1 xs.length q1)) w7 := ⟨(b7.cell (p := ⟨_, _, none⟩) (by show wr.heap.size < _; simp; omega)).trans S6.1, (b7.cell (p := ⟨_, _, none⟩) (by show wr.heap.size < _; simp; omega)).trans S6.2⟩) | (go_at_call 101; refine (unhide HPut w7 n m1 cq ca [] D1 D1 (by omega) (hbel.trans ((b5.trans (b7.mono b5.size)).mono (by omega))) ((unhide HB0).below (b5.trans (b7.mono b5.size))) (Samp.smp_of_own (by rw [← unhide HM1]; exact oc)) (unhide HM1).symm rfl (unhide HDk).1.1 (RSet.join_first (unhide HDk).1.1) (by have := (unhide HDk).1.2; have := unhide HM1; omega) (by simp)).mono ?_; rintro e w8 ⟨rfl, ⟨n8, hn8, hB8⟩, t8⟩; have S8 : (fun W : World => W.cell? ⟨wr.heap.size, 0, none⟩ = some (.slice a0 ls.length q0) ∧ W.cell? ⟨wr.heap.size, 1, none⟩ = some (.slice a1 xs.length q1)) w8 := ⟨(t8.cell (by omega) hob.1 hob.2).trans S7.1, (t8.cell (by omega) hob.1 hob.2).trans S7.2⟩)))
        have b8 := b5.trans (b7.mono b5.size)
        have t9 : RSet.Two B mb wr w8 := (RSet.Two.of_below b8).trans t8
        have z8 := t9.size
        have hb8 : Below w.heap.size w w8 := hbel.trans (t9.below hlows hlowm (by omega))
        have HB8 := hide hB8
        have T8 : (fun W : World => W.cell? ⟨wr.heap.size, 0, none⟩ = some (.slice a0 ls.length q0) ∧ W.cell? ⟨wr.heap.size, 1, none⟩ = some (.slice a1 xs.length q1)) w8.drew := ⟨by simpa using S8.1, by simpa using S8.2⟩
        have hb9 := hb8.drew
        have HC7 := hide (unhide HC2 w8.drew hb9)
        have z88 : wr.heap.size < w8.heap.size := by have := t8.size; omega
        clear S6 S7 S8 HC6 oc b7 t8 hB8 HB0 HC2 b5 b4
        go_wp2_with fail
        go_region_held3 (fun W => W.cell? ⟨wr.heap.size, 0, none⟩ = some (.slice a0 ls.length q0) ∧ W.cell? ⟨wr.heap.size, 1, none⟩ = some (.slice a1 xs.length q1)) (first | exact T8 | exact T9 | exact T10) ((first | (go_at_call 102; refine (unhide HC7).mono ?_; rintro e w9 ⟨cv, rfl, oc, b9⟩; obtain ⟨ca, cq, rfl⟩ : ∃ a q, cv = .slice a m2 q := (by obtain ⟨-, a, q, e, -⟩ := lies_of_own oc; exact ⟨a, q, e⟩); have z9 := b9.size; simp only [World.size_drew] at z9; have T9 : (fun W : World => W.cell? ⟨wr.heap.size, 0, none⟩ = some (.slice a0 ls.length q0) ∧ W.cell? ⟨wr.heap.size, 1, none⟩ = some (.slice a1 xs.length q1)) w9 := ⟨(b9.cell (p := ⟨_, _, none⟩) (by show wr.heap.size < _; simp; omega)).trans T8.1, (b9.cell (p := ⟨_, _, none⟩) (by show wr.heap.size < _; simp; omega)).trans T8.2⟩) | (go_at_call 101; refine (unhide HPut w9 n8 m2 cq ca D1 D2 J (by omega) (hb9.trans (b9.mono (by simp; omega))) (((unhide HB8).below (Below.refl _ _).drew).below b9) (Samp.smp_of_own (by rw [← unhide HM2]; exact oc)) (unhide HM2).symm (unhide HDk).1.1 (unhide HDk).2.1 (unhide HJ) (by have := (unhide HDk).2.2; have := unhide HM2; omega) (by have := (unhide HDk).1.2; omega)).mono ?_; rintro e w10 ⟨rfl, ⟨n10, hn10', hB10⟩, t10⟩; have T10 : (fun W : World => W.cell? ⟨wr.heap.size, 0, none⟩ = some (.slice a0 ls.length q0) ∧ W.cell? ⟨wr.heap.size, 1, none⟩ = some (.slice a1 xs.length q1)) w10 := ⟨(t10.cell (by omega) hob.1 hob.2).trans T9.1, (t10.cell (by omega) hob.1 hob.2).trans T9.2⟩)))
        have t11 := (((h2.trans t9).trans (RSet.Two.of_below (Below.refl _ _).drew)).trans (RSet.Two.of_below b9)).trans t10
        have HB10 := hide (show RSet.Built w.heap.size B mb n10 w10 (outL (dropG ms f t) (zs.take (k + 1))) by rw [unhide HSn]; exact hB10)
        clear T8 T9 T10 HC7 oc b9 t10 hB10 HB8 HPut HDk HJ t9
        go_wp2_with fail
        go_roundw
        case rel => exact ⟨k + 1, n10, by omega, by go_num, by omega, HB10, t11⟩
        case measure => simp [intOf]; omega
    · obtain rfl : k = l := by omega
      have hkz : k = zs.length := unhide HN
      have HRw := hide (RSet.built_rows (unhide HB) (outL_sorted (unhide HOK) k (by omega)) (by have := outL_len (dropG ms f t) (zs.take k); rw [List.length_take] at this; omega) (outL_ok (unhide HOK) (by omega)) (by omega))
      have HT := hide (show outL (dropG ms f t) (zs.take k) = drop ms f t zs by rw [unhide HR, List.take_of_length_le (by omega)])
      rw [unhide HT] at HRw
      clear hkz HB
      go_wp2_with fail
      refine (unhide HRw).mono ?_
      rintro e w9 ⟨r, rfl, ho, b9⟩
      have hb9 := hbel.trans (b9.mono (by omega))
      have HO9 := hide ho
      clear ho b9 HRw
      go_wp2_with fail
      go_ret
      exact ⟨r, rfl, unhide HO9, hb9⟩
end Go.Proofs.YtlboekimnhgfdaaGreat.Row

/- RowsDrop of the model. -/
namespace Go.Proofs.YtlboekimnhgfdaaGreat.Row
open Go.RowKit Rw
set_option linter.unusedVariables false
attribute [local go_sem ↓] Go.wp_at_zero Go.wp_at_succ
theorem drop_lets {ms : List Mat.E} {f t : Int} {ls : List Lab.E} {xs : List Sam.E} (hl : Mat.mlet ms ls = true) (hft : f < t) (h : SampMath.ok xs = true) : dropG ms f t (ls, xs) = Samp.cutL xs 0 f ++ Samp.cutL xs t 10000 := by
  unfold dropG
  rw [if_pos hl]
  exact Samp.sides_apart h hft
theorem drop_stays {ms : List Mat.E} {f t : Int} {ls : List Lab.E} {xs : List Sam.E} (hl : Mat.mlet ms ls = false ∨ t ≤ f) (h : SampMath.ok xs = true) : dropG ms f t (ls, xs) = xs := by
  unfold dropG
  rcases hl with hl | hl
  · rw [hl]; rfl
  · split
    · exact Samp.sides_all h hl
    · rfl
set_option maxRecDepth 100000 in
set_option maxHeartbeats 8000000 in
theorem l5drop {w : World} {v u : Value} {zs : List E} {ms : List Mat.E} (f t : Int) (h : Is w v zs) (hm : Mat.Is w u ms) (hg : ∀ x ∈ zs, good x) (hmg : ∀ x ∈ ms, Mat.good x) (hok : ok zs = true) (hmok : Mat.ok ms = true) :
    Calls Tryz.prog 58 #[v, u, .int .i64 f, .int .i64 t] w fun e w' => ∃ r, e = .returned r ∧ Own w.heap.size w'.heap.size w' r (outL (dropG ms f t) zs) ∧ Below w.heap.size w w' := by
  obtain ⟨i0, hi, hz0, hz1, hz2⟩ := info_parts Row.info_e
  obtain ⟨i1, hi1, hy0, hy1, hy2⟩ := info_parts Lab.info_e
  obtain ⟨i2, hi2, hx0, hx1, hx2⟩ := info_parts Sam.info_e
  obtain ⟨au, nu, cu, eu⟩ : ∃ a n c, u = .slice a n c := by obtain ⟨-, a, c, e, -⟩ := hm; exact ⟨a, _, c, e⟩
  subst eu
  have HOK := hide hok
  have hn10 := ok_len hok
  have HLet := hide (fun W (hb : Below w.heap.size w W) (lv : Value) (ls : List Lab.E) (hl : Lab.Is W lv ls) (hlg : ∀ x ∈ ls, Lab.good x) => Mat.l3Lets_any (hm.below hb) hl hmg hlg)
  obtain ⟨cs, hcs, hL, hE⟩ := h
  have HE := hide hE
  have HG := hide hg
  have HMO := hide hmok
  obtain ⟨-, a, cap, rfl, hc, hmx, -, hr⟩ := hL
  unfold maxLen at hmx
  obtain ⟨l, hl⟩ : ∃ l, l = zs.length := ⟨_, rfl⟩
  rw [← hl] at hc hr hcs hn10 ⊢
  have HN := hide hl
  have HC := hide hcs
  clear hl hE hcs hg hm hmg hok hmok
  have HI0 := hide (show Own w.heap.size (w.alloc (.cells #[] 93)).heap.size (w.alloc (.cells #[] 93)) (.slice (some ⟨w.heap.size, 0, none⟩) 0 0) (outL (dropG ms f t) (zs.take 0)) from ⟨[], rfl, Str.own_empty' (Nat.le_refl _) rfl, own_block_lt (Str.own_empty' (base := w.heap.size) (e := 93) (size := 2) (Nat.le_refl _) rfl), Nat.le_refl _, fun i j _ h => absurd h (Nat.not_lt_zero _), fun i j _ h => absurd h (Nat.not_lt_zero _), fun i h => absurd h (Nat.not_lt_zero _)⟩)
  have B0 : Below w.heap.size w (w.alloc (.cells #[] 93)) := (Below.refl _ _).alloc (Nat.le_refl _) _
  go_enter Tryz.func58, Tryz.ntmps58
  go_wp2_with fail
  go_loopw [9, 10] (fun pv i wr => ∃ (k n : Nat) (pa : Option Addr) (pc : Nat), k ≤ l ∧ i = .int .i64 k ∧ pv = .slice pa n pc ∧ Hid (Own w.heap.size wr.heap.size wr pv (outL (dropG ms f t) (zs.take k)) ∧ n = (outL (dropG ms f t) (zs.take k)).length ∧ n ≤ k) ∧ Below w.heap.size w wr) (fun _ i _ => l - (intOf i).toNat)
  case atStart => exact ⟨0, 0, _, 0, Nat.zero_le _, rfl, rfl, hide ⟨unhide HI0, rfl, Nat.le_refl _⟩, B0⟩
  case round =>
    clear HI0 B0
    obtain ⟨k, n, pa, pc, hk, rfl, rfl, HO, hbel⟩ := hrel
    have hsz := hbel.size
    by_cases hlt : k < l
    · obtain ⟨b, off, rfl, hbl, hcells⟩ := hr (by omega)
      have fa := flat_at cs k (by have := unhide HC; omega)
      have hc0 : wr.cell? ⟨b, off + k * 2, none⟩ = some (cat cs k).1 := (hbel.cell (p := ⟨b, _, none⟩) hbl).trans (hcells (k * 2) _ fa.1)
      have hc1 : wr.cell? ⟨b, off + k * 2 + 1, none⟩ = some (cat cs k).2 := (hbel.cell (p := ⟨b, _, none⟩) hbl).trans (hcells (k * 2 + 1) _ fa.2)
      have hkz : k < zs.length := by have := unhide HN; omega
      have hEk := unhide HE k hkz
      have hgk := unhide HG (at' zs k) (at_mem zs k hkz)
      have hst := step_is (ok_at (unhide HOK) hkz)
      have hsn := drop_snoc ms f t zs k hkz
      obtain ⟨⟨ls, xs⟩, hX⟩ : ∃ x, x = at' zs k := ⟨_, rfl⟩
      rw [← hX] at hEk hgk hst hsn
      simp only at hst hsn
      obtain ⟨c0, c1, hY⟩ : ∃ c0 c1, (c0, c1) = cat cs k := ⟨_, _, rfl⟩
      rw [← hY] at hc0 hc1 hEk
      have hE1 : Lab.Is w c0 ls := hEk.1
      have hE2 : Sam.Is w c1 xs := hEk.2
      obtain ⟨-, a0, q0, e0, -⟩ := hE1
      obtain ⟨-, a1, q1, e1, -⟩ := hE2
      have hE1 : Lab.Is w c0 ls := hEk.1
      have hE2 : Sam.Is w c1 xs := hEk.2
      clear fa hEk hX hY
      have hxne : xs ≠ [] := fun e => by rw [e] at hst; simp at hst
      have hk0 : (0 : Int) ≤ (k : Int) := Int.natCast_nonneg _
      have hk1 : (k : Int) < (l : Int) := by omega
      have HL := hide (fun W (hb : Below w.heap.size w W) => unhide HLet W hb c0 ls (hE1.below hb) hgk.1.2)
      rw [← mlet_is (unhide HMO) hst.1] at HL
      have hxok := hst.2.2.2
      have hx1000 := hst.2.2.1
      have hsmall := (Lab.ok_small hst.1).1
      have HE1 := hide (fun W (hb : Below w.heap.size w W) => hE1.below hb)
      have HE2 := hide (fun W (hb : Below w.heap.size w W) => hE2.below hb)
      have HCut := hide (fun (F T : Int) W (hb : Below w.heap.size w W) => Samp.l2cut F T (smp_of_lies (hE2.below hb) hxne) (by omega))
      obtain ⟨ll, hll⟩ : ∃ ll, ll = ls.length := ⟨_, rfl⟩
      rw [← hll] at e0 hsmall
      have HLL := hide hll
      have HXok := hide hxok
      clear hE1 hE2 hgk hst hxne hll hxok
      have hst2 : (∃ p : Bool, Mat.mlet ms ls = p) := ⟨_, rfl⟩
      obtain ⟨p, hp⟩ := hst2
      rw [hp] at HL
      subst e0 e1
      go_wp2_with fail
      refine (unhide HL wr hbel).mono ?_
      rintro e w3 ⟨rfl, b0⟩
      have hbl := hbel.trans (b0.mono hsz)
      have z0' := b0.size
      clear HL
      by_cases hcase : p = true ∧ f < t
      · obtain ⟨hpt, hft⟩ := hcase
        subst hpt
        rw [drop_lets hp hft (unhide HXok)] at hsn
        have HC1 := hide (unhide HCut 0 f w3 hbl)
        obtain ⟨D1, hD1⟩ : ∃ D, D = Samp.cutL xs 0 f := ⟨_, rfl⟩
        obtain ⟨D2, hD2⟩ : ∃ D, D = Samp.cutL xs t 10000 := ⟨_, rfl⟩
        have HC2 := hide (fun W hb => unhide HCut t 10000 W hb)
        rw [← hD1] at HC1 hsn
        rw [← hD2] at HC2 hsn
        have hd1 : D1.length ≤ 1000 := by rw [hD1]; exact Nat.le_trans (List.length_filter_le _ _) hx1000
        have hd2 : D2.length ≤ 1000 := by rw [hD2]; exact Nat.le_trans (List.length_filter_le _ _) hx1000
        simp only [RSet.flat_eq] at HC1 HC2
        clear hD1 hD2 HCut hp
        have HSn0 := hide hsn
        clear hsn
        obtain ⟨m1, hm1⟩ : ∃ m, m = D1.length := ⟨_, rfl⟩
        obtain ⟨m2, hm2⟩ : ∃ m, m = D2.length := ⟨_, rfl⟩
        rw [← hm1] at HC1 hd1
        rw [← hm2] at HC2 hd2
        have HM1 := hide hm1
        have HM2 := hide hm2
        clear hm1 hm2
        go_wp2_with fail
        refine (unhide HC1).mono ?_
        rintro e w4 ⟨x1, rfl, o1, b4⟩
        obtain ⟨xa1, xq1, rfl⟩ : ∃ a q, x1 = .slice a m1 q := by obtain ⟨-, a, q, e, -⟩ := lies_of_own o1; exact ⟨a, q, e⟩
        have hb4 := hbl.trans (b4.mono (by omega))
        have HC2' := hide (unhide HC2 w4 hb4)
        have z4 := b4.size
        clear HC1 HC2
        go_wp2_with fail
        refine (unhide HC2').mono ?_
        rintro e w5 ⟨x2, rfl, o2, b5⟩
        obtain ⟨xa2, xq2, rfl⟩ : ∃ a q, x2 = .slice a m2 q := by obtain ⟨-, a, q, e, -⟩ := lies_of_own o2; exact ⟨a, q, e⟩
        have z5 := b5.size
        have o1' := own_below o1 b5
        have l2 : Lies w5 (.slice xa2 m2 xq2) m2 2 (Sam.flat D2) := lies_of_own o2
        clear HC2'
        obtain ⟨D, hD⟩ : ∃ D, D = D1 ++ D2 := ⟨_, rfl⟩
        obtain ⟨m, hm⟩ : ∃ m, m = m1 + m2 := ⟨_, rfl⟩
        have hm2000 : m ≤ 2000 := by omega
        have HMM := hide hm
        have HM := hide (show m = D.length by rw [hm, hD, List.length_append, unhide HM1, unhide HM2])
        have HSn := hide (show outL (dropG ms f t) (zs.take (k + 1)) = st (outL (dropG ms f t) (zs.take k)) ls D by rw [hD]; exact unhide HSn0)
        have HXW := hide (fun (w6 : World) (xa : Option Addr) (xq : Nat) (ox : w6.ownsRow w3.heap.size 106 2 (.slice xa m xq) (m1 + m2) (Sam.flat D1 ++ Sam.flat D2)) => show Sam.Is w6 (.slice xa m xq) D by
          have := lies_of_own ox
          show Lies w6 _ D.length 2 (Sam.flat D)
          rw [← unhide HM, hD]
          unfold Sam.flat at this ⊢
          rw [flatOf_append, unhide HMM]
          rw [unhide HMM] at this
          exact this)
        clear HSn0 hD hm HM1 HM2
        by_cases h0 : m = 0
        · have hDn : D = [] := List.eq_nil_of_length_eq_zero ((unhide HM).symm.trans h0)
          have hz1 : decide (0 < m) = false := by simp; omega
          have hz2 : decide ((0 : Int) < (m : Int)) = false := by simp; omega
          have H0 := hide h0
          clear h0
          go_wp2_with (at_builtin; refine app_wp _ rfl (.tmp 38) (.tmp 41) _ rfl w3.heap.size 106 i2 _ 2 16 Tryz.underlying91 hi2 hx0 hx1 hx2 rfl (by omega) _ m1 _ rfl o1' _ m2 (Sam.flat D2) rfl l2 (Sam.flat_oneCell _) (by unfold maxLen; omega) (by omega) (by omega) ?_; intro vx w6 ox gx ax; have b6 : Below w3.heap.size w3 w6 := below_grown (b4.trans (b5.mono (by omega))) (by omega) gx (own_ge o1); obtain ⟨xa, xq, rfl⟩ : ∃ a q, vx = .slice a m q := (by obtain ⟨-, a, q, e, -⟩ := lies_of_own ox; exact ⟨a, q, (by rw [unhide HMM]; exact e)⟩); have hxi := unhide HXW w6 xa xq ox; have hbl := hbl.trans (b6.mono (by omega)); have b0 := b0.trans (b6.mono (by omega)); clear ox gx ax)
          have HO' := hide (show Own w.heap.size w6.heap.size w6 (.slice pa n pc) (outL (dropG ms f t) (zs.take (k + 1))) ∧ n = (outL (dropG ms f t) (zs.take (k + 1))).length ∧ n ≤ k + 1 by
            rw [unhide HSn, show st (outL (dropG ms f t) (zs.take k)) ls D = outL (dropG ms f t) (zs.take k) from if_pos hDn]
            have h1 := unhide HO
            have h2 := h1.1.below b0
            have z0 := b0.size
            obtain ⟨cs', g1, g2, g3, g4, g5⟩ := h2
            exact ⟨⟨cs', g1, g2, fun k hk => by have := g3 k hk; omega, Nat.le_refl _, g5.1, g5.2.1, fun i hi => ⟨(g5.2.2 i hi).1, fun k hk => by have := (g5.2.2 i hi).2.1 k hk; omega, fun k hk => by have := (g5.2.2 i hi).2.2 k hk; omega⟩⟩, h1.2.1, by omega⟩)
          clear HO hDn
          go_roundw
          case rel => exact ⟨k + 1, n, pa, pc, by omega, by go_num, rfl, HO', hbl⟩
          case measure => simp [intOf]; omega
        · have hgt : 0 < m := by omega
          have hgI : (0 : Int) < (m : Int) := by omega
          have hDne : D ≠ [] := fun e => h0 (by rw [unhide HM, e]; rfl)
          have HSn2 := hide (show outL (dropG ms f t) (zs.take (k + 1)) = outL (dropG ms f t) (zs.take k) ++ [(ls, D)] by rw [unhide HSn]; exact if_neg hDne)
          obtain ⟨hO1, hO2, hO3⟩ := unhide HO
          obtain ⟨ds, g1, g2, g3, g4, g5, g6, g7⟩ := hO1
          rw [← hO2] at g2
          have hmx1 : 1 ≤ maxLen := by unfold maxLen; omega
          have HO1 := hide (And.intro g1 (And.intro g5 (And.intro g6 g7)))
          have HO2 := hide hO2
          have hn10' : n ≤ 10 := by omega
          clear HO g1 g3 g4 g5 g6 g7 hO2 HSn hDne
          go_wp2_with (first | (at_builtin; refine app_wp _ rfl (.tmp 38) (.tmp 41) _ rfl w3.heap.size 106 i2 _ 2 16 Tryz.underlying91 hi2 hx0 hx1 hx2 rfl (by omega) _ m1 _ rfl o1' _ m2 (Sam.flat D2) rfl l2 (Sam.flat_oneCell _) (by unfold maxLen; omega) (by omega) (by omega) ?_; intro vx w6 ox gx ax; have b6 : Below w3.heap.size w3 w6 := below_grown (b4.trans (b5.mono (by omega))) (by omega) gx (own_ge o1); obtain ⟨xa, xq, rfl⟩ : ∃ a q, vx = .slice a m q := (by obtain ⟨-, a, q, e, -⟩ := lies_of_own ox; exact ⟨a, q, (by rw [unhide HMM]; exact e)⟩); have hxi := unhide HXW w6 xa xq ox; have hbl := hbl.trans (b6.mono (by omega)); have b0 := b0.trans (b6.mono (by omega)); clear ox gx ax; have hc0w : w6.cell? ⟨b, off + k * 2, none⟩ = some (.slice a0 ll q0) := (b0.cell (p := ⟨b, off + k * 2, none⟩) (by show b < _; omega)).trans hc0; have G2 := own_below g2 b0; have z0 := b0.size; have HLd := hide (unhide HE1 w6 hbl); have oe : (w6.alloc (.cells #[] 64)).ownsRow w6.heap.size 64 2 (.slice (some ⟨w6.heap.size, 0, none⟩) 0 0) 0 [] := own_empty (Nat.le_refl _); have be : Below w6.heap.size w6 (w6.alloc (.cells #[] 64)) := (Below.refl _ _).alloc (Nat.le_refl _) _; have le : Lies (w6.alloc (.cells #[] 64)) (.slice a0 ll q0) ll 2 (Lab.flat ls) := (by have := (unhide HLd).below be; rw [unhide HLL]; rw [unhide HLL] at this; exact this); have hb3 : b < w6.heap.size := (by omega); have hb3n : ¬ b = w6.heap.size := (by omega); have hc0e : (w6.alloc (.cells #[] 64)).cell? ⟨b, off + k * 2, none⟩ = some (.slice a0 ll q0) := (be.cell (p := ⟨b, _, none⟩) hb3).trans hc0w; have HXI := hide hxi; clear hxi) | (at_builtin; refine app_wp _ rfl (.tmp 47) (.tmp 52) _ rfl w6.heap.size 64 i1 _ 2 32 Tryz.underlying60 hi1 hy0 hy1 hy2 rfl (by omega) _ 0 [] rfl oe _ ll (Lab.flat ls) rfl le (Lab.flat_oneCell _) (by unfold maxLen; omega) (by omega) (by simp) ?_; intro vl wl ol gl al; rw [Nat.zero_add, List.nil_append] at ol; have bl : Below w6.heap.size w6 wl := below_grown be (by simp) gl (fun k hk => by cases hk; exact Nat.le_refl _); obtain ⟨la, lq, rfl⟩ : ∃ a q, vl = .slice a ll q := (by obtain ⟨-, a, q, e, -⟩ := lies_of_own ol; exact ⟨a, q, e⟩); have zl := bl.size; have G2l := own_below G2 bl; have os : (wl.alloc (.cells #[] 106)).ownsRow wl.heap.size 106 2 (.slice (some ⟨wl.heap.size, 0, none⟩) 0 0) 0 [] := own_empty (Nat.le_refl _); have bs : Below wl.heap.size wl (wl.alloc (.cells #[] 106)) := (Below.refl _ _).alloc (Nat.le_refl _) _; have lx : Lies (wl.alloc (.cells #[] 106)) (.slice xa m xq) m 2 (Sam.flat D) := (by have := ((unhide HXI).below bl).below bs; rw [unhide HM]; rw [unhide HM] at this; exact this); clear gl al le be oe) | (at_builtin; refine app_wp _ rfl (.tmp 54) (.tmp 55) _ rfl wl.heap.size 106 i2 _ 2 16 Tryz.underlying91 hi2 hx0 hx1 hx2 rfl (by omega) _ 0 [] rfl os _ m (Sam.flat D) rfl lx (Sam.flat_oneCell _) (by unfold maxLen; omega) (by omega) (by simp) ?_; intro vs ws oS gS aS; rw [Nat.zero_add, List.nil_append] at oS; have bS : Below wl.heap.size wl ws := below_grown bs (by simp) gS (fun k hk => by cases hk; exact Nat.le_refl _); obtain ⟨sa, sq, rfl⟩ : ∃ a q, vs = .slice a m q := (by obtain ⟨-, a, q, e, -⟩ := lies_of_own oS; exact ⟨a, q, e⟩); have zS := bS.size; have G2s := own_below G2l bS; clear gS aS lx bs os) | (at_builtin; refine app_wp _ rfl (.tmp 46) (.tmp 58) _ rfl w.heap.size 93 i0 _ 2 48 Tryz.underlying28 hi hz0 hz1 hz2 rfl (by omega) _ n _ rfl (World.ownsRow.alloc G2s _) _ 1 [.slice la ll lq, .slice sa m sq] rfl (lies_new (w := ws) (by simp) rfl hmx1) (by simp [Value.oneCell']) (by unfold maxLen; omega) (by omega) (by simp; omega) ?_; intro vn wn on gn an))
          have hbs := (hbl.trans (bl.mono (by omega))).trans (bS.mono (by omega))
          have R9 : Below w.heap.size w wn := below_grown (hbs.alloc (by omega) _) (by simp; omega) gn (own_ge G2)
          have HO' := hide (show Own w.heap.size wn.heap.size wn vn (outL (dropG ms f t) (zs.take (k + 1))) ∧ n + 1 = (outL (dropG ms f t) (zs.take (k + 1))).length ∧ n + 1 ≤ k + 1 by
            obtain ⟨g1, g5, g6, g7⟩ := unhide HO1
            rw [unhide HSn2]
            refine ⟨own_snoc (w := ws.alloc (.cells #[.slice la ll lq, .slice sa m sq] 93)) (pv := .slice pa n pc) (vl := .slice la ll lq) (xv := .slice sa m sq) g1 (by rw [← unhide HO2]; exact World.ownsRow.alloc G2s _) g5 g6 (fun i hi => ⟨World.ownsRow.alloc (own_below (own_below (own_below (g7 i hi).1.1 b0) bl) bS) _, World.ownsRow.alloc (own_below (own_below (own_below (g7 i hi).1.2 b0) bl) bS) _⟩) gn (by rw [← unhide HO2]; exact on) (by simp only; rw [← unhide HLL]; exact World.ownsRow.alloc (own_below (own_mono ol (by omega)) bS) _) (by simp only; rw [← unhide HM]; exact World.ownsRow.alloc (own_mono oS (by omega)) _) (fun i hi k hk hk' => by have h1 := own_block_lt (g7 i hi).1.1 k hk; have h2 := own_ge ol k hk'; omega) (fun i hi k hk hk' => by have h1 := own_block_lt (g7 i hi).1.2 k hk; have h2 := own_ge oS k hk'; omega), by rw [List.length_append, ← unhide HO2]; rfl, by omega⟩)
          obtain ⟨an', cn, hvn⟩ : ∃ a c, vn = .slice a (n + 1) c := by obtain ⟨-, a, c, e, -⟩ := lies_of_own on; exact ⟨a, c, e⟩
          have HV := hide hvn
          clear on gn an hvn ol oS G2 G2l G2s HO1 HO2 HSn2 bl hbs bS HXI
          go_wp2_with fail
          go_roundw
          case rel => exact ⟨k + 1, n + 1, an', cn, by omega, by go_num, unhide HV, HO', R9⟩
          case measure => simp [intOf]; omega
      · have hstay : Mat.mlet ms ls = false ∨ t ≤ f := by
          cases p
          · exact .inl hp
          · exact .inr (by have : ¬ f < t := fun h => hcase ⟨rfl, h⟩; omega)
        rw [drop_stays hstay (unhide HXok)] at hsn
        have HSn0 := hide hsn
        have hxi0 := unhide HE2 w3 hbl
        obtain ⟨D, hD⟩ : ∃ D, D = xs := ⟨_, rfl⟩
        rw [← hD] at hxi0 HSn0 hx1000 ⊢
        obtain ⟨m, hm⟩ : ∃ m, m = D.length := ⟨_, rfl⟩
        have HM := hide hm
        rw [← hm] at hxi0 hx1000 ⊢
        have hm2000 : m ≤ 2000 := by omega
        obtain ⟨xa, hxa⟩ : ∃ xa, xa = a1 := ⟨_, rfl⟩
        obtain ⟨xq, hxq⟩ : ∃ xq, xq = q1 := ⟨_, rfl⟩
        subst hxa hxq
        have hxi : Sam.Is w3 (.slice xa m xq) D := by show Lies w3 (.slice xa m xq) D.length 2 (Sam.flat D); rw [← unhide HM]; exact hxi0
        have HSn := HSn0
        clear HSn0 hxi0 hsn hstay HCut hm
        rcases (show p = false ∨ (p = true ∧ t ≤ f) by cases p; exact .inl rfl; exact .inr ⟨rfl, by have : ¬ f < t := fun h => hcase ⟨rfl, h⟩; omega⟩) with hpf | ⟨hpf, htf⟩
        · subst hpf
          clear hcase hp hD
          by_cases h0 : m = 0
          · have hDn : D = [] := List.eq_nil_of_length_eq_zero ((unhide HM).symm.trans h0)
            have hz1 : decide (0 < m) = false := by simp; omega
            have hz2 : decide ((0 : Int) < (m : Int)) = false := by simp; omega
            have H0 := hide h0
            clear h0
            go_wp2_with fail
            have HO' := hide (show Own w.heap.size w3.heap.size w3 (.slice pa n pc) (outL (dropG ms f t) (zs.take (k + 1))) ∧ n = (outL (dropG ms f t) (zs.take (k + 1))).length ∧ n ≤ k + 1 by
              rw [unhide HSn, show st (outL (dropG ms f t) (zs.take k)) ls D = outL (dropG ms f t) (zs.take k) from if_pos hDn]
              have h1 := unhide HO
              have h2 := h1.1.below b0
              have z0 := b0.size
              obtain ⟨cs', g1, g2, g3, g4, g5⟩ := h2
              exact ⟨⟨cs', g1, g2, fun k hk => by have := g3 k hk; omega, Nat.le_refl _, g5.1, g5.2.1, fun i hi => ⟨(g5.2.2 i hi).1, fun k hk => by have := (g5.2.2 i hi).2.1 k hk; omega, fun k hk => by have := (g5.2.2 i hi).2.2 k hk; omega⟩⟩, h1.2.1, by omega⟩)
            clear HO hDn
            go_roundw
            case rel => exact ⟨k + 1, n, pa, pc, by omega, by go_num, rfl, HO', hbl⟩
            case measure => simp [intOf]; omega
          · have hgt : 0 < m := by omega
            have hgI : (0 : Int) < (m : Int) := by omega
            have hDne : D ≠ [] := fun e => h0 (by rw [unhide HM, e]; rfl)
            have HSn2 := hide (show outL (dropG ms f t) (zs.take (k + 1)) = outL (dropG ms f t) (zs.take k) ++ [(ls, D)] by rw [unhide HSn]; exact if_neg hDne)
            obtain ⟨hO1, hO2, hO3⟩ := unhide HO
            obtain ⟨ds, g1, g2, g3, g4, g5, g6, g7⟩ := hO1
            rw [← hO2] at g2
            have hmx1 : 1 ≤ maxLen := by unfold maxLen; omega
            have HO1 := hide (And.intro g1 (And.intro g5 (And.intro g6 g7)))
            have HO2 := hide hO2
            have hn10' : n ≤ 10 := by omega
            clear HO g1 g3 g4 g5 g6 g7 hO2 HSn hDne
            have hc0w : w3.cell? ⟨b, off + k * 2, none⟩ = some (.slice a0 ll q0) := (b0.cell (p := ⟨b, off + k * 2, none⟩) (by show b < _; omega)).trans hc0
            have G2 := own_below g2 b0
            have z0 := b0.size
            have HLd := hide (unhide HE1 w3 hbl)
            have oe : (w3.alloc (.cells #[] 64)).ownsRow w3.heap.size 64 2 (.slice (some ⟨w3.heap.size, 0, none⟩) 0 0) 0 [] := own_empty (Nat.le_refl _)
            have be : Below w3.heap.size w3 (w3.alloc (.cells #[] 64)) := (Below.refl _ _).alloc (Nat.le_refl _) _
            have le : Lies (w3.alloc (.cells #[] 64)) (.slice a0 ll q0) ll 2 (Lab.flat ls) := (by have := (unhide HLd).below be; rw [unhide HLL]; rw [unhide HLL] at this; exact this)
            have hb3 : b < w3.heap.size := (by omega)
            have hb3n : ¬ b = w3.heap.size := (by omega)
            have hc0e : (w3.alloc (.cells #[] 64)).cell? ⟨b, off + k * 2, none⟩ = some (.slice a0 ll q0) := (be.cell (p := ⟨b, _, none⟩) hb3).trans hc0w
            have HXI := hide hxi
            clear hxi
            go_wp2_with (first | (at_builtin; refine app_wp _ rfl (.tmp 47) (.tmp 52) _ rfl w3.heap.size 64 i1 _ 2 32 Tryz.underlying60 hi1 hy0 hy1 hy2 rfl (by omega) _ 0 [] rfl oe _ ll (Lab.flat ls) rfl le (Lab.flat_oneCell _) (by unfold maxLen; omega) (by omega) (by simp) ?_; intro vl wl ol gl al; rw [Nat.zero_add, List.nil_append] at ol; have bl : Below w3.heap.size w3 wl := below_grown be (by simp) gl (fun k hk => by cases hk; exact Nat.le_refl _); obtain ⟨la, lq, rfl⟩ : ∃ a q, vl = .slice a ll q := (by obtain ⟨-, a, q, e, -⟩ := lies_of_own ol; exact ⟨a, q, e⟩); have zl := bl.size; have G2l := own_below G2 bl; have os : (wl.alloc (.cells #[] 106)).ownsRow wl.heap.size 106 2 (.slice (some ⟨wl.heap.size, 0, none⟩) 0 0) 0 [] := own_empty (Nat.le_refl _); have bs : Below wl.heap.size wl (wl.alloc (.cells #[] 106)) := (Below.refl _ _).alloc (Nat.le_refl _) _; have lx : Lies (wl.alloc (.cells #[] 106)) (.slice xa m xq) m 2 (Sam.flat D) := (by have := ((unhide HXI).below bl).below bs; rw [unhide HM]; rw [unhide HM] at this; exact this); clear gl al le be oe) | (at_builtin; refine app_wp _ rfl (.tmp 54) (.tmp 55) _ rfl wl.heap.size 106 i2 _ 2 16 Tryz.underlying91 hi2 hx0 hx1 hx2 rfl (by omega) _ 0 [] rfl os _ m (Sam.flat D) rfl lx (Sam.flat_oneCell _) (by unfold maxLen; omega) (by omega) (by simp) ?_; intro vs ws oS gS aS; rw [Nat.zero_add, List.nil_append] at oS; have bS : Below wl.heap.size wl ws := below_grown bs (by simp) gS (fun k hk => by cases hk; exact Nat.le_refl _); obtain ⟨sa, sq, rfl⟩ : ∃ a q, vs = .slice a m q := (by obtain ⟨-, a, q, e, -⟩ := lies_of_own oS; exact ⟨a, q, e⟩); have zS := bS.size; have G2s := own_below G2l bS; clear gS aS lx bs os) | (at_builtin; refine app_wp _ rfl (.tmp 46) (.tmp 58) _ rfl w.heap.size 93 i0 _ 2 48 Tryz.underlying28 hi hz0 hz1 hz2 rfl (by omega) _ n _ rfl (World.ownsRow.alloc G2s _) _ 1 [.slice la ll lq, .slice sa m sq] rfl (lies_new (w := ws) (by simp) rfl hmx1) (by simp [Value.oneCell']) (by unfold maxLen; omega) (by omega) (by simp; omega) ?_; intro vn wn on gn an))
            have hbs := (hbl.trans (bl.mono (by omega))).trans (bS.mono (by omega))
            have R9 : Below w.heap.size w wn := below_grown (hbs.alloc (by omega) _) (by simp; omega) gn (own_ge G2)
            have HO' := hide (show Own w.heap.size wn.heap.size wn vn (outL (dropG ms f t) (zs.take (k + 1))) ∧ n + 1 = (outL (dropG ms f t) (zs.take (k + 1))).length ∧ n + 1 ≤ k + 1 by
              obtain ⟨g1, g5, g6, g7⟩ := unhide HO1
              rw [unhide HSn2]
              refine ⟨own_snoc (w := ws.alloc (.cells #[.slice la ll lq, .slice sa m sq] 93)) (pv := .slice pa n pc) (vl := .slice la ll lq) (xv := .slice sa m sq) g1 (by rw [← unhide HO2]; exact World.ownsRow.alloc G2s _) g5 g6 (fun i hi => ⟨World.ownsRow.alloc (own_below (own_below (own_below (g7 i hi).1.1 b0) bl) bS) _, World.ownsRow.alloc (own_below (own_below (own_below (g7 i hi).1.2 b0) bl) bS) _⟩) gn (by rw [← unhide HO2]; exact on) (by simp only; rw [← unhide HLL]; exact World.ownsRow.alloc (own_below (own_mono ol (by omega)) bS) _) (by simp only; rw [← unhide HM]; exact World.ownsRow.alloc (own_mono oS (by omega)) _) (fun i hi k hk hk' => by have h1 := own_block_lt (g7 i hi).1.1 k hk; have h2 := own_ge ol k hk'; omega) (fun i hi k hk hk' => by have h1 := own_block_lt (g7 i hi).1.2 k hk; have h2 := own_ge oS k hk'; omega), by rw [List.length_append, ← unhide HO2]; rfl, by omega⟩)
            obtain ⟨an', cn, hvn⟩ : ∃ a c, vn = .slice a (n + 1) c := by obtain ⟨-, a, c, e, -⟩ := lies_of_own on; exact ⟨a, c, e⟩
            have HV := hide hvn
            clear on gn an hvn ol oS G2 G2l G2s HO1 HO2 HSn2 bl hbs bS HXI
            go_wp2_with fail
            go_roundw
            case rel => exact ⟨k + 1, n + 1, an', cn, by omega, by go_num, unhide HV, HO', R9⟩
            case measure => simp [intOf]; omega
        · subst hpf
          have hft : decide (f < t) = false := by simp; omega
          clear hcase hp hD
          by_cases h0 : m = 0
          · have hDn : D = [] := List.eq_nil_of_length_eq_zero ((unhide HM).symm.trans h0)
            have hz1 : decide (0 < m) = false := by simp; omega
            have hz2 : decide ((0 : Int) < (m : Int)) = false := by simp; omega
            have H0 := hide h0
            clear h0
            go_wp2_with fail
            have HO' := hide (show Own w.heap.size w3.heap.size w3 (.slice pa n pc) (outL (dropG ms f t) (zs.take (k + 1))) ∧ n = (outL (dropG ms f t) (zs.take (k + 1))).length ∧ n ≤ k + 1 by
              rw [unhide HSn, show st (outL (dropG ms f t) (zs.take k)) ls D = outL (dropG ms f t) (zs.take k) from if_pos hDn]
              have h1 := unhide HO
              have h2 := h1.1.below b0
              have z0 := b0.size
              obtain ⟨cs', g1, g2, g3, g4, g5⟩ := h2
              exact ⟨⟨cs', g1, g2, fun k hk => by have := g3 k hk; omega, Nat.le_refl _, g5.1, g5.2.1, fun i hi => ⟨(g5.2.2 i hi).1, fun k hk => by have := (g5.2.2 i hi).2.1 k hk; omega, fun k hk => by have := (g5.2.2 i hi).2.2 k hk; omega⟩⟩, h1.2.1, by omega⟩)
            clear HO hDn
            go_roundw
            case rel => exact ⟨k + 1, n, pa, pc, by omega, by go_num, rfl, HO', hbl⟩
            case measure => simp [intOf]; omega
          · have hgt : 0 < m := by omega
            have hgI : (0 : Int) < (m : Int) := by omega
            have hDne : D ≠ [] := fun e => h0 (by rw [unhide HM, e]; rfl)
            have HSn2 := hide (show outL (dropG ms f t) (zs.take (k + 1)) = outL (dropG ms f t) (zs.take k) ++ [(ls, D)] by rw [unhide HSn]; exact if_neg hDne)
            obtain ⟨hO1, hO2, hO3⟩ := unhide HO
            obtain ⟨ds, g1, g2, g3, g4, g5, g6, g7⟩ := hO1
            rw [← hO2] at g2
            have hmx1 : 1 ≤ maxLen := by unfold maxLen; omega
            have HO1 := hide (And.intro g1 (And.intro g5 (And.intro g6 g7)))
            have HO2 := hide hO2
            have hn10' : n ≤ 10 := by omega
            clear HO g1 g3 g4 g5 g6 g7 hO2 HSn hDne
            have hc0w : w3.cell? ⟨b, off + k * 2, none⟩ = some (.slice a0 ll q0) := (b0.cell (p := ⟨b, off + k * 2, none⟩) (by show b < _; omega)).trans hc0
            have G2 := own_below g2 b0
            have z0 := b0.size
            have HLd := hide (unhide HE1 w3 hbl)
            have oe : (w3.alloc (.cells #[] 64)).ownsRow w3.heap.size 64 2 (.slice (some ⟨w3.heap.size, 0, none⟩) 0 0) 0 [] := own_empty (Nat.le_refl _)
            have be : Below w3.heap.size w3 (w3.alloc (.cells #[] 64)) := (Below.refl _ _).alloc (Nat.le_refl _) _
            have le : Lies (w3.alloc (.cells #[] 64)) (.slice a0 ll q0) ll 2 (Lab.flat ls) := (by have := (unhide HLd).below be; rw [unhide HLL]; rw [unhide HLL] at this; exact this)
            have hb3 : b < w3.heap.size := (by omega)
            have hb3n : ¬ b = w3.heap.size := (by omega)
            have hc0e : (w3.alloc (.cells #[] 64)).cell? ⟨b, off + k * 2, none⟩ = some (.slice a0 ll q0) := (be.cell (p := ⟨b, _, none⟩) hb3).trans hc0w
            have HXI := hide hxi
            clear hxi
            go_wp2_with (first | (at_builtin; refine app_wp _ rfl (.tmp 47) (.tmp 52) _ rfl w3.heap.size 64 i1 _ 2 32 Tryz.underlying60 hi1 hy0 hy1 hy2 rfl (by omega) _ 0 [] rfl oe _ ll (Lab.flat ls) rfl le (Lab.flat_oneCell _) (by unfold maxLen; omega) (by omega) (by simp) ?_; intro vl wl ol gl al; rw [Nat.zero_add, List.nil_append] at ol; have bl : Below w3.heap.size w3 wl := below_grown be (by simp) gl (fun k hk => by cases hk; exact Nat.le_refl _); obtain ⟨la, lq, rfl⟩ : ∃ a q, vl = .slice a ll q := (by obtain ⟨-, a, q, e, -⟩ := lies_of_own ol; exact ⟨a, q, e⟩); have zl := bl.size; have G2l := own_below G2 bl; have os : (wl.alloc (.cells #[] 106)).ownsRow wl.heap.size 106 2 (.slice (some ⟨wl.heap.size, 0, none⟩) 0 0) 0 [] := own_empty (Nat.le_refl _); have bs : Below wl.heap.size wl (wl.alloc (.cells #[] 106)) := (Below.refl _ _).alloc (Nat.le_refl _) _; have lx : Lies (wl.alloc (.cells #[] 106)) (.slice xa m xq) m 2 (Sam.flat D) := (by have := ((unhide HXI).below bl).below bs; rw [unhide HM]; rw [unhide HM] at this; exact this); clear gl al le be oe) | (at_builtin; refine app_wp _ rfl (.tmp 54) (.tmp 55) _ rfl wl.heap.size 106 i2 _ 2 16 Tryz.underlying91 hi2 hx0 hx1 hx2 rfl (by omega) _ 0 [] rfl os _ m (Sam.flat D) rfl lx (Sam.flat_oneCell _) (by unfold maxLen; omega) (by omega) (by simp) ?_; intro vs ws oS gS aS; rw [Nat.zero_add, List.nil_append] at oS; have bS : Below wl.heap.size wl ws := below_grown bs (by simp) gS (fun k hk => by cases hk; exact Nat.le_refl _); obtain ⟨sa, sq, rfl⟩ : ∃ a q, vs = .slice a m q := (by obtain ⟨-, a, q, e, -⟩ := lies_of_own oS; exact ⟨a, q, e⟩); have zS := bS.size; have G2s := own_below G2l bS; clear gS aS lx bs os) | (at_builtin; refine app_wp _ rfl (.tmp 46) (.tmp 58) _ rfl w.heap.size 93 i0 _ 2 48 Tryz.underlying28 hi hz0 hz1 hz2 rfl (by omega) _ n _ rfl (World.ownsRow.alloc G2s _) _ 1 [.slice la ll lq, .slice sa m sq] rfl (lies_new (w := ws) (by simp) rfl hmx1) (by simp [Value.oneCell']) (by unfold maxLen; omega) (by omega) (by simp; omega) ?_; intro vn wn on gn an))
            have hbs := (hbl.trans (bl.mono (by omega))).trans (bS.mono (by omega))
            have R9 : Below w.heap.size w wn := below_grown (hbs.alloc (by omega) _) (by simp; omega) gn (own_ge G2)
            have HO' := hide (show Own w.heap.size wn.heap.size wn vn (outL (dropG ms f t) (zs.take (k + 1))) ∧ n + 1 = (outL (dropG ms f t) (zs.take (k + 1))).length ∧ n + 1 ≤ k + 1 by
              obtain ⟨g1, g5, g6, g7⟩ := unhide HO1
              rw [unhide HSn2]
              refine ⟨own_snoc (w := ws.alloc (.cells #[.slice la ll lq, .slice sa m sq] 93)) (pv := .slice pa n pc) (vl := .slice la ll lq) (xv := .slice sa m sq) g1 (by rw [← unhide HO2]; exact World.ownsRow.alloc G2s _) g5 g6 (fun i hi => ⟨World.ownsRow.alloc (own_below (own_below (own_below (g7 i hi).1.1 b0) bl) bS) _, World.ownsRow.alloc (own_below (own_below (own_below (g7 i hi).1.2 b0) bl) bS) _⟩) gn (by rw [← unhide HO2]; exact on) (by simp only; rw [← unhide HLL]; exact World.ownsRow.alloc (own_below (own_mono ol (by omega)) bS) _) (by simp only; rw [← unhide HM]; exact World.ownsRow.alloc (own_mono oS (by omega)) _) (fun i hi k hk hk' => by have h1 := own_block_lt (g7 i hi).1.1 k hk; have h2 := own_ge ol k hk'; omega) (fun i hi k hk hk' => by have h1 := own_block_lt (g7 i hi).1.2 k hk; have h2 := own_ge oS k hk'; omega), by rw [List.length_append, ← unhide HO2]; rfl, by omega⟩)
            obtain ⟨an', cn, hvn⟩ : ∃ a c, vn = .slice a (n + 1) c := by obtain ⟨-, a, c, e, -⟩ := lies_of_own on; exact ⟨a, c, e⟩
            have HV := hide hvn
            clear on gn an hvn ol oS G2 G2l G2s HO1 HO2 HSn2 bl hbs bS HXI
            go_wp2_with fail
            go_roundw
            case rel => exact ⟨k + 1, n + 1, an', cn, by omega, by go_num, unhide HV, HO', R9⟩
            case measure => simp [intOf]; omega
    · obtain rfl : k = l := by omega
      have HO' := hide (show Own w.heap.size wr.heap.size wr (.slice pa n pc) (outL (dropG ms f t) zs) by have := (unhide HO).1; rwa [List.take_of_length_le (by have := unhide HN; omega)] at this)
      clear HO
      go_wp2
      go_ret
      exact ⟨_, rfl, unhide HO', hbel⟩
end Go.Proofs.YtlboekimnhgfdaaGreat.Row

/- TableDrop of the program and of the model. -/
namespace Go.Proofs.YtlboekimnhgfdaaGreat.Tab
open Go.RowKit Rw
set_option linter.unusedVariables false
attribute [local go_sem ↓] Go.wp_at_zero Go.wp_at_succ
def drop (ms : List Mat.E) (f t : Int) (zs : List Row.E) (H F : Int) : List Row.E × Int × Int := if Row.tableB zs H F = true then (if Mat.ok ms = true then (Row.drop ms f t zs, H, F) else (zs, H, F)) else ([], 0, 0)
theorem l5drop_is {ms : List Mat.E} {f t : Int} {zs : List Row.E} (h : Row.ok zs = true) (hm : Mat.ok ms = true) : Row.drop ms f t zs = Row.outL (Row.dropG ms f t) zs := by unfold Row.drop; rw [if_pos ⟨h, hm⟩]
set_option maxRecDepth 100000 in
set_option maxHeartbeats 8000000 in
theorem impl_drop {w : World} {v u : Value} {zs : List Row.E} {ms : List Mat.E} (f t H F : Int) (h : Row.Is w v zs) (hm : Mat.Is w u ms) (hg : ∀ x ∈ zs, Row.good x) (hlen : zs.length ≤ maxLen) (hmg : ∀ x ∈ ms, Mat.good x) (hml : ms.length ≤ maxLen) :
    Calls Tryz.prog 22 #[.agg #[v, .int .i64 H, .int .i64 F], u, .int .i64 f, .int .i64 t] w fun e w' => ∃ r, e = .returned (.agg #[r, .int .i64 (drop ms f t zs H F).2.1, .int .i64 (drop ms f t zs H F).2.2]) ∧ Row.Own w.heap.size w'.heap.size w' r (drop ms f t zs H F).1 ∧ Below w.heap.size w w' := by
  have H1 := hide (fun W (hb : Below w.heap.size w W) => Row.impl_table (H := H) (F := F) (h.below hb) hg hlen)
  have H2 := hide (fun W (hb : Below w.heap.size w W) => Mat.impl_ok (hm.below hb) hmg hml)
  have H3 := hide (fun W (hb : Below w.heap.size w W) (hok : Row.ok zs = true) => impl_copy H F (h.below hb) hok)
  have H4 := hide (fun W (hb : Below w.heap.size w W) (hok : Row.ok zs = true) (hmo : Mat.ok ms = true) => Row.impl_drop f t (h.below hb) (hm.below hb) hg hlen hmg hml)
  obtain ⟨av, nv, cv, ev⟩ : ∃ a n c, v = .slice a n c := by obtain ⟨cs, -, hL, -⟩ := h; obtain ⟨-, a, c, e, -⟩ := hL; exact ⟨a, _, c, e⟩
  obtain ⟨au, nu, cu, eu⟩ : ∃ a n c, u = .slice a n c := by obtain ⟨-, a, c, e, -⟩ := hm; exact ⟨a, _, c, e⟩
  clear h hm hg hlen hmg hml
  subst ev eu
  obtain ⟨W, hW⟩ : ∃ W, W = (w.alloc (.cells #[.slice av nv cv, .int .i64 H, .int .i64 F] 30)).alloc (.cells #[.slice none 0 0, .int .i64 0, .int .i64 0] 30) := ⟨_, rfl⟩
  have bW : Below w.heap.size w W := by rw [hW]; exact ((Below.refl _ _).alloc (Nat.le_refl _) _).alloc (by simp) _
  have zW : W.heap.size = w.heap.size + 1 + 1 := by rw [hW]; simp
  have x0_0 : W.cell? ⟨w.heap.size + 1, 0, none⟩ = some (.slice none 0 0) := by rw [hW]; simp [go_sem]
  have g0_0 : W.frozen? ⟨w.heap.size + 1, 0, none⟩ = false := by rw [hW]; simp [go_sem]
  have a0_0 : W.cell? ⟨w.heap.size, 0, none⟩ = some (.slice av nv cv) := by rw [hW]; simp [go_sem]
  have x1_0 : W.cell? ⟨w.heap.size + 1, 1, none⟩ = some (.int .i64 0) := by rw [hW]; simp [go_sem]
  have g1_0 : W.frozen? ⟨w.heap.size + 1, 1, none⟩ = false := by rw [hW]; simp [go_sem]
  have a1_0 : W.cell? ⟨w.heap.size, 1, none⟩ = some (.int .i64 H) := by rw [hW]; simp [go_sem]
  have x2_0 : W.cell? ⟨w.heap.size + 1, 2, none⟩ = some (.int .i64 0) := by rw [hW]; simp [go_sem]
  have g2_0 : W.frozen? ⟨w.heap.size + 1, 2, none⟩ = false := by rw [hW]; simp [go_sem]
  have a2_0 : W.cell? ⟨w.heap.size, 2, none⟩ = some (.int .i64 F) := by rw [hW]; simp [go_sem]
  cases ho : Row.tableB zs H F
  · have HR := hide (show drop ms f t zs H F = ([], 0, 0) by unfold drop; rw [ho]; rfl)
    rw [ho] at H1
    rw [unhide HR]
    clear ho H2 H3 H4 HR
    go_enter Tryz.func22, Tryz.ntmps22
    go_wp2_with fail
    rw [← hW]
    clear hW
    refine (unhide H1 W bW).mono ?_
    rintro e w1 ⟨rfl, b1⟩
    have z1 := b1.size
    have c1 := bW.trans (b1.mono (by omega))
    have x0_1 := (b1.cell (p := ⟨w.heap.size + 1, 0, none⟩) (by show w.heap.size + 1 < _; omega)).trans x0_0
    have g0_1 := (b1.frozen (p := ⟨w.heap.size + 1, 0, none⟩) (by show w.heap.size + 1 < _; omega)).trans g0_0
    have a0_1 := (b1.cell (p := ⟨w.heap.size, 0, none⟩) (by show w.heap.size < _; omega)).trans a0_0
    have x1_1 := (b1.cell (p := ⟨w.heap.size + 1, 1, none⟩) (by show w.heap.size + 1 < _; omega)).trans x1_0
    have g1_1 := (b1.frozen (p := ⟨w.heap.size + 1, 1, none⟩) (by show w.heap.size + 1 < _; omega)).trans g1_0
    have a1_1 := (b1.cell (p := ⟨w.heap.size, 1, none⟩) (by show w.heap.size < _; omega)).trans a1_0
    have x2_1 := (b1.cell (p := ⟨w.heap.size + 1, 2, none⟩) (by show w.heap.size + 1 < _; omega)).trans x2_0
    have g2_1 := (b1.frozen (p := ⟨w.heap.size + 1, 2, none⟩) (by show w.heap.size + 1 < _; omega)).trans g2_0
    have a2_1 := (b1.cell (p := ⟨w.heap.size, 2, none⟩) (by show w.heap.size < _; omega)).trans a2_0
    clear x0_0 x1_0 x2_0 g0_0 g1_0 g2_0 a0_0 a1_0 a2_0
    have on : OnlyAt (w.heap.size + 1) w1 (((w1.setCell ⟨w.heap.size + 1, 0, none⟩ (.slice none 0 0)).setCell ⟨w.heap.size + 1, 1, none⟩ (.int .i64 0)).setCell ⟨w.heap.size + 1, 2, none⟩ (.int .i64 0)) := (((OnlyAt.refl _ _).setCell 0 _).setCell 1 _).setCell 2 _
    have bn := c1.trans (on.below (show w.heap.size ≤ w.heap.size + 1 by omega))
    have On := hide (Row.own_nil w.heap.size (((w1.setCell ⟨w.heap.size + 1, 0, none⟩ (.slice none 0 0)).setCell ⟨w.heap.size + 1, 1, none⟩ (.int .i64 0)).setCell ⟨w.heap.size + 1, 2, none⟩ (.int .i64 0)))
    go_wp2_with fail
    refine bodyPost_ret (v := .agg #[.slice none 0 0, .int .i64 0, .int .i64 0]) (by simp [results, Tryz.results22, go_sem, x0_1, x1_1, x2_1]) rfl ⟨.slice none 0 0, rfl, unhide On, bn⟩
  have hrk := table_ok ho
  rw [ho] at H1
  cases hmo : Mat.ok ms
  · have HR := hide (show drop ms f t zs H F = (zs, H, F) by unfold drop; rw [ho, hmo]; rfl)
    rw [hmo] at H2
    rw [unhide HR]
    have H3' := hide (fun W hb => unhide H3 W hb hrk)
    clear ho hmo hrk H3 H4 HR
    go_enter Tryz.func22, Tryz.ntmps22
    go_wp2_with fail
    rw [← hW]
    clear hW
    refine (unhide H1 W bW).mono ?_
    rintro e w1 ⟨rfl, b1⟩
    have z1 := b1.size
    have c1 := bW.trans (b1.mono (by omega))
    have x0_1 := (b1.cell (p := ⟨w.heap.size + 1, 0, none⟩) (by show w.heap.size + 1 < _; omega)).trans x0_0
    have g0_1 := (b1.frozen (p := ⟨w.heap.size + 1, 0, none⟩) (by show w.heap.size + 1 < _; omega)).trans g0_0
    have a0_1 := (b1.cell (p := ⟨w.heap.size, 0, none⟩) (by show w.heap.size < _; omega)).trans a0_0
    have x1_1 := (b1.cell (p := ⟨w.heap.size + 1, 1, none⟩) (by show w.heap.size + 1 < _; omega)).trans x1_0
    have g1_1 := (b1.frozen (p := ⟨w.heap.size + 1, 1, none⟩) (by show w.heap.size + 1 < _; omega)).trans g1_0
    have a1_1 := (b1.cell (p := ⟨w.heap.size, 1, none⟩) (by show w.heap.size < _; omega)).trans a1_0
    have x2_1 := (b1.cell (p := ⟨w.heap.size + 1, 2, none⟩) (by show w.heap.size + 1 < _; omega)).trans x2_0
    have g2_1 := (b1.frozen (p := ⟨w.heap.size + 1, 2, none⟩) (by show w.heap.size + 1 < _; omega)).trans g2_0
    have a2_1 := (b1.cell (p := ⟨w.heap.size, 2, none⟩) (by show w.heap.size < _; omega)).trans a2_0
    clear x0_0 x1_0 x2_0 g0_0 g1_0 g2_0 a0_0 a1_0 a2_0
    go_wp2_with fail
    refine (unhide H2 w1 c1).mono ?_
    rintro e w2 ⟨rfl, b2⟩
    have z2 := b2.size
    have c2 := c1.trans (b2.mono (by omega))
    have x0_2 := (b2.cell (p := ⟨w.heap.size + 1, 0, none⟩) (by show w.heap.size + 1 < _; omega)).trans x0_1
    have g0_2 := (b2.frozen (p := ⟨w.heap.size + 1, 0, none⟩) (by show w.heap.size + 1 < _; omega)).trans g0_1
    have a0_2 := (b2.cell (p := ⟨w.heap.size, 0, none⟩) (by show w.heap.size < _; omega)).trans a0_1
    have x1_2 := (b2.cell (p := ⟨w.heap.size + 1, 1, none⟩) (by show w.heap.size + 1 < _; omega)).trans x1_1
    have g1_2 := (b2.frozen (p := ⟨w.heap.size + 1, 1, none⟩) (by show w.heap.size + 1 < _; omega)).trans g1_1
    have a1_2 := (b2.cell (p := ⟨w.heap.size, 1, none⟩) (by show w.heap.size < _; omega)).trans a1_1
    have x2_2 := (b2.cell (p := ⟨w.heap.size + 1, 2, none⟩) (by show w.heap.size + 1 < _; omega)).trans x2_1
    have g2_2 := (b2.frozen (p := ⟨w.heap.size + 1, 2, none⟩) (by show w.heap.size + 1 < _; omega)).trans g2_1
    have a2_2 := (b2.cell (p := ⟨w.heap.size, 2, none⟩) (by show w.heap.size < _; omega)).trans a2_1
    clear x0_1 x1_1 x2_1 g0_1 g1_1 g2_1 a0_1 a1_1 a2_1
    go_wp2_with fail
    refine (unhide H3' w2 c2).mono ?_
    rintro e w3 ⟨r, rfl, o3, b3⟩
    obtain ⟨ra, rl, rq, rfl⟩ := Row.Own.form o3
    have z3 := b3.size
    have x0_3 := (b3.cell (p := ⟨w.heap.size + 1, 0, none⟩) (by show w.heap.size + 1 < _; omega)).trans x0_2
    have g0_3 := (b3.frozen (p := ⟨w.heap.size + 1, 0, none⟩) (by show w.heap.size + 1 < _; omega)).trans g0_2
    have a0_3 := (b3.cell (p := ⟨w.heap.size, 0, none⟩) (by show w.heap.size < _; omega)).trans a0_2
    have x1_3 := (b3.cell (p := ⟨w.heap.size + 1, 1, none⟩) (by show w.heap.size + 1 < _; omega)).trans x1_2
    have g1_3 := (b3.frozen (p := ⟨w.heap.size + 1, 1, none⟩) (by show w.heap.size + 1 < _; omega)).trans g1_2
    have a1_3 := (b3.cell (p := ⟨w.heap.size, 1, none⟩) (by show w.heap.size < _; omega)).trans a1_2
    have x2_3 := (b3.cell (p := ⟨w.heap.size + 1, 2, none⟩) (by show w.heap.size + 1 < _; omega)).trans x2_2
    have g2_3 := (b3.frozen (p := ⟨w.heap.size + 1, 2, none⟩) (by show w.heap.size + 1 < _; omega)).trans g2_2
    have a2_3 := (b3.cell (p := ⟨w.heap.size, 2, none⟩) (by show w.heap.size < _; omega)).trans a2_2
    clear x0_2 x1_2 x2_2 g0_2 g1_2 g2_2 a0_2 a1_2 a2_2
    have on : OnlyAt (w.heap.size + 1) w3 (((w3.setCell ⟨w.heap.size + 1, 0, none⟩ (.slice ra rl rq)).setCell ⟨w.heap.size + 1, 1, none⟩ (.int .i64 H)).setCell ⟨w.heap.size + 1, 2, none⟩ (.int .i64 F)) := (((OnlyAt.refl _ _).setCell 0 _).setCell 1 _).setCell 2 _
    have bn := (c2.trans (b3.mono (by omega))).trans (on.below (show w.heap.size ≤ w.heap.size + 1 by omega))
    have On := hide (o3.zone (Zone.of_only on (Nat.le_refl _) (Nat.lt_succ_self _)) (.inr (by omega)))
    clear o3
    go_wp2_with fail
    refine bodyPost_ret (v := .agg #[.slice ra rl rq, .int .i64 H, .int .i64 F]) (by simp [results, Tryz.results22, go_sem, x0_3, x1_3, x2_3]) rfl ⟨.slice ra rl rq, rfl, (unhide On).wide (by omega) (by simp) (Nat.le_refl _), bn⟩
  · have HR := hide (show drop ms f t zs H F = (Row.drop ms f t zs, H, F) by unfold drop; rw [ho, hmo]; rfl)
    rw [hmo] at H2
    rw [unhide HR]
    have H4' := hide (fun W hb => unhide H4 W hb hrk hmo)
    clear ho hmo hrk H3 H4 HR
    go_enter Tryz.func22, Tryz.ntmps22
    go_wp2_with fail
    rw [← hW]
    clear hW
    refine (unhide H1 W bW).mono ?_
    rintro e w1 ⟨rfl, b1⟩
    have z1 := b1.size
    have c1 := bW.trans (b1.mono (by omega))
    have x0_1 := (b1.cell (p := ⟨w.heap.size + 1, 0, none⟩) (by show w.heap.size + 1 < _; omega)).trans x0_0
    have g0_1 := (b1.frozen (p := ⟨w.heap.size + 1, 0, none⟩) (by show w.heap.size + 1 < _; omega)).trans g0_0
    have a0_1 := (b1.cell (p := ⟨w.heap.size, 0, none⟩) (by show w.heap.size < _; omega)).trans a0_0
    have x1_1 := (b1.cell (p := ⟨w.heap.size + 1, 1, none⟩) (by show w.heap.size + 1 < _; omega)).trans x1_0
    have g1_1 := (b1.frozen (p := ⟨w.heap.size + 1, 1, none⟩) (by show w.heap.size + 1 < _; omega)).trans g1_0
    have a1_1 := (b1.cell (p := ⟨w.heap.size, 1, none⟩) (by show w.heap.size < _; omega)).trans a1_0
    have x2_1 := (b1.cell (p := ⟨w.heap.size + 1, 2, none⟩) (by show w.heap.size + 1 < _; omega)).trans x2_0
    have g2_1 := (b1.frozen (p := ⟨w.heap.size + 1, 2, none⟩) (by show w.heap.size + 1 < _; omega)).trans g2_0
    have a2_1 := (b1.cell (p := ⟨w.heap.size, 2, none⟩) (by show w.heap.size < _; omega)).trans a2_0
    clear x0_0 x1_0 x2_0 g0_0 g1_0 g2_0 a0_0 a1_0 a2_0
    go_wp2_with fail
    refine (unhide H2 w1 c1).mono ?_
    rintro e w2 ⟨rfl, b2⟩
    have z2 := b2.size
    have c2 := c1.trans (b2.mono (by omega))
    have x0_2 := (b2.cell (p := ⟨w.heap.size + 1, 0, none⟩) (by show w.heap.size + 1 < _; omega)).trans x0_1
    have g0_2 := (b2.frozen (p := ⟨w.heap.size + 1, 0, none⟩) (by show w.heap.size + 1 < _; omega)).trans g0_1
    have a0_2 := (b2.cell (p := ⟨w.heap.size, 0, none⟩) (by show w.heap.size < _; omega)).trans a0_1
    have x1_2 := (b2.cell (p := ⟨w.heap.size + 1, 1, none⟩) (by show w.heap.size + 1 < _; omega)).trans x1_1
    have g1_2 := (b2.frozen (p := ⟨w.heap.size + 1, 1, none⟩) (by show w.heap.size + 1 < _; omega)).trans g1_1
    have a1_2 := (b2.cell (p := ⟨w.heap.size, 1, none⟩) (by show w.heap.size < _; omega)).trans a1_1
    have x2_2 := (b2.cell (p := ⟨w.heap.size + 1, 2, none⟩) (by show w.heap.size + 1 < _; omega)).trans x2_1
    have g2_2 := (b2.frozen (p := ⟨w.heap.size + 1, 2, none⟩) (by show w.heap.size + 1 < _; omega)).trans g2_1
    have a2_2 := (b2.cell (p := ⟨w.heap.size, 2, none⟩) (by show w.heap.size < _; omega)).trans a2_1
    clear x0_1 x1_1 x2_1 g0_1 g1_1 g2_1 a0_1 a1_1 a2_1
    have S6 : (fun W : World => W.cell? ⟨w.heap.size, 0, none⟩ = some (.slice av nv cv) ∧ W.cell? ⟨w.heap.size, 1, none⟩ = some (.int .i64 H) ∧ W.cell? ⟨w.heap.size, 2, none⟩ = some (.int .i64 F)) w2.drew := ⟨by simpa using a0_2, by simpa using a1_2, by simpa using a2_2⟩
    have c2d := c2.drew
    have H46 := hide (unhide H4' w2.drew c2d)
    clear H4'
    go_wp2_with fail
    go_region_held3 (fun W => W.cell? ⟨w.heap.size, 0, none⟩ = some (.slice av nv cv) ∧ W.cell? ⟨w.heap.size, 1, none⟩ = some (.int .i64 H) ∧ W.cell? ⟨w.heap.size, 2, none⟩ = some (.int .i64 F)) (first | exact S6 | exact S7 | exact S8) ((go_at_call 56; refine (unhide H46).mono ?_; rintro e w7 ⟨r, rfl, o7, b7⟩; obtain ⟨ra, rl, rq, rfl⟩ := Row.Own.form o7; have z7 := b7.size; simp only [World.size_drew] at z7; have x0 := (b7.cell (p := ⟨w.heap.size + 1, 0, none⟩) (by show w.heap.size + 1 < _; simp; omega)).trans (show w2.drew.cell? ⟨w.heap.size + 1, 0, none⟩ = some (.slice none 0 0) from (by simpa using x0_2)); have g0 := (b7.frozen (p := ⟨w.heap.size + 1, 0, none⟩) (by show w.heap.size + 1 < _; simp; omega)).trans (show w2.drew.frozen? ⟨w.heap.size + 1, 0, none⟩ = false from (by simpa using g0_2)); have x1 := (b7.cell (p := ⟨w.heap.size + 1, 1, none⟩) (by show w.heap.size + 1 < _; simp; omega)).trans (show w2.drew.cell? ⟨w.heap.size + 1, 1, none⟩ = some (.int .i64 0) from (by simpa using x1_2)); have g1 := (b7.frozen (p := ⟨w.heap.size + 1, 1, none⟩) (by show w.heap.size + 1 < _; simp; omega)).trans (show w2.drew.frozen? ⟨w.heap.size + 1, 1, none⟩ = false from (by simpa using g1_2)); have x2 := (b7.cell (p := ⟨w.heap.size + 1, 2, none⟩) (by show w.heap.size + 1 < _; simp; omega)).trans (show w2.drew.cell? ⟨w.heap.size + 1, 2, none⟩ = some (.int .i64 0) from (by simpa using x2_2)); have g2 := (b7.frozen (p := ⟨w.heap.size + 1, 2, none⟩) (by show w.heap.size + 1 < _; simp; omega)).trans (show w2.drew.frozen? ⟨w.heap.size + 1, 2, none⟩ = false from (by simpa using g2_2)); have S7 : (fun W : World => W.cell? ⟨w.heap.size, 0, none⟩ = some (.slice av nv cv) ∧ W.cell? ⟨w.heap.size, 1, none⟩ = some (.int .i64 H) ∧ W.cell? ⟨w.heap.size, 2, none⟩ = some (.int .i64 F)) w7 := ⟨(b7.cell (p := ⟨w.heap.size, 0, none⟩) (by show w.heap.size < _; simp; omega)).trans S6.1, (b7.cell (p := ⟨w.heap.size, 1, none⟩) (by show w.heap.size < _; simp; omega)).trans S6.2.1, (b7.cell (p := ⟨w.heap.size, 2, none⟩) (by show w.heap.size < _; simp; omega)).trans S6.2.2⟩; have on8 : OnlyAt (w.heap.size + 1) w7 (((w7.setCell ⟨w.heap.size + 1, 0, none⟩ (.slice ra rl rq)).setCell ⟨w.heap.size + 1, 1, none⟩ (.int .i64 H)).setCell ⟨w.heap.size + 1, 2, none⟩ (.int .i64 F)) := (((OnlyAt.refl _ _).setCell 0 _).setCell 1 _).setCell 2 _; have S8 : (fun W : World => W.cell? ⟨w.heap.size, 0, none⟩ = some (.slice av nv cv) ∧ W.cell? ⟨w.heap.size, 1, none⟩ = some (.int .i64 H) ∧ W.cell? ⟨w.heap.size, 2, none⟩ = some (.int .i64 F)) (((w7.setCell ⟨w.heap.size + 1, 0, none⟩ (.slice ra rl rq)).setCell ⟨w.heap.size + 1, 1, none⟩ (.int .i64 H)).setCell ⟨w.heap.size + 1, 2, none⟩ (.int .i64 F)) := ⟨(World.cell?_of_block (a := ⟨w.heap.size, 0, none⟩) (on8.block w.heap.size (show w.heap.size ≠ w.heap.size + 1 by omega))).trans S7.1, (World.cell?_of_block (a := ⟨w.heap.size, 1, none⟩) (on8.block w.heap.size (show w.heap.size ≠ w.heap.size + 1 by omega))).trans S7.2.1, (World.cell?_of_block (a := ⟨w.heap.size, 2, none⟩) (on8.block w.heap.size (show w.heap.size ≠ w.heap.size + 1 by omega))).trans S7.2.2⟩))
    have bn := (c2d.trans (b7.mono (by simp; omega))).trans (on8.below (show w.heap.size ≤ w.heap.size + 1 by omega))
    have On := hide (o7.zone (Zone.of_only on8 (Nat.le_refl _) (Nat.lt_succ_self _)) (.inr (by simp; omega)))
    clear o7
    go_wp2_with fail
    refine bodyPost_ret (v := .agg #[.slice ra rl rq, .int .i64 H, .int .i64 F]) (by simp [results, Tryz.results22, go_sem, x0, x1, x2]) rfl ⟨.slice ra rl rq, rfl, (unhide On).wide (by simp; omega) (by simp) (Nat.le_refl _), bn⟩
set_option maxRecDepth 100000 in
set_option maxHeartbeats 8000000 in
theorem spec_drop {w : World} {v u : Value} {zs : List Row.E} {ms : List Mat.E} (f t H F : Int) (h : Row.Is w v zs) (hm : Mat.Is w u ms) (hg : ∀ x ∈ zs, Row.good x) (hlen : zs.length ≤ maxLen) (hmg : ∀ x ∈ ms, Mat.good x) (hml : ms.length ≤ maxLen) :
    Calls Tryz.prog 24 #[.agg #[v, .int .i64 H, .int .i64 F], u, .int .i64 f, .int .i64 t] w fun e w' => ∃ r, e = .returned (.agg #[r, .int .i64 (drop ms f t zs H F).2.1, .int .i64 (drop ms f t zs H F).2.2]) ∧ Row.Own w.heap.size w'.heap.size w' r (drop ms f t zs H F).1 ∧ Below w.heap.size w w' := by
  have H1 := hide (fun W (hb : Below w.heap.size w W) => Row.spec_table (H := H) (F := F) (h.below hb) hg hlen)
  have H2 := hide (fun W (hb : Below w.heap.size w W) => Mat.spec_ok (hm.below hb) hmg hml)
  have H3 := hide (fun W (hb : Below w.heap.size w W) (hok : Row.ok zs = true) => spec_copy H F (h.below hb) hok)
  have H4 := hide (fun W (hb : Below w.heap.size w W) (hok : Row.ok zs = true) (hmo : Mat.ok ms = true) => (by have := Row.l5drop f t (h.below hb) (hm.below hb) hg hmg hok hmo; rw [← l5drop_is hok hmo] at this; exact this))
  obtain ⟨av, nv, cv, ev⟩ : ∃ a n c, v = .slice a n c := by obtain ⟨cs, -, hL, -⟩ := h; obtain ⟨-, a, c, e, -⟩ := hL; exact ⟨a, _, c, e⟩
  obtain ⟨au, nu, cu, eu⟩ : ∃ a n c, u = .slice a n c := by obtain ⟨-, a, c, e, -⟩ := hm; exact ⟨a, _, c, e⟩
  clear h hm hg hlen hmg hml
  subst ev eu
  obtain ⟨W, hW⟩ : ∃ W, W = (w.alloc (.cells #[.slice av nv cv, .int .i64 H, .int .i64 F] 30)).alloc (.cells #[.slice none 0 0, .int .i64 0, .int .i64 0] 30) := ⟨_, rfl⟩
  have bW : Below w.heap.size w W := by rw [hW]; exact ((Below.refl _ _).alloc (Nat.le_refl _) _).alloc (by simp) _
  have zW : W.heap.size = w.heap.size + 1 + 1 := by rw [hW]; simp
  have x0_0 : W.cell? ⟨w.heap.size + 1, 0, none⟩ = some (.slice none 0 0) := by rw [hW]; simp [go_sem]
  have g0_0 : W.frozen? ⟨w.heap.size + 1, 0, none⟩ = false := by rw [hW]; simp [go_sem]
  have a0_0 : W.cell? ⟨w.heap.size, 0, none⟩ = some (.slice av nv cv) := by rw [hW]; simp [go_sem]
  have x1_0 : W.cell? ⟨w.heap.size + 1, 1, none⟩ = some (.int .i64 0) := by rw [hW]; simp [go_sem]
  have g1_0 : W.frozen? ⟨w.heap.size + 1, 1, none⟩ = false := by rw [hW]; simp [go_sem]
  have a1_0 : W.cell? ⟨w.heap.size, 1, none⟩ = some (.int .i64 H) := by rw [hW]; simp [go_sem]
  have x2_0 : W.cell? ⟨w.heap.size + 1, 2, none⟩ = some (.int .i64 0) := by rw [hW]; simp [go_sem]
  have g2_0 : W.frozen? ⟨w.heap.size + 1, 2, none⟩ = false := by rw [hW]; simp [go_sem]
  have a2_0 : W.cell? ⟨w.heap.size, 2, none⟩ = some (.int .i64 F) := by rw [hW]; simp [go_sem]
  cases ho : Row.tableB zs H F
  · have HR := hide (show drop ms f t zs H F = ([], 0, 0) by unfold drop; rw [ho]; rfl)
    rw [ho] at H1
    rw [unhide HR]
    clear ho H2 H3 H4 HR
    go_enter Tryz.func24, Tryz.ntmps24
    go_wp2_with fail
    rw [← hW]
    clear hW
    refine (unhide H1 W bW).mono ?_
    rintro e w1 ⟨rfl, b1⟩
    have z1 := b1.size
    have c1 := bW.trans (b1.mono (by omega))
    have x0_1 := (b1.cell (p := ⟨w.heap.size + 1, 0, none⟩) (by show w.heap.size + 1 < _; omega)).trans x0_0
    have g0_1 := (b1.frozen (p := ⟨w.heap.size + 1, 0, none⟩) (by show w.heap.size + 1 < _; omega)).trans g0_0
    have a0_1 := (b1.cell (p := ⟨w.heap.size, 0, none⟩) (by show w.heap.size < _; omega)).trans a0_0
    have x1_1 := (b1.cell (p := ⟨w.heap.size + 1, 1, none⟩) (by show w.heap.size + 1 < _; omega)).trans x1_0
    have g1_1 := (b1.frozen (p := ⟨w.heap.size + 1, 1, none⟩) (by show w.heap.size + 1 < _; omega)).trans g1_0
    have a1_1 := (b1.cell (p := ⟨w.heap.size, 1, none⟩) (by show w.heap.size < _; omega)).trans a1_0
    have x2_1 := (b1.cell (p := ⟨w.heap.size + 1, 2, none⟩) (by show w.heap.size + 1 < _; omega)).trans x2_0
    have g2_1 := (b1.frozen (p := ⟨w.heap.size + 1, 2, none⟩) (by show w.heap.size + 1 < _; omega)).trans g2_0
    have a2_1 := (b1.cell (p := ⟨w.heap.size, 2, none⟩) (by show w.heap.size < _; omega)).trans a2_0
    clear x0_0 x1_0 x2_0 g0_0 g1_0 g2_0 a0_0 a1_0 a2_0
    have on : OnlyAt (w.heap.size + 1) w1 (((w1.setCell ⟨w.heap.size + 1, 0, none⟩ (.slice none 0 0)).setCell ⟨w.heap.size + 1, 1, none⟩ (.int .i64 0)).setCell ⟨w.heap.size + 1, 2, none⟩ (.int .i64 0)) := (((OnlyAt.refl _ _).setCell 0 _).setCell 1 _).setCell 2 _
    have bn := c1.trans (on.below (show w.heap.size ≤ w.heap.size + 1 by omega))
    have On := hide (Row.own_nil w.heap.size (((w1.setCell ⟨w.heap.size + 1, 0, none⟩ (.slice none 0 0)).setCell ⟨w.heap.size + 1, 1, none⟩ (.int .i64 0)).setCell ⟨w.heap.size + 1, 2, none⟩ (.int .i64 0)))
    go_wp2_with fail
    refine bodyPost_ret (v := .agg #[.slice none 0 0, .int .i64 0, .int .i64 0]) (by simp [results, Tryz.results24, go_sem, x0_1, x1_1, x2_1]) rfl ⟨.slice none 0 0, rfl, unhide On, bn⟩
  have hrk := table_ok ho
  rw [ho] at H1
  cases hmo : Mat.ok ms
  · have HR := hide (show drop ms f t zs H F = (zs, H, F) by unfold drop; rw [ho, hmo]; rfl)
    rw [hmo] at H2
    rw [unhide HR]
    have H3' := hide (fun W hb => unhide H3 W hb hrk)
    clear ho hmo hrk H3 H4 HR
    go_enter Tryz.func24, Tryz.ntmps24
    go_wp2_with fail
    rw [← hW]
    clear hW
    refine (unhide H1 W bW).mono ?_
    rintro e w1 ⟨rfl, b1⟩
    have z1 := b1.size
    have c1 := bW.trans (b1.mono (by omega))
    have x0_1 := (b1.cell (p := ⟨w.heap.size + 1, 0, none⟩) (by show w.heap.size + 1 < _; omega)).trans x0_0
    have g0_1 := (b1.frozen (p := ⟨w.heap.size + 1, 0, none⟩) (by show w.heap.size + 1 < _; omega)).trans g0_0
    have a0_1 := (b1.cell (p := ⟨w.heap.size, 0, none⟩) (by show w.heap.size < _; omega)).trans a0_0
    have x1_1 := (b1.cell (p := ⟨w.heap.size + 1, 1, none⟩) (by show w.heap.size + 1 < _; omega)).trans x1_0
    have g1_1 := (b1.frozen (p := ⟨w.heap.size + 1, 1, none⟩) (by show w.heap.size + 1 < _; omega)).trans g1_0
    have a1_1 := (b1.cell (p := ⟨w.heap.size, 1, none⟩) (by show w.heap.size < _; omega)).trans a1_0
    have x2_1 := (b1.cell (p := ⟨w.heap.size + 1, 2, none⟩) (by show w.heap.size + 1 < _; omega)).trans x2_0
    have g2_1 := (b1.frozen (p := ⟨w.heap.size + 1, 2, none⟩) (by show w.heap.size + 1 < _; omega)).trans g2_0
    have a2_1 := (b1.cell (p := ⟨w.heap.size, 2, none⟩) (by show w.heap.size < _; omega)).trans a2_0
    clear x0_0 x1_0 x2_0 g0_0 g1_0 g2_0 a0_0 a1_0 a2_0
    go_wp2_with fail
    refine (unhide H2 w1 c1).mono ?_
    rintro e w2 ⟨rfl, b2⟩
    have z2 := b2.size
    have c2 := c1.trans (b2.mono (by omega))
    have x0_2 := (b2.cell (p := ⟨w.heap.size + 1, 0, none⟩) (by show w.heap.size + 1 < _; omega)).trans x0_1
    have g0_2 := (b2.frozen (p := ⟨w.heap.size + 1, 0, none⟩) (by show w.heap.size + 1 < _; omega)).trans g0_1
    have a0_2 := (b2.cell (p := ⟨w.heap.size, 0, none⟩) (by show w.heap.size < _; omega)).trans a0_1
    have x1_2 := (b2.cell (p := ⟨w.heap.size + 1, 1, none⟩) (by show w.heap.size + 1 < _; omega)).trans x1_1
    have g1_2 := (b2.frozen (p := ⟨w.heap.size + 1, 1, none⟩) (by show w.heap.size + 1 < _; omega)).trans g1_1
    have a1_2 := (b2.cell (p := ⟨w.heap.size, 1, none⟩) (by show w.heap.size < _; omega)).trans a1_1
    have x2_2 := (b2.cell (p := ⟨w.heap.size + 1, 2, none⟩) (by show w.heap.size + 1 < _; omega)).trans x2_1
    have g2_2 := (b2.frozen (p := ⟨w.heap.size + 1, 2, none⟩) (by show w.heap.size + 1 < _; omega)).trans g2_1
    have a2_2 := (b2.cell (p := ⟨w.heap.size, 2, none⟩) (by show w.heap.size < _; omega)).trans a2_1
    clear x0_1 x1_1 x2_1 g0_1 g1_1 g2_1 a0_1 a1_1 a2_1
    go_wp2_with fail
    refine (unhide H3' w2 c2).mono ?_
    rintro e w3 ⟨r, rfl, o3, b3⟩
    obtain ⟨ra, rl, rq, rfl⟩ := Row.Own.form o3
    have z3 := b3.size
    have x0_3 := (b3.cell (p := ⟨w.heap.size + 1, 0, none⟩) (by show w.heap.size + 1 < _; omega)).trans x0_2
    have g0_3 := (b3.frozen (p := ⟨w.heap.size + 1, 0, none⟩) (by show w.heap.size + 1 < _; omega)).trans g0_2
    have a0_3 := (b3.cell (p := ⟨w.heap.size, 0, none⟩) (by show w.heap.size < _; omega)).trans a0_2
    have x1_3 := (b3.cell (p := ⟨w.heap.size + 1, 1, none⟩) (by show w.heap.size + 1 < _; omega)).trans x1_2
    have g1_3 := (b3.frozen (p := ⟨w.heap.size + 1, 1, none⟩) (by show w.heap.size + 1 < _; omega)).trans g1_2
    have a1_3 := (b3.cell (p := ⟨w.heap.size, 1, none⟩) (by show w.heap.size < _; omega)).trans a1_2
    have x2_3 := (b3.cell (p := ⟨w.heap.size + 1, 2, none⟩) (by show w.heap.size + 1 < _; omega)).trans x2_2
    have g2_3 := (b3.frozen (p := ⟨w.heap.size + 1, 2, none⟩) (by show w.heap.size + 1 < _; omega)).trans g2_2
    have a2_3 := (b3.cell (p := ⟨w.heap.size, 2, none⟩) (by show w.heap.size < _; omega)).trans a2_2
    clear x0_2 x1_2 x2_2 g0_2 g1_2 g2_2 a0_2 a1_2 a2_2
    have on : OnlyAt (w.heap.size + 1) w3 (((w3.setCell ⟨w.heap.size + 1, 0, none⟩ (.slice ra rl rq)).setCell ⟨w.heap.size + 1, 1, none⟩ (.int .i64 H)).setCell ⟨w.heap.size + 1, 2, none⟩ (.int .i64 F)) := (((OnlyAt.refl _ _).setCell 0 _).setCell 1 _).setCell 2 _
    have bn := (c2.trans (b3.mono (by omega))).trans (on.below (show w.heap.size ≤ w.heap.size + 1 by omega))
    have On := hide (o3.zone (Zone.of_only on (Nat.le_refl _) (Nat.lt_succ_self _)) (.inr (by omega)))
    clear o3
    go_wp2_with fail
    refine bodyPost_ret (v := .agg #[.slice ra rl rq, .int .i64 H, .int .i64 F]) (by simp [results, Tryz.results24, go_sem, x0_3, x1_3, x2_3]) rfl ⟨.slice ra rl rq, rfl, (unhide On).wide (by omega) (by simp) (Nat.le_refl _), bn⟩
  · have HR := hide (show drop ms f t zs H F = (Row.drop ms f t zs, H, F) by unfold drop; rw [ho, hmo]; rfl)
    rw [hmo] at H2
    rw [unhide HR]
    have H4' := hide (fun W hb => unhide H4 W hb hrk hmo)
    clear ho hmo hrk H3 H4 HR
    go_enter Tryz.func24, Tryz.ntmps24
    go_wp2_with fail
    rw [← hW]
    clear hW
    refine (unhide H1 W bW).mono ?_
    rintro e w1 ⟨rfl, b1⟩
    have z1 := b1.size
    have c1 := bW.trans (b1.mono (by omega))
    have x0_1 := (b1.cell (p := ⟨w.heap.size + 1, 0, none⟩) (by show w.heap.size + 1 < _; omega)).trans x0_0
    have g0_1 := (b1.frozen (p := ⟨w.heap.size + 1, 0, none⟩) (by show w.heap.size + 1 < _; omega)).trans g0_0
    have a0_1 := (b1.cell (p := ⟨w.heap.size, 0, none⟩) (by show w.heap.size < _; omega)).trans a0_0
    have x1_1 := (b1.cell (p := ⟨w.heap.size + 1, 1, none⟩) (by show w.heap.size + 1 < _; omega)).trans x1_0
    have g1_1 := (b1.frozen (p := ⟨w.heap.size + 1, 1, none⟩) (by show w.heap.size + 1 < _; omega)).trans g1_0
    have a1_1 := (b1.cell (p := ⟨w.heap.size, 1, none⟩) (by show w.heap.size < _; omega)).trans a1_0
    have x2_1 := (b1.cell (p := ⟨w.heap.size + 1, 2, none⟩) (by show w.heap.size + 1 < _; omega)).trans x2_0
    have g2_1 := (b1.frozen (p := ⟨w.heap.size + 1, 2, none⟩) (by show w.heap.size + 1 < _; omega)).trans g2_0
    have a2_1 := (b1.cell (p := ⟨w.heap.size, 2, none⟩) (by show w.heap.size < _; omega)).trans a2_0
    clear x0_0 x1_0 x2_0 g0_0 g1_0 g2_0 a0_0 a1_0 a2_0
    go_wp2_with fail
    refine (unhide H2 w1 c1).mono ?_
    rintro e w2 ⟨rfl, b2⟩
    have z2 := b2.size
    have c2 := c1.trans (b2.mono (by omega))
    have x0_2 := (b2.cell (p := ⟨w.heap.size + 1, 0, none⟩) (by show w.heap.size + 1 < _; omega)).trans x0_1
    have g0_2 := (b2.frozen (p := ⟨w.heap.size + 1, 0, none⟩) (by show w.heap.size + 1 < _; omega)).trans g0_1
    have a0_2 := (b2.cell (p := ⟨w.heap.size, 0, none⟩) (by show w.heap.size < _; omega)).trans a0_1
    have x1_2 := (b2.cell (p := ⟨w.heap.size + 1, 1, none⟩) (by show w.heap.size + 1 < _; omega)).trans x1_1
    have g1_2 := (b2.frozen (p := ⟨w.heap.size + 1, 1, none⟩) (by show w.heap.size + 1 < _; omega)).trans g1_1
    have a1_2 := (b2.cell (p := ⟨w.heap.size, 1, none⟩) (by show w.heap.size < _; omega)).trans a1_1
    have x2_2 := (b2.cell (p := ⟨w.heap.size + 1, 2, none⟩) (by show w.heap.size + 1 < _; omega)).trans x2_1
    have g2_2 := (b2.frozen (p := ⟨w.heap.size + 1, 2, none⟩) (by show w.heap.size + 1 < _; omega)).trans g2_1
    have a2_2 := (b2.cell (p := ⟨w.heap.size, 2, none⟩) (by show w.heap.size < _; omega)).trans a2_1
    clear x0_1 x1_1 x2_1 g0_1 g1_1 g2_1 a0_1 a1_1 a2_1
    have S6 : (fun W : World => W.cell? ⟨w.heap.size, 0, none⟩ = some (.slice av nv cv) ∧ W.cell? ⟨w.heap.size, 1, none⟩ = some (.int .i64 H) ∧ W.cell? ⟨w.heap.size, 2, none⟩ = some (.int .i64 F)) w2.drew := ⟨by simpa using a0_2, by simpa using a1_2, by simpa using a2_2⟩
    have c2d := c2.drew
    have H46 := hide (unhide H4' w2.drew c2d)
    clear H4'
    go_wp2_with fail
    go_region_held3 (fun W => W.cell? ⟨w.heap.size, 0, none⟩ = some (.slice av nv cv) ∧ W.cell? ⟨w.heap.size, 1, none⟩ = some (.int .i64 H) ∧ W.cell? ⟨w.heap.size, 2, none⟩ = some (.int .i64 F)) (first | exact S6 | exact S7 | exact S8) ((go_at_call 58; refine (unhide H46).mono ?_; rintro e w7 ⟨r, rfl, o7, b7⟩; obtain ⟨ra, rl, rq, rfl⟩ := Row.Own.form o7; have z7 := b7.size; simp only [World.size_drew] at z7; have x0 := (b7.cell (p := ⟨w.heap.size + 1, 0, none⟩) (by show w.heap.size + 1 < _; simp; omega)).trans (show w2.drew.cell? ⟨w.heap.size + 1, 0, none⟩ = some (.slice none 0 0) from (by simpa using x0_2)); have g0 := (b7.frozen (p := ⟨w.heap.size + 1, 0, none⟩) (by show w.heap.size + 1 < _; simp; omega)).trans (show w2.drew.frozen? ⟨w.heap.size + 1, 0, none⟩ = false from (by simpa using g0_2)); have x1 := (b7.cell (p := ⟨w.heap.size + 1, 1, none⟩) (by show w.heap.size + 1 < _; simp; omega)).trans (show w2.drew.cell? ⟨w.heap.size + 1, 1, none⟩ = some (.int .i64 0) from (by simpa using x1_2)); have g1 := (b7.frozen (p := ⟨w.heap.size + 1, 1, none⟩) (by show w.heap.size + 1 < _; simp; omega)).trans (show w2.drew.frozen? ⟨w.heap.size + 1, 1, none⟩ = false from (by simpa using g1_2)); have x2 := (b7.cell (p := ⟨w.heap.size + 1, 2, none⟩) (by show w.heap.size + 1 < _; simp; omega)).trans (show w2.drew.cell? ⟨w.heap.size + 1, 2, none⟩ = some (.int .i64 0) from (by simpa using x2_2)); have g2 := (b7.frozen (p := ⟨w.heap.size + 1, 2, none⟩) (by show w.heap.size + 1 < _; simp; omega)).trans (show w2.drew.frozen? ⟨w.heap.size + 1, 2, none⟩ = false from (by simpa using g2_2)); have S7 : (fun W : World => W.cell? ⟨w.heap.size, 0, none⟩ = some (.slice av nv cv) ∧ W.cell? ⟨w.heap.size, 1, none⟩ = some (.int .i64 H) ∧ W.cell? ⟨w.heap.size, 2, none⟩ = some (.int .i64 F)) w7 := ⟨(b7.cell (p := ⟨w.heap.size, 0, none⟩) (by show w.heap.size < _; simp; omega)).trans S6.1, (b7.cell (p := ⟨w.heap.size, 1, none⟩) (by show w.heap.size < _; simp; omega)).trans S6.2.1, (b7.cell (p := ⟨w.heap.size, 2, none⟩) (by show w.heap.size < _; simp; omega)).trans S6.2.2⟩; have on8 : OnlyAt (w.heap.size + 1) w7 (((w7.setCell ⟨w.heap.size + 1, 0, none⟩ (.slice ra rl rq)).setCell ⟨w.heap.size + 1, 1, none⟩ (.int .i64 H)).setCell ⟨w.heap.size + 1, 2, none⟩ (.int .i64 F)) := (((OnlyAt.refl _ _).setCell 0 _).setCell 1 _).setCell 2 _; have S8 : (fun W : World => W.cell? ⟨w.heap.size, 0, none⟩ = some (.slice av nv cv) ∧ W.cell? ⟨w.heap.size, 1, none⟩ = some (.int .i64 H) ∧ W.cell? ⟨w.heap.size, 2, none⟩ = some (.int .i64 F)) (((w7.setCell ⟨w.heap.size + 1, 0, none⟩ (.slice ra rl rq)).setCell ⟨w.heap.size + 1, 1, none⟩ (.int .i64 H)).setCell ⟨w.heap.size + 1, 2, none⟩ (.int .i64 F)) := ⟨(World.cell?_of_block (a := ⟨w.heap.size, 0, none⟩) (on8.block w.heap.size (show w.heap.size ≠ w.heap.size + 1 by omega))).trans S7.1, (World.cell?_of_block (a := ⟨w.heap.size, 1, none⟩) (on8.block w.heap.size (show w.heap.size ≠ w.heap.size + 1 by omega))).trans S7.2.1, (World.cell?_of_block (a := ⟨w.heap.size, 2, none⟩) (on8.block w.heap.size (show w.heap.size ≠ w.heap.size + 1 by omega))).trans S7.2.2⟩))
    have bn := (c2d.trans (b7.mono (by simp; omega))).trans (on8.below (show w.heap.size ≤ w.heap.size + 1 by omega))
    have On := hide (o7.zone (Zone.of_only on8 (Nat.le_refl _) (Nat.lt_succ_self _)) (.inr (by simp; omega)))
    clear o7
    go_wp2_with fail
    refine bodyPost_ret (v := .agg #[.slice ra rl rq, .int .i64 H, .int .i64 F]) (by simp [results, Tryz.results24, go_sem, x0, x1, x2]) rfl ⟨.slice ra rl rq, rfl, (unhide On).wide (by simp; omega) (by simp) (Nat.le_refl _), bn⟩
end Go.Proofs.YtlboekimnhgfdaaGreat.Tab

/- TableKeep of the program and of the model. -/
namespace Go.Proofs.YtlboekimnhgfdaaGreat.Tab
open Go.RowKit Rw
set_option linter.unusedVariables false
attribute [local go_sem ↓] Go.wp_at_zero Go.wp_at_succ
def keepF (H F age : Int) : Int := let f := if 0 < H - age then (H - age) / 100 * 100 else 0; if f < F then F else f
def keep (age : Int) (zs : List Row.E) (H F : Int) : List Row.E × Int × Int := if Row.tableB zs H F = true then (if age < 0 then (zs, H, F) else (Row.drop [] 0 (keepF H F age) zs, H, keepF H F age)) else ([], 0, 0)
theorem wrap_in {n : Int} (h0 : -9223372036854775808 ≤ n) (h1 : n ≤ 9223372036854775807) : IntKind.i64.wrap n = n := by
  have hb : (2 : Int) ^ IntKind.i64.bits = 18446744073709551616 := by decide
  have hb' : (2 : Int) ^ (IntKind.i64.bits - 1) = 9223372036854775808 := by decide
  have hs : IntKind.i64.signed = true := rfl
  unfold IntKind.wrap
  simp only [hb, hb', hs, Bool.true_and, decide_eq_true_eq]
  split <;> omega
theorem wf_le {n : Int} (h : (Lit.int .i64 n).wf = true) : n ≤ 9223372036854775807 := by
  have : -9223372036854775808 ≤ n ∧ n ≤ 9223372036854775807 := by simpa [Lit.wf, IntKind.min, IntKind.max, IntKind.signed, IntKind.bits] using h
  exact this.2
theorem tdiv_range (D : Int) (h0 : -9223372036854775808 ≤ D) (h1 : D ≤ 9999) : -92233720368547758 ≤ D.tdiv 100 ∧ D.tdiv 100 ≤ 99 := by
  rcases Int.le_total 0 D with h | h
  · rw [Int.tdiv_eq_ediv_of_nonneg h]; omega
  · have e : D.tdiv 100 = -((-D) / 100) := by
      rw [← Int.tdiv_eq_ediv_of_nonneg (by omega), Int.neg_tdiv, Int.neg_neg]
    rw [e]; omega
theorem table_ends {zs : List Row.E} {H F : Int} (h : Row.tableB zs H F = true) : -1 ≤ H ∧ H ≤ 9999 ∧ 0 ≤ F ∧ F ≤ 9999 := by
  unfold Row.tableB Row.floorB at h
  simp only [Bool.and_eq_true, decide_eq_true_eq] at h
  omega
theorem keep_max {H F age D Q : Int} (h : -1 ≤ H ∧ H ≤ 9999 ∧ 0 ≤ F ∧ F ≤ 9999) (hD : H - age = D) (hQ : D.tdiv 100 = Q) : keepF H F age = if Q * 100 > F then Q * 100 else F := by
  unfold keepF
  rw [hD]
  rcases Int.lt_or_le 0 D with h0 | h0
  · have e : Q = D / 100 := by rw [← hQ, Int.tdiv_eq_ediv_of_nonneg (by omega)]
    simp only [if_pos h0, ← e]
    split <;> split <;> omega
  · have e : Q = -((-D) / 100) := by rw [← hQ, ← Int.tdiv_eq_ediv_of_nonneg (by omega), Int.neg_tdiv, Int.neg_neg]
    simp only [if_neg (show ¬ 0 < D by omega)]
    split <;> split <;> omega
set_option maxRecDepth 100000 in
set_option maxHeartbeats 4000000 in
theorem l6floor (H F age : Int) (av : Option Addr) (nv cv : Nat) (w : World) (hage : age ≤ 9223372036854775807) (hneg : 0 ≤ age) (hHF : -1 ≤ H ∧ H ≤ 9999 ∧ 0 ≤ F ∧ F ≤ 9999) :
    Calls Tryz.prog 76 #[.agg #[.slice av nv cv, .int .i64 H, .int .i64 F], .int .i64 age] w fun e w' => e = .returned (.int .i64 (keepF H F age)) ∧ Below w.heap.size w w' := by
  obtain ⟨D, hD⟩ : ∃ D, H - age = D := ⟨_, rfl⟩
  obtain ⟨Q, hQ⟩ : ∃ Q, D.tdiv 100 = Q := ⟨_, rfl⟩
  have hDr : -9223372036854775808 ≤ D ∧ D ≤ 9999 := by omega
  have hQr := tdiv_range D hDr.1 hDr.2
  rw [hQ] at hQr
  have u1 := wrap_in (n := D) (by omega) (by omega)
  have u2 := wrap_in (n := Q) (by omega) (by omega)
  have u3 := wrap_in (n := Q * 100) (by omega) (by omega)
  have v1 : wrap64 D = D := IntWalk.wrap64_in D ⟨by omega, by omega⟩
  have v2 : wrap64 Q = Q := IntWalk.wrap64_in Q ⟨by omega, by omega⟩
  have v3 : wrap64 (Q * 100) = Q * 100 := IntWalk.wrap64_in (Q * 100) ⟨by omega, by omega⟩
  have b1 : Below w.heap.size w (w.alloc (.cells #[.slice av nv cv, .int .i64 H, .int .i64 F] 30)) := (Below.refl _ _).alloc (Nat.le_refl _) _
  have B1 := hide b1
  clear b1
  rcases Int.lt_or_le 0 D with h0 | h0
  · have HF := hide (show keepF H F age = (if Q * 100 < F then F else Q * 100) by
      unfold keepF
      rw [hD]
      have e : Q = D / 100 := by rw [← hQ, Int.tdiv_eq_ediv_of_nonneg (by omega)]
      simp only [if_pos h0, ← e])
    have hd0 : decide (0 < D) = true := by simp; omega
    by_cases hq : Q * 100 < F
    · have hd1 : decide (Q * 100 < F) = true := by simp; omega
      rw [unhide HF, if_pos hq]
      clear HF
      go_enter Tryz.func76, Tryz.ntmps76
      go_wp2
      go_ret
      exact ⟨rfl, unhide B1⟩
    · have hd1 : decide (Q * 100 < F) = false := by simp; omega
      rw [unhide HF, if_neg hq]
      clear HF
      go_enter Tryz.func76, Tryz.ntmps76
      go_wp2
      go_ret
      exact ⟨rfl, unhide B1⟩
  · have HF := hide (show keepF H F age = (if 0 < F then F else 0) by
      unfold keepF
      rw [hD]
      simp only [if_neg (show ¬ 0 < D by omega)])
    have hd0 : decide (0 < D) = false := by simp; omega
    by_cases hq : 0 < F
    · have hd1 : decide (0 < F) = true := by simp; omega
      rw [unhide HF, if_pos hq]
      clear HF
      go_enter Tryz.func76, Tryz.ntmps76
      go_wp2
      go_ret
      exact ⟨rfl, unhide B1⟩
    · have hd1 : decide (0 < F) = false := by simp; omega
      rw [unhide HF, if_neg hq]
      clear HF
      go_enter Tryz.func76, Tryz.ntmps76
      go_wp2
      go_ret
      exact ⟨rfl, unhide B1⟩
set_option maxRecDepth 100000 in
set_option maxHeartbeats 8000000 in
theorem impl_keep {w : World} {v : Value} {zs : List Row.E} (age H F : Int) (hage : age ≤ 9223372036854775807) (h : Row.Is w v zs) (hg : ∀ x ∈ zs, Row.good x) (hlen : zs.length ≤ maxLen) :
    Calls Tryz.prog 35 #[.agg #[v, .int .i64 H, .int .i64 F], .int .i64 age] w fun e w' => ∃ r, e = .returned (.agg #[r, .int .i64 (keep age zs H F).2.1, .int .i64 (keep age zs H F).2.2]) ∧ Row.Own w.heap.size w'.heap.size w' r (keep age zs H F).1 ∧ Below w.heap.size w w' := by
  have H1 := hide (fun W (hb : Below w.heap.size w W) => Row.impl_table (H := H) (F := F) (h.below hb) hg hlen)
  have H3 := hide (fun W (hb : Below w.heap.size w W) (hok : Row.ok zs = true) => impl_copy H F (h.below hb) hok)
  have H4 := hide (fun W (hb : Below w.heap.size w W) (hok : Row.ok zs = true) (G : Int) (u : Value) (hu : Mat.Is W u []) => Row.impl_drop (ms := []) 0 G (h.below hb) hu hg hlen (fun x hx => by cases hx) (Nat.zero_le _))
  obtain ⟨av, nv, cv, ev⟩ : ∃ a n c, v = .slice a n c := by obtain ⟨cs, -, hL, -⟩ := h; obtain ⟨-, a, c, e, -⟩ := hL; exact ⟨a, _, c, e⟩
  clear h hg hlen
  subst ev
  obtain ⟨W, hW⟩ : ∃ W, W = (w.alloc (.cells #[.slice av nv cv, .int .i64 H, .int .i64 F] 30)).alloc (.cells #[.slice none 0 0, .int .i64 0, .int .i64 0] 30) := ⟨_, rfl⟩
  have bW : Below w.heap.size w W := by rw [hW]; exact ((Below.refl _ _).alloc (Nat.le_refl _) _).alloc (by simp) _
  have zW : W.heap.size = w.heap.size + 1 + 1 := by rw [hW]; simp
  have x0_0 : W.cell? ⟨w.heap.size + 1, 0, none⟩ = some (.slice none 0 0) := by rw [hW]; simp [go_sem]
  have g0_0 : W.frozen? ⟨w.heap.size + 1, 0, none⟩ = false := by rw [hW]; simp [go_sem]
  have a0_0 : W.cell? ⟨w.heap.size, 0, none⟩ = some (.slice av nv cv) := by rw [hW]; simp [go_sem]
  have x1_0 : W.cell? ⟨w.heap.size + 1, 1, none⟩ = some (.int .i64 0) := by rw [hW]; simp [go_sem]
  have g1_0 : W.frozen? ⟨w.heap.size + 1, 1, none⟩ = false := by rw [hW]; simp [go_sem]
  have a1_0 : W.cell? ⟨w.heap.size, 1, none⟩ = some (.int .i64 H) := by rw [hW]; simp [go_sem]
  have x2_0 : W.cell? ⟨w.heap.size + 1, 2, none⟩ = some (.int .i64 0) := by rw [hW]; simp [go_sem]
  have g2_0 : W.frozen? ⟨w.heap.size + 1, 2, none⟩ = false := by rw [hW]; simp [go_sem]
  have a2_0 : W.cell? ⟨w.heap.size, 2, none⟩ = some (.int .i64 F) := by rw [hW]; simp [go_sem]
  cases ho : Row.tableB zs H F
  · have HR := hide (show keep age zs H F = ([], 0, 0) by unfold keep; rw [ho]; rfl)
    rw [ho] at H1
    rw [unhide HR]
    clear ho H3 H4 HR
    go_enter Tryz.func35, Tryz.ntmps35
    go_wp2_with fail
    rw [← hW]
    clear hW
    refine (unhide H1 W bW).mono ?_
    rintro e w1 ⟨rfl, b1⟩
    have z1 := b1.size
    have c1 := bW.trans (b1.mono (by omega))
    have x0_1 := (b1.cell (p := ⟨w.heap.size + 1, 0, none⟩) (by show w.heap.size + 1 < _; omega)).trans x0_0
    have g0_1 := (b1.frozen (p := ⟨w.heap.size + 1, 0, none⟩) (by show w.heap.size + 1 < _; omega)).trans g0_0
    have a0_1 := (b1.cell (p := ⟨w.heap.size, 0, none⟩) (by show w.heap.size < _; omega)).trans a0_0
    have x1_1 := (b1.cell (p := ⟨w.heap.size + 1, 1, none⟩) (by show w.heap.size + 1 < _; omega)).trans x1_0
    have g1_1 := (b1.frozen (p := ⟨w.heap.size + 1, 1, none⟩) (by show w.heap.size + 1 < _; omega)).trans g1_0
    have a1_1 := (b1.cell (p := ⟨w.heap.size, 1, none⟩) (by show w.heap.size < _; omega)).trans a1_0
    have x2_1 := (b1.cell (p := ⟨w.heap.size + 1, 2, none⟩) (by show w.heap.size + 1 < _; omega)).trans x2_0
    have g2_1 := (b1.frozen (p := ⟨w.heap.size + 1, 2, none⟩) (by show w.heap.size + 1 < _; omega)).trans g2_0
    have a2_1 := (b1.cell (p := ⟨w.heap.size, 2, none⟩) (by show w.heap.size < _; omega)).trans a2_0
    clear x0_0 x1_0 x2_0 g0_0 g1_0 g2_0 a0_0 a1_0 a2_0
    have on : OnlyAt (w.heap.size + 1) w1 (((w1.setCell ⟨w.heap.size + 1, 0, none⟩ (.slice none 0 0)).setCell ⟨w.heap.size + 1, 1, none⟩ (.int .i64 0)).setCell ⟨w.heap.size + 1, 2, none⟩ (.int .i64 0)) := (((OnlyAt.refl _ _).setCell 0 _).setCell 1 _).setCell 2 _
    have bn := c1.trans (on.below (show w.heap.size ≤ w.heap.size + 1 by omega))
    have On := hide (Row.own_nil w.heap.size (((w1.setCell ⟨w.heap.size + 1, 0, none⟩ (.slice none 0 0)).setCell ⟨w.heap.size + 1, 1, none⟩ (.int .i64 0)).setCell ⟨w.heap.size + 1, 2, none⟩ (.int .i64 0)))
    go_wp2_with fail
    refine bodyPost_ret (v := .agg #[.slice none 0 0, .int .i64 0, .int .i64 0]) (by simp [results, Tryz.results35, go_sem, x0_1, x1_1, x2_1]) rfl ⟨.slice none 0 0, rfl, unhide On, bn⟩
  have hrk := table_ok ho
  have hHF := table_ends ho
  rw [ho] at H1
  by_cases hneg : age < 0
  · have HR := hide (show keep age zs H F = (zs, H, F) by unfold keep; rw [ho, if_pos hneg]; rfl)
    rw [unhide HR]
    have H3' := hide (fun W hb => unhide H3 W hb hrk)
    clear ho hrk hHF H3 H4 HR
    go_enter Tryz.func35, Tryz.ntmps35
    go_wp2_with fail
    rw [← hW]
    clear hW
    refine (unhide H1 W bW).mono ?_
    rintro e w1 ⟨rfl, b1⟩
    have z1 := b1.size
    have c1 := bW.trans (b1.mono (by omega))
    have x0_1 := (b1.cell (p := ⟨w.heap.size + 1, 0, none⟩) (by show w.heap.size + 1 < _; omega)).trans x0_0
    have g0_1 := (b1.frozen (p := ⟨w.heap.size + 1, 0, none⟩) (by show w.heap.size + 1 < _; omega)).trans g0_0
    have a0_1 := (b1.cell (p := ⟨w.heap.size, 0, none⟩) (by show w.heap.size < _; omega)).trans a0_0
    have x1_1 := (b1.cell (p := ⟨w.heap.size + 1, 1, none⟩) (by show w.heap.size + 1 < _; omega)).trans x1_0
    have g1_1 := (b1.frozen (p := ⟨w.heap.size + 1, 1, none⟩) (by show w.heap.size + 1 < _; omega)).trans g1_0
    have a1_1 := (b1.cell (p := ⟨w.heap.size, 1, none⟩) (by show w.heap.size < _; omega)).trans a1_0
    have x2_1 := (b1.cell (p := ⟨w.heap.size + 1, 2, none⟩) (by show w.heap.size + 1 < _; omega)).trans x2_0
    have g2_1 := (b1.frozen (p := ⟨w.heap.size + 1, 2, none⟩) (by show w.heap.size + 1 < _; omega)).trans g2_0
    have a2_1 := (b1.cell (p := ⟨w.heap.size, 2, none⟩) (by show w.heap.size < _; omega)).trans a2_0
    clear x0_0 x1_0 x2_0 g0_0 g1_0 g2_0 a0_0 a1_0 a2_0
    go_wp2_with fail
    refine (unhide H3' w1 c1).mono ?_
    rintro e w3 ⟨r, rfl, o3, b3⟩
    obtain ⟨ra, rl, rq, rfl⟩ := Row.Own.form o3
    have z3 := b3.size
    have x0_3 := (b3.cell (p := ⟨w.heap.size + 1, 0, none⟩) (by show w.heap.size + 1 < _; omega)).trans x0_1
    have g0_3 := (b3.frozen (p := ⟨w.heap.size + 1, 0, none⟩) (by show w.heap.size + 1 < _; omega)).trans g0_1
    have a0_3 := (b3.cell (p := ⟨w.heap.size, 0, none⟩) (by show w.heap.size < _; omega)).trans a0_1
    have x1_3 := (b3.cell (p := ⟨w.heap.size + 1, 1, none⟩) (by show w.heap.size + 1 < _; omega)).trans x1_1
    have g1_3 := (b3.frozen (p := ⟨w.heap.size + 1, 1, none⟩) (by show w.heap.size + 1 < _; omega)).trans g1_1
    have a1_3 := (b3.cell (p := ⟨w.heap.size, 1, none⟩) (by show w.heap.size < _; omega)).trans a1_1
    have x2_3 := (b3.cell (p := ⟨w.heap.size + 1, 2, none⟩) (by show w.heap.size + 1 < _; omega)).trans x2_1
    have g2_3 := (b3.frozen (p := ⟨w.heap.size + 1, 2, none⟩) (by show w.heap.size + 1 < _; omega)).trans g2_1
    have a2_3 := (b3.cell (p := ⟨w.heap.size, 2, none⟩) (by show w.heap.size < _; omega)).trans a2_1
    clear x0_1 x1_1 x2_1 g0_1 g1_1 g2_1 a0_1 a1_1 a2_1
    have on : OnlyAt (w.heap.size + 1) w3 (((w3.setCell ⟨w.heap.size + 1, 0, none⟩ (.slice ra rl rq)).setCell ⟨w.heap.size + 1, 1, none⟩ (.int .i64 H)).setCell ⟨w.heap.size + 1, 2, none⟩ (.int .i64 F)) := (((OnlyAt.refl _ _).setCell 0 _).setCell 1 _).setCell 2 _
    have bn := (c1.trans (b3.mono (by omega))).trans (on.below (show w.heap.size ≤ w.heap.size + 1 by omega))
    have On := hide (o3.zone (Zone.of_only on (Nat.le_refl _) (Nat.lt_succ_self _)) (.inr (by omega)))
    clear o3
    go_wp2_with fail
    refine bodyPost_ret (v := .agg #[.slice ra rl rq, .int .i64 H, .int .i64 F]) (by simp [results, Tryz.results35, go_sem, x0_3, x1_3, x2_3]) rfl ⟨.slice ra rl rq, rfl, (unhide On).wide (by omega) (by simp) (Nat.le_refl _), bn⟩
  have hgn : decide (age < 0) = false := by simp; omega
  obtain ⟨G, hG⟩ : ∃ G, G = keepF H F age := ⟨_, rfl⟩
  have HR := hide (show keep age zs H F = (Row.drop [] 0 G zs, H, G) by unfold keep; rw [ho, if_neg hneg, hG]; rfl)
  rw [unhide HR]
  have H4' := hide (fun W hb u hu => unhide H4 W hb hrk G u hu)
  clear ho hrk H3 H4 HR
  obtain ⟨D, hD⟩ : ∃ D, H - age = D := ⟨_, rfl⟩
  obtain ⟨Q, hQ⟩ : ∃ Q, D.tdiv 100 = Q := ⟨_, rfl⟩
  have hDr : -9223372036854775808 ≤ D ∧ D ≤ 9999 := by omega
  have hQr := tdiv_range D hDr.1 hDr.2
  rw [hQ] at hQr
  have u1 := wrap_in (n := D) (by omega) (by omega)
  have u2 := wrap_in (n := Q) (by omega) (by omega)
  have u3 := wrap_in (n := Q * 100) (by omega) (by omega)
  have v1 : wrap64 D = D := IntWalk.wrap64_in D ⟨by omega, by omega⟩
  have v2 : wrap64 Q = Q := IntWalk.wrap64_in Q ⟨by omega, by omega⟩
  have v3 : wrap64 (Q * 100) = Q * 100 := IntWalk.wrap64_in (Q * 100) ⟨by omega, by omega⟩
  have hG' := keep_max (age := age) hHF hD hQ
  rw [← hG] at hG'
  clear hG
  have hmax : max F (Q * 100) = G := by rw [hG', Int.max_def]; split <;> split <;> omega
  clear hG'
  go_enter Tryz.func35, Tryz.ntmps35
  go_wp2_with fail
  rw [← hW]
  clear hW
  refine (unhide H1 W bW).mono ?_
  rintro e w1 ⟨rfl, b1⟩
  have z1 := b1.size
  have c1 := bW.trans (b1.mono (by omega))
  have x0_1 := (b1.cell (p := ⟨w.heap.size + 1, 0, none⟩) (by show w.heap.size + 1 < _; omega)).trans x0_0
  have g0_1 := (b1.frozen (p := ⟨w.heap.size + 1, 0, none⟩) (by show w.heap.size + 1 < _; omega)).trans g0_0
  have a0_1 := (b1.cell (p := ⟨w.heap.size, 0, none⟩) (by show w.heap.size < _; omega)).trans a0_0
  have x1_1 := (b1.cell (p := ⟨w.heap.size + 1, 1, none⟩) (by show w.heap.size + 1 < _; omega)).trans x1_0
  have g1_1 := (b1.frozen (p := ⟨w.heap.size + 1, 1, none⟩) (by show w.heap.size + 1 < _; omega)).trans g1_0
  have a1_1 := (b1.cell (p := ⟨w.heap.size, 1, none⟩) (by show w.heap.size < _; omega)).trans a1_0
  have x2_1 := (b1.cell (p := ⟨w.heap.size + 1, 2, none⟩) (by show w.heap.size + 1 < _; omega)).trans x2_0
  have g2_1 := (b1.frozen (p := ⟨w.heap.size + 1, 2, none⟩) (by show w.heap.size + 1 < _; omega)).trans g2_0
  have a2_1 := (b1.cell (p := ⟨w.heap.size, 2, none⟩) (by show w.heap.size < _; omega)).trans a2_0
  clear x0_0 x1_0 x2_0 g0_0 g1_0 g2_0 a0_0 a1_0 a2_0
  have S6 : (fun W : World => W.cell? ⟨w.heap.size, 0, none⟩ = some (.slice av nv cv) ∧ W.cell? ⟨w.heap.size, 1, none⟩ = some (.int .i64 H) ∧ W.cell? ⟨w.heap.size, 2, none⟩ = some (.int .i64 F)) w1.drew := ⟨by simpa using a0_1, by simpa using a1_1, by simpa using a2_1⟩
  have c1d := c1.drew
  have H46 := hide (unhide H4' w1.drew c1d (.slice none 0 0) (Mat.is_of_own (World.ownsRow_nil _ 0 _ _)))
  have y0 : w1.drew.cell? ⟨w.heap.size + 1, 0, none⟩ = some (.slice none 0 0) := by simpa using x0_1
  have k0 : w1.drew.frozen? ⟨w.heap.size + 1, 0, none⟩ = false := by simpa using g0_1
  have y1 : w1.drew.cell? ⟨w.heap.size + 1, 1, none⟩ = some (.int .i64 0) := by simpa using x1_1
  have k1 : w1.drew.frozen? ⟨w.heap.size + 1, 1, none⟩ = false := by simpa using g1_1
  have y2 : w1.drew.cell? ⟨w.heap.size + 1, 2, none⟩ = some (.int .i64 0) := by simpa using x2_1
  have k2 : w1.drew.frozen? ⟨w.heap.size + 1, 2, none⟩ = false := by simpa using g2_1
  clear H4'
  go_wp2_with fail
  clear hmax hD hQ u1 u2 u3 v1 v2 v3 hQr hDr hage hHF hgn hneg
  go_region_held3 (fun W => W.cell? ⟨w.heap.size, 0, none⟩ = some (.slice av nv cv) ∧ W.cell? ⟨w.heap.size, 1, none⟩ = some (.int .i64 H) ∧ W.cell? ⟨w.heap.size, 2, none⟩ = some (.int .i64 F)) (first | exact S6 | exact S7 | exact S8) ((go_at_call 56; refine (unhide H46).mono ?_; rintro e w7 ⟨r, rfl, o7, b7⟩; obtain ⟨ra, rl, rq, rfl⟩ := Row.Own.form o7; have z7 := b7.size; simp only [World.size_drew] at z7; have x0 := (b7.cell (p := ⟨w.heap.size + 1, 0, none⟩) (by show w.heap.size + 1 < _; simp; omega)).trans y0; have g0 := (b7.frozen (p := ⟨w.heap.size + 1, 0, none⟩) (by show w.heap.size + 1 < _; simp; omega)).trans k0; have x1 := (b7.cell (p := ⟨w.heap.size + 1, 1, none⟩) (by show w.heap.size + 1 < _; simp; omega)).trans y1; have g1 := (b7.frozen (p := ⟨w.heap.size + 1, 1, none⟩) (by show w.heap.size + 1 < _; simp; omega)).trans k1; have x2 := (b7.cell (p := ⟨w.heap.size + 1, 2, none⟩) (by show w.heap.size + 1 < _; simp; omega)).trans y2; have g2 := (b7.frozen (p := ⟨w.heap.size + 1, 2, none⟩) (by show w.heap.size + 1 < _; simp; omega)).trans k2; have S7 : (fun W : World => W.cell? ⟨w.heap.size, 0, none⟩ = some (.slice av nv cv) ∧ W.cell? ⟨w.heap.size, 1, none⟩ = some (.int .i64 H) ∧ W.cell? ⟨w.heap.size, 2, none⟩ = some (.int .i64 F)) w7 := ⟨(b7.cell (p := ⟨w.heap.size, 0, none⟩) (by show w.heap.size < _; simp; omega)).trans S6.1, (b7.cell (p := ⟨w.heap.size, 1, none⟩) (by show w.heap.size < _; simp; omega)).trans S6.2.1, (b7.cell (p := ⟨w.heap.size, 2, none⟩) (by show w.heap.size < _; simp; omega)).trans S6.2.2⟩; have on8 : OnlyAt (w.heap.size + 1) w7 (((w7.setCell ⟨w.heap.size + 1, 0, none⟩ (.slice ra rl rq)).setCell ⟨w.heap.size + 1, 1, none⟩ (.int .i64 H)).setCell ⟨w.heap.size + 1, 2, none⟩ (.int .i64 G)) := (((OnlyAt.refl _ _).setCell 0 _).setCell 1 _).setCell 2 _; have S8 : (fun W : World => W.cell? ⟨w.heap.size, 0, none⟩ = some (.slice av nv cv) ∧ W.cell? ⟨w.heap.size, 1, none⟩ = some (.int .i64 H) ∧ W.cell? ⟨w.heap.size, 2, none⟩ = some (.int .i64 F)) (((w7.setCell ⟨w.heap.size + 1, 0, none⟩ (.slice ra rl rq)).setCell ⟨w.heap.size + 1, 1, none⟩ (.int .i64 H)).setCell ⟨w.heap.size + 1, 2, none⟩ (.int .i64 G)) := ⟨(World.cell?_of_block (a := ⟨w.heap.size, 0, none⟩) (on8.block w.heap.size (show w.heap.size ≠ w.heap.size + 1 by omega))).trans S7.1, (World.cell?_of_block (a := ⟨w.heap.size, 1, none⟩) (on8.block w.heap.size (show w.heap.size ≠ w.heap.size + 1 by omega))).trans S7.2.1, (World.cell?_of_block (a := ⟨w.heap.size, 2, none⟩) (on8.block w.heap.size (show w.heap.size ≠ w.heap.size + 1 by omega))).trans S7.2.2⟩))
  have cc := c1d.trans (b7.mono (by simp; omega))
  have bn := cc.trans (on8.below (show w.heap.size ≤ w.heap.size + 1 by omega))
  have On := hide (o7.zone (Zone.of_only on8 (Nat.le_refl _) (Nat.lt_succ_self _)) (.inr (by simp; omega)))
  clear o7
  go_wp2_with fail
  refine bodyPost_ret (v := .agg #[.slice ra rl rq, .int .i64 H, .int .i64 G]) (by simp [results, Tryz.results35, go_sem, x0, x1, x2]) rfl ⟨.slice ra rl rq, rfl, (unhide On).wide (by simp; omega) (by simp) (Nat.le_refl _), bn⟩
end Go.Proofs.YtlboekimnhgfdaaGreat.Tab
