/- My own texts of one claim, laid together by program: RowDrop, RowDrop2, FnRowsDropWalk, TopMath2. -/
import Derived.Test.YtdggffcibcggoaaGc39a0b3c65
import Derived.Test.YtdggffcibcggoaaG126b006543
/- RowsDrop of the program. -/
namespace Go.Proofs.Ytdggffcibcggoaa.Row
open Go.RowKit Rw
set_option linter.unusedVariables false
attribute [local go_sem ↓] Go.wp_at_zero Go.wp_at_succ
theorem drop_snoc (ms : List Mat.E) (f t : Int) (zs : List E) (k : Nat) (h : k < zs.length) : outL (dropG ms f t) (zs.take (k + 1)) = st (outL (dropG ms f t) (zs.take k)) (at' zs k).1 (dropG ms f t (at' zs k)) := by
  rw [outL_snoc _ zs k h]
  unfold st
  split
  · rw [List.append_nil]
  · rfl
set_option maxRecDepth 100000 in
set_option maxHeartbeats 8000000 in
theorem impl_drop {w : World} {v u : Value} {zs : List E} {ms : List Mat.E} (f t : Int) (h : Is w v zs) (hm : Mat.Is w u ms) (hg : ∀ x ∈ zs, good x) (hlen : zs.length ≤ maxLen) (hmg : ∀ x ∈ ms, Mat.good x) (hml : ms.length ≤ maxLen) :
    Calls Try.prog 43 #[v, u, .int .i64 f, .int .i64 t] w fun e w' => ∃ r, e = .returned r ∧ Own w.heap.size w'.heap.size w' r (drop ms f t zs) ∧ Below w.heap.size w w' := by
  have HO := hide (impl_ok h hg hlen)
  obtain ⟨au, nu, cu, eu⟩ : ∃ a n c, u = .slice a n c := by obtain ⟨-, a, c, e, -⟩ := hm; exact ⟨a, _, c, e⟩
  subst eu
  have HMk := hide (fun W (hb : Below w.heap.size w W) => Mat.impl_ok (hm.below hb) hmg hml)
  obtain ⟨av, nv, cv, ev⟩ : ∃ a n c, v = .slice a n c := by obtain ⟨cs, -, hL, -⟩ := h; obtain ⟨-, a, c, e, -⟩ := hL; exact ⟨a, _, c, e⟩
  cases hok : ok zs
  · have HR := hide (show drop ms f t zs = [] by unfold drop; rw [hok]; simp)
    rw [hok] at HO
    clear h hm hg hmg hok
    subst ev
    go_enter Try.func43, Try.ntmps43
    go_wp2_with fail
    refine (unhide HO).mono ?_
    rintro e w1 ⟨rfl, b1⟩
    go_wp2_with fail
    go_ret
    exact ⟨_, rfl, by rw [unhide HR]; have := own_nil w.heap.size w1; exact this, b1⟩
  cases hmo : Mat.ok ms
  · have HR := hide (show drop ms f t zs = [] by unfold drop; rw [hmo]; simp)
    rw [hok] at HO
    rw [hmo] at HMk
    clear h hm hg hmg hok hmo
    subst ev
    go_enter Try.func43, Try.ntmps43
    go_wp2_with fail
    refine (unhide HO).mono ?_
    rintro e w1 ⟨rfl, b1⟩
    go_wp2_with fail
    refine (unhide HMk w1 b1).mono ?_
    rintro e w2 ⟨rfl, b2⟩
    have b12 := b1.trans (b2.mono b1.size)
    go_wp2_with fail
    go_ret
    exact ⟨_, rfl, by rw [unhide HR]; have := own_nil w.heap.size w2; exact this, b12⟩
  clear ev av nv cv
  have HR := hide (show drop ms f t zs = outL (dropG ms f t) zs by unfold drop; rw [if_pos ⟨hok, hmo⟩])
  rw [hok] at HO
  rw [hmo] at HMk
  have HOK := hide hok
  have hn10 := ok_len hok
  have HLet := hide (fun W (hb : Below w.heap.size w W) (lv : Value) (ls : List Lab.E) (hl : Lab.Is W lv ls) (hlg : ∀ x ∈ ls, Lab.good x) => Mat.impl_let (hm.below hb) hl hmg hlg hml)
  obtain ⟨cs, hcs, hL, hE⟩ := h
  have HE := hide hE
  have HG := hide hg
  obtain ⟨-, a, cap, rfl, hc, hmx, -, hr⟩ := hL
  unfold maxLen at hmx
  obtain ⟨l, hl⟩ : ∃ l, l = zs.length := ⟨_, rfl⟩
  rw [← hl] at hc hr hcs hn10 HO ⊢
  have HN := hide hl
  have HC := hide hcs
  clear hl hE hcs hg hm hmg hok hlen hml hmo
  go_enter Try.func43, Try.ntmps43
  go_wp2_with fail
  refine (unhide HO).mono ?_
  rintro e w0 ⟨rfl, b0⟩
  go_wp2_with fail
  refine (unhide HMk w0 b0).mono ?_
  rintro e w1 ⟨rfl, b1'⟩
  have b1 := b0.trans (b1'.mono b0.size)
  clear b1' b0
  go_wp2_with fail
  refine (RSet.new_any w1).mono ?_
  rintro e w2 ⟨mb, rfl, hmb, hM2, b2⟩
  have z1 := b1.size
  have z2 := b2.size
  go_wp2_with fail
  obtain ⟨wa, hwa⟩ : ∃ wa, wa = w2.alloc (.cells #[.slice none 0 0, .map (some mb)] 74) := ⟨_, rfl⟩
  rw [← hwa]
  have ba : Below w2.heap.size w2 wa := by rw [hwa]; exact (Below.refl _ _).alloc (Nat.le_refl _) _
  have za : wa.heap.size = w2.heap.size + 1 := by rw [hwa]; simp
  have bwa : Below w.heap.size w wa := (b1.trans (b2.mono z1)).trans (ba.mono (by omega))
  have hmlt := hM2.lt
  have hB0 : RSet.Built w.heap.size w2.heap.size mb 0 wa (outL (dropG ms f t) (zs.take 0)) := ⟨fun _ => none, fun _ => ([], []), ⟨by omega, by omega, by omega, by omega, ⟨.slice none 0 0, by rw [hwa]; simp [go_sem], World.ownsRow_nil _ _ _ _, fun k hk => by cases hk⟩, by rw [hwa]; simp [go_sem], by rw [hwa]; simp [go_sem], hM2.below ba, fun k => by simp [outL], fun k c hc => (by cases hc), fun k k' c c' _ hc => (by cases hc)⟩, by simp [outL]⟩
  have HB0 := hide hB0
  have hmlt' : mb < wa.heap.size := by omega
  have hlows : w.heap.size ≤ w2.heap.size := by omega
  have hlowm : w.heap.size ≤ mb := by omega
  generalize hBB : w2.heap.size = B at *
  have hBl : B < wa.heap.size := by omega
  have HBm := hide (show B ≠ mb by omega)
  clear hwa hB0 ba hM2 hBB b1 b2 HO HMk
  go_loopw [23] (fun i wr => ∃ (k n : Nat), k ≤ l ∧ i = .int .i64 k ∧ n ≤ 2 * k ∧ Hid (RSet.Built w.heap.size B mb n wr (outL (dropG ms f t) (zs.take k))) ∧ RSet.Two B mb wa wr) (fun i _ => l - (intOf i).toNat)
  case atStart => exact ⟨0, 0, Nat.zero_le _, rfl, Nat.le_refl _, HB0, RSet.Two.refl _ _ _⟩
  case round =>
    obtain ⟨k, n, hk, rfl, hnk, HB, h2⟩ := hrel
    have hsz := h2.size
    have hbel : Below w.heap.size w wr := bwa.trans (h2.below hlows hlowm (by omega))
    by_cases hlt : k < l
    · obtain ⟨b, off, rfl, hbl, hcells⟩ := hr (by omega)
      have fa := flat_at cs k (by have := unhide HC; omega)
      have hc0 : wr.cell? ⟨b, off + k * 2, none⟩ = some (cat cs k).1 := (hbel.cell (p := ⟨b, _, none⟩) hbl).trans (hcells (k * 2) _ fa.1)
      have hc1 : wr.cell? ⟨b, off + k * 2 + 1, none⟩ = some (cat cs k).2 := (hbel.cell (p := ⟨b, _, none⟩) hbl).trans (hcells (k * 2 + 1) _ fa.2)
      have hkz : k < zs.length := by have := unhide HN; omega
      have hEk := unhide HE k hkz
      have hgk := unhide HG (at' zs k) (at_mem zs k hkz)
      have hst := step_is (ok_at (unhide HOK) hkz)
      have hsn := drop_snoc ms f t zs k hkz
      have hah := outL_ahead (g := dropG ms f t) (unhide HOK) hkz
      have hol := outL_len (dropG ms f t) (zs.take k)
      rw [List.length_take] at hol
      obtain ⟨⟨ls, xs⟩, hX⟩ : ∃ x, x = at' zs k := ⟨_, rfl⟩
      rw [← hX] at hEk hgk hst hsn hah
      simp only at hst hah hsn
      obtain ⟨c0, c1, hY⟩ : ∃ c0 c1, (c0, c1) = cat cs k := ⟨_, _, rfl⟩
      rw [← hY] at hc0 hc1 hEk
      have hE1 : Lab.Is w c0 ls := hEk.1
      have hE2 : Sam.Is w c1 xs := hEk.2
      obtain ⟨-, a0, q0, e0, -⟩ := hE1
      obtain ⟨-, a1, q1, e1, -⟩ := hE2
      have hE1 : Lab.Is w c0 ls := hEk.1
      have hE2 : Sam.Is w c1 xs := hEk.2
      clear fa hEk hX hY
      have hxne : xs ≠ [] := fun e => by rw [e] at hst; simp at hst
      have hk0 : (0 : Int) ≤ (k : Int) := Int.natCast_nonneg _
      have hk1 : (k : Int) < (l : Int) := by omega
      have hWf : ∀ o, Below wr.heap.size wr (wr.alloc o) := fun o => (Below.refl _ _).alloc (Nat.le_refl _) _
      have hob : wr.heap.size ≠ B ∧ wr.heap.size ≠ mb := ⟨by omega, by omega⟩
      have HL := hide (fun W (hb : Below w.heap.size w W) => unhide HLet W hb c0 ls (hE1.below hb) hgk.1.2)
      have HPut := hide (fun (W : World) (n' m sc : Nat) (sa : Option Addr) (a D J : List Sam.E) (hn' : n' ≤ 1000) (hb : Below w.heap.size w W) (hB : RSet.Built w.heap.size B mb n' W (st (outL (dropG ms f t) (zs.take k)) ls a)) (hs : Samp.Smp W (.slice sa m sc) D) (hm : D.length = m) (ha : SampMath.ok a = true) (hD : SampMath.ok D = true) (hJ : SampMath.join a D = (J, true)) (h1 : m ≤ 4194304) (h2 : a.length ≤ 4194304) => RSet.put_st hB (by omega) hn' hah (hE1.below hb) hgk.1.2 hst.1 hs hm ha hD hJ h1 h2 hb.size)
      have HB0 := hide (show RSet.Built w.heap.size B mb n wr (st (outL (dropG ms f t) (zs.take k)) ls []) by rw [show st (outL (dropG ms f t) (zs.take k)) ls [] = outL (dropG ms f t) (zs.take k) from if_pos rfl]; exact unhide HB)
      have hxok := hst.2.2.2
      have hx1000 := hst.2.2.1
      cases hlet : Mat.mlet ms ls
      · have hg0 : dropG ms f t (ls, xs) = xs := by unfold dropG; rw [hlet]; rfl
        rw [hg0] at hsn
        rw [hlet] at HL
        have HSn := hide hsn
        have HP2 := hide (fun (W : World) (hb : Below wr.heap.size wr W) => unhide HPut W n xs.length q1 a1 [] xs xs (by omega) (hbel.trans (hb.mono (by omega))) ((unhide HB0).below hb) (by rw [← e1]; exact smp_of_lies (hE2.below (hbel.trans (hb.mono (by omega)))) hxne) rfl rfl hxok (RSet.join_first hxok) (by omega) (by simp))
        clear hlet hgk hst hsn hah hg0 hE1 hE2 HPut HB HB0 hxok hxne
        subst e0 e1
        go_wp2_with fail
        obtain ⟨W, hW⟩ : ∃ W, W = wr.alloc (.cells #[.slice a0 ls.length q0, .slice a1 xs.length q1] 61) := ⟨_, rfl⟩
        rw [← hW]
        have bW : Below wr.heap.size wr W := by rw [hW]; exact hWf _
        have zW : W.heap.size = wr.heap.size + 1 := by rw [hW]; simp
        have y0 : W.cell? ⟨wr.heap.size, 0, none⟩ = some (.slice a0 ls.length q0) := by rw [hW]; simp [go_sem]
        have y1 : W.cell? ⟨wr.heap.size, 1, none⟩ = some (.slice a1 xs.length q1) := by rw [hW]; simp [go_sem]
        clear hW
        refine (unhide HL W (hbel.trans (bW.mono (by omega)))).mono ?_
        rintro e w3 ⟨rfl, b3⟩
        have z3 := b3.size
        have b4 := bW.trans (b3.mono bW.size)
        have y0' := (b3.cell (p := ⟨wr.heap.size, 0, none⟩) (by show wr.heap.size < _; omega)).trans y0
        have y1' := (b3.cell (p := ⟨wr.heap.size, 1, none⟩) (by show wr.heap.size < _; omega)).trans y1
        have HP3 := hide (unhide HP2 w3 b4)
        clear HL HP2 y0 y1
        go_wp2_with fail
        refine (unhide HP3).mono ?_
        rintro e w4 ⟨rfl, ⟨n', hn', hB4⟩, t4⟩
        have t5 := (h2.trans (RSet.Two.of_below b4)).trans t4
        have HB4 := hide (show RSet.Built w.heap.size B mb n' w4 (outL (dropG ms f t) (zs.take (k + 1))) by rw [unhide HSn]; exact hB4)
        clear HP3 hB4 t4 y0' y1'
        go_wp2_with fail
        go_roundw
        case rel => exact ⟨k + 1, n', by omega, by go_num, by omega, HB4, t5⟩
        case measure => simp [intOf]; omega
      · have hgG : dropG ms f t (ls, xs) = Samp.sides xs f t := by unfold dropG; rw [hlet]; rfl
        rw [hgG] at hsn
        rw [hlet] at HL
        have HSn := hide hsn
        have HCut := hide (fun (F T : Int) W (hb : Below w.heap.size w W) => show Calls Try.prog 91 #[c1, .int .i64 F, .int .i64 T] W fun e w' => ∃ v, e = .returned v ∧ w'.ownsRow W.heap.size 38 2 v (Samp.cutL xs F T).length (Samp.flat (Samp.cutL xs F T)) ∧ Below W.heap.size W w' by
          have := Samp.impl_cut F T (smp_of_lies (hE2.below hb) hxne) (by omega)
          rwa [show Samp.cut xs F T = Samp.cutL xs F T by unfold Samp.cut; rw [hxok]; rfl] at this)
        obtain ⟨D1, hD1⟩ : ∃ D, D = Samp.cutL xs 0 f := ⟨_, rfl⟩
        obtain ⟨D2, hD2⟩ : ∃ D, D = Samp.cutL xs t 10000 := ⟨_, rfl⟩
        obtain ⟨J, hJ⟩ : ∃ J, J = Samp.sides xs f t := ⟨_, rfl⟩
        have HJ := hide (show SampMath.join D1 D2 = (J, true) by rw [hD1, hD2, hJ]; exact Samp.join_cuts hxok f t)
        have HDk := hide (show (SampMath.ok D1 = true ∧ D1.length ≤ 1000) ∧ (SampMath.ok D2 = true ∧ D2.length ≤ 1000) by rw [hD1, hD2]; exact ⟨⟨Samp.ok_filter hxok _, Nat.le_trans (List.length_filter_le _ _) hx1000⟩, ⟨Samp.ok_filter hxok _, Nat.le_trans (List.length_filter_le _ _) hx1000⟩⟩)
        have HC1 := hide (fun W hb => unhide HCut 0 f W hb)
        have HC2 := hide (fun W hb => unhide HCut t 10000 W hb)
        rw [← hD1] at HC1
        rw [← hD2] at HC2
        rw [← hJ] at HSn
        clear hlet hgk hst hsn hah hgG hE1 hE2 HCut HB hD1 hD2 hJ hxok hxne hol
        obtain ⟨m1, hm1⟩ : ∃ m, m = D1.length := ⟨_, rfl⟩
        rw [← hm1] at HC1
        have HM1 := hide hm1
        obtain ⟨m2, hm2⟩ : ∃ m, m = D2.length := ⟨_, rfl⟩
        rw [← hm2] at HC2
        have HM2 := hide hm2
        clear hm1 hm2
        subst e0 e1
        go_wp2_with fail
        obtain ⟨W, hW⟩ : ∃ W, W = wr.alloc (.cells #[.slice a0 ls.length q0, .slice a1 xs.length q1] 61) := ⟨_, rfl⟩
        rw [← hW]
        have bW : Below wr.heap.size wr W := by rw [hW]; exact hWf _
        have zW : W.heap.size = wr.heap.size + 1 := by rw [hW]; simp
        have y0 : W.cell? ⟨wr.heap.size, 0, none⟩ = some (.slice a0 ls.length q0) := by rw [hW]; simp [go_sem]
        have y1 : W.cell? ⟨wr.heap.size, 1, none⟩ = some (.slice a1 xs.length q1) := by rw [hW]; simp [go_sem]
        clear hW
        refine (unhide HL W (hbel.trans (bW.mono (by omega)))).mono ?_
        rintro e w3 ⟨rfl, b3⟩
        have z3 := b3.size
        have b4 := bW.trans (b3.mono bW.size)
        have b5 : Below wr.heap.size wr w3.drew := b4.drew
        have S6 : (fun W : World => W.cell? ⟨wr.heap.size, 0, none⟩ = some (.slice a0 ls.length q0) ∧ W.cell? ⟨wr.heap.size, 1, none⟩ = some (.slice a1 xs.length q1)) w3.drew := ⟨by simpa using (b3.cell (p := ⟨wr.heap.size, 0, none⟩) (by show wr.heap.size < _; omega)).trans y0, by simpa using (b3.cell (p := ⟨wr.heap.size, 1, none⟩) (by show wr.heap.size < _; omega)).trans y1⟩
        have HC6 := hide (unhide HC1 w3.drew (hbel.trans (b5.mono (by omega))))
        clear HL HC1 y0 y1 b3 bW
        go_wp2_with fail
        go_region_held3 (fun W => W.cell? ⟨wr.heap.size, 0, none⟩ = some (.slice a0 ls.length q0) ∧ W.cell? ⟨wr.heap.size, 1, none⟩ = some (.slice a1 xs.length q1)) (first | exact S6 | exact S7 | exact S8) ((first | (go_at_call 91; refine (unhide HC6).mono ?_; rintro e w7 ⟨cv, rfl, oc, b7⟩; obtain ⟨ca, cq, rfl⟩ : ∃ a q, cv = .slice a m1 q := (by obtain ⟨-, a, q, e, -⟩ := lies_of_own oc; exact ⟨a, q, e⟩); have z7 := b7.size; simp only [World.size_drew] at z7; have S7 : (fun W : World => W.cell? ⟨wr.heap.size, 0, none⟩ = some (.slice a0 ls.length q0) ∧ W.cell? ⟨wr.heap.size, 1, none⟩ = some (.slice a1 xs.length q1)) w7 := ⟨(b7.cell (p := ⟨_, _, none⟩) (by show wr.heap.size < _; simp; omega)).trans S6.1, (b7.cell (p := ⟨_, _, none⟩) (by show wr.heap.size < _; simp; omega)).trans S6.2⟩) | (go_at_call 90; refine (unhide HPut w7 n m1 cq ca [] D1 D1 (by omega) (hbel.trans ((b5.trans (b7.mono b5.size)).mono (by omega))) ((unhide HB0).below (b5.trans (b7.mono b5.size))) (Samp.smp_of_own (by rw [← unhide HM1]; exact oc)) (unhide HM1).symm rfl (unhide HDk).1.1 (RSet.join_first (unhide HDk).1.1) (by have := (unhide HDk).1.2; have := unhide HM1; omega) (by simp)).mono ?_; rintro e w8 ⟨rfl, ⟨n8, hn8, hB8⟩, t8⟩; have S8 : (fun W : World => W.cell? ⟨wr.heap.size, 0, none⟩ = some (.slice a0 ls.length q0) ∧ W.cell? ⟨wr.heap.size, 1, none⟩ = some (.slice a1 xs.length q1)) w8 := ⟨(t8.cell (by omega) hob.1 hob.2).trans S7.1, (t8.cell (by omega) hob.1 hob.2).trans S7.2⟩)))
        have b8 := b5.trans (b7.mono b5.size)
        have t9 : RSet.Two B mb wr w8 := (RSet.Two.of_below b8).trans t8
        have z8 := t9.size
        have hb8 : Below w.heap.size w w8 := hbel.trans (t9.below hlows hlowm (by omega))
        have HB8 := hide hB8
        have T8 : (fun W : World => W.cell? ⟨wr.heap.size, 0, none⟩ = some (.slice a0 ls.length q0) ∧ W.cell? ⟨wr.heap.size, 1, none⟩ = some (.slice a1 xs.length q1)) w8.drew := ⟨by simpa using S8.1, by simpa using S8.2⟩
        have hb9 := hb8.drew
        have HC7 := hide (unhide HC2 w8.drew hb9)
        have z88 : wr.heap.size < w8.heap.size := by have := t8.size; omega
        clear S6 S7 S8 HC6 oc b7 t8 hB8 HB0 HC2 b5 b4
        go_wp2_with fail
        go_region_held3 (fun W => W.cell? ⟨wr.heap.size, 0, none⟩ = some (.slice a0 ls.length q0) ∧ W.cell? ⟨wr.heap.size, 1, none⟩ = some (.slice a1 xs.length q1)) (first | exact T8 | exact T9 | exact T10) ((first | (go_at_call 91; refine (unhide HC7).mono ?_; rintro e w9 ⟨cv, rfl, oc, b9⟩; obtain ⟨ca, cq, rfl⟩ : ∃ a q, cv = .slice a m2 q := (by obtain ⟨-, a, q, e, -⟩ := lies_of_own oc; exact ⟨a, q, e⟩); have z9 := b9.size; simp only [World.size_drew] at z9; have T9 : (fun W : World => W.cell? ⟨wr.heap.size, 0, none⟩ = some (.slice a0 ls.length q0) ∧ W.cell? ⟨wr.heap.size, 1, none⟩ = some (.slice a1 xs.length q1)) w9 := ⟨(b9.cell (p := ⟨_, _, none⟩) (by show wr.heap.size < _; simp; omega)).trans T8.1, (b9.cell (p := ⟨_, _, none⟩) (by show wr.heap.size < _; simp; omega)).trans T8.2⟩) | (go_at_call 90; refine (unhide HPut w9 n8 m2 cq ca D1 D2 J (by omega) (hb9.trans (b9.mono (by simp; omega))) (((unhide HB8).below (Below.refl _ _).drew).below b9) (Samp.smp_of_own (by rw [← unhide HM2]; exact oc)) (unhide HM2).symm (unhide HDk).1.1 (unhide HDk).2.1 (unhide HJ) (by have := (unhide HDk).2.2; have := unhide HM2; omega) (by have := (unhide HDk).1.2; omega)).mono ?_; rintro e w10 ⟨rfl, ⟨n10, hn10', hB10⟩, t10⟩; have T10 : (fun W : World => W.cell? ⟨wr.heap.size, 0, none⟩ = some (.slice a0 ls.length q0) ∧ W.cell? ⟨wr.heap.size, 1, none⟩ = some (.slice a1 xs.length q1)) w10 := ⟨(t10.cell (by omega) hob.1 hob.2).trans T9.1, (t10.cell (by omega) hob.1 hob.2).trans T9.2⟩)))
        have t11 := (((h2.trans t9).trans (RSet.Two.of_below (Below.refl _ _).drew)).trans (RSet.Two.of_below b9)).trans t10
        have HB10 := hide (show RSet.Built w.heap.size B mb n10 w10 (outL (dropG ms f t) (zs.take (k + 1))) by rw [unhide HSn]; exact hB10)
        clear T8 T9 T10 HC7 oc b9 t10 hB10 HB8 HPut HDk HJ t9
        go_wp2_with fail
        go_roundw
        case rel => exact ⟨k + 1, n10, by omega, by go_num, by omega, HB10, t11⟩
        case measure => simp [intOf]; omega
    · obtain rfl : k = l := by omega
      have hkz : k = zs.length := unhide HN
      have HRw := hide (RSet.built_rows (unhide HB) (outL_sorted (unhide HOK) k (by omega)) (by have := outL_len (dropG ms f t) (zs.take k); rw [List.length_take] at this; omega) (outL_ok (unhide HOK) (by omega)) (by omega))
      have HT := hide (show outL (dropG ms f t) (zs.take k) = drop ms f t zs by rw [unhide HR, List.take_of_length_le (by omega)])
      rw [unhide HT] at HRw
      clear hkz HB
      go_wp2_with fail
      refine (unhide HRw).mono ?_
      rintro e w9 ⟨r, rfl, ho, b9⟩
      have hb9 := hbel.trans (b9.mono (by omega))
      have HO9 := hide ho
      clear ho b9 HRw
      go_wp2_with fail
      go_ret
      exact ⟨r, rfl, unhide HO9, hb9⟩
end Go.Proofs.Ytdggffcibcggoaa.Row

/- RowsDrop of the model. -/
namespace Go.Proofs.Ytdggffcibcggoaa.Row
open Go.RowKit Rw
set_option linter.unusedVariables false
attribute [local go_sem ↓] Go.wp_at_zero Go.wp_at_succ
theorem drop_lets {ms : List Mat.E} {f t : Int} {ls : List Lab.E} {xs : List Sam.E} (hl : Mat.mlet ms ls = true) (hft : f < t) (h : SampMath.ok xs = true) : dropG ms f t (ls, xs) = Samp.cutL xs 0 f ++ Samp.cutL xs t 10000 := by
  unfold dropG
  rw [if_pos hl]
  exact Samp.sides_apart h hft
theorem drop_stays {ms : List Mat.E} {f t : Int} {ls : List Lab.E} {xs : List Sam.E} (hl : Mat.mlet ms ls = false ∨ t ≤ f) (h : SampMath.ok xs = true) : dropG ms f t (ls, xs) = xs := by
  unfold dropG
  rcases hl with hl | hl
  · rw [hl]; rfl
  · split
    · exact Samp.sides_all h hl
    · rfl
set_option maxRecDepth 100000 in
set_option maxHeartbeats 8000000 in
theorem l5drop {w : World} {v u : Value} {zs : List E} {ms : List Mat.E} (f t : Int) (h : Is w v zs) (hm : Mat.Is w u ms) (hg : ∀ x ∈ zs, good x) (hmg : ∀ x ∈ ms, Mat.good x) (hok : ok zs = true) (hmok : Mat.ok ms = true) :
    Calls Try.prog 101 #[v, u, .int .i64 f, .int .i64 t] w fun e w' => ∃ r, e = .returned r ∧ Own w.heap.size w'.heap.size w' r (outL (dropG ms f t) zs) ∧ Below w.heap.size w w' := by
  obtain ⟨i0, hi, hz0, hz1, hz2⟩ := info_parts Row.info_e
  obtain ⟨i1, hi1, hy0, hy1, hy2⟩ := info_parts Lab.info_e
  obtain ⟨i2, hi2, hx0, hx1, hx2⟩ := info_parts Sam.info_e
  obtain ⟨au, nu, cu, eu⟩ : ∃ a n c, u = .slice a n c := by obtain ⟨-, a, c, e, -⟩ := hm; exact ⟨a, _, c, e⟩
  subst eu
  have HOK := hide hok
  have hn10 := ok_len hok
  have HLet := hide (fun W (hb : Below w.heap.size w W) (lv : Value) (ls : List Lab.E) (hl : Lab.Is W lv ls) (hlg : ∀ x ∈ ls, Lab.good x) => Mat.l3Lets_any (hm.below hb) hl hmg hlg)
  obtain ⟨cs, hcs, hL, hE⟩ := h
  have HE := hide hE
  have HG := hide hg
  have HMO := hide hmok
  obtain ⟨-, a, cap, rfl, hc, hmx, -, hr⟩ := hL
  unfold maxLen at hmx
  obtain ⟨l, hl⟩ : ∃ l, l = zs.length := ⟨_, rfl⟩
  rw [← hl] at hc hr hcs hn10 ⊢
  have HN := hide hl
  have HC := hide hcs
  clear hl hE hcs hg hm hmg hok hmok
  have HI0 := hide (show Own w.heap.size (w.alloc (.cells #[] 61)).heap.size (w.alloc (.cells #[] 61)) (.slice (some ⟨w.heap.size, 0, none⟩) 0 0) (outL (dropG ms f t) (zs.take 0)) from ⟨[], rfl, Str.own_empty' (Nat.le_refl _) rfl, own_block_lt (Str.own_empty' (base := w.heap.size) (e := 61) (size := 2) (Nat.le_refl _) rfl), Nat.le_refl _, fun i j _ h => absurd h (Nat.not_lt_zero _), fun i j _ h => absurd h (Nat.not_lt_zero _), fun i h => absurd h (Nat.not_lt_zero _)⟩)
  have B0 : Below w.heap.size w (w.alloc (.cells #[] 61)) := (Below.refl _ _).alloc (Nat.le_refl _) _
  go_enter Try.func101, Try.ntmps101
  go_wp2_with fail
  go_loopw [9, 10] (fun pv i wr => ∃ (k n : Nat) (pa : Option Addr) (pc : Nat), k ≤ l ∧ i = .int .i64 k ∧ pv = .slice pa n pc ∧ Hid (Own w.heap.size wr.heap.size wr pv (outL (dropG ms f t) (zs.take k)) ∧ n = (outL (dropG ms f t) (zs.take k)).length ∧ n ≤ k) ∧ Below w.heap.size w wr) (fun _ i _ => l - (intOf i).toNat)
  case atStart => exact ⟨0, 0, _, 0, Nat.zero_le _, rfl, rfl, hide ⟨unhide HI0, rfl, Nat.le_refl _⟩, B0⟩
  case round =>
    clear HI0 B0
    obtain ⟨k, n, pa, pc, hk, rfl, rfl, HO, hbel⟩ := hrel
    have hsz := hbel.size
    by_cases hlt : k < l
    · obtain ⟨b, off, rfl, hbl, hcells⟩ := hr (by omega)
      have fa := flat_at cs k (by have := unhide HC; omega)
      have hc0 : wr.cell? ⟨b, off + k * 2, none⟩ = some (cat cs k).1 := (hbel.cell (p := ⟨b, _, none⟩) hbl).trans (hcells (k * 2) _ fa.1)
      have hc1 : wr.cell? ⟨b, off + k * 2 + 1, none⟩ = some (cat cs k).2 := (hbel.cell (p := ⟨b, _, none⟩) hbl).trans (hcells (k * 2 + 1) _ fa.2)
      have hkz : k < zs.length := by have := unhide HN; omega
      have hEk := unhide HE k hkz
      have hgk := unhide HG (at' zs k) (at_mem zs k hkz)
      have hst := step_is (ok_at (unhide HOK) hkz)
      have hsn := drop_snoc ms f t zs k hkz
      obtain ⟨⟨ls, xs⟩, hX⟩ : ∃ x, x = at' zs k := ⟨_, rfl⟩
      rw [← hX] at hEk hgk hst hsn
      simp only at hst hsn
      obtain ⟨c0, c1, hY⟩ : ∃ c0 c1, (c0, c1) = cat cs k := ⟨_, _, rfl⟩
      rw [← hY] at hc0 hc1 hEk
      have hE1 : Lab.Is w c0 ls := hEk.1
      have hE2 : Sam.Is w c1 xs := hEk.2
      obtain ⟨-, a0, q0, e0, -⟩ := hE1
      obtain ⟨-, a1, q1, e1, -⟩ := hE2
      have hE1 : Lab.Is w c0 ls := hEk.1
      have hE2 : Sam.Is w c1 xs := hEk.2
      clear fa hEk hX hY
      have hxne : xs ≠ [] := fun e => by rw [e] at hst; simp at hst
      have hk0 : (0 : Int) ≤ (k : Int) := Int.natCast_nonneg _
      have hk1 : (k : Int) < (l : Int) := by omega
      have HL := hide (fun W (hb : Below w.heap.size w W) => unhide HLet W hb c0 ls (hE1.below hb) hgk.1.2)
      rw [← mlet_is (unhide HMO) hst.1] at HL
      have hxok := hst.2.2.2
      have hx1000 := hst.2.2.1
      have hsmall := (Lab.ok_small hst.1).1
      have HE1 := hide (fun W (hb : Below w.heap.size w W) => hE1.below hb)
      have HE2 := hide (fun W (hb : Below w.heap.size w W) => hE2.below hb)
      have HCut := hide (fun (F T : Int) W (hb : Below w.heap.size w W) => Samp.l2cut F T (smp_of_lies (hE2.below hb) hxne) (by omega))
      obtain ⟨ll, hll⟩ : ∃ ll, ll = ls.length := ⟨_, rfl⟩
      rw [← hll] at e0 hsmall
      have HLL := hide hll
      have HXok := hide hxok
      clear hE1 hE2 hgk hst hxne hll hxok
      have hst2 : (∃ p : Bool, Mat.mlet ms ls = p) := ⟨_, rfl⟩
      obtain ⟨p, hp⟩ := hst2
      rw [hp] at HL
      subst e0 e1
      go_wp2_with fail
      refine (unhide HL wr hbel).mono ?_
      rintro e w3 ⟨rfl, b0⟩
      have hbl := hbel.trans (b0.mono hsz)
      have z0' := b0.size
      clear HL
      by_cases hcase : p = true ∧ f < t
      · obtain ⟨hpt, hft⟩ := hcase
        subst hpt
        rw [drop_lets hp hft (unhide HXok)] at hsn
        have HC1 := hide (unhide HCut 0 f w3 hbl)
        obtain ⟨D1, hD1⟩ : ∃ D, D = Samp.cutL xs 0 f := ⟨_, rfl⟩
        obtain ⟨D2, hD2⟩ : ∃ D, D = Samp.cutL xs t 10000 := ⟨_, rfl⟩
        have HC2 := hide (fun W hb => unhide HCut t 10000 W hb)
        rw [← hD1] at HC1 hsn
        rw [← hD2] at HC2 hsn
        have hd1 : D1.length ≤ 1000 := by rw [hD1]; exact Nat.le_trans (List.length_filter_le _ _) hx1000
        have hd2 : D2.length ≤ 1000 := by rw [hD2]; exact Nat.le_trans (List.length_filter_le _ _) hx1000
        simp only [RSet.flat_eq] at HC1 HC2
        clear hD1 hD2 HCut hp
        have HSn0 := hide hsn
        clear hsn
        obtain ⟨m1, hm1⟩ : ∃ m, m = D1.length := ⟨_, rfl⟩
        obtain ⟨m2, hm2⟩ : ∃ m, m = D2.length := ⟨_, rfl⟩
        rw [← hm1] at HC1 hd1
        rw [← hm2] at HC2 hd2
        have HM1 := hide hm1
        have HM2 := hide hm2
        clear hm1 hm2
        go_wp2_with fail
        refine (unhide HC1).mono ?_
        rintro e w4 ⟨x1, rfl, o1, b4⟩
        obtain ⟨xa1, xq1, rfl⟩ : ∃ a q, x1 = .slice a m1 q := by obtain ⟨-, a, q, e, -⟩ := lies_of_own o1; exact ⟨a, q, e⟩
        have hb4 := hbl.trans (b4.mono (by omega))
        have HC2' := hide (unhide HC2 w4 hb4)
        have z4 := b4.size
        clear HC1 HC2
        go_wp2_with fail
        refine (unhide HC2').mono ?_
        rintro e w5 ⟨x2, rfl, o2, b5⟩
        obtain ⟨xa2, xq2, rfl⟩ : ∃ a q, x2 = .slice a m2 q := by obtain ⟨-, a, q, e, -⟩ := lies_of_own o2; exact ⟨a, q, e⟩
        have z5 := b5.size
        have o1' := own_below o1 b5
        have l2 : Lies w5 (.slice xa2 m2 xq2) m2 2 (Sam.flat D2) := lies_of_own o2
        clear HC2'
        obtain ⟨D, hD⟩ : ∃ D, D = D1 ++ D2 := ⟨_, rfl⟩
        obtain ⟨m, hm⟩ : ∃ m, m = m1 + m2 := ⟨_, rfl⟩
        have hm2000 : m ≤ 2000 := by omega
        have HMM := hide hm
        have HM := hide (show m = D.length by rw [hm, hD, List.length_append, unhide HM1, unhide HM2])
        have HSn := hide (show outL (dropG ms f t) (zs.take (k + 1)) = st (outL (dropG ms f t) (zs.take k)) ls D by rw [hD]; exact unhide HSn0)
        have HXW := hide (fun (w6 : World) (xa : Option Addr) (xq : Nat) (ox : w6.ownsRow w3.heap.size 38 2 (.slice xa m xq) (m1 + m2) (Sam.flat D1 ++ Sam.flat D2)) => show Sam.Is w6 (.slice xa m xq) D by
          have := lies_of_own ox
          show Lies w6 _ D.length 2 (Sam.flat D)
          rw [← unhide HM, hD]
          unfold Sam.flat at this ⊢
          rw [flatOf_append, unhide HMM]
          rw [unhide HMM] at this
          exact this)
        clear HSn0 hD hm HM1 HM2
        by_cases h0 : m = 0
        · have hDn : D = [] := List.eq_nil_of_length_eq_zero ((unhide HM).symm.trans h0)
          have hz1 : decide (0 < m) = false := by simp; omega
          have hz2 : decide ((0 : Int) < (m : Int)) = false := by simp; omega
          have H0 := hide h0
          clear h0
          go_wp2_with (at_builtin; refine app_wp _ rfl (.tmp 38) (.tmp 41) _ rfl w3.heap.size 38 i2 _ 2 16 Try.underlying59 hi2 hx0 hx1 hx2 rfl (by omega) _ m1 _ rfl o1' _ m2 (Sam.flat D2) rfl l2 (Sam.flat_oneCell _) (by unfold maxLen; omega) (by omega) (by omega) ?_; intro vx w6 ox gx ax; have b6 : Below w3.heap.size w3 w6 := below_grown (b4.trans (b5.mono (by omega))) (by omega) gx (own_ge o1); obtain ⟨xa, xq, rfl⟩ : ∃ a q, vx = .slice a m q := (by obtain ⟨-, a, q, e, -⟩ := lies_of_own ox; exact ⟨a, q, (by rw [unhide HMM]; exact e)⟩); have hxi := unhide HXW w6 xa xq ox; have hbl := hbl.trans (b6.mono (by omega)); have b0 := b0.trans (b6.mono (by omega)); clear ox gx ax)
          have HO' := hide (show Own w.heap.size w6.heap.size w6 (.slice pa n pc) (outL (dropG ms f t) (zs.take (k + 1))) ∧ n = (outL (dropG ms f t) (zs.take (k + 1))).length ∧ n ≤ k + 1 by
            rw [unhide HSn, show st (outL (dropG ms f t) (zs.take k)) ls D = outL (dropG ms f t) (zs.take k) from if_pos hDn]
            have h1 := unhide HO
            have h2 := h1.1.below b0
            have z0 := b0.size
            obtain ⟨cs', g1, g2, g3, g4, g5⟩ := h2
            exact ⟨⟨cs', g1, g2, fun k hk => by have := g3 k hk; omega, Nat.le_refl _, g5.1, g5.2.1, fun i hi => ⟨(g5.2.2 i hi).1, fun k hk => by have := (g5.2.2 i hi).2.1 k hk; omega, fun k hk => by have := (g5.2.2 i hi).2.2 k hk; omega⟩⟩, h1.2.1, by omega⟩)
          clear HO hDn
          go_roundw
          case rel => exact ⟨k + 1, n, pa, pc, by omega, by go_num, rfl, HO', hbl⟩
          case measure => simp [intOf]; omega
        · have hgt : 0 < m := by omega
          have hgI : (0 : Int) < (m : Int) := by omega
          have hDne : D ≠ [] := fun e => h0 (by rw [unhide HM, e]; rfl)
          have HSn2 := hide (show outL (dropG ms f t) (zs.take (k + 1)) = outL (dropG ms f t) (zs.take k) ++ [(ls, D)] by rw [unhide HSn]; exact if_neg hDne)
          obtain ⟨hO1, hO2, hO3⟩ := unhide HO
          obtain ⟨ds, g1, g2, g3, g4, g5, g6, g7⟩ := hO1
          rw [← hO2] at g2
          have hmx1 : 1 ≤ maxLen := by unfold maxLen; omega
          have HO1 := hide (And.intro g1 (And.intro g5 (And.intro g6 g7)))
          have HO2 := hide hO2
          have hn10' : n ≤ 10 := by omega
          clear HO g1 g3 g4 g5 g6 g7 hO2 HSn hDne
          go_wp2_with (first | (at_builtin; refine app_wp _ rfl (.tmp 38) (.tmp 41) _ rfl w3.heap.size 38 i2 _ 2 16 Try.underlying59 hi2 hx0 hx1 hx2 rfl (by omega) _ m1 _ rfl o1' _ m2 (Sam.flat D2) rfl l2 (Sam.flat_oneCell _) (by unfold maxLen; omega) (by omega) (by omega) ?_; intro vx w6 ox gx ax; have b6 : Below w3.heap.size w3 w6 := below_grown (b4.trans (b5.mono (by omega))) (by omega) gx (own_ge o1); obtain ⟨xa, xq, rfl⟩ : ∃ a q, vx = .slice a m q := (by obtain ⟨-, a, q, e, -⟩ := lies_of_own ox; exact ⟨a, q, (by rw [unhide HMM]; exact e)⟩); have hxi := unhide HXW w6 xa xq ox; have hbl := hbl.trans (b6.mono (by omega)); have b0 := b0.trans (b6.mono (by omega)); clear ox gx ax; have hc0w : w6.cell? ⟨b, off + k * 2, none⟩ = some (.slice a0 ll q0) := (b0.cell (p := ⟨b, off + k * 2, none⟩) (by show b < _; omega)).trans hc0; have G2 := own_below g2 b0; have z0 := b0.size; have HLd := hide (unhide HE1 w6 hbl); have oe : (w6.alloc (.cells #[] 86)).ownsRow w6.heap.size 86 2 (.slice (some ⟨w6.heap.size, 0, none⟩) 0 0) 0 [] := own_empty (Nat.le_refl _); have be : Below w6.heap.size w6 (w6.alloc (.cells #[] 86)) := (Below.refl _ _).alloc (Nat.le_refl _) _; have le : Lies (w6.alloc (.cells #[] 86)) (.slice a0 ll q0) ll 2 (Lab.flat ls) := (by have := (unhide HLd).below be; rw [unhide HLL]; rw [unhide HLL] at this; exact this); have hb3 : b < w6.heap.size := (by omega); have hb3n : ¬ b = w6.heap.size := (by omega); have hc0e : (w6.alloc (.cells #[] 86)).cell? ⟨b, off + k * 2, none⟩ = some (.slice a0 ll q0) := (be.cell (p := ⟨b, _, none⟩) hb3).trans hc0w; have HXI := hide hxi; clear hxi) | (at_builtin; refine app_wp _ rfl (.tmp 47) (.tmp 52) _ rfl w6.heap.size 86 i1 _ 2 32 Try.underlying36 hi1 hy0 hy1 hy2 rfl (by omega) _ 0 [] rfl oe _ ll (Lab.flat ls) rfl le (Lab.flat_oneCell _) (by unfold maxLen; omega) (by omega) (by simp) ?_; intro vl wl ol gl al; rw [Nat.zero_add, List.nil_append] at ol; have bl : Below w6.heap.size w6 wl := below_grown be (by simp) gl (fun k hk => by cases hk; exact Nat.le_refl _); obtain ⟨la, lq, rfl⟩ : ∃ a q, vl = .slice a ll q := (by obtain ⟨-, a, q, e, -⟩ := lies_of_own ol; exact ⟨a, q, e⟩); have zl := bl.size; have G2l := own_below G2 bl; have os : (wl.alloc (.cells #[] 38)).ownsRow wl.heap.size 38 2 (.slice (some ⟨wl.heap.size, 0, none⟩) 0 0) 0 [] := own_empty (Nat.le_refl _); have bs : Below wl.heap.size wl (wl.alloc (.cells #[] 38)) := (Below.refl _ _).alloc (Nat.le_refl _) _; have lx : Lies (wl.alloc (.cells #[] 38)) (.slice xa m xq) m 2 (Sam.flat D) := (by have := ((unhide HXI).below bl).below bs; rw [unhide HM]; rw [unhide HM] at this; exact this); clear gl al le be oe) | (at_builtin; refine app_wp _ rfl (.tmp 54) (.tmp 55) _ rfl wl.heap.size 38 i2 _ 2 16 Try.underlying59 hi2 hx0 hx1 hx2 rfl (by omega) _ 0 [] rfl os _ m (Sam.flat D) rfl lx (Sam.flat_oneCell _) (by unfold maxLen; omega) (by omega) (by simp) ?_; intro vs ws oS gS aS; rw [Nat.zero_add, List.nil_append] at oS; have bS : Below wl.heap.size wl ws := below_grown bs (by simp) gS (fun k hk => by cases hk; exact Nat.le_refl _); obtain ⟨sa, sq, rfl⟩ : ∃ a q, vs = .slice a m q := (by obtain ⟨-, a, q, e, -⟩ := lies_of_own oS; exact ⟨a, q, e⟩); have zS := bS.size; have G2s := own_below G2l bS; clear gS aS lx bs os) | (at_builtin; refine app_wp _ rfl (.tmp 46) (.tmp 58) _ rfl w.heap.size 61 i0 _ 2 48 Try.underlying24 hi hz0 hz1 hz2 rfl (by omega) _ n _ rfl (World.ownsRow.alloc G2s _) _ 1 [.slice la ll lq, .slice sa m sq] rfl (lies_new (w := ws) (by simp) rfl hmx1) (by simp [Value.oneCell']) (by unfold maxLen; omega) (by omega) (by simp; omega) ?_; intro vn wn on gn an))
          have hbs := (hbl.trans (bl.mono (by omega))).trans (bS.mono (by omega))
          have R9 : Below w.heap.size w wn := below_grown (hbs.alloc (by omega) _) (by simp; omega) gn (own_ge G2)
          have HO' := hide (show Own w.heap.size wn.heap.size wn vn (outL (dropG ms f t) (zs.take (k + 1))) ∧ n + 1 = (outL (dropG ms f t) (zs.take (k + 1))).length ∧ n + 1 ≤ k + 1 by
            obtain ⟨g1, g5, g6, g7⟩ := unhide HO1
            rw [unhide HSn2]
            refine ⟨own_snoc (w := ws.alloc (.cells #[.slice la ll lq, .slice sa m sq] 61)) (pv := .slice pa n pc) (vl := .slice la ll lq) (xv := .slice sa m sq) g1 (by rw [← unhide HO2]; exact World.ownsRow.alloc G2s _) g5 g6 (fun i hi => ⟨World.ownsRow.alloc (own_below (own_below (own_below (g7 i hi).1.1 b0) bl) bS) _, World.ownsRow.alloc (own_below (own_below (own_below (g7 i hi).1.2 b0) bl) bS) _⟩) gn (by rw [← unhide HO2]; exact on) (by simp only; rw [← unhide HLL]; exact World.ownsRow.alloc (own_below (own_mono ol (by omega)) bS) _) (by simp only; rw [← unhide HM]; exact World.ownsRow.alloc (own_mono oS (by omega)) _) (fun i hi k hk hk' => by have h1 := own_block_lt (g7 i hi).1.1 k hk; have h2 := own_ge ol k hk'; omega) (fun i hi k hk hk' => by have h1 := own_block_lt (g7 i hi).1.2 k hk; have h2 := own_ge oS k hk'; omega), by rw [List.length_append, ← unhide HO2]; rfl, by omega⟩)
          obtain ⟨an', cn, hvn⟩ : ∃ a c, vn = .slice a (n + 1) c := by obtain ⟨-, a, c, e, -⟩ := lies_of_own on; exact ⟨a, c, e⟩
          have HV := hide hvn
          clear on gn an hvn ol oS G2 G2l G2s HO1 HO2 HSn2 bl hbs bS HXI
          go_wp2_with fail
          go_roundw
          case rel => exact ⟨k + 1, n + 1, an', cn, by omega, by go_num, unhide HV, HO', R9⟩
          case measure => simp [intOf]; omega
      · have hstay : Mat.mlet ms ls = false ∨ t ≤ f := by
          cases p
          · exact .inl hp
          · exact .inr (by have : ¬ f < t := fun h => hcase ⟨rfl, h⟩; omega)
        rw [drop_stays hstay (unhide HXok)] at hsn
        have HSn0 := hide hsn
        have hxi0 := unhide HE2 w3 hbl
        obtain ⟨D, hD⟩ : ∃ D, D = xs := ⟨_, rfl⟩
        rw [← hD] at hxi0 HSn0 hx1000 ⊢
        obtain ⟨m, hm⟩ : ∃ m, m = D.length := ⟨_, rfl⟩
        have HM := hide hm
        rw [← hm] at hxi0 hx1000 ⊢
        have hm2000 : m ≤ 2000 := by omega
        obtain ⟨xa, hxa⟩ : ∃ xa, xa = a1 := ⟨_, rfl⟩
        obtain ⟨xq, hxq⟩ : ∃ xq, xq = q1 := ⟨_, rfl⟩
        subst hxa hxq
        have hxi : Sam.Is w3 (.slice xa m xq) D := by show Lies w3 (.slice xa m xq) D.length 2 (Sam.flat D); rw [← unhide HM]; exact hxi0
        have HSn := HSn0
        clear HSn0 hxi0 hsn hstay HCut hm
        rcases (show p = false ∨ (p = true ∧ t ≤ f) by cases p; exact .inl rfl; exact .inr ⟨rfl, by have : ¬ f < t := fun h => hcase ⟨rfl, h⟩; omega⟩) with hpf | ⟨hpf, htf⟩
        · subst hpf
          clear hcase hp hD
          by_cases h0 : m = 0
          · have hDn : D = [] := List.eq_nil_of_length_eq_zero ((unhide HM).symm.trans h0)
            have hz1 : decide (0 < m) = false := by simp; omega
            have hz2 : decide ((0 : Int) < (m : Int)) = false := by simp; omega
            have H0 := hide h0
            clear h0
            go_wp2_with fail
            have HO' := hide (show Own w.heap.size w3.heap.size w3 (.slice pa n pc) (outL (dropG ms f t) (zs.take (k + 1))) ∧ n = (outL (dropG ms f t) (zs.take (k + 1))).length ∧ n ≤ k + 1 by
              rw [unhide HSn, show st (outL (dropG ms f t) (zs.take k)) ls D = outL (dropG ms f t) (zs.take k) from if_pos hDn]
              have h1 := unhide HO
              have h2 := h1.1.below b0
              have z0 := b0.size
              obtain ⟨cs', g1, g2, g3, g4, g5⟩ := h2
              exact ⟨⟨cs', g1, g2, fun k hk => by have := g3 k hk; omega, Nat.le_refl _, g5.1, g5.2.1, fun i hi => ⟨(g5.2.2 i hi).1, fun k hk => by have := (g5.2.2 i hi).2.1 k hk; omega, fun k hk => by have := (g5.2.2 i hi).2.2 k hk; omega⟩⟩, h1.2.1, by omega⟩)
            clear HO hDn
            go_roundw
            case rel => exact ⟨k + 1, n, pa, pc, by omega, by go_num, rfl, HO', hbl⟩
            case measure => simp [intOf]; omega
          · have hgt : 0 < m := by omega
            have hgI : (0 : Int) < (m : Int) := by omega
            have hDne : D ≠ [] := fun e => h0 (by rw [unhide HM, e]; rfl)
            have HSn2 := hide (show outL (dropG ms f t) (zs.take (k + 1)) = outL (dropG ms f t) (zs.take k) ++ [(ls, D)] by rw [unhide HSn]; exact if_neg hDne)
            obtain ⟨hO1, hO2, hO3⟩ := unhide HO
            obtain ⟨ds, g1, g2, g3, g4, g5, g6, g7⟩ := hO1
            rw [← hO2] at g2
            have hmx1 : 1 ≤ maxLen := by unfold maxLen; omega
            have HO1 := hide (And.intro g1 (And.intro g5 (And.intro g6 g7)))
            have HO2 := hide hO2
            have hn10' : n ≤ 10 := by omega
            clear HO g1 g3 g4 g5 g6 g7 hO2 HSn hDne
            have hc0w : w3.cell? ⟨b, off + k * 2, none⟩ = some (.slice a0 ll q0) := (b0.cell (p := ⟨b, off + k * 2, none⟩) (by show b < _; omega)).trans hc0
            have G2 := own_below g2 b0
            have z0 := b0.size
            have HLd := hide (unhide HE1 w3 hbl)
            have oe : (w3.alloc (.cells #[] 86)).ownsRow w3.heap.size 86 2 (.slice (some ⟨w3.heap.size, 0, none⟩) 0 0) 0 [] := own_empty (Nat.le_refl _)
            have be : Below w3.heap.size w3 (w3.alloc (.cells #[] 86)) := (Below.refl _ _).alloc (Nat.le_refl _) _
            have le : Lies (w3.alloc (.cells #[] 86)) (.slice a0 ll q0) ll 2 (Lab.flat ls) := (by have := (unhide HLd).below be; rw [unhide HLL]; rw [unhide HLL] at this; exact this)
            have hb3 : b < w3.heap.size := (by omega)
            have hb3n : ¬ b = w3.heap.size := (by omega)
            have hc0e : (w3.alloc (.cells #[] 86)).cell? ⟨b, off + k * 2, none⟩ = some (.slice a0 ll q0) := (be.cell (p := ⟨b, _, none⟩) hb3).trans hc0w
            have HXI := hide hxi
            clear hxi
            go_wp2_with (first | (at_builtin; refine app_wp _ rfl (.tmp 47) (.tmp 52) _ rfl w3.heap.size 86 i1 _ 2 32 Try.underlying36 hi1 hy0 hy1 hy2 rfl (by omega) _ 0 [] rfl oe _ ll (Lab.flat ls) rfl le (Lab.flat_oneCell _) (by unfold maxLen; omega) (by omega) (by simp) ?_; intro vl wl ol gl al; rw [Nat.zero_add, List.nil_append] at ol; have bl : Below w3.heap.size w3 wl := below_grown be (by simp) gl (fun k hk => by cases hk; exact Nat.le_refl _); obtain ⟨la, lq, rfl⟩ : ∃ a q, vl = .slice a ll q := (by obtain ⟨-, a, q, e, -⟩ := lies_of_own ol; exact ⟨a, q, e⟩); have zl := bl.size; have G2l := own_below G2 bl; have os : (wl.alloc (.cells #[] 38)).ownsRow wl.heap.size 38 2 (.slice (some ⟨wl.heap.size, 0, none⟩) 0 0) 0 [] := own_empty (Nat.le_refl _); have bs : Below wl.heap.size wl (wl.alloc (.cells #[] 38)) := (Below.refl _ _).alloc (Nat.le_refl _) _; have lx : Lies (wl.alloc (.cells #[] 38)) (.slice xa m xq) m 2 (Sam.flat D) := (by have := ((unhide HXI).below bl).below bs; rw [unhide HM]; rw [unhide HM] at this; exact this); clear gl al le be oe) | (at_builtin; refine app_wp _ rfl (.tmp 54) (.tmp 55) _ rfl wl.heap.size 38 i2 _ 2 16 Try.underlying59 hi2 hx0 hx1 hx2 rfl (by omega) _ 0 [] rfl os _ m (Sam.flat D) rfl lx (Sam.flat_oneCell _) (by unfold maxLen; omega) (by omega) (by simp) ?_; intro vs ws oS gS aS; rw [Nat.zero_add, List.nil_append] at oS; have bS : Below wl.heap.size wl ws := below_grown bs (by simp) gS (fun k hk => by cases hk; exact Nat.le_refl _); obtain ⟨sa, sq, rfl⟩ : ∃ a q, vs = .slice a m q := (by obtain ⟨-, a, q, e, -⟩ := lies_of_own oS; exact ⟨a, q, e⟩); have zS := bS.size; have G2s := own_below G2l bS; clear gS aS lx bs os) | (at_builtin; refine app_wp _ rfl (.tmp 46) (.tmp 58) _ rfl w.heap.size 61 i0 _ 2 48 Try.underlying24 hi hz0 hz1 hz2 rfl (by omega) _ n _ rfl (World.ownsRow.alloc G2s _) _ 1 [.slice la ll lq, .slice sa m sq] rfl (lies_new (w := ws) (by simp) rfl hmx1) (by simp [Value.oneCell']) (by unfold maxLen; omega) (by omega) (by simp; omega) ?_; intro vn wn on gn an))
            have hbs := (hbl.trans (bl.mono (by omega))).trans (bS.mono (by omega))
            have R9 : Below w.heap.size w wn := below_grown (hbs.alloc (by omega) _) (by simp; omega) gn (own_ge G2)
            have HO' := hide (show Own w.heap.size wn.heap.size wn vn (outL (dropG ms f t) (zs.take (k + 1))) ∧ n + 1 = (outL (dropG ms f t) (zs.take (k + 1))).length ∧ n + 1 ≤ k + 1 by
              obtain ⟨g1, g5, g6, g7⟩ := unhide HO1
              rw [unhide HSn2]
              refine ⟨own_snoc (w := ws.alloc (.cells #[.slice la ll lq, .slice sa m sq] 61)) (pv := .slice pa n pc) (vl := .slice la ll lq) (xv := .slice sa m sq) g1 (by rw [← unhide HO2]; exact World.ownsRow.alloc G2s _) g5 g6 (fun i hi => ⟨World.ownsRow.alloc (own_below (own_below (own_below (g7 i hi).1.1 b0) bl) bS) _, World.ownsRow.alloc (own_below (own_below (own_below (g7 i hi).1.2 b0) bl) bS) _⟩) gn (by rw [← unhide HO2]; exact on) (by simp only; rw [← unhide HLL]; exact World.ownsRow.alloc (own_below (own_mono ol (by omega)) bS) _) (by simp only; rw [← unhide HM]; exact World.ownsRow.alloc (own_mono oS (by omega)) _) (fun i hi k hk hk' => by have h1 := own_block_lt (g7 i hi).1.1 k hk; have h2 := own_ge ol k hk'; omega) (fun i hi k hk hk' => by have h1 := own_block_lt (g7 i hi).1.2 k hk; have h2 := own_ge oS k hk'; omega), by rw [List.length_append, ← unhide HO2]; rfl, by omega⟩)
            obtain ⟨an', cn, hvn⟩ : ∃ a c, vn = .slice a (n + 1) c := by obtain ⟨-, a, c, e, -⟩ := lies_of_own on; exact ⟨a, c, e⟩
            have HV := hide hvn
            clear on gn an hvn ol oS G2 G2l G2s HO1 HO2 HSn2 bl hbs bS HXI
            go_wp2_with fail
            go_roundw
            case rel => exact ⟨k + 1, n + 1, an', cn, by omega, by go_num, unhide HV, HO', R9⟩
            case measure => simp [intOf]; omega
        · subst hpf
          have hft : decide (f < t) = false := by simp; omega
          clear hcase hp hD
          by_cases h0 : m = 0
          · have hDn : D = [] := List.eq_nil_of_length_eq_zero ((unhide HM).symm.trans h0)
            have hz1 : decide (0 < m) = false := by simp; omega
            have hz2 : decide ((0 : Int) < (m : Int)) = false := by simp; omega
            have H0 := hide h0
            clear h0
            go_wp2_with fail
            have HO' := hide (show Own w.heap.size w3.heap.size w3 (.slice pa n pc) (outL (dropG ms f t) (zs.take (k + 1))) ∧ n = (outL (dropG ms f t) (zs.take (k + 1))).length ∧ n ≤ k + 1 by
              rw [unhide HSn, show st (outL (dropG ms f t) (zs.take k)) ls D = outL (dropG ms f t) (zs.take k) from if_pos hDn]
              have h1 := unhide HO
              have h2 := h1.1.below b0
              have z0 := b0.size
              obtain ⟨cs', g1, g2, g3, g4, g5⟩ := h2
              exact ⟨⟨cs', g1, g2, fun k hk => by have := g3 k hk; omega, Nat.le_refl _, g5.1, g5.2.1, fun i hi => ⟨(g5.2.2 i hi).1, fun k hk => by have := (g5.2.2 i hi).2.1 k hk; omega, fun k hk => by have := (g5.2.2 i hi).2.2 k hk; omega⟩⟩, h1.2.1, by omega⟩)
            clear HO hDn
            go_roundw
            case rel => exact ⟨k + 1, n, pa, pc, by omega, by go_num, rfl, HO', hbl⟩
            case measure => simp [intOf]; omega
          · have hgt : 0 < m := by omega
            have hgI : (0 : Int) < (m : Int) := by omega
            have hDne : D ≠ [] := fun e => h0 (by rw [unhide HM, e]; rfl)
            have HSn2 := hide (show outL (dropG ms f t) (zs.take (k + 1)) = outL (dropG ms f t) (zs.take k) ++ [(ls, D)] by rw [unhide HSn]; exact if_neg hDne)
            obtain ⟨hO1, hO2, hO3⟩ := unhide HO
            obtain ⟨ds, g1, g2, g3, g4, g5, g6, g7⟩ := hO1
            rw [← hO2] at g2
            have hmx1 : 1 ≤ maxLen := by unfold maxLen; omega
            have HO1 := hide (And.intro g1 (And.intro g5 (And.intro g6 g7)))
            have HO2 := hide hO2
            have hn10' : n ≤ 10 := by omega
            clear HO g1 g3 g4 g5 g6 g7 hO2 HSn hDne
            have hc0w : w3.cell? ⟨b, off + k * 2, none⟩ = some (.slice a0 ll q0) := (b0.cell (p := ⟨b, off + k * 2, none⟩) (by show b < _; omega)).trans hc0
            have G2 := own_below g2 b0
            have z0 := b0.size
            have HLd := hide (unhide HE1 w3 hbl)
            have oe : (w3.alloc (.cells #[] 86)).ownsRow w3.heap.size 86 2 (.slice (some ⟨w3.heap.size, 0, none⟩) 0 0) 0 [] := own_empty (Nat.le_refl _)
            have be : Below w3.heap.size w3 (w3.alloc (.cells #[] 86)) := (Below.refl _ _).alloc (Nat.le_refl _) _
            have le : Lies (w3.alloc (.cells #[] 86)) (.slice a0 ll q0) ll 2 (Lab.flat ls) := (by have := (unhide HLd).below be; rw [unhide HLL]; rw [unhide HLL] at this; exact this)
            have hb3 : b < w3.heap.size := (by omega)
            have hb3n : ¬ b = w3.heap.size := (by omega)
            have hc0e : (w3.alloc (.cells #[] 86)).cell? ⟨b, off + k * 2, none⟩ = some (.slice a0 ll q0) := (be.cell (p := ⟨b, _, none⟩) hb3).trans hc0w
            have HXI := hide hxi
            clear hxi
            go_wp2_with (first | (at_builtin; refine app_wp _ rfl (.tmp 47) (.tmp 52) _ rfl w3.heap.size 86 i1 _ 2 32 Try.underlying36 hi1 hy0 hy1 hy2 rfl (by omega) _ 0 [] rfl oe _ ll (Lab.flat ls) rfl le (Lab.flat_oneCell _) (by unfold maxLen; omega) (by omega) (by simp) ?_; intro vl wl ol gl al; rw [Nat.zero_add, List.nil_append] at ol; have bl : Below w3.heap.size w3 wl := below_grown be (by simp) gl (fun k hk => by cases hk; exact Nat.le_refl _); obtain ⟨la, lq, rfl⟩ : ∃ a q, vl = .slice a ll q := (by obtain ⟨-, a, q, e, -⟩ := lies_of_own ol; exact ⟨a, q, e⟩); have zl := bl.size; have G2l := own_below G2 bl; have os : (wl.alloc (.cells #[] 38)).ownsRow wl.heap.size 38 2 (.slice (some ⟨wl.heap.size, 0, none⟩) 0 0) 0 [] := own_empty (Nat.le_refl _); have bs : Below wl.heap.size wl (wl.alloc (.cells #[] 38)) := (Below.refl _ _).alloc (Nat.le_refl _) _; have lx : Lies (wl.alloc (.cells #[] 38)) (.slice xa m xq) m 2 (Sam.flat D) := (by have := ((unhide HXI).below bl).below bs; rw [unhide HM]; rw [unhide HM] at this; exact this); clear gl al le be oe) | (at_builtin; refine app_wp _ rfl (.tmp 54) (.tmp 55) _ rfl wl.heap.size 38 i2 _ 2 16 Try.underlying59 hi2 hx0 hx1 hx2 rfl (by omega) _ 0 [] rfl os _ m (Sam.flat D) rfl lx (Sam.flat_oneCell _) (by unfold maxLen; omega) (by omega) (by simp) ?_; intro vs ws oS gS aS; rw [Nat.zero_add, List.nil_append] at oS; have bS : Below wl.heap.size wl ws := below_grown bs (by simp) gS (fun k hk => by cases hk; exact Nat.le_refl _); obtain ⟨sa, sq, rfl⟩ : ∃ a q, vs = .slice a m q := (by obtain ⟨-, a, q, e, -⟩ := lies_of_own oS; exact ⟨a, q, e⟩); have zS := bS.size; have G2s := own_below G2l bS; clear gS aS lx bs os) | (at_builtin; refine app_wp _ rfl (.tmp 46) (.tmp 58) _ rfl w.heap.size 61 i0 _ 2 48 Try.underlying24 hi hz0 hz1 hz2 rfl (by omega) _ n _ rfl (World.ownsRow.alloc G2s _) _ 1 [.slice la ll lq, .slice sa m sq] rfl (lies_new (w := ws) (by simp) rfl hmx1) (by simp [Value.oneCell']) (by unfold maxLen; omega) (by omega) (by simp; omega) ?_; intro vn wn on gn an))
            have hbs := (hbl.trans (bl.mono (by omega))).trans (bS.mono (by omega))
            have R9 : Below w.heap.size w wn := below_grown (hbs.alloc (by omega) _) (by simp; omega) gn (own_ge G2)
            have HO' := hide (show Own w.heap.size wn.heap.size wn vn (outL (dropG ms f t) (zs.take (k + 1))) ∧ n + 1 = (outL (dropG ms f t) (zs.take (k + 1))).length ∧ n + 1 ≤ k + 1 by
              obtain ⟨g1, g5, g6, g7⟩ := unhide HO1
              rw [unhide HSn2]
              refine ⟨own_snoc (w := ws.alloc (.cells #[.slice la ll lq, .slice sa m sq] 61)) (pv := .slice pa n pc) (vl := .slice la ll lq) (xv := .slice sa m sq) g1 (by rw [← unhide HO2]; exact World.ownsRow.alloc G2s _) g5 g6 (fun i hi => ⟨World.ownsRow.alloc (own_below (own_below (own_below (g7 i hi).1.1 b0) bl) bS) _, World.ownsRow.alloc (own_below (own_below (own_below (g7 i hi).1.2 b0) bl) bS) _⟩) gn (by rw [← unhide HO2]; exact on) (by simp only; rw [← unhide HLL]; exact World.ownsRow.alloc (own_below (own_mono ol (by omega)) bS) _) (by simp only; rw [← unhide HM]; exact World.ownsRow.alloc (own_mono oS (by omega)) _) (fun i hi k hk hk' => by have h1 := own_block_lt (g7 i hi).1.1 k hk; have h2 := own_ge ol k hk'; omega) (fun i hi k hk hk' => by have h1 := own_block_lt (g7 i hi).1.2 k hk; have h2 := own_ge oS k hk'; omega), by rw [List.length_append, ← unhide HO2]; rfl, by omega⟩)
            obtain ⟨an', cn, hvn⟩ : ∃ a c, vn = .slice a (n + 1) c := by obtain ⟨-, a, c, e, -⟩ := lies_of_own on; exact ⟨a, c, e⟩
            have HV := hide hvn
            clear on gn an hvn ol oS G2 G2l G2s HO1 HO2 HSn2 bl hbs bS HXI
            go_wp2_with fail
            go_roundw
            case rel => exact ⟨k + 1, n + 1, an', cn, by omega, by go_num, unhide HV, HO', R9⟩
            case measure => simp [intOf]; omega
    · obtain rfl : k = l := by omega
      have HO' := hide (show Own w.heap.size wr.heap.size wr (.slice pa n pc) (outL (dropG ms f t) zs) by have := (unhide HO).1; rwa [List.take_of_length_le (by have := unhide HN; omega)] at this)
      clear HO
      go_wp2
      go_ret
      exact ⟨_, rfl, unhide HO', hbel⟩
set_option maxHeartbeats 2000000 in
theorem spec_drop {w : World} {v u : Value} {zs : List E} {ms : List Mat.E} (f t : Int) (h : Is w v zs) (hm : Mat.Is w u ms) (hg : ∀ x ∈ zs, good x) (hlen : zs.length ≤ maxLen) (hmg : ∀ x ∈ ms, Mat.good x) (hml : ms.length ≤ maxLen) :
    Calls Try.prog 44 #[v, u, .int .i64 f, .int .i64 t] w fun e w' => ∃ r, e = .returned r ∧ Own w.heap.size w'.heap.size w' r (drop ms f t zs) ∧ Below w.heap.size w w' := by
  have H1 := hide (spec_ok h hg hlen)
  have H2 := hide (fun W (hb : Below w.heap.size w W) => Mat.spec_ok (hm.below hb) hmg hml)
  obtain ⟨av, nv, cv, ev⟩ : ∃ a n c, v = .slice a n c := by obtain ⟨cs, -, hL, -⟩ := h; obtain ⟨-, a, c, e, -⟩ := hL; exact ⟨a, _, c, e⟩
  obtain ⟨au, nu, cu, eu⟩ : ∃ a n c, u = .slice a n c := by obtain ⟨-, a, c, e, -⟩ := hm; exact ⟨a, _, c, e⟩
  have empty : ∀ w1 : World, Below w.heap.size w w1 → Own w.heap.size (w1.alloc (.cells #[] 61)).heap.size (w1.alloc (.cells #[] 61)) (.slice (some ⟨w1.heap.size, 0, none⟩) 0 0) [] := fun w1 b1 => ⟨[], rfl, own_empty b1.size, own_block_lt (own_empty (base := w.heap.size) (e := 61) (size := 2) b1.size), Nat.le_refl _, fun i j _ h => absurd h (Nat.not_lt_zero _), fun i j _ h => absurd h (Nat.not_lt_zero _), fun i h => absurd h (Nat.not_lt_zero _)⟩
  cases ho : ok zs
  · have HR := hide (show drop ms f t zs = [] by unfold drop; rw [ho]; simp)
    rw [ho] at H1
    have HEm := hide empty
    clear h hm hg hmg ho empty
    subst ev eu
    go_enter Try.func44, Try.ntmps44
    go_wp2_with fail
    refine (unhide H1).mono ?_
    rintro e w1 ⟨rfl, b1⟩
    have he := hide (unhide HEm w1 b1)
    have b2 := b1.alloc b1.size (.cells #[] 61)
    clear HEm
    go_wp2_with fail
    go_ret
    exact ⟨_, rfl, by rw [unhide HR]; exact unhide he, b2⟩
  cases hmo : Mat.ok ms
  · have HR := hide (show drop ms f t zs = [] by unfold drop; rw [hmo]; simp)
    rw [ho] at H1
    rw [hmo] at H2
    have HEm := hide empty
    clear h hm hg hmg ho empty hmo
    subst ev eu
    go_enter Try.func44, Try.ntmps44
    go_wp2_with fail
    refine (unhide H1).mono ?_
    rintro e w1 ⟨rfl, b1⟩
    go_wp2_with fail
    refine (unhide H2 w1 b1).mono ?_
    rintro e w2 ⟨rfl, b2⟩
    have b12 := b1.trans (b2.mono b1.size)
    have he := hide (unhide HEm w2 b12)
    have b3 := b12.alloc b12.size (.cells #[] 61)
    clear HEm
    go_wp2_with fail
    go_ret
    exact ⟨_, rfl, by rw [unhide HR]; exact unhide he, b3⟩
  · have HR := hide (show drop ms f t zs = outL (dropG ms f t) zs by unfold drop; rw [if_pos ⟨ho, hmo⟩])
    have H3 := hide (fun W (hb : Below w.heap.size w W) => l5drop f t (h.below hb) (hm.below hb) hg hmg ho hmo)
    rw [ho] at H1
    rw [hmo] at H2
    clear h hm hg hmg ho empty hmo
    subst ev eu
    go_enter Try.func44, Try.ntmps44
    go_wp2_with fail
    refine (unhide H1).mono ?_
    rintro e w1 ⟨rfl, b1⟩
    go_wp2_with fail
    refine (unhide H2 w1 b1).mono ?_
    rintro e w2 ⟨rfl, b2⟩
    have b12 := b1.trans (b2.mono b1.size)
    go_wp2_with fail
    refine (unhide H3 w2 b12).mono ?_
    rintro e w3 ⟨r, rfl, o3, b3⟩
    have b13 := b12.trans (b3.mono b12.size)
    have O3 := hide (show Own w.heap.size w3.heap.size w3 r (drop ms f t zs) by rw [unhide HR]; obtain ⟨cs, g1, g2, g3, g4, g5, g6, g7⟩ := o3; exact ⟨cs, g1, own_mono g2 b12.size, g3, g4, g5, g6, fun i hi => ⟨⟨own_mono (g7 i hi).1.1 b12.size, own_mono (g7 i hi).1.2 b12.size⟩, (g7 i hi).2⟩⟩)
    clear o3 b3
    go_wp2_with fail
    go_ret
    exact ⟨r, rfl, unhide O3, b13⟩
end Go.Proofs.Ytdggffcibcggoaa.Row

/- FnRowsDrop returns true at every text of bytes. -/
namespace Go.Proofs.Ytdggffcibcggoaa.Draw
open Go.RowKit Rw
set_option linter.unusedVariables false
attribute [local go_sem ↓] Go.wp_at_zero Go.wp_at_succ
set_option maxRecDepth 100000 in
set_option maxHeartbeats 4000000 in
theorem draw_drop {a : Option Addr} {len cap : Nat} {zs : List Int} (w0 w : World) (h : IsRow .u8 w0 a len cap zs) (hB : Below w0.heap.size w0 w) :
    Calls Try.prog 42 #[.slice a len cap] w (Asked w) := by
  have HO := hide (draw_ask w0 w h hB)
  clear h hB
  go_enter Try.func42, Try.ntmps42
  go_wp2_with fail
  refine (unhide HO).mono ?_
  rintro e w1 ⟨L, ms, v, u, A, B, rfl, h1, h2, h3, h4, h5, h6⟩
  have HAll := hide (And.intro h1 (And.intro h2 (And.intro h3 (And.intro h4 (And.intro h5 h6)))))
  obtain ⟨va, vn, vq, rfl⟩ : ∃ a n q, v = .slice a n q := by obtain ⟨cs, -, hL, -⟩ := h2; obtain ⟨-, a, q, e, -⟩ := hL; exact ⟨a, _, q, e⟩
  obtain ⟨ua, un, uq, rfl⟩ : ∃ a n q, u = .slice a n q := by obtain ⟨-, a, q, e, -⟩ := h4; exact ⟨a, _, q, e⟩
  clear h1 h2 h3 h4 h5 h6 HO
  go_wp2_with fail
  refine bodyPost_ret (v := .tuple #[.slice va vn vq, .slice ua un uq, .int .i64 A, .int .i64 B]) (by simp [results, Try.results42, go_sem]) rfl ?_
  exact ⟨L, ms, _, _, A, B, rfl, (unhide HAll).1, (unhide HAll).2.1, (unhide HAll).2.2.1, (unhide HAll).2.2.2.1, (unhide HAll).2.2.2.2.1, (unhide HAll).2.2.2.2.2⟩
end Go.Proofs.Ytdggffcibcggoaa.Draw
namespace Go.Proofs.Ytdggffcibcggoaa
open Go.RowKit Draw Rw
set_option linter.unusedVariables false
theorem row_small {L : List Row.E} (h : Row.ok L = true) : L.length ≤ 1000 ∧ (∀ x ∈ L, x.2.length ≤ 1000) ∧ Row.cntS L ≤ 10000 := by
  have h10 := Row.ok_len h
  have hb : ∀ x ∈ L, x.2.length ≤ 1000 := fun x hx => Row.row_bounds h hx
  have := Row.cntS_le hb
  exact ⟨by omega, hb, by omega⟩
set_option maxRecDepth 100000 in
set_option maxHeartbeats 16000000 in
theorem fnRowsDrop.walk (a0 : Option Addr) (len0 cap0 : Nat) (z0 : List Int) (w : World) (w0 : IsRow .u8 w a0 len0 cap0 z0) :
    Calls Try.prog 9 #[.slice a0 len0 cap0] w fun e w' => e = .returned (.bool true) ∧ Below w.heap.size w w' := by
  have l0 := (row_bytes w0)
  have c0 : len0 ≤ 9223372036854775807 := by have := l0.1; have := l0.2.1; unfold maxLen at this; omega
  have H0 := hide (draw_drop w w w0 (Below.refl _ _))
  clear l0 w0
  by_cases hb0 : 1048576 < len0
  · go_enter Try.func9, Try.ntmps9
    go_wp2
    go_ret
    exact ⟨rfl, Below.refl _ _⟩
  go_enter Try.func9, Try.ntmps9
  go_wp2_with fail
  refine (unhide H0).mono ?_
  rintro e W1 ⟨L, ms, v, u, A, B, rfl, hRG, hv, hMG, hu, hAB, b1⟩
  have HG := hide hRG
  have HM := hide hMG
  have hgL : Hid (∀ x ∈ L, Row.good x) := fun x hx => (hRG.2 x hx).1
  have hlL : Hid (L.length ≤ maxLen) := by have := hRG.1; show L.length ≤ maxLen; unfold maxLen; omega
  have hgM : Hid (∀ x ∈ ms, Mat.good x) := hMG.2
  have hlM : Hid (ms.length ≤ maxLen) := by have := hMG.1; show ms.length ≤ maxLen; unfold maxLen; omega
  obtain ⟨va, vq, rfl⟩ := hv.form
  obtain ⟨ua, uq, rfl⟩ := hu.form
  have HV := hide hv
  have HU := hide hu
  have HI := hide (fun W (hb : Below W1.heap.size W1 W) => Row.impl_drop A B (hv.below hb) (hu.below hb) (unhide hgL) (unhide hlL) (unhide hgM) (unhide hlM))
  have HIa := hide (fun W (hb : Below W1.heap.size W1 W) => Row.impl_ask A B (hv.below hb) (hu.below hb) (unhide hgL) (unhide hlL) (unhide hgM) (unhide hlM))
  have HS := hide (fun W (hb : Below W1.heap.size W1 W) => Row.spec_drop A B (hv.below hb) (hu.below hb) (unhide hgL) (unhide hlL) (unhide hgM) (unhide hlM))
  have HOk := hide (fun W (hb : Below W1.heap.size W1 W) => Row.spec_ok (hv.below hb) (unhide hgL) (unhide hlL))
  have HMk := hide (fun W (hb : Below W1.heap.size W1 W) => Mat.spec_ok (hu.below hb) (unhide hgM) (unhide hlM))
  obtain ⟨vn, hvn⟩ : ∃ n, n = L.length := ⟨_, rfl⟩
  obtain ⟨un, hun⟩ : ∃ n, n = ms.length := ⟨_, rfl⟩
  have HVN := hide hvn
  have HUN := hide hun
  rw [← hvn] at HI HIa HS HOk ⊢
  rw [← hun] at HI HIa HS HMk ⊢
  clear hRG hMG hv hu H0 hvn hun
  go_wp2_with fail
  refine (unhide HI W1 (Below.refl _ _)).mono ?_
  rintro e W2 ⟨x, rfl, ox, b2⟩
  have d2 := b1.trans (b2.mono b1.size)
  have SX2 := hide ox.is
  obtain ⟨xa, xq, hx⟩ := ox.is.form
  obtain ⟨n, hn⟩ : ∃ n, n = (Row.drop ms A B L).length := ⟨_, rfl⟩
  rw [← hn] at hx
  have HNX := hide hn
  subst hx
  clear ox hn
  go_wp2_with fail
  refine (unhide HS W2 b2).mono ?_
  rintro e W3 ⟨y, rfl, oy, b3⟩
  have b13 := b2.trans (b3.mono b2.size)
  have d3 := b1.trans (b13.mono b1.size)
  have HAl := hide (Row.al_rows ((unhide SX2).below b3) oy.is)
  have SX3 := hide ((unhide SX2).below b3)
  obtain ⟨ya, yn, yq, rfl⟩ := oy.form
  clear oy b3 SX2 b2 d2
  go_wp2_with fail
  refine (unhide HAl).mono ?_
  rintro e W4 ⟨rfl, b4⟩
  have b14 := b13.trans (b4.mono b13.size)
  have d4 := b1.trans (b14.mono b1.size)
  have SX4 := hide ((unhide SX3).below b4)
  clear HAl SX3 b4 b13 d3
  go_wp2_with fail
  refine (unhide HOk W4 b14).mono ?_
  rintro e W5 ⟨rfl, b5⟩
  have b15 := b14.trans (b5.mono b14.size)
  have d5 := b1.trans (b15.mono b1.size)
  have SX5 := hide ((unhide SX4).below b5)
  clear SX4 b5 b14 d4 HOk
  cases hok : Row.ok L
  · clear hok
    go_wp2_with fail
    refine (unhide HS W5 b15).mono ?_
    rintro e W6 ⟨y, rfl, oy, b6⟩
    have d6 := d5.trans (b6.mono d5.size)
    have HAl := hide (Row.al_rows ((unhide SX5).below b6) oy.is)
    obtain ⟨ya, yn, yq, rfl⟩ := oy.form
    clear oy b6
    go_wp2_with fail
    refine (unhide HAl).mono ?_
    rintro e W7 ⟨rfl, b7⟩
    have d7 := d6.trans (b7.mono d6.size)
    go_wp2
    go_ret
    exact ⟨rfl, d7⟩
  have HK := hide hok
  clear hok
  go_wp2_with fail
  refine (unhide HMk W5 b15).mono ?_
  rintro e W6 ⟨rfl, b6⟩
  have b16 := b15.trans (b6.mono b15.size)
  have d6 := b1.trans (b16.mono b1.size)
  have SX6 := hide ((unhide SX5).below b6)
  clear SX5 b6 b15 d5 HMk
  cases hmo : Mat.ok ms
  · clear hmo
    go_wp2_with fail
    refine (unhide HS W6 b16).mono ?_
    rintro e W7 ⟨y, rfl, oy, b7⟩
    have d7 := d6.trans (b7.mono d6.size)
    have HAl := hide (Row.al_rows ((unhide SX6).below b7) oy.is)
    obtain ⟨ya, yn, yq, rfl⟩ := oy.form
    clear oy b7
    go_wp2_with fail
    refine (unhide HAl).mono ?_
    rintro e W8 ⟨rfl, b8⟩
    have d8 := d7.trans (b8.mono d7.size)
    go_wp2
    go_ret
    exact ⟨rfl, d8⟩
  have HMO := hide hmo
  clear hmo HS
  have HXok := hide (Row.drop_ok A B (unhide HK) (unhide HMO))
  have HYok := hide (Row.ask_ok (ms := ms) A B (unhide HK))
  have HJo := hide (Row.drop_join A B (unhide HK) (unhide HMO))
  have HCn := hide (Row.drop_cnt2 A B (unhide HK) (unhide HMO))
  have HXA := hide (Row.drop_asked A B (unhide HK) (unhide HMO))
  have HXX := hide (Row.drop_drop A B (unhide HK) (unhide HMO))
  obtain ⟨Y, hY⟩ : ∃ Y, Y = Row.ask ms A B L := ⟨_, rfl⟩
  rw [← hY] at HIa HYok HJo HCn
  clear hY
  generalize Row.drop ms A B L = X at SX6 HNX HXok HXA HXX HJo HCn
  have HX10 := hide (Row.ok_len (unhide HXok))
  have hn10 : n ≤ 10 := by rw [unhide HNX]; exact unhide HX10
  have HXg := hide (Row.fine_good (Row.fine_ok (unhide HXok)))
  have HYg := hide (Row.fine_good (Row.fine_ok (unhide HYok)))
  have hmlX : X.length ≤ maxLen := by have := unhide HX10; unfold maxLen; omega
  have hmlY : Y.length ≤ maxLen := by have := Row.ok_len (unhide HYok); unfold maxLen; omega
  have hz6 := d6.size
  go_wp2_with fail
  refine (unhide HIa W6 b16).mono ?_
  rintro e W7 ⟨y, rfl, oy, b7⟩
  have b17 := b16.trans (b7.mono b16.size)
  have SX7 := hide ((unhide SX6).below b7)
  have SY7 := hide oy.is
  have HJn := hide (Row.impl_join (unhide SX7) (unhide SY7) (unhide HXg) hmlX (unhide HYg) hmlY)
  rw [unhide HJo] at HJn
  obtain ⟨ya, yn, yq, rfl⟩ := oy.form
  clear oy b7 b16 SX6 HIa d6
  go_wp2_with fail
  refine (unhide HJn).mono ?_
  rintro e W8 ⟨r, rfl, orr, b8⟩
  have b18 := b17.trans (b8.mono b17.size)
  have SX8 := hide ((unhide SX7).below b8)
  have SY8 := hide ((unhide SY7).below b8)
  have HAl := hide (Row.al_rows orr.is ((unhide HV).below b18))
  rw [← unhide HVN] at HAl
  obtain ⟨ra, rn, rq, rfl⟩ := orr.form
  clear orr b8 b17 SX7 SY7 HJn
  go_wp2_with fail
  refine (unhide HAl).mono ?_
  rintro e W9 ⟨rfl, b9⟩
  have b19 := b18.trans (b9.mono b18.size)
  have SX9 := hide ((unhide SX8).below b9)
  have SY9 := hide ((unhide SY8).below b9)
  have sX := row_small (unhide HXok)
  have sY := row_small (unhide HYok)
  have sL := row_small (unhide HK)
  have HcX := hide (Row.al_count (unhide SX9) sX.1 sX.2.1)
  have HcY := hide (fun W (hb : Below W9.heap.size W9 W) => Row.al_count ((unhide SY9).below hb) sY.1 sY.2.1)
  have HcL := hide (fun W (hb : Below W1.heap.size W1 W) => Row.al_count ((unhide HV).below hb) sL.1 sL.2.1)
  rw [← unhide HVN] at HcL
  have hcn := unhide HCn
  obtain ⟨nX, hnX⟩ : ∃ k, k = Row.cntS X := ⟨_, rfl⟩
  obtain ⟨nY, hnY⟩ : ∃ k, k = Row.cntS Y := ⟨_, rfl⟩
  obtain ⟨nL, hnL⟩ : ∃ k, k = Row.cntS L := ⟨_, rfl⟩
  have bX := sX.2.2
  have bY := sY.2.2
  rw [← hnX] at HcX hcn bX
  rw [← hnY] at HcY hcn bY
  rw [← hnL] at HcL hcn
  have t1 : (((nX : Int) + (nY : Int)) == (nL : Int)) = true := by simp; omega
  have t2 : decide ((nX : Int) + (nY : Int) = (nL : Int)) = true := by simp; omega
  have t3 : decide (nX + nY = nL) = true := by simp; omega
  have HT := hide hcn
  clear b9 b18 SX8 SY8 HAl sX sY sL hnX hnY hnL hcn HCn
  go_wp2_with fail
  refine (unhide HcX).mono ?_
  rintro e W10 ⟨rfl, b10⟩
  have b110 := b19.trans (b10.mono b19.size)
  go_wp2_with fail
  refine (unhide HcY W10 b10).mono ?_
  rintro e W11 ⟨rfl, b11⟩
  have b111 := b110.trans (b11.mono b110.size)
  have SX11 := hide ((unhide SX9).below (b10.trans (b11.mono b10.size)))
  clear HcX HcY SX9 SY9 b10 b11 b19 b110
  go_wp2_with fail
  refine (unhide HcL W11 b111).mono ?_
  rintro e W12 ⟨rfl, b12⟩
  have b112 := b111.trans (b12.mono b111.size)
  have SX12 := hide ((unhide SX11).below b12)
  have HA2 := hide (Row.impl_ask A B (unhide SX12) ((unhide HU).below b112) (unhide HXg) hmlX (unhide hgM) (unhide hlM))
  rw [unhide HXA, ← unhide HUN] at HA2
  clear HcL b12 b111 SX11
  go_wp2_with fail
  refine (unhide HA2).mono ?_
  rintro e W13 ⟨r2, rfl, or2, b13'⟩
  have b113 := b112.trans (b13'.mono b112.size)
  have SX13 := hide ((unhide SX12).below b13')
  obtain ⟨r2a, r2q, hr2⟩ := or2.is.form
  simp only [List.length_nil] at hr2
  subst hr2
  have HD2 := hide (Row.impl_drop A B (unhide SX13) ((unhide HU).below b113) (unhide HXg) hmlX (unhide hgM) (unhide hlM))
  rw [unhide HXX, ← unhide HUN] at HD2
  clear or2 b13' b112 SX12 HA2
  go_wp2_with fail
  refine (unhide HD2).mono ?_
  rintro e W14 ⟨r3, rfl, or3, b14'⟩
  have b114 := b113.trans (b14'.mono b113.size)
  have HAl := hide (Row.al_rows or3.is ((unhide SX13).below b14'))
  obtain ⟨r3a, r3n, r3q, rfl⟩ := or3.form
  clear or3 b14' HD2
  go_wp2_with fail
  refine (unhide HAl).mono ?_
  rintro e W15 ⟨rfl, b15'⟩
  have d15 := b1.trans ((b114.trans (b15'.mono b114.size)).mono b1.size)
  go_wp2
  go_ret
  exact ⟨rfl, d15⟩
end Go.Proofs.Ytdggffcibcggoaa

/- The rows with the greatest last numbers: how many there are, that none left out has a greater one. No condition. -/
namespace Go.Proofs.Ytdggffcibcggoaa.Row
open Go.RowKit Rw
set_option linter.unusedVariables false
/-- rows put to some of them are what they were -/
theorem insAll_sub : ∀ {L T : List E}, T.Sublist L → Fine L → insAll L T = some L := by
  intro L T h
  induction h with
  | slnil => intro _; rfl
  | cons x h ih =>
    intro hL
    have up := (List.pairwise_cons.1 hL.up).1
    rw [insAll_ahead _ (fun y hy => up y (h.subset hy)), ih (fine_tail hL)]; rfl
  | cons_cons x h ih =>
    intro hL
    have up := (List.pairwise_cons.1 hL.up).1
    have hj : jn x x.2 = some x := by unfold jn; rw [SampMath.join_self (hL.sam x (List.mem_cons_self ..)).1]; rfl
    rw [insAll, ins_eq _ (Lab.ordL.self x.1), hj]
    simp only [Option.map_some, Option.bind_some]
    rw [insAll_ahead _ (fun y hy => up y (h.subset hy)), ih (fine_tail hL)]; rfl
theorem join_sub {L T : List E} (h : T.Sublist L) (hL : ok L = true) : join L T = (L, true) := join_yes hL (ok_sub hL h) (insAll_sub h (fine_ok hL)) hL
/-! ### ranks -/
theorem ahead_self (zs : List E) (i : Nat) : ahead zs i i = false := by unfold ahead; simp
theorem ahead_total (zs : List E) {i j : Nat} (h : i ≠ j) : ahead zs i j = true ∨ ahead zs j i = true := by
  unfold ahead
  simp only [Bool.or_eq_true, Bool.and_eq_true, decide_eq_true_eq]
  omega
theorem ahead_trans (zs : List E) {i j k : Nat} (h1 : ahead zs i j = true) (h2 : ahead zs j k = true) : ahead zs i k = true := by
  unfold ahead at *
  simp only [Bool.or_eq_true, Bool.and_eq_true, decide_eq_true_eq] at *
  omega
theorem ahead_last {zs : List E} {i j : Nat} (h : ahead zs i j = true) : lastV (at' zs j) ≤ lastV (at' zs i) := by
  unfold ahead at h
  simp only [Bool.or_eq_true, Bool.and_eq_true, decide_eq_true_eq] at h
  omega
theorem rank_mono (zs : List E) {i j : Nat} (h : ahead zs i j = true) : ∀ k, rankTo zs i k ≤ rankTo zs j k
  | 0 => Nat.le_refl _
  | k + 1 => by
    have ih := rank_mono zs h k
    rw [rankTo, rankTo]
    cases e : ahead zs k i
    · simp only [Bool.false_eq_true, if_false]; omega
    · rw [ahead_trans zs e h]; simp only [if_true]; omega
theorem rank_lt (zs : List E) {i j : Nat} (h : ahead zs i j = true) : ∀ k, i < k → rankTo zs i k < rankTo zs j k
  | 0, hk => by omega
  | k + 1, hk => by
    rw [rankTo, rankTo]
    by_cases e : i = k
    · subst e
      have := rank_mono zs h i
      rw [ahead_self, h]
      simp only [Bool.false_eq_true, if_false, if_true]; omega
    · have ih := rank_lt zs h k (by omega)
      cases e' : ahead zs k i
      · simp only [Bool.false_eq_true, if_false]; omega
      · rw [ahead_trans zs e' h]; simp only [if_true]; omega
theorem rank_small (zs : List E) {i : Nat} : ∀ k, i < k → rankTo zs i k < k
  | 0, h => by omega
  | k + 1, h => by
    rw [rankTo]
    by_cases e : i = k
    · subst e
      have := rankTo_le zs i i
      rw [ahead_self]
      simp only [Bool.false_eq_true, if_false]; omega
    · have := rank_small zs (i := i) k (by omega)
      split <;> omega
theorem rank_inj (zs : List E) {i j n : Nat} (hi : i < n) (hj : j < n) (h : rankTo zs i n = rankTo zs j n) : i = j := by
  by_cases e : i = j
  · exact e
  · rcases ahead_total zs e with h' | h'
    · have := rank_lt zs h' n hi; omega
    · have := rank_lt zs h' n hj; omega
/-! ### counting -/
theorem filter_ne_len : ∀ {l : List Nat} (m : Nat), l.Nodup → l.length ≤ (l.filter fun x => decide (x ≠ m)).length + 1
  | [], m, _ => by simp
  | x :: l, m, h => by
    obtain ⟨h1, h2⟩ := List.nodup_cons.1 h
    by_cases e : x = m
    · have : (l.filter fun y => decide (y ≠ m)) = l := List.filter_eq_self.2 (fun y hy => by simp; intro e'; subst e'; exact h1 (by rw [e]; exact hy))
      rw [List.filter_cons_of_neg (by simp [e]), this, List.length_cons]; omega
    · have := filter_ne_len m h2
      rw [List.filter_cons_of_pos (by simp [e]), List.length_cons, List.length_cons]; omega
theorem nodup_len : ∀ (m : Nat) {l : List Nat}, l.Nodup → (∀ x ∈ l, x < m) → l.length ≤ m
  | 0, l, _, h => by
    cases l with
    | nil => simp
    | cons x l => have := h x (List.mem_cons_self ..); omega
  | m + 1, l, hn, h => by
    have h1 := filter_ne_len m hn
    have h2 := nodup_len m (hn.filter _) (l := l.filter fun x => decide (x ≠ m)) (fun x hx => by
      have hx' := List.mem_filter.1 hx
      have := h x hx'.1
      have hne : x ≠ m := by simpa using hx'.2
      omega)
    omega
/-- how many are let: as many as asked for, or all -/
theorem count_inj {n : Nat} (f : Nat → Nat) (hf : ∀ i, i < n → f i < n) (hi : ∀ i j, i < n → j < n → f i = f j → i = j) (m : Nat) (hm : m ≤ n) : ((List.range n).filter fun i => decide (f i < m)).length = m := by
  have nd : ∀ p : Nat → Bool, (((List.range n).filter p).map f).Nodup := fun p => by
    unfold List.Nodup
    rw [List.pairwise_map]
    refine (List.Pairwise.filter p List.nodup_range).imp_of_mem fun {a b} ha hb hab e => hab ?_
    exact hi a b (List.mem_range.1 (List.mem_filter.1 ha).1) (List.mem_range.1 (List.mem_filter.1 hb).1) e
  have h1 := nodup_len m (nd fun i => decide (f i < m)) (fun x hx => by
    obtain ⟨i, hi, rfl⟩ := List.mem_map.1 hx
    simpa using (List.mem_filter.1 hi).2)
  rw [List.length_map] at h1
  have h2 := nodup_len (n - m) (l := (((List.range n).filter fun i => !decide (f i < m)).map f).map (· - m)) (by
    unfold List.Nodup
    rw [List.pairwise_map]
    refine (nd fun i => !decide (f i < m)).imp_of_mem fun {a b} ha hb hab e => hab ?_
    obtain ⟨i, hi', rfl⟩ := List.mem_map.1 ha
    obtain ⟨j, hj', rfl⟩ := List.mem_map.1 hb
    have hi2 := (List.mem_filter.1 hi').2
    have hj2 := (List.mem_filter.1 hj').2
    simp at hi2 hj2
    omega) (fun x hx => by
    obtain ⟨y, hy, rfl⟩ := List.mem_map.1 hx
    obtain ⟨i, hi', rfl⟩ := List.mem_map.1 hy
    have h3 := (List.mem_filter.1 hi').2
    have h4 := hf i (List.mem_range.1 (List.mem_filter.1 hi').1)
    simp at h3
    omega)
  rw [List.length_map, List.length_map] at h2
  have h3 : ∀ (l : List Nat) (p : Nat → Bool), (l.filter p).length + (l.filter fun x => !p x).length = l.length := by
    intro l p
    induction l with
    | nil => rfl
    | cons x l ih => cases e : p x <;> simp [e] <;> omega
  have h4 := h3 (List.range n) (fun i => decide (f i < m))
  rw [List.length_range] at h4
  omega
theorem topTo_len (zs : List E) (most : Int) : ∀ k, k ≤ zs.length → (topTo zs most k).length = ((List.range k).filter fun i => decide ((rankTo zs i zs.length : Int) < most)).length
  | 0, _ => rfl
  | k + 1, hk => by
    rw [topTo, List.length_append, topTo_len zs most k (by omega), List.range_succ, List.filter_append, List.length_append]
    congr 1
    by_cases h : (rankTo zs k zs.length : Int) < most
    · rw [if_pos h, List.filter_cons_of_pos (by simpa using h)]; rfl
    · rw [if_neg h, List.filter_cons_of_neg (by simpa using h)]; rfl
/-- how many Top answers -/
theorem top_len {zs : List E} (most : Int) (h : ok zs = true) : ((top most zs).length : Int) = if most < 0 then 0 else if (zs.length : Int) < most then (zs.length : Int) else most := by
  have e : top most zs = topTo zs most zs.length := if_pos h
  rw [e, topTo_len zs most _ (Nat.le_refl _)]
  by_cases h0 : most < 0
  · rw [if_pos h0]
    have : ((List.range zs.length).filter fun i => decide ((rankTo zs i zs.length : Int) < most)) = [] := by
      rw [List.filter_eq_nil_iff]; intro i _; simp; omega
    rw [this]; rfl
  · rw [if_neg h0]
    by_cases h1 : (zs.length : Int) < most
    · rw [if_pos h1]
      have : ((List.range zs.length).filter fun i => decide ((rankTo zs i zs.length : Int) < most)) = List.range zs.length := by
        rw [List.filter_eq_self]; intro i _; have := rankTo_le zs i zs.length; simp; omega
      rw [this, List.length_range]
    · rw [if_neg h1]
      obtain ⟨m, rfl⟩ := Int.eq_ofNat_of_zero_le (show 0 ≤ most by omega)
      have := count_inj (n := zs.length) (fun i => rankTo zs i zs.length) (fun i hi => rank_small zs _ hi) (fun i j hi hj h => rank_inj zs hi hj h) m (by omega)
      have e2 : ((List.range zs.length).filter fun i => decide ((rankTo zs i zs.length : Int) < (m : Int))) = ((List.range zs.length).filter fun i => decide (rankTo zs i zs.length < m)) := by
        congr 1; funext i; simp
      rw [e2, this]
/-- made of the same again nothing is left out -/
theorem top_top {zs : List E} (most : Int) (h : ok zs = true) : top most (top most zs) = top most zs := by
  have hT := topTo_ok most h
  have e : top most zs = topTo zs most zs.length := if_pos h
  have hl := top_len most h
  rw [e] at hl ⊢
  generalize topTo zs most zs.length = T at hT hl
  have e2 : top most T = topTo T most T.length := if_pos hT
  rw [e2]
  have all : ∀ k, k ≤ T.length → topTo T most k = T.take k := by
    intro k
    induction k with
    | zero => intro _; rfl
    | succ k ih =>
      intro hk
      have hr := rank_small T (i := k) T.length (by omega)
      rw [topTo_yes (by
        split at hl
        · omega
        · split at hl <;> omega), ih (by omega), at_snoc T k (by omega)]
  rw [all _ (Nat.le_refl _), List.take_of_length_le (Nat.le_refl _)]
/-- a row of those, and one that is left out -/
theorem topTo_mem {zs : List E} {most : Int} {y : E} : ∀ {k : Nat}, k ≤ zs.length → y ∈ topTo zs most k → ∃ i, i < k ∧ y = at' zs i ∧ (rankTo zs i zs.length : Int) < most
  | 0, _, h => by cases h
  | k + 1, hk, h => by
    rw [topTo] at h
    rcases List.mem_append.1 h with h | h
    · obtain ⟨i, hi, e, hr⟩ := topTo_mem (by omega) h
      exact ⟨i, by omega, e, hr⟩
    · split at h
      · rename_i hr; exact ⟨k, by omega, by simpa using h, hr⟩
      · cases h
theorem mem_topTo {zs : List E} {most : Int} {i : Nat} : ∀ {k : Nat}, i < k → (rankTo zs i zs.length : Int) < most → at' zs i ∈ topTo zs most k
  | 0, h, _ => by omega
  | k + 1, h, hr => by
    rw [topTo]
    by_cases e : i = k
    · subst e; rw [if_pos hr]; exact List.mem_append_right _ (by simp)
    · exact List.mem_append_left _ (mem_topTo (by omega) hr)
theorem top_least {zs : List E} {most : Int} (h : ok zs = true) {y : E} (hy : y ∈ top most zs) {i : Nat} (hi : i < zs.length) (hn : at' zs i ∉ top most zs) : lastV (at' zs i) ≤ lastV y := by
  have e : top most zs = topTo zs most zs.length := if_pos h
  rw [e] at hy hn
  obtain ⟨j, hj, rfl, hr⟩ := topTo_mem (Nat.le_refl _) hy
  have hri : ¬ (rankTo zs i zs.length : Int) < most := fun hr' => hn (mem_topTo hi hr')
  have hne : j ≠ i := fun e => by subst e; exact hri hr
  rcases ahead_total zs hne with h' | h'
  · exact ahead_last h'
  · have := rank_lt zs h' zs.length hi; omega
end Go.Proofs.Ytdggffcibcggoaa.Row
