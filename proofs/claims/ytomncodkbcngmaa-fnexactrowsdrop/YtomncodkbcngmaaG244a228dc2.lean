/- My own texts of one claim, laid together by program: RowAsk, RowOk2. -/
import Derived.Test.YtomncodkbcngmaaG7a5242f1ab
import Derived.Test.YtomncodkbcngmaaG687e48ff36
import Derived.Test.YtomncodkbcngmaaG07b082864e
import Derived.Test.YtomncodkbcngmaaGe27424f87d
import Derived.Test.YtomncodkbcngmaaG1a30be0f7d
import Derived.Test.YtomncodkbcngmaaG03f42bb7da
/- RowsAsk of the program. -/
namespace Go.Proofs.Ytomncodkbcngmaa.Row
open Go.RowKit Rw
set_option linter.unusedVariables false
attribute [local go_sem ↓] Go.wp_at_zero Go.wp_at_succ
def askG (ms : List Mat.E) (f t : Int) (x : E) : List Sam.E := if Mat.mlet ms x.1 = true then Samp.cutL x.2 f t else []
def ask (ms : List Mat.E) (f t : Int) (zs : List E) : List E := if ok zs = true then outL (askG ms f t) zs else []
theorem own_nil (lo : Nat) (w : World) : Own lo w.heap.size w (.slice none 0 0) [] := ⟨[], rfl, World.ownsRow_nil _ _ _ _, fun k hk => (by cases hk), Nat.le_refl _, fun i j _ h => absurd h (Nat.not_lt_zero _), fun i j _ h => absurd h (Nat.not_lt_zero _), fun i h => absurd h (Nat.not_lt_zero _)⟩
theorem outL_len (g : E → List Sam.E) (zs : List E) : (outL g zs).length ≤ zs.length := by
  unfold outL
  induction zs with
  | nil => simp
  | cons x zs ih =>
    rw [List.flatMap_cons, List.length_append, List.length_cons]
    split
    · rw [List.length_nil]; omega
    · rw [List.length_cons, List.length_nil]; omega
theorem outL_sorted {g : E → List Sam.E} {zs : List E} (h : ok zs = true) : ∀ k, k ≤ zs.length → Sorted (outL g (zs.take k))
  | 0, _ => by simp [outL, Sorted]
  | k + 1, hk => by
    rw [outL_snoc g zs k (by omega)]
    split
    · rw [List.append_nil]; exact outL_sorted h k (by omega)
    · exact (outL_sorted h k (by omega)).snoc (outL_ahead h (by omega))
theorem outL_ok {g : E → List Sam.E} {zs : List E} (h : ok zs = true) {k : Nat} (hk : k ≤ zs.length) : ∀ y ∈ outL g (zs.take k), Lab.ok y.1 = true := by
  intro y hy
  obtain ⟨i, hi, e, -⟩ := outL_mem hk hy
  rw [e]
  exact (step_is (ok_at h (by omega))).1
theorem smp_of_lies {w : World} {v : Value} {zs : List Sam.E} (h : Sam.Is w v zs) (h0 : zs ≠ []) : Samp.Smp w v zs := by
  obtain ⟨-, a, cap, rfl, hc, hm, -, hr⟩ := h
  obtain ⟨b, off, rfl, hl, hcells⟩ := hr (List.length_pos_iff.2 h0)
  exact .inr ⟨b, off, cap, rfl, hc, hm, hl, Sam.reads_of hcells⟩
set_option maxRecDepth 100000 in
set_option maxHeartbeats 8000000 in
theorem impl_ask {w : World} {v u : Value} {zs : List E} {ms : List Mat.E} (f t : Int) (h : Is w v zs) (hm : Mat.Is w u ms) (hg : ∀ x ∈ zs, good x) (hlen : zs.length ≤ maxLen) (hmg : ∀ x ∈ ms, Mat.good x) (hml : ms.length ≤ maxLen) :
    Calls Try.prog 13 #[v, u, .int .i64 f, .int .i64 t] w fun e w' => ∃ r, e = .returned r ∧ Own w.heap.size w'.heap.size w' r (ask ms f t zs) ∧ Below w.heap.size w w' := by
  have HO := hide (impl_ok h hg hlen)
  obtain ⟨au, nu, cu, eu⟩ : ∃ a n c, u = .slice a n c := by obtain ⟨-, a, c, e, -⟩ := hm; exact ⟨a, _, c, e⟩
  subst eu
  cases hok : ok zs
  · have HR := hide (show ask ms f t zs = [] by unfold ask; rw [hok]; rfl)
    rw [hok] at HO
    clear h hm hg hmg hok
    go_enter Try.func13, Try.ntmps13
    go_wp2_with fail
    refine (unhide HO).mono ?_
    rintro e w1 ⟨rfl, b1⟩
    go_wp2_with fail
    go_ret
    exact ⟨_, rfl, by rw [unhide HR]; have := own_nil w.heap.size w1; exact this, b1⟩
  have HR := hide (show ask ms f t zs = outL (askG ms f t) zs by unfold ask; rw [hok]; rfl)
  rw [hok] at HO
  have HOK := hide hok
  have hn10 := ok_len hok
  have HLet := hide (fun W (hb : Below w.heap.size w W) (lv : Value) (ls : List Lab.E) (hl : Lab.Is W lv ls) (hlg : ∀ x ∈ ls, Lab.good x) => Mat.impl_let (hm.below hb) hl hmg hlg hml)
  obtain ⟨cs, hcs, hL, hE⟩ := h
  have HE := hide hE
  have HG := hide hg
  obtain ⟨-, a, cap, rfl, hc, hmx, -, hr⟩ := hL
  unfold maxLen at hmx
  obtain ⟨l, hl⟩ : ∃ l, l = zs.length := ⟨_, rfl⟩
  rw [← hl] at hc hr hcs hn10 HO ⊢
  have HN := hide hl
  have HC := hide hcs
  clear hl hE hcs hg hm hmg hok hlen hml
  go_enter Try.func13, Try.ntmps13
  go_wp2_with fail
  refine (unhide HO).mono ?_
  rintro e w1 ⟨rfl, b1⟩
  go_wp2_with fail
  refine (RSet.new_any w1).mono ?_
  rintro e w2 ⟨mb, rfl, hmb, hM2, b2⟩
  have z1 := b1.size
  have z2 := b2.size
  go_wp2_with fail
  obtain ⟨wa, hwa⟩ : ∃ wa, wa = w2.alloc (.cells #[.slice none 0 0, .map (some mb)] 74) := ⟨_, rfl⟩
  rw [← hwa]
  have ba : Below w2.heap.size w2 wa := by rw [hwa]; exact (Below.refl _ _).alloc (Nat.le_refl _) _
  have za : wa.heap.size = w2.heap.size + 1 := by rw [hwa]; simp
  have bwa : Below w.heap.size w wa := (b1.trans (b2.mono z1)).trans (ba.mono (by omega))
  have hmlt := hM2.lt
  have hB0 : RSet.Built w.heap.size w2.heap.size mb 0 wa (outL (askG ms f t) (zs.take 0)) := ⟨fun _ => none, fun _ => ([], []), ⟨by omega, by omega, by omega, by omega, ⟨.slice none 0 0, by rw [hwa]; simp [go_sem], World.ownsRow_nil _ _ _ _, fun k hk => by cases hk⟩, by rw [hwa]; simp [go_sem], by rw [hwa]; simp [go_sem], hM2.below ba, fun k => by simp [outL], fun k c hc => (by cases hc), fun k k' c c' _ hc => (by cases hc)⟩, by simp [outL]⟩
  have HB0 := hide hB0
  have hmlt' : mb < wa.heap.size := by omega
  have hlows : w.heap.size ≤ w2.heap.size := by omega
  have hlowm : w.heap.size ≤ mb := by omega
  generalize hBB : w2.heap.size = B at *
  have hBl : B < wa.heap.size := by omega
  have HBm := hide (show B ≠ mb by omega)
  clear hwa hB0 ba hM2 hBB b1 b2 HO
  go_loopw [18] (fun i wr => ∃ (k n : Nat), k ≤ l ∧ i = .int .i64 k ∧ n ≤ k ∧ Hid (RSet.Built w.heap.size B mb n wr (outL (askG ms f t) (zs.take k))) ∧ RSet.Two B mb wa wr) (fun i _ => l - (intOf i).toNat)
  case atStart => exact ⟨0, 0, Nat.zero_le _, rfl, Nat.le_refl _, HB0, RSet.Two.refl _ _ _⟩
  case round =>
    obtain ⟨k, n, hk, rfl, hnk, HB, h2⟩ := hrel
    have hsz := h2.size
    have hbel : Below w.heap.size w wr := bwa.trans (h2.below hlows hlowm (by omega))
    by_cases hlt : k < l
    · obtain ⟨b, off, rfl, hbl, hcells⟩ := hr (by omega)
      have fa := flat_at cs k (by have := unhide HC; omega)
      have hc0 : wr.cell? ⟨b, off + k * 2, none⟩ = some (cat cs k).1 := (hbel.cell (p := ⟨b, _, none⟩) hbl).trans (hcells (k * 2) _ fa.1)
      have hc1 : wr.cell? ⟨b, off + k * 2 + 1, none⟩ = some (cat cs k).2 := (hbel.cell (p := ⟨b, _, none⟩) hbl).trans (hcells (k * 2 + 1) _ fa.2)
      have hkz : k < zs.length := by have := unhide HN; omega
      have hEk := unhide HE k hkz
      have hgk := unhide HG (at' zs k) (at_mem zs k hkz)
      have hst := step_is (ok_at (unhide HOK) hkz)
      have hsn := outL_snoc (askG ms f t) zs k hkz
      have hah := outL_ahead (g := askG ms f t) (unhide HOK) hkz
      have hol := outL_len (askG ms f t) (zs.take k)
      rw [List.length_take] at hol
      obtain ⟨⟨ls, xs⟩, hX⟩ : ∃ x, x = at' zs k := ⟨_, rfl⟩
      rw [← hX] at hEk hgk hst hsn hah
      simp only at hst hah
      obtain ⟨c0, c1, hY⟩ : ∃ c0 c1, (c0, c1) = cat cs k := ⟨_, _, rfl⟩
      rw [← hY] at hc0 hc1 hEk
      have hE1 : Lab.Is w c0 ls := hEk.1
      have hE2 : Sam.Is w c1 xs := hEk.2
      obtain ⟨-, a0, q0, e0, -⟩ := hE1
      obtain ⟨-, a1, q1, e1, -⟩ := hE2
      have hE1 : Lab.Is w c0 ls := hEk.1
      have hE2 : Sam.Is w c1 xs := hEk.2
      clear fa hEk hX hY
      have hxne : xs ≠ [] := fun e => by rw [e] at hst; simp at hst
      have hk0 : (0 : Int) ≤ (k : Int) := Int.natCast_nonneg _
      have hk1 : (k : Int) < (l : Int) := by omega
      have hWf : ∀ o, Below wr.heap.size wr (wr.alloc o) := fun o => (Below.refl _ _).alloc (Nat.le_refl _) _
      cases hlet : Mat.mlet ms ls
      · have hg0 : askG ms f t (ls, xs) = [] := by unfold askG; rw [hlet]; rfl
        rw [hg0, if_pos rfl, List.append_nil] at hsn
        have HB' := hide (fun W (hb : Below wr.heap.size wr W) => show RSet.Built w.heap.size B mb n W (outL (askG ms f t) (zs.take (k + 1))) by rw [hsn]; exact (unhide HB).below hb)
        have HL := hide (fun W (hb : Below w.heap.size w W) => unhide HLet W hb c0 ls (hE1.below hb) hgk.1.2)
        rw [hlet] at HL
        clear hlet hgk hst hsn hah hg0 hE1 hE2
        subst e0 e1
        go_wp2_with fail
        obtain ⟨W, hW⟩ : ∃ W, W = wr.alloc (.cells #[.slice a0 ls.length q0, .slice a1 xs.length q1] 67) := ⟨_, rfl⟩
        rw [← hW]
        have bW : Below wr.heap.size wr W := by rw [hW]; exact hWf _
        clear hW
        refine (unhide HL W (hbel.trans (bW.mono (by omega)))).mono ?_
        rintro e w3 ⟨rfl, b3⟩
        have b4 := bW.trans (b3.mono bW.size)
        have HB2 := hide (unhide HB' w3 b4)
        clear HB' HL
        go_wp2_with fail
        go_roundw
        case rel => exact ⟨k + 1, n, by omega, by go_num, by omega, HB2, h2.trans (RSet.Two.of_below b4)⟩
        case measure => simp [intOf]; omega
      · have hgG : askG ms f t (ls, xs) = Samp.cutL xs f t := by unfold askG; rw [hlet]; rfl
        rw [hgG] at hsn
        have HL := hide (fun W (hb : Below w.heap.size w W) => unhide HLet W hb c0 ls (hE1.below hb) hgk.1.2)
        rw [hlet] at HL
        have hce : Samp.cut xs f t = Samp.cutL xs f t := by unfold Samp.cut; rw [hst.2.2.2]; rfl
        have HCut := hide (fun W (hb : Below w.heap.size w W) => Samp.impl_cut f t (smp_of_lies (hE2.below hb) hxne) (by omega))
        rw [hce] at HCut
        have hcok : SampMath.ok (Samp.cutL xs f t) = true := Samp.ok_filter hst.2.2.2 _
        have hcl : (Samp.cutL xs f t).length ≤ 1000 := Nat.le_trans (List.length_filter_le _ _) hst.2.2.1
        have hob : wr.heap.size ≠ B ∧ wr.heap.size ≠ mb := ⟨by omega, by omega⟩
        have HG1 := hide hgk.1.2
        have HO1 := hide hst.1
        have HE1 := hide hE1
        have HAh := hide hah
        have HLen := hide hol
        have HCok := hide (And.intro hcok hcl)
        have HSn := hide hsn
        clear hlet hgk hst hgG hsn hah hE1 hE2 hcok hcl hce hol hxne
        obtain ⟨D, hD⟩ : ∃ D, D = Samp.cutL xs f t := ⟨_, rfl⟩
        rw [← hD] at HCut HCok HSn
        clear hD
        obtain ⟨m, hm⟩ : ∃ m, m = D.length := ⟨_, rfl⟩
        rw [← hm] at HCut
        have HM := hide hm
        clear hm
        subst e0 e1
        go_wp2_with fail
        obtain ⟨W, hW⟩ : ∃ W, W = wr.alloc (.cells #[.slice a0 ls.length q0, .slice a1 xs.length q1] 67) := ⟨_, rfl⟩
        rw [← hW]
        have bW : Below wr.heap.size wr W := by rw [hW]; exact hWf _
        have zW : W.heap.size = wr.heap.size + 1 := by rw [hW]; simp
        have y0 : W.cell? ⟨wr.heap.size, 0, none⟩ = some (.slice a0 ls.length q0) := by rw [hW]; simp [go_sem]
        have y1 : W.cell? ⟨wr.heap.size, 1, none⟩ = some (.slice a1 xs.length q1) := by rw [hW]; simp [go_sem]
        clear hW
        refine (unhide HL W (hbel.trans (bW.mono (by omega)))).mono ?_
        rintro e w3 ⟨rfl, b3⟩
        have z3 := b3.size
        have b4 := bW.trans (b3.mono bW.size)
        have b5 : Below wr.heap.size wr w3.drew := b4.drew
        have S6 : (fun W : World => W.cell? ⟨wr.heap.size, 0, none⟩ = some (.slice a0 ls.length q0) ∧ W.cell? ⟨wr.heap.size, 1, none⟩ = some (.slice a1 xs.length q1)) w3.drew := ⟨by simpa using (b3.cell (p := ⟨wr.heap.size, 0, none⟩) (by show wr.heap.size < _; omega)).trans y0, by simpa using (b3.cell (p := ⟨wr.heap.size, 1, none⟩) (by show wr.heap.size < _; omega)).trans y1⟩
        have HC6 := hide (unhide HCut w3.drew (hbel.trans (b5.mono (by omega))))
        clear HL HCut y0 y1 b3 bW
        by_cases h0 : m = 0
        · subst h0
          have hDn : D = [] := List.eq_nil_of_length_eq_zero (unhide HM).symm
          have HB2 := hide (fun W (hb : Below wr.heap.size wr W) => show RSet.Built w.heap.size B mb n W (outL (askG ms f t) (zs.take (k + 1))) by rw [unhide HSn, if_pos hDn, List.append_nil]; exact (unhide HB).below hb)
          clear hDn HB
          go_wp2_with fail
          go_region_held3 (fun W => W.cell? ⟨wr.heap.size, 0, none⟩ = some (.slice a0 ls.length q0) ∧ W.cell? ⟨wr.heap.size, 1, none⟩ = some (.slice a1 xs.length q1)) (first | exact S6 | exact S7) ((first | (go_at_call 46; refine (unhide HC6).mono ?_; rintro e w7 ⟨cv, rfl, oc, b7⟩; obtain ⟨ca, cq, rfl⟩ : ∃ a q, cv = .slice a 0 q := (by obtain ⟨-, a, q, e, -⟩ := lies_of_own oc; exact ⟨a, q, e⟩); have S7 : (fun W : World => W.cell? ⟨wr.heap.size, 0, none⟩ = some (.slice a0 ls.length q0) ∧ W.cell? ⟨wr.heap.size, 1, none⟩ = some (.slice a1 xs.length q1)) w7 := ⟨(b7.cell (p := ⟨_, _, none⟩) (by show wr.heap.size < _; simp; omega)).trans S6.1, (b7.cell (p := ⟨_, _, none⟩) (by show wr.heap.size < _; simp; omega)).trans S6.2⟩) | (go_at_call 45; refine (RSet.put_none _ _ _ _).mono ?_; rintro e w8 ⟨rfl, hw8⟩; subst hw8)))
          have b8 := b5.trans (b7.mono b5.size)
          have HB3 := hide (unhide HB2 _ b8)
          clear S6 S7 HC6 HB2 oc b7
          go_wp2_with fail
          go_roundw
          case rel => exact ⟨k + 1, n, by omega, by go_num, by omega, HB3, h2.trans (RSet.Two.of_below b8)⟩
          case measure => simp [intOf]; omega
        · have HPut := hide (fun (W : World) (hb : Below wr.heap.size wr W) (ca : Option Addr) (cq : Nat) (hs : Samp.Smp W (.slice ca m cq) D) => RSet.built_new ((unhide HB).below hb) (by have := unhide HLen; omega) (by omega) (unhide HAh) ((unhide HE1).below (hbel.trans (hb.mono (by omega)))) (unhide HG1) (unhide HO1) hs (unhide HM).symm (unhide HCok).1 (by omega) (by have := (unhide HCok).2; have := unhide HM; omega) (by have := hb.size; omega))
          have HSn2 := hide (show outL (askG ms f t) (zs.take (k + 1)) = outL (askG ms f t) (zs.take k) ++ [(ls, D)] by rw [unhide HSn, if_neg (fun e => h0 (by rw [unhide HM, e]; rfl))])
          clear HB
          go_wp2_with fail
          go_region_held3 (fun W => W.cell? ⟨wr.heap.size, 0, none⟩ = some (.slice a0 ls.length q0) ∧ W.cell? ⟨wr.heap.size, 1, none⟩ = some (.slice a1 xs.length q1)) (first | exact S6 | exact S7 | exact S8) ((first | (go_at_call 46; refine (unhide HC6).mono ?_; rintro e w7 ⟨cv, rfl, oc, b7⟩; obtain ⟨ca, cq, rfl⟩ : ∃ a q, cv = .slice a m q := (by obtain ⟨-, a, q, e, -⟩ := lies_of_own oc; exact ⟨a, q, e⟩); have z7 := b7.size; simp only [World.size_drew] at z7; have S7 : (fun W : World => W.cell? ⟨wr.heap.size, 0, none⟩ = some (.slice a0 ls.length q0) ∧ W.cell? ⟨wr.heap.size, 1, none⟩ = some (.slice a1 xs.length q1)) w7 := ⟨(b7.cell (p := ⟨_, _, none⟩) (by show wr.heap.size < _; simp; omega)).trans S6.1, (b7.cell (p := ⟨_, _, none⟩) (by show wr.heap.size < _; simp; omega)).trans S6.2⟩) | (go_at_call 45; refine (unhide HPut _ (b5.trans (b7.mono b5.size)) ca cq (Samp.smp_of_own (by rw [← unhide HM]; exact oc))).mono ?_; rintro e w8 ⟨rfl, hB8, t8⟩; have S8 : (fun W : World => W.cell? ⟨wr.heap.size, 0, none⟩ = some (.slice a0 ls.length q0) ∧ W.cell? ⟨wr.heap.size, 1, none⟩ = some (.slice a1 xs.length q1)) w8 := ⟨(t8.cell (by omega) hob.1 hob.2).trans S7.1, (t8.cell (by omega) hob.1 hob.2).trans S7.2⟩)))
          have b8 := b5.trans (b7.mono b5.size)
          have HB3 := hide (show RSet.Built w.heap.size B mb (n + 1) w8 (outL (askG ms f t) (zs.take (k + 1))) by rw [unhide HSn2]; exact hB8)
          have t9 := (h2.trans (RSet.Two.of_below b8)).trans t8
          clear S6 S7 S8 HC6 HPut oc b7 t8 hB8
          go_wp2_with fail
          go_roundw
          case rel => exact ⟨k + 1, n + 1, by omega, by go_num, by omega, HB3, t9⟩
          case measure => simp [intOf]; omega
    · obtain rfl : k = l := by omega
      have hkz : k = zs.length := unhide HN
      have HRw := hide (RSet.built_rows (unhide HB) (outL_sorted (unhide HOK) k (by omega)) (by have := outL_len (askG ms f t) (zs.take k); rw [List.length_take] at this; omega) (outL_ok (unhide HOK) (by omega)) (by omega))
      have HT := hide (show outL (askG ms f t) (zs.take k) = ask ms f t zs by rw [unhide HR, List.take_of_length_le (by omega)])
      rw [unhide HT] at HRw
      clear hkz HB
      go_wp2_with fail
      refine (unhide HRw).mono ?_
      rintro e w9 ⟨r, rfl, ho, b9⟩
      have hb9 := hbel.trans (b9.mono (by omega))
      have HO9 := hide ho
      clear ho b9 HRw
      go_wp2_with fail
      go_ret
      exact ⟨r, rfl, unhide HO9, hb9⟩
end Go.Proofs.Ytomncodkbcngmaa.Row

/- RowsOk of the model, at every slice of rows. -/
namespace Go.Proofs.Ytomncodkbcngmaa.Row
open Go.RowKit Rw
set_option linter.unusedVariables false
attribute [local go_sem ↓] Go.wp_at_zero Go.wp_at_succ
set_option maxRecDepth 100000 in
set_option maxHeartbeats 8000000 in
theorem spec_ok {w : World} {v : Value} {zs : List E} (h : Is w v zs) (hg : ∀ x ∈ zs, good x) (hlen : zs.length ≤ maxLen) : Calls Try.prog 37 #[v] w fun e w' => e = .returned (.bool (ok zs)) ∧ Below w.heap.size w w' := by
  obtain ⟨cs, hcs, hL, hE⟩ := h
  have HE := hide hE
  have HG := hide hg
  obtain ⟨-, a, cap, rfl, hc, hm, -, hr⟩ := hL
  unfold maxLen at hm hlen
  obtain ⟨n, hn⟩ : ∃ n, n = zs.length := ⟨_, rfl⟩
  rw [← hn] at hc hr hcs hlen ⊢
  have HN := hide hn
  have HC := hide hcs
  clear hn hE hg hcs
  go_enter Try.func37, Try.ntmps37
  go_wp2_with fail
  go_loopw [3] (fun i wr => ∃ (j : Nat), j ≤ n ∧ i = .int .i64 j ∧ Hid (okTo zs j = true) ∧ Below w.heap.size w wr) (fun i _ => n - (intOf i).toNat)
  case atStart => exact ⟨0, Nat.zero_le _, rfl, hide rfl, Below.refl _ _⟩
  case round =>
    obtain ⟨j, hj, rfl, HO, hbel⟩ := hrel
    have hsz := hbel.size
    by_cases hlt : j < n
    · obtain ⟨b, off, rfl, hl, hcells⟩ := hr (by omega)
      have fa := flat_at cs j (by have := unhide HC; omega)
      have hc0 : wr.cell? ⟨b, off + j * 2, none⟩ = some (cat cs j).1 := (hbel.cell (p := ⟨b, _, none⟩) hl).trans (hcells (j * 2) _ fa.1)
      have hc1 : wr.cell? ⟨b, off + j * 2 + 1, none⟩ = some (cat cs j).2 := (hbel.cell (p := ⟨b, _, none⟩) hl).trans (hcells (j * 2 + 1) _ fa.2)
      have hEj := (unhide HE j (by have := unhide HN; omega)).below hbel
      have hGj := unhide HG _ (at_mem zs j (by have := unhide HN; omega))
      obtain ⟨a1, q1, f1, g1, g1'⟩ := hEj.1.form
      obtain ⟨a2, q2, f2, g2, g2'⟩ := hEj.2.form
      obtain ⟨l1, hl1⟩ : ∃ l, l = (at' zs j).1.length := ⟨_, rfl⟩
      obtain ⟨l2, hl2⟩ : ∃ l, l = (at' zs j).2.length := ⟨_, rfl⟩
      unfold maxLen at g1' g2'
      rw [f1, ← hl1] at hc0
      rw [f2, ← hl2] at hc1
      rw [← hl1] at g1
      rw [← hl2] at g2
      have HI1 := hide (show Lab.Is wr (.slice a1 l1 q1) (at' zs j).1 by rw [hl1, ← f1]; exact hEj.1)
      have HI2 := hide (show Sam.Is wr (.slice a2 l2 q2) (at' zs j).2 by rw [hl2, ← f2]; exact hEj.2)
      have HL1 := hide hl1
      have HL2 := hide hl2
      have hk0 : (0 : Int) ≤ (j : Int) := Int.natCast_nonneg _
      have hk1 : (j : Int) < (n : Int) := by omega
      have hq0 : ∀ x : Cls wr.heap.size wr, x.val.cell? ⟨b, off + j * 2, none⟩ = some (.slice a1 l1 q1) := fun x => by rw [x.cell (by omega)]; exact hc0
      have hq1 : ∀ x : Cls wr.heap.size wr, x.val.cell? ⟨b, off + j * 2 + 1, none⟩ = some (.slice a2 l2 q2) := fun x => by rw [x.cell (by omega)]; exact hc1
      have hne := cls_nonempty wr.heap.size wr
      clear fa hEj f1 f2 hl1 hl2 hc0 hc1
      have CL := hide (fun x : Cls wr.heap.size wr => Lab.spec_ok ((unhide HI1).below x.isBelow) hGj.1.2 hGj.1.1)
      have CS := hide (fun x : Cls wr.heap.size wr => Sam.l2ok ((unhide HI2).below x.isBelow))
      have CI := hide (fun x : Cls wr.heap.size wr => Zig.in_any (l2 : Int) 1 1000 x.val)
      cases hlab : Lab.ok (at' zs j).1
      · have HF := hide (ok_of_bad (zs := zs) (k := j) (by have := unhide HN; omega) (step_lab hlab))
        rw [hlab] at CL
        clear hlab
        go_wp2_with fail
        refine region_cls (by kernel_rfl) (by kernel_rfl) ?_
        repeat (go_big_quiet_step (first | (go_at_call 59; exact cls_call (Nat.le_refl _) (unhide CL _)) | (go_at_call 60; exact cls_call (Nat.le_refl _) (unhide CS _)) | (go_at_call 68; exact cls_same (unhide CI _))))
        refine wpQuiet_nil ?_
        rintro wq ⟨⟨_, hq⟩, rfl⟩
        have hbq := hbel.trans (hq.mono hsz)
        go_wp2_with fail
        go_ret
        exact ⟨ret_bool (unhide HF).symm, hbq⟩
      · rw [hlab] at CL
        have HLk := hide hlab
        cases hsam : SampMath.ok (at' zs j).2
        · have HF := hide (ok_of_bad (zs := zs) (k := j) (by have := unhide HN; omega) (step_sam hsam))
          rw [hsam] at CS
          clear hlab hsam
          go_wp2_with fail
          refine region_cls (by kernel_rfl) (by kernel_rfl) ?_
          repeat (go_big_quiet_step (first | (go_at_call 59; exact cls_call (Nat.le_refl _) (unhide CL _)) | (go_at_call 60; exact cls_call (Nat.le_refl _) (unhide CS _)) | (go_at_call 68; exact cls_same (unhide CI _))))
          refine wpQuiet_nil ?_
          rintro wq ⟨⟨_, hq⟩, rfl⟩
          have hbq := hbel.trans (hq.mono hsz)
          go_wp2_with fail
          go_ret
          exact ⟨ret_bool (unhide HF).symm, hbq⟩
        · rw [hsam] at CS
          have HSk := hide hsam
          clear hsam
          by_cases hs : 1 ≤ l2 ∧ l2 ≤ 1000
          · rw [show Zig.inB (l2 : Int) 1 1000 = true from by unfold Zig.inB; rw [decide_eq_true (by omega), decide_eq_true (by omega)]; rfl] at CI
            rcases j with _ | j
            · simp only [Nat.zero_mul, Nat.add_zero] at hq0 hq1
              have HU := hide (show okTo zs (0 + 1) = true by rw [okTo_succ, unhide HO, step_yes (unhide HLk) (by rw [← unhide HL2]; exact hs.1) (by rw [← unhide HL2]; exact hs.2) (unhide HSk) (.inl rfl)]; rfl)
              clear hlab hs
              go_wp2_with fail
              refine region_cls (by kernel_rfl) (by kernel_rfl) ?_
              repeat (go_big_quiet_step (first | (go_at_call 59; exact cls_call (Nat.le_refl _) (unhide CL _)) | (go_at_call 60; exact cls_call (Nat.le_refl _) (unhide CS _)) | (go_at_call 68; exact cls_same (unhide CI _))))
              refine wpQuiet_nil ?_
              rintro wq ⟨⟨_, hq⟩, rfl⟩
              have hbq := hbel.trans (hq.mono hsz)
              go_wp2
              go_roundw
              case rel => exact ⟨0 + 1, by omega, by go_num, HU, hbq⟩
              case measure => simp [intOf]; omega
            · have fp := flat_at cs j (by have := unhide HC; omega)
              have hEp := (unhide HE j (by have := unhide HN; omega)).below hbel
              have hp0 : ∀ x : Cls wr.heap.size wr, x.val.cell? ⟨b, off + j * 2, none⟩ = some (cat cs j).1 := fun x => by rw [x.cell (by omega)]; exact (hbel.cell (p := ⟨b, _, none⟩) hl).trans (hcells (j * 2) _ fp.1)
              have HCm := hide (fun x : Cls wr.heap.size wr => Lab.l3Cmp_any (hEp.1.below x.isBelow) ((unhide HI1).below x.isBelow))
              obtain ⟨a0, q0, f0, -, -⟩ := hEp.1.form
              obtain ⟨l0, hl0⟩ : ∃ l, l = (at' zs j).1.length := ⟨_, rfl⟩
              rw [← hl0] at f0
              rw [f0] at hp0 HCm
              clear fp hEp hlab f0 hl0
              have hj0 : (0 : Int) ≤ (j : Int) := Int.natCast_nonneg _
              have hj1 : (j : Int) < (n : Int) := by omega
              have hj2 : (((j + 1 : Nat) : Int)) - 1 = (j : Int) := by omega
              have HSt := hide (fun h => step_cmp (zs := zs) (k := j + 1) (by omega) h)
              simp only [Nat.add_sub_cancel] at HSt
              have hrg := Lab.cmpL_range (at' zs j).1 (at' zs (j + 1)).1
              obtain ⟨M, hM0⟩ : ∃ M, M = Lab.cmpL (at' zs j).1 (at' zs (j + 1)).1 := ⟨_, rfl⟩
              rw [← hM0] at HCm HSt hrg
              have HM0 := hide hM0
              clear hM0
              by_cases hM : M < 0
              · have HU := hide (show okTo zs (j + 1 + 1) = true by rw [okTo_succ, unhide HO, step_yes (unhide HLk) (by rw [← unhide HL2]; exact hs.1) (by rw [← unhide HL2]; exact hs.2) (unhide HSk) (.inr (by show Lab.cmpL (at' zs j).1 _ < 0; rw [← unhide HM0]; exact hM))]; rfl)
                have hM2 : ¬ 0 ≤ M := by omega
                clear hs
                go_wp2_with fail
                refine region_cls (by kernel_rfl) (by kernel_rfl) ?_
                repeat (go_big_quiet_step (first | (go_at_call 59; exact cls_call (Nat.le_refl _) (unhide CL _)) | (go_at_call 60; exact cls_call (Nat.le_refl _) (unhide CS _)) | (go_at_call 68; exact cls_same (unhide CI _)) | (go_at_call 74; exact cls_call (Nat.le_refl _) (unhide HCm _))))
                refine wpQuiet_nil ?_
                rintro wq ⟨⟨_, hq⟩, rfl⟩
                have hbq := hbel.trans (hq.mono hsz)
                go_wp2
                go_roundw
                case rel => exact ⟨j + 1 + 1, by omega, by go_num, HU, hbq⟩
                case measure => simp [intOf]; omega
              · have HF := hide (ok_of_bad (zs := zs) (k := j + 1) (by have := unhide HN; omega) (unhide HSt hM))
                have hM2 : 0 ≤ M := by omega
                clear hs
                go_wp2_with fail
                refine region_cls (by kernel_rfl) (by kernel_rfl) ?_
                repeat (go_big_quiet_step (first | (go_at_call 59; exact cls_call (Nat.le_refl _) (unhide CL _)) | (go_at_call 60; exact cls_call (Nat.le_refl _) (unhide CS _)) | (go_at_call 68; exact cls_same (unhide CI _)) | (go_at_call 74; exact cls_call (Nat.le_refl _) (unhide HCm _))))
                refine wpQuiet_nil ?_
                rintro wq ⟨⟨_, hq⟩, rfl⟩
                have hbq := hbel.trans (hq.mono hsz)
                go_wp2_with fail
                go_ret
                exact ⟨ret_bool (unhide HF).symm, hbq⟩
          · have HF := hide (ok_of_bad (zs := zs) (k := j) (by have := unhide HN; omega) (step_len (by rw [← unhide HL2]; omega)))
            rw [show Zig.inB (l2 : Int) 1 1000 = false from by unfold Zig.inB; rw [Bool.and_eq_false_iff, decide_eq_false_iff_not, decide_eq_false_iff_not]; omega] at CI
            clear hs hlab
            go_wp2_with fail
            refine region_cls (by kernel_rfl) (by kernel_rfl) ?_
            repeat (go_big_quiet_step (first | (go_at_call 59; exact cls_call (Nat.le_refl _) (unhide CL _)) | (go_at_call 60; exact cls_call (Nat.le_refl _) (unhide CS _)) | (go_at_call 68; exact cls_same (unhide CI _))))
            refine wpQuiet_nil ?_
            rintro wq ⟨⟨_, hq⟩, rfl⟩
            have hbq := hbel.trans (hq.mono hsz)
            go_wp2_with fail
            go_ret
            exact ⟨ret_bool (unhide HF).symm, hbq⟩
    · obtain rfl : j = n := by omega
      by_cases hbig : 10 < j
      · have HR := hide (show ok zs = false from ok_long (by have := unhide HN; omega))
        go_wp2
        go_ret
        exact ⟨ret_bool (by rw [unhide HR]; exact decide_eq_false (by omega)), hbel⟩
      · have HU := hide (show ok zs = true by unfold ok; rw [← unhide HN, unhide HO, decide_eq_true (by omega)]; rfl)
        go_wp2
        go_ret
        exact ⟨ret_bool (by rw [unhide HU]; exact decide_eq_true (by omega)), hbel⟩
end Go.Proofs.Ytomncodkbcngmaa.Row
