/- My own texts of one claim, laid together by program: RowAsk, Let3. -/
import Derived.Test.YtdggffcibcggoaaG130b5cbe0a
import Derived.Test.YtdggffcibcggoaaG590ba59697
import Derived.Test.YtdggffcibcggoaaG67e8be0f4b
/- RowsAsk of the program. -/
namespace Go.Proofs.Ytdggffcibcggoaa.Row
open Go.RowKit Rw
set_option linter.unusedVariables false
attribute [local go_sem ↓] Go.wp_at_zero Go.wp_at_succ
def askG (ms : List Mat.E) (f t : Int) (x : E) : List Sam.E := if Mat.mlet ms x.1 = true then Samp.cutL x.2 f t else []
def ask (ms : List Mat.E) (f t : Int) (zs : List E) : List E := if ok zs = true then outL (askG ms f t) zs else []
theorem own_nil (lo : Nat) (w : World) : Own lo w.heap.size w (.slice none 0 0) [] := ⟨[], rfl, World.ownsRow_nil _ _ _ _, fun k hk => (by cases hk), Nat.le_refl _, fun i j _ h => absurd h (Nat.not_lt_zero _), fun i j _ h => absurd h (Nat.not_lt_zero _), fun i h => absurd h (Nat.not_lt_zero _)⟩
theorem outL_len (g : E → List Sam.E) (zs : List E) : (outL g zs).length ≤ zs.length := by
  unfold outL
  induction zs with
  | nil => simp
  | cons x zs ih =>
    rw [List.flatMap_cons, List.length_append, List.length_cons]
    split
    · rw [List.length_nil]; omega
    · rw [List.length_cons, List.length_nil]; omega
theorem outL_sorted {g : E → List Sam.E} {zs : List E} (h : ok zs = true) : ∀ k, k ≤ zs.length → Sorted (outL g (zs.take k))
  | 0, _ => by simp [outL, Sorted]
  | k + 1, hk => by
    rw [outL_snoc g zs k (by omega)]
    split
    · rw [List.append_nil]; exact outL_sorted h k (by omega)
    · exact (outL_sorted h k (by omega)).snoc (outL_ahead h (by omega))
theorem outL_ok {g : E → List Sam.E} {zs : List E} (h : ok zs = true) {k : Nat} (hk : k ≤ zs.length) : ∀ y ∈ outL g (zs.take k), Lab.ok y.1 = true := by
  intro y hy
  obtain ⟨i, hi, e, -⟩ := outL_mem hk hy
  rw [e]
  exact (step_is (ok_at h (by omega))).1
theorem smp_of_lies {w : World} {v : Value} {zs : List Sam.E} (h : Sam.Is w v zs) (h0 : zs ≠ []) : Samp.Smp w v zs := by
  obtain ⟨-, a, cap, rfl, hc, hm, -, hr⟩ := h
  obtain ⟨b, off, rfl, hl, hcells⟩ := hr (List.length_pos_iff.2 h0)
  exact .inr ⟨b, off, cap, rfl, hc, hm, hl, Sam.reads_of hcells⟩
set_option maxRecDepth 100000 in
set_option maxHeartbeats 8000000 in
theorem impl_ask {w : World} {v u : Value} {zs : List E} {ms : List Mat.E} (f t : Int) (h : Is w v zs) (hm : Mat.Is w u ms) (hg : ∀ x ∈ zs, good x) (hlen : zs.length ≤ maxLen) (hmg : ∀ x ∈ ms, Mat.good x) (hml : ms.length ≤ maxLen) :
    Calls Try.prog 35 #[v, u, .int .i64 f, .int .i64 t] w fun e w' => ∃ r, e = .returned r ∧ Own w.heap.size w'.heap.size w' r (ask ms f t zs) ∧ Below w.heap.size w w' := by
  have HO := hide (impl_ok h hg hlen)
  obtain ⟨au, nu, cu, eu⟩ : ∃ a n c, u = .slice a n c := by obtain ⟨-, a, c, e, -⟩ := hm; exact ⟨a, _, c, e⟩
  subst eu
  cases hok : ok zs
  · have HR := hide (show ask ms f t zs = [] by unfold ask; rw [hok]; rfl)
    rw [hok] at HO
    clear h hm hg hmg hok
    go_enter Try.func35, Try.ntmps35
    go_wp2_with fail
    refine (unhide HO).mono ?_
    rintro e w1 ⟨rfl, b1⟩
    go_wp2_with fail
    go_ret
    exact ⟨_, rfl, by rw [unhide HR]; have := own_nil w.heap.size w1; exact this, b1⟩
  have HR := hide (show ask ms f t zs = outL (askG ms f t) zs by unfold ask; rw [hok]; rfl)
  rw [hok] at HO
  have HOK := hide hok
  have hn10 := ok_len hok
  have HLet := hide (fun W (hb : Below w.heap.size w W) (lv : Value) (ls : List Lab.E) (hl : Lab.Is W lv ls) (hlg : ∀ x ∈ ls, Lab.good x) => Mat.impl_let (hm.below hb) hl hmg hlg hml)
  obtain ⟨cs, hcs, hL, hE⟩ := h
  have HE := hide hE
  have HG := hide hg
  obtain ⟨-, a, cap, rfl, hc, hmx, -, hr⟩ := hL
  unfold maxLen at hmx
  obtain ⟨l, hl⟩ : ∃ l, l = zs.length := ⟨_, rfl⟩
  rw [← hl] at hc hr hcs hn10 HO ⊢
  have HN := hide hl
  have HC := hide hcs
  clear hl hE hcs hg hm hmg hok hlen hml
  go_enter Try.func35, Try.ntmps35
  go_wp2_with fail
  refine (unhide HO).mono ?_
  rintro e w1 ⟨rfl, b1⟩
  go_wp2_with fail
  refine (RSet.new_any w1).mono ?_
  rintro e w2 ⟨mb, rfl, hmb, hM2, b2⟩
  have z1 := b1.size
  have z2 := b2.size
  go_wp2_with fail
  obtain ⟨wa, hwa⟩ : ∃ wa, wa = w2.alloc (.cells #[.slice none 0 0, .map (some mb)] 74) := ⟨_, rfl⟩
  rw [← hwa]
  have ba : Below w2.heap.size w2 wa := by rw [hwa]; exact (Below.refl _ _).alloc (Nat.le_refl _) _
  have za : wa.heap.size = w2.heap.size + 1 := by rw [hwa]; simp
  have bwa : Below w.heap.size w wa := (b1.trans (b2.mono z1)).trans (ba.mono (by omega))
  have hmlt := hM2.lt
  have hB0 : RSet.Built w.heap.size w2.heap.size mb 0 wa (outL (askG ms f t) (zs.take 0)) := ⟨fun _ => none, fun _ => ([], []), ⟨by omega, by omega, by omega, by omega, ⟨.slice none 0 0, by rw [hwa]; simp [go_sem], World.ownsRow_nil _ _ _ _, fun k hk => by cases hk⟩, by rw [hwa]; simp [go_sem], by rw [hwa]; simp [go_sem], hM2.below ba, fun k => by simp [outL], fun k c hc => (by cases hc), fun k k' c c' _ hc => (by cases hc)⟩, by simp [outL]⟩
  have HB0 := hide hB0
  have hmlt' : mb < wa.heap.size := by omega
  have hlows : w.heap.size ≤ w2.heap.size := by omega
  have hlowm : w.heap.size ≤ mb := by omega
  generalize hBB : w2.heap.size = B at *
  have hBl : B < wa.heap.size := by omega
  have HBm := hide (show B ≠ mb by omega)
  clear hwa hB0 ba hM2 hBB b1 b2 HO
  go_loopw [18] (fun i wr => ∃ (k n : Nat), k ≤ l ∧ i = .int .i64 k ∧ n ≤ k ∧ Hid (RSet.Built w.heap.size B mb n wr (outL (askG ms f t) (zs.take k))) ∧ RSet.Two B mb wa wr) (fun i _ => l - (intOf i).toNat)
  case atStart => exact ⟨0, 0, Nat.zero_le _, rfl, Nat.le_refl _, HB0, RSet.Two.refl _ _ _⟩
  case round =>
    obtain ⟨k, n, hk, rfl, hnk, HB, h2⟩ := hrel
    have hsz := h2.size
    have hbel : Below w.heap.size w wr := bwa.trans (h2.below hlows hlowm (by omega))
    by_cases hlt : k < l
    · obtain ⟨b, off, rfl, hbl, hcells⟩ := hr (by omega)
      have fa := flat_at cs k (by have := unhide HC; omega)
      have hc0 : wr.cell? ⟨b, off + k * 2, none⟩ = some (cat cs k).1 := (hbel.cell (p := ⟨b, _, none⟩) hbl).trans (hcells (k * 2) _ fa.1)
      have hc1 : wr.cell? ⟨b, off + k * 2 + 1, none⟩ = some (cat cs k).2 := (hbel.cell (p := ⟨b, _, none⟩) hbl).trans (hcells (k * 2 + 1) _ fa.2)
      have hkz : k < zs.length := by have := unhide HN; omega
      have hEk := unhide HE k hkz
      have hgk := unhide HG (at' zs k) (at_mem zs k hkz)
      have hst := step_is (ok_at (unhide HOK) hkz)
      have hsn := outL_snoc (askG ms f t) zs k hkz
      have hah := outL_ahead (g := askG ms f t) (unhide HOK) hkz
      have hol := outL_len (askG ms f t) (zs.take k)
      rw [List.length_take] at hol
      obtain ⟨⟨ls, xs⟩, hX⟩ : ∃ x, x = at' zs k := ⟨_, rfl⟩
      rw [← hX] at hEk hgk hst hsn hah
      simp only at hst hah
      obtain ⟨c0, c1, hY⟩ : ∃ c0 c1, (c0, c1) = cat cs k := ⟨_, _, rfl⟩
      rw [← hY] at hc0 hc1 hEk
      have hE1 : Lab.Is w c0 ls := hEk.1
      have hE2 : Sam.Is w c1 xs := hEk.2
      obtain ⟨-, a0, q0, e0, -⟩ := hE1
      obtain ⟨-, a1, q1, e1, -⟩ := hE2
      have hE1 : Lab.Is w c0 ls := hEk.1
      have hE2 : Sam.Is w c1 xs := hEk.2
      clear fa hEk hX hY
      have hxne : xs ≠ [] := fun e => by rw [e] at hst; simp at hst
      have hk0 : (0 : Int) ≤ (k : Int) := Int.natCast_nonneg _
      have hk1 : (k : Int) < (l : Int) := by omega
      have hWf : ∀ o, Below wr.heap.size wr (wr.alloc o) := fun o => (Below.refl _ _).alloc (Nat.le_refl _) _
      cases hlet : Mat.mlet ms ls
      · have hg0 : askG ms f t (ls, xs) = [] := by unfold askG; rw [hlet]; rfl
        rw [hg0, if_pos rfl, List.append_nil] at hsn
        have HB' := hide (fun W (hb : Below wr.heap.size wr W) => show RSet.Built w.heap.size B mb n W (outL (askG ms f t) (zs.take (k + 1))) by rw [hsn]; exact (unhide HB).below hb)
        have HL := hide (fun W (hb : Below w.heap.size w W) => unhide HLet W hb c0 ls (hE1.below hb) hgk.1.2)
        rw [hlet] at HL
        clear hlet hgk hst hsn hah hg0 hE1 hE2
        subst e0 e1
        go_wp2_with fail
        obtain ⟨W, hW⟩ : ∃ W, W = wr.alloc (.cells #[.slice a0 ls.length q0, .slice a1 xs.length q1] 61) := ⟨_, rfl⟩
        rw [← hW]
        have bW : Below wr.heap.size wr W := by rw [hW]; exact hWf _
        clear hW
        refine (unhide HL W (hbel.trans (bW.mono (by omega)))).mono ?_
        rintro e w3 ⟨rfl, b3⟩
        have b4 := bW.trans (b3.mono bW.size)
        have HB2 := hide (unhide HB' w3 b4)
        clear HB' HL
        go_wp2_with fail
        go_roundw
        case rel => exact ⟨k + 1, n, by omega, by go_num, by omega, HB2, h2.trans (RSet.Two.of_below b4)⟩
        case measure => simp [intOf]; omega
      · have hgG : askG ms f t (ls, xs) = Samp.cutL xs f t := by unfold askG; rw [hlet]; rfl
        rw [hgG] at hsn
        have HL := hide (fun W (hb : Below w.heap.size w W) => unhide HLet W hb c0 ls (hE1.below hb) hgk.1.2)
        rw [hlet] at HL
        have hce : Samp.cut xs f t = Samp.cutL xs f t := by unfold Samp.cut; rw [hst.2.2.2]; rfl
        have HCut := hide (fun W (hb : Below w.heap.size w W) => Samp.impl_cut f t (smp_of_lies (hE2.below hb) hxne) (by omega))
        rw [hce] at HCut
        have hcok : SampMath.ok (Samp.cutL xs f t) = true := Samp.ok_filter hst.2.2.2 _
        have hcl : (Samp.cutL xs f t).length ≤ 1000 := Nat.le_trans (List.length_filter_le _ _) hst.2.2.1
        have hob : wr.heap.size ≠ B ∧ wr.heap.size ≠ mb := ⟨by omega, by omega⟩
        have HG1 := hide hgk.1.2
        have HO1 := hide hst.1
        have HE1 := hide hE1
        have HAh := hide hah
        have HLen := hide hol
        have HCok := hide (And.intro hcok hcl)
        have HSn := hide hsn
        clear hlet hgk hst hgG hsn hah hE1 hE2 hcok hcl hce hol hxne
        obtain ⟨D, hD⟩ : ∃ D, D = Samp.cutL xs f t := ⟨_, rfl⟩
        rw [← hD] at HCut HCok HSn
        clear hD
        obtain ⟨m, hm⟩ : ∃ m, m = D.length := ⟨_, rfl⟩
        rw [← hm] at HCut
        have HM := hide hm
        clear hm
        subst e0 e1
        go_wp2_with fail
        obtain ⟨W, hW⟩ : ∃ W, W = wr.alloc (.cells #[.slice a0 ls.length q0, .slice a1 xs.length q1] 61) := ⟨_, rfl⟩
        rw [← hW]
        have bW : Below wr.heap.size wr W := by rw [hW]; exact hWf _
        have zW : W.heap.size = wr.heap.size + 1 := by rw [hW]; simp
        have y0 : W.cell? ⟨wr.heap.size, 0, none⟩ = some (.slice a0 ls.length q0) := by rw [hW]; simp [go_sem]
        have y1 : W.cell? ⟨wr.heap.size, 1, none⟩ = some (.slice a1 xs.length q1) := by rw [hW]; simp [go_sem]
        clear hW
        refine (unhide HL W (hbel.trans (bW.mono (by omega)))).mono ?_
        rintro e w3 ⟨rfl, b3⟩
        have z3 := b3.size
        have b4 := bW.trans (b3.mono bW.size)
        have b5 : Below wr.heap.size wr w3.drew := b4.drew
        have S6 : (fun W : World => W.cell? ⟨wr.heap.size, 0, none⟩ = some (.slice a0 ls.length q0) ∧ W.cell? ⟨wr.heap.size, 1, none⟩ = some (.slice a1 xs.length q1)) w3.drew := ⟨by simpa using (b3.cell (p := ⟨wr.heap.size, 0, none⟩) (by show wr.heap.size < _; omega)).trans y0, by simpa using (b3.cell (p := ⟨wr.heap.size, 1, none⟩) (by show wr.heap.size < _; omega)).trans y1⟩
        have HC6 := hide (unhide HCut w3.drew (hbel.trans (b5.mono (by omega))))
        clear HL HCut y0 y1 b3 bW
        by_cases h0 : m = 0
        · subst h0
          have hDn : D = [] := List.eq_nil_of_length_eq_zero (unhide HM).symm
          have HB2 := hide (fun W (hb : Below wr.heap.size wr W) => show RSet.Built w.heap.size B mb n W (outL (askG ms f t) (zs.take (k + 1))) by rw [unhide HSn, if_pos hDn, List.append_nil]; exact (unhide HB).below hb)
          clear hDn HB
          go_wp2_with fail
          go_region_held3 (fun W => W.cell? ⟨wr.heap.size, 0, none⟩ = some (.slice a0 ls.length q0) ∧ W.cell? ⟨wr.heap.size, 1, none⟩ = some (.slice a1 xs.length q1)) (first | exact S6 | exact S7) ((first | (go_at_call 91; refine (unhide HC6).mono ?_; rintro e w7 ⟨cv, rfl, oc, b7⟩; obtain ⟨ca, cq, rfl⟩ : ∃ a q, cv = .slice a 0 q := (by obtain ⟨-, a, q, e, -⟩ := lies_of_own oc; exact ⟨a, q, e⟩); have S7 : (fun W : World => W.cell? ⟨wr.heap.size, 0, none⟩ = some (.slice a0 ls.length q0) ∧ W.cell? ⟨wr.heap.size, 1, none⟩ = some (.slice a1 xs.length q1)) w7 := ⟨(b7.cell (p := ⟨_, _, none⟩) (by show wr.heap.size < _; simp; omega)).trans S6.1, (b7.cell (p := ⟨_, _, none⟩) (by show wr.heap.size < _; simp; omega)).trans S6.2⟩) | (go_at_call 90; refine (RSet.put_none _ _ _ _).mono ?_; rintro e w8 ⟨rfl, hw8⟩; subst hw8)))
          have b8 := b5.trans (b7.mono b5.size)
          have HB3 := hide (unhide HB2 _ b8)
          clear S6 S7 HC6 HB2 oc b7
          go_wp2_with fail
          go_roundw
          case rel => exact ⟨k + 1, n, by omega, by go_num, by omega, HB3, h2.trans (RSet.Two.of_below b8)⟩
          case measure => simp [intOf]; omega
        · have HPut := hide (fun (W : World) (hb : Below wr.heap.size wr W) (ca : Option Addr) (cq : Nat) (hs : Samp.Smp W (.slice ca m cq) D) => RSet.built_new ((unhide HB).below hb) (by have := unhide HLen; omega) (by omega) (unhide HAh) ((unhide HE1).below (hbel.trans (hb.mono (by omega)))) (unhide HG1) (unhide HO1) hs (unhide HM).symm (unhide HCok).1 (by omega) (by have := (unhide HCok).2; have := unhide HM; omega) (by have := hb.size; omega))
          have HSn2 := hide (show outL (askG ms f t) (zs.take (k + 1)) = outL (askG ms f t) (zs.take k) ++ [(ls, D)] by rw [unhide HSn, if_neg (fun e => h0 (by rw [unhide HM, e]; rfl))])
          clear HB
          go_wp2_with fail
          go_region_held3 (fun W => W.cell? ⟨wr.heap.size, 0, none⟩ = some (.slice a0 ls.length q0) ∧ W.cell? ⟨wr.heap.size, 1, none⟩ = some (.slice a1 xs.length q1)) (first | exact S6 | exact S7 | exact S8) ((first | (go_at_call 91; refine (unhide HC6).mono ?_; rintro e w7 ⟨cv, rfl, oc, b7⟩; obtain ⟨ca, cq, rfl⟩ : ∃ a q, cv = .slice a m q := (by obtain ⟨-, a, q, e, -⟩ := lies_of_own oc; exact ⟨a, q, e⟩); have z7 := b7.size; simp only [World.size_drew] at z7; have S7 : (fun W : World => W.cell? ⟨wr.heap.size, 0, none⟩ = some (.slice a0 ls.length q0) ∧ W.cell? ⟨wr.heap.size, 1, none⟩ = some (.slice a1 xs.length q1)) w7 := ⟨(b7.cell (p := ⟨_, _, none⟩) (by show wr.heap.size < _; simp; omega)).trans S6.1, (b7.cell (p := ⟨_, _, none⟩) (by show wr.heap.size < _; simp; omega)).trans S6.2⟩) | (go_at_call 90; refine (unhide HPut _ (b5.trans (b7.mono b5.size)) ca cq (Samp.smp_of_own (by rw [← unhide HM]; exact oc))).mono ?_; rintro e w8 ⟨rfl, hB8, t8⟩; have S8 : (fun W : World => W.cell? ⟨wr.heap.size, 0, none⟩ = some (.slice a0 ls.length q0) ∧ W.cell? ⟨wr.heap.size, 1, none⟩ = some (.slice a1 xs.length q1)) w8 := ⟨(t8.cell (by omega) hob.1 hob.2).trans S7.1, (t8.cell (by omega) hob.1 hob.2).trans S7.2⟩)))
          have b8 := b5.trans (b7.mono b5.size)
          have HB3 := hide (show RSet.Built w.heap.size B mb (n + 1) w8 (outL (askG ms f t) (zs.take (k + 1))) by rw [unhide HSn2]; exact hB8)
          have t9 := (h2.trans (RSet.Two.of_below b8)).trans t8
          clear S6 S7 S8 HC6 HPut oc b7 t8 hB8
          go_wp2_with fail
          go_roundw
          case rel => exact ⟨k + 1, n + 1, by omega, by go_num, by omega, HB3, t9⟩
          case measure => simp [intOf]; omega
    · obtain rfl : k = l := by omega
      have hkz : k = zs.length := unhide HN
      have HRw := hide (RSet.built_rows (unhide HB) (outL_sorted (unhide HOK) k (by omega)) (by have := outL_len (askG ms f t) (zs.take k); rw [List.length_take] at this; omega) (outL_ok (unhide HOK) (by omega)) (by omega))
      have HT := hide (show outL (askG ms f t) (zs.take k) = ask ms f t zs by rw [unhide HR, List.take_of_length_le (by omega)])
      rw [unhide HT] at HRw
      clear hkz HB
      go_wp2_with fail
      refine (unhide HRw).mono ?_
      rintro e w9 ⟨r, rfl, ho, b9⟩
      have hb9 := hbel.trans (b9.mono (by omega))
      have HO9 := hide ho
      clear ho b9 HRw
      go_wp2_with fail
      go_ret
      exact ⟨r, rfl, unhide HO9, hb9⟩
end Go.Proofs.Ytdggffcibcggoaa.Row

/- MatchesLet of the model, at every slice of matches and of labels. -/
namespace Go.Proofs.Ytdggffcibcggoaa.Mat
open Go.RowKit Rw
set_option linter.unusedVariables false
attribute [local go_sem ↓] Go.wp_at_zero Go.wp_at_succ
set_option maxRecDepth 100000 in
set_option maxHeartbeats 4000000 in
theorem l3Let_any {w : World} {v : Value} {ls : List Lab.E} (K : Int) (A B : ByteArray) (h : Lab.Is w v ls) (hg : ∀ x ∈ ls, Lab.good x) (hB : B.size ≤ maxLen) :
    Calls Try.prog 154 #[.agg #[.int .i64 K, .string A, .string B], v] w fun e w' => e = .returned (.bool (letB (K, A, B) ls)) ∧ Below w.heap.size w w' := by
  have HU := hide (fun W (hb : Below w.heap.size w W) => l3Word_any A (h.below hb))
  have hXs := wordOf_size hg A
  obtain ⟨av, cv, ev⟩ : ∃ a c, v = .slice a ls.length c := by obtain ⟨-, a, c, e, -⟩ := h; exact ⟨a, c, e⟩
  subst ev
  clear h hg
  obtain ⟨R, hR⟩ : ∃ R, R = letB (K, A, B) ls := ⟨_, rfl⟩
  rw [← hR]
  unfold letB at hR
  simp only at hR
  have HR := hide hR
  clear hR
  generalize wordOf ls A = X at HU HR hXs
  unfold maxLen at hB hXs
  have HPE := hide (prefB_eq X B)
  obtain ⟨W, hW⟩ : ∃ W, W = w.alloc (.cells #[.int .i64 K, .string A, .string B] 119) := ⟨_, rfl⟩
  have hWb : Below w.heap.size w W := by rw [hW]; exact (Below.refl _ _).alloc (Nat.le_refl _) _
  have hWs : W.heap.size = w.heap.size + 1 := by rw [hW]; simp
  have q2 : ∀ x : Cls W.heap.size W, x.val.cell? ⟨w.heap.size, 2, none⟩ = some (.string B) := fun x => by rw [x.cell (by omega), hW]; simp
  have q0 : ∀ x : Cls W.heap.size W, x.val.cell? ⟨w.heap.size, 0, none⟩ = some (.int .i64 K) := fun x => by rw [x.cell (by omega), hW]; simp
  have HW := hide hW
  have HWs := hide hWs
  clear hW hWs
  have hne := cls_nonempty W.heap.size W
  have b0 : (0 : Int) ≤ (B.size : Int) := Int.natCast_nonneg _
  by_cases hlen : B.size ≤ X.size
  · have hge : (B.size : Int) ≤ (X.size : Int) := by omega
    cases hs : sameS (X.extract 0 B.size) B
    · have HPB := hide (show prefB X B = false by rw [unhide HPE, hs, decide_eq_true hlen]; rfl)
      have heq : ∀ W, (binOp .eql 9 (.string (X.extract 0 B.size)) (.string B)).run Try.prog W = .ok (.bool false) W := fun W => by rw [run_eqS, hs]
      have heq2 : ((X.extract 0 B.size).toList == B.toList) = false := hs
      clear hs
      go_enter Try.func154, Try.ntmps154
      go_wp2_with fail
      rw [← unhide HW]
      refine (unhide HU _ hWb).mono ?_
      rintro e w1 ⟨rfl, hw1⟩
      subst hw1
      go_wp2_with fail
      refine region_cls (by kernel_rfl) (by kernel_rfl) ?_
      repeat (go_big_quiet_step (fail))
      refine wpQuiet_nil ?_
      rintro wq ⟨⟨_, hq⟩, rfl⟩
      have k0 : wq.cell? ⟨w.heap.size, 0, none⟩ = some (.int .i64 K) := q0 ⟨wq, hq⟩
      have k2 : wq.cell? ⟨w.heap.size, 2, none⟩ = some (.string B) := q2 ⟨wq, hq⟩
      have cq := hWb.trans (hq.mono hWb.size)
      clear q0 q2 hq hne
      by_cases h1 : K = 1
      · subst h1
        have HF := hide (show R = sameS X B by rw [unhide HR]; rfl)
        go_wp2
        go_ret
        exact ⟨ret_bool (unhide HF).symm, cq⟩
      have e1 : (K == 1) = false := by simpa using h1
      by_cases h2 : K = 2
      · subst h2
        have HF := hide (show R = !sameS X B by rw [unhide HR]; rfl)
        go_wp2
        go_ret
        exact ⟨ret_bool (unhide HF).symm, cq⟩
      have e2 : (K == 2) = false := by simpa using h2
      by_cases h3 : K = 3
      · subst h3
        have HF := hide (show R = false by rw [unhide HR]; exact unhide HPB)
        go_wp2
        go_ret
        exact ⟨ret_bool (unhide HF).symm, cq⟩
      have e3 : (K == 3) = false := by simpa using h3
      have HF := hide (show R = true by rw [unhide HR, if_neg h1, if_neg h2, if_neg h3, unhide HPB]; rfl)
      go_wp2
      go_ret
      exact ⟨ret_bool (unhide HF).symm, cq⟩
    · have HPB := hide (show prefB X B = true by rw [unhide HPE, hs, decide_eq_true hlen]; rfl)
      have heq : ∀ W, (binOp .eql 9 (.string (X.extract 0 B.size)) (.string B)).run Try.prog W = .ok (.bool true) W := fun W => by rw [run_eqS, hs]
      have heq2 : ((X.extract 0 B.size).toList == B.toList) = true := hs
      clear hs
      go_enter Try.func154, Try.ntmps154
      go_wp2_with fail
      rw [← unhide HW]
      refine (unhide HU _ hWb).mono ?_
      rintro e w1 ⟨rfl, hw1⟩
      subst hw1
      go_wp2_with fail
      refine region_cls (by kernel_rfl) (by kernel_rfl) ?_
      repeat (go_big_quiet_step (fail))
      refine wpQuiet_nil ?_
      rintro wq ⟨⟨_, hq⟩, rfl⟩
      have k0 : wq.cell? ⟨w.heap.size, 0, none⟩ = some (.int .i64 K) := q0 ⟨wq, hq⟩
      have k2 : wq.cell? ⟨w.heap.size, 2, none⟩ = some (.string B) := q2 ⟨wq, hq⟩
      have cq := hWb.trans (hq.mono hWb.size)
      clear q0 q2 hq hne
      by_cases h1 : K = 1
      · subst h1
        have HF := hide (show R = sameS X B by rw [unhide HR]; rfl)
        go_wp2
        go_ret
        exact ⟨ret_bool (unhide HF).symm, cq⟩
      have e1 : (K == 1) = false := by simpa using h1
      by_cases h2 : K = 2
      · subst h2
        have HF := hide (show R = !sameS X B by rw [unhide HR]; rfl)
        go_wp2
        go_ret
        exact ⟨ret_bool (unhide HF).symm, cq⟩
      have e2 : (K == 2) = false := by simpa using h2
      by_cases h3 : K = 3
      · subst h3
        have HF := hide (show R = true by rw [unhide HR]; exact unhide HPB)
        go_wp2
        go_ret
        exact ⟨ret_bool (unhide HF).symm, cq⟩
      have e3 : (K == 3) = false := by simpa using h3
      have HF := hide (show R = false by rw [unhide HR, if_neg h1, if_neg h2, if_neg h3, unhide HPB]; rfl)
      go_wp2
      go_ret
      exact ⟨ret_bool (unhide HF).symm, cq⟩
  · have hge : decide ((B.size : Int) ≤ (X.size : Int)) = false := by simp; omega
    have HPB := hide (show prefB X B = false by rw [unhide HPE, decide_eq_false hlen]; rfl)
    go_enter Try.func154, Try.ntmps154
    go_wp2_with fail
    rw [← unhide HW]
    refine (unhide HU _ hWb).mono ?_
    rintro e w1 ⟨rfl, hw1⟩
    subst hw1
    go_wp2_with fail
    refine region_cls (by kernel_rfl) (by kernel_rfl) ?_
    repeat (go_big_quiet_step (fail))
    refine wpQuiet_nil ?_
    rintro wq ⟨⟨_, hq⟩, rfl⟩
    have k0 : wq.cell? ⟨w.heap.size, 0, none⟩ = some (.int .i64 K) := q0 ⟨wq, hq⟩
    have k2 : wq.cell? ⟨w.heap.size, 2, none⟩ = some (.string B) := q2 ⟨wq, hq⟩
    have cq := hWb.trans (hq.mono hWb.size)
    clear q0 q2 hq hne
    by_cases h1 : K = 1
    · subst h1
      have HF := hide (show R = sameS X B by rw [unhide HR]; rfl)
      go_wp2
      go_ret
      exact ⟨ret_bool (unhide HF).symm, cq⟩
    have e1 : (K == 1) = false := by simpa using h1
    by_cases h2 : K = 2
    · subst h2
      have HF := hide (show R = !sameS X B by rw [unhide HR]; rfl)
      go_wp2
      go_ret
      exact ⟨ret_bool (unhide HF).symm, cq⟩
    have e2 : (K == 2) = false := by simpa using h2
    by_cases h3 : K = 3
    · subst h3
      have HF := hide (show R = false by rw [unhide HR]; exact unhide HPB)
      go_wp2
      go_ret
      exact ⟨ret_bool (unhide HF).symm, cq⟩
    have e3 : (K == 3) = false := by simpa using h3
    have HF := hide (show R = true by rw [unhide HR, if_neg h1, if_neg h2, if_neg h3, unhide HPB]; rfl)
    go_wp2
    go_ret
    exact ⟨ret_bool (unhide HF).symm, cq⟩
end Go.Proofs.Ytdggffcibcggoaa.Mat
