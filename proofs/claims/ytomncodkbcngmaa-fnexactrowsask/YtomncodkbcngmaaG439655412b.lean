/- My own texts of one claim, laid together by program: RowAsk2, RowMark. -/
import Derived.Test.YtomncodkbcngmaaG244a228dc2
import Derived.Test.YtomncodkbcngmaaG427b54fe01
import Derived.Test.YtomncodkbcngmaaGf3dc792d5e
/- RowsAsk of the model. -/
namespace Go.Proofs.Ytomncodkbcngmaa.Row
open Go.RowKit Rw
set_option linter.unusedVariables false
attribute [local go_sem ↓] Go.wp_at_zero Go.wp_at_succ
theorem own_grown {w wn : World} {row : Option Nat} (hg : w.grownBy wn row) {base n size : Nat} {e : TypeId} {v : Value} {xs : List Value} (ho : w.ownsRow base e size v n xs) (hne : ∀ k, v.ownBlock = some k → row ≠ some k) : wn.ownsRow base e size v n xs := by
  refine ⟨ho.1, ?_⟩
  rcases ho.2 with h1 | ⟨c, cap, cur, h1, h2, h3, h4⟩
  · exact .inl h1
  · refine .inr ⟨c, cap, cur, h1, h2, ?_, h4⟩
    rw [hg.block c (own_block_lt ho c (by rw [h1]; rfl)) (fun e => hne c (by rw [h1]; rfl) e.symm)]
    exact h3
theorem at_lt (L : List E) (x : E) (i : Nat) (h : i < L.length) : at' (L ++ [x]) i = at' L i := by simp [at', List.getD, List.getElem?_append_left h]
theorem at_last (L : List E) (x : E) : at' (L ++ [x]) L.length = x := by simp [at', List.getD]
/-- a row more behind rows of the call's own -/
theorem own_snoc {lo : Nat} {w wn : World} {pv vn vl xv : Value} {L : List E} {cs : List C} {x : E} (h1 : cs.length = L.length) (h2 : w.ownsRow lo 67 2 pv L.length (flatOf cl cs)) (h5 : ApartF L.length (fun i => (cat cs i).1)) (h6 : ApartF L.length (fun i => (cat cs i).2))
    (h7 : ∀ i, i < L.length → w.ownsRow lo 91 2 (cat cs i).1 (at' L i).1.length (Lab.flat (at' L i).1) ∧ w.ownsRow lo 46 2 (cat cs i).2 (at' L i).2.length (Sam.flat (at' L i).2))
    (gn : w.grownBy wn pv.ownBlock) (on : wn.ownsRow lo 67 2 vn (L.length + 1) (flatOf cl cs ++ [vl, xv])) (hl : w.ownsRow lo 91 2 vl x.1.length (Lab.flat x.1)) (hx : w.ownsRow lo 46 2 xv x.2.length (Sam.flat x.2))
    (nl : ∀ i, i < L.length → ∀ k, (cat cs i).1.ownBlock = some k → vl.ownBlock ≠ some k) (nx : ∀ i, i < L.length → ∀ k, (cat cs i).2.ownBlock = some k → xv.ownBlock ≠ some k) : Own lo wn.heap.size wn vn (L ++ [x]) := by
  have keepL : ∀ {n v} {xs : List Value}, w.ownsRow lo 91 2 v n xs → wn.ownsRow lo 91 2 v n xs := fun ho => own_grown gn ho (fun k hk e => own_ne_type ho h2 (by decide) k hk e)
  have keepS : ∀ {n v} {xs : List Value}, w.ownsRow lo 46 2 v n xs → wn.ownsRow lo 46 2 v n xs := fun ho => own_grown gn ho (fun k hk e => own_ne_type ho h2 (by decide) k hk e)
  refine ⟨cs ++ [(vl, xv)], by simp [h1], by rw [List.length_append, flatOf_append, flatOf_one]; exact on, own_block_lt on, Nat.le_refl _, by rw [List.length_append]; exact apart_snoc h1 (·.1) h5 nl, by rw [List.length_append]; exact apart_snoc h1 (·.2) h6 nx, fun i hi => ?_⟩
  rw [List.length_append, List.length_cons, List.length_nil] at hi
  by_cases hi' : i < L.length
  · rw [cat_lt _ _ _ (by omega), at_lt _ _ _ hi']
    have := h7 i hi'
    exact ⟨⟨keepL this.1, keepS this.2⟩, own_block_lt (keepL this.1), own_block_lt (keepS this.2)⟩
  · obtain rfl : i = L.length := by omega
    rw [at_last, show cat (cs ++ [(vl, xv)]) L.length = (vl, xv) by rw [← h1]; exact cat_last _ _]
    exact ⟨⟨keepL hl, keepS hx⟩, own_block_lt (keepL hl), own_block_lt (keepS hx)⟩
theorem mlet_is {ms : List Mat.E} {ls : List Lab.E} (h : Mat.ok ms = true) (h' : Lab.ok ls = true) : Mat.mlet ms ls = Mat.lets ms ls := by unfold Mat.mlet; rw [h, h']; rfl
set_option maxRecDepth 100000 in
set_option maxHeartbeats 8000000 in
theorem l5ask {w : World} {v u : Value} {zs : List E} {ms : List Mat.E} (f t : Int) (h : Is w v zs) (hm : Mat.Is w u ms) (hg : ∀ x ∈ zs, good x) (hmg : ∀ x ∈ ms, Mat.good x) (hok : ok zs = true) (hmok : Mat.ok ms = true) :
    Calls Try.prog 39 #[v, u, .int .i64 f, .int .i64 t] w fun e w' => ∃ r, e = .returned r ∧ Own w.heap.size w'.heap.size w' r (outL (askG ms f t) zs) ∧ Below w.heap.size w w' := by
  obtain ⟨i0, hi, hz0, hz1, hz2⟩ := info_parts Row.info_e
  obtain ⟨i1, hi1, hy0, hy1, hy2⟩ := info_parts Lab.info_e
  obtain ⟨au, nu, cu, eu⟩ : ∃ a n c, u = .slice a n c := by obtain ⟨-, a, c, e, -⟩ := hm; exact ⟨a, _, c, e⟩
  subst eu
  have HOK := hide hok
  have hn10 := ok_len hok
  have HLet := hide (fun W (hb : Below w.heap.size w W) (lv : Value) (ls : List Lab.E) (hl : Lab.Is W lv ls) (hlg : ∀ x ∈ ls, Lab.good x) => Mat.l3Lets_any (hm.below hb) hl hmg hlg)
  obtain ⟨cs, hcs, hL, hE⟩ := h
  have HE := hide hE
  have HG := hide hg
  have HMO := hide hmok
  obtain ⟨-, a, cap, rfl, hc, hmx, -, hr⟩ := hL
  unfold maxLen at hmx
  obtain ⟨l, hl⟩ : ∃ l, l = zs.length := ⟨_, rfl⟩
  rw [← hl] at hc hr hcs hn10 ⊢
  have HN := hide hl
  have HC := hide hcs
  clear hl hE hcs hg hm hmg hok hmok
  have HI0 := hide (show Own w.heap.size (w.alloc (.cells #[] 67)).heap.size (w.alloc (.cells #[] 67)) (.slice (some ⟨w.heap.size, 0, none⟩) 0 0) (outL (askG ms f t) (zs.take 0)) from ⟨[], rfl, Str.own_empty' (Nat.le_refl _) rfl, own_block_lt (Str.own_empty' (base := w.heap.size) (e := 67) (size := 2) (Nat.le_refl _) rfl), Nat.le_refl _, fun i j _ h => absurd h (Nat.not_lt_zero _), fun i j _ h => absurd h (Nat.not_lt_zero _), fun i h => absurd h (Nat.not_lt_zero _)⟩)
  have B0 : Below w.heap.size w (w.alloc (.cells #[] 67)) := (Below.refl _ _).alloc (Nat.le_refl _) _
  go_enter Try.func39, Try.ntmps39
  go_wp2_with fail
  go_loopw [9, 10] (fun pv i wr => ∃ (k n : Nat) (pa : Option Addr) (pc : Nat), k ≤ l ∧ i = .int .i64 k ∧ pv = .slice pa n pc ∧ Hid (Own w.heap.size wr.heap.size wr pv (outL (askG ms f t) (zs.take k)) ∧ n = (outL (askG ms f t) (zs.take k)).length ∧ n ≤ k) ∧ Below w.heap.size w wr) (fun _ i _ => l - (intOf i).toNat)
  case atStart => exact ⟨0, 0, _, 0, Nat.zero_le _, rfl, rfl, hide ⟨unhide HI0, rfl, Nat.le_refl _⟩, B0⟩
  case round =>
    clear HI0 B0
    obtain ⟨k, n, pa, pc, hk, rfl, rfl, HO, hbel⟩ := hrel
    have hsz := hbel.size
    by_cases hlt : k < l
    · obtain ⟨b, off, rfl, hbl, hcells⟩ := hr (by omega)
      have fa := flat_at cs k (by have := unhide HC; omega)
      have hc0 : wr.cell? ⟨b, off + k * 2, none⟩ = some (cat cs k).1 := (hbel.cell (p := ⟨b, _, none⟩) hbl).trans (hcells (k * 2) _ fa.1)
      have hc1 : wr.cell? ⟨b, off + k * 2 + 1, none⟩ = some (cat cs k).2 := (hbel.cell (p := ⟨b, _, none⟩) hbl).trans (hcells (k * 2 + 1) _ fa.2)
      have hkz : k < zs.length := by have := unhide HN; omega
      have hEk := unhide HE k hkz
      have hgk := unhide HG (at' zs k) (at_mem zs k hkz)
      have hst := step_is (ok_at (unhide HOK) hkz)
      have hsn := outL_snoc (askG ms f t) zs k hkz
      obtain ⟨⟨ls, xs⟩, hX⟩ : ∃ x, x = at' zs k := ⟨_, rfl⟩
      rw [← hX] at hEk hgk hst hsn
      simp only at hst
      obtain ⟨c0, c1, hY⟩ : ∃ c0 c1, (c0, c1) = cat cs k := ⟨_, _, rfl⟩
      rw [← hY] at hc0 hc1 hEk
      have hE1 : Lab.Is w c0 ls := hEk.1
      have hE2 : Sam.Is w c1 xs := hEk.2
      obtain ⟨-, a0, q0, e0, -⟩ := hE1
      obtain ⟨-, a1, q1, e1, -⟩ := hE2
      have hE1 : Lab.Is w c0 ls := hEk.1
      have hE2 : Sam.Is w c1 xs := hEk.2
      clear fa hEk hX hY
      have hxne : xs ≠ [] := fun e => by rw [e] at hst; simp at hst
      have hk0 : (0 : Int) ≤ (k : Int) := Int.natCast_nonneg _
      have hk1 : (k : Int) < (l : Int) := by omega
      have HL := hide (fun W (hb : Below w.heap.size w W) => unhide HLet W hb c0 ls (hE1.below hb) hgk.1.2)
      rw [← mlet_is (unhide HMO) hst.1] at HL
      have HCut := hide (Samp.l2cut f t (smp_of_lies (hE2.below hbel) hxne) (by omega))
      have hcl : (Samp.cutL xs f t).length ≤ 1000 := Nat.le_trans (List.length_filter_le _ _) hst.2.2.1
      have hsmall := (Lab.ok_small hst.1).1
      have HE1 := hide (fun W (hb : Below w.heap.size w W) => hE1.below hb)
      have hgG : askG ms f t (ls, xs) = if Mat.mlet ms ls = true then Samp.cutL xs f t else [] := rfl
      rw [hgG] at hsn
      obtain ⟨D, hD⟩ : ∃ D, D = Samp.cutL xs f t := ⟨_, rfl⟩
      rw [← hD] at HCut hcl hsn
      simp only [RSet.flat_eq] at HCut
      clear hD
      obtain ⟨m, hm⟩ : ∃ m, m = D.length := ⟨_, rfl⟩
      rw [← hm] at HCut hcl
      have HM := hide hm
      obtain ⟨ll, hll⟩ : ∃ ll, ll = ls.length := ⟨_, rfl⟩
      rw [← hll] at e0 hsmall
      have HLL := hide hll
      clear hm hE1 hE2 hgk hst hxne hgG hll
      subst e0 e1
      go_wp2_with fail
      refine (unhide HCut).mono ?_
      rintro e w2 ⟨xv, rfl, ox, b2⟩
      obtain ⟨xa, xq, rfl⟩ : ∃ a q, xv = .slice a m q := by obtain ⟨-, a, q, e, -⟩ := lies_of_own ox; exact ⟨a, q, e⟩
      have z2 := b2.size
      have hbel2 := hbel.trans (b2.mono hsz)
      have hc0' := (b2.cell (p := ⟨b, off + k * 2, none⟩) (by show b < _; omega)).trans hc0
      have HL2 := hide (unhide HL w2 hbel2)
      clear HCut HL
      go_wp2_with fail
      refine (unhide HL2).mono ?_
      rintro e w3 ⟨rfl, b3⟩
      have z3 := b3.size
      have hbel3 := hbel2.trans (b3.mono (by omega))
      have hc0'' := (b3.cell (p := ⟨b, off + k * 2, none⟩) (by show b < _; omega)).trans hc0'
      have b23 := b2.trans (b3.mono b2.size)
      clear HL2 hc0' hc1
      cases hlet : Mat.mlet ms ls
      · rw [hlet] at hsn
        have HO' := hide (show Own w.heap.size w3.heap.size w3 (.slice pa n pc) (outL (askG ms f t) (zs.take (k + 1))) ∧ n = (outL (askG ms f t) (zs.take (k + 1))).length ∧ n ≤ k + 1 by
          simp only [Bool.false_eq_true, if_false, if_true, List.append_nil] at hsn
          rw [hsn]
          have h1 := unhide HO
          have h2 := h1.1.below b23
          obtain ⟨cs', g1, g2, g3, g4, g5⟩ := h2
          exact ⟨⟨cs', g1, g2, fun k hk => by have := g3 k hk; omega, Nat.le_refl _, g5.1, g5.2.1, fun i hi => ⟨(g5.2.2 i hi).1, fun k hk => by have := (g5.2.2 i hi).2.1 k hk; omega, fun k hk => by have := (g5.2.2 i hi).2.2 k hk; omega⟩⟩, h1.2.1, by omega⟩)
        clear HO hsn hlet
        go_wp2_with fail
        go_roundw
        case rel => exact ⟨k + 1, n, pa, pc, by omega, by go_num, rfl, HO', hbel3⟩
        case measure => simp [intOf]; omega
      · rw [hlet] at hsn
        simp only [if_true] at hsn
        by_cases h0 : m = 0
        · have hDn : D = [] := List.eq_nil_of_length_eq_zero ((unhide HM).symm.trans h0)
          rw [if_pos hDn, List.append_nil] at hsn
          have HO' := hide (show Own w.heap.size w3.heap.size w3 (.slice pa n pc) (outL (askG ms f t) (zs.take (k + 1))) ∧ n = (outL (askG ms f t) (zs.take (k + 1))).length ∧ n ≤ k + 1 by
            rw [hsn]
            have h1 := unhide HO
            have h2 := h1.1.below b23
            obtain ⟨cs', g1, g2, g3, g4, g5⟩ := h2
            exact ⟨⟨cs', g1, g2, fun k hk => by have := g3 k hk; omega, Nat.le_refl _, g5.1, g5.2.1, fun i hi => ⟨(g5.2.2 i hi).1, fun k hk => by have := (g5.2.2 i hi).2.1 k hk; omega, fun k hk => by have := (g5.2.2 i hi).2.2 k hk; omega⟩⟩, h1.2.1, by omega⟩)
          subst h0
          clear HO hsn hlet hDn
          go_wp2_with fail
          go_roundw
          case rel => exact ⟨k + 1, n, pa, pc, by omega, by go_num, rfl, HO', hbel3⟩
          case measure => simp [intOf]; omega
        · rw [if_neg (fun e => h0 (by rw [unhide HM, e]; rfl))] at hsn
          have hgt : 0 < m := by omega
          have hgI : (0 : Int) < (m : Int) := by omega
          obtain ⟨hO1, hO2, hO3⟩ := unhide HO
          obtain ⟨ds, g1, g2, g3, g4, g5, g6, g7⟩ := hO1
          rw [← hO2] at g2
          have G2 := own_below g2 b23
          have HLd := hide (unhide HE1 w3 hbel3)
          have oe : (w3.alloc (.cells #[] 91)).ownsRow w3.heap.size 91 2 (.slice (some ⟨w3.heap.size, 0, none⟩) 0 0) 0 [] := own_empty (Nat.le_refl _)
          have be : Below w3.heap.size w3 (w3.alloc (.cells #[] 91)) := (Below.refl _ _).alloc (Nat.le_refl _) _
          have le : Lies (w3.alloc (.cells #[] 91)) (.slice a0 ll q0) ll 2 (Lab.flat ls) := by have := (unhide HLd).below be; rw [unhide HLL]; rw [unhide HLL] at this; exact this
          have hb3 : b < w3.heap.size := by omega
          have hb3n : ¬ b = w3.heap.size := by omega
          have hc0e : (w3.alloc (.cells #[] 91)).cell? ⟨b, off + k * 2, none⟩ = some (.slice a0 ll q0) := (be.cell (p := ⟨b, _, none⟩) hb3).trans hc0''
          have hmx1 : 1 ≤ maxLen := by unfold maxLen; omega
          have HO1 := hide (And.intro g1 (And.intro g5 (And.intro g6 g7)))
          have HO2 := hide hO2
          have HSn := hide hsn
          have hn10' : n ≤ 10 := by omega
          clear HO g1 g3 g4 g5 g6 g7 hO2 hsn hlet g2
          go_wp2_with (first | (at_builtin; refine app_wp _ rfl (.tmp 40) (.tmp 45) _ rfl w3.heap.size 91 i1 _ 2 32 Try.underlying44 hi1 hy0 hy1 hy2 rfl (by omega) _ 0 [] rfl oe _ ll (Lab.flat ls) rfl le (Lab.flat_oneCell _) (by unfold maxLen; omega) (by omega) (by simp) ?_; intro vl wl ol gl al; rw [Nat.zero_add, List.nil_append] at ol; have bl : Below w3.heap.size w3 wl := below_grown be (by simp) gl (fun k hk => by cases hk; exact Nat.le_refl _); obtain ⟨la, lq, rfl⟩ : ∃ a q, vl = .slice a ll q := (by obtain ⟨-, a, q, e, -⟩ := lies_of_own ol; exact ⟨a, q, e⟩); have zl := bl.size; have G2l := own_below G2 bl; clear gl al le be oe) | (at_builtin; refine app_wp _ rfl (.tmp 39) (.tmp 49) _ rfl w.heap.size 67 i0 _ 2 48 Try.underlying26 hi hz0 hz1 hz2 rfl (by omega) _ n _ rfl (World.ownsRow.alloc G2l _) _ 1 [.slice la ll lq, .slice xa m xq] rfl (lies_new (w := wl) (by simp) rfl hmx1) (by simp [Value.oneCell']) (by unfold maxLen; omega) (by omega) (by simp; omega) ?_; intro vn wn on gn an))
          have hbl := hbel3.trans (bl.mono (by omega))
          have R9 : Below w.heap.size w wn := below_grown (hbl.alloc (by omega) _) (by simp; omega) gn (own_ge G2)
          have HO' := hide (show Own w.heap.size wn.heap.size wn vn (outL (askG ms f t) (zs.take (k + 1))) ∧ n + 1 = (outL (askG ms f t) (zs.take (k + 1))).length ∧ n + 1 ≤ k + 1 by
            obtain ⟨g1, g5, g6, g7⟩ := unhide HO1
            rw [unhide HSn]
            refine ⟨own_snoc (w := wl.alloc (.cells #[.slice la ll lq, .slice xa m xq] 67)) (pv := .slice pa n pc) (vl := .slice la ll lq) (xv := .slice xa m xq) g1 (by rw [← unhide HO2]; exact World.ownsRow.alloc G2l _) g5 g6 (fun i hi => ⟨World.ownsRow.alloc (own_below (own_below (g7 i hi).1.1 b23) bl) _, World.ownsRow.alloc (own_below (own_below (g7 i hi).1.2 b23) bl) _⟩) gn (by rw [← unhide HO2]; exact on) (by simp only; rw [← unhide HLL]; exact World.ownsRow.alloc (own_mono ol (by omega)) _) (by simp only; rw [← unhide HM]; exact World.ownsRow.alloc (own_below (own_below (own_mono ox (by omega)) b3) bl) _) (fun i hi k hk hk' => by have h1 := own_block_lt (g7 i hi).1.1 k hk; have h2 := own_ge ol k hk'; omega) (fun i hi k hk hk' => by have h1 := own_block_lt (g7 i hi).1.2 k hk; have h2 := own_ge ox k hk'; omega), by rw [List.length_append, ← unhide HO2]; rfl, by omega⟩)
          obtain ⟨an', cn, hvn⟩ : ∃ a c, vn = .slice a (n + 1) c := by obtain ⟨-, a, c, e, -⟩ := lies_of_own on; exact ⟨a, c, e⟩
          have HV := hide hvn
          clear on gn an hvn ol ox G2 G2l HO1 HO2 HSn bl hbl
          go_wp2_with fail
          go_roundw
          case rel => exact ⟨k + 1, n + 1, an', cn, by omega, by go_num, unhide HV, HO', R9⟩
          case measure => simp [intOf]; omega
    · obtain rfl : k = l := by omega
      have HO' := hide (show Own w.heap.size wr.heap.size wr (.slice pa n pc) (outL (askG ms f t) zs) by have := (unhide HO).1; rwa [List.take_of_length_le (by have := unhide HN; omega)] at this)
      clear HO
      go_wp2
      go_ret
      exact ⟨_, rfl, unhide HO', hbel⟩
set_option maxHeartbeats 2000000 in
theorem spec_ask {w : World} {v u : Value} {zs : List E} {ms : List Mat.E} (f t : Int) (h : Is w v zs) (hm : Mat.Is w u ms) (hg : ∀ x ∈ zs, good x) (hlen : zs.length ≤ maxLen) (hmg : ∀ x ∈ ms, Mat.good x) (hml : ms.length ≤ maxLen) :
    Calls Try.prog 10 #[v, u, .int .i64 f, .int .i64 t] w fun e w' => ∃ r, e = .returned r ∧ Own w.heap.size w'.heap.size w' r (ask ms f t zs) ∧ Below w.heap.size w w' := by
  have H1 := hide (spec_ok h hg hlen)
  have H2 := hide (fun W (hb : Below w.heap.size w W) => Mat.spec_ok (hm.below hb) hmg hml)
  obtain ⟨av, nv, cv, ev⟩ : ∃ a n c, v = .slice a n c := by obtain ⟨cs, -, hL, -⟩ := h; obtain ⟨-, a, c, e, -⟩ := hL; exact ⟨a, _, c, e⟩
  obtain ⟨au, nu, cu, eu⟩ : ∃ a n c, u = .slice a n c := by obtain ⟨-, a, c, e, -⟩ := hm; exact ⟨a, _, c, e⟩
  have empty : ∀ w1 : World, Below w.heap.size w w1 → Own w.heap.size (w1.alloc (.cells #[] 67)).heap.size (w1.alloc (.cells #[] 67)) (.slice (some ⟨w1.heap.size, 0, none⟩) 0 0) [] := fun w1 b1 => ⟨[], rfl, own_empty b1.size, own_block_lt (own_empty (base := w.heap.size) (e := 67) (size := 2) b1.size), Nat.le_refl _, fun i j _ h => absurd h (Nat.not_lt_zero _), fun i j _ h => absurd h (Nat.not_lt_zero _), fun i h => absurd h (Nat.not_lt_zero _)⟩
  cases ho : ok zs
  · have HR := hide (show ask ms f t zs = [] by unfold ask; rw [ho]; rfl)
    rw [ho] at H1
    have HEm := hide empty
    clear h hm hg hmg ho empty
    subst ev eu
    go_enter Try.func10, Try.ntmps10
    go_wp2_with fail
    refine (unhide H1).mono ?_
    rintro e w1 ⟨rfl, b1⟩
    have he := hide (unhide HEm w1 b1)
    have b2 := b1.alloc b1.size (.cells #[] 67)
    clear HEm
    go_wp2_with fail
    go_ret
    exact ⟨_, rfl, by rw [unhide HR]; exact unhide he, b2⟩
  cases hmo : Mat.ok ms
  · have HR := hide (show ask ms f t zs = [] by
      unfold ask
      rw [ho]
      simp only [if_true]
      unfold outL
      rw [List.flatMap_eq_nil_iff]
      intro x _
      rw [if_pos (show askG ms f t x = [] by unfold askG Mat.mlet; rw [hmo]; rfl)])
    rw [ho] at H1
    rw [hmo] at H2
    have HEm := hide empty
    clear h hm hg hmg ho empty hmo
    subst ev eu
    go_enter Try.func10, Try.ntmps10
    go_wp2_with fail
    refine (unhide H1).mono ?_
    rintro e w1 ⟨rfl, b1⟩
    go_wp2_with fail
    refine (unhide H2 w1 b1).mono ?_
    rintro e w2 ⟨rfl, b2⟩
    have b12 := b1.trans (b2.mono b1.size)
    have he := hide (unhide HEm w2 b12)
    have b3 := b12.alloc b12.size (.cells #[] 67)
    clear HEm
    go_wp2_with fail
    go_ret
    exact ⟨_, rfl, by rw [unhide HR]; exact unhide he, b3⟩
  · have HR := hide (show ask ms f t zs = outL (askG ms f t) zs by unfold ask; rw [ho]; rfl)
    have H3 := hide (fun W (hb : Below w.heap.size w W) => l5ask f t (h.below hb) (hm.below hb) hg hmg ho hmo)
    rw [ho] at H1
    rw [hmo] at H2
    clear h hm hg hmg ho empty hmo
    subst ev eu
    go_enter Try.func10, Try.ntmps10
    go_wp2_with fail
    refine (unhide H1).mono ?_
    rintro e w1 ⟨rfl, b1⟩
    go_wp2_with fail
    refine (unhide H2 w1 b1).mono ?_
    rintro e w2 ⟨rfl, b2⟩
    have b12 := b1.trans (b2.mono b1.size)
    go_wp2_with fail
    refine (unhide H3 w2 b12).mono ?_
    rintro e w3 ⟨r, rfl, o3, b3⟩
    have b13 := b12.trans (b3.mono b12.size)
    have O3 := hide (show Own w.heap.size w3.heap.size w3 r (ask ms f t zs) by rw [unhide HR]; obtain ⟨cs, g1, g2, g3, g4, g5, g6, g7⟩ := o3; exact ⟨cs, g1, own_mono g2 b12.size, g3, g4, g5, g6, fun i hi => ⟨⟨own_mono (g7 i hi).1.1 b12.size, own_mono (g7 i hi).1.2 b12.size⟩, (g7 i hi).2⟩⟩)
    clear o3 b3
    go_wp2_with fail
    go_ret
    exact ⟨r, rfl, unhide O3, b13⟩
end Go.Proofs.Ytomncodkbcngmaa.Row

/- What the laws' own helpers do to mark rows, and to see that the marks are held. -/
namespace Go.Proofs.Ytomncodkbcngmaa.Row
open Go.RowKit Rw
set_option linter.unusedVariables false
attribute [local go_sem ↓] Go.wp_at_zero Go.wp_at_succ
def cntE (x : E) : Nat := 2 * x.1.length + 2 * x.2.length
def cntTo (zs : List E) (i : Nat) : Nat := ((zs.take i).map cntE).sum
def cnt (zs : List E) : Nat := cntTo zs zs.length
theorem cntTo_succ (zs : List E) (j : Nat) (h : j < zs.length) : cntTo zs (j + 1) = cntTo zs j + cntE (at' zs j) := by
  unfold cntTo
  rw [List.take_succ_eq_append_getElem h, List.map_append, List.sum_append, at_get zs j h]
  simp
theorem cntTo_mono (zs : List E) : ∀ (i j : Nat), i ≤ j → j ≤ zs.length → cntTo zs i ≤ cntTo zs j
  | i, 0, h, _ => by obtain rfl : i = 0 := by omega
                     exact Nat.le_refl _
  | i, j + 1, h, hl => by
    by_cases e : i = j + 1
    · subst e; exact Nat.le_refl _
    · have h1 := cntTo_mono zs i j (by omega) (by omega)
      rw [cntTo_succ zs j (by omega)]
      omega
theorem cntTo_le (zs : List E) (j : Nat) (h : j < zs.length) : cntTo zs j + cntE (at' zs j) ≤ cnt zs := by
  rw [← cntTo_succ zs j h]
  exact cntTo_mono zs _ _ (by omega) (Nat.le_refl _)
def mkAt (k0 : Nat) (zs : List E) (i : Nat) : E := (Lab.marks (k0 + cntTo zs i) (at' zs i).1.length, Sam.marks (k0 + cntTo zs i + 2 * (at' zs i).1.length) (at' zs i).2.length)
def mk (k0 : Nat) (zs : List E) : List E := (List.range zs.length).map (mkAt k0 zs)
theorem mk_length (k0 : Nat) (zs : List E) : (mk k0 zs).length = zs.length := by simp [mk]
theorem mk_at (k0 : Nat) (zs : List E) (i : Nat) (h : i < zs.length) : at' (mk k0 zs) i = mkAt k0 zs i := by
  rw [at_get _ _ (by rw [mk_length]; exact h)]
  simp [mk]
/-- what row i holds when j rows are marked -/
def cur (k0 : Nat) (zs : List E) (j i : Nat) : E := if i < j then mkAt k0 zs i else at' zs i
set_option maxRecDepth 100000 in
set_option maxHeartbeats 4000000 in
theorem mark_some {lo hi g n cap : Nat} {zs : List E} {w : World} (k0 : Nat) (hk1 : 1 ≤ k0) (hk2 : k0 ≤ 100000000) (hn : zs.length = n) (ht : cnt zs ≤ 2097152) (hnb : n ≤ 2097152) (h : Own lo hi w (.slice (some ⟨g, 0, none⟩) n cap) zs) :
    Calls Try.prog 16 #[.slice (some ⟨g, 0, none⟩) n cap, .int .i64 k0] w fun e w' => ∃ k : Nat, e = .returned (.int .i64 k) ∧ k = k0 + cnt zs ∧ Own lo hi w' (.slice (some ⟨g, 0, none⟩) n cap) (mk k0 zs) ∧ Zone lo hi w w' := by
  obtain ⟨cs, h1, h2, h3, h4, h5, h6, h7⟩ := h
  rw [hn] at h1 h2 h5 h6 h7
  have HN := hide hn
  have HI := hide (fun i (hi' : i < n) => (h7 i hi').2)
  have HR := hide (show ∀ i, i < n → w.ownsRow lo 91 2 (cat cs i).1 (cur k0 zs 0 i).1.length (Lab.flat (cur k0 zs 0 i).1) ∧ w.ownsRow lo 46 2 (cat cs i).2 (cur k0 zs 0 i).2.length (Sam.flat (cur k0 zs 0 i).2) from fun i hi' => by rw [show cur k0 zs 0 i = at' zs i from if_neg (by omega)]; exact (h7 i hi').1)
  have HA1 := hide h5
  have HA2 := hide h6
  have HC := hide h1
  have HTT := hide ht
  have H34 := hide (And.intro h3 h4)
  clear h5 h6 h7 h1 hn ht h3 h4
  go_enter Try.func16, Try.ntmps16
  go_wp2
  go_loopw [1, 5] (fun kv i wr => ∃ (j q : Nat), j ≤ n ∧ i = .int .i64 j ∧ kv = .int .i64 q ∧ Hid (q = k0 + cntTo zs j) ∧ wr.ownsRow lo 67 2 (.slice (some ⟨g, 0, none⟩) n cap) n (flatOf cl cs) ∧ Hid (∀ i, i < n → wr.ownsRow lo 91 2 (cat cs i).1 (cur k0 zs j i).1.length (Lab.flat (cur k0 zs j i).1) ∧ wr.ownsRow lo 46 2 (cat cs i).2 (cur k0 zs j i).2.length (Sam.flat (cur k0 zs j i).2)) ∧ Zone lo hi w wr) (fun _ i _ => n - (intOf i).toNat)
  case atStart => exact ⟨0, k0, Nat.zero_le _, rfl, rfl, hide (by simp [cntTo]), h2, HR, Zone.refl _ _ _⟩
  case round =>
    clear HR h2
    obtain ⟨j, q, hj, rfl, rfl, HQ, ho, HR, hzn⟩ := hrel
    by_cases hlt : j < n
    · have fa := flat_at cs j (by have := unhide HC; omega)
      have hc0 : wr.cell? ⟨g, j * 2, none⟩ = some (cat cs j).1 := by rw [ho.cellAt (j * 2) (by omega)]; exact fa.1
      have hc1 : wr.cell? ⟨g, j * 2 + 1, none⟩ = some (cat cs j).2 := by rw [ho.cellAt (j * 2 + 1) (by omega)]; exact fa.2
      have h0 : (0 : Int) ≤ (j : Int) := Int.natCast_nonneg _
      have h1 : (j : Int) < (n : Int) := by omega
      have hq := unhide HQ
      have hle := cntTo_le zs j (by have := unhide HN; omega)
      unfold cntE at hle
      have hxo := unhide HR j hlt
      rw [show cur k0 zs j j = at' zs j from if_neg (Nat.lt_irrefl _)] at hxo
      have HM := hide (Lab.mark_any q (by omega) (by have := unhide HTT; omega) (by have := unhide HTT; omega) hxo.1 (in_self (cat cs j).1))
      -- behind the labels' marks
      have HR1 := hide (fun (w' : World) (hw : Zone (loOf (cat cs j).1) (hiOf (cat cs j).1) wr w') (hy : w'.ownsRow lo 91 2 (cat cs j).1 (at' zs j).1.length (Lab.flat (Lab.marks q (at' zs j).1.length))) =>
        (show w'.ownsRow lo 67 2 (.slice (some ⟨g, 0, none⟩) n cap) n (flatOf cl cs) ∧ w'.ownsRow lo 46 2 (cat cs j).2 (at' zs j).2.length (Sam.flat (at' zs j).2) ∧ (∀ i, i < n → i ≠ j → w'.ownsRow lo 91 2 (cat cs i).1 (cur k0 zs j i).1.length (Lab.flat (cur k0 zs j i).1) ∧ w'.ownsRow lo 46 2 (cat cs i).2 (cur k0 zs j i).2.length (Sam.flat (cur k0 zs j i).2)) ∧ Zone lo hi w w' from
          ⟨hw.own ho (out_of_ne (own_ne_type hxo.1 ho (by decide))), hw.own hxo.2 (out_of_ne (own_ne_type hxo.1 hxo.2 (by decide))),
           fun i hi' hij => ⟨hw.own (unhide HR i hi').1 (out_of_ne ((unhide HA1).ne (fun e => hij e.symm) hlt hi')), hw.own (unhide HR i hi').2 (out_of_ne (own_ne_type hxo.1 (unhide HR i hi').2 (by decide)))⟩,
           hzn.trans (zone_in hw (fun k hk => ⟨own_ge hxo.1 k hk, (unhide HI j hlt).1 k hk⟩))⟩))
      have HLb := hide (show 1 ≤ q ∧ q + 2 * (at' zs j).1.length ≤ 500000000000 ∧ (at' zs j).2.length ≤ 8388608 ∧ q + 2 * (at' zs j).1.length + 2 * (at' zs j).2.length = k0 + cntTo zs (j + 1) from ⟨by omega, by have := unhide HTT; omega, by have := unhide HTT; omega, by rw [cntTo_succ zs j (by have := unhide HN; omega)]; unfold cntE; omega⟩)
      have HMk := hide (show mkAt k0 zs j = (Lab.marks q (at' zs j).1.length, Sam.marks (q + 2 * (at' zs j).1.length) (at' zs j).2.length) by unfold mkAt; rw [hq])
      clear fa hle hxo ho HR hzn
      obtain ⟨c0, hX0⟩ : ∃ c0, c0 = (cat cs j).1 := ⟨_, rfl⟩
      obtain ⟨c1, hX1⟩ : ∃ c1, c1 = (cat cs j).2 := ⟨_, rfl⟩
      rw [← hX0] at hc0 HM HR1
      rw [← hX1] at hc1 HR1
      have HX0 := hide hX0
      have HX1 := hide hX1
      clear hX0 hX1
      obtain ⟨l0, hl0⟩ : ∃ l, l = (at' zs j).1.length := ⟨_, rfl⟩
      rw [← hl0] at HM HLb HMk HR1
      have HL0 := hide hl0
      clear hl0 hq
      go_wp2_with fail
      refine (unhide HM).mono ?_
      rintro e w2 ⟨rfl, o2, z2⟩
      obtain ⟨r1, r2, r3, r4⟩ := unhide HR1 w2 z2 o2
      have hcc : w2.cell? ⟨g, j * 2 + 1, none⟩ = some c1 := by rw [r1.cellAt (j * 2 + 1) (by omega), unhide HX1]; exact (flat_at cs j (by have := unhide HC; omega)).2
      clear HR1 HM z2
      have HS := hide (Sam.mark_any (q + 2 * l0) (by have := unhide HLb; omega) (unhide HLb).2.1 (unhide HLb).2.2.1 r2 (in_self c1))
      have HR2 := hide (fun (w' : World) (hw : Zone (loOf c1) (hiOf c1) w2 w') (hy : w'.ownsRow lo 46 2 c1 (at' zs j).2.length (Sam.flat (Sam.marks (q + 2 * l0) (at' zs j).2.length))) =>
        (show w'.ownsRow lo 67 2 (.slice (some ⟨g, 0, none⟩) n cap) n (flatOf cl cs) ∧ (∀ i, i < n → w'.ownsRow lo 91 2 (cat cs i).1 (cur k0 zs (j + 1) i).1.length (Lab.flat (cur k0 zs (j + 1) i).1) ∧ w'.ownsRow lo 46 2 (cat cs i).2 (cur k0 zs (j + 1) i).2.length (Sam.flat (cur k0 zs (j + 1) i).2)) ∧ Zone lo hi w w' from
          ⟨hw.own r1 (out_of_ne (own_ne_type r2 r1 (by decide))),
           fun i hi' => by
             by_cases hij : i = j
             · subst hij
               rw [show cur k0 zs (i + 1) i = mkAt k0 zs i from if_pos (Nat.lt_succ_self i), unhide HMk]
               simp only [Lab.marks_length, Sam.marks_length]
               rw [← unhide HX0, ← unhide HX1]
               exact ⟨hw.own o2 (out_of_ne (own_ne_type r2 o2 (by decide))), hy⟩
             · rw [show cur k0 zs (j + 1) i = cur k0 zs j i by unfold cur; by_cases h : i < j <;> simp [h] <;> omega]
               refine ⟨hw.own (r3 i hi' hij).1 (out_of_ne (own_ne_type r2 (r3 i hi' hij).1 (by decide))), hw.own (r3 i hi' hij).2 (out_of_ne ?_)⟩
               rw [unhide HX1]
               exact (unhide HA2).ne (fun e => hij e.symm) hlt hi',
           r4.trans (zone_in hw (fun k hk => ⟨own_ge r2 k hk, (unhide HI j hlt).2 k (by rw [← unhide HX1]; exact hk)⟩))⟩))
      clear r1 r2 r3 r4 o2
      obtain ⟨l1, hl1⟩ : ∃ l, l = (at' zs j).2.length := ⟨_, rfl⟩
      rw [← hl1] at HS HLb HR2
      clear hl1
      obtain ⟨q1, hq1⟩ : ∃ q1, q1 = q + 2 * l0 := ⟨_, rfl⟩
      rw [← hq1] at HS HLb HR2
      rw [← hq1]
      clear hq1
      go_wp2_with fail
      refine (unhide HS).mono ?_
      rintro e w3 ⟨rfl, o3, z3⟩
      have RR := hide (unhide HR2 w3 z3 o3)
      clear HR2 HS o3 z3
      obtain ⟨q2, hq2⟩ : ∃ q2, q2 = q1 + 2 * l1 := ⟨_, rfl⟩
      rw [← hq2]
      have HQ2 := hide (show q2 = k0 + cntTo zs (j + 1) by rw [hq2]; exact (unhide HLb).2.2.2)
      clear hq2 HLb HQ
      go_wp2_with fail
      go_roundw
      case rel => exact ⟨j + 1, q2, by omega, by go_num, rfl, HQ2, (unhide RR).1, hide (unhide RR).2.1, (unhide RR).2.2⟩
      case measure => simp [intOf]; omega
    · obtain rfl : j = n := by omega
      have hq := unhide HQ
      have HF := hide (show Own lo hi wr (.slice (some ⟨g, 0, none⟩) j cap) (mk k0 zs) from ⟨cs, by rw [mk_length]; have := unhide HC; have := unhide HN; omega, by rw [mk_length, unhide HN]; exact ho, (unhide H34).1, Nat.le_trans (unhide H34).2 hzn.size, by rw [mk_length, unhide HN]; exact unhide HA1, by rw [mk_length, unhide HN]; exact unhide HA2, fun i hi' => by
        rw [mk_length] at hi'
        have hin : i < j := by have := unhide HN; omega
        rw [mk_at k0 zs i hi']
        have := unhide HR i hin
        rw [show cur k0 zs j i = mkAt k0 zs i from if_pos hin] at this
        exact ⟨this, unhide HI i hin⟩⟩)
      have HQ' := hide (show q = k0 + cnt zs by rw [hq]; unfold cnt; rw [unhide HN])
      clear hq HQ ho HR
      go_wp2
      go_ret
      exact ⟨q, rfl, unhide HQ', unhide HF, hzn⟩
theorem mark_nil (k0 : Int) (w : World) : Calls Try.prog 16 #[.slice none 0 0, .int .i64 k0] w fun e w' => e = .returned (.int .i64 k0) ∧ w' = w := by
  go_enter Try.func16, Try.ntmps16
  go_wp2
  refine wp_loop_rounds 1 ?_
  rw [rounds_succ]
  go_wp2
  go_ret
  exact ⟨rfl, rfl⟩
theorem len_cnt {zs : List E} (h : tot zs ≤ 1048576) : zs.length ≤ 2097152 := (tiny_of h).1
theorem markX {lo hi : Nat} {v : Value} {zs : List E} {w : World} (k0 : Nat) (hk1 : 1 ≤ k0) (hk2 : k0 ≤ 100000000) (hc : cnt zs ≤ 2097152 ∧ zs.length ≤ 2097152) (h : Own lo hi w v zs) :
    Calls Try.prog 16 #[v, .int .i64 k0] w fun e w' => ∃ k : Nat, e = .returned (.int .i64 k) ∧ k = k0 + cnt zs ∧ Own lo hi w' v (mk k0 zs) ∧ Zone lo hi w w' := by
  have hf := h
  obtain ⟨cs, hl, h2, -⟩ := h
  rcases h2.2 with ⟨h1, hz⟩ | ⟨g, cap, cur, h1, -⟩
  · subst h1
    obtain rfl : zs = [] := List.eq_nil_of_length_eq_zero hz
    refine (mark_nil k0 w).mono ?_
    rintro e w' ⟨rfl, rfl⟩
    exact ⟨k0, rfl, by simp [cnt, cntTo], hf, Zone.refl _ _ _⟩
  · subst h1
    exact mark_some k0 hk1 hk2 rfl hc.1 hc.2 hf
set_option maxRecDepth 100000 in
set_option maxHeartbeats 4000000 in
theorem heldX {v : Value} {zs : List E} {w : World} (k0 : Nat) (hk1 : 1 ≤ k0) (hk2 : k0 ≤ 100000000) (hc : cnt zs ≤ 2097152 ∧ zs.length ≤ 2097152) (h : Is w v (mk k0 zs)) :
    Calls Try.prog 18 #[v, .int .i64 k0] w fun e w' => ∃ k : Nat, e = .returned (.int .i64 k) ∧ k = k0 + cnt zs ∧ Below w.heap.size w w' := by
  obtain ⟨cs, hcs, hL, hE⟩ := h
  rw [mk_length] at hcs hL hE
  have HE := hide hE
  obtain ⟨-, a, cap, rfl, hcp, hm, -, hr⟩ := hL
  unfold maxLen at hm
  obtain ⟨n, hn⟩ : ∃ n, n = zs.length := ⟨_, rfl⟩
  rw [← hn] at hcp hr hcs ⊢
  have HN := hide hn
  have HC := hide hcs
  have HTT := hide hc
  clear hn hE hcs hc
  go_enter Try.func18, Try.ntmps18
  go_wp2_with fail
  go_loopw [1, 5] (fun kv i wr => ∃ (j q : Nat), j ≤ n ∧ i = .int .i64 j ∧ kv = .int .i64 q ∧ Hid (q = k0 + cntTo zs j) ∧ Below w.heap.size w wr) (fun _ i _ => n - (intOf i).toNat)
  case atStart => exact ⟨0, k0, Nat.zero_le _, rfl, rfl, hide (by simp [cntTo]), Below.refl _ _⟩
  case round =>
    obtain ⟨j, q, hj, rfl, rfl, HQ, hbel⟩ := hrel
    have hsz := hbel.size
    by_cases hlt : j < n
    · obtain ⟨b, off, rfl, hl, hcells⟩ := hr (by omega)
      have fa := flat_at cs j (by have := unhide HC; omega)
      have hc0 : wr.cell? ⟨b, off + j * 2, none⟩ = some (cat cs j).1 := (hbel.cell (p := ⟨b, _, none⟩) hl).trans (hcells (j * 2) _ fa.1)
      have hc1 : wr.cell? ⟨b, off + j * 2 + 1, none⟩ = some (cat cs j).2 := (hbel.cell (p := ⟨b, _, none⟩) hl).trans (hcells (j * 2 + 1) _ fa.2)
      have h0 : (0 : Int) ≤ (j : Int) := Int.natCast_nonneg _
      have h1 : (j : Int) < (n : Int) := by omega
      have hq := unhide HQ
      have hle := cntTo_le zs j (by have := unhide HN; omega)
      unfold cntE at hle
      have hEj := (unhide HE j (by have := unhide HN; omega)).below hbel
      rw [mk_at k0 zs j (by have := unhide HN; omega)] at hEj
      have HMk : mkAt k0 zs j = (Lab.marks q (at' zs j).1.length, Sam.marks (q + 2 * (at' zs j).1.length) (at' zs j).2.length) := by unfold mkAt; rw [hq]
      rw [HMk] at hEj
      have HM := hide (Lab.held_any q (by omega) (by have := unhide HTT; omega) (by have := unhide HTT; omega) hEj.1)
      have HS := hide (fun W (hb : Below wr.heap.size wr W) => Sam.held_any (q + 2 * (at' zs j).1.length) (by omega) (by have := unhide HTT; omega) (by have := unhide HTT; omega) (hEj.2.below hb))
      have HLb := hide (show q + 2 * (at' zs j).1.length + 2 * (at' zs j).2.length = k0 + cntTo zs (j + 1) by rw [cntTo_succ zs j (by have := unhide HN; omega)]; unfold cntE; omega)
      clear fa hle hEj HMk
      obtain ⟨c0, hX0⟩ : ∃ c0, c0 = (cat cs j).1 := ⟨_, rfl⟩
      obtain ⟨c1, hX1⟩ : ∃ c1, c1 = (cat cs j).2 := ⟨_, rfl⟩
      rw [← hX0] at hc0 HM
      rw [← hX1] at hc1 HS
      clear hX0 hX1
      obtain ⟨l0, hl0⟩ : ∃ l, l = (at' zs j).1.length := ⟨_, rfl⟩
      rw [← hl0] at HM HLb HS
      clear hl0 hq
      obtain ⟨l1, hl1⟩ : ∃ l, l = (at' zs j).2.length := ⟨_, rfl⟩
      rw [← hl1] at HS HLb
      clear hl1
      obtain ⟨q1, hq1⟩ : ∃ q1, q1 = q + 2 * l0 := ⟨_, rfl⟩
      rw [← hq1] at HS HLb HM
      clear hq1
      go_wp2_with fail
      refine (unhide HM).mono ?_
      rintro e w2 ⟨rfl, b2⟩
      have hcc : w2.cell? ⟨b, off + j * 2 + 1, none⟩ = some c1 := (b2.cell (p := ⟨b, off + j * 2 + 1, none⟩) (by show b < _; omega)).trans hc1
      have hbel2 := hbel.trans (b2.mono hsz)
      have HS2 := hide (unhide HS w2 b2)
      have hqn : decide ((q1 : Int) < 0) = false := by simp
      obtain ⟨q2, hq2⟩ : ∃ q2, q2 = q1 + 2 * l1 := ⟨_, rfl⟩
      rw [← hq2] at HS2 HLb
      clear hq2 HM HS b2
      go_wp2_with fail
      refine (unhide HS2).mono ?_
      rintro e w3 ⟨rfl, b3⟩
      have hbel3 := hbel2.trans (b3.mono hbel2.size)
      have hqn2 : decide ((q2 : Int) < 0) = false := by simp
      clear HS2 b3 HQ
      go_wp2_with fail
      go_roundw
      case rel => exact ⟨j + 1, q2, by omega, by go_num, rfl, HLb, hbel3⟩
      case measure => simp [intOf]; omega
    · obtain rfl : j = n := by omega
      have HQ' := hide (show q = k0 + cnt zs by rw [unhide HQ]; unfold cnt; rw [unhide HN])
      clear HQ
      go_wp2
      go_ret
      exact ⟨q, rfl, unhide HQ', hbel⟩
theorem cnt_tot (zs : List E) : ∀ j, j ≤ zs.length → cntTo zs j ≤ 2 * totTo zs j
  | 0, _ => by simp [cntTo]
  | j + 1, h => by
    have := cnt_tot zs j (by omega)
    rw [cntTo_succ zs j (by omega), totTo_succ zs j (by omega)]
    have h1 := Lab.tot_len (at' zs j).1
    have h2 : (at' zs j).2.length ≤ Sam.tot (at' zs j).2 := Nat.le_refl _
    unfold cntE szOf
    omega
theorem markA {lo hi : Nat} {v : Value} {zs : List E} {w : World} (k0 : Nat) (hk1 : 1 ≤ k0) (hk2 : k0 ≤ 100000000) (ht : tot zs ≤ 1048576) (h : Own lo hi w v zs) :
    Calls Try.prog 16 #[v, .int .i64 k0] w fun e w' => ∃ k : Nat, e = .returned (.int .i64 k) ∧ 1 ≤ k ∧ k ≤ k0 + 4194304 ∧ Zone lo hi w w' := by
  have hc : cnt zs ≤ 2097152 := by have := cnt_tot zs zs.length (Nat.le_refl _); rw [totTo_all] at this; unfold cnt; omega
  refine (markX k0 hk1 hk2 ⟨hc, (tiny_of ht).1⟩ h).mono ?_
  rintro e w' ⟨k, rfl, h1, -, z⟩
  exact ⟨k, rfl, by omega, by omega, z⟩
end Go.Proofs.Ytomncodkbcngmaa.Row
