/- My own texts of one claim, laid together by program: RowAsk2, DropMath. -/
import Derived.Test.YtomncodkbcngmaaG244a228dc2
import Derived.Test.YtomncodkbcngmaaG427b54fe01
/- RowsAsk of the model. -/
namespace Go.Proofs.Ytomncodkbcngmaa.Row
open Go.RowKit Rw
set_option linter.unusedVariables false
attribute [local go_sem ↓] Go.wp_at_zero Go.wp_at_succ
theorem own_grown {w wn : World} {row : Option Nat} (hg : w.grownBy wn row) {base n size : Nat} {e : TypeId} {v : Value} {xs : List Value} (ho : w.ownsRow base e size v n xs) (hne : ∀ k, v.ownBlock = some k → row ≠ some k) : wn.ownsRow base e size v n xs := by
  refine ⟨ho.1, ?_⟩
  rcases ho.2 with h1 | ⟨c, cap, cur, h1, h2, h3, h4⟩
  · exact .inl h1
  · refine .inr ⟨c, cap, cur, h1, h2, ?_, h4⟩
    rw [hg.block c (own_block_lt ho c (by rw [h1]; rfl)) (fun e => hne c (by rw [h1]; rfl) e.symm)]
    exact h3
theorem at_lt (L : List E) (x : E) (i : Nat) (h : i < L.length) : at' (L ++ [x]) i = at' L i := by simp [at', List.getD, List.getElem?_append_left h]
theorem at_last (L : List E) (x : E) : at' (L ++ [x]) L.length = x := by simp [at', List.getD]
/-- a row more behind rows of the call's own -/
theorem own_snoc {lo : Nat} {w wn : World} {pv vn vl xv : Value} {L : List E} {cs : List C} {x : E} (h1 : cs.length = L.length) (h2 : w.ownsRow lo 67 2 pv L.length (flatOf cl cs)) (h5 : ApartF L.length (fun i => (cat cs i).1)) (h6 : ApartF L.length (fun i => (cat cs i).2))
    (h7 : ∀ i, i < L.length → w.ownsRow lo 91 2 (cat cs i).1 (at' L i).1.length (Lab.flat (at' L i).1) ∧ w.ownsRow lo 46 2 (cat cs i).2 (at' L i).2.length (Sam.flat (at' L i).2))
    (gn : w.grownBy wn pv.ownBlock) (on : wn.ownsRow lo 67 2 vn (L.length + 1) (flatOf cl cs ++ [vl, xv])) (hl : w.ownsRow lo 91 2 vl x.1.length (Lab.flat x.1)) (hx : w.ownsRow lo 46 2 xv x.2.length (Sam.flat x.2))
    (nl : ∀ i, i < L.length → ∀ k, (cat cs i).1.ownBlock = some k → vl.ownBlock ≠ some k) (nx : ∀ i, i < L.length → ∀ k, (cat cs i).2.ownBlock = some k → xv.ownBlock ≠ some k) : Own lo wn.heap.size wn vn (L ++ [x]) := by
  have keepL : ∀ {n v} {xs : List Value}, w.ownsRow lo 91 2 v n xs → wn.ownsRow lo 91 2 v n xs := fun ho => own_grown gn ho (fun k hk e => own_ne_type ho h2 (by decide) k hk e)
  have keepS : ∀ {n v} {xs : List Value}, w.ownsRow lo 46 2 v n xs → wn.ownsRow lo 46 2 v n xs := fun ho => own_grown gn ho (fun k hk e => own_ne_type ho h2 (by decide) k hk e)
  refine ⟨cs ++ [(vl, xv)], by simp [h1], by rw [List.length_append, flatOf_append, flatOf_one]; exact on, own_block_lt on, Nat.le_refl _, by rw [List.length_append]; exact apart_snoc h1 (·.1) h5 nl, by rw [List.length_append]; exact apart_snoc h1 (·.2) h6 nx, fun i hi => ?_⟩
  rw [List.length_append, List.length_cons, List.length_nil] at hi
  by_cases hi' : i < L.length
  · rw [cat_lt _ _ _ (by omega), at_lt _ _ _ hi']
    have := h7 i hi'
    exact ⟨⟨keepL this.1, keepS this.2⟩, own_block_lt (keepL this.1), own_block_lt (keepS this.2)⟩
  · obtain rfl : i = L.length := by omega
    rw [at_last, show cat (cs ++ [(vl, xv)]) L.length = (vl, xv) by rw [← h1]; exact cat_last _ _]
    exact ⟨⟨keepL hl, keepS hx⟩, own_block_lt (keepL hl), own_block_lt (keepS hx)⟩
theorem mlet_is {ms : List Mat.E} {ls : List Lab.E} (h : Mat.ok ms = true) (h' : Lab.ok ls = true) : Mat.mlet ms ls = Mat.lets ms ls := by unfold Mat.mlet; rw [h, h']; rfl
set_option maxRecDepth 100000 in
set_option maxHeartbeats 8000000 in
theorem l5ask {w : World} {v u : Value} {zs : List E} {ms : List Mat.E} (f t : Int) (h : Is w v zs) (hm : Mat.Is w u ms) (hg : ∀ x ∈ zs, good x) (hmg : ∀ x ∈ ms, Mat.good x) (hok : ok zs = true) (hmok : Mat.ok ms = true) :
    Calls Try.prog 39 #[v, u, .int .i64 f, .int .i64 t] w fun e w' => ∃ r, e = .returned r ∧ Own w.heap.size w'.heap.size w' r (outL (askG ms f t) zs) ∧ Below w.heap.size w w' := by
  obtain ⟨i0, hi, hz0, hz1, hz2⟩ := info_parts Row.info_e
  obtain ⟨i1, hi1, hy0, hy1, hy2⟩ := info_parts Lab.info_e
  obtain ⟨au, nu, cu, eu⟩ : ∃ a n c, u = .slice a n c := by obtain ⟨-, a, c, e, -⟩ := hm; exact ⟨a, _, c, e⟩
  subst eu
  have HOK := hide hok
  have hn10 := ok_len hok
  have HLet := hide (fun W (hb : Below w.heap.size w W) (lv : Value) (ls : List Lab.E) (hl : Lab.Is W lv ls) (hlg : ∀ x ∈ ls, Lab.good x) => Mat.l3Lets_any (hm.below hb) hl hmg hlg)
  obtain ⟨cs, hcs, hL, hE⟩ := h
  have HE := hide hE
  have HG := hide hg
  have HMO := hide hmok
  obtain ⟨-, a, cap, rfl, hc, hmx, -, hr⟩ := hL
  unfold maxLen at hmx
  obtain ⟨l, hl⟩ : ∃ l, l = zs.length := ⟨_, rfl⟩
  rw [← hl] at hc hr hcs hn10 ⊢
  have HN := hide hl
  have HC := hide hcs
  clear hl hE hcs hg hm hmg hok hmok
  have HI0 := hide (show Own w.heap.size (w.alloc (.cells #[] 67)).heap.size (w.alloc (.cells #[] 67)) (.slice (some ⟨w.heap.size, 0, none⟩) 0 0) (outL (askG ms f t) (zs.take 0)) from ⟨[], rfl, Str.own_empty' (Nat.le_refl _) rfl, own_block_lt (Str.own_empty' (base := w.heap.size) (e := 67) (size := 2) (Nat.le_refl _) rfl), Nat.le_refl _, fun i j _ h => absurd h (Nat.not_lt_zero _), fun i j _ h => absurd h (Nat.not_lt_zero _), fun i h => absurd h (Nat.not_lt_zero _)⟩)
  have B0 : Below w.heap.size w (w.alloc (.cells #[] 67)) := (Below.refl _ _).alloc (Nat.le_refl _) _
  go_enter Try.func39, Try.ntmps39
  go_wp2_with fail
  go_loopw [9, 10] (fun pv i wr => ∃ (k n : Nat) (pa : Option Addr) (pc : Nat), k ≤ l ∧ i = .int .i64 k ∧ pv = .slice pa n pc ∧ Hid (Own w.heap.size wr.heap.size wr pv (outL (askG ms f t) (zs.take k)) ∧ n = (outL (askG ms f t) (zs.take k)).length ∧ n ≤ k) ∧ Below w.heap.size w wr) (fun _ i _ => l - (intOf i).toNat)
  case atStart => exact ⟨0, 0, _, 0, Nat.zero_le _, rfl, rfl, hide ⟨unhide HI0, rfl, Nat.le_refl _⟩, B0⟩
  case round =>
    clear HI0 B0
    obtain ⟨k, n, pa, pc, hk, rfl, rfl, HO, hbel⟩ := hrel
    have hsz := hbel.size
    by_cases hlt : k < l
    · obtain ⟨b, off, rfl, hbl, hcells⟩ := hr (by omega)
      have fa := flat_at cs k (by have := unhide HC; omega)
      have hc0 : wr.cell? ⟨b, off + k * 2, none⟩ = some (cat cs k).1 := (hbel.cell (p := ⟨b, _, none⟩) hbl).trans (hcells (k * 2) _ fa.1)
      have hc1 : wr.cell? ⟨b, off + k * 2 + 1, none⟩ = some (cat cs k).2 := (hbel.cell (p := ⟨b, _, none⟩) hbl).trans (hcells (k * 2 + 1) _ fa.2)
      have hkz : k < zs.length := by have := unhide HN; omega
      have hEk := unhide HE k hkz
      have hgk := unhide HG (at' zs k) (at_mem zs k hkz)
      have hst := step_is (ok_at (unhide HOK) hkz)
      have hsn := outL_snoc (askG ms f t) zs k hkz
      obtain ⟨⟨ls, xs⟩, hX⟩ : ∃ x, x = at' zs k := ⟨_, rfl⟩
      rw [← hX] at hEk hgk hst hsn
      simp only at hst
      obtain ⟨c0, c1, hY⟩ : ∃ c0 c1, (c0, c1) = cat cs k := ⟨_, _, rfl⟩
      rw [← hY] at hc0 hc1 hEk
      have hE1 : Lab.Is w c0 ls := hEk.1
      have hE2 : Sam.Is w c1 xs := hEk.2
      obtain ⟨-, a0, q0, e0, -⟩ := hE1
      obtain ⟨-, a1, q1, e1, -⟩ := hE2
      have hE1 : Lab.Is w c0 ls := hEk.1
      have hE2 : Sam.Is w c1 xs := hEk.2
      clear fa hEk hX hY
      have hxne : xs ≠ [] := fun e => by rw [e] at hst; simp at hst
      have hk0 : (0 : Int) ≤ (k : Int) := Int.natCast_nonneg _
      have hk1 : (k : Int) < (l : Int) := by omega
      have HL := hide (fun W (hb : Below w.heap.size w W) => unhide HLet W hb c0 ls (hE1.below hb) hgk.1.2)
      rw [← mlet_is (unhide HMO) hst.1] at HL
      have HCut := hide (Samp.l2cut f t (smp_of_lies (hE2.below hbel) hxne) (by omega))
      have hcl : (Samp.cutL xs f t).length ≤ 1000 := Nat.le_trans (List.length_filter_le _ _) hst.2.2.1
      have hsmall := (Lab.ok_small hst.1).1
      have HE1 := hide (fun W (hb : Below w.heap.size w W) => hE1.below hb)
      have hgG : askG ms f t (ls, xs) = if Mat.mlet ms ls = true then Samp.cutL xs f t else [] := rfl
      rw [hgG] at hsn
      obtain ⟨D, hD⟩ : ∃ D, D = Samp.cutL xs f t := ⟨_, rfl⟩
      rw [← hD] at HCut hcl hsn
      simp only [RSet.flat_eq] at HCut
      clear hD
      obtain ⟨m, hm⟩ : ∃ m, m = D.length := ⟨_, rfl⟩
      rw [← hm] at HCut hcl
      have HM := hide hm
      obtain ⟨ll, hll⟩ : ∃ ll, ll = ls.length := ⟨_, rfl⟩
      rw [← hll] at e0 hsmall
      have HLL := hide hll
      clear hm hE1 hE2 hgk hst hxne hgG hll
      subst e0 e1
      go_wp2_with fail
      refine (unhide HCut).mono ?_
      rintro e w2 ⟨xv, rfl, ox, b2⟩
      obtain ⟨xa, xq, rfl⟩ : ∃ a q, xv = .slice a m q := by obtain ⟨-, a, q, e, -⟩ := lies_of_own ox; exact ⟨a, q, e⟩
      have z2 := b2.size
      have hbel2 := hbel.trans (b2.mono hsz)
      have hc0' := (b2.cell (p := ⟨b, off + k * 2, none⟩) (by show b < _; omega)).trans hc0
      have HL2 := hide (unhide HL w2 hbel2)
      clear HCut HL
      go_wp2_with fail
      refine (unhide HL2).mono ?_
      rintro e w3 ⟨rfl, b3⟩
      have z3 := b3.size
      have hbel3 := hbel2.trans (b3.mono (by omega))
      have hc0'' := (b3.cell (p := ⟨b, off + k * 2, none⟩) (by show b < _; omega)).trans hc0'
      have b23 := b2.trans (b3.mono b2.size)
      clear HL2 hc0' hc1
      cases hlet : Mat.mlet ms ls
      · rw [hlet] at hsn
        have HO' := hide (show Own w.heap.size w3.heap.size w3 (.slice pa n pc) (outL (askG ms f t) (zs.take (k + 1))) ∧ n = (outL (askG ms f t) (zs.take (k + 1))).length ∧ n ≤ k + 1 by
          simp only [Bool.false_eq_true, if_false, if_true, List.append_nil] at hsn
          rw [hsn]
          have h1 := unhide HO
          have h2 := h1.1.below b23
          obtain ⟨cs', g1, g2, g3, g4, g5⟩ := h2
          exact ⟨⟨cs', g1, g2, fun k hk => by have := g3 k hk; omega, Nat.le_refl _, g5.1, g5.2.1, fun i hi => ⟨(g5.2.2 i hi).1, fun k hk => by have := (g5.2.2 i hi).2.1 k hk; omega, fun k hk => by have := (g5.2.2 i hi).2.2 k hk; omega⟩⟩, h1.2.1, by omega⟩)
        clear HO hsn hlet
        go_wp2_with fail
        go_roundw
        case rel => exact ⟨k + 1, n, pa, pc, by omega, by go_num, rfl, HO', hbel3⟩
        case measure => simp [intOf]; omega
      · rw [hlet] at hsn
        simp only [if_true] at hsn
        by_cases h0 : m = 0
        · have hDn : D = [] := List.eq_nil_of_length_eq_zero ((unhide HM).symm.trans h0)
          rw [if_pos hDn, List.append_nil] at hsn
          have HO' := hide (show Own w.heap.size w3.heap.size w3 (.slice pa n pc) (outL (askG ms f t) (zs.take (k + 1))) ∧ n = (outL (askG ms f t) (zs.take (k + 1))).length ∧ n ≤ k + 1 by
            rw [hsn]
            have h1 := unhide HO
            have h2 := h1.1.below b23
            obtain ⟨cs', g1, g2, g3, g4, g5⟩ := h2
            exact ⟨⟨cs', g1, g2, fun k hk => by have := g3 k hk; omega, Nat.le_refl _, g5.1, g5.2.1, fun i hi => ⟨(g5.2.2 i hi).1, fun k hk => by have := (g5.2.2 i hi).2.1 k hk; omega, fun k hk => by have := (g5.2.2 i hi).2.2 k hk; omega⟩⟩, h1.2.1, by omega⟩)
          subst h0
          clear HO hsn hlet hDn
          go_wp2_with fail
          go_roundw
          case rel => exact ⟨k + 1, n, pa, pc, by omega, by go_num, rfl, HO', hbel3⟩
          case measure => simp [intOf]; omega
        · rw [if_neg (fun e => h0 (by rw [unhide HM, e]; rfl))] at hsn
          have hgt : 0 < m := by omega
          have hgI : (0 : Int) < (m : Int) := by omega
          obtain ⟨hO1, hO2, hO3⟩ := unhide HO
          obtain ⟨ds, g1, g2, g3, g4, g5, g6, g7⟩ := hO1
          rw [← hO2] at g2
          have G2 := own_below g2 b23
          have HLd := hide (unhide HE1 w3 hbel3)
          have oe : (w3.alloc (.cells #[] 91)).ownsRow w3.heap.size 91 2 (.slice (some ⟨w3.heap.size, 0, none⟩) 0 0) 0 [] := own_empty (Nat.le_refl _)
          have be : Below w3.heap.size w3 (w3.alloc (.cells #[] 91)) := (Below.refl _ _).alloc (Nat.le_refl _) _
          have le : Lies (w3.alloc (.cells #[] 91)) (.slice a0 ll q0) ll 2 (Lab.flat ls) := by have := (unhide HLd).below be; rw [unhide HLL]; rw [unhide HLL] at this; exact this
          have hb3 : b < w3.heap.size := by omega
          have hb3n : ¬ b = w3.heap.size := by omega
          have hc0e : (w3.alloc (.cells #[] 91)).cell? ⟨b, off + k * 2, none⟩ = some (.slice a0 ll q0) := (be.cell (p := ⟨b, _, none⟩) hb3).trans hc0''
          have hmx1 : 1 ≤ maxLen := by unfold maxLen; omega
          have HO1 := hide (And.intro g1 (And.intro g5 (And.intro g6 g7)))
          have HO2 := hide hO2
          have HSn := hide hsn
          have hn10' : n ≤ 10 := by omega
          clear HO g1 g3 g4 g5 g6 g7 hO2 hsn hlet g2
          go_wp2_with (first | (at_builtin; refine app_wp _ rfl (.tmp 40) (.tmp 45) _ rfl w3.heap.size 91 i1 _ 2 32 Try.underlying44 hi1 hy0 hy1 hy2 rfl (by omega) _ 0 [] rfl oe _ ll (Lab.flat ls) rfl le (Lab.flat_oneCell _) (by unfold maxLen; omega) (by omega) (by simp) ?_; intro vl wl ol gl al; rw [Nat.zero_add, List.nil_append] at ol; have bl : Below w3.heap.size w3 wl := below_grown be (by simp) gl (fun k hk => by cases hk; exact Nat.le_refl _); obtain ⟨la, lq, rfl⟩ : ∃ a q, vl = .slice a ll q := (by obtain ⟨-, a, q, e, -⟩ := lies_of_own ol; exact ⟨a, q, e⟩); have zl := bl.size; have G2l := own_below G2 bl; clear gl al le be oe) | (at_builtin; refine app_wp _ rfl (.tmp 39) (.tmp 49) _ rfl w.heap.size 67 i0 _ 2 48 Try.underlying26 hi hz0 hz1 hz2 rfl (by omega) _ n _ rfl (World.ownsRow.alloc G2l _) _ 1 [.slice la ll lq, .slice xa m xq] rfl (lies_new (w := wl) (by simp) rfl hmx1) (by simp [Value.oneCell']) (by unfold maxLen; omega) (by omega) (by simp; omega) ?_; intro vn wn on gn an))
          have hbl := hbel3.trans (bl.mono (by omega))
          have R9 : Below w.heap.size w wn := below_grown (hbl.alloc (by omega) _) (by simp; omega) gn (own_ge G2)
          have HO' := hide (show Own w.heap.size wn.heap.size wn vn (outL (askG ms f t) (zs.take (k + 1))) ∧ n + 1 = (outL (askG ms f t) (zs.take (k + 1))).length ∧ n + 1 ≤ k + 1 by
            obtain ⟨g1, g5, g6, g7⟩ := unhide HO1
            rw [unhide HSn]
            refine ⟨own_snoc (w := wl.alloc (.cells #[.slice la ll lq, .slice xa m xq] 67)) (pv := .slice pa n pc) (vl := .slice la ll lq) (xv := .slice xa m xq) g1 (by rw [← unhide HO2]; exact World.ownsRow.alloc G2l _) g5 g6 (fun i hi => ⟨World.ownsRow.alloc (own_below (own_below (g7 i hi).1.1 b23) bl) _, World.ownsRow.alloc (own_below (own_below (g7 i hi).1.2 b23) bl) _⟩) gn (by rw [← unhide HO2]; exact on) (by simp only; rw [← unhide HLL]; exact World.ownsRow.alloc (own_mono ol (by omega)) _) (by simp only; rw [← unhide HM]; exact World.ownsRow.alloc (own_below (own_below (own_mono ox (by omega)) b3) bl) _) (fun i hi k hk hk' => by have h1 := own_block_lt (g7 i hi).1.1 k hk; have h2 := own_ge ol k hk'; omega) (fun i hi k hk hk' => by have h1 := own_block_lt (g7 i hi).1.2 k hk; have h2 := own_ge ox k hk'; omega), by rw [List.length_append, ← unhide HO2]; rfl, by omega⟩)
          obtain ⟨an', cn, hvn⟩ : ∃ a c, vn = .slice a (n + 1) c := by obtain ⟨-, a, c, e, -⟩ := lies_of_own on; exact ⟨a, c, e⟩
          have HV := hide hvn
          clear on gn an hvn ol ox G2 G2l HO1 HO2 HSn bl hbl
          go_wp2_with fail
          go_roundw
          case rel => exact ⟨k + 1, n + 1, an', cn, by omega, by go_num, unhide HV, HO', R9⟩
          case measure => simp [intOf]; omega
    · obtain rfl : k = l := by omega
      have HO' := hide (show Own w.heap.size wr.heap.size wr (.slice pa n pc) (outL (askG ms f t) zs) by have := (unhide HO).1; rwa [List.take_of_length_le (by have := unhide HN; omega)] at this)
      clear HO
      go_wp2
      go_ret
      exact ⟨_, rfl, unhide HO', hbel⟩
set_option maxHeartbeats 2000000 in
theorem spec_ask {w : World} {v u : Value} {zs : List E} {ms : List Mat.E} (f t : Int) (h : Is w v zs) (hm : Mat.Is w u ms) (hg : ∀ x ∈ zs, good x) (hlen : zs.length ≤ maxLen) (hmg : ∀ x ∈ ms, Mat.good x) (hml : ms.length ≤ maxLen) :
    Calls Try.prog 10 #[v, u, .int .i64 f, .int .i64 t] w fun e w' => ∃ r, e = .returned r ∧ Own w.heap.size w'.heap.size w' r (ask ms f t zs) ∧ Below w.heap.size w w' := by
  have H1 := hide (spec_ok h hg hlen)
  have H2 := hide (fun W (hb : Below w.heap.size w W) => Mat.spec_ok (hm.below hb) hmg hml)
  obtain ⟨av, nv, cv, ev⟩ : ∃ a n c, v = .slice a n c := by obtain ⟨cs, -, hL, -⟩ := h; obtain ⟨-, a, c, e, -⟩ := hL; exact ⟨a, _, c, e⟩
  obtain ⟨au, nu, cu, eu⟩ : ∃ a n c, u = .slice a n c := by obtain ⟨-, a, c, e, -⟩ := hm; exact ⟨a, _, c, e⟩
  have empty : ∀ w1 : World, Below w.heap.size w w1 → Own w.heap.size (w1.alloc (.cells #[] 67)).heap.size (w1.alloc (.cells #[] 67)) (.slice (some ⟨w1.heap.size, 0, none⟩) 0 0) [] := fun w1 b1 => ⟨[], rfl, own_empty b1.size, own_block_lt (own_empty (base := w.heap.size) (e := 67) (size := 2) b1.size), Nat.le_refl _, fun i j _ h => absurd h (Nat.not_lt_zero _), fun i j _ h => absurd h (Nat.not_lt_zero _), fun i h => absurd h (Nat.not_lt_zero _)⟩
  cases ho : ok zs
  · have HR := hide (show ask ms f t zs = [] by unfold ask; rw [ho]; rfl)
    rw [ho] at H1
    have HEm := hide empty
    clear h hm hg hmg ho empty
    subst ev eu
    go_enter Try.func10, Try.ntmps10
    go_wp2_with fail
    refine (unhide H1).mono ?_
    rintro e w1 ⟨rfl, b1⟩
    have he := hide (unhide HEm w1 b1)
    have b2 := b1.alloc b1.size (.cells #[] 67)
    clear HEm
    go_wp2_with fail
    go_ret
    exact ⟨_, rfl, by rw [unhide HR]; exact unhide he, b2⟩
  cases hmo : Mat.ok ms
  · have HR := hide (show ask ms f t zs = [] by
      unfold ask
      rw [ho]
      simp only [if_true]
      unfold outL
      rw [List.flatMap_eq_nil_iff]
      intro x _
      rw [if_pos (show askG ms f t x = [] by unfold askG Mat.mlet; rw [hmo]; rfl)])
    rw [ho] at H1
    rw [hmo] at H2
    have HEm := hide empty
    clear h hm hg hmg ho empty hmo
    subst ev eu
    go_enter Try.func10, Try.ntmps10
    go_wp2_with fail
    refine (unhide H1).mono ?_
    rintro e w1 ⟨rfl, b1⟩
    go_wp2_with fail
    refine (unhide H2 w1 b1).mono ?_
    rintro e w2 ⟨rfl, b2⟩
    have b12 := b1.trans (b2.mono b1.size)
    have he := hide (unhide HEm w2 b12)
    have b3 := b12.alloc b12.size (.cells #[] 67)
    clear HEm
    go_wp2_with fail
    go_ret
    exact ⟨_, rfl, by rw [unhide HR]; exact unhide he, b3⟩
  · have HR := hide (show ask ms f t zs = outL (askG ms f t) zs by unfold ask; rw [ho]; rfl)
    have H3 := hide (fun W (hb : Below w.heap.size w W) => l5ask f t (h.below hb) (hm.below hb) hg hmg ho hmo)
    rw [ho] at H1
    rw [hmo] at H2
    clear h hm hg hmg ho empty hmo
    subst ev eu
    go_enter Try.func10, Try.ntmps10
    go_wp2_with fail
    refine (unhide H1).mono ?_
    rintro e w1 ⟨rfl, b1⟩
    go_wp2_with fail
    refine (unhide H2 w1 b1).mono ?_
    rintro e w2 ⟨rfl, b2⟩
    have b12 := b1.trans (b2.mono b1.size)
    go_wp2_with fail
    refine (unhide H3 w2 b12).mono ?_
    rintro e w3 ⟨r, rfl, o3, b3⟩
    have b13 := b12.trans (b3.mono b12.size)
    have O3 := hide (show Own w.heap.size w3.heap.size w3 r (ask ms f t zs) by rw [unhide HR]; obtain ⟨cs, g1, g2, g3, g4, g5, g6, g7⟩ := o3; exact ⟨cs, g1, own_mono g2 b12.size, g3, g4, g5, g6, fun i hi => ⟨⟨own_mono (g7 i hi).1.1 b12.size, own_mono (g7 i hi).1.2 b12.size⟩, (g7 i hi).2⟩⟩)
    clear o3 b3
    go_wp2_with fail
    go_ret
    exact ⟨r, rfl, unhide O3, b13⟩
end Go.Proofs.Ytomncodkbcngmaa.Row

/- What is left of a row: the mathematics; samples put to a row whether it is there or not. -/
namespace Go.Proofs.Ytomncodkbcngmaa.Samp
open SampMath
set_option linter.unusedVariables false
theorem merge_cons_lt {x : S} {A B : List S} (h : ∀ y ∈ B, x.1 < y.1) : merge (x :: A) B = (merge A B).map (x :: ·) := by
  cases B with
  | nil => rw [merge_nil_right, merge_nil_right]; rfl
  | cons y B => rw [merge, if_pos (h y (List.mem_cons_self ..))]
theorem merge_lt_cons {x : S} {A B : List S} (h : ∀ y ∈ A, x.1 < y.1) : merge A (x :: B) = (merge A B).map (x :: ·) := by
  cases A with
  | nil => rw [merge_nil, merge_nil]; rfl
  | cons y A =>
    have := h y (List.mem_cons_self ..)
    rw [merge, if_neg (by omega), if_pos this]
/-- parts of samples, whatever they have in common, are together what either has -/
theorem merge_filter : ∀ (xs : List S) (p q : S → Bool), xs.Pairwise (fun a b => a.1 < b.1) → merge (xs.filter p) (xs.filter q) = some (xs.filter fun z => p z || q z)
  | [], p, q, _ => by simp [merge_nil]
  | x :: xs, p, q, h => by
    obtain ⟨h1, h2⟩ := List.pairwise_cons.1 h
    have ih := merge_filter xs p q h2
    have hp : ∀ y ∈ xs.filter p, x.1 < y.1 := fun y hy => h1 y (List.mem_filter.1 hy).1
    have hq : ∀ y ∈ xs.filter q, x.1 < y.1 := fun y hy => h1 y (List.mem_filter.1 hy).1
    cases ep : p x <;> cases eq : q x
    · rw [List.filter_cons_of_neg (by simp [ep]), List.filter_cons_of_neg (by simp [eq]), List.filter_cons_of_neg (by simp [ep, eq])]
      exact ih
    · rw [List.filter_cons_of_neg (by simp [ep]), List.filter_cons_of_pos eq, List.filter_cons_of_pos (by simp [eq]), merge_lt_cons hp, ih]
      rfl
    · rw [List.filter_cons_of_pos ep, List.filter_cons_of_neg (by simp [eq]), List.filter_cons_of_pos (by simp [ep]), merge_cons_lt hq, ih]
      rfl
    · rw [List.filter_cons_of_pos ep, List.filter_cons_of_pos eq, List.filter_cons_of_pos (by simp [ep]), merge, if_neg (by omega), if_neg (by omega), if_pos rfl, ih]
      rfl
/-- what is ahead of a time, or from another one on -/
def sides (xs : List S) (f t : Int) : List S := xs.filter fun z => inT 0 f z || inT t 10000 z
theorem join_cuts {xs : List S} (h : ok xs = true) (f t : Int) : join (cutL xs 0 f) (cutL xs t 10000) = (sides xs f t, true) :=
  join_some (ok_filter h _) (ok_filter h _) (merge_filter xs _ _ ((ok_iff xs).1 h).2)
theorem sides_apart {xs : List S} (h : ok xs = true) {f t : Int} (hft : f < t) : sides xs f t = cutL xs 0 f ++ cutL xs t 10000 := by
  have h1 := merge_filter xs (inT 0 f) (inT t 10000) ((ok_iff xs).1 h).2
  have h2 := merge_apart (cutL xs 0 f) (cutL xs t 10000) (fun x hx y hy => by
    have hx' := (List.mem_filter.1 hx).2
    have hy' := (List.mem_filter.1 hy).2
    unfold inT at hx' hy'
    simp only [Bool.and_eq_true, decide_eq_true_eq] at hx' hy'
    omega)
  unfold cutL at h2 ⊢
  rw [h1] at h2
  exact Option.some.inj h2
theorem sides_all {xs : List S} (h : ok xs = true) {f t : Int} (hft : t ≤ f) : sides xs f t = xs := by
  unfold sides
  rw [List.filter_eq_self]
  intro z hz
  have := ((ok_iff xs).1 h).1 z hz
  rw [inR_iff] at this
  unfold inT
  simp only [Bool.or_eq_true, Bool.and_eq_true, decide_eq_true_eq]
  omega
end Go.Proofs.Ytomncodkbcngmaa.Samp
namespace Go.Proofs.Ytomncodkbcngmaa.Row
open Go.RowKit Rw
def dropG (ms : List Mat.E) (f t : Int) (x : E) : List Sam.E := if Mat.mlet ms x.1 = true then Samp.sides x.2 f t else x.2
def drop (ms : List Mat.E) (f t : Int) (zs : List E) : List E := if ok zs = true ∧ Mat.ok ms = true then outL (dropG ms f t) zs else []
/-- rows, and behind them one, if it has samples -/
def st (L : List E) (ls : List Lab.E) (a : List Sam.E) : List E := if a = [] then L else L ++ [(ls, a)]
end Go.Proofs.Ytomncodkbcngmaa.Row
namespace Go.Proofs.Ytomncodkbcngmaa.RSet
open Go.RowKit Rw
/-- samples put to the last row, whether it is there or not -/
theorem put_st {lo B mb n m sc : Nat} {sa : Option Addr} {w : World} {L : List Row.E} {lv : Value} {ls : List Lab.E} {a D J : List Sam.E}
    (h : Built lo B mb n w (Row.st L ls a)) (hL : L.length ≤ 1000) (hn : n ≤ 1000) (hA : Row.Ahead L ls) (hl : Lab.Is w lv ls) (hlg : ∀ x ∈ ls, Lab.good x) (hlo : Lab.ok ls = true) (hs : Samp.Smp w (.slice sa m sc) D) (hm : D.length = m) (ha : SampMath.ok a = true) (hD : SampMath.ok D = true) (hJ : SampMath.join a D = (J, true)) (h1 : m ≤ 4194304) (h2 : a.length ≤ 4194304) (hlow : lo ≤ w.heap.size) :
    Calls Try.prog 45 #[.pointer (some ⟨B, 0, none⟩), lv, .slice sa m sc] w fun e w' => e = .returned (.bool true) ∧ (∃ n', n' ≤ n + 1 ∧ Built lo B mb n' w' (Row.st L ls J)) ∧ Two B mb w w' := by
  by_cases h0 : m = 0
  · subst h0
    obtain rfl : D = [] := List.eq_nil_of_length_eq_zero hm
    have : J = a := by
      have e : SampMath.join a [] = (a, true) := SampMath.join_some ha rfl (SampMath.merge_nil_right a)
      rw [e] at hJ
      exact (Prod.mk.inj hJ).1.symm
    subst this
    refine (put_none _ _ _ _).mono ?_
    rintro e w' ⟨rfl, rfl⟩
    exact ⟨rfl, ⟨n, by omega, h⟩, Two.refl _ _ _⟩
  · have hDn : D ≠ [] := fun e => h0 (by rw [← hm, e]; rfl)
    by_cases e : a = []
    · subst e
      have : J = D := by rw [join_first hD] at hJ; exact (Prod.mk.inj hJ).1.symm
      subst this
      have hst : Row.st L ls [] = L := if_pos rfl
      rw [hst] at h
      refine (built_new h hL hn hA hl hlg hlo hs hm hD (by omega) h1 hlow).mono ?_
      rintro e w' ⟨rfl, hb, ht⟩
      exact ⟨rfl, ⟨n + 1, by omega, by rw [show Row.st L ls J = L ++ [(ls, J)] from if_neg hDn]; exact hb⟩, ht⟩
    · have hst : Row.st L ls a = L ++ [(ls, a)] := if_neg e
      rw [hst] at h
      have hJn : J ≠ [] := by
        intro e2
        subst e2
        obtain ⟨x, a', rfl⟩ : ∃ x a', a = x :: a' := by cases a with | nil => exact absurd rfl e | cons x a' => exact ⟨x, a', rfl⟩
        obtain ⟨y, D', rfl⟩ : ∃ y D', D = y :: D' := by cases D with | nil => exact absurd rfl hDn | cons y D' => exact ⟨y, D', rfl⟩
        unfold SampMath.join at hJ
        rw [if_pos ⟨ha, hD⟩, SampMath.merge] at hJ
        split at hJ
        · rename_i L' he
          obtain rfl := (Prod.mk.inj hJ).1
          split at he
          · cases hh : SampMath.merge a' (y :: D') <;> rw [hh] at he <;> simp at he
          · split at he
            · cases hh : SampMath.merge (x :: a') D' <;> rw [hh] at he <;> simp at he
            · split at he
              · cases hh : SampMath.merge a' D' <;> rw [hh] at he <;> simp at he
              · cases he
        · simp at hJ
      refine (built_last h hn hA hl hlg hlo hs hm hJ (by omega) h1 h2 hlow).mono ?_
      rintro e w' ⟨rfl, hb, ht⟩
      exact ⟨rfl, ⟨n + 1, by omega, by rw [show Row.st L ls J = L ++ [(ls, J)] from if_neg hJn]; exact hb⟩, ht⟩
end Go.Proofs.Ytomncodkbcngmaa.RSet
