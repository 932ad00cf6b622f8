/- My own texts of one claim, laid together by program: RowAsk2, RowCopy, RowCopy2. -/
import Derived.Test.YtdggffcibcggoaaG96a5dea7ed
import Derived.Test.YtdggffcibcggoaaG3980a3ea5e
/- RowsAsk of the model. -/
namespace Go.Proofs.Ytdggffcibcggoaa.Row
open Go.RowKit Rw
set_option linter.unusedVariables false
attribute [local go_sem ↓] Go.wp_at_zero Go.wp_at_succ
theorem own_grown {w wn : World} {row : Option Nat} (hg : w.grownBy wn row) {base n size : Nat} {e : TypeId} {v : Value} {xs : List Value} (ho : w.ownsRow base e size v n xs) (hne : ∀ k, v.ownBlock = some k → row ≠ some k) : wn.ownsRow base e size v n xs := by
  refine ⟨ho.1, ?_⟩
  rcases ho.2 with h1 | ⟨c, cap, cur, h1, h2, h3, h4⟩
  · exact .inl h1
  · refine .inr ⟨c, cap, cur, h1, h2, ?_, h4⟩
    rw [hg.block c (own_block_lt ho c (by rw [h1]; rfl)) (fun e => hne c (by rw [h1]; rfl) e.symm)]
    exact h3
theorem at_lt (L : List E) (x : E) (i : Nat) (h : i < L.length) : at' (L ++ [x]) i = at' L i := by simp [at', List.getD, List.getElem?_append_left h]
theorem at_last (L : List E) (x : E) : at' (L ++ [x]) L.length = x := by simp [at', List.getD]
/-- a row more behind rows of the call's own -/
theorem own_snoc {lo : Nat} {w wn : World} {pv vn vl xv : Value} {L : List E} {cs : List C} {x : E} (h1 : cs.length = L.length) (h2 : w.ownsRow lo 61 2 pv L.length (flatOf cl cs)) (h5 : ApartF L.length (fun i => (cat cs i).1)) (h6 : ApartF L.length (fun i => (cat cs i).2))
    (h7 : ∀ i, i < L.length → w.ownsRow lo 86 2 (cat cs i).1 (at' L i).1.length (Lab.flat (at' L i).1) ∧ w.ownsRow lo 38 2 (cat cs i).2 (at' L i).2.length (Sam.flat (at' L i).2))
    (gn : w.grownBy wn pv.ownBlock) (on : wn.ownsRow lo 61 2 vn (L.length + 1) (flatOf cl cs ++ [vl, xv])) (hl : w.ownsRow lo 86 2 vl x.1.length (Lab.flat x.1)) (hx : w.ownsRow lo 38 2 xv x.2.length (Sam.flat x.2))
    (nl : ∀ i, i < L.length → ∀ k, (cat cs i).1.ownBlock = some k → vl.ownBlock ≠ some k) (nx : ∀ i, i < L.length → ∀ k, (cat cs i).2.ownBlock = some k → xv.ownBlock ≠ some k) : Own lo wn.heap.size wn vn (L ++ [x]) := by
  have keepL : ∀ {n v} {xs : List Value}, w.ownsRow lo 86 2 v n xs → wn.ownsRow lo 86 2 v n xs := fun ho => own_grown gn ho (fun k hk e => own_ne_type ho h2 (by decide) k hk e)
  have keepS : ∀ {n v} {xs : List Value}, w.ownsRow lo 38 2 v n xs → wn.ownsRow lo 38 2 v n xs := fun ho => own_grown gn ho (fun k hk e => own_ne_type ho h2 (by decide) k hk e)
  refine ⟨cs ++ [(vl, xv)], by simp [h1], by rw [List.length_append, flatOf_append, flatOf_one]; exact on, own_block_lt on, Nat.le_refl _, by rw [List.length_append]; exact apart_snoc h1 (·.1) h5 nl, by rw [List.length_append]; exact apart_snoc h1 (·.2) h6 nx, fun i hi => ?_⟩
  rw [List.length_append, List.length_cons, List.length_nil] at hi
  by_cases hi' : i < L.length
  · rw [cat_lt _ _ _ (by omega), at_lt _ _ _ hi']
    have := h7 i hi'
    exact ⟨⟨keepL this.1, keepS this.2⟩, own_block_lt (keepL this.1), own_block_lt (keepS this.2)⟩
  · obtain rfl : i = L.length := by omega
    rw [at_last, show cat (cs ++ [(vl, xv)]) L.length = (vl, xv) by rw [← h1]; exact cat_last _ _]
    exact ⟨⟨keepL hl, keepS hx⟩, own_block_lt (keepL hl), own_block_lt (keepS hx)⟩
theorem mlet_is {ms : List Mat.E} {ls : List Lab.E} (h : Mat.ok ms = true) (h' : Lab.ok ls = true) : Mat.mlet ms ls = Mat.lets ms ls := by unfold Mat.mlet; rw [h, h']; rfl
set_option maxRecDepth 100000 in
set_option maxHeartbeats 8000000 in
theorem l5ask {w : World} {v u : Value} {zs : List E} {ms : List Mat.E} (f t : Int) (h : Is w v zs) (hm : Mat.Is w u ms) (hg : ∀ x ∈ zs, good x) (hmg : ∀ x ∈ ms, Mat.good x) (hok : ok zs = true) (hmok : Mat.ok ms = true) :
    Calls Try.prog 93 #[v, u, .int .i64 f, .int .i64 t] w fun e w' => ∃ r, e = .returned r ∧ Own w.heap.size w'.heap.size w' r (outL (askG ms f t) zs) ∧ Below w.heap.size w w' := by
  obtain ⟨i0, hi, hz0, hz1, hz2⟩ := info_parts Row.info_e
  obtain ⟨i1, hi1, hy0, hy1, hy2⟩ := info_parts Lab.info_e
  obtain ⟨au, nu, cu, eu⟩ : ∃ a n c, u = .slice a n c := by obtain ⟨-, a, c, e, -⟩ := hm; exact ⟨a, _, c, e⟩
  subst eu
  have HOK := hide hok
  have hn10 := ok_len hok
  have HLet := hide (fun W (hb : Below w.heap.size w W) (lv : Value) (ls : List Lab.E) (hl : Lab.Is W lv ls) (hlg : ∀ x ∈ ls, Lab.good x) => Mat.l3Lets_any (hm.below hb) hl hmg hlg)
  obtain ⟨cs, hcs, hL, hE⟩ := h
  have HE := hide hE
  have HG := hide hg
  have HMO := hide hmok
  obtain ⟨-, a, cap, rfl, hc, hmx, -, hr⟩ := hL
  unfold maxLen at hmx
  obtain ⟨l, hl⟩ : ∃ l, l = zs.length := ⟨_, rfl⟩
  rw [← hl] at hc hr hcs hn10 ⊢
  have HN := hide hl
  have HC := hide hcs
  clear hl hE hcs hg hm hmg hok hmok
  have HI0 := hide (show Own w.heap.size (w.alloc (.cells #[] 61)).heap.size (w.alloc (.cells #[] 61)) (.slice (some ⟨w.heap.size, 0, none⟩) 0 0) (outL (askG ms f t) (zs.take 0)) from ⟨[], rfl, Str.own_empty' (Nat.le_refl _) rfl, own_block_lt (Str.own_empty' (base := w.heap.size) (e := 61) (size := 2) (Nat.le_refl _) rfl), Nat.le_refl _, fun i j _ h => absurd h (Nat.not_lt_zero _), fun i j _ h => absurd h (Nat.not_lt_zero _), fun i h => absurd h (Nat.not_lt_zero _)⟩)
  have B0 : Below w.heap.size w (w.alloc (.cells #[] 61)) := (Below.refl _ _).alloc (Nat.le_refl _) _
  go_enter Try.func93, Try.ntmps93
  go_wp2_with fail
  go_loopw [9, 10] (fun pv i wr => ∃ (k n : Nat) (pa : Option Addr) (pc : Nat), k ≤ l ∧ i = .int .i64 k ∧ pv = .slice pa n pc ∧ Hid (Own w.heap.size wr.heap.size wr pv (outL (askG ms f t) (zs.take k)) ∧ n = (outL (askG ms f t) (zs.take k)).length ∧ n ≤ k) ∧ Below w.heap.size w wr) (fun _ i _ => l - (intOf i).toNat)
  case atStart => exact ⟨0, 0, _, 0, Nat.zero_le _, rfl, rfl, hide ⟨unhide HI0, rfl, Nat.le_refl _⟩, B0⟩
  case round =>
    clear HI0 B0
    obtain ⟨k, n, pa, pc, hk, rfl, rfl, HO, hbel⟩ := hrel
    have hsz := hbel.size
    by_cases hlt : k < l
    · obtain ⟨b, off, rfl, hbl, hcells⟩ := hr (by omega)
      have fa := flat_at cs k (by have := unhide HC; omega)
      have hc0 : wr.cell? ⟨b, off + k * 2, none⟩ = some (cat cs k).1 := (hbel.cell (p := ⟨b, _, none⟩) hbl).trans (hcells (k * 2) _ fa.1)
      have hc1 : wr.cell? ⟨b, off + k * 2 + 1, none⟩ = some (cat cs k).2 := (hbel.cell (p := ⟨b, _, none⟩) hbl).trans (hcells (k * 2 + 1) _ fa.2)
      have hkz : k < zs.length := by have := unhide HN; omega
      have hEk := unhide HE k hkz
      have hgk := unhide HG (at' zs k) (at_mem zs k hkz)
      have hst := step_is (ok_at (unhide HOK) hkz)
      have hsn := outL_snoc (askG ms f t) zs k hkz
      obtain ⟨⟨ls, xs⟩, hX⟩ : ∃ x, x = at' zs k := ⟨_, rfl⟩
      rw [← hX] at hEk hgk hst hsn
      simp only at hst
      obtain ⟨c0, c1, hY⟩ : ∃ c0 c1, (c0, c1) = cat cs k := ⟨_, _, rfl⟩
      rw [← hY] at hc0 hc1 hEk
      have hE1 : Lab.Is w c0 ls := hEk.1
      have hE2 : Sam.Is w c1 xs := hEk.2
      obtain ⟨-, a0, q0, e0, -⟩ := hE1
      obtain ⟨-, a1, q1, e1, -⟩ := hE2
      have hE1 : Lab.Is w c0 ls := hEk.1
      have hE2 : Sam.Is w c1 xs := hEk.2
      clear fa hEk hX hY
      have hxne : xs ≠ [] := fun e => by rw [e] at hst; simp at hst
      have hk0 : (0 : Int) ≤ (k : Int) := Int.natCast_nonneg _
      have hk1 : (k : Int) < (l : Int) := by omega
      have HL := hide (fun W (hb : Below w.heap.size w W) => unhide HLet W hb c0 ls (hE1.below hb) hgk.1.2)
      rw [← mlet_is (unhide HMO) hst.1] at HL
      have HCut := hide (Samp.l2cut f t (smp_of_lies (hE2.below hbel) hxne) (by omega))
      have hcl : (Samp.cutL xs f t).length ≤ 1000 := Nat.le_trans (List.length_filter_le _ _) hst.2.2.1
      have hsmall := (Lab.ok_small hst.1).1
      have HE1 := hide (fun W (hb : Below w.heap.size w W) => hE1.below hb)
      have hgG : askG ms f t (ls, xs) = if Mat.mlet ms ls = true then Samp.cutL xs f t else [] := rfl
      rw [hgG] at hsn
      obtain ⟨D, hD⟩ : ∃ D, D = Samp.cutL xs f t := ⟨_, rfl⟩
      rw [← hD] at HCut hcl hsn
      simp only [RSet.flat_eq] at HCut
      clear hD
      obtain ⟨m, hm⟩ : ∃ m, m = D.length := ⟨_, rfl⟩
      rw [← hm] at HCut hcl
      have HM := hide hm
      obtain ⟨ll, hll⟩ : ∃ ll, ll = ls.length := ⟨_, rfl⟩
      rw [← hll] at e0 hsmall
      have HLL := hide hll
      clear hm hE1 hE2 hgk hst hxne hgG hll
      subst e0 e1
      go_wp2_with fail
      refine (unhide HCut).mono ?_
      rintro e w2 ⟨xv, rfl, ox, b2⟩
      obtain ⟨xa, xq, rfl⟩ : ∃ a q, xv = .slice a m q := by obtain ⟨-, a, q, e, -⟩ := lies_of_own ox; exact ⟨a, q, e⟩
      have z2 := b2.size
      have hbel2 := hbel.trans (b2.mono hsz)
      have hc0' := (b2.cell (p := ⟨b, off + k * 2, none⟩) (by show b < _; omega)).trans hc0
      have HL2 := hide (unhide HL w2 hbel2)
      clear HCut HL
      go_wp2_with fail
      refine (unhide HL2).mono ?_
      rintro e w3 ⟨rfl, b3⟩
      have z3 := b3.size
      have hbel3 := hbel2.trans (b3.mono (by omega))
      have hc0'' := (b3.cell (p := ⟨b, off + k * 2, none⟩) (by show b < _; omega)).trans hc0'
      have b23 := b2.trans (b3.mono b2.size)
      clear HL2 hc0' hc1
      cases hlet : Mat.mlet ms ls
      · rw [hlet] at hsn
        have HO' := hide (show Own w.heap.size w3.heap.size w3 (.slice pa n pc) (outL (askG ms f t) (zs.take (k + 1))) ∧ n = (outL (askG ms f t) (zs.take (k + 1))).length ∧ n ≤ k + 1 by
          simp only [Bool.false_eq_true, if_false, if_true, List.append_nil] at hsn
          rw [hsn]
          have h1 := unhide HO
          have h2 := h1.1.below b23
          obtain ⟨cs', g1, g2, g3, g4, g5⟩ := h2
          exact ⟨⟨cs', g1, g2, fun k hk => by have := g3 k hk; omega, Nat.le_refl _, g5.1, g5.2.1, fun i hi => ⟨(g5.2.2 i hi).1, fun k hk => by have := (g5.2.2 i hi).2.1 k hk; omega, fun k hk => by have := (g5.2.2 i hi).2.2 k hk; omega⟩⟩, h1.2.1, by omega⟩)
        clear HO hsn hlet
        go_wp2_with fail
        go_roundw
        case rel => exact ⟨k + 1, n, pa, pc, by omega, by go_num, rfl, HO', hbel3⟩
        case measure => simp [intOf]; omega
      · rw [hlet] at hsn
        simp only [if_true] at hsn
        by_cases h0 : m = 0
        · have hDn : D = [] := List.eq_nil_of_length_eq_zero ((unhide HM).symm.trans h0)
          rw [if_pos hDn, List.append_nil] at hsn
          have HO' := hide (show Own w.heap.size w3.heap.size w3 (.slice pa n pc) (outL (askG ms f t) (zs.take (k + 1))) ∧ n = (outL (askG ms f t) (zs.take (k + 1))).length ∧ n ≤ k + 1 by
            rw [hsn]
            have h1 := unhide HO
            have h2 := h1.1.below b23
            obtain ⟨cs', g1, g2, g3, g4, g5⟩ := h2
            exact ⟨⟨cs', g1, g2, fun k hk => by have := g3 k hk; omega, Nat.le_refl _, g5.1, g5.2.1, fun i hi => ⟨(g5.2.2 i hi).1, fun k hk => by have := (g5.2.2 i hi).2.1 k hk; omega, fun k hk => by have := (g5.2.2 i hi).2.2 k hk; omega⟩⟩, h1.2.1, by omega⟩)
          subst h0
          clear HO hsn hlet hDn
          go_wp2_with fail
          go_roundw
          case rel => exact ⟨k + 1, n, pa, pc, by omega, by go_num, rfl, HO', hbel3⟩
          case measure => simp [intOf]; omega
        · rw [if_neg (fun e => h0 (by rw [unhide HM, e]; rfl))] at hsn
          have hgt : 0 < m := by omega
          have hgI : (0 : Int) < (m : Int) := by omega
          obtain ⟨hO1, hO2, hO3⟩ := unhide HO
          obtain ⟨ds, g1, g2, g3, g4, g5, g6, g7⟩ := hO1
          rw [← hO2] at g2
          have G2 := own_below g2 b23
          have HLd := hide (unhide HE1 w3 hbel3)
          have oe : (w3.alloc (.cells #[] 86)).ownsRow w3.heap.size 86 2 (.slice (some ⟨w3.heap.size, 0, none⟩) 0 0) 0 [] := own_empty (Nat.le_refl _)
          have be : Below w3.heap.size w3 (w3.alloc (.cells #[] 86)) := (Below.refl _ _).alloc (Nat.le_refl _) _
          have le : Lies (w3.alloc (.cells #[] 86)) (.slice a0 ll q0) ll 2 (Lab.flat ls) := by have := (unhide HLd).below be; rw [unhide HLL]; rw [unhide HLL] at this; exact this
          have hb3 : b < w3.heap.size := by omega
          have hb3n : ¬ b = w3.heap.size := by omega
          have hc0e : (w3.alloc (.cells #[] 86)).cell? ⟨b, off + k * 2, none⟩ = some (.slice a0 ll q0) := (be.cell (p := ⟨b, _, none⟩) hb3).trans hc0''
          have hmx1 : 1 ≤ maxLen := by unfold maxLen; omega
          have HO1 := hide (And.intro g1 (And.intro g5 (And.intro g6 g7)))
          have HO2 := hide hO2
          have HSn := hide hsn
          have hn10' : n ≤ 10 := by omega
          clear HO g1 g3 g4 g5 g6 g7 hO2 hsn hlet g2
          go_wp2_with (first | (at_builtin; refine app_wp _ rfl (.tmp 40) (.tmp 45) _ rfl w3.heap.size 86 i1 _ 2 32 Try.underlying36 hi1 hy0 hy1 hy2 rfl (by omega) _ 0 [] rfl oe _ ll (Lab.flat ls) rfl le (Lab.flat_oneCell _) (by unfold maxLen; omega) (by omega) (by simp) ?_; intro vl wl ol gl al; rw [Nat.zero_add, List.nil_append] at ol; have bl : Below w3.heap.size w3 wl := below_grown be (by simp) gl (fun k hk => by cases hk; exact Nat.le_refl _); obtain ⟨la, lq, rfl⟩ : ∃ a q, vl = .slice a ll q := (by obtain ⟨-, a, q, e, -⟩ := lies_of_own ol; exact ⟨a, q, e⟩); have zl := bl.size; have G2l := own_below G2 bl; clear gl al le be oe) | (at_builtin; refine app_wp _ rfl (.tmp 39) (.tmp 49) _ rfl w.heap.size 61 i0 _ 2 48 Try.underlying24 hi hz0 hz1 hz2 rfl (by omega) _ n _ rfl (World.ownsRow.alloc G2l _) _ 1 [.slice la ll lq, .slice xa m xq] rfl (lies_new (w := wl) (by simp) rfl hmx1) (by simp [Value.oneCell']) (by unfold maxLen; omega) (by omega) (by simp; omega) ?_; intro vn wn on gn an))
          have hbl := hbel3.trans (bl.mono (by omega))
          have R9 : Below w.heap.size w wn := below_grown (hbl.alloc (by omega) _) (by simp; omega) gn (own_ge G2)
          have HO' := hide (show Own w.heap.size wn.heap.size wn vn (outL (askG ms f t) (zs.take (k + 1))) ∧ n + 1 = (outL (askG ms f t) (zs.take (k + 1))).length ∧ n + 1 ≤ k + 1 by
            obtain ⟨g1, g5, g6, g7⟩ := unhide HO1
            rw [unhide HSn]
            refine ⟨own_snoc (w := wl.alloc (.cells #[.slice la ll lq, .slice xa m xq] 61)) (pv := .slice pa n pc) (vl := .slice la ll lq) (xv := .slice xa m xq) g1 (by rw [← unhide HO2]; exact World.ownsRow.alloc G2l _) g5 g6 (fun i hi => ⟨World.ownsRow.alloc (own_below (own_below (g7 i hi).1.1 b23) bl) _, World.ownsRow.alloc (own_below (own_below (g7 i hi).1.2 b23) bl) _⟩) gn (by rw [← unhide HO2]; exact on) (by simp only; rw [← unhide HLL]; exact World.ownsRow.alloc (own_mono ol (by omega)) _) (by simp only; rw [← unhide HM]; exact World.ownsRow.alloc (own_below (own_below (own_mono ox (by omega)) b3) bl) _) (fun i hi k hk hk' => by have h1 := own_block_lt (g7 i hi).1.1 k hk; have h2 := own_ge ol k hk'; omega) (fun i hi k hk hk' => by have h1 := own_block_lt (g7 i hi).1.2 k hk; have h2 := own_ge ox k hk'; omega), by rw [List.length_append, ← unhide HO2]; rfl, by omega⟩)
          obtain ⟨an', cn, hvn⟩ : ∃ a c, vn = .slice a (n + 1) c := by obtain ⟨-, a, c, e, -⟩ := lies_of_own on; exact ⟨a, c, e⟩
          have HV := hide hvn
          clear on gn an hvn ol ox G2 G2l HO1 HO2 HSn bl hbl
          go_wp2_with fail
          go_roundw
          case rel => exact ⟨k + 1, n + 1, an', cn, by omega, by go_num, unhide HV, HO', R9⟩
          case measure => simp [intOf]; omega
    · obtain rfl : k = l := by omega
      have HO' := hide (show Own w.heap.size wr.heap.size wr (.slice pa n pc) (outL (askG ms f t) zs) by have := (unhide HO).1; rwa [List.take_of_length_le (by have := unhide HN; omega)] at this)
      clear HO
      go_wp2
      go_ret
      exact ⟨_, rfl, unhide HO', hbel⟩
set_option maxHeartbeats 2000000 in
theorem spec_ask {w : World} {v u : Value} {zs : List E} {ms : List Mat.E} (f t : Int) (h : Is w v zs) (hm : Mat.Is w u ms) (hg : ∀ x ∈ zs, good x) (hlen : zs.length ≤ maxLen) (hmg : ∀ x ∈ ms, Mat.good x) (hml : ms.length ≤ maxLen) :
    Calls Try.prog 37 #[v, u, .int .i64 f, .int .i64 t] w fun e w' => ∃ r, e = .returned r ∧ Own w.heap.size w'.heap.size w' r (ask ms f t zs) ∧ Below w.heap.size w w' := by
  have H1 := hide (spec_ok h hg hlen)
  have H2 := hide (fun W (hb : Below w.heap.size w W) => Mat.spec_ok (hm.below hb) hmg hml)
  obtain ⟨av, nv, cv, ev⟩ : ∃ a n c, v = .slice a n c := by obtain ⟨cs, -, hL, -⟩ := h; obtain ⟨-, a, c, e, -⟩ := hL; exact ⟨a, _, c, e⟩
  obtain ⟨au, nu, cu, eu⟩ : ∃ a n c, u = .slice a n c := by obtain ⟨-, a, c, e, -⟩ := hm; exact ⟨a, _, c, e⟩
  have empty : ∀ w1 : World, Below w.heap.size w w1 → Own w.heap.size (w1.alloc (.cells #[] 61)).heap.size (w1.alloc (.cells #[] 61)) (.slice (some ⟨w1.heap.size, 0, none⟩) 0 0) [] := fun w1 b1 => ⟨[], rfl, own_empty b1.size, own_block_lt (own_empty (base := w.heap.size) (e := 61) (size := 2) b1.size), Nat.le_refl _, fun i j _ h => absurd h (Nat.not_lt_zero _), fun i j _ h => absurd h (Nat.not_lt_zero _), fun i h => absurd h (Nat.not_lt_zero _)⟩
  cases ho : ok zs
  · have HR := hide (show ask ms f t zs = [] by unfold ask; rw [ho]; rfl)
    rw [ho] at H1
    have HEm := hide empty
    clear h hm hg hmg ho empty
    subst ev eu
    go_enter Try.func37, Try.ntmps37
    go_wp2_with fail
    refine (unhide H1).mono ?_
    rintro e w1 ⟨rfl, b1⟩
    have he := hide (unhide HEm w1 b1)
    have b2 := b1.alloc b1.size (.cells #[] 61)
    clear HEm
    go_wp2_with fail
    go_ret
    exact ⟨_, rfl, by rw [unhide HR]; exact unhide he, b2⟩
  cases hmo : Mat.ok ms
  · have HR := hide (show ask ms f t zs = [] by
      unfold ask
      rw [ho]
      simp only [if_true]
      unfold outL
      rw [List.flatMap_eq_nil_iff]
      intro x _
      rw [if_pos (show askG ms f t x = [] by unfold askG Mat.mlet; rw [hmo]; rfl)])
    rw [ho] at H1
    rw [hmo] at H2
    have HEm := hide empty
    clear h hm hg hmg ho empty hmo
    subst ev eu
    go_enter Try.func37, Try.ntmps37
    go_wp2_with fail
    refine (unhide H1).mono ?_
    rintro e w1 ⟨rfl, b1⟩
    go_wp2_with fail
    refine (unhide H2 w1 b1).mono ?_
    rintro e w2 ⟨rfl, b2⟩
    have b12 := b1.trans (b2.mono b1.size)
    have he := hide (unhide HEm w2 b12)
    have b3 := b12.alloc b12.size (.cells #[] 61)
    clear HEm
    go_wp2_with fail
    go_ret
    exact ⟨_, rfl, by rw [unhide HR]; exact unhide he, b3⟩
  · have HR := hide (show ask ms f t zs = outL (askG ms f t) zs by unfold ask; rw [ho]; rfl)
    have H3 := hide (fun W (hb : Below w.heap.size w W) => l5ask f t (h.below hb) (hm.below hb) hg hmg ho hmo)
    rw [ho] at H1
    rw [hmo] at H2
    clear h hm hg hmg ho empty hmo
    subst ev eu
    go_enter Try.func37, Try.ntmps37
    go_wp2_with fail
    refine (unhide H1).mono ?_
    rintro e w1 ⟨rfl, b1⟩
    go_wp2_with fail
    refine (unhide H2 w1 b1).mono ?_
    rintro e w2 ⟨rfl, b2⟩
    have b12 := b1.trans (b2.mono b1.size)
    go_wp2_with fail
    refine (unhide H3 w2 b12).mono ?_
    rintro e w3 ⟨r, rfl, o3, b3⟩
    have b13 := b12.trans (b3.mono b12.size)
    have O3 := hide (show Own w.heap.size w3.heap.size w3 r (ask ms f t zs) by rw [unhide HR]; obtain ⟨cs, g1, g2, g3, g4, g5, g6, g7⟩ := o3; exact ⟨cs, g1, own_mono g2 b12.size, g3, g4, g5, g6, fun i hi => ⟨⟨own_mono (g7 i hi).1.1 b12.size, own_mono (g7 i hi).1.2 b12.size⟩, (g7 i hi).2⟩⟩)
    clear o3 b3
    go_wp2_with fail
    go_ret
    exact ⟨r, rfl, unhide O3, b13⟩
end Go.Proofs.Ytdggffcibcggoaa.Row

/- A copy of rows that are ok: the program's rowsCopy. -/
namespace Go.Proofs.Ytdggffcibcggoaa.Row
open Go.RowKit Rw
set_option linter.unusedVariables false
attribute [local go_sem ↓] Go.wp_at_zero Go.wp_at_succ
set_option maxRecDepth 100000 in
set_option maxHeartbeats 2000000 in
theorem clone_any {w : World} {v : Value} {zs : List Sam.E} (h : Sam.Is w v zs) (h0 : zs ≠ []) (h1 : zs.length ≤ 4194304) : Calls Try.prog 110 #[v] w fun e w' => ∃ r, e = .returned r ∧ w'.ownsRow w.heap.size 38 2 r zs.length (Sam.flat zs) ∧ Below w.heap.size w w' := by
  obtain ⟨i2, hi2, hx0, hx1, hx2⟩ := info_parts Sam.info_e
  have hL : Lies w v zs.length 2 (Sam.flat zs) := h
  obtain ⟨-, a, cap, rfl, hc, hm, -, hr⟩ := h
  obtain ⟨b, off, rfl, hl, hcells⟩ := hr (List.length_pos_iff.2 h0)
  have oe : (w.alloc (.cells #[] 38)).ownsRow w.heap.size 38 2 (.slice (some ⟨w.heap.size, 0, none⟩) 0 0) 0 [] := own_empty (Nat.le_refl _)
  have be : Below w.heap.size w (w.alloc (.cells #[] 38)) := (Below.refl _ _).alloc (Nat.le_refl _) _
  have le := hL.below be
  clear hL hcells hr
  obtain ⟨m, hm'⟩ : ∃ m, m = zs.length := ⟨_, rfl⟩
  rw [← hm'] at h1 le ⊢
  clear hm' hc
  have heq : ∀ W, (binOp .eql 59 (.slice (some ⟨b, off, none⟩) m cap) (.slice none 0 0)).run Try.prog W = .ok (.bool false) W := fun W => rfl
  go_enter Try.func110, Try.ntmps110
  go_wp2_with (at_builtin; refine app_wp _ rfl _ _ _ rfl w.heap.size 38 i2 _ 2 16 Try.underlying59 hi2 hx0 hx1 hx2 rfl (by omega) _ 0 [] rfl oe _ m (Sam.flat zs) rfl le (Sam.flat_oneCell _) (by unfold maxLen; omega) (by omega) (by simp) ?_; intro vn wn on gn an)
  rw [Nat.zero_add, List.nil_append] at on
  have bn := below_grown be (by simp) gn (fun k hk => by cases hk; exact Nat.le_refl _)
  clear gn an le be oe
  go_wp2_with fail
  go_ret
  exact ⟨_, rfl, on, bn⟩
set_option maxRecDepth 100000 in
set_option maxHeartbeats 8000000 in
theorem copy_any {w : World} {v : Value} {zs : List E} (h : Is w v zs) (hok : ok zs = true) : Calls Try.prog 66 #[v] w fun e w' => ∃ r, e = .returned r ∧ Own w.heap.size w'.heap.size w' r zs ∧ Below w.heap.size w w' := by
  obtain ⟨i0, hi, hz0, hz1, hz2⟩ := info_parts Row.info_e
  have hn10 := ok_len hok
  have HOK := hide hok
  obtain ⟨cs, hcs, hL, hE⟩ := h
  have HE := hide hE
  obtain ⟨-, a, cap, rfl, hc, hmx, -, hr⟩ := hL
  unfold maxLen at hmx
  obtain ⟨l, hl⟩ : ∃ l, l = zs.length := ⟨_, rfl⟩
  rw [← hl] at hc hr hcs hn10 ⊢
  have HN := hide hl
  have HC := hide hcs
  clear hl hE hcs hok
  go_enter Try.func66, Try.ntmps66
  go_wp2_with fail
  go_loopw [3, 8] (fun pv i wr => ∃ (k : Nat) (pa : Option Addr) (pc : Nat), k ≤ l ∧ i = .int .i64 k ∧ pv = .slice pa k pc ∧ Hid (Own w.heap.size wr.heap.size wr pv (zs.take k)) ∧ Below w.heap.size w wr) (fun _ i _ => l - (intOf i).toNat)
  case atStart => exact ⟨0, none, 0, Nat.zero_le _, rfl, rfl, hide (own_nil w.heap.size w), Below.refl _ _⟩
  case round =>
    obtain ⟨k, pa, pc, hk, rfl, rfl, HO, hbel⟩ := hrel
    have hsz := hbel.size
    have hk0 : (0 : Int) ≤ (k : Int) := Int.natCast_nonneg _
    by_cases hlt : k < l
    · obtain ⟨b, off, rfl, hbl, hcells⟩ := hr (by omega)
      have fa := flat_at cs k (by have := unhide HC; omega)
      have hc0 : wr.cell? ⟨b, off + k * 2, none⟩ = some (cat cs k).1 := (hbel.cell (p := ⟨b, _, none⟩) hbl).trans (hcells (k * 2) _ fa.1)
      have hc1 : wr.cell? ⟨b, off + k * 2 + 1, none⟩ = some (cat cs k).2 := (hbel.cell (p := ⟨b, _, none⟩) hbl).trans (hcells (k * 2 + 1) _ fa.2)
      have hkz : k < zs.length := by have := unhide HN; omega
      have hEk := unhide HE k hkz
      have hst := step_is (ok_at (unhide HOK) hkz)
      have hsn : zs.take (k + 1) = zs.take k ++ [at' zs k] := by rw [List.take_succ_eq_append_getElem hkz, at_get zs k hkz]
      have htl : (zs.take k).length = k := by rw [List.length_take]; omega
      obtain ⟨⟨ls, xs⟩, hX⟩ : ∃ x, x = at' zs k := ⟨_, rfl⟩
      rw [← hX] at hEk hst hsn
      simp only at hst
      obtain ⟨c0, c1, hY⟩ : ∃ c0 c1, (c0, c1) = cat cs k := ⟨_, _, rfl⟩
      rw [← hY] at hc0 hc1 hEk
      have hE1 : Lab.Is w c0 ls := hEk.1
      have hE2 : Sam.Is w c1 xs := hEk.2
      obtain ⟨-, a0, q0, e0, -⟩ := hE1
      obtain ⟨-, a1, q1, e1, -⟩ := hE2
      have hE1 : Lab.Is w c0 ls := hEk.1
      have hE2 : Sam.Is w c1 xs := hEk.2
      clear fa hEk hX hY
      have hxne : xs ≠ [] := fun e => by rw [e] at hst; simp at hst
      have hk1 : (k : Int) < (l : Int) := by omega
      have hmx1 : 1 ≤ maxLen := by unfold maxLen; omega
      have HCl := hide (fun W (hb : Below w.heap.size w W) => Lab.copy_any (hE1.below hb) (Lab.ok_small hst.1))
      have HCs := hide (fun W (hb : Below w.heap.size w W) => clone_any (hE2.below hb) hxne (by omega))
      obtain ⟨ll, hll⟩ : ∃ ll, ll = ls.length := ⟨_, rfl⟩
      obtain ⟨m, hm⟩ : ∃ m, m = xs.length := ⟨_, rfl⟩
      rw [← hll] at e0 HCl
      rw [← hm] at e1 HCs
      have HLL := hide hll
      have HM := hide hm
      have HSn := hide hsn
      have HTl := hide htl
      clear hll hm hE1 hE2 hst hxne hsn htl
      subst e0 e1
      obtain ⟨ds, g1, g2, g3, g4, g5, g6, g7⟩ := unhide HO
      rw [unhide HTl] at g2
      obtain ⟨W, hW⟩ : ∃ W, W = wr.alloc (.cells #[.slice a0 ll q0, .slice a1 m q1] 61) := ⟨_, rfl⟩
      have bW : Below wr.heap.size wr W := by rw [hW]; exact (Below.refl _ _).alloc (Nat.le_refl _) _
      have zW : wr.heap.size < W.heap.size := by rw [hW]; simp
      have S6 : (fun w' : World => w'.cell? ⟨wr.heap.size, 0, none⟩ = some (.slice a0 ll q0) ∧ w'.cell? ⟨wr.heap.size, 1, none⟩ = some (.slice a1 m q1)) W.drew := by rw [hW]; exact ⟨by simp, by simp⟩
      have bWd : Below wr.heap.size wr W.drew := bW.drew
      have oW : W.drew.ownsRow w.heap.size 61 2 (.slice pa k pc) k (flatOf cl ds) := World.ownsRow.drew (own_below g2 bW)
      have hbW : Below w.heap.size w W.drew := hbel.trans (bWd.mono hsz)
      have hob := fun e => Nat.lt_irrefl _ (own_block_lt g2 wr.heap.size (Eq.symm e))
      have HO1 := hide (And.intro g1 (And.intro g5 (And.intro g6 g7)))
      have HCl6 := hide (unhide HCl W.drew hbW)
      clear bW HO g1 g3 g4 g5 g6 g7 HCl
      go_wp2_with fail
      rw [← hW]
      clear hW
      go_region_held3 (fun w' => w'.cell? ⟨wr.heap.size, 0, none⟩ = some (.slice a0 ll q0) ∧ w'.cell? ⟨wr.heap.size, 1, none⟩ = some (.slice a1 m q1)) (first | exact S6 | exact S7 | exact S8 | exact S9 _ | exact S10) ((first | (go_at_call 109; refine (unhide HCl6).mono ?_; rintro e w7 ⟨vl, rfl, ol, b7⟩; obtain ⟨la, lq, rfl⟩ : ∃ a q, vl = .slice a ll q := (by obtain ⟨-, a, q, e, -⟩ := lies_of_own ol; exact ⟨a, q, e⟩); have z7 := b7.size; simp only [World.size_drew] at z7; have hb7 : Below w.heap.size w w7 := hbW.trans (b7.mono hbW.size); have S7 : (fun w' : World => w'.cell? ⟨wr.heap.size, 0, none⟩ = some (.slice a0 ll q0) ∧ w'.cell? ⟨wr.heap.size, 1, none⟩ = some (.slice a1 m q1)) w7 := ⟨(b7.cell (p := ⟨_, _, none⟩) (by first | (simp; done) | (simp; omega) | omega)).trans S6.1, (b7.cell (p := ⟨_, _, none⟩) (by first | (simp; done) | (simp; omega) | omega)).trans S6.2⟩) | (go_at_call 110; refine (unhide HCs w7 hb7).mono ?_; rintro e w8 ⟨vs, rfl, oS, b8⟩; obtain ⟨sa, sq, rfl⟩ : ∃ a q, vs = .slice a m q := (by obtain ⟨-, a, q, e, -⟩ := lies_of_own oS; exact ⟨a, q, e⟩); have z8 := b8.size; have S8 : (fun w' : World => w'.cell? ⟨wr.heap.size, 0, none⟩ = some (.slice a0 ll q0) ∧ w'.cell? ⟨wr.heap.size, 1, none⟩ = some (.slice a1 m q1)) w8 := ⟨(b8.cell (p := ⟨_, _, none⟩) (by first | (simp; done) | (simp; omega) | omega)).trans S7.1, (b8.cell (p := ⟨_, _, none⟩) (by first | (simp; done) | (simp; omega) | omega)).trans S7.2⟩; have S9 : ∀ o, (fun w' : World => w'.cell? ⟨wr.heap.size, 0, none⟩ = some (.slice a0 ll q0) ∧ w'.cell? ⟨wr.heap.size, 1, none⟩ = some (.slice a1 m q1)) (w8.alloc o) := fun o => ⟨(((Below.refl _ _).alloc (Nat.le_refl _) _).cell (p := ⟨_, _, none⟩) (by first | (simp; done) | (simp; omega) | omega)).trans S8.1, (((Below.refl _ _).alloc (Nat.le_refl _) _).cell (p := ⟨_, _, none⟩) (by first | (simp; done) | (simp; omega) | omega)).trans S8.2⟩) | (refine app_step _ (by rfl) _ _ _ (by rfl) w.heap.size 61 i0 _ 2 48 Try.underlying24 hi hz0 hz1 hz2 rfl (by omega) _ k _ (by rfl) (World.ownsRow.alloc (own_below (own_below oW b7) b8) _) _ 1 [.slice la ll lq, .slice sa m sq] (by rfl) (lies_new (w := w8) (by simp) rfl hmx1) (by simp [Value.oneCell']) (by unfold maxLen; omega) (by omega) (by simp <;> omega) ?_; intro vn wn on gn an; have S10 : (fun w' : World => w'.cell? ⟨wr.heap.size, 0, none⟩ = some (.slice a0 ll q0) ∧ w'.cell? ⟨wr.heap.size, 1, none⟩ = some (.slice a1 m q1)) wn := ⟨by rw [gn.cell_far _ (by simp <;> omega) hob]; exact (S9 _).1, by rw [gn.cell_far _ (by simp <;> omega) hob]; exact (S9 _).2⟩)))
      have hb8 : Below w.heap.size w w8 := hb7.trans (b8.mono (by omega))
      have R9 : Below w.heap.size w wn := below_grown (hb8.alloc (by omega) _) (by simp <;> omega) gn (own_ge g2)
      have HO' := hide (show Own w.heap.size wn.heap.size wn vn (zs.take (k + 1)) by
        obtain ⟨g1, g5, g6, g7⟩ := unhide HO1
        rw [unhide HSn]
        have hw := fun {base e size n v} {xs : List Value} (ho : wr.ownsRow base e size v n xs) => World.ownsRow.alloc (own_below (own_below (own_below ho bWd) b7) b8) (.cells #[.slice la ll lq, .slice sa m sq] 61)
        exact own_snoc (w := w8.alloc (.cells #[.slice la ll lq, .slice sa m sq] 61)) (pv := .slice pa k pc) (vl := .slice la ll lq) (xv := .slice sa m sq) g1 (by rw [unhide HTl]; exact hw g2) g5 g6 (fun i hi => ⟨hw (g7 i hi).1.1, hw (g7 i hi).1.2⟩) gn (by rw [unhide HTl]; exact on) (by simp only; rw [← unhide HLL]; exact World.ownsRow.alloc (own_below (own_mono ol (by simp; omega)) b8) _) (by simp only; rw [← unhide HM]; exact World.ownsRow.alloc (own_mono oS (by omega)) _) (fun i hi k hk hk' => by have h1 := own_block_lt (g7 i hi).1.1 k hk; have h2 := own_ge ol k hk'; simp at h2; omega) (fun i hi k hk hk' => by have h1 := own_block_lt (g7 i hi).1.2 k hk; have h2 := own_ge oS k hk'; omega))
      obtain ⟨an', cn, hvn⟩ : ∃ a c, vn = .slice a (k + 1) c := by obtain ⟨-, a, c, e, -⟩ := lies_of_own on; exact ⟨a, c, e⟩
      have HV := hide hvn
      clear on gn an hvn hob S6 S7 S8 S9 S10 oW hbW b7 b8 hb8 hb7 ol oS g2 bWd HO1 HCs HCl6
      go_wp2_with fail
      go_roundw
      case rel => exact ⟨k + 1, an', cn, by omega, by go_num, unhide HV, HO', R9⟩
      case measure => simp [intOf]; omega
    · obtain rfl : k = l := by omega
      have HO' := hide (show Own w.heap.size wr.heap.size wr (.slice pa k pc) zs by have := unhide HO; rwa [List.take_of_length_le (by have := unhide HN; omega)] at this)
      clear HO
      go_wp2
      go_ret
      exact ⟨_, rfl, unhide HO', hbel⟩
end Go.Proofs.Ytdggffcibcggoaa.Row

/- A copy of rows that are ok: the model's l5Copy. -/
namespace Go.Proofs.Ytdggffcibcggoaa.Row
open Go.RowKit Rw
set_option linter.unusedVariables false
attribute [local go_sem ↓] Go.wp_at_zero Go.wp_at_succ
set_option maxRecDepth 100000 in
set_option maxHeartbeats 8000000 in
theorem l5copy {w : World} {v : Value} {zs : List E} (h : Is w v zs) (hok : ok zs = true) : Calls Try.prog 62 #[v] w fun e w' => ∃ r, e = .returned r ∧ Own w.heap.size w'.heap.size w' r zs ∧ Below w.heap.size w w' := by
  obtain ⟨i0, hi, hz0, hz1, hz2⟩ := info_parts Row.info_e
  obtain ⟨i1, hi1, hy0, hy1, hy2⟩ := info_parts Lab.info_e
  obtain ⟨i2, hi2, hx0, hx1, hx2⟩ := info_parts Sam.info_e
  have hn10 := ok_len hok
  have HOK := hide hok
  obtain ⟨cs, hcs, hL, hE⟩ := h
  have HE := hide hE
  obtain ⟨-, a, cap, rfl, hc, hmx, -, hr⟩ := hL
  unfold maxLen at hmx
  obtain ⟨l, hl⟩ : ∃ l, l = zs.length := ⟨_, rfl⟩
  rw [← hl] at hc hr hcs hn10 ⊢
  have HN := hide hl
  have HC := hide hcs
  clear hl hE hcs hok
  have HI0 := hide (show Own w.heap.size (w.alloc (.cells #[] 61)).heap.size (w.alloc (.cells #[] 61)) (.slice (some ⟨w.heap.size, 0, none⟩) 0 0) (zs.take 0) from ⟨[], rfl, Str.own_empty' (Nat.le_refl _) rfl, own_block_lt (Str.own_empty' (base := w.heap.size) (e := 61) (size := 2) (Nat.le_refl _) rfl), Nat.le_refl _, fun i j _ h => absurd h (Nat.not_lt_zero _), fun i j _ h => absurd h (Nat.not_lt_zero _), fun i h => absurd h (Nat.not_lt_zero _)⟩)
  have B0 : Below w.heap.size w (w.alloc (.cells #[] 61)) := (Below.refl _ _).alloc (Nat.le_refl _) _
  go_enter Try.func62, Try.ntmps62
  go_wp2_with fail
  go_loopw [3, 4] (fun pv i wr => ∃ (k : Nat) (pa : Option Addr) (pc : Nat), k ≤ l ∧ i = .int .i64 k ∧ pv = .slice pa k pc ∧ Hid (Own w.heap.size wr.heap.size wr pv (zs.take k)) ∧ Below w.heap.size w wr) (fun _ i _ => l - (intOf i).toNat)
  case atStart => exact ⟨0, _, 0, Nat.zero_le _, rfl, rfl, HI0, B0⟩
  case round =>
    clear HI0 B0
    obtain ⟨k, pa, pc, hk, rfl, rfl, HO, hbel⟩ := hrel
    have hsz := hbel.size
    have hk0 : (0 : Int) ≤ (k : Int) := Int.natCast_nonneg _
    by_cases hlt : k < l
    · obtain ⟨b, off, rfl, hbl, hcells⟩ := hr (by omega)
      have fa := flat_at cs k (by have := unhide HC; omega)
      have hc0 : wr.cell? ⟨b, off + k * 2, none⟩ = some (cat cs k).1 := (hbel.cell (p := ⟨b, _, none⟩) hbl).trans (hcells (k * 2) _ fa.1)
      have hc1 : wr.cell? ⟨b, off + k * 2 + 1, none⟩ = some (cat cs k).2 := (hbel.cell (p := ⟨b, _, none⟩) hbl).trans (hcells (k * 2 + 1) _ fa.2)
      have hkz : k < zs.length := by have := unhide HN; omega
      have hEk := unhide HE k hkz
      have hst := step_is (ok_at (unhide HOK) hkz)
      have hsn : zs.take (k + 1) = zs.take k ++ [at' zs k] := by rw [List.take_succ_eq_append_getElem hkz, at_get zs k hkz]
      have htl : (zs.take k).length = k := by rw [List.length_take]; omega
      obtain ⟨⟨ls, xs⟩, hX⟩ : ∃ x, x = at' zs k := ⟨_, rfl⟩
      rw [← hX] at hEk hst hsn
      simp only at hst
      obtain ⟨c0, c1, hY⟩ : ∃ c0 c1, (c0, c1) = cat cs k := ⟨_, _, rfl⟩
      rw [← hY] at hc0 hc1 hEk
      have hE1 : Lab.Is w c0 ls := hEk.1
      have hE2 : Sam.Is w c1 xs := hEk.2
      obtain ⟨-, a0, q0, e0, -⟩ := hE1
      obtain ⟨-, a1, q1, e1, -⟩ := hE2
      have hE1 : Lab.Is w c0 ls := hEk.1
      have hE2 : Sam.Is w c1 xs := hEk.2
      clear fa hEk hX hY
      have hxne : xs ≠ [] := fun e => by rw [e] at hst; simp at hst
      have hk1 : (k : Int) < (l : Int) := by omega
      have hmx1 : 1 ≤ maxLen := by unfold maxLen; omega
      have hsm := (Lab.ok_small hst.1).1
      have hx1000 := hst.2.2.1
      obtain ⟨ll, hll⟩ : ∃ ll, ll = ls.length := ⟨_, rfl⟩
      obtain ⟨m, hm⟩ : ∃ m, m = xs.length := ⟨_, rfl⟩
      rw [← hll] at e0 hsm
      rw [← hm] at e1 hx1000
      have HL1 := hide (fun W (hb : Below w.heap.size w W) => show Lies W c0 ll 2 (Lab.flat ls) by rw [hll]; exact hE1.below hb)
      have HL2 := hide (fun W (hb : Below w.heap.size w W) => show Lies W c1 m 2 (Sam.flat xs) by rw [hm]; exact hE2.below hb)
      have HLL := hide hll
      have HM := hide hm
      have HSn := hide hsn
      have HTl := hide htl
      clear hll hm hE1 hE2 hst hxne hsn htl
      subst e0 e1
      obtain ⟨ds, g1, g2, g3, g4, g5, g6, g7⟩ := unhide HO
      rw [unhide HTl] at g2
      have hb0 : b < wr.heap.size := by omega
      have hb0a : b < wr.heap.size + 1 := by omega
      have hb0b : b < wr.heap.size + 1 + 1 := by omega
      have hbn : ¬ b = wr.heap.size := by omega
      have hbn2 : ¬ b = wr.heap.size + 1 := by omega
      have be1 : Below wr.heap.size wr (wr.alloc (.cells #[] 86)).drew := ((Below.refl _ _).alloc (Nat.le_refl _) _).drew
      have be2 : Below wr.heap.size wr ((wr.alloc (.cells #[] 86)).alloc (.cells #[] 38)).drew := (((Below.refl _ _).alloc (Nat.le_refl _) _).alloc (by simp) _).drew
      have be3 : Below wr.heap.size wr ((wr.alloc (.cells #[] 38)).alloc (.cells #[] 86)).drew := (((Below.refl _ _).alloc (Nat.le_refl _) _).alloc (by simp) _).drew
      have oe1 : World.ownsRow (wr.alloc (.cells #[] 86)).drew wr.heap.size 86 2 (.slice (some ⟨wr.heap.size, 0, none⟩) 0 0) 0 [] := World.ownsRow.drew (own_empty (Nat.le_refl _))
      have oe2 : World.ownsRow ((wr.alloc (.cells #[] 86)).alloc (.cells #[] 38)).drew wr.heap.size 86 2 (.slice (some ⟨wr.heap.size, 0, none⟩) 0 0) 0 [] := World.ownsRow.drew (World.ownsRow.alloc (own_empty (Nat.le_refl _)) _)
      have oe3 : World.ownsRow ((wr.alloc (.cells #[] 38)).alloc (.cells #[] 86)).drew wr.heap.size 86 2 (.slice (some ⟨wr.heap.size + 1, 0, none⟩) 0 0) 0 [] := World.ownsRow.drew (Str.own_empty' (w := wr.alloc (.cells #[] 38)) (by simp) (by simp))
      have os2 : World.ownsRow ((wr.alloc (.cells #[] 86)).alloc (.cells #[] 38)).drew wr.heap.size 38 2 (.slice (some ⟨wr.heap.size + 1, 0, none⟩) 0 0) 0 [] := World.ownsRow.drew (Str.own_empty' (w := wr.alloc (.cells #[] 86)) (by simp) (by simp))
      have os3 : World.ownsRow ((wr.alloc (.cells #[] 38)).alloc (.cells #[] 86)).drew wr.heap.size 38 2 (.slice (some ⟨wr.heap.size, 0, none⟩) 0 0) 0 [] := World.ownsRow.drew (World.ownsRow.alloc (own_empty (Nat.le_refl _)) _)
      have le1 := unhide HL1 _ (hbel.trans (be1.mono hsz))
      have le2 := unhide HL1 _ (hbel.trans (be2.mono hsz))
      have le3 := unhide HL1 _ (hbel.trans (be3.mono hsz))
      have HO1 := hide (And.intro g1 (And.intro g5 (And.intro g6 g7)))
      clear HO g1 g3 g4 g5 g6 g7
      go_wp2_with fail
      go_region_law ((first | (refine app_step _ (by rfl) (.tmp 13) (.tmp 18) _ (by rfl) wr.heap.size 86 i1 _ 2 32 Try.underlying36 hi1 hy0 hy1 hy2 rfl (by omega) _ 0 [] (by rfl) (by first | exact oe1 | exact oe2 | exact oe3) _ ll (Lab.flat ls) (by rfl) (by first | exact le1 | exact le2 | exact le3) (Lab.flat_oneCell _) (by unfold maxLen; omega) (by omega) (by simp <;> omega) ?_; intro vl w7 ol gl al; rw [Nat.zero_add, List.nil_append] at ol; have b7 : Below wr.heap.size wr w7 := (by first | exact below_grown be1 (by simp) gl (own_ge oe1) | exact below_grown be2 (by simp <;> omega) gl (own_ge oe2) | exact below_grown be3 (by simp <;> omega) gl (own_ge oe3)); obtain ⟨la, lq, rfl⟩ : ∃ a q, vl = .slice a ll q := (by obtain ⟨-, a, q, e, -⟩ := lies_of_own ol; exact ⟨a, q, e⟩); have z7 := b7.size; have hb7 : Below w.heap.size w w7 := hbel.trans (b7.mono hsz); have c7a : w7.cell? ⟨b, off + k * 2 + 1, none⟩ = some (.slice a1 m q1) := (b7.cell (p := ⟨b, _, none⟩) hb0).trans hc1; have hb77 : b < w7.heap.size := (by omega); have hb7n : ¬ b = w7.heap.size := (by omega); have os1 : (w7.alloc (.cells #[] 38)).ownsRow wr.heap.size 38 2 (.slice (some ⟨w7.heap.size, 0, none⟩) 0 0) 0 [] := own_empty z7; have bs1 : Below w7.heap.size w7 (w7.alloc (.cells #[] 38)) := (Below.refl _ _).alloc (Nat.le_refl _) _; have lx1 := unhide HL2 _ (hb7.trans (bs1.mono (by omega))); have lx2 := unhide HL2 _ hb7) | (refine app_step _ (by rfl) (.tmp 20) (.tmp 25) _ (by rfl) wr.heap.size 38 i2 _ 2 16 Try.underlying59 hi2 hx0 hx1 hx2 rfl (by omega) _ 0 [] (by rfl) (by first | exact os1 | exact own_grown gl os2 (own_ne_type os2 oe2 (by decide)) | exact own_grown gl os3 (own_ne_type os3 oe3 (by decide))) _ m (Sam.flat xs) (by rfl) (by first | exact lx1 | exact lx2) (Sam.flat_oneCell _) (by unfold maxLen; omega) (by omega) (by first | omega | (simp; done) | (simp; omega)) ?_; intro vs w8 oS gS aS; rw [Nat.zero_add, List.nil_append] at oS; have b8 : Below wr.heap.size wr w8 := (by first | exact below_grown (b7.trans (bs1.mono z7)) (by simp <;> omega) gS (own_ge os1) | exact below_grown b7 z7 gS (own_ge os2) | exact below_grown b7 z7 gS (own_ge os3)); have ol8 : w8.ownsRow wr.heap.size 86 2 (.slice la ll lq) ll (Lab.flat ls) := (by first | exact own_grown gS (own_below ol bs1) (own_ne_type (own_below ol bs1) os1 (by decide)) | exact own_grown gS ol (own_ne_type ol (own_grown gl os2 (own_ne_type os2 oe2 (by decide))) (by decide)) | exact own_grown gS ol (own_ne_type ol (own_grown gl os3 (own_ne_type os3 oe3 (by decide))) (by decide))); obtain ⟨sa, sq, rfl⟩ : ∃ a q, vs = .slice a m q := (by obtain ⟨-, a, q, e, -⟩ := lies_of_own oS; exact ⟨a, q, e⟩); have z8 := b8.size) | (refine app_step _ (by rfl) (.tmp 12) (.tmp 28) _ (by rfl) w.heap.size 61 i0 _ 2 48 Try.underlying24 hi hz0 hz1 hz2 rfl (by omega) _ k _ (by rfl) (World.ownsRow.alloc (own_below g2 b8) _) _ 1 [.slice la ll lq, .slice sa m sq] (by rfl) (lies_new (w := w8) (by simp) rfl hmx1) (by simp [Value.oneCell']) (by unfold maxLen; omega) (by omega) (by simp <;> omega) ?_; intro vn wn on gn an)))
      all_goals
        have hb8 : Below w.heap.size w w8 := hbel.trans (b8.mono hsz)
        have R9 : Below w.heap.size w wn := below_grown (hb8.alloc (by omega) _) (by simp <;> omega) gn (own_ge g2)
        have HO' := hide (show Own w.heap.size wn.heap.size wn vn (zs.take (k + 1)) by
          obtain ⟨g1, g5, g6, g7⟩ := unhide HO1
          rw [unhide HSn]
          have hw := fun {base e size n v} {xs : List Value} (ho : wr.ownsRow base e size v n xs) => World.ownsRow.alloc (own_below ho b8) (.cells #[.slice la ll lq, .slice sa m sq] 61)
          exact own_snoc (w := w8.alloc (.cells #[.slice la ll lq, .slice sa m sq] 61)) (pv := .slice pa k pc) (vl := .slice la ll lq) (xv := .slice sa m sq) g1 (by rw [unhide HTl]; exact hw g2) g5 g6 (fun i hi => ⟨hw (g7 i hi).1.1, hw (g7 i hi).1.2⟩) gn (by rw [unhide HTl]; exact on) (by simp only; rw [← unhide HLL]; exact World.ownsRow.alloc (own_mono ol8 (by omega)) _) (by simp only; rw [← unhide HM]; exact World.ownsRow.alloc (own_mono oS (by omega)) _) (fun i hi k hk hk' => by have h1 := own_block_lt (g7 i hi).1.1 k hk; have h2 := own_ge ol8 k hk'; omega) (fun i hi k hk hk' => by have h1 := own_block_lt (g7 i hi).1.2 k hk; have h2 := own_ge oS k hk'; omega))
        obtain ⟨an', cn, hvn⟩ : ∃ a c, vn = .slice a (k + 1) c := by obtain ⟨-, a, c, e, -⟩ := lies_of_own on; exact ⟨a, c, e⟩
        have HV := hide hvn
        clear on gn an hvn ol oS ol8 g2 HO1 oe1 oe2 oe3 os1 os2 os3 le1 le2 le3 lx1 lx2 be1 be2 be3 bs1 gl gS al aS b7 b8 hb7 hb8
        go_wp2_with fail
        go_roundw
        case rel => exact ⟨k + 1, an', cn, by omega, by go_num, unhide HV, HO', R9⟩
        case measure => simp [intOf]; omega
    · obtain rfl : k = l := by omega
      have HO' := hide (show Own w.heap.size wr.heap.size wr (.slice pa k pc) zs by have := unhide HO; rwa [List.take_of_length_le (by have := unhide HN; omega)] at this)
      clear HO
      go_wp2
      go_ret
      exact ⟨_, rfl, unhide HO', hbel⟩
end Go.Proofs.Ytdggffcibcggoaa.Row
