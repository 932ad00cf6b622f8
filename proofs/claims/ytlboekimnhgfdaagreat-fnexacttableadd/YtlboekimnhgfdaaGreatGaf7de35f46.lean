/- My own texts of one claim, laid together by program: RowJoin, RowJoin2, JoinCnt, RowsAdd. -/
import Derived.Test.YtlboekimnhgfdaaGreatGb4760d3d53
import Derived.Test.YtlboekimnhgfdaaGreatG32ba85294a
import Derived.Test.YtlboekimnhgfdaaGreatGd8269a4317
import Derived.Test.YtlboekimnhgfdaaGreatG32b7cddec7
import Derived.Test.YtlboekimnhgfdaaGreatGf7ca62e939
import Derived.Test.YtlboekimnhgfdaaGreatG7bcfe9c19e
import Derived.Test.YtlboekimnhgfdaaGreatGfbf2e4a745
/- RowsJoin of the program: all rows are put to a set. -/
namespace Go.Proofs.YtlboekimnhgfdaaGreat.Row
open Go.RowKit Rw
set_option linter.unusedVariables false
attribute [local go_sem ↓] Go.wp_at_zero Go.wp_at_succ
theorem own_wide {lo hi lo' hi' : Nat} {w : World} {v : Value} {zs : List E} (h : Own lo hi w v zs) (h1 : lo' ≤ lo) (h2 : hi ≤ hi') (h3 : hi' ≤ w.heap.size) : Own lo' hi' w v zs := by
  obtain ⟨cs, g1, g2, g3, g4, g5, g6, g7⟩ := h
  exact ⟨cs, g1, own_mono g2 h1, fun k hk => by have := g3 k hk; omega, h3, g5, g6, fun i hi => ⟨⟨own_mono (g7 i hi).1.1 h1, own_mono (g7 i hi).1.2 h1⟩, fun k hk => by have := (g7 i hi).2.1 k hk; omega, fun k hk => by have := (g7 i hi).2.2 k hk; omega⟩⟩
set_option maxRecDepth 100000 in
set_option maxHeartbeats 8000000 in
theorem putAll_any {lo B mb n0 : Nat} {w0 w : World} {v : Value} {L ys : List E} (hlo : lo = w0.heap.size) (hb0 : Below lo w0 w) (hB : RSet.Built lo B mb n0 w L) (hF : Fine L) (hL : L.length ≤ 20) (hn0 : n0 ≤ 20) (h : Is w0 v ys) (hg : ∀ x ∈ ys, good x) (hok : ok ys = true) :
    Calls Tryz.prog 73 #[.pointer (some ⟨B, 0, none⟩), v] w fun e w' => (∃ R n', insAll L ys = some R ∧ e = .returned (.bool true) ∧ n' ≤ n0 + 10 ∧ RSet.Built lo B mb n' w' R ∧ RSet.Two B mb w w') ∨ (insAll L ys = none ∧ e = .returned (.bool false) ∧ RSet.Two B mb w w') := by
  have hn10 := ok_len hok
  have HOK := hide hok
  have HFy := hide (fine_ok hok)
  have HF := hide hF
  have hlt0 := hB.ltB
  have HB0 := hide hB
  obtain ⟨cs, hcs, hLi, hE⟩ := h
  have HE := hide hE
  have HG := hide hg
  obtain ⟨-, a, cap, rfl, hc, hmx, -, hr⟩ := hLi
  unfold maxLen at hmx
  obtain ⟨l, hl⟩ : ∃ l, l = ys.length := ⟨_, rfl⟩
  rw [← hl] at hc hr hcs hn10 ⊢
  have HN := hide hl
  have HC := hide hcs
  have HT0 := hide (show insAll L (ys.take 0) = some L from rfl)
  have hsz0 := hb0.size
  subst hlo
  clear hl hE hcs hg hok hB hF
  go_enter Tryz.func73, Tryz.ntmps73
  go_wp2_with fail
  go_loopw [9] (fun i wr => ∃ (k n : Nat) (R : List E), k ≤ l ∧ i = .int .i64 k ∧ n ≤ n0 + k ∧ Hid (insAll L (ys.take k) = some R) ∧ Hid (RSet.Built w0.heap.size B mb n wr R) ∧ RSet.Two B mb w wr) (fun i _ => l - (intOf i).toNat)
  case atStart => exact ⟨0, n0, L, Nat.zero_le _, rfl, Nat.le_refl _, HT0, HB0, RSet.Two.refl _ _ _⟩
  case round =>
    clear HB0 HT0
    obtain ⟨k, n, R, hk, rfl, hnk, HT, HB, h2⟩ := hrel
    have hsz := h2.size
    have hbel : Below w0.heap.size w0 wr := hb0.trans (h2.below hlt0.2.2.1 hlt0.2.2.2 hsz0)
    by_cases hlt : k < l
    · obtain ⟨b, off, rfl, hbl, hcells⟩ := hr (by omega)
      have fa := flat_at cs k (by have := unhide HC; omega)
      have hc0 : wr.cell? ⟨b, off + k * 2, none⟩ = some (cat cs k).1 := (hbel.cell (p := ⟨b, _, none⟩) hbl).trans (hcells (k * 2) _ fa.1)
      have hc1 : wr.cell? ⟨b, off + k * 2 + 1, none⟩ = some (cat cs k).2 := (hbel.cell (p := ⟨b, _, none⟩) hbl).trans (hcells (k * 2 + 1) _ fa.2)
      have hkz : k < ys.length := by have := unhide HN; omega
      have hEk := unhide HE k hkz
      have hgk := unhide HG (at' ys k) (at_mem ys k hkz)
      have hst := step_is (ok_at (unhide HOK) hkz)
      have hFR := insAll_fine (ys.take k) (unhide HF) (fun x hx => fine_one (unhide HFy) (List.mem_of_mem_take hx)) (unhide HT)
      have hRl : R.length ≤ 30 := by have := hFR.2; rw [List.length_take] at this; omega
      have hsn := insAll_step hkz (unhide HT)
      obtain ⟨⟨ls, xs⟩, hX⟩ : ∃ x, x = at' ys k := ⟨_, rfl⟩
      rw [← hX] at hEk hgk hst hsn
      simp only at hst
      obtain ⟨c0, c1, hY⟩ : ∃ c0 c1, (c0, c1) = cat cs k := ⟨_, _, rfl⟩
      rw [← hY] at hc0 hc1 hEk
      have hE1 : Lab.Is w0 c0 ls := hEk.1
      have hE2 : Sam.Is w0 c1 xs := hEk.2
      obtain ⟨-, a0, q0, e0, -⟩ := hE1
      obtain ⟨-, a1, q1, e1, -⟩ := hE2
      have hE1 : Lab.Is w0 c0 ls := hEk.1
      have hE2 : Sam.Is w0 c1 xs := hEk.2
      clear fa hEk hX hY
      have hxne : xs ≠ [] := fun e => by rw [e] at hst; simp at hst
      have hk0 : (0 : Int) ≤ (k : Int) := Int.natCast_nonneg _
      have hk1 : (k : Int) < (l : Int) := by omega
      have hWf : ∀ o, Below wr.heap.size wr (wr.alloc o) := fun o => (Below.refl _ _).alloc (Nat.le_refl _) _
      have HP := hide (fun (W : World) (hb : Below wr.heap.size wr W) => RSet.built_put ((unhide HB).below hb) hFR.1 (by omega) (by omega) (hE1.below (hbel.trans (hb.mono (by omega)))) hgk.1.2 hst.1 (by rw [← e1]; exact smp_of_lies (hE2.below (hbel.trans (hb.mono (by omega)))) hxne) rfl hst.2.2.2 (by omega) (by omega) (by have := hb.size; omega))
      rw [← hsn] at HP
      clear hgk hst hsn hE1 hE2 hxne hFR HB HT
      subst e0 e1
      go_wp2_with fail
      obtain ⟨W, hW⟩ : ∃ W, W = wr.alloc (.cells #[.slice a0 ls.length q0, .slice a1 xs.length q1] 93) := ⟨_, rfl⟩
      rw [← hW]
      have bW : Below wr.heap.size wr W := by rw [hW]; exact hWf _
      clear hW
      refine (unhide HP W bW).mono ?_
      rintro e w4 (⟨R', hR', rfl, hB4, t4⟩ | ⟨hNo, rfl, t4⟩)
      · have t5 := (h2.trans (RSet.Two.of_below bW)).trans t4
        have HB4 := hide hB4
        have HT4 := hide hR'
        clear HP hB4 t4 hR'
        go_wp2_with fail
        go_roundw
        case rel => exact ⟨k + 1, n + 1, R', by omega, by go_num, by omega, HT4, HB4, t5⟩
        case measure => simp [intOf]; omega
      · have t5 := (h2.trans (RSet.Two.of_below bW)).trans t4
        have HNo := hide (insAll_take_none _ hNo)
        clear HP t4 hNo
        go_wp2_with fail
        go_ret
        exact .inr ⟨unhide HNo, rfl, t5⟩
    · obtain rfl : k = l := by omega
      have HT' := hide (show insAll L ys = some R by have := unhide HT; rwa [List.take_of_length_le (by have := unhide HN; omega)] at this)
      clear HT
      go_wp2_with fail
      go_ret
      exact .inl ⟨R, n, unhide HT', rfl, by omega, unhide HB, h2⟩
set_option maxRecDepth 100000 in
set_option maxHeartbeats 8000000 in
theorem impl_join {w : World} {v u : Value} {zs ys : List E} (h : Is w v zs) (h' : Is w u ys) (hg : ∀ x ∈ zs, good x) (hlen : zs.length ≤ maxLen) (hg' : ∀ x ∈ ys, good x) (hlen' : ys.length ≤ maxLen) :
    Calls Tryz.prog 33 #[v, u] w fun e w' => ∃ r, e = .returned (.tuple #[r, .bool (join zs ys).2]) ∧ Own w.heap.size w'.heap.size w' r (join zs ys).1 ∧ Below w.heap.size w w' := by
  have HO := hide (impl_ok h hg hlen)
  have HO' := hide (fun W (hb : Below w.heap.size w W) => impl_ok (h'.below hb) hg' hlen')
  cases hok : ok zs
  · have HR := hide (join_bad1 (b := ys) hok)
    rw [hok] at HO
    clear h h' hg hg' hok
    go_enter Tryz.func33, Tryz.ntmps33
    go_wp2_with fail
    refine (unhide HO).mono ?_
    rintro e w1 ⟨rfl, b1⟩
    go_wp2_with fail
    go_ret2
    exact ⟨.slice none 0 0, by rw [unhide HR]; rfl, by rw [unhide HR]; exact own_nil w.heap.size w1, b1⟩
  cases hok' : ok ys
  · have HR := hide (join_bad2 (a := zs) hok')
    rw [hok] at HO
    rw [hok'] at HO'
    clear h h' hg hg' hok hok'
    go_enter Tryz.func33, Tryz.ntmps33
    go_wp2_with fail
    refine (unhide HO).mono ?_
    rintro e w1 ⟨rfl, b1⟩
    go_wp2_with fail
    refine (unhide HO' w1 b1).mono ?_
    rintro e w2 ⟨rfl, b2⟩
    have b12 := b1.trans (b2.mono b1.size)
    go_wp2_with fail
    go_ret2
    exact ⟨.slice none 0 0, by rw [unhide HR]; rfl, by rw [unhide HR]; exact own_nil w.heap.size w2, b12⟩
  rw [hok] at HO
  rw [hok'] at HO'
  have HPa := hide (fun (W : World) (B mb n : Nat) (hb : Below w.heap.size w W) (hB : RSet.Built w.heap.size B mb n W []) (hn : n ≤ 20) => putAll_any rfl hb hB fine_nil (by simp) hn h hg hok)
  have HPb := hide (fun (W : World) (B mb n : Nat) (hb : Below w.heap.size w W) (hB : RSet.Built w.heap.size B mb n W zs) (hn : n ≤ 20) => putAll_any rfl hb hB (fine_ok hok) (by have := ok_len hok; omega) hn h' hg' hok')
  have HSelf := hide (insAll_self hok)
  have HNo := hide (fun h => join_no hok hok' h)
  have HYes := hide (fun R h => join_yes (R := R) hok hok' h)
  have HMany := hide (fun R h => join_many (R := R) hok hok' h)
  have HFine := hide (fun R (h : insAll zs ys = some R) => insAll_fine ys (fine_ok hok) (fun x hx => fine_one (fine_ok hok') hx) h)
  have HL := hide (And.intro (ok_len hok) (ok_len hok'))
  clear h h' hg hg' hok hok' hlen hlen'
  go_enter Tryz.func33, Tryz.ntmps33
  go_wp2_with fail
  refine (unhide HO).mono ?_
  rintro e w0 ⟨rfl, b0⟩
  go_wp2_with fail
  refine (unhide HO' w0 b0).mono ?_
  rintro e w1 ⟨rfl, b1'⟩
  have b1 := b0.trans (b1'.mono b0.size)
  clear b1' b0
  go_wp2_with fail
  refine (RSet.new_any w1).mono ?_
  rintro e w2 ⟨mb, rfl, hmb, hM2, b2⟩
  have z1 := b1.size
  have z2 := b2.size
  go_wp2_with fail
  obtain ⟨wa, hwa⟩ : ∃ wa, wa = w2.alloc (.cells #[.slice none 0 0, .map (some mb)] 99) := ⟨_, rfl⟩
  rw [← hwa]
  have ba : Below w2.heap.size w2 wa := by rw [hwa]; exact (Below.refl _ _).alloc (Nat.le_refl _) _
  have za : wa.heap.size = w2.heap.size + 1 := by rw [hwa]; simp
  have bwa : Below w.heap.size w wa := (b1.trans (b2.mono z1)).trans (ba.mono (by omega))
  have hmlt := hM2.lt
  have hB0 : RSet.Built w.heap.size w2.heap.size mb 0 wa [] := ⟨fun _ => none, fun _ => ([], []), ⟨by omega, by omega, by omega, by omega, ⟨.slice none 0 0, by rw [hwa]; simp [go_sem], World.ownsRow_nil _ _ _ _, fun k hk => by cases hk⟩, by rw [hwa]; simp [go_sem], by rw [hwa]; simp [go_sem], hM2.below ba, fun k => by simp, fun k c hc => (by cases hc), fun k k' c c' _ hc => (by cases hc)⟩, rfl⟩
  have HB0 := hide hB0
  have hlows : w.heap.size ≤ w2.heap.size := by omega
  have hlowm : w.heap.size ≤ mb := by omega
  generalize hBB : w2.heap.size = B at *
  clear hwa hB0 ba hM2 hBB b1 b2 HO HO'
  refine (unhide HPa wa B mb 0 bwa (unhide HB0) (by omega)).mono ?_
  rintro e w3 (⟨R, n3, hR, rfl, hn3, hB3, t3⟩ | ⟨hN, -, -⟩)
  case inr => rw [unhide HSelf] at hN; cases hN
  rw [unhide HSelf] at hR
  cases hR
  have b3 : Below w.heap.size w w3 := bwa.trans (t3.below hlows hlowm (by omega))
  have HB3 := hide hB3
  clear hB3 t3 HPa HB0 HSelf
  go_wp2_with fail
  refine (unhide HPb w3 B mb n3 b3 (unhide HB3) (by omega)).mono ?_
  rintro e w4 (⟨R, n4, hR, rfl, hn4, hB4, t4⟩ | ⟨hN, rfl, t4⟩)
  case inr =>
    have HR := hide (unhide HNo hN)
    have b4 : Below w.heap.size w w4 := b3.trans (t4.below hlows hlowm b3.size)
    clear hN HPb HB3 t4 HNo HYes HMany
    go_wp2_with fail
    go_ret2
    exact ⟨.slice none 0 0, by rw [unhide HR]; rfl, by rw [unhide HR]; exact own_nil w.heap.size w4, b4⟩
  have b4 : Below w.heap.size w w4 := b3.trans (t4.below hlows hlowm b3.size)
  have hfR := unhide HFine R hR
  have hRl : R.length ≤ 20 := by have := unhide HL; omega
  have HRw := hide (RSet.built_rows hB4 (fine_sorted hfR.1) (by omega) hfR.1.lab b4.size)
  have HfR := hide hfR.1
  have HRs := hide hR
  clear hB4 t4 HPb HB3 hfR hR
  go_wp2_with fail
  refine (unhide HRw).mono ?_
  rintro e w5 ⟨r, rfl, ho, b5'⟩
  have b5 := b4.trans (b5'.mono b4.size)
  have HO5 := hide (impl_ok ho.is (fine_good (unhide HfR)) (by unfold maxLen; omega))
  have HOw := hide ho
  obtain ⟨ra, rl, rq, rfl⟩ := ho.form
  clear ho b5' HRw
  go_wp2_with fail
  refine (unhide HO5).mono ?_
  rintro e w6 ⟨rfl, b6'⟩
  have b6 := b5.trans (b6'.mono b5.size)
  have HO6 := hide ((unhide HOw).below b6')
  have HZ := hide b6'.size
  clear HO5 b6'
  cases hkR : ok R
  · have HR := hide (unhide HMany R (unhide HRs) hkR)
    go_wp2_with fail
    go_ret2
    exact ⟨.slice none 0 0, by rw [unhide HR]; rfl, by rw [unhide HR]; exact own_nil w.heap.size w6, b6⟩
  · have HR := hide (unhide HYes R (unhide HRs) hkR)
    go_wp2_with fail
    go_ret2
    exact ⟨.slice ra rl rq, by rw [unhide HR]; rfl, by rw [unhide HR]; exact own_wide (unhide HO6) (Nat.le_refl _) (unhide HZ) (Nat.le_refl _), b6⟩
end Go.Proofs.YtlboekimnhgfdaaGreat.Row

/- RowsJoin and RowsAdd of the model. -/
namespace Go.Proofs.YtlboekimnhgfdaaGreat.Row
open Go.RowKit Rw
set_option linter.unusedVariables false
attribute [local go_sem ↓] Go.wp_at_zero Go.wp_at_succ
theorem addAll_app : ∀ (b c : List E) (L : List E), addAll L (b ++ c) = (addAll L b).bind fun R => addAll R c
  | [], c, L => rfl
  | y :: b, c, L => by
    rw [List.cons_append, addAll, addAll]
    cases e : add L y with
    | none => rfl
    | some R => rw [Option.bind_some, Option.bind_some]; exact addAll_app b c R
theorem addAll_take_none {L b : List E} (k : Nat) (h : addAll L (b.take k) = none) : addAll L b = none := by
  rw [← List.take_append_drop k b, addAll_app, h]; rfl
theorem addAll_step {L b R : List E} {k : Nat} (hk : k < b.length) (h : addAll L (b.take k) = some R) : addAll L (b.take (k + 1)) = add R (at' b k) := by
  rw [take_snoc hk, addAll_app, h, Option.bind_some, addAll]
  cases add R (at' b k) <;> rfl
theorem add_ok {L R : List E} {x : E} (hL : ok L = true) (hx : Fine [x]) (h : add L x = some R) : ok R = true := by
  unfold add at h
  cases e : ins L x with
  | none => rw [e] at h; cases h
  | some S =>
    rw [e, Option.bind_some] at h
    split at h
    · rename_i hs
      cases h
      rw [ok_of (ins_fine (fine_ok hL) hx e).1]; exact hs
    · cases h
theorem addAll_ok : ∀ (b : List E) {L R : List E}, ok L = true → (∀ x ∈ b, Fine [x]) → addAll L b = some R → ok R = true
  | [], L, R, hL, _, h => by cases h; exact hL
  | x :: b, L, R, hL, hb, h => by
    rw [addAll] at h
    cases e : add L x with
    | none => rw [e] at h; cases h
    | some S =>
      rw [e, Option.bind_some] at h
      exact addAll_ok b (add_ok hL (hb x (List.mem_cons_self ..)) e) (fun y hy => hb y (List.mem_cons_of_mem _ hy)) h
end Go.Proofs.YtlboekimnhgfdaaGreat.Row

/- How much there is at most in rows of both. -/
namespace Go.Proofs.YtlboekimnhgfdaaGreat.Row
open Go.RowKit Rw
theorem join_is (a b : List E) : (join a b).2 = true ∧ ok (join a b).1 = true ∨ join a b = ([], false) := by
  by_cases h : ok a = true ∧ ok b = true
  · rw [join_set h.1 h.2]
    cases e : insAll a b with
    | none => exact .inr rfl
    | some R =>
      simp only [Option.bind_some]
      by_cases hR : ok R = true
      · rw [if_pos hR]; exact .inl ⟨rfl, hR⟩
      · rw [if_neg hR]; exact .inr rfl
  · unfold join; rw [if_neg h]; exact .inr rfl
theorem join_cnt (a b : List E) : cnt (join a b).1 ≤ 2097152 ∧ (join a b).1.length ≤ 2097152 := by
  rcases join_is a b with h | h
  · exact ok_cnt h.2
  · rw [h]; simp [cnt, cntTo]
end Go.Proofs.YtlboekimnhgfdaaGreat.Row

/- RowsAdd, of the program and of the model. -/
namespace Go.Proofs.YtlboekimnhgfdaaGreat.Row
open Go.RowKit Rw
set_option linter.unusedVariables false
attribute [local go_sem ↓] Go.wp_at_zero Go.wp_at_succ
/-- what RowsAdd answers -/
def radd (zs : List E) (ls : List Lab.E) (t v : Int) : List E × Bool :=
  if ok zs = true ∧ Lab.ok ls = true ∧ SampMath.inR t v = true then (match add zs (ls, [(t, v)]) with | some R => (R, true) | none => (zs, false)) else ([], false)
theorem one_ok (t v : Int) : SampMath.ok [(t, v)] = SampMath.inR t v := by
  simp [SampMath.ok, SampMath.okTo, SampMath.stepOk, SampMath.at']
theorem row_ok {ls : List Lab.E} {t v : Int} (h1 : Lab.ok ls = true) (h2 : SampMath.inR t v = true) : ok [(ls, [(t, v)])] = true := by
  rw [ok_iff]
  refine ⟨fun x hx => ?_, List.pairwise_singleton _ _, by simp⟩
  rw [List.mem_singleton.1 hx]
  unfold rowB
  rw [h1, one_ok, h2]
  rfl
theorem addAll_one (L : List E) (x : E) : addAll L [x] = add L x := by
  rw [addAll]
  cases add L x <;> rfl
theorem radd_yes {zs : List E} {ls : List Lab.E} {t v : Int} (h1 : ok zs = true) (h2 : Lab.ok ls = true) (h3 : SampMath.inR t v = true) : radd zs ls t v = match add zs (ls, [(t, v)]) with | some R => (R, true) | none => (zs, false) := by unfold radd; rw [if_pos ⟨h1, h2, h3⟩]
theorem radd_no {zs : List E} {ls : List Lab.E} {t v : Int} (h : ok zs = false ∨ Lab.ok ls = false ∨ SampMath.inR t v = false) : radd zs ls t v = ([], false) := by
  unfold radd
  rw [if_neg]
  rintro ⟨h1, h2, h3⟩
  rw [h1, h2, h3] at h
  simp at h
theorem join_one {zs : List E} {ls : List Lab.E} {t v : Int} (h1 : ok zs = true) (h2 : Lab.ok ls = true) (h3 : SampMath.inR t v = true) : join zs [(ls, [(t, v)])] = told (add zs (ls, [(t, v)])) := by
  unfold join; rw [if_pos ⟨h1, row_ok h2 h3⟩, addAll_one]
/-- a slice of a single row -/
theorem one_is {w : World} {B1 B2 : Nat} {u : Value} {ls : List Lab.E} {t v : Int} (hl : Lab.Is w u ls) (h1 : B1 = w.heap.size) (h2 : B2 = w.heap.size + 1) :
    Is ((w.alloc (.cells #[.int .i64 t, .int .i64 v] 106)).alloc (.cells #[u, .slice (some ⟨B1, 0, none⟩) 1 1] 93)) (.slice (some ⟨B2, 0, none⟩) 1 1) [(ls, [(t, v)])] := by
  subst h1 h2
  have hm : 1 ≤ maxLen := by unfold maxLen; omega
  have b1 : Below w.heap.size w (w.alloc (.cells #[.int .i64 t, .int .i64 v] 106)) := (Below.refl _ _).alloc (Nat.le_refl _) _
  have b2 : Below (w.alloc (.cells #[.int .i64 t, .int .i64 v] 106)).heap.size (w.alloc (.cells #[.int .i64 t, .int .i64 v] 106)) ((w.alloc (.cells #[.int .i64 t, .int .i64 v] 106)).alloc (.cells #[u, .slice (some ⟨w.heap.size, 0, none⟩) 1 1] 93)) := (Below.refl _ _).alloc (Nat.le_refl _) _
  have hs : Sam.Is (w.alloc (.cells #[.int .i64 t, .int .i64 v] 106)) (.slice (some ⟨w.heap.size, 0, none⟩) 1 1) [(t, v)] := lies_new (w := w) (cs := #[.int .i64 t, .int .i64 v]) (t := 106) (n := 1) (size := 2) rfl rfl hm
  refine ⟨[(u, .slice (some ⟨w.heap.size, 0, none⟩) 1 1)], rfl, lies_new (w := w.alloc (.cells #[.int .i64 t, .int .i64 v] 106)) (cs := #[u, .slice (some ⟨w.heap.size, 0, none⟩) 1 1]) (n := 1) (size := 2) (by simp) rfl hm, fun i hi => ?_⟩
  obtain rfl : i = 0 := by simp at hi; omega
  exact ⟨(hl.below b1).below b2, hs.below b2⟩
theorem good_one {ls : List Lab.E} {t v : Int} (h1 : Lab.ok ls = true) (h3 : SampMath.inR t v = true) : ∀ x ∈ ([(ls, [(t, v)])] : List E), good x := fine_good (fine_ok (row_ok h1 h3))
set_option maxRecDepth 100000 in
set_option maxHeartbeats 8000000 in
theorem impl_radd {w : World} {v u : Value} {zs : List E} {ls : List Lab.E} (T V : Int) (h : Is w v zs) (hg : ∀ x ∈ zs, good x) (hlen : zs.length ≤ maxLen) (hl : Lab.Is w u ls) (hlg : ∀ x ∈ ls, Lab.good x) :
    Calls Tryz.prog 124 #[v, u, .agg #[.int .i64 T, .int .i64 V]] w fun e w' => ∃ r, e = .returned (.tuple #[r, .bool (radd zs ls T V).2]) ∧ Own w.heap.size w'.heap.size w' r (radd zs ls T V).1 ∧ Below w.heap.size w w' := by
  obtain ⟨au, nu, qu, rfl⟩ : ∃ a n q, u = .slice a n q := by obtain ⟨-, a, q, e, -⟩ := hl; exact ⟨a, _, q, e⟩
  obtain ⟨wb, hwb⟩ : ∃ wb, wb = w.alloc (.cells #[.int .i64 T, .int .i64 V] 106) := ⟨_, rfl⟩
  have bb : Below w.heap.size w wb := by rw [hwb]; exact (Below.refl _ _).alloc (Nat.le_refl _) _
  have zb : w.heap.size < wb.heap.size := by rw [hwb]; simp
  have q0 : wb.cell? ⟨w.heap.size, 0, none⟩ = some (.int .i64 T) := by rw [hwb]; simp [go_sem]
  have q1 : wb.cell? ⟨w.heap.size, 1, none⟩ = some (.int .i64 V) := by rw [hwb]; simp [go_sem]
  have HO := hide (impl_ok (h.below bb) hg hlen)
  have HL := hide (fun W (hb : Below w.heap.size w W) => Lab.impl_ok (hl.below hb) hlg)
  have HC := hide (fun (hok : ok zs = true) W (hb : Below w.heap.size w W) => copy_any (h.below hb) hok)
  have HJ := hide (fun (h1 : ok zs = true) (h2 : Lab.ok ls = true) (h3 : SampMath.inR T V = true) W (hb : Below w.heap.size w W) => impl_join (w := (W.alloc (.cells #[.int .i64 T, .int .i64 V] 106)).alloc (.cells #[.slice au nu qu, .slice (some ⟨W.heap.size, 0, none⟩) 1 1] 93)) (h.below ((hb.alloc hb.size _).alloc (by simp; have := hb.size; omega) _)) (one_is (t := T) (v := V) (hl.below hb) rfl rfl) hg hlen (good_one h2 h3) (by simp [maxLen]))
  cases hok : ok zs
  · have HR := hide (radd_no (ls := ls) (t := T) (v := V) (.inl hok))
    rw [hok] at HO
    clear h hg hl hlg hok HC HJ HL
    go_enter Tryz.func124, Tryz.ntmps124
    go_wp2_with fail
    rw [← hwb]
    clear hwb
    refine (unhide HO).mono ?_
    rintro e w1 ⟨rfl, b1⟩
    have R1 := bb.trans (b1.mono bb.size)
    go_wp2_with fail
    go_ret2
    exact ⟨.slice none 0 0, by rw [unhide HR]; rfl, by rw [unhide HR]; exact own_nil w.heap.size w1, R1⟩
  cases hlo : Lab.ok ls
  · have HR := hide (radd_no (zs := zs) (t := T) (v := V) (.inr (.inl hlo)))
    rw [hok] at HO
    rw [hlo] at HL
    clear h hg hl hlg hok HC HJ hlo
    go_enter Tryz.func124, Tryz.ntmps124
    go_wp2_with fail
    rw [← hwb]
    clear hwb
    refine (unhide HO).mono ?_
    rintro e w1 ⟨rfl, b1⟩
    have R1 := bb.trans (b1.mono bb.size)
    go_wp2_with fail
    refine (unhide HL w1 R1).mono ?_
    rintro e w2 ⟨rfl, b2⟩
    have R2 := R1.trans (b2.mono R1.size)
    go_wp2_with fail
    go_ret2
    exact ⟨.slice none 0 0, by rw [unhide HR]; rfl, by rw [unhide HR]; exact own_nil w.heap.size w2, R2⟩
  cases hin : SampMath.inR T V
  · have HR := hide (radd_no (zs := zs) (ls := ls) (.inr (.inr hin)))
    rw [hok] at HO
    rw [hlo] at HL
    have HSm := hide (fun (W : World) => Samp.sampleOk_any T V W)
    rw [hin] at HSm
    clear h hg hl hlg hok HC HJ hlo hin
    go_enter Tryz.func124, Tryz.ntmps124
    go_wp2_with fail
    rw [← hwb]
    clear hwb
    refine (unhide HO).mono ?_
    rintro e w1 ⟨rfl, b1⟩
    have R1 := bb.trans (b1.mono bb.size)
    go_wp2_with fail
    refine (unhide HL w1 R1).mono ?_
    rintro e w2 ⟨rfl, b2⟩
    have R2 := R1.trans (b2.mono R1.size)
    have b12 := b1.trans (b2.mono b1.size)
    have q02 := (b12.cell (p := ⟨w.heap.size, 0, none⟩) zb).trans q0
    have q12 := (b12.cell (p := ⟨w.heap.size, 1, none⟩) zb).trans q1
    clear q0 q1
    go_wp2_with fail
    refine (unhide HSm w2).mono ?_
    rintro e w3 ⟨rfl, e3⟩
    have R3 : Below w.heap.size w w3 := by rw [e3]; exact R2.alloc R2.size _
    clear e3
    go_wp2_with fail
    go_ret2
    exact ⟨.slice none 0 0, by rw [unhide HR]; rfl, by rw [unhide HR]; exact own_nil w.heap.size w3, R3⟩
  have HR := hide (radd_yes hok hlo hin)
  rw [hok] at HO
  rw [hlo] at HL
  have HSm := hide (fun (W : World) => Samp.sampleOk_any T V W)
  rw [hin] at HSm
  have HJ1 := hide (fun W hb => unhide HJ hok hlo hin W hb)
  rw [join_one hok hlo hin] at HJ1
  have HC1 := hide (fun W hb => unhide HC hok W hb)
  clear h hg hl hlg hok HC HJ hlo hin
  go_enter Tryz.func124, Tryz.ntmps124
  go_wp2_with fail
  rw [← hwb]
  clear hwb
  refine (unhide HO).mono ?_
  rintro e w1 ⟨rfl, b1⟩
  have R1 := bb.trans (b1.mono bb.size)
  go_wp2_with fail
  refine (unhide HL w1 R1).mono ?_
  rintro e w2 ⟨rfl, b2⟩
  have R2 := R1.trans (b2.mono R1.size)
  have b12 := b1.trans (b2.mono b1.size)
  have q02 := (b12.cell (p := ⟨w.heap.size, 0, none⟩) zb).trans q0
  have q12 := (b12.cell (p := ⟨w.heap.size, 1, none⟩) zb).trans q1
  have zb2 := Nat.lt_of_lt_of_le zb b12.size
  clear q0 q1 b12 b1 b2 bb HL HO
  go_wp2_with fail
  refine (unhide HSm w2).mono ?_
  rintro e w3 ⟨rfl, e3⟩
  have b3 : Below w2.heap.size w2 w3 := by rw [e3]; exact (Below.refl _ _).alloc (Nat.le_refl _) _
  have R3 : Below w.heap.size w w3 := R2.trans (b3.mono R2.size)
  have q03 := (b3.cell (p := ⟨w.heap.size, 0, none⟩) zb2).trans q02
  have q13 := (b3.cell (p := ⟨w.heap.size, 1, none⟩) zb2).trans q12
  clear e3 q02 q12
  have zR := R3.size
  have HJ3 := hide (unhide HJ1 w3 R3)
  have HB3 := hide (show Below w.heap.size w ((w3.alloc (.cells #[.int .i64 T, .int .i64 V] 106)).alloc (.cells #[.slice au nu qu, .slice (some ⟨w3.heap.size, 0, none⟩) 1 1] 93)) from (R3.alloc zR _).alloc (by simp; omega) _)
  clear HJ1 HSm
  go_wp2_with fail
  refine (unhide HJ3).mono ?_
  rintro e w4 ⟨r, rfl, ho, b4⟩
  have R4 := (unhide HB3).trans (b4.mono (unhide HB3).size)
  have HOw := hide (own_wide ho (lo' := w.heap.size) (hi' := w4.heap.size) (unhide HB3).size (Nat.le_refl _) (Nat.le_refl _))
  obtain ⟨ra, rl, rq, rfl⟩ := ho.form
  clear ho b4 HJ3 HB3
  cases hadd : add zs (ls, [(T, V)]) with
  | none =>
    have HC4 := hide (unhide HC1 w4 R4)
    rw [hadd] at HR HOw
    clear HC1 hadd
    go_wp2_with fail
    refine (unhide HC4).mono ?_
    rintro e w5 ⟨r5, rfl, ho5, b5⟩
    have R5 := R4.trans (b5.mono R4.size)
    have HOw5 := hide (own_wide ho5 (lo' := w.heap.size) (hi' := w5.heap.size) R4.size (Nat.le_refl _) (Nat.le_refl _))
    obtain ⟨ra5, rl5, rq5, rfl⟩ := ho5.form
    clear ho5 b5 HC4 HOw
    go_wp2_with fail
    go_ret2
    exact ⟨.slice ra5 rl5 rq5, by rw [unhide HR]; rfl, by rw [unhide HR]; exact unhide HOw5, R5⟩
  | some R =>
    rw [hadd] at HR HOw
    clear HC1 hadd
    go_wp2_with fail
    go_ret2
    exact ⟨.slice ra rl rq, by rw [unhide HR]; rfl, by rw [unhide HR]; exact unhide HOw, R4⟩
end Go.Proofs.YtlboekimnhgfdaaGreat.Row
