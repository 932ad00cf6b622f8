/- My own texts of one claim, laid together by program: RowJoin, RowJoin2, RowMark. -/
import Derived.Test.YtdggffcibcggoaaGf1ab8a2682
import Derived.Test.YtdggffcibcggoaaG88b6c38bf1
import Derived.Test.YtdggffcibcggoaaG83b02f23c4
import Derived.Test.YtdggffcibcggoaaGad320d420a
import Derived.Test.YtdggffcibcggoaaGeb53f75c3f
import Derived.Test.YtdggffcibcggoaaG5d9c98edc3
/- RowsJoin of the program: all rows are put to a set. -/
namespace Go.Proofs.Ytdggffcibcggoaa.Row
open Go.RowKit Rw
set_option linter.unusedVariables false
attribute [local go_sem ↓] Go.wp_at_zero Go.wp_at_succ
theorem own_wide {lo hi lo' hi' : Nat} {w : World} {v : Value} {zs : List E} (h : Own lo hi w v zs) (h1 : lo' ≤ lo) (h2 : hi ≤ hi') (h3 : hi' ≤ w.heap.size) : Own lo' hi' w v zs := by
  obtain ⟨cs, g1, g2, g3, g4, g5, g6, g7⟩ := h
  exact ⟨cs, g1, own_mono g2 h1, fun k hk => by have := g3 k hk; omega, h3, g5, g6, fun i hi => ⟨⟨own_mono (g7 i hi).1.1 h1, own_mono (g7 i hi).1.2 h1⟩, fun k hk => by have := (g7 i hi).2.1 k hk; omega, fun k hk => by have := (g7 i hi).2.2 k hk; omega⟩⟩
set_option maxRecDepth 100000 in
set_option maxHeartbeats 8000000 in
theorem putAll_any {lo B mb n0 : Nat} {w0 w : World} {v : Value} {L ys : List E} (hlo : lo = w0.heap.size) (hb0 : Below lo w0 w) (hB : RSet.Built lo B mb n0 w L) (hF : Fine L) (hL : L.length ≤ 20) (hn0 : n0 ≤ 20) (h : Is w0 v ys) (hg : ∀ x ∈ ys, good x) (hok : ok ys = true) :
    Calls Try.prog 52 #[.pointer (some ⟨B, 0, none⟩), v] w fun e w' => (∃ R n', insAll L ys = some R ∧ e = .returned (.bool true) ∧ n' ≤ n0 + 10 ∧ RSet.Built lo B mb n' w' R ∧ RSet.Two B mb w w') ∨ (insAll L ys = none ∧ e = .returned (.bool false) ∧ RSet.Two B mb w w') := by
  have hn10 := ok_len hok
  have HOK := hide hok
  have HFy := hide (fine_ok hok)
  have HF := hide hF
  have hlt0 := hB.ltB
  have HB0 := hide hB
  obtain ⟨cs, hcs, hLi, hE⟩ := h
  have HE := hide hE
  have HG := hide hg
  obtain ⟨-, a, cap, rfl, hc, hmx, -, hr⟩ := hLi
  unfold maxLen at hmx
  obtain ⟨l, hl⟩ : ∃ l, l = ys.length := ⟨_, rfl⟩
  rw [← hl] at hc hr hcs hn10 ⊢
  have HN := hide hl
  have HC := hide hcs
  have HT0 := hide (show insAll L (ys.take 0) = some L from rfl)
  have hsz0 := hb0.size
  subst hlo
  clear hl hE hcs hg hok hB hF
  go_enter Try.func52, Try.ntmps52
  go_wp2_with fail
  go_loopw [9] (fun i wr => ∃ (k n : Nat) (R : List E), k ≤ l ∧ i = .int .i64 k ∧ n ≤ n0 + k ∧ Hid (insAll L (ys.take k) = some R) ∧ Hid (RSet.Built w0.heap.size B mb n wr R) ∧ RSet.Two B mb w wr) (fun i _ => l - (intOf i).toNat)
  case atStart => exact ⟨0, n0, L, Nat.zero_le _, rfl, Nat.le_refl _, HT0, HB0, RSet.Two.refl _ _ _⟩
  case round =>
    clear HB0 HT0
    obtain ⟨k, n, R, hk, rfl, hnk, HT, HB, h2⟩ := hrel
    have hsz := h2.size
    have hbel : Below w0.heap.size w0 wr := hb0.trans (h2.below hlt0.2.2.1 hlt0.2.2.2 hsz0)
    by_cases hlt : k < l
    · obtain ⟨b, off, rfl, hbl, hcells⟩ := hr (by omega)
      have fa := flat_at cs k (by have := unhide HC; omega)
      have hc0 : wr.cell? ⟨b, off + k * 2, none⟩ = some (cat cs k).1 := (hbel.cell (p := ⟨b, _, none⟩) hbl).trans (hcells (k * 2) _ fa.1)
      have hc1 : wr.cell? ⟨b, off + k * 2 + 1, none⟩ = some (cat cs k).2 := (hbel.cell (p := ⟨b, _, none⟩) hbl).trans (hcells (k * 2 + 1) _ fa.2)
      have hkz : k < ys.length := by have := unhide HN; omega
      have hEk := unhide HE k hkz
      have hgk := unhide HG (at' ys k) (at_mem ys k hkz)
      have hst := step_is (ok_at (unhide HOK) hkz)
      have hFR := insAll_fine (ys.take k) (unhide HF) (fun x hx => fine_one (unhide HFy) (List.mem_of_mem_take hx)) (unhide HT)
      have hRl : R.length ≤ 30 := by have := hFR.2; rw [List.length_take] at this; omega
      have hsn := insAll_step hkz (unhide HT)
      obtain ⟨⟨ls, xs⟩, hX⟩ : ∃ x, x = at' ys k := ⟨_, rfl⟩
      rw [← hX] at hEk hgk hst hsn
      simp only at hst
      obtain ⟨c0, c1, hY⟩ : ∃ c0 c1, (c0, c1) = cat cs k := ⟨_, _, rfl⟩
      rw [← hY] at hc0 hc1 hEk
      have hE1 : Lab.Is w0 c0 ls := hEk.1
      have hE2 : Sam.Is w0 c1 xs := hEk.2
      obtain ⟨-, a0, q0, e0, -⟩ := hE1
      obtain ⟨-, a1, q1, e1, -⟩ := hE2
      have hE1 : Lab.Is w0 c0 ls := hEk.1
      have hE2 : Sam.Is w0 c1 xs := hEk.2
      clear fa hEk hX hY
      have hxne : xs ≠ [] := fun e => by rw [e] at hst; simp at hst
      have hk0 : (0 : Int) ≤ (k : Int) := Int.natCast_nonneg _
      have hk1 : (k : Int) < (l : Int) := by omega
      have hWf : ∀ o, Below wr.heap.size wr (wr.alloc o) := fun o => (Below.refl _ _).alloc (Nat.le_refl _) _
      have HP := hide (fun (W : World) (hb : Below wr.heap.size wr W) => RSet.built_put ((unhide HB).below hb) hFR.1 (by omega) (by omega) (hE1.below (hbel.trans (hb.mono (by omega)))) hgk.1.2 hst.1 (by rw [← e1]; exact smp_of_lies (hE2.below (hbel.trans (hb.mono (by omega)))) hxne) rfl hst.2.2.2 (by omega) (by omega) (by have := hb.size; omega))
      rw [← hsn] at HP
      clear hgk hst hsn hE1 hE2 hxne hFR HB HT
      subst e0 e1
      go_wp2_with fail
      obtain ⟨W, hW⟩ : ∃ W, W = wr.alloc (.cells #[.slice a0 ls.length q0, .slice a1 xs.length q1] 61) := ⟨_, rfl⟩
      rw [← hW]
      have bW : Below wr.heap.size wr W := by rw [hW]; exact hWf _
      clear hW
      refine (unhide HP W bW).mono ?_
      rintro e w4 (⟨R', hR', rfl, hB4, t4⟩ | ⟨hNo, rfl, t4⟩)
      · have t5 := (h2.trans (RSet.Two.of_below bW)).trans t4
        have HB4 := hide hB4
        have HT4 := hide hR'
        clear HP hB4 t4 hR'
        go_wp2_with fail
        go_roundw
        case rel => exact ⟨k + 1, n + 1, R', by omega, by go_num, by omega, HT4, HB4, t5⟩
        case measure => simp [intOf]; omega
      · have t5 := (h2.trans (RSet.Two.of_below bW)).trans t4
        have HNo := hide (insAll_take_none _ hNo)
        clear HP t4 hNo
        go_wp2_with fail
        go_ret
        exact .inr ⟨unhide HNo, rfl, t5⟩
    · obtain rfl : k = l := by omega
      have HT' := hide (show insAll L ys = some R by have := unhide HT; rwa [List.take_of_length_le (by have := unhide HN; omega)] at this)
      clear HT
      go_wp2_with fail
      go_ret
      exact .inl ⟨R, n, unhide HT', rfl, by omega, unhide HB, h2⟩
set_option maxRecDepth 100000 in
set_option maxHeartbeats 8000000 in
theorem impl_join {w : World} {v u : Value} {zs ys : List E} (h : Is w v zs) (h' : Is w u ys) (hg : ∀ x ∈ zs, good x) (hlen : zs.length ≤ maxLen) (hg' : ∀ x ∈ ys, good x) (hlen' : ys.length ≤ maxLen) :
    Calls Try.prog 14 #[v, u] w fun e w' => ∃ r, e = .returned (.tuple #[r, .bool (join zs ys).2]) ∧ Own w.heap.size w'.heap.size w' r (join zs ys).1 ∧ Below w.heap.size w w' := by
  have HO := hide (impl_ok h hg hlen)
  have HO' := hide (fun W (hb : Below w.heap.size w W) => impl_ok (h'.below hb) hg' hlen')
  cases hok : ok zs
  · have HR := hide (join_bad1 (b := ys) hok)
    rw [hok] at HO
    clear h h' hg hg' hok
    go_enter Try.func14, Try.ntmps14
    go_wp2_with fail
    refine (unhide HO).mono ?_
    rintro e w1 ⟨rfl, b1⟩
    go_wp2_with fail
    go_ret2
    exact ⟨.slice none 0 0, by rw [unhide HR]; rfl, by rw [unhide HR]; exact own_nil w.heap.size w1, b1⟩
  cases hok' : ok ys
  · have HR := hide (join_bad2 (a := zs) hok')
    rw [hok] at HO
    rw [hok'] at HO'
    clear h h' hg hg' hok hok'
    go_enter Try.func14, Try.ntmps14
    go_wp2_with fail
    refine (unhide HO).mono ?_
    rintro e w1 ⟨rfl, b1⟩
    go_wp2_with fail
    refine (unhide HO' w1 b1).mono ?_
    rintro e w2 ⟨rfl, b2⟩
    have b12 := b1.trans (b2.mono b1.size)
    go_wp2_with fail
    go_ret2
    exact ⟨.slice none 0 0, by rw [unhide HR]; rfl, by rw [unhide HR]; exact own_nil w.heap.size w2, b12⟩
  rw [hok] at HO
  rw [hok'] at HO'
  have HPa := hide (fun (W : World) (B mb n : Nat) (hb : Below w.heap.size w W) (hB : RSet.Built w.heap.size B mb n W []) (hn : n ≤ 20) => putAll_any rfl hb hB fine_nil (by simp) hn h hg hok)
  have HPb := hide (fun (W : World) (B mb n : Nat) (hb : Below w.heap.size w W) (hB : RSet.Built w.heap.size B mb n W zs) (hn : n ≤ 20) => putAll_any rfl hb hB (fine_ok hok) (by have := ok_len hok; omega) hn h' hg' hok')
  have HSelf := hide (insAll_self hok)
  have HNo := hide (fun h => join_no hok hok' h)
  have HYes := hide (fun R h => join_yes (R := R) hok hok' h)
  have HMany := hide (fun R h => join_many (R := R) hok hok' h)
  have HFine := hide (fun R (h : insAll zs ys = some R) => insAll_fine ys (fine_ok hok) (fun x hx => fine_one (fine_ok hok') hx) h)
  have HL := hide (And.intro (ok_len hok) (ok_len hok'))
  clear h h' hg hg' hok hok' hlen hlen'
  go_enter Try.func14, Try.ntmps14
  go_wp2_with fail
  refine (unhide HO).mono ?_
  rintro e w0 ⟨rfl, b0⟩
  go_wp2_with fail
  refine (unhide HO' w0 b0).mono ?_
  rintro e w1 ⟨rfl, b1'⟩
  have b1 := b0.trans (b1'.mono b0.size)
  clear b1' b0
  go_wp2_with fail
  refine (RSet.new_any w1).mono ?_
  rintro e w2 ⟨mb, rfl, hmb, hM2, b2⟩
  have z1 := b1.size
  have z2 := b2.size
  go_wp2_with fail
  obtain ⟨wa, hwa⟩ : ∃ wa, wa = w2.alloc (.cells #[.slice none 0 0, .map (some mb)] 74) := ⟨_, rfl⟩
  rw [← hwa]
  have ba : Below w2.heap.size w2 wa := by rw [hwa]; exact (Below.refl _ _).alloc (Nat.le_refl _) _
  have za : wa.heap.size = w2.heap.size + 1 := by rw [hwa]; simp
  have bwa : Below w.heap.size w wa := (b1.trans (b2.mono z1)).trans (ba.mono (by omega))
  have hmlt := hM2.lt
  have hB0 : RSet.Built w.heap.size w2.heap.size mb 0 wa [] := ⟨fun _ => none, fun _ => ([], []), ⟨by omega, by omega, by omega, by omega, ⟨.slice none 0 0, by rw [hwa]; simp [go_sem], World.ownsRow_nil _ _ _ _, fun k hk => by cases hk⟩, by rw [hwa]; simp [go_sem], by rw [hwa]; simp [go_sem], hM2.below ba, fun k => by simp, fun k c hc => (by cases hc), fun k k' c c' _ hc => (by cases hc)⟩, rfl⟩
  have HB0 := hide hB0
  have hlows : w.heap.size ≤ w2.heap.size := by omega
  have hlowm : w.heap.size ≤ mb := by omega
  generalize hBB : w2.heap.size = B at *
  clear hwa hB0 ba hM2 hBB b1 b2 HO HO'
  refine (unhide HPa wa B mb 0 bwa (unhide HB0) (by omega)).mono ?_
  rintro e w3 (⟨R, n3, hR, rfl, hn3, hB3, t3⟩ | ⟨hN, -, -⟩)
  case inr => rw [unhide HSelf] at hN; cases hN
  rw [unhide HSelf] at hR
  cases hR
  have b3 : Below w.heap.size w w3 := bwa.trans (t3.below hlows hlowm (by omega))
  have HB3 := hide hB3
  clear hB3 t3 HPa HB0 HSelf
  go_wp2_with fail
  refine (unhide HPb w3 B mb n3 b3 (unhide HB3) (by omega)).mono ?_
  rintro e w4 (⟨R, n4, hR, rfl, hn4, hB4, t4⟩ | ⟨hN, rfl, t4⟩)
  case inr =>
    have HR := hide (unhide HNo hN)
    have b4 : Below w.heap.size w w4 := b3.trans (t4.below hlows hlowm b3.size)
    clear hN HPb HB3 t4 HNo HYes HMany
    go_wp2_with fail
    go_ret2
    exact ⟨.slice none 0 0, by rw [unhide HR]; rfl, by rw [unhide HR]; exact own_nil w.heap.size w4, b4⟩
  have b4 : Below w.heap.size w w4 := b3.trans (t4.below hlows hlowm b3.size)
  have hfR := unhide HFine R hR
  have hRl : R.length ≤ 20 := by have := unhide HL; omega
  have HRw := hide (RSet.built_rows hB4 (fine_sorted hfR.1) (by omega) hfR.1.lab b4.size)
  have HfR := hide hfR.1
  have HRs := hide hR
  clear hB4 t4 HPb HB3 hfR hR
  go_wp2_with fail
  refine (unhide HRw).mono ?_
  rintro e w5 ⟨r, rfl, ho, b5'⟩
  have b5 := b4.trans (b5'.mono b4.size)
  have HO5 := hide (impl_ok ho.is (fine_good (unhide HfR)) (by unfold maxLen; omega))
  have HOw := hide ho
  obtain ⟨ra, rl, rq, rfl⟩ := ho.form
  clear ho b5' HRw
  go_wp2_with fail
  refine (unhide HO5).mono ?_
  rintro e w6 ⟨rfl, b6'⟩
  have b6 := b5.trans (b6'.mono b5.size)
  have HO6 := hide ((unhide HOw).below b6')
  have HZ := hide b6'.size
  clear HO5 b6'
  cases hkR : ok R
  · have HR := hide (unhide HMany R (unhide HRs) hkR)
    go_wp2_with fail
    go_ret2
    exact ⟨.slice none 0 0, by rw [unhide HR]; rfl, by rw [unhide HR]; exact own_nil w.heap.size w6, b6⟩
  · have HR := hide (unhide HYes R (unhide HRs) hkR)
    go_wp2_with fail
    go_ret2
    exact ⟨.slice ra rl rq, by rw [unhide HR]; rfl, by rw [unhide HR]; exact own_wide (unhide HO6) (Nat.le_refl _) (unhide HZ) (Nat.le_refl _), b6⟩
end Go.Proofs.Ytdggffcibcggoaa.Row

/- RowsJoin and RowsAdd of the model. -/
namespace Go.Proofs.Ytdggffcibcggoaa.Row
open Go.RowKit Rw
set_option linter.unusedVariables false
attribute [local go_sem ↓] Go.wp_at_zero Go.wp_at_succ
theorem addAll_app : ∀ (b c : List E) (L : List E), addAll L (b ++ c) = (addAll L b).bind fun R => addAll R c
  | [], c, L => rfl
  | y :: b, c, L => by
    rw [List.cons_append, addAll, addAll]
    cases e : add L y with
    | none => rfl
    | some R => rw [Option.bind_some, Option.bind_some]; exact addAll_app b c R
theorem addAll_take_none {L b : List E} (k : Nat) (h : addAll L (b.take k) = none) : addAll L b = none := by
  rw [← List.take_append_drop k b, addAll_app, h]; rfl
theorem addAll_step {L b R : List E} {k : Nat} (hk : k < b.length) (h : addAll L (b.take k) = some R) : addAll L (b.take (k + 1)) = add R (at' b k) := by
  rw [take_snoc hk, addAll_app, h, Option.bind_some, addAll]
  cases add R (at' b k) <;> rfl
theorem add_ok {L R : List E} {x : E} (hL : ok L = true) (hx : Fine [x]) (h : add L x = some R) : ok R = true := by
  unfold add at h
  cases e : ins L x with
  | none => rw [e] at h; cases h
  | some S =>
    rw [e, Option.bind_some] at h
    split at h
    · rename_i hs
      cases h
      rw [ok_of (ins_fine (fine_ok hL) hx e).1]; exact hs
    · cases h
theorem addAll_ok : ∀ (b : List E) {L R : List E}, ok L = true → (∀ x ∈ b, Fine [x]) → addAll L b = some R → ok R = true
  | [], L, R, hL, _, h => by cases h; exact hL
  | x :: b, L, R, hL, hb, h => by
    rw [addAll] at h
    cases e : add L x with
    | none => rw [e] at h; cases h
    | some S =>
      rw [e, Option.bind_some] at h
      exact addAll_ok b (add_ok hL (hb x (List.mem_cons_self ..)) e) (fun y hy => hb y (List.mem_cons_of_mem _ hy)) h
set_option maxRecDepth 100000 in
set_option maxHeartbeats 8000000 in
theorem l5join {w : World} {v u : Value} {zs ys : List E} (h : Is w v zs) (h' : Is w u ys) (hok : ok zs = true) (hok' : ok ys = true) :
    Calls Try.prog 49 #[v, u] w fun e w' => ∃ r, e = .returned (.tuple #[r, .bool (told (addAll zs ys)).2]) ∧ Own w.heap.size w'.heap.size w' r (told (addAll zs ys)).1 ∧ Below w.heap.size w w' := by
  have HCp := hide (l5copy h hok)
  have hn10 := ok_len hok'
  have HOK := hide hok
  have HOK' := hide hok'
  have HFy := hide (fine_ok hok')
  obtain ⟨cs, hcs, hLi, hE⟩ := h'
  have HE := hide hE
  obtain ⟨-, a, cap, rfl, hc, hmx, -, hr⟩ := hLi
  unfold maxLen at hmx
  obtain ⟨l, hl⟩ : ∃ l, l = ys.length := ⟨_, rfl⟩
  rw [← hl] at hc hr hcs hn10 ⊢
  have HN := hide hl
  have HC := hide hcs
  have HT0 := hide (show addAll zs (ys.take 0) = some zs from rfl)
  clear hl hE hcs hok hok' h
  go_enter Try.func49, Try.ntmps49
  go_wp2_with fail
  refine (unhide HCp).mono ?_
  rintro e W0 ⟨r0, rfl, ho0, b0⟩
  have HO0 := hide ho0
  obtain ⟨a0', l0', q0', rfl⟩ := ho0.form
  clear HCp ho0
  go_wp2_with fail
  go_loopw [6, 7] (fun pv i wr => ∃ (k : Nat) (R : List E) (pa : Option Addr) (pl pc : Nat), k ≤ l ∧ i = .int .i64 k ∧ pv = .slice pa pl pc ∧ Hid (addAll zs (ys.take k) = some R) ∧ Hid (Own w.heap.size wr.heap.size wr pv R) ∧ Below w.heap.size w wr) (fun _ i _ => l - (intOf i).toNat)
  case atStart => exact ⟨0, zs, _, _, _, Nat.zero_le _, rfl, rfl, HT0, HO0, b0⟩
  case round =>
    clear HO0 HT0 b0
    obtain ⟨k, R, pa, pl, pc, hk, rfl, rfl, HT, HO, hbel⟩ := hrel
    have hsz := hbel.size
    have hk0 : (0 : Int) ≤ (k : Int) := Int.natCast_nonneg _
    by_cases hlt : k < l
    · obtain ⟨b, off, rfl, hbl, hcells⟩ := hr (by omega)
      have fa := flat_at cs k (by have := unhide HC; omega)
      have hkz : k < ys.length := by have := unhide HN; omega
      have hEk := unhide HE k hkz
      have hst := step_is (ok_at (unhide HOK') hkz)
      have hRok := addAll_ok (ys.take k) (unhide HOK) (fun x hx => fine_one (unhide HFy) (List.mem_of_mem_take hx)) (unhide HT)
      have hsn := addAll_step hkz (unhide HT)
      have c0w : w.cell? ⟨b, off + k * 2, none⟩ = some (cat cs k).1 := hcells (k * 2) _ fa.1
      have c1w : w.cell? ⟨b, off + k * 2 + 1, none⟩ = some (cat cs k).2 := hcells (k * 2 + 1) _ fa.2
      obtain ⟨⟨ls, xs⟩, hX⟩ : ∃ x, x = at' ys k := ⟨_, rfl⟩
      rw [← hX] at hEk hst hsn
      simp only at hst
      obtain ⟨c0, c1, hY⟩ : ∃ c0 c1, (c0, c1) = cat cs k := ⟨_, _, rfl⟩
      rw [← hY] at c0w c1w hEk
      have hE1 : Lab.Is w c0 ls := hEk.1
      have hE2 : Sam.Is w c1 xs := hEk.2
      obtain ⟨-, a0, q0, e0, -⟩ := hE1
      obtain ⟨-, a1, q1, e1, -⟩ := hE2
      have hE1 : Lab.Is w c0 ls := hEk.1
      have hE2 : Sam.Is w c1 xs := hEk.2
      have S0 : (fun W : World => W.cell? ⟨b, off + k * 2, none⟩ = some c0 ∧ W.cell? ⟨b, off + k * 2 + 1, none⟩ = some c1) wr.drew := ⟨by simpa using (hbel.cell (p := ⟨b, _, none⟩) hbl).trans c0w, by simpa using (hbel.cell (p := ⟨b, _, none⟩) hbl).trans c1w⟩
      have HAd := hide (l5add ((unhide HO).is.below (Below.refl _ _).drew) hRok (hE1.below hbel.drew) hst.1 (hE2.below hbel.drew) hst.2.2.2)
      rw [← hsn] at HAd
      have HS1 := hide (fun (W : World) (hW : Below wr.heap.size wr.drew W) => show (fun W : World => W.cell? ⟨b, off + k * 2, none⟩ = some c0 ∧ W.cell? ⟨b, off + k * 2 + 1, none⟩ = some c1) W from ⟨((hbel.drew.trans (hW.mono hsz)).cell (p := ⟨b, _, none⟩) hbl).trans c0w, ((hbel.drew.trans (hW.mono hsz)).cell (p := ⟨b, _, none⟩) hbl).trans c1w⟩)
      clear fa hEk hX hY hst hsn hE1 hE2 c0w c1w hRok HT HO
      generalize ls.length = n0 at e0
      generalize xs.length = n1 at e1
      subst e0 e1
      have hk1 : (k : Int) < (l : Int) := by omega
      go_wp2_with fail
      go_region_held3 (fun W => W.cell? ⟨b, off + k * 2, none⟩ = some (.slice a0 n0 q0) ∧ W.cell? ⟨b, off + k * 2 + 1, none⟩ = some (.slice a1 n1 q1)) (first | exact S0 | exact S1) ((go_at_call 61; refine (unhide HAd).mono ?_; rintro e w1 ⟨r, rfl, ho, b1⟩; have S1 := unhide HS1 w1 (by simpa using b1)))
      have b1' : Below wr.heap.size wr w1 := (Below.refl _ _).drew.trans (by simpa using b1)
      have R1 := hbel.trans (b1'.mono hsz)
      clear S0 S1 HAd HS1 b1
      cases hadd : addAll zs (ys.take (k + 1)) with
      | none =>
        have HNo := hide (addAll_take_none _ hadd)
        rw [hadd] at ho
        clear hadd ho
        have HE0 := hide (show Own w.heap.size (w1.alloc (.cells #[] 61)).heap.size (w1.alloc (.cells #[] 61)) (.slice (some ⟨w1.heap.size, 0, none⟩) 0 0) [] from ⟨[], rfl, own_mono (own_empty (Nat.le_refl _)) R1.size, own_block_lt (own_empty (base := w1.heap.size) (e := 61) (size := 2) (Nat.le_refl _)), Nat.le_refl _, fun i j _ h => absurd h (Nat.not_lt_zero _), fun i j _ h => absurd h (Nat.not_lt_zero _), fun i h => absurd h (Nat.not_lt_zero _)⟩)
        have R2 : Below w.heap.size w (w1.alloc (.cells #[] 61)) := R1.alloc R1.size _
        go_wp2_with fail
        go_ret2
        exact ⟨.slice (some ⟨w1.heap.size, 0, none⟩) 0 0, by rw [unhide HNo]; rfl, by rw [unhide HNo]; exact unhide HE0, R2⟩
      | some R' =>
        have ho' := ho R' hadd
        have HT' := hide hadd
        have HO' := hide (own_wide ho' (lo' := w.heap.size) (hi' := w1.heap.size) (by simpa using hsz) (Nat.le_refl _) (Nat.le_refl _))
        obtain ⟨ra, rl, rq, rfl⟩ := ho'.form
        clear hadd ho ho'
        go_wp2_with fail
        go_roundw
        case rel => exact ⟨k + 1, R', ra, rl, rq, by omega, by go_num, rfl, HT', HO', R1⟩
        case measure => simp [intOf]; omega
    · obtain rfl : k = l := by omega
      have HT' := hide (show addAll zs ys = some R by have := unhide HT; rwa [List.take_of_length_le (by have := unhide HN; omega)] at this)
      clear HT
      go_wp2_with fail
      go_ret2
      exact ⟨.slice pa pl pc, by rw [unhide HT']; rfl, by rw [unhide HT']; exact unhide HO, hbel⟩
set_option maxRecDepth 100000 in
set_option maxHeartbeats 8000000 in
theorem spec_join {w : World} {v u : Value} {zs ys : List E} (h : Is w v zs) (h' : Is w u ys) (hg : ∀ x ∈ zs, good x) (hlen : zs.length ≤ maxLen) (hg' : ∀ x ∈ ys, good x) (hlen' : ys.length ≤ maxLen) :
    Calls Try.prog 12 #[v, u] w fun e w' => ∃ r, e = .returned (.tuple #[r, .bool (join zs ys).2]) ∧ Own w.heap.size w'.heap.size w' r (join zs ys).1 ∧ Below w.heap.size w w' := by
  have HO := hide (spec_ok h hg hlen)
  have HO' := hide (fun W (hb : Below w.heap.size w W) => spec_ok (h'.below hb) hg' hlen')
  have HE0 := hide (fun (W : World) (hb : Below w.heap.size w W) => show Own w.heap.size (W.alloc (.cells #[] 61)).heap.size (W.alloc (.cells #[] 61)) (.slice (some ⟨W.heap.size, 0, none⟩) 0 0) [] from ⟨[], rfl, own_mono (own_empty (Nat.le_refl _)) hb.size, own_block_lt (own_empty (base := W.heap.size) (e := 61) (size := 2) (Nat.le_refl _)), Nat.le_refl _, fun i j _ h => absurd h (Nat.not_lt_zero _), fun i j _ h => absurd h (Nat.not_lt_zero _), fun i h => absurd h (Nat.not_lt_zero _)⟩)
  cases hok : ok zs
  · have HR := hide (join_bad1 (b := ys) hok)
    rw [hok] at HO
    clear h h' hg hg' hok HO'
    go_enter Try.func12, Try.ntmps12
    go_wp2_with fail
    refine (unhide HO).mono ?_
    rintro e w1 ⟨rfl, b1⟩
    have R1 : Below w.heap.size w (w1.alloc (.cells #[] 61)) := b1.alloc b1.size _
    go_wp2_with fail
    go_ret2
    exact ⟨.slice (some ⟨w1.heap.size, 0, none⟩) 0 0, by rw [unhide HR]; rfl, by rw [unhide HR]; exact unhide HE0 w1 b1, R1⟩
  cases hok' : ok ys
  · have HR := hide (join_bad2 (a := zs) hok')
    rw [hok] at HO
    rw [hok'] at HO'
    clear h h' hg hg' hok hok'
    go_enter Try.func12, Try.ntmps12
    go_wp2_with fail
    refine (unhide HO).mono ?_
    rintro e w1 ⟨rfl, b1⟩
    go_wp2_with fail
    refine (unhide HO' w1 b1).mono ?_
    rintro e w2 ⟨rfl, b2'⟩
    have b2 := b1.trans (b2'.mono b1.size)
    have R2 : Below w.heap.size w (w2.alloc (.cells #[] 61)) := b2.alloc b2.size _
    clear b2' HO HO'
    go_wp2_with fail
    go_ret2
    exact ⟨.slice (some ⟨w2.heap.size, 0, none⟩) 0 0, by rw [unhide HR]; rfl, by rw [unhide HR]; exact unhide HE0 w2 b2, R2⟩
  have HR := hide (show join zs ys = told (addAll zs ys) by unfold join; rw [if_pos ⟨hok, hok'⟩])
  rw [hok] at HO
  rw [hok'] at HO'
  have HJ := hide (fun W (hb : Below w.heap.size w W) => l5join (h.below hb) (h'.below hb) hok hok')
  clear h h' hg hg' hok hok' HE0
  go_enter Try.func12, Try.ntmps12
  go_wp2_with fail
  refine (unhide HO).mono ?_
  rintro e w1 ⟨rfl, b1⟩
  go_wp2_with fail
  refine (unhide HO' w1 b1).mono ?_
  rintro e w2 ⟨rfl, b2'⟩
  have b2 := b1.trans (b2'.mono b1.size)
  clear b2' HO HO'
  go_wp2_with fail
  refine (unhide HJ w2 b2).mono ?_
  rintro e w3 ⟨r, rfl, ho, b3⟩
  have R3 := b2.trans (b3.mono b2.size)
  have HOw := hide (own_wide ho (lo' := w.heap.size) (hi' := w3.heap.size) b2.size (Nat.le_refl _) (Nat.le_refl _))
  obtain ⟨ra, rl, rq, rfl⟩ := ho.form
  clear ho b3 HJ
  go_wp2_with fail
  go_ret2
  exact ⟨.slice ra rl rq, by rw [unhide HR]; rfl, by rw [unhide HR]; exact unhide HOw, R3⟩
end Go.Proofs.Ytdggffcibcggoaa.Row

/- What the laws' own helpers do to mark rows, and to see that the marks are held. -/
namespace Go.Proofs.Ytdggffcibcggoaa.Row
open Go.RowKit Rw
set_option linter.unusedVariables false
attribute [local go_sem ↓] Go.wp_at_zero Go.wp_at_succ
def cntE (x : E) : Nat := 2 * x.1.length + 2 * x.2.length
def cntTo (zs : List E) (i : Nat) : Nat := ((zs.take i).map cntE).sum
def cnt (zs : List E) : Nat := cntTo zs zs.length
theorem cntTo_succ (zs : List E) (j : Nat) (h : j < zs.length) : cntTo zs (j + 1) = cntTo zs j + cntE (at' zs j) := by
  unfold cntTo
  rw [List.take_succ_eq_append_getElem h, List.map_append, List.sum_append, at_get zs j h]
  simp
theorem cntTo_mono (zs : List E) : ∀ (i j : Nat), i ≤ j → j ≤ zs.length → cntTo zs i ≤ cntTo zs j
  | i, 0, h, _ => by obtain rfl : i = 0 := by omega
                     exact Nat.le_refl _
  | i, j + 1, h, hl => by
    by_cases e : i = j + 1
    · subst e; exact Nat.le_refl _
    · have h1 := cntTo_mono zs i j (by omega) (by omega)
      rw [cntTo_succ zs j (by omega)]
      omega
theorem cntTo_le (zs : List E) (j : Nat) (h : j < zs.length) : cntTo zs j + cntE (at' zs j) ≤ cnt zs := by
  rw [← cntTo_succ zs j h]
  exact cntTo_mono zs _ _ (by omega) (Nat.le_refl _)
def mkAt (k0 : Nat) (zs : List E) (i : Nat) : E := (Lab.marks (k0 + cntTo zs i) (at' zs i).1.length, Sam.marks (k0 + cntTo zs i + 2 * (at' zs i).1.length) (at' zs i).2.length)
def mk (k0 : Nat) (zs : List E) : List E := (List.range zs.length).map (mkAt k0 zs)
theorem mk_length (k0 : Nat) (zs : List E) : (mk k0 zs).length = zs.length := by simp [mk]
theorem mk_at (k0 : Nat) (zs : List E) (i : Nat) (h : i < zs.length) : at' (mk k0 zs) i = mkAt k0 zs i := by
  rw [at_get _ _ (by rw [mk_length]; exact h)]
  simp [mk]
/-- what row i holds when j rows are marked -/
def cur (k0 : Nat) (zs : List E) (j i : Nat) : E := if i < j then mkAt k0 zs i else at' zs i
set_option maxRecDepth 100000 in
set_option maxHeartbeats 4000000 in
theorem mark_some {lo hi g n cap : Nat} {zs : List E} {w : World} (k0 : Nat) (hk1 : 1 ≤ k0) (hk2 : k0 ≤ 100000000) (hn : zs.length = n) (ht : cnt zs ≤ 2097152) (hnb : n ≤ 2097152) (h : Own lo hi w (.slice (some ⟨g, 0, none⟩) n cap) zs) :
    Calls Try.prog 16 #[.slice (some ⟨g, 0, none⟩) n cap, .int .i64 k0] w fun e w' => ∃ k : Nat, e = .returned (.int .i64 k) ∧ k = k0 + cnt zs ∧ Own lo hi w' (.slice (some ⟨g, 0, none⟩) n cap) (mk k0 zs) ∧ Zone lo hi w w' := by
  obtain ⟨cs, h1, h2, h3, h4, h5, h6, h7⟩ := h
  rw [hn] at h1 h2 h5 h6 h7
  have HN := hide hn
  have HI := hide (fun i (hi' : i < n) => (h7 i hi').2)
  have HR := hide (show ∀ i, i < n → w.ownsRow lo 86 2 (cat cs i).1 (cur k0 zs 0 i).1.length (Lab.flat (cur k0 zs 0 i).1) ∧ w.ownsRow lo 38 2 (cat cs i).2 (cur k0 zs 0 i).2.length (Sam.flat (cur k0 zs 0 i).2) from fun i hi' => by rw [show cur k0 zs 0 i = at' zs i from if_neg (by omega)]; exact (h7 i hi').1)
  have HA1 := hide h5
  have HA2 := hide h6
  have HC := hide h1
  have HTT := hide ht
  have H34 := hide (And.intro h3 h4)
  clear h5 h6 h7 h1 hn ht h3 h4
  go_enter Try.func16, Try.ntmps16
  go_wp2
  go_loopw [1, 5] (fun kv i wr => ∃ (j q : Nat), j ≤ n ∧ i = .int .i64 j ∧ kv = .int .i64 q ∧ Hid (q = k0 + cntTo zs j) ∧ wr.ownsRow lo 61 2 (.slice (some ⟨g, 0, none⟩) n cap) n (flatOf cl cs) ∧ Hid (∀ i, i < n → wr.ownsRow lo 86 2 (cat cs i).1 (cur k0 zs j i).1.length (Lab.flat (cur k0 zs j i).1) ∧ wr.ownsRow lo 38 2 (cat cs i).2 (cur k0 zs j i).2.length (Sam.flat (cur k0 zs j i).2)) ∧ Zone lo hi w wr) (fun _ i _ => n - (intOf i).toNat)
  case atStart => exact ⟨0, k0, Nat.zero_le _, rfl, rfl, hide (by simp [cntTo]), h2, HR, Zone.refl _ _ _⟩
  case round =>
    clear HR h2
    obtain ⟨j, q, hj, rfl, rfl, HQ, ho, HR, hzn⟩ := hrel
    by_cases hlt : j < n
    · have fa := flat_at cs j (by have := unhide HC; omega)
      have hc0 : wr.cell? ⟨g, j * 2, none⟩ = some (cat cs j).1 := by rw [ho.cellAt (j * 2) (by omega)]; exact fa.1
      have hc1 : wr.cell? ⟨g, j * 2 + 1, none⟩ = some (cat cs j).2 := by rw [ho.cellAt (j * 2 + 1) (by omega)]; exact fa.2
      have h0 : (0 : Int) ≤ (j : Int) := Int.natCast_nonneg _
      have h1 : (j : Int) < (n : Int) := by omega
      have hq := unhide HQ
      have hle := cntTo_le zs j (by have := unhide HN; omega)
      unfold cntE at hle
      have hxo := unhide HR j hlt
      rw [show cur k0 zs j j = at' zs j from if_neg (Nat.lt_irrefl _)] at hxo
      have HM := hide (Lab.mark_any q (by omega) (by have := unhide HTT; omega) (by have := unhide HTT; omega) hxo.1 (in_self (cat cs j).1))
      -- behind the labels' marks
      have HR1 := hide (fun (w' : World) (hw : Zone (loOf (cat cs j).1) (hiOf (cat cs j).1) wr w') (hy : w'.ownsRow lo 86 2 (cat cs j).1 (at' zs j).1.length (Lab.flat (Lab.marks q (at' zs j).1.length))) =>
        (show w'.ownsRow lo 61 2 (.slice (some ⟨g, 0, none⟩) n cap) n (flatOf cl cs) ∧ w'.ownsRow lo 38 2 (cat cs j).2 (at' zs j).2.length (Sam.flat (at' zs j).2) ∧ (∀ i, i < n → i ≠ j → w'.ownsRow lo 86 2 (cat cs i).1 (cur k0 zs j i).1.length (Lab.flat (cur k0 zs j i).1) ∧ w'.ownsRow lo 38 2 (cat cs i).2 (cur k0 zs j i).2.length (Sam.flat (cur k0 zs j i).2)) ∧ Zone lo hi w w' from
          ⟨hw.own ho (out_of_ne (own_ne_type hxo.1 ho (by decide))), hw.own hxo.2 (out_of_ne (own_ne_type hxo.1 hxo.2 (by decide))),
           fun i hi' hij => ⟨hw.own (unhide HR i hi').1 (out_of_ne ((unhide HA1).ne (fun e => hij e.symm) hlt hi')), hw.own (unhide HR i hi').2 (out_of_ne (own_ne_type hxo.1 (unhide HR i hi').2 (by decide)))⟩,
           hzn.trans (zone_in hw (fun k hk => ⟨own_ge hxo.1 k hk, (unhide HI j hlt).1 k hk⟩))⟩))
      have HLb := hide (show 1 ≤ q ∧ q + 2 * (at' zs j).1.length ≤ 500000000000 ∧ (at' zs j).2.length ≤ 8388608 ∧ q + 2 * (at' zs j).1.length + 2 * (at' zs j).2.length = k0 + cntTo zs (j + 1) from ⟨by omega, by have := unhide HTT; omega, by have := unhide HTT; omega, by rw [cntTo_succ zs j (by have := unhide HN; omega)]; unfold cntE; omega⟩)
      have HMk := hide (show mkAt k0 zs j = (Lab.marks q (at' zs j).1.length, Sam.marks (q + 2 * (at' zs j).1.length) (at' zs j).2.length) by unfold mkAt; rw [hq])
      clear fa hle hxo ho HR hzn
      obtain ⟨c0, hX0⟩ : ∃ c0, c0 = (cat cs j).1 := ⟨_, rfl⟩
      obtain ⟨c1, hX1⟩ : ∃ c1, c1 = (cat cs j).2 := ⟨_, rfl⟩
      rw [← hX0] at hc0 HM HR1
      rw [← hX1] at hc1 HR1
      have HX0 := hide hX0
      have HX1 := hide hX1
      clear hX0 hX1
      obtain ⟨l0, hl0⟩ : ∃ l, l = (at' zs j).1.length := ⟨_, rfl⟩
      rw [← hl0] at HM HLb HMk HR1
      have HL0 := hide hl0
      clear hl0 hq
      go_wp2_with fail
      refine (unhide HM).mono ?_
      rintro e w2 ⟨rfl, o2, z2⟩
      obtain ⟨r1, r2, r3, r4⟩ := unhide HR1 w2 z2 o2
      have hcc : w2.cell? ⟨g, j * 2 + 1, none⟩ = some c1 := by rw [r1.cellAt (j * 2 + 1) (by omega), unhide HX1]; exact (flat_at cs j (by have := unhide HC; omega)).2
      clear HR1 HM z2
      have HS := hide (Sam.mark_any (q + 2 * l0) (by have := unhide HLb; omega) (unhide HLb).2.1 (unhide HLb).2.2.1 r2 (in_self c1))
      have HR2 := hide (fun (w' : World) (hw : Zone (loOf c1) (hiOf c1) w2 w') (hy : w'.ownsRow lo 38 2 c1 (at' zs j).2.length (Sam.flat (Sam.marks (q + 2 * l0) (at' zs j).2.length))) =>
        (show w'.ownsRow lo 61 2 (.slice (some ⟨g, 0, none⟩) n cap) n (flatOf cl cs) ∧ (∀ i, i < n → w'.ownsRow lo 86 2 (cat cs i).1 (cur k0 zs (j + 1) i).1.length (Lab.flat (cur k0 zs (j + 1) i).1) ∧ w'.ownsRow lo 38 2 (cat cs i).2 (cur k0 zs (j + 1) i).2.length (Sam.flat (cur k0 zs (j + 1) i).2)) ∧ Zone lo hi w w' from
          ⟨hw.own r1 (out_of_ne (own_ne_type r2 r1 (by decide))),
           fun i hi' => by
             by_cases hij : i = j
             · subst hij
               rw [show cur k0 zs (i + 1) i = mkAt k0 zs i from if_pos (Nat.lt_succ_self i), unhide HMk]
               simp only [Lab.marks_length, Sam.marks_length]
               rw [← unhide HX0, ← unhide HX1]
               exact ⟨hw.own o2 (out_of_ne (own_ne_type r2 o2 (by decide))), hy⟩
             · rw [show cur k0 zs (j + 1) i = cur k0 zs j i by unfold cur; by_cases h : i < j <;> simp [h] <;> omega]
               refine ⟨hw.own (r3 i hi' hij).1 (out_of_ne (own_ne_type r2 (r3 i hi' hij).1 (by decide))), hw.own (r3 i hi' hij).2 (out_of_ne ?_)⟩
               rw [unhide HX1]
               exact (unhide HA2).ne (fun e => hij e.symm) hlt hi',
           r4.trans (zone_in hw (fun k hk => ⟨own_ge r2 k hk, (unhide HI j hlt).2 k (by rw [← unhide HX1]; exact hk)⟩))⟩))
      clear r1 r2 r3 r4 o2
      obtain ⟨l1, hl1⟩ : ∃ l, l = (at' zs j).2.length := ⟨_, rfl⟩
      rw [← hl1] at HS HLb HR2
      clear hl1
      obtain ⟨q1, hq1⟩ : ∃ q1, q1 = q + 2 * l0 := ⟨_, rfl⟩
      rw [← hq1] at HS HLb HR2
      rw [← hq1]
      clear hq1
      go_wp2_with fail
      refine (unhide HS).mono ?_
      rintro e w3 ⟨rfl, o3, z3⟩
      have RR := hide (unhide HR2 w3 z3 o3)
      clear HR2 HS o3 z3
      obtain ⟨q2, hq2⟩ : ∃ q2, q2 = q1 + 2 * l1 := ⟨_, rfl⟩
      rw [← hq2]
      have HQ2 := hide (show q2 = k0 + cntTo zs (j + 1) by rw [hq2]; exact (unhide HLb).2.2.2)
      clear hq2 HLb HQ
      go_wp2_with fail
      go_roundw
      case rel => exact ⟨j + 1, q2, by omega, by go_num, rfl, HQ2, (unhide RR).1, hide (unhide RR).2.1, (unhide RR).2.2⟩
      case measure => simp [intOf]; omega
    · obtain rfl : j = n := by omega
      have hq := unhide HQ
      have HF := hide (show Own lo hi wr (.slice (some ⟨g, 0, none⟩) j cap) (mk k0 zs) from ⟨cs, by rw [mk_length]; have := unhide HC; have := unhide HN; omega, by rw [mk_length, unhide HN]; exact ho, (unhide H34).1, Nat.le_trans (unhide H34).2 hzn.size, by rw [mk_length, unhide HN]; exact unhide HA1, by rw [mk_length, unhide HN]; exact unhide HA2, fun i hi' => by
        rw [mk_length] at hi'
        have hin : i < j := by have := unhide HN; omega
        rw [mk_at k0 zs i hi']
        have := unhide HR i hin
        rw [show cur k0 zs j i = mkAt k0 zs i from if_pos hin] at this
        exact ⟨this, unhide HI i hin⟩⟩)
      have HQ' := hide (show q = k0 + cnt zs by rw [hq]; unfold cnt; rw [unhide HN])
      clear hq HQ ho HR
      go_wp2
      go_ret
      exact ⟨q, rfl, unhide HQ', unhide HF, hzn⟩
theorem mark_nil (k0 : Int) (w : World) : Calls Try.prog 16 #[.slice none 0 0, .int .i64 k0] w fun e w' => e = .returned (.int .i64 k0) ∧ w' = w := by
  go_enter Try.func16, Try.ntmps16
  go_wp2
  refine wp_loop_rounds 1 ?_
  rw [rounds_succ]
  go_wp2
  go_ret
  exact ⟨rfl, rfl⟩
theorem len_cnt {zs : List E} (h : tot zs ≤ 1048576) : zs.length ≤ 2097152 := (tiny_of h).1
theorem markX {lo hi : Nat} {v : Value} {zs : List E} {w : World} (k0 : Nat) (hk1 : 1 ≤ k0) (hk2 : k0 ≤ 100000000) (hc : cnt zs ≤ 2097152 ∧ zs.length ≤ 2097152) (h : Own lo hi w v zs) :
    Calls Try.prog 16 #[v, .int .i64 k0] w fun e w' => ∃ k : Nat, e = .returned (.int .i64 k) ∧ k = k0 + cnt zs ∧ Own lo hi w' v (mk k0 zs) ∧ Zone lo hi w w' := by
  have hf := h
  obtain ⟨cs, hl, h2, -⟩ := h
  rcases h2.2 with ⟨h1, hz⟩ | ⟨g, cap, cur, h1, -⟩
  · subst h1
    obtain rfl : zs = [] := List.eq_nil_of_length_eq_zero hz
    refine (mark_nil k0 w).mono ?_
    rintro e w' ⟨rfl, rfl⟩
    exact ⟨k0, rfl, by simp [cnt, cntTo], hf, Zone.refl _ _ _⟩
  · subst h1
    exact mark_some k0 hk1 hk2 rfl hc.1 hc.2 hf
set_option maxRecDepth 100000 in
set_option maxHeartbeats 4000000 in
theorem heldX {v : Value} {zs : List E} {w : World} (k0 : Nat) (hk1 : 1 ≤ k0) (hk2 : k0 ≤ 100000000) (hc : cnt zs ≤ 2097152 ∧ zs.length ≤ 2097152) (h : Is w v (mk k0 zs)) :
    Calls Try.prog 17 #[v, .int .i64 k0] w fun e w' => ∃ k : Nat, e = .returned (.int .i64 k) ∧ k = k0 + cnt zs ∧ Below w.heap.size w w' := by
  obtain ⟨cs, hcs, hL, hE⟩ := h
  rw [mk_length] at hcs hL hE
  have HE := hide hE
  obtain ⟨-, a, cap, rfl, hcp, hm, -, hr⟩ := hL
  unfold maxLen at hm
  obtain ⟨n, hn⟩ : ∃ n, n = zs.length := ⟨_, rfl⟩
  rw [← hn] at hcp hr hcs ⊢
  have HN := hide hn
  have HC := hide hcs
  have HTT := hide hc
  clear hn hE hcs hc
  go_enter Try.func17, Try.ntmps17
  go_wp2_with fail
  go_loopw [1, 5] (fun kv i wr => ∃ (j q : Nat), j ≤ n ∧ i = .int .i64 j ∧ kv = .int .i64 q ∧ Hid (q = k0 + cntTo zs j) ∧ Below w.heap.size w wr) (fun _ i _ => n - (intOf i).toNat)
  case atStart => exact ⟨0, k0, Nat.zero_le _, rfl, rfl, hide (by simp [cntTo]), Below.refl _ _⟩
  case round =>
    obtain ⟨j, q, hj, rfl, rfl, HQ, hbel⟩ := hrel
    have hsz := hbel.size
    by_cases hlt : j < n
    · obtain ⟨b, off, rfl, hl, hcells⟩ := hr (by omega)
      have fa := flat_at cs j (by have := unhide HC; omega)
      have hc0 : wr.cell? ⟨b, off + j * 2, none⟩ = some (cat cs j).1 := (hbel.cell (p := ⟨b, _, none⟩) hl).trans (hcells (j * 2) _ fa.1)
      have hc1 : wr.cell? ⟨b, off + j * 2 + 1, none⟩ = some (cat cs j).2 := (hbel.cell (p := ⟨b, _, none⟩) hl).trans (hcells (j * 2 + 1) _ fa.2)
      have h0 : (0 : Int) ≤ (j : Int) := Int.natCast_nonneg _
      have h1 : (j : Int) < (n : Int) := by omega
      have hq := unhide HQ
      have hle := cntTo_le zs j (by have := unhide HN; omega)
      unfold cntE at hle
      have hEj := (unhide HE j (by have := unhide HN; omega)).below hbel
      rw [mk_at k0 zs j (by have := unhide HN; omega)] at hEj
      have HMk : mkAt k0 zs j = (Lab.marks q (at' zs j).1.length, Sam.marks (q + 2 * (at' zs j).1.length) (at' zs j).2.length) := by unfold mkAt; rw [hq]
      rw [HMk] at hEj
      have HM := hide (Lab.held_any q (by omega) (by have := unhide HTT; omega) (by have := unhide HTT; omega) hEj.1)
      have HS := hide (fun W (hb : Below wr.heap.size wr W) => Sam.held_any (q + 2 * (at' zs j).1.length) (by omega) (by have := unhide HTT; omega) (by have := unhide HTT; omega) (hEj.2.below hb))
      have HLb := hide (show q + 2 * (at' zs j).1.length + 2 * (at' zs j).2.length = k0 + cntTo zs (j + 1) by rw [cntTo_succ zs j (by have := unhide HN; omega)]; unfold cntE; omega)
      clear fa hle hEj HMk
      obtain ⟨c0, hX0⟩ : ∃ c0, c0 = (cat cs j).1 := ⟨_, rfl⟩
      obtain ⟨c1, hX1⟩ : ∃ c1, c1 = (cat cs j).2 := ⟨_, rfl⟩
      rw [← hX0] at hc0 HM
      rw [← hX1] at hc1 HS
      clear hX0 hX1
      obtain ⟨l0, hl0⟩ : ∃ l, l = (at' zs j).1.length := ⟨_, rfl⟩
      rw [← hl0] at HM HLb HS
      clear hl0 hq
      obtain ⟨l1, hl1⟩ : ∃ l, l = (at' zs j).2.length := ⟨_, rfl⟩
      rw [← hl1] at HS HLb
      clear hl1
      obtain ⟨q1, hq1⟩ : ∃ q1, q1 = q + 2 * l0 := ⟨_, rfl⟩
      rw [← hq1] at HS HLb HM
      clear hq1
      go_wp2_with fail
      refine (unhide HM).mono ?_
      rintro e w2 ⟨rfl, b2⟩
      have hcc : w2.cell? ⟨b, off + j * 2 + 1, none⟩ = some c1 := (b2.cell (p := ⟨b, off + j * 2 + 1, none⟩) (by show b < _; omega)).trans hc1
      have hbel2 := hbel.trans (b2.mono hsz)
      have HS2 := hide (unhide HS w2 b2)
      have hqn : decide ((q1 : Int) < 0) = false := by simp
      obtain ⟨q2, hq2⟩ : ∃ q2, q2 = q1 + 2 * l1 := ⟨_, rfl⟩
      rw [← hq2] at HS2 HLb
      clear hq2 HM HS b2
      go_wp2_with fail
      refine (unhide HS2).mono ?_
      rintro e w3 ⟨rfl, b3⟩
      have hbel3 := hbel2.trans (b3.mono hbel2.size)
      have hqn2 : decide ((q2 : Int) < 0) = false := by simp
      clear HS2 b3 HQ
      go_wp2_with fail
      go_roundw
      case rel => exact ⟨j + 1, q2, by omega, by go_num, rfl, HLb, hbel3⟩
      case measure => simp [intOf]; omega
    · obtain rfl : j = n := by omega
      have HQ' := hide (show q = k0 + cnt zs by rw [unhide HQ]; unfold cnt; rw [unhide HN])
      clear HQ
      go_wp2
      go_ret
      exact ⟨q, rfl, unhide HQ', hbel⟩
theorem cnt_tot (zs : List E) : ∀ j, j ≤ zs.length → cntTo zs j ≤ 2 * totTo zs j
  | 0, _ => by simp [cntTo]
  | j + 1, h => by
    have := cnt_tot zs j (by omega)
    rw [cntTo_succ zs j (by omega), totTo_succ zs j (by omega)]
    have h1 := Lab.tot_len (at' zs j).1
    have h2 : (at' zs j).2.length ≤ Sam.tot (at' zs j).2 := Nat.le_refl _
    unfold cntE szOf
    omega
theorem markA {lo hi : Nat} {v : Value} {zs : List E} {w : World} (k0 : Nat) (hk1 : 1 ≤ k0) (hk2 : k0 ≤ 100000000) (ht : tot zs ≤ 1048576) (h : Own lo hi w v zs) :
    Calls Try.prog 16 #[v, .int .i64 k0] w fun e w' => ∃ k : Nat, e = .returned (.int .i64 k) ∧ 1 ≤ k ∧ k ≤ k0 + 4194304 ∧ Zone lo hi w w' := by
  have hc : cnt zs ≤ 2097152 := by have := cnt_tot zs zs.length (Nat.le_refl _); rw [totTo_all] at this; unfold cnt; omega
  refine (markX k0 hk1 hk2 ⟨hc, (tiny_of ht).1⟩ h).mono ?_
  rintro e w' ⟨k, rfl, h1, -, z⟩
  exact ⟨k, rfl, by omega, by omega, z⟩
end Go.Proofs.Ytdggffcibcggoaa.Row
