/- My own texts of one claim, laid together by program: RowJoin, RowJoin2, JoinCnt. -/
import Derived.Test.YthcdohbfnflkiaaGd09c7e36f5
import Derived.Test.YthcdohbfnflkiaaGd599aff62b
import Derived.Test.YthcdohbfnflkiaaG0556e437e9
import Derived.Test.YthcdohbfnflkiaaG2998b91190
import Derived.Test.YthcdohbfnflkiaaG3e782ae9f2
import Derived.Test.YthcdohbfnflkiaaG44e5ff1428
/- RowsJoin of the program: all rows are put to a set. -/
namespace Go.Proofs.Ythcdohbfnflkiaa.Row
open Go.RowKit Rw
set_option linter.unusedVariables false
attribute [local go_sem ↓] Go.wp_at_zero Go.wp_at_succ
theorem own_wide {lo hi lo' hi' : Nat} {w : World} {v : Value} {zs : List E} (h : Own lo hi w v zs) (h1 : lo' ≤ lo) (h2 : hi ≤ hi') (h3 : hi' ≤ w.heap.size) : Own lo' hi' w v zs := by
  obtain ⟨cs, g1, g2, g3, g4, g5, g6, g7⟩ := h
  exact ⟨cs, g1, own_mono g2 h1, fun k hk => by have := g3 k hk; omega, h3, g5, g6, fun i hi => ⟨⟨own_mono (g7 i hi).1.1 h1, own_mono (g7 i hi).1.2 h1⟩, fun k hk => by have := (g7 i hi).2.1 k hk; omega, fun k hk => by have := (g7 i hi).2.2 k hk; omega⟩⟩
set_option maxRecDepth 100000 in
set_option maxHeartbeats 8000000 in
theorem putAll_any {lo B mb n0 : Nat} {w0 w : World} {v : Value} {L ys : List E} (hlo : lo = w0.heap.size) (hb0 : Below lo w0 w) (hB : RSet.Built lo B mb n0 w L) (hF : Fine L) (hL : L.length ≤ 20) (hn0 : n0 ≤ 20) (h : Is w0 v ys) (hg : ∀ x ∈ ys, good x) (hok : ok ys = true) :
    Calls Try.prog 42 #[.pointer (some ⟨B, 0, none⟩), v] w fun e w' => (∃ R n', insAll L ys = some R ∧ e = .returned (.bool true) ∧ n' ≤ n0 + 10 ∧ RSet.Built lo B mb n' w' R ∧ RSet.Two B mb w w') ∨ (insAll L ys = none ∧ e = .returned (.bool false) ∧ RSet.Two B mb w w') := by
  have hn10 := ok_len hok
  have HOK := hide hok
  have HFy := hide (fine_ok hok)
  have HF := hide hF
  have hlt0 := hB.ltB
  have HB0 := hide hB
  obtain ⟨cs, hcs, hLi, hE⟩ := h
  have HE := hide hE
  have HG := hide hg
  obtain ⟨-, a, cap, rfl, hc, hmx, -, hr⟩ := hLi
  unfold maxLen at hmx
  obtain ⟨l, hl⟩ : ∃ l, l = ys.length := ⟨_, rfl⟩
  rw [← hl] at hc hr hcs hn10 ⊢
  have HN := hide hl
  have HC := hide hcs
  have HT0 := hide (show insAll L (ys.take 0) = some L from rfl)
  have hsz0 := hb0.size
  subst hlo
  clear hl hE hcs hg hok hB hF
  go_enter Try.func42, Try.ntmps42
  go_wp2_with fail
  go_loopw [9] (fun i wr => ∃ (k n : Nat) (R : List E), k ≤ l ∧ i = .int .i64 k ∧ n ≤ n0 + k ∧ Hid (insAll L (ys.take k) = some R) ∧ Hid (RSet.Built w0.heap.size B mb n wr R) ∧ RSet.Two B mb w wr) (fun i _ => l - (intOf i).toNat)
  case atStart => exact ⟨0, n0, L, Nat.zero_le _, rfl, Nat.le_refl _, HT0, HB0, RSet.Two.refl _ _ _⟩
  case round =>
    clear HB0 HT0
    obtain ⟨k, n, R, hk, rfl, hnk, HT, HB, h2⟩ := hrel
    have hsz := h2.size
    have hbel : Below w0.heap.size w0 wr := hb0.trans (h2.below hlt0.2.2.1 hlt0.2.2.2 hsz0)
    by_cases hlt : k < l
    · obtain ⟨b, off, rfl, hbl, hcells⟩ := hr (by omega)
      have fa := flat_at cs k (by have := unhide HC; omega)
      have hc0 : wr.cell? ⟨b, off + k * 2, none⟩ = some (cat cs k).1 := (hbel.cell (p := ⟨b, _, none⟩) hbl).trans (hcells (k * 2) _ fa.1)
      have hc1 : wr.cell? ⟨b, off + k * 2 + 1, none⟩ = some (cat cs k).2 := (hbel.cell (p := ⟨b, _, none⟩) hbl).trans (hcells (k * 2 + 1) _ fa.2)
      have hkz : k < ys.length := by have := unhide HN; omega
      have hEk := unhide HE k hkz
      have hgk := unhide HG (at' ys k) (at_mem ys k hkz)
      have hst := step_is (ok_at (unhide HOK) hkz)
      have hFR := insAll_fine (ys.take k) (unhide HF) (fun x hx => fine_one (unhide HFy) (List.mem_of_mem_take hx)) (unhide HT)
      have hRl : R.length ≤ 30 := by have := hFR.2; rw [List.length_take] at this; omega
      have hsn := insAll_step hkz (unhide HT)
      obtain ⟨⟨ls, xs⟩, hX⟩ : ∃ x, x = at' ys k := ⟨_, rfl⟩
      rw [← hX] at hEk hgk hst hsn
      simp only at hst
      obtain ⟨c0, c1, hY⟩ : ∃ c0 c1, (c0, c1) = cat cs k := ⟨_, _, rfl⟩
      rw [← hY] at hc0 hc1 hEk
      have hE1 : Lab.Is w0 c0 ls := hEk.1
      have hE2 : Sam.Is w0 c1 xs := hEk.2
      obtain ⟨-, a0, q0, e0, -⟩ := hE1
      obtain ⟨-, a1, q1, e1, -⟩ := hE2
      have hE1 : Lab.Is w0 c0 ls := hEk.1
      have hE2 : Sam.Is w0 c1 xs := hEk.2
      clear fa hEk hX hY
      have hxne : xs ≠ [] := fun e => by rw [e] at hst; simp at hst
      have hk0 : (0 : Int) ≤ (k : Int) := Int.natCast_nonneg _
      have hk1 : (k : Int) < (l : Int) := by omega
      have hWf : ∀ o, Below wr.heap.size wr (wr.alloc o) := fun o => (Below.refl _ _).alloc (Nat.le_refl _) _
      have HP := hide (fun (W : World) (hb : Below wr.heap.size wr W) => RSet.built_put ((unhide HB).below hb) hFR.1 (by omega) (by omega) (hE1.below (hbel.trans (hb.mono (by omega)))) hgk.1.2 hst.1 (by rw [← e1]; exact smp_of_lies (hE2.below (hbel.trans (hb.mono (by omega)))) hxne) rfl hst.2.2.2 (by omega) (by omega) (by have := hb.size; omega))
      rw [← hsn] at HP
      clear hgk hst hsn hE1 hE2 hxne hFR HB HT
      subst e0 e1
      go_wp2_with fail
      obtain ⟨W, hW⟩ : ∃ W, W = wr.alloc (.cells #[.slice a0 ls.length q0, .slice a1 xs.length q1] 42) := ⟨_, rfl⟩
      rw [← hW]
      have bW : Below wr.heap.size wr W := by rw [hW]; exact hWf _
      clear hW
      refine (unhide HP W bW).mono ?_
      rintro e w4 (⟨R', hR', rfl, hB4, t4⟩ | ⟨hNo, rfl, t4⟩)
      · have t5 := (h2.trans (RSet.Two.of_below bW)).trans t4
        have HB4 := hide hB4
        have HT4 := hide hR'
        clear HP hB4 t4 hR'
        go_wp2_with fail
        go_roundw
        case rel => exact ⟨k + 1, n + 1, R', by omega, by go_num, by omega, HT4, HB4, t5⟩
        case measure => simp [intOf]; omega
      · have t5 := (h2.trans (RSet.Two.of_below bW)).trans t4
        have HNo := hide (insAll_take_none _ hNo)
        clear HP t4 hNo
        go_wp2_with fail
        go_ret
        exact .inr ⟨unhide HNo, rfl, t5⟩
    · obtain rfl : k = l := by omega
      have HT' := hide (show insAll L ys = some R by have := unhide HT; rwa [List.take_of_length_le (by have := unhide HN; omega)] at this)
      clear HT
      go_wp2_with fail
      go_ret
      exact .inl ⟨R, n, unhide HT', rfl, by omega, unhide HB, h2⟩
set_option maxRecDepth 100000 in
set_option maxHeartbeats 8000000 in
theorem impl_join {w : World} {v u : Value} {zs ys : List E} (h : Is w v zs) (h' : Is w u ys) (hg : ∀ x ∈ zs, good x) (hlen : zs.length ≤ maxLen) (hg' : ∀ x ∈ ys, good x) (hlen' : ys.length ≤ maxLen) :
    Calls Try.prog 15 #[v, u] w fun e w' => ∃ r, e = .returned (.tuple #[r, .bool (join zs ys).2]) ∧ Own w.heap.size w'.heap.size w' r (join zs ys).1 ∧ Below w.heap.size w w' := by
  have HO := hide (impl_ok h hg hlen)
  have HO' := hide (fun W (hb : Below w.heap.size w W) => impl_ok (h'.below hb) hg' hlen')
  cases hok : ok zs
  · have HR := hide (join_bad1 (b := ys) hok)
    rw [hok] at HO
    clear h h' hg hg' hok
    go_enter Try.func15, Try.ntmps15
    go_wp2_with fail
    refine (unhide HO).mono ?_
    rintro e w1 ⟨rfl, b1⟩
    go_wp2_with fail
    go_ret2
    exact ⟨.slice none 0 0, by rw [unhide HR]; rfl, by rw [unhide HR]; exact own_nil w.heap.size w1, b1⟩
  cases hok' : ok ys
  · have HR := hide (join_bad2 (a := zs) hok')
    rw [hok] at HO
    rw [hok'] at HO'
    clear h h' hg hg' hok hok'
    go_enter Try.func15, Try.ntmps15
    go_wp2_with fail
    refine (unhide HO).mono ?_
    rintro e w1 ⟨rfl, b1⟩
    go_wp2_with fail
    refine (unhide HO' w1 b1).mono ?_
    rintro e w2 ⟨rfl, b2⟩
    have b12 := b1.trans (b2.mono b1.size)
    go_wp2_with fail
    go_ret2
    exact ⟨.slice none 0 0, by rw [unhide HR]; rfl, by rw [unhide HR]; exact own_nil w.heap.size w2, b12⟩
  rw [hok] at HO
  rw [hok'] at HO'
  have HPa := hide (fun (W : World) (B mb n : Nat) (hb : Below w.heap.size w W) (hB : RSet.Built w.heap.size B mb n W []) (hn : n ≤ 20) => putAll_any rfl hb hB fine_nil (by simp) hn h hg hok)
  have HPb := hide (fun (W : World) (B mb n : Nat) (hb : Below w.heap.size w W) (hB : RSet.Built w.heap.size B mb n W zs) (hn : n ≤ 20) => putAll_any rfl hb hB (fine_ok hok) (by have := ok_len hok; omega) hn h' hg' hok')
  have HSelf := hide (insAll_self hok)
  have HNo := hide (fun h => join_no hok hok' h)
  have HYes := hide (fun R h => join_yes (R := R) hok hok' h)
  have HMany := hide (fun R h => join_many (R := R) hok hok' h)
  have HFine := hide (fun R (h : insAll zs ys = some R) => insAll_fine ys (fine_ok hok) (fun x hx => fine_one (fine_ok hok') hx) h)
  have HL := hide (And.intro (ok_len hok) (ok_len hok'))
  clear h h' hg hg' hok hok' hlen hlen'
  go_enter Try.func15, Try.ntmps15
  go_wp2_with fail
  refine (unhide HO).mono ?_
  rintro e w0 ⟨rfl, b0⟩
  go_wp2_with fail
  refine (unhide HO' w0 b0).mono ?_
  rintro e w1 ⟨rfl, b1'⟩
  have b1 := b0.trans (b1'.mono b0.size)
  clear b1' b0
  go_wp2_with fail
  refine (RSet.new_any w1).mono ?_
  rintro e w2 ⟨mb, rfl, hmb, hM2, b2⟩
  have z1 := b1.size
  have z2 := b2.size
  go_wp2_with fail
  obtain ⟨wa, hwa⟩ : ∃ wa, wa = w2.alloc (.cells #[.slice none 0 0, .map (some mb)] 69) := ⟨_, rfl⟩
  rw [← hwa]
  have ba : Below w2.heap.size w2 wa := by rw [hwa]; exact (Below.refl _ _).alloc (Nat.le_refl _) _
  have za : wa.heap.size = w2.heap.size + 1 := by rw [hwa]; simp
  have bwa : Below w.heap.size w wa := (b1.trans (b2.mono z1)).trans (ba.mono (by omega))
  have hmlt := hM2.lt
  have hB0 : RSet.Built w.heap.size w2.heap.size mb 0 wa [] := ⟨fun _ => none, fun _ => ([], []), ⟨by omega, by omega, by omega, by omega, ⟨.slice none 0 0, by rw [hwa]; simp [go_sem], World.ownsRow_nil _ _ _ _, fun k hk => by cases hk⟩, by rw [hwa]; simp [go_sem], by rw [hwa]; simp [go_sem], hM2.below ba, fun k => by simp, fun k c hc => (by cases hc), fun k k' c c' _ hc => (by cases hc)⟩, rfl⟩
  have HB0 := hide hB0
  have hlows : w.heap.size ≤ w2.heap.size := by omega
  have hlowm : w.heap.size ≤ mb := by omega
  generalize hBB : w2.heap.size = B at *
  clear hwa hB0 ba hM2 hBB b1 b2 HO HO'
  refine (unhide HPa wa B mb 0 bwa (unhide HB0) (by omega)).mono ?_
  rintro e w3 (⟨R, n3, hR, rfl, hn3, hB3, t3⟩ | ⟨hN, -, -⟩)
  case inr => rw [unhide HSelf] at hN; cases hN
  rw [unhide HSelf] at hR
  cases hR
  have b3 : Below w.heap.size w w3 := bwa.trans (t3.below hlows hlowm (by omega))
  have HB3 := hide hB3
  clear hB3 t3 HPa HB0 HSelf
  go_wp2_with fail
  refine (unhide HPb w3 B mb n3 b3 (unhide HB3) (by omega)).mono ?_
  rintro e w4 (⟨R, n4, hR, rfl, hn4, hB4, t4⟩ | ⟨hN, rfl, t4⟩)
  case inr =>
    have HR := hide (unhide HNo hN)
    have b4 : Below w.heap.size w w4 := b3.trans (t4.below hlows hlowm b3.size)
    clear hN HPb HB3 t4 HNo HYes HMany
    go_wp2_with fail
    go_ret2
    exact ⟨.slice none 0 0, by rw [unhide HR]; rfl, by rw [unhide HR]; exact own_nil w.heap.size w4, b4⟩
  have b4 : Below w.heap.size w w4 := b3.trans (t4.below hlows hlowm b3.size)
  have hfR := unhide HFine R hR
  have hRl : R.length ≤ 20 := by have := unhide HL; omega
  have HRw := hide (RSet.built_rows hB4 (fine_sorted hfR.1) (by omega) hfR.1.lab b4.size)
  have HfR := hide hfR.1
  have HRs := hide hR
  clear hB4 t4 HPb HB3 hfR hR
  go_wp2_with fail
  refine (unhide HRw).mono ?_
  rintro e w5 ⟨r, rfl, ho, b5'⟩
  have b5 := b4.trans (b5'.mono b4.size)
  have HO5 := hide (impl_ok ho.is (fine_good (unhide HfR)) (by unfold maxLen; omega))
  have HOw := hide ho
  obtain ⟨ra, rl, rq, rfl⟩ := ho.form
  clear ho b5' HRw
  go_wp2_with fail
  refine (unhide HO5).mono ?_
  rintro e w6 ⟨rfl, b6'⟩
  have b6 := b5.trans (b6'.mono b5.size)
  have HO6 := hide ((unhide HOw).below b6')
  have HZ := hide b6'.size
  clear HO5 b6'
  cases hkR : ok R
  · have HR := hide (unhide HMany R (unhide HRs) hkR)
    go_wp2_with fail
    go_ret2
    exact ⟨.slice none 0 0, by rw [unhide HR]; rfl, by rw [unhide HR]; exact own_nil w.heap.size w6, b6⟩
  · have HR := hide (unhide HYes R (unhide HRs) hkR)
    go_wp2_with fail
    go_ret2
    exact ⟨.slice ra rl rq, by rw [unhide HR]; rfl, by rw [unhide HR]; exact own_wide (unhide HO6) (Nat.le_refl _) (unhide HZ) (Nat.le_refl _), b6⟩
end Go.Proofs.Ythcdohbfnflkiaa.Row

/- RowsJoin and RowsAdd of the model. -/
namespace Go.Proofs.Ythcdohbfnflkiaa.Row
open Go.RowKit Rw
set_option linter.unusedVariables false
attribute [local go_sem ↓] Go.wp_at_zero Go.wp_at_succ
theorem addAll_app : ∀ (b c : List E) (L : List E), addAll L (b ++ c) = (addAll L b).bind fun R => addAll R c
  | [], c, L => rfl
  | y :: b, c, L => by
    rw [List.cons_append, addAll, addAll]
    cases e : add L y with
    | none => rfl
    | some R => rw [Option.bind_some, Option.bind_some]; exact addAll_app b c R
theorem addAll_take_none {L b : List E} (k : Nat) (h : addAll L (b.take k) = none) : addAll L b = none := by
  rw [← List.take_append_drop k b, addAll_app, h]; rfl
theorem addAll_step {L b R : List E} {k : Nat} (hk : k < b.length) (h : addAll L (b.take k) = some R) : addAll L (b.take (k + 1)) = add R (at' b k) := by
  rw [take_snoc hk, addAll_app, h, Option.bind_some, addAll]
  cases add R (at' b k) <;> rfl
theorem add_ok {L R : List E} {x : E} (hL : ok L = true) (hx : Fine [x]) (h : add L x = some R) : ok R = true := by
  unfold add at h
  cases e : ins L x with
  | none => rw [e] at h; cases h
  | some S =>
    rw [e, Option.bind_some] at h
    split at h
    · rename_i hs
      cases h
      rw [ok_of (ins_fine (fine_ok hL) hx e).1]; exact hs
    · cases h
theorem addAll_ok : ∀ (b : List E) {L R : List E}, ok L = true → (∀ x ∈ b, Fine [x]) → addAll L b = some R → ok R = true
  | [], L, R, hL, _, h => by cases h; exact hL
  | x :: b, L, R, hL, hb, h => by
    rw [addAll] at h
    cases e : add L x with
    | none => rw [e] at h; cases h
    | some S =>
      rw [e, Option.bind_some] at h
      exact addAll_ok b (add_ok hL (hb x (List.mem_cons_self ..)) e) (fun y hy => hb y (List.mem_cons_of_mem _ hy)) h
set_option maxRecDepth 100000 in
set_option maxHeartbeats 8000000 in
theorem l5join {w : World} {v u : Value} {zs ys : List E} (h : Is w v zs) (h' : Is w u ys) (hok : ok zs = true) (hok' : ok ys = true) :
    Calls Try.prog 44 #[v, u] w fun e w' => ∃ r, e = .returned (.tuple #[r, .bool (told (addAll zs ys)).2]) ∧ Own w.heap.size w'.heap.size w' r (told (addAll zs ys)).1 ∧ Below w.heap.size w w' := by
  have HCp := hide (l5copy h hok)
  have hn10 := ok_len hok'
  have HOK := hide hok
  have HOK' := hide hok'
  have HFy := hide (fine_ok hok')
  obtain ⟨cs, hcs, hLi, hE⟩ := h'
  have HE := hide hE
  obtain ⟨-, a, cap, rfl, hc, hmx, -, hr⟩ := hLi
  unfold maxLen at hmx
  obtain ⟨l, hl⟩ : ∃ l, l = ys.length := ⟨_, rfl⟩
  rw [← hl] at hc hr hcs hn10 ⊢
  have HN := hide hl
  have HC := hide hcs
  have HT0 := hide (show addAll zs (ys.take 0) = some zs from rfl)
  clear hl hE hcs hok hok' h
  go_enter Try.func44, Try.ntmps44
  go_wp2_with fail
  refine (unhide HCp).mono ?_
  rintro e W0 ⟨r0, rfl, ho0, b0⟩
  have HO0 := hide ho0
  obtain ⟨a0', l0', q0', rfl⟩ := ho0.form
  clear HCp ho0
  go_wp2_with fail
  go_loopw [6, 7] (fun pv i wr => ∃ (k : Nat) (R : List E) (pa : Option Addr) (pl pc : Nat), k ≤ l ∧ i = .int .i64 k ∧ pv = .slice pa pl pc ∧ Hid (addAll zs (ys.take k) = some R) ∧ Hid (Own w.heap.size wr.heap.size wr pv R) ∧ Below w.heap.size w wr) (fun _ i _ => l - (intOf i).toNat)
  case atStart => exact ⟨0, zs, _, _, _, Nat.zero_le _, rfl, rfl, HT0, HO0, b0⟩
  case round =>
    clear HO0 HT0 b0
    obtain ⟨k, R, pa, pl, pc, hk, rfl, rfl, HT, HO, hbel⟩ := hrel
    have hsz := hbel.size
    have hk0 : (0 : Int) ≤ (k : Int) := Int.natCast_nonneg _
    by_cases hlt : k < l
    · obtain ⟨b, off, rfl, hbl, hcells⟩ := hr (by omega)
      have fa := flat_at cs k (by have := unhide HC; omega)
      have hkz : k < ys.length := by have := unhide HN; omega
      have hEk := unhide HE k hkz
      have hst := step_is (ok_at (unhide HOK') hkz)
      have hRok := addAll_ok (ys.take k) (unhide HOK) (fun x hx => fine_one (unhide HFy) (List.mem_of_mem_take hx)) (unhide HT)
      have hsn := addAll_step hkz (unhide HT)
      have c0w : w.cell? ⟨b, off + k * 2, none⟩ = some (cat cs k).1 := hcells (k * 2) _ fa.1
      have c1w : w.cell? ⟨b, off + k * 2 + 1, none⟩ = some (cat cs k).2 := hcells (k * 2 + 1) _ fa.2
      obtain ⟨⟨ls, xs⟩, hX⟩ : ∃ x, x = at' ys k := ⟨_, rfl⟩
      rw [← hX] at hEk hst hsn
      simp only at hst
      obtain ⟨c0, c1, hY⟩ : ∃ c0 c1, (c0, c1) = cat cs k := ⟨_, _, rfl⟩
      rw [← hY] at c0w c1w hEk
      have hE1 : Lab.Is w c0 ls := hEk.1
      have hE2 : Sam.Is w c1 xs := hEk.2
      obtain ⟨-, a0, q0, e0, -⟩ := hE1
      obtain ⟨-, a1, q1, e1, -⟩ := hE2
      have hE1 : Lab.Is w c0 ls := hEk.1
      have hE2 : Sam.Is w c1 xs := hEk.2
      have S0 : (fun W : World => W.cell? ⟨b, off + k * 2, none⟩ = some c0 ∧ W.cell? ⟨b, off + k * 2 + 1, none⟩ = some c1) wr.drew := ⟨by simpa using (hbel.cell (p := ⟨b, _, none⟩) hbl).trans c0w, by simpa using (hbel.cell (p := ⟨b, _, none⟩) hbl).trans c1w⟩
      have HAd := hide (l5add ((unhide HO).is.below (Below.refl _ _).drew) hRok (hE1.below hbel.drew) hst.1 (hE2.below hbel.drew) hst.2.2.2)
      rw [← hsn] at HAd
      have HS1 := hide (fun (W : World) (hW : Below wr.heap.size wr.drew W) => show (fun W : World => W.cell? ⟨b, off + k * 2, none⟩ = some c0 ∧ W.cell? ⟨b, off + k * 2 + 1, none⟩ = some c1) W from ⟨((hbel.drew.trans (hW.mono hsz)).cell (p := ⟨b, _, none⟩) hbl).trans c0w, ((hbel.drew.trans (hW.mono hsz)).cell (p := ⟨b, _, none⟩) hbl).trans c1w⟩)
      clear fa hEk hX hY hst hsn hE1 hE2 c0w c1w hRok HT HO
      generalize ls.length = n0 at e0
      generalize xs.length = n1 at e1
      subst e0 e1
      have hk1 : (k : Int) < (l : Int) := by omega
      go_wp2_with fail
      go_region_held3 (fun W => W.cell? ⟨b, off + k * 2, none⟩ = some (.slice a0 n0 q0) ∧ W.cell? ⟨b, off + k * 2 + 1, none⟩ = some (.slice a1 n1 q1)) (first | exact S0 | exact S1) ((go_at_call 32; refine (unhide HAd).mono ?_; rintro e w1 ⟨r, rfl, ho, b1⟩; have S1 := unhide HS1 w1 (by simpa using b1)))
      have b1' : Below wr.heap.size wr w1 := (Below.refl _ _).drew.trans (by simpa using b1)
      have R1 := hbel.trans (b1'.mono hsz)
      clear S0 S1 HAd HS1 b1
      cases hadd : addAll zs (ys.take (k + 1)) with
      | none =>
        have HNo := hide (addAll_take_none _ hadd)
        rw [hadd] at ho
        clear hadd ho
        have HE0 := hide (show Own w.heap.size (w1.alloc (.cells #[] 42)).heap.size (w1.alloc (.cells #[] 42)) (.slice (some ⟨w1.heap.size, 0, none⟩) 0 0) [] from ⟨[], rfl, own_mono (own_empty (Nat.le_refl _)) R1.size, own_block_lt (own_empty (base := w1.heap.size) (e := 42) (size := 2) (Nat.le_refl _)), Nat.le_refl _, fun i j _ h => absurd h (Nat.not_lt_zero _), fun i j _ h => absurd h (Nat.not_lt_zero _), fun i h => absurd h (Nat.not_lt_zero _)⟩)
        have R2 : Below w.heap.size w (w1.alloc (.cells #[] 42)) := R1.alloc R1.size _
        go_wp2_with fail
        go_ret2
        exact ⟨.slice (some ⟨w1.heap.size, 0, none⟩) 0 0, by rw [unhide HNo]; rfl, by rw [unhide HNo]; exact unhide HE0, R2⟩
      | some R' =>
        have ho' := ho R' hadd
        have HT' := hide hadd
        have HO' := hide (own_wide ho' (lo' := w.heap.size) (hi' := w1.heap.size) (by simpa using hsz) (Nat.le_refl _) (Nat.le_refl _))
        obtain ⟨ra, rl, rq, rfl⟩ := ho'.form
        clear hadd ho ho'
        go_wp2_with fail
        go_roundw
        case rel => exact ⟨k + 1, R', ra, rl, rq, by omega, by go_num, rfl, HT', HO', R1⟩
        case measure => simp [intOf]; omega
    · obtain rfl : k = l := by omega
      have HT' := hide (show addAll zs ys = some R by have := unhide HT; rwa [List.take_of_length_le (by have := unhide HN; omega)] at this)
      clear HT
      go_wp2_with fail
      go_ret2
      exact ⟨.slice pa pl pc, by rw [unhide HT']; rfl, by rw [unhide HT']; exact unhide HO, hbel⟩
set_option maxRecDepth 100000 in
set_option maxHeartbeats 8000000 in
theorem spec_join {w : World} {v u : Value} {zs ys : List E} (h : Is w v zs) (h' : Is w u ys) (hg : ∀ x ∈ zs, good x) (hlen : zs.length ≤ maxLen) (hg' : ∀ x ∈ ys, good x) (hlen' : ys.length ≤ maxLen) :
    Calls Try.prog 16 #[v, u] w fun e w' => ∃ r, e = .returned (.tuple #[r, .bool (join zs ys).2]) ∧ Own w.heap.size w'.heap.size w' r (join zs ys).1 ∧ Below w.heap.size w w' := by
  have HO := hide (spec_ok h hg hlen)
  have HO' := hide (fun W (hb : Below w.heap.size w W) => spec_ok (h'.below hb) hg' hlen')
  have HE0 := hide (fun (W : World) (hb : Below w.heap.size w W) => show Own w.heap.size (W.alloc (.cells #[] 42)).heap.size (W.alloc (.cells #[] 42)) (.slice (some ⟨W.heap.size, 0, none⟩) 0 0) [] from ⟨[], rfl, own_mono (own_empty (Nat.le_refl _)) hb.size, own_block_lt (own_empty (base := W.heap.size) (e := 42) (size := 2) (Nat.le_refl _)), Nat.le_refl _, fun i j _ h => absurd h (Nat.not_lt_zero _), fun i j _ h => absurd h (Nat.not_lt_zero _), fun i h => absurd h (Nat.not_lt_zero _)⟩)
  cases hok : ok zs
  · have HR := hide (join_bad1 (b := ys) hok)
    rw [hok] at HO
    clear h h' hg hg' hok HO'
    go_enter Try.func16, Try.ntmps16
    go_wp2_with fail
    refine (unhide HO).mono ?_
    rintro e w1 ⟨rfl, b1⟩
    have R1 : Below w.heap.size w (w1.alloc (.cells #[] 42)) := b1.alloc b1.size _
    go_wp2_with fail
    go_ret2
    exact ⟨.slice (some ⟨w1.heap.size, 0, none⟩) 0 0, by rw [unhide HR]; rfl, by rw [unhide HR]; exact unhide HE0 w1 b1, R1⟩
  cases hok' : ok ys
  · have HR := hide (join_bad2 (a := zs) hok')
    rw [hok] at HO
    rw [hok'] at HO'
    clear h h' hg hg' hok hok'
    go_enter Try.func16, Try.ntmps16
    go_wp2_with fail
    refine (unhide HO).mono ?_
    rintro e w1 ⟨rfl, b1⟩
    go_wp2_with fail
    refine (unhide HO' w1 b1).mono ?_
    rintro e w2 ⟨rfl, b2'⟩
    have b2 := b1.trans (b2'.mono b1.size)
    have R2 : Below w.heap.size w (w2.alloc (.cells #[] 42)) := b2.alloc b2.size _
    clear b2' HO HO'
    go_wp2_with fail
    go_ret2
    exact ⟨.slice (some ⟨w2.heap.size, 0, none⟩) 0 0, by rw [unhide HR]; rfl, by rw [unhide HR]; exact unhide HE0 w2 b2, R2⟩
  have HR := hide (show join zs ys = told (addAll zs ys) by unfold join; rw [if_pos ⟨hok, hok'⟩])
  rw [hok] at HO
  rw [hok'] at HO'
  have HJ := hide (fun W (hb : Below w.heap.size w W) => l5join (h.below hb) (h'.below hb) hok hok')
  clear h h' hg hg' hok hok' HE0
  go_enter Try.func16, Try.ntmps16
  go_wp2_with fail
  refine (unhide HO).mono ?_
  rintro e w1 ⟨rfl, b1⟩
  go_wp2_with fail
  refine (unhide HO' w1 b1).mono ?_
  rintro e w2 ⟨rfl, b2'⟩
  have b2 := b1.trans (b2'.mono b1.size)
  clear b2' HO HO'
  go_wp2_with fail
  refine (unhide HJ w2 b2).mono ?_
  rintro e w3 ⟨r, rfl, ho, b3⟩
  have R3 := b2.trans (b3.mono b2.size)
  have HOw := hide (own_wide ho (lo' := w.heap.size) (hi' := w3.heap.size) b2.size (Nat.le_refl _) (Nat.le_refl _))
  obtain ⟨ra, rl, rq, rfl⟩ := ho.form
  clear ho b3 HJ
  go_wp2_with fail
  go_ret2
  exact ⟨.slice ra rl rq, by rw [unhide HR]; rfl, by rw [unhide HR]; exact unhide HOw, R3⟩
end Go.Proofs.Ythcdohbfnflkiaa.Row

/- How much there is at most in rows of both. -/
namespace Go.Proofs.Ythcdohbfnflkiaa.Row
open Go.RowKit Rw
theorem join_is (a b : List E) : (join a b).2 = true ∧ ok (join a b).1 = true ∨ join a b = ([], false) := by
  by_cases h : ok a = true ∧ ok b = true
  · rw [join_set h.1 h.2]
    cases e : insAll a b with
    | none => exact .inr rfl
    | some R =>
      simp only [Option.bind_some]
      by_cases hR : ok R = true
      · rw [if_pos hR]; exact .inl ⟨rfl, hR⟩
      · rw [if_neg hR]; exact .inr rfl
  · unfold join; rw [if_neg h]; exact .inr rfl
theorem join_cnt (a b : List E) : cnt (join a b).1 ≤ 2097152 ∧ (join a b).1.length ≤ 2097152 := by
  rcases join_is a b with h | h
  · exact ok_cnt h.2
  · rw [h]; simp [cnt, cntTo]
end Go.Proofs.Ythcdohbfnflkiaa.Row
