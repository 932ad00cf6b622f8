/- My own texts of one claim, laid together by program: RowCopy, RowCopy2, TabCopy, DropMath. -/
import Derived.Test.YtlboekimnhgfdaaGreatG817021f609
/- A copy of rows that are ok: the program's rowsCopy. -/
namespace Go.Proofs.YtlboekimnhgfdaaGreat.Row
open Go.RowKit Rw
set_option linter.unusedVariables false
attribute [local go_sem ↓] Go.wp_at_zero Go.wp_at_succ
set_option maxRecDepth 100000 in
set_option maxHeartbeats 2000000 in
theorem clone_any {w : World} {v : Value} {zs : List Sam.E} (h : Sam.Is w v zs) (h0 : zs ≠ []) (h1 : zs.length ≤ 4194304) : Calls Tryz.prog 122 #[v] w fun e w' => ∃ r, e = .returned r ∧ w'.ownsRow w.heap.size 106 2 r zs.length (Sam.flat zs) ∧ Below w.heap.size w w' := by
  obtain ⟨i2, hi2, hx0, hx1, hx2⟩ := info_parts Sam.info_e
  have hL : Lies w v zs.length 2 (Sam.flat zs) := h
  obtain ⟨-, a, cap, rfl, hc, hm, -, hr⟩ := h
  obtain ⟨b, off, rfl, hl, hcells⟩ := hr (List.length_pos_iff.2 h0)
  have oe : (w.alloc (.cells #[] 106)).ownsRow w.heap.size 106 2 (.slice (some ⟨w.heap.size, 0, none⟩) 0 0) 0 [] := own_empty (Nat.le_refl _)
  have be : Below w.heap.size w (w.alloc (.cells #[] 106)) := (Below.refl _ _).alloc (Nat.le_refl _) _
  have le := hL.below be
  clear hL hcells hr
  obtain ⟨m, hm'⟩ : ∃ m, m = zs.length := ⟨_, rfl⟩
  rw [← hm'] at h1 le ⊢
  clear hm' hc
  have heq : ∀ W, (binOp .eql 91 (.slice (some ⟨b, off, none⟩) m cap) (.slice none 0 0)).run Tryz.prog W = .ok (.bool false) W := fun W => rfl
  go_enter Tryz.func122, Tryz.ntmps122
  go_wp2_with (at_builtin; refine app_wp _ rfl _ _ _ rfl w.heap.size 106 i2 _ 2 16 Tryz.underlying91 hi2 hx0 hx1 hx2 rfl (by omega) _ 0 [] rfl oe _ m (Sam.flat zs) rfl le (Sam.flat_oneCell _) (by unfold maxLen; omega) (by omega) (by simp) ?_; intro vn wn on gn an)
  rw [Nat.zero_add, List.nil_append] at on
  have bn := below_grown be (by simp) gn (fun k hk => by cases hk; exact Nat.le_refl _)
  clear gn an le be oe
  go_wp2_with fail
  go_ret
  exact ⟨_, rfl, on, bn⟩
set_option maxRecDepth 100000 in
set_option maxHeartbeats 8000000 in
theorem copy_any {w : World} {v : Value} {zs : List E} (h : Is w v zs) (hok : ok zs = true) : Calls Tryz.prog 83 #[v] w fun e w' => ∃ r, e = .returned r ∧ Own w.heap.size w'.heap.size w' r zs ∧ Below w.heap.size w w' := by
  obtain ⟨i0, hi, hz0, hz1, hz2⟩ := info_parts Row.info_e
  have hn10 := ok_len hok
  have HOK := hide hok
  obtain ⟨cs, hcs, hL, hE⟩ := h
  have HE := hide hE
  obtain ⟨-, a, cap, rfl, hc, hmx, -, hr⟩ := hL
  unfold maxLen at hmx
  obtain ⟨l, hl⟩ : ∃ l, l = zs.length := ⟨_, rfl⟩
  rw [← hl] at hc hr hcs hn10 ⊢
  have HN := hide hl
  have HC := hide hcs
  clear hl hE hcs hok
  go_enter Tryz.func83, Tryz.ntmps83
  go_wp2_with fail
  go_loopw [3, 8] (fun pv i wr => ∃ (k : Nat) (pa : Option Addr) (pc : Nat), k ≤ l ∧ i = .int .i64 k ∧ pv = .slice pa k pc ∧ Hid (Own w.heap.size wr.heap.size wr pv (zs.take k)) ∧ Below w.heap.size w wr) (fun _ i _ => l - (intOf i).toNat)
  case atStart => exact ⟨0, none, 0, Nat.zero_le _, rfl, rfl, hide (own_nil w.heap.size w), Below.refl _ _⟩
  case round =>
    obtain ⟨k, pa, pc, hk, rfl, rfl, HO, hbel⟩ := hrel
    have hsz := hbel.size
    have hk0 : (0 : Int) ≤ (k : Int) := Int.natCast_nonneg _
    by_cases hlt : k < l
    · obtain ⟨b, off, rfl, hbl, hcells⟩ := hr (by omega)
      have fa := flat_at cs k (by have := unhide HC; omega)
      have hc0 : wr.cell? ⟨b, off + k * 2, none⟩ = some (cat cs k).1 := (hbel.cell (p := ⟨b, _, none⟩) hbl).trans (hcells (k * 2) _ fa.1)
      have hc1 : wr.cell? ⟨b, off + k * 2 + 1, none⟩ = some (cat cs k).2 := (hbel.cell (p := ⟨b, _, none⟩) hbl).trans (hcells (k * 2 + 1) _ fa.2)
      have hkz : k < zs.length := by have := unhide HN; omega
      have hEk := unhide HE k hkz
      have hst := step_is (ok_at (unhide HOK) hkz)
      have hsn : zs.take (k + 1) = zs.take k ++ [at' zs k] := by rw [List.take_succ_eq_append_getElem hkz, at_get zs k hkz]
      have htl : (zs.take k).length = k := by rw [List.length_take]; omega
      obtain ⟨⟨ls, xs⟩, hX⟩ : ∃ x, x = at' zs k := ⟨_, rfl⟩
      rw [← hX] at hEk hst hsn
      simp only at hst
      obtain ⟨c0, c1, hY⟩ : ∃ c0 c1, (c0, c1) = cat cs k := ⟨_, _, rfl⟩
      rw [← hY] at hc0 hc1 hEk
      have hE1 : Lab.Is w c0 ls := hEk.1
      have hE2 : Sam.Is w c1 xs := hEk.2
      obtain ⟨-, a0, q0, e0, -⟩ := hE1
      obtain ⟨-, a1, q1, e1, -⟩ := hE2
      have hE1 : Lab.Is w c0 ls := hEk.1
      have hE2 : Sam.Is w c1 xs := hEk.2
      clear fa hEk hX hY
      have hxne : xs ≠ [] := fun e => by rw [e] at hst; simp at hst
      have hk1 : (k : Int) < (l : Int) := by omega
      have hmx1 : 1 ≤ maxLen := by unfold maxLen; omega
      have HCl := hide (fun W (hb : Below w.heap.size w W) => Lab.copy_any (hE1.below hb) (Lab.ok_small hst.1))
      have HCs := hide (fun W (hb : Below w.heap.size w W) => clone_any (hE2.below hb) hxne (by omega))
      obtain ⟨ll, hll⟩ : ∃ ll, ll = ls.length := ⟨_, rfl⟩
      obtain ⟨m, hm⟩ : ∃ m, m = xs.length := ⟨_, rfl⟩
      rw [← hll] at e0 HCl
      rw [← hm] at e1 HCs
      have HLL := hide hll
      have HM := hide hm
      have HSn := hide hsn
      have HTl := hide htl
      clear hll hm hE1 hE2 hst hxne hsn htl
      subst e0 e1
      obtain ⟨ds, g1, g2, g3, g4, g5, g6, g7⟩ := unhide HO
      rw [unhide HTl] at g2
      obtain ⟨W, hW⟩ : ∃ W, W = wr.alloc (.cells #[.slice a0 ll q0, .slice a1 m q1] 93) := ⟨_, rfl⟩
      have bW : Below wr.heap.size wr W := by rw [hW]; exact (Below.refl _ _).alloc (Nat.le_refl _) _
      have zW : wr.heap.size < W.heap.size := by rw [hW]; simp
      have S6 : (fun w' : World => w'.cell? ⟨wr.heap.size, 0, none⟩ = some (.slice a0 ll q0) ∧ w'.cell? ⟨wr.heap.size, 1, none⟩ = some (.slice a1 m q1)) W.drew := by rw [hW]; exact ⟨by simp, by simp⟩
      have bWd : Below wr.heap.size wr W.drew := bW.drew
      have oW : W.drew.ownsRow w.heap.size 93 2 (.slice pa k pc) k (flatOf cl ds) := World.ownsRow.drew (own_below g2 bW)
      have hbW : Below w.heap.size w W.drew := hbel.trans (bWd.mono hsz)
      have hob := fun e => Nat.lt_irrefl _ (own_block_lt g2 wr.heap.size (Eq.symm e))
      have HO1 := hide (And.intro g1 (And.intro g5 (And.intro g6 g7)))
      have HCl6 := hide (unhide HCl W.drew hbW)
      clear bW HO g1 g3 g4 g5 g6 g7 HCl
      go_wp2_with fail
      rw [← hW]
      clear hW
      go_region_held3 (fun w' => w'.cell? ⟨wr.heap.size, 0, none⟩ = some (.slice a0 ll q0) ∧ w'.cell? ⟨wr.heap.size, 1, none⟩ = some (.slice a1 m q1)) (first | exact S6 | exact S7 | exact S8 | exact S9 _ | exact S10) ((first | (go_at_call 121; refine (unhide HCl6).mono ?_; rintro e w7 ⟨vl, rfl, ol, b7⟩; obtain ⟨la, lq, rfl⟩ : ∃ a q, vl = .slice a ll q := (by obtain ⟨-, a, q, e, -⟩ := lies_of_own ol; exact ⟨a, q, e⟩); have z7 := b7.size; simp only [World.size_drew] at z7; have hb7 : Below w.heap.size w w7 := hbW.trans (b7.mono hbW.size); have S7 : (fun w' : World => w'.cell? ⟨wr.heap.size, 0, none⟩ = some (.slice a0 ll q0) ∧ w'.cell? ⟨wr.heap.size, 1, none⟩ = some (.slice a1 m q1)) w7 := ⟨(b7.cell (p := ⟨_, _, none⟩) (by first | (simp; done) | (simp; omega) | omega)).trans S6.1, (b7.cell (p := ⟨_, _, none⟩) (by first | (simp; done) | (simp; omega) | omega)).trans S6.2⟩) | (go_at_call 122; refine (unhide HCs w7 hb7).mono ?_; rintro e w8 ⟨vs, rfl, oS, b8⟩; obtain ⟨sa, sq, rfl⟩ : ∃ a q, vs = .slice a m q := (by obtain ⟨-, a, q, e, -⟩ := lies_of_own oS; exact ⟨a, q, e⟩); have z8 := b8.size; have S8 : (fun w' : World => w'.cell? ⟨wr.heap.size, 0, none⟩ = some (.slice a0 ll q0) ∧ w'.cell? ⟨wr.heap.size, 1, none⟩ = some (.slice a1 m q1)) w8 := ⟨(b8.cell (p := ⟨_, _, none⟩) (by first | (simp; done) | (simp; omega) | omega)).trans S7.1, (b8.cell (p := ⟨_, _, none⟩) (by first | (simp; done) | (simp; omega) | omega)).trans S7.2⟩; have S9 : ∀ o, (fun w' : World => w'.cell? ⟨wr.heap.size, 0, none⟩ = some (.slice a0 ll q0) ∧ w'.cell? ⟨wr.heap.size, 1, none⟩ = some (.slice a1 m q1)) (w8.alloc o) := fun o => ⟨(((Below.refl _ _).alloc (Nat.le_refl _) _).cell (p := ⟨_, _, none⟩) (by first | (simp; done) | (simp; omega) | omega)).trans S8.1, (((Below.refl _ _).alloc (Nat.le_refl _) _).cell (p := ⟨_, _, none⟩) (by first | (simp; done) | (simp; omega) | omega)).trans S8.2⟩) | (refine app_step _ (by rfl) _ _ _ (by rfl) w.heap.size 93 i0 _ 2 48 Tryz.underlying28 hi hz0 hz1 hz2 rfl (by omega) _ k _ (by rfl) (World.ownsRow.alloc (own_below (own_below oW b7) b8) _) _ 1 [.slice la ll lq, .slice sa m sq] (by rfl) (lies_new (w := w8) (by simp) rfl hmx1) (by simp [Value.oneCell']) (by unfold maxLen; omega) (by omega) (by simp <;> omega) ?_; intro vn wn on gn an; have S10 : (fun w' : World => w'.cell? ⟨wr.heap.size, 0, none⟩ = some (.slice a0 ll q0) ∧ w'.cell? ⟨wr.heap.size, 1, none⟩ = some (.slice a1 m q1)) wn := ⟨by rw [gn.cell_far _ (by simp <;> omega) hob]; exact (S9 _).1, by rw [gn.cell_far _ (by simp <;> omega) hob]; exact (S9 _).2⟩)))
      have hb8 : Below w.heap.size w w8 := hb7.trans (b8.mono (by omega))
      have R9 : Below w.heap.size w wn := below_grown (hb8.alloc (by omega) _) (by simp <;> omega) gn (own_ge g2)
      have HO' := hide (show Own w.heap.size wn.heap.size wn vn (zs.take (k + 1)) by
        obtain ⟨g1, g5, g6, g7⟩ := unhide HO1
        rw [unhide HSn]
        have hw := fun {base e size n v} {xs : List Value} (ho : wr.ownsRow base e size v n xs) => World.ownsRow.alloc (own_below (own_below (own_below ho bWd) b7) b8) (.cells #[.slice la ll lq, .slice sa m sq] 93)
        exact own_snoc (w := w8.alloc (.cells #[.slice la ll lq, .slice sa m sq] 93)) (pv := .slice pa k pc) (vl := .slice la ll lq) (xv := .slice sa m sq) g1 (by rw [unhide HTl]; exact hw g2) g5 g6 (fun i hi => ⟨hw (g7 i hi).1.1, hw (g7 i hi).1.2⟩) gn (by rw [unhide HTl]; exact on) (by simp only; rw [← unhide HLL]; exact World.ownsRow.alloc (own_below (own_mono ol (by simp; omega)) b8) _) (by simp only; rw [← unhide HM]; exact World.ownsRow.alloc (own_mono oS (by omega)) _) (fun i hi k hk hk' => by have h1 := own_block_lt (g7 i hi).1.1 k hk; have h2 := own_ge ol k hk'; simp at h2; omega) (fun i hi k hk hk' => by have h1 := own_block_lt (g7 i hi).1.2 k hk; have h2 := own_ge oS k hk'; omega))
      obtain ⟨an', cn, hvn⟩ : ∃ a c, vn = .slice a (k + 1) c := by obtain ⟨-, a, c, e, -⟩ := lies_of_own on; exact ⟨a, c, e⟩
      have HV := hide hvn
      clear on gn an hvn hob S6 S7 S8 S9 S10 oW hbW b7 b8 hb8 hb7 ol oS g2 bWd HO1 HCs HCl6
      go_wp2_with fail
      go_roundw
      case rel => exact ⟨k + 1, an', cn, by omega, by go_num, unhide HV, HO', R9⟩
      case measure => simp [intOf]; omega
    · obtain rfl : k = l := by omega
      have HO' := hide (show Own w.heap.size wr.heap.size wr (.slice pa k pc) zs by have := unhide HO; rwa [List.take_of_length_le (by have := unhide HN; omega)] at this)
      clear HO
      go_wp2
      go_ret
      exact ⟨_, rfl, unhide HO', hbel⟩
end Go.Proofs.YtlboekimnhgfdaaGreat.Row

/- A copy of rows that are ok: the model's l5Copy. -/
namespace Go.Proofs.YtlboekimnhgfdaaGreat.Row
open Go.RowKit Rw
set_option linter.unusedVariables false
attribute [local go_sem ↓] Go.wp_at_zero Go.wp_at_succ
set_option maxRecDepth 100000 in
set_option maxHeartbeats 8000000 in
theorem l5copy_any {w : World} {v : Value} {zs : List E} (h : Is w v zs) (hs : zs.length ≤ 11 ∧ ∀ x ∈ zs, x.1.length ≤ 1000 ∧ x.2.length ≤ 1000) : Calls Tryz.prog 103 #[v] w fun e w' => ∃ r, e = .returned r ∧ Own w.heap.size w'.heap.size w' r zs ∧ Below w.heap.size w w' := by
  obtain ⟨i0, hi, hz0, hz1, hz2⟩ := info_parts Row.info_e
  obtain ⟨i1, hi1, hy0, hy1, hy2⟩ := info_parts Lab.info_e
  obtain ⟨i2, hi2, hx0, hx1, hx2⟩ := info_parts Sam.info_e
  have hn10 := hs.1
  have HOK := hide hs.2
  obtain ⟨cs, hcs, hL, hE⟩ := h
  have HE := hide hE
  obtain ⟨-, a, cap, rfl, hc, hmx, -, hr⟩ := hL
  unfold maxLen at hmx
  obtain ⟨l, hl⟩ : ∃ l, l = zs.length := ⟨_, rfl⟩
  rw [← hl] at hc hr hcs hn10 ⊢
  have HN := hide hl
  have HC := hide hcs
  clear hl hE hcs hs
  have HI0 := hide (show Own w.heap.size (w.alloc (.cells #[] 93)).heap.size (w.alloc (.cells #[] 93)) (.slice (some ⟨w.heap.size, 0, none⟩) 0 0) (zs.take 0) from ⟨[], rfl, Str.own_empty' (Nat.le_refl _) rfl, own_block_lt (Str.own_empty' (base := w.heap.size) (e := 93) (size := 2) (Nat.le_refl _) rfl), Nat.le_refl _, fun i j _ h => absurd h (Nat.not_lt_zero _), fun i j _ h => absurd h (Nat.not_lt_zero _), fun i h => absurd h (Nat.not_lt_zero _)⟩)
  have B0 : Below w.heap.size w (w.alloc (.cells #[] 93)) := (Below.refl _ _).alloc (Nat.le_refl _) _
  go_enter Tryz.func103, Tryz.ntmps103
  go_wp2_with fail
  go_loopw [3, 4] (fun pv i wr => ∃ (k : Nat) (pa : Option Addr) (pc : Nat), k ≤ l ∧ i = .int .i64 k ∧ pv = .slice pa k pc ∧ Hid (Own w.heap.size wr.heap.size wr pv (zs.take k)) ∧ Below w.heap.size w wr) (fun _ i _ => l - (intOf i).toNat)
  case atStart => exact ⟨0, _, 0, Nat.zero_le _, rfl, rfl, HI0, B0⟩
  case round =>
    clear HI0 B0
    obtain ⟨k, pa, pc, hk, rfl, rfl, HO, hbel⟩ := hrel
    have hsz := hbel.size
    have hk0 : (0 : Int) ≤ (k : Int) := Int.natCast_nonneg _
    by_cases hlt : k < l
    · obtain ⟨b, off, rfl, hbl, hcells⟩ := hr (by omega)
      have fa := flat_at cs k (by have := unhide HC; omega)
      have hc0 : wr.cell? ⟨b, off + k * 2, none⟩ = some (cat cs k).1 := (hbel.cell (p := ⟨b, _, none⟩) hbl).trans (hcells (k * 2) _ fa.1)
      have hc1 : wr.cell? ⟨b, off + k * 2 + 1, none⟩ = some (cat cs k).2 := (hbel.cell (p := ⟨b, _, none⟩) hbl).trans (hcells (k * 2 + 1) _ fa.2)
      have hkz : k < zs.length := by have := unhide HN; omega
      have hEk := unhide HE k hkz
      have hst := unhide HOK (at' zs k) (at_mem zs k hkz)
      have hsn : zs.take (k + 1) = zs.take k ++ [at' zs k] := by rw [List.take_succ_eq_append_getElem hkz, at_get zs k hkz]
      have htl : (zs.take k).length = k := by rw [List.length_take]; omega
      obtain ⟨⟨ls, xs⟩, hX⟩ : ∃ x, x = at' zs k := ⟨_, rfl⟩
      rw [← hX] at hEk hst hsn
      simp only at hst
      obtain ⟨c0, c1, hY⟩ : ∃ c0 c1, (c0, c1) = cat cs k := ⟨_, _, rfl⟩
      rw [← hY] at hc0 hc1 hEk
      have hE1 : Lab.Is w c0 ls := hEk.1
      have hE2 : Sam.Is w c1 xs := hEk.2
      obtain ⟨-, a0, q0, e0, -⟩ := hE1
      obtain ⟨-, a1, q1, e1, -⟩ := hE2
      have hE1 : Lab.Is w c0 ls := hEk.1
      have hE2 : Sam.Is w c1 xs := hEk.2
      clear fa hEk hX hY
      have hk1 : (k : Int) < (l : Int) := by omega
      have hmx1 : 1 ≤ maxLen := by unfold maxLen; omega
      have hsm := hst.1
      have hx1000 := hst.2
      obtain ⟨ll, hll⟩ : ∃ ll, ll = ls.length := ⟨_, rfl⟩
      obtain ⟨m, hm⟩ : ∃ m, m = xs.length := ⟨_, rfl⟩
      rw [← hll] at e0 hsm
      rw [← hm] at e1 hx1000
      have HL1 := hide (fun W (hb : Below w.heap.size w W) => show Lies W c0 ll 2 (Lab.flat ls) by rw [hll]; exact hE1.below hb)
      have HL2 := hide (fun W (hb : Below w.heap.size w W) => show Lies W c1 m 2 (Sam.flat xs) by rw [hm]; exact hE2.below hb)
      have HLL := hide hll
      have HM := hide hm
      have HSn := hide hsn
      have HTl := hide htl
      clear hll hm hE1 hE2 hst hsn htl
      subst e0 e1
      obtain ⟨ds, g1, g2, g3, g4, g5, g6, g7⟩ := unhide HO
      rw [unhide HTl] at g2
      have hb0 : b < wr.heap.size := by omega
      have hb0a : b < wr.heap.size + 1 := by omega
      have hb0b : b < wr.heap.size + 1 + 1 := by omega
      have hbn : ¬ b = wr.heap.size := by omega
      have hbn2 : ¬ b = wr.heap.size + 1 := by omega
      have be1 : Below wr.heap.size wr (wr.alloc (.cells #[] 64)).drew := ((Below.refl _ _).alloc (Nat.le_refl _) _).drew
      have be2 : Below wr.heap.size wr ((wr.alloc (.cells #[] 64)).alloc (.cells #[] 106)).drew := (((Below.refl _ _).alloc (Nat.le_refl _) _).alloc (by simp) _).drew
      have be3 : Below wr.heap.size wr ((wr.alloc (.cells #[] 106)).alloc (.cells #[] 64)).drew := (((Below.refl _ _).alloc (Nat.le_refl _) _).alloc (by simp) _).drew
      have oe1 : World.ownsRow (wr.alloc (.cells #[] 64)).drew wr.heap.size 64 2 (.slice (some ⟨wr.heap.size, 0, none⟩) 0 0) 0 [] := World.ownsRow.drew (own_empty (Nat.le_refl _))
      have oe2 : World.ownsRow ((wr.alloc (.cells #[] 64)).alloc (.cells #[] 106)).drew wr.heap.size 64 2 (.slice (some ⟨wr.heap.size, 0, none⟩) 0 0) 0 [] := World.ownsRow.drew (World.ownsRow.alloc (own_empty (Nat.le_refl _)) _)
      have oe3 : World.ownsRow ((wr.alloc (.cells #[] 106)).alloc (.cells #[] 64)).drew wr.heap.size 64 2 (.slice (some ⟨wr.heap.size + 1, 0, none⟩) 0 0) 0 [] := World.ownsRow.drew (Str.own_empty' (w := wr.alloc (.cells #[] 106)) (by simp) (by simp))
      have os2 : World.ownsRow ((wr.alloc (.cells #[] 64)).alloc (.cells #[] 106)).drew wr.heap.size 106 2 (.slice (some ⟨wr.heap.size + 1, 0, none⟩) 0 0) 0 [] := World.ownsRow.drew (Str.own_empty' (w := wr.alloc (.cells #[] 64)) (by simp) (by simp))
      have os3 : World.ownsRow ((wr.alloc (.cells #[] 106)).alloc (.cells #[] 64)).drew wr.heap.size 106 2 (.slice (some ⟨wr.heap.size, 0, none⟩) 0 0) 0 [] := World.ownsRow.drew (World.ownsRow.alloc (own_empty (Nat.le_refl _)) _)
      have le1 := unhide HL1 _ (hbel.trans (be1.mono hsz))
      have le2 := unhide HL1 _ (hbel.trans (be2.mono hsz))
      have le3 := unhide HL1 _ (hbel.trans (be3.mono hsz))
      have HO1 := hide (And.intro g1 (And.intro g5 (And.intro g6 g7)))
      clear HO g1 g3 g4 g5 g6 g7
      go_wp2_with fail
      go_region_law ((first | (refine app_step _ (by rfl) (.tmp 13) (.tmp 18) _ (by rfl) wr.heap.size 64 i1 _ 2 32 Tryz.underlying60 hi1 hy0 hy1 hy2 rfl (by omega) _ 0 [] (by rfl) (by first | exact oe1 | exact oe2 | exact oe3) _ ll (Lab.flat ls) (by rfl) (by first | exact le1 | exact le2 | exact le3) (Lab.flat_oneCell _) (by unfold maxLen; omega) (by omega) (by simp <;> omega) ?_; intro vl w7 ol gl al; rw [Nat.zero_add, List.nil_append] at ol; have b7 : Below wr.heap.size wr w7 := (by first | exact below_grown be1 (by simp) gl (own_ge oe1) | exact below_grown be2 (by simp <;> omega) gl (own_ge oe2) | exact below_grown be3 (by simp <;> omega) gl (own_ge oe3)); obtain ⟨la, lq, rfl⟩ : ∃ a q, vl = .slice a ll q := (by obtain ⟨-, a, q, e, -⟩ := lies_of_own ol; exact ⟨a, q, e⟩); have z7 := b7.size; have hb7 : Below w.heap.size w w7 := hbel.trans (b7.mono hsz); have c7a : w7.cell? ⟨b, off + k * 2 + 1, none⟩ = some (.slice a1 m q1) := (b7.cell (p := ⟨b, _, none⟩) hb0).trans hc1; have hb77 : b < w7.heap.size := (by omega); have hb7n : ¬ b = w7.heap.size := (by omega); have os1 : (w7.alloc (.cells #[] 106)).ownsRow wr.heap.size 106 2 (.slice (some ⟨w7.heap.size, 0, none⟩) 0 0) 0 [] := own_empty z7; have bs1 : Below w7.heap.size w7 (w7.alloc (.cells #[] 106)) := (Below.refl _ _).alloc (Nat.le_refl _) _; have lx1 := unhide HL2 _ (hb7.trans (bs1.mono (by omega))); have lx2 := unhide HL2 _ hb7) | (refine app_step _ (by rfl) (.tmp 20) (.tmp 25) _ (by rfl) wr.heap.size 106 i2 _ 2 16 Tryz.underlying91 hi2 hx0 hx1 hx2 rfl (by omega) _ 0 [] (by rfl) (by first | exact os1 | exact own_grown gl os2 (own_ne_type os2 oe2 (by decide)) | exact own_grown gl os3 (own_ne_type os3 oe3 (by decide))) _ m (Sam.flat xs) (by rfl) (by first | exact lx1 | exact lx2) (Sam.flat_oneCell _) (by unfold maxLen; omega) (by omega) (by first | omega | (simp; done) | (simp; omega)) ?_; intro vs w8 oS gS aS; rw [Nat.zero_add, List.nil_append] at oS; have b8 : Below wr.heap.size wr w8 := (by first | exact below_grown (b7.trans (bs1.mono z7)) (by simp <;> omega) gS (own_ge os1) | exact below_grown b7 z7 gS (own_ge os2) | exact below_grown b7 z7 gS (own_ge os3)); have ol8 : w8.ownsRow wr.heap.size 64 2 (.slice la ll lq) ll (Lab.flat ls) := (by first | exact own_grown gS (own_below ol bs1) (own_ne_type (own_below ol bs1) os1 (by decide)) | exact own_grown gS ol (own_ne_type ol (own_grown gl os2 (own_ne_type os2 oe2 (by decide))) (by decide)) | exact own_grown gS ol (own_ne_type ol (own_grown gl os3 (own_ne_type os3 oe3 (by decide))) (by decide))); obtain ⟨sa, sq, rfl⟩ : ∃ a q, vs = .slice a m q := (by obtain ⟨-, a, q, e, -⟩ := lies_of_own oS; exact ⟨a, q, e⟩); have z8 := b8.size) | (refine app_step _ (by rfl) (.tmp 12) (.tmp 28) _ (by rfl) w.heap.size 93 i0 _ 2 48 Tryz.underlying28 hi hz0 hz1 hz2 rfl (by omega) _ k _ (by rfl) (World.ownsRow.alloc (own_below g2 b8) _) _ 1 [.slice la ll lq, .slice sa m sq] (by rfl) (lies_new (w := w8) (by simp) rfl hmx1) (by simp [Value.oneCell']) (by unfold maxLen; omega) (by omega) (by simp <;> omega) ?_; intro vn wn on gn an)))
      all_goals
        have hb8 : Below w.heap.size w w8 := hbel.trans (b8.mono hsz)
        have R9 : Below w.heap.size w wn := below_grown (hb8.alloc (by omega) _) (by simp <;> omega) gn (own_ge g2)
        have HO' := hide (show Own w.heap.size wn.heap.size wn vn (zs.take (k + 1)) by
          obtain ⟨g1, g5, g6, g7⟩ := unhide HO1
          rw [unhide HSn]
          have hw := fun {base e size n v} {xs : List Value} (ho : wr.ownsRow base e size v n xs) => World.ownsRow.alloc (own_below ho b8) (.cells #[.slice la ll lq, .slice sa m sq] 93)
          exact own_snoc (w := w8.alloc (.cells #[.slice la ll lq, .slice sa m sq] 93)) (pv := .slice pa k pc) (vl := .slice la ll lq) (xv := .slice sa m sq) g1 (by rw [unhide HTl]; exact hw g2) g5 g6 (fun i hi => ⟨hw (g7 i hi).1.1, hw (g7 i hi).1.2⟩) gn (by rw [unhide HTl]; exact on) (by simp only; rw [← unhide HLL]; exact World.ownsRow.alloc (own_mono ol8 (by omega)) _) (by simp only; rw [← unhide HM]; exact World.ownsRow.alloc (own_mono oS (by omega)) _) (fun i hi k hk hk' => by have h1 := own_block_lt (g7 i hi).1.1 k hk; have h2 := own_ge ol8 k hk'; omega) (fun i hi k hk hk' => by have h1 := own_block_lt (g7 i hi).1.2 k hk; have h2 := own_ge oS k hk'; omega))
        obtain ⟨an', cn, hvn⟩ : ∃ a c, vn = .slice a (k + 1) c := by obtain ⟨-, a, c, e, -⟩ := lies_of_own on; exact ⟨a, c, e⟩
        have HV := hide hvn
        clear on gn an hvn ol oS ol8 g2 HO1 oe1 oe2 oe3 os1 os2 os3 le1 le2 le3 lx1 lx2 be1 be2 be3 bs1 gl gS al aS b7 b8 hb7 hb8
        go_wp2_with fail
        go_roundw
        case rel => exact ⟨k + 1, an', cn, by omega, by go_num, unhide HV, HO', R9⟩
        case measure => simp [intOf]; omega
    · obtain rfl : k = l := by omega
      have HO' := hide (show Own w.heap.size wr.heap.size wr (.slice pa k pc) zs by have := unhide HO; rwa [List.take_of_length_le (by have := unhide HN; omega)] at this)
      clear HO
      go_wp2
      go_ret
      exact ⟨_, rfl, unhide HO', hbel⟩
theorem l5copy {w : World} {v : Value} {zs : List E} (h : Is w v zs) (hok : ok zs = true) : Calls Tryz.prog 103 #[v] w fun e w' => ∃ r, e = .returned r ∧ Own w.heap.size w'.heap.size w' r zs ∧ Below w.heap.size w w' := by
  refine l5copy_any h ⟨by have := ok_len hok; omega, fun x hx => ?_⟩
  obtain ⟨i, hi, rfl⟩ := List.getElem_of_mem hx
  have hst := step_is (ok_at hok hi)
  rw [at_get zs i hi] at hst
  exact ⟨by have := (Lab.ok_small hst.1).1; omega, hst.2.2.1⟩
end Go.Proofs.YtlboekimnhgfdaaGreat.Row

/- A copy of a table whose rows are ok, by the program and by the model. -/
namespace Go.Proofs.YtlboekimnhgfdaaGreat.Tab
open Go.RowKit Rw
set_option linter.unusedVariables false
attribute [local go_sem ↓] Go.wp_at_zero Go.wp_at_succ
set_option maxRecDepth 100000 in
set_option maxHeartbeats 4000000 in
theorem impl_copy {w : World} {v : Value} {zs : List Row.E} (H F : Int) (h : Row.Is w v zs) (hok : Row.ok zs = true) : Calls Tryz.prog 44 #[.agg #[v, .int .i64 H, .int .i64 F]] w fun e w' => ∃ r, e = .returned (.agg #[r, .int .i64 H, .int .i64 F]) ∧ Row.Own w.heap.size w'.heap.size w' r zs ∧ Below w.heap.size w w' := by
  have HC := hide (fun W (hb : Below w.heap.size w W) => Row.copy_any (h.below hb) hok)
  obtain ⟨av, nv, cv, ev⟩ : ∃ a n c, v = .slice a n c := by obtain ⟨cs, -, hL, -⟩ := h; obtain ⟨-, a, c, e, -⟩ := hL; exact ⟨a, _, c, e⟩
  clear h hok
  subst ev
  obtain ⟨W, hW⟩ : ∃ W, W = (w.alloc (.cells #[.slice av nv cv, .int .i64 H, .int .i64 F] 30)).alloc (.cells #[.slice none 0 0, .int .i64 0, .int .i64 0] 30) := ⟨_, rfl⟩
  have bW : Below w.heap.size w W := by rw [hW]; exact ((Below.refl _ _).alloc (Nat.le_refl _) _).alloc (by simp) _
  have zW : W.heap.size = w.heap.size + 1 + 1 := by rw [hW]; simp
  have S6 : (fun W : World => W.cell? ⟨w.heap.size, 0, none⟩ = some (.slice av nv cv) ∧ W.cell? ⟨w.heap.size, 1, none⟩ = some (.int .i64 H) ∧ W.cell? ⟨w.heap.size, 2, none⟩ = some (.int .i64 F)) W.drew := by rw [hW]; exact ⟨by simp [go_sem], by simp [go_sem], by simp [go_sem]⟩
  have y0 : W.drew.cell? ⟨w.heap.size + 1, 0, none⟩ = some (.slice none 0 0) := by rw [hW]; simp [go_sem]
  have y1 : W.drew.cell? ⟨w.heap.size + 1, 1, none⟩ = some (.int .i64 0) := by rw [hW]; simp [go_sem]
  have y2 : W.drew.cell? ⟨w.heap.size + 1, 2, none⟩ = some (.int .i64 0) := by rw [hW]; simp [go_sem]
  have f0 : ∀ o, W.drew.frozen? ⟨w.heap.size + 1, o, none⟩ = false := by intro o; rw [hW]; simp [go_sem]
  have HC6 := hide (unhide HC W.drew bW.drew)
  clear HC
  go_enter Tryz.func44, Tryz.ntmps44
  go_wp2_with fail
  rw [← hW]
  clear hW
  go_region_held3 (fun W => W.cell? ⟨w.heap.size, 0, none⟩ = some (.slice av nv cv) ∧ W.cell? ⟨w.heap.size, 1, none⟩ = some (.int .i64 H) ∧ W.cell? ⟨w.heap.size, 2, none⟩ = some (.int .i64 F)) (first | exact S6 | exact S7 | exact S8) ((go_at_call 83; refine (unhide HC6).mono ?_; rintro e w7 ⟨r, rfl, o7, b7⟩; obtain ⟨ra, rl, rq, rfl⟩ := Row.Own.form o7; have z7 := b7.size; simp only [World.size_drew] at z7; have x0 := (b7.cell (p := ⟨w.heap.size + 1, 0, none⟩) (by show w.heap.size + 1 < _; simp; omega)).trans y0; have x1 := (b7.cell (p := ⟨w.heap.size + 1, 1, none⟩) (by show w.heap.size + 1 < _; simp; omega)).trans y1; have x2 := (b7.cell (p := ⟨w.heap.size + 1, 2, none⟩) (by show w.heap.size + 1 < _; simp; omega)).trans y2; have g0 := (b7.frozen (p := ⟨w.heap.size + 1, 0, none⟩) (by show w.heap.size + 1 < _; simp; omega)).trans (f0 0); have g1 := (b7.frozen (p := ⟨w.heap.size + 1, 1, none⟩) (by show w.heap.size + 1 < _; simp; omega)).trans (f0 1); have g2 := (b7.frozen (p := ⟨w.heap.size + 1, 2, none⟩) (by show w.heap.size + 1 < _; simp; omega)).trans (f0 2); have S7 : (fun W : World => W.cell? ⟨w.heap.size, 0, none⟩ = some (.slice av nv cv) ∧ W.cell? ⟨w.heap.size, 1, none⟩ = some (.int .i64 H) ∧ W.cell? ⟨w.heap.size, 2, none⟩ = some (.int .i64 F)) w7 := ⟨(b7.cell (p := ⟨w.heap.size, 0, none⟩) (by show w.heap.size < _; simp; omega)).trans S6.1, (b7.cell (p := ⟨w.heap.size, 1, none⟩) (by show w.heap.size < _; simp; omega)).trans S6.2.1, (b7.cell (p := ⟨w.heap.size, 2, none⟩) (by show w.heap.size < _; simp; omega)).trans S6.2.2⟩; have on8 : OnlyAt (w.heap.size + 1) w7 (((w7.setCell ⟨w.heap.size + 1, 0, none⟩ (.slice ra rl rq)).setCell ⟨w.heap.size + 1, 1, none⟩ (.int .i64 H)).setCell ⟨w.heap.size + 1, 2, none⟩ (.int .i64 F)) := (((OnlyAt.refl _ _).setCell 0 _).setCell 1 _).setCell 2 _; have S8 : (fun W : World => W.cell? ⟨w.heap.size, 0, none⟩ = some (.slice av nv cv) ∧ W.cell? ⟨w.heap.size, 1, none⟩ = some (.int .i64 H) ∧ W.cell? ⟨w.heap.size, 2, none⟩ = some (.int .i64 F)) (((w7.setCell ⟨w.heap.size + 1, 0, none⟩ (.slice ra rl rq)).setCell ⟨w.heap.size + 1, 1, none⟩ (.int .i64 H)).setCell ⟨w.heap.size + 1, 2, none⟩ (.int .i64 F)) := ⟨(World.cell?_of_block (a := ⟨w.heap.size, 0, none⟩) (on8.block w.heap.size (show w.heap.size ≠ w.heap.size + 1 by omega))).trans S7.1, (World.cell?_of_block (a := ⟨w.heap.size, 1, none⟩) (on8.block w.heap.size (show w.heap.size ≠ w.heap.size + 1 by omega))).trans S7.2.1, (World.cell?_of_block (a := ⟨w.heap.size, 2, none⟩) (on8.block w.heap.size (show w.heap.size ≠ w.heap.size + 1 by omega))).trans S7.2.2⟩))
  have bn : Below w.heap.size w (((w7.setCell ⟨w.heap.size + 1, 0, none⟩ (.slice ra rl rq)).setCell ⟨w.heap.size + 1, 1, none⟩ (.int .i64 H)).setCell ⟨w.heap.size + 1, 2, none⟩ (.int .i64 F)) := (bW.drew.trans (b7.mono (by simp; omega))).trans (on8.below (by omega))
  have O8 := hide (o7.zone (Zone.of_only on8 (Nat.le_refl _) (Nat.lt_succ_self _)) (.inr (by simp; omega)))
  go_wp2_with fail
  refine bodyPost_ret (v := .agg #[.slice ra rl rq, .int .i64 H, .int .i64 F]) (by simp [results, Tryz.results44, go_sem, x0, x1, x2]) rfl ⟨.slice ra rl rq, rfl, (unhide O8).wide (by simp; omega) (by simp) (Nat.le_refl _), bn⟩
set_option maxRecDepth 100000 in
set_option maxHeartbeats 4000000 in
theorem spec_copy {w : World} {v : Value} {zs : List Row.E} (H F : Int) (h : Row.Is w v zs) (hok : Row.ok zs = true) : Calls Tryz.prog 57 #[.agg #[v, .int .i64 H, .int .i64 F]] w fun e w' => ∃ r, e = .returned (.agg #[r, .int .i64 H, .int .i64 F]) ∧ Row.Own w.heap.size w'.heap.size w' r zs ∧ Below w.heap.size w w' := by
  have HC := hide (fun W (hb : Below w.heap.size w W) => Row.l5copy (h.below hb) hok)
  obtain ⟨av, nv, cv, ev⟩ : ∃ a n c, v = .slice a n c := by obtain ⟨cs, -, hL, -⟩ := h; obtain ⟨-, a, c, e, -⟩ := hL; exact ⟨a, _, c, e⟩
  clear h hok
  subst ev
  obtain ⟨W, hW⟩ : ∃ W, W = (w.alloc (.cells #[.slice av nv cv, .int .i64 H, .int .i64 F] 30)).alloc (.cells #[.slice none 0 0, .int .i64 0, .int .i64 0] 30) := ⟨_, rfl⟩
  have bW : Below w.heap.size w W := by rw [hW]; exact ((Below.refl _ _).alloc (Nat.le_refl _) _).alloc (by simp) _
  have zW : W.heap.size = w.heap.size + 1 + 1 := by rw [hW]; simp
  have S6 : (fun W : World => W.cell? ⟨w.heap.size, 0, none⟩ = some (.slice av nv cv) ∧ W.cell? ⟨w.heap.size, 1, none⟩ = some (.int .i64 H) ∧ W.cell? ⟨w.heap.size, 2, none⟩ = some (.int .i64 F)) W.drew := by rw [hW]; exact ⟨by simp [go_sem], by simp [go_sem], by simp [go_sem]⟩
  have y0 : W.drew.cell? ⟨w.heap.size + 1, 0, none⟩ = some (.slice none 0 0) := by rw [hW]; simp [go_sem]
  have y1 : W.drew.cell? ⟨w.heap.size + 1, 1, none⟩ = some (.int .i64 0) := by rw [hW]; simp [go_sem]
  have y2 : W.drew.cell? ⟨w.heap.size + 1, 2, none⟩ = some (.int .i64 0) := by rw [hW]; simp [go_sem]
  have f0 : ∀ o, W.drew.frozen? ⟨w.heap.size + 1, o, none⟩ = false := by intro o; rw [hW]; simp [go_sem]
  have HC6 := hide (unhide HC W.drew bW.drew)
  clear HC
  go_enter Tryz.func57, Tryz.ntmps57
  go_wp2_with fail
  rw [← hW]
  clear hW
  go_region_held3 (fun W => W.cell? ⟨w.heap.size, 0, none⟩ = some (.slice av nv cv) ∧ W.cell? ⟨w.heap.size, 1, none⟩ = some (.int .i64 H) ∧ W.cell? ⟨w.heap.size, 2, none⟩ = some (.int .i64 F)) (first | exact S6 | exact S7 | exact S8) ((go_at_call 103; refine (unhide HC6).mono ?_; rintro e w7 ⟨r, rfl, o7, b7⟩; obtain ⟨ra, rl, rq, rfl⟩ := Row.Own.form o7; have z7 := b7.size; simp only [World.size_drew] at z7; have x0 := (b7.cell (p := ⟨w.heap.size + 1, 0, none⟩) (by show w.heap.size + 1 < _; simp; omega)).trans y0; have x1 := (b7.cell (p := ⟨w.heap.size + 1, 1, none⟩) (by show w.heap.size + 1 < _; simp; omega)).trans y1; have x2 := (b7.cell (p := ⟨w.heap.size + 1, 2, none⟩) (by show w.heap.size + 1 < _; simp; omega)).trans y2; have g0 := (b7.frozen (p := ⟨w.heap.size + 1, 0, none⟩) (by show w.heap.size + 1 < _; simp; omega)).trans (f0 0); have g1 := (b7.frozen (p := ⟨w.heap.size + 1, 1, none⟩) (by show w.heap.size + 1 < _; simp; omega)).trans (f0 1); have g2 := (b7.frozen (p := ⟨w.heap.size + 1, 2, none⟩) (by show w.heap.size + 1 < _; simp; omega)).trans (f0 2); have S7 : (fun W : World => W.cell? ⟨w.heap.size, 0, none⟩ = some (.slice av nv cv) ∧ W.cell? ⟨w.heap.size, 1, none⟩ = some (.int .i64 H) ∧ W.cell? ⟨w.heap.size, 2, none⟩ = some (.int .i64 F)) w7 := ⟨(b7.cell (p := ⟨w.heap.size, 0, none⟩) (by show w.heap.size < _; simp; omega)).trans S6.1, (b7.cell (p := ⟨w.heap.size, 1, none⟩) (by show w.heap.size < _; simp; omega)).trans S6.2.1, (b7.cell (p := ⟨w.heap.size, 2, none⟩) (by show w.heap.size < _; simp; omega)).trans S6.2.2⟩; have on8 : OnlyAt (w.heap.size + 1) w7 (((w7.setCell ⟨w.heap.size + 1, 0, none⟩ (.slice ra rl rq)).setCell ⟨w.heap.size + 1, 1, none⟩ (.int .i64 H)).setCell ⟨w.heap.size + 1, 2, none⟩ (.int .i64 F)) := (((OnlyAt.refl _ _).setCell 0 _).setCell 1 _).setCell 2 _; have S8 : (fun W : World => W.cell? ⟨w.heap.size, 0, none⟩ = some (.slice av nv cv) ∧ W.cell? ⟨w.heap.size, 1, none⟩ = some (.int .i64 H) ∧ W.cell? ⟨w.heap.size, 2, none⟩ = some (.int .i64 F)) (((w7.setCell ⟨w.heap.size + 1, 0, none⟩ (.slice ra rl rq)).setCell ⟨w.heap.size + 1, 1, none⟩ (.int .i64 H)).setCell ⟨w.heap.size + 1, 2, none⟩ (.int .i64 F)) := ⟨(World.cell?_of_block (a := ⟨w.heap.size, 0, none⟩) (on8.block w.heap.size (show w.heap.size ≠ w.heap.size + 1 by omega))).trans S7.1, (World.cell?_of_block (a := ⟨w.heap.size, 1, none⟩) (on8.block w.heap.size (show w.heap.size ≠ w.heap.size + 1 by omega))).trans S7.2.1, (World.cell?_of_block (a := ⟨w.heap.size, 2, none⟩) (on8.block w.heap.size (show w.heap.size ≠ w.heap.size + 1 by omega))).trans S7.2.2⟩))
  have bn : Below w.heap.size w (((w7.setCell ⟨w.heap.size + 1, 0, none⟩ (.slice ra rl rq)).setCell ⟨w.heap.size + 1, 1, none⟩ (.int .i64 H)).setCell ⟨w.heap.size + 1, 2, none⟩ (.int .i64 F)) := (bW.drew.trans (b7.mono (by simp; omega))).trans (on8.below (by omega))
  have O8 := hide (o7.zone (Zone.of_only on8 (Nat.le_refl _) (Nat.lt_succ_self _)) (.inr (by simp; omega)))
  go_wp2_with fail
  refine bodyPost_ret (v := .agg #[.slice ra rl rq, .int .i64 H, .int .i64 F]) (by simp [results, Tryz.results57, go_sem, x0, x1, x2]) rfl ⟨.slice ra rl rq, rfl, (unhide O8).wide (by simp; omega) (by simp) (Nat.le_refl _), bn⟩
end Go.Proofs.YtlboekimnhgfdaaGreat.Tab

/- What is left of a row: the mathematics; samples put to a row whether it is there or not. -/
namespace Go.Proofs.YtlboekimnhgfdaaGreat.Samp
open SampMath
set_option linter.unusedVariables false
theorem merge_cons_lt {x : S} {A B : List S} (h : ∀ y ∈ B, x.1 < y.1) : merge (x :: A) B = (merge A B).map (x :: ·) := by
  cases B with
  | nil => rw [merge_nil_right, merge_nil_right]; rfl
  | cons y B => rw [merge, if_pos (h y (List.mem_cons_self ..))]
theorem merge_lt_cons {x : S} {A B : List S} (h : ∀ y ∈ A, x.1 < y.1) : merge A (x :: B) = (merge A B).map (x :: ·) := by
  cases A with
  | nil => rw [merge_nil, merge_nil]; rfl
  | cons y A =>
    have := h y (List.mem_cons_self ..)
    rw [merge, if_neg (by omega), if_pos this]
/-- parts of samples, whatever they have in common, are together what either has -/
theorem merge_filter : ∀ (xs : List S) (p q : S → Bool), xs.Pairwise (fun a b => a.1 < b.1) → merge (xs.filter p) (xs.filter q) = some (xs.filter fun z => p z || q z)
  | [], p, q, _ => by simp [merge_nil]
  | x :: xs, p, q, h => by
    obtain ⟨h1, h2⟩ := List.pairwise_cons.1 h
    have ih := merge_filter xs p q h2
    have hp : ∀ y ∈ xs.filter p, x.1 < y.1 := fun y hy => h1 y (List.mem_filter.1 hy).1
    have hq : ∀ y ∈ xs.filter q, x.1 < y.1 := fun y hy => h1 y (List.mem_filter.1 hy).1
    cases ep : p x <;> cases eq : q x
    · rw [List.filter_cons_of_neg (by simp [ep]), List.filter_cons_of_neg (by simp [eq]), List.filter_cons_of_neg (by simp [ep, eq])]
      exact ih
    · rw [List.filter_cons_of_neg (by simp [ep]), List.filter_cons_of_pos eq, List.filter_cons_of_pos (by simp [eq]), merge_lt_cons hp, ih]
      rfl
    · rw [List.filter_cons_of_pos ep, List.filter_cons_of_neg (by simp [eq]), List.filter_cons_of_pos (by simp [ep]), merge_cons_lt hq, ih]
      rfl
    · rw [List.filter_cons_of_pos ep, List.filter_cons_of_pos eq, List.filter_cons_of_pos (by simp [ep]), merge, if_neg (by omega), if_neg (by omega), if_pos rfl, ih]
      rfl
/-- what is ahead of a time, or from another one on -/
def sides (xs : List S) (f t : Int) : List S := xs.filter fun z => inT 0 f z || inT t 10000 z
theorem join_cuts {xs : List S} (h : ok xs = true) (f t : Int) : join (cutL xs 0 f) (cutL xs t 10000) = (sides xs f t, true) :=
  join_some (ok_filter h _) (ok_filter h _) (merge_filter xs _ _ ((ok_iff xs).1 h).2)
theorem sides_apart {xs : List S} (h : ok xs = true) {f t : Int} (hft : f < t) : sides xs f t = cutL xs 0 f ++ cutL xs t 10000 := by
  have h1 := merge_filter xs (inT 0 f) (inT t 10000) ((ok_iff xs).1 h).2
  have h2 := merge_apart (cutL xs 0 f) (cutL xs t 10000) (fun x hx y hy => by
    have hx' := (List.mem_filter.1 hx).2
    have hy' := (List.mem_filter.1 hy).2
    unfold inT at hx' hy'
    simp only [Bool.and_eq_true, decide_eq_true_eq] at hx' hy'
    omega)
  unfold cutL at h2 ⊢
  rw [h1] at h2
  exact Option.some.inj h2
theorem sides_all {xs : List S} (h : ok xs = true) {f t : Int} (hft : t ≤ f) : sides xs f t = xs := by
  unfold sides
  rw [List.filter_eq_self]
  intro z hz
  have := ((ok_iff xs).1 h).1 z hz
  rw [inR_iff] at this
  unfold inT
  simp only [Bool.or_eq_true, Bool.and_eq_true, decide_eq_true_eq]
  omega
end Go.Proofs.YtlboekimnhgfdaaGreat.Samp
namespace Go.Proofs.YtlboekimnhgfdaaGreat.Row
open Go.RowKit Rw
def dropG (ms : List Mat.E) (f t : Int) (x : E) : List Sam.E := if Mat.mlet ms x.1 = true then Samp.sides x.2 f t else x.2
def drop (ms : List Mat.E) (f t : Int) (zs : List E) : List E := if ok zs = true ∧ Mat.ok ms = true then outL (dropG ms f t) zs else []
/-- rows, and behind them one, if it has samples -/
def st (L : List E) (ls : List Lab.E) (a : List Sam.E) : List E := if a = [] then L else L ++ [(ls, a)]
end Go.Proofs.YtlboekimnhgfdaaGreat.Row
namespace Go.Proofs.YtlboekimnhgfdaaGreat.RSet
open Go.RowKit Rw
/-- samples put to the last row, whether it is there or not -/
theorem put_st {lo B mb n m sc : Nat} {sa : Option Addr} {w : World} {L : List Row.E} {lv : Value} {ls : List Lab.E} {a D J : List Sam.E}
    (h : Built lo B mb n w (Row.st L ls a)) (hL : L.length ≤ 1000) (hn : n ≤ 1000) (hA : Row.Ahead L ls) (hl : Lab.Is w lv ls) (hlg : ∀ x ∈ ls, Lab.good x) (hlo : Lab.ok ls = true) (hs : Samp.Smp w (.slice sa m sc) D) (hm : D.length = m) (ha : SampMath.ok a = true) (hD : SampMath.ok D = true) (hJ : SampMath.join a D = (J, true)) (h1 : m ≤ 4194304) (h2 : a.length ≤ 4194304) (hlow : lo ≤ w.heap.size) :
    Calls Tryz.prog 101 #[.pointer (some ⟨B, 0, none⟩), lv, .slice sa m sc] w fun e w' => e = .returned (.bool true) ∧ (∃ n', n' ≤ n + 1 ∧ Built lo B mb n' w' (Row.st L ls J)) ∧ Two B mb w w' := by
  by_cases h0 : m = 0
  · subst h0
    obtain rfl : D = [] := List.eq_nil_of_length_eq_zero hm
    have : J = a := by
      have e : SampMath.join a [] = (a, true) := SampMath.join_some ha rfl (SampMath.merge_nil_right a)
      rw [e] at hJ
      exact (Prod.mk.inj hJ).1.symm
    subst this
    refine (put_none _ _ _ _).mono ?_
    rintro e w' ⟨rfl, rfl⟩
    exact ⟨rfl, ⟨n, by omega, h⟩, Two.refl _ _ _⟩
  · have hDn : D ≠ [] := fun e => h0 (by rw [← hm, e]; rfl)
    by_cases e : a = []
    · subst e
      have : J = D := by rw [join_first hD] at hJ; exact (Prod.mk.inj hJ).1.symm
      subst this
      have hst : Row.st L ls [] = L := if_pos rfl
      rw [hst] at h
      refine (built_new h hL hn hA hl hlg hlo hs hm hD (by omega) h1 hlow).mono ?_
      rintro e w' ⟨rfl, hb, ht⟩
      exact ⟨rfl, ⟨n + 1, by omega, by rw [show Row.st L ls J = L ++ [(ls, J)] from if_neg hDn]; exact hb⟩, ht⟩
    · have hst : Row.st L ls a = L ++ [(ls, a)] := if_neg e
      rw [hst] at h
      have hJn : J ≠ [] := by
        intro e2
        subst e2
        obtain ⟨x, a', rfl⟩ : ∃ x a', a = x :: a' := by cases a with | nil => exact absurd rfl e | cons x a' => exact ⟨x, a', rfl⟩
        obtain ⟨y, D', rfl⟩ : ∃ y D', D = y :: D' := by cases D with | nil => exact absurd rfl hDn | cons y D' => exact ⟨y, D', rfl⟩
        unfold SampMath.join at hJ
        rw [if_pos ⟨ha, hD⟩, SampMath.merge] at hJ
        split at hJ
        · rename_i L' he
          obtain rfl := (Prod.mk.inj hJ).1
          split at he
          · cases hh : SampMath.merge a' (y :: D') <;> rw [hh] at he <;> simp at he
          · split at he
            · cases hh : SampMath.merge (x :: a') D' <;> rw [hh] at he <;> simp at he
            · split at he
              · cases hh : SampMath.merge a' D' <;> rw [hh] at he <;> simp at he
              · cases he
        · simp at hJ
      refine (built_last h hn hA hl hlg hlo hs hm hJ (by omega) h1 h2 hlow).mono ?_
      rintro e w' ⟨rfl, hb, ht⟩
      exact ⟨rfl, ⟨n + 1, by omega, by rw [show Row.st L ls J = L ++ [(ls, J)] from if_neg hJn]; exact hb⟩, ht⟩
end Go.Proofs.YtlboekimnhgfdaaGreat.RSet
