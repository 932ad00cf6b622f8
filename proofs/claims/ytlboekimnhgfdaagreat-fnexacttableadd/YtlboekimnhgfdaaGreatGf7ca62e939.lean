/- My own texts of one claim, laid together by program: RowCopy, RowCopy2, RowAt, RowMark. -/
import Derived.Test.YtlboekimnhgfdaaGreatG32b7cddec7
import Derived.Test.YtlboekimnhgfdaaGreatGb4760d3d53
import Derived.Test.YtlboekimnhgfdaaGreatGfbf2e4a745
import Derived.Test.YtlboekimnhgfdaaGreatG5809efe2b5
/- A copy of rows that are ok: the program's rowsCopy. -/
namespace Go.Proofs.YtlboekimnhgfdaaGreat.Row
open Go.RowKit Rw
set_option linter.unusedVariables false
attribute [local go_sem ↓] Go.wp_at_zero Go.wp_at_succ
set_option maxRecDepth 100000 in
set_option maxHeartbeats 2000000 in
theorem clone_any {w : World} {v : Value} {zs : List Sam.E} (h : Sam.Is w v zs) (h0 : zs ≠ []) (h1 : zs.length ≤ 4194304) : Calls Tryz.prog 122 #[v] w fun e w' => ∃ r, e = .returned r ∧ w'.ownsRow w.heap.size 106 2 r zs.length (Sam.flat zs) ∧ Below w.heap.size w w' := by
  obtain ⟨i2, hi2, hx0, hx1, hx2⟩ := info_parts Sam.info_e
  have hL : Lies w v zs.length 2 (Sam.flat zs) := h
  obtain ⟨-, a, cap, rfl, hc, hm, -, hr⟩ := h
  obtain ⟨b, off, rfl, hl, hcells⟩ := hr (List.length_pos_iff.2 h0)
  have oe : (w.alloc (.cells #[] 106)).ownsRow w.heap.size 106 2 (.slice (some ⟨w.heap.size, 0, none⟩) 0 0) 0 [] := own_empty (Nat.le_refl _)
  have be : Below w.heap.size w (w.alloc (.cells #[] 106)) := (Below.refl _ _).alloc (Nat.le_refl _) _
  have le := hL.below be
  clear hL hcells hr
  obtain ⟨m, hm'⟩ : ∃ m, m = zs.length := ⟨_, rfl⟩
  rw [← hm'] at h1 le ⊢
  clear hm' hc
  have heq : ∀ W, (binOp .eql 91 (.slice (some ⟨b, off, none⟩) m cap) (.slice none 0 0)).run Tryz.prog W = .ok (.bool false) W := fun W => rfl
  go_enter Tryz.func122, Tryz.ntmps122
  go_wp2_with (at_builtin; refine app_wp _ rfl _ _ _ rfl w.heap.size 106 i2 _ 2 16 Tryz.underlying91 hi2 hx0 hx1 hx2 rfl (by omega) _ 0 [] rfl oe _ m (Sam.flat zs) rfl le (Sam.flat_oneCell _) (by unfold maxLen; omega) (by omega) (by simp) ?_; intro vn wn on gn an)
  rw [Nat.zero_add, List.nil_append] at on
  have bn := below_grown be (by simp) gn (fun k hk => by cases hk; exact Nat.le_refl _)
  clear gn an le be oe
  go_wp2_with fail
  go_ret
  exact ⟨_, rfl, on, bn⟩
set_option maxRecDepth 100000 in
set_option maxHeartbeats 8000000 in
theorem copy_any {w : World} {v : Value} {zs : List E} (h : Is w v zs) (hok : ok zs = true) : Calls Tryz.prog 83 #[v] w fun e w' => ∃ r, e = .returned r ∧ Own w.heap.size w'.heap.size w' r zs ∧ Below w.heap.size w w' := by
  obtain ⟨i0, hi, hz0, hz1, hz2⟩ := info_parts Row.info_e
  have hn10 := ok_len hok
  have HOK := hide hok
  obtain ⟨cs, hcs, hL, hE⟩ := h
  have HE := hide hE
  obtain ⟨-, a, cap, rfl, hc, hmx, -, hr⟩ := hL
  unfold maxLen at hmx
  obtain ⟨l, hl⟩ : ∃ l, l = zs.length := ⟨_, rfl⟩
  rw [← hl] at hc hr hcs hn10 ⊢
  have HN := hide hl
  have HC := hide hcs
  clear hl hE hcs hok
  go_enter Tryz.func83, Tryz.ntmps83
  go_wp2_with fail
  go_loopw [3, 8] (fun pv i wr => ∃ (k : Nat) (pa : Option Addr) (pc : Nat), k ≤ l ∧ i = .int .i64 k ∧ pv = .slice pa k pc ∧ Hid (Own w.heap.size wr.heap.size wr pv (zs.take k)) ∧ Below w.heap.size w wr) (fun _ i _ => l - (intOf i).toNat)
  case atStart => exact ⟨0, none, 0, Nat.zero_le _, rfl, rfl, hide (own_nil w.heap.size w), Below.refl _ _⟩
  case round =>
    obtain ⟨k, pa, pc, hk, rfl, rfl, HO, hbel⟩ := hrel
    have hsz := hbel.size
    have hk0 : (0 : Int) ≤ (k : Int) := Int.natCast_nonneg _
    by_cases hlt : k < l
    · obtain ⟨b, off, rfl, hbl, hcells⟩ := hr (by omega)
      have fa := flat_at cs k (by have := unhide HC; omega)
      have hc0 : wr.cell? ⟨b, off + k * 2, none⟩ = some (cat cs k).1 := (hbel.cell (p := ⟨b, _, none⟩) hbl).trans (hcells (k * 2) _ fa.1)
      have hc1 : wr.cell? ⟨b, off + k * 2 + 1, none⟩ = some (cat cs k).2 := (hbel.cell (p := ⟨b, _, none⟩) hbl).trans (hcells (k * 2 + 1) _ fa.2)
      have hkz : k < zs.length := by have := unhide HN; omega
      have hEk := unhide HE k hkz
      have hst := step_is (ok_at (unhide HOK) hkz)
      have hsn : zs.take (k + 1) = zs.take k ++ [at' zs k] := by rw [List.take_succ_eq_append_getElem hkz, at_get zs k hkz]
      have htl : (zs.take k).length = k := by rw [List.length_take]; omega
      obtain ⟨⟨ls, xs⟩, hX⟩ : ∃ x, x = at' zs k := ⟨_, rfl⟩
      rw [← hX] at hEk hst hsn
      simp only at hst
      obtain ⟨c0, c1, hY⟩ : ∃ c0 c1, (c0, c1) = cat cs k := ⟨_, _, rfl⟩
      rw [← hY] at hc0 hc1 hEk
      have hE1 : Lab.Is w c0 ls := hEk.1
      have hE2 : Sam.Is w c1 xs := hEk.2
      obtain ⟨-, a0, q0, e0, -⟩ := hE1
      obtain ⟨-, a1, q1, e1, -⟩ := hE2
      have hE1 : Lab.Is w c0 ls := hEk.1
      have hE2 : Sam.Is w c1 xs := hEk.2
      clear fa hEk hX hY
      have hxne : xs ≠ [] := fun e => by rw [e] at hst; simp at hst
      have hk1 : (k : Int) < (l : Int) := by omega
      have hmx1 : 1 ≤ maxLen := by unfold maxLen; omega
      have HCl := hide (fun W (hb : Below w.heap.size w W) => Lab.copy_any (hE1.below hb) (Lab.ok_small hst.1))
      have HCs := hide (fun W (hb : Below w.heap.size w W) => clone_any (hE2.below hb) hxne (by omega))
      obtain ⟨ll, hll⟩ : ∃ ll, ll = ls.length := ⟨_, rfl⟩
      obtain ⟨m, hm⟩ : ∃ m, m = xs.length := ⟨_, rfl⟩
      rw [← hll] at e0 HCl
      rw [← hm] at e1 HCs
      have HLL := hide hll
      have HM := hide hm
      have HSn := hide hsn
      have HTl := hide htl
      clear hll hm hE1 hE2 hst hxne hsn htl
      subst e0 e1
      obtain ⟨ds, g1, g2, g3, g4, g5, g6, g7⟩ := unhide HO
      rw [unhide HTl] at g2
      obtain ⟨W, hW⟩ : ∃ W, W = wr.alloc (.cells #[.slice a0 ll q0, .slice a1 m q1] 93) := ⟨_, rfl⟩
      have bW : Below wr.heap.size wr W := by rw [hW]; exact (Below.refl _ _).alloc (Nat.le_refl _) _
      have zW : wr.heap.size < W.heap.size := by rw [hW]; simp
      have S6 : (fun w' : World => w'.cell? ⟨wr.heap.size, 0, none⟩ = some (.slice a0 ll q0) ∧ w'.cell? ⟨wr.heap.size, 1, none⟩ = some (.slice a1 m q1)) W.drew := by rw [hW]; exact ⟨by simp, by simp⟩
      have bWd : Below wr.heap.size wr W.drew := bW.drew
      have oW : W.drew.ownsRow w.heap.size 93 2 (.slice pa k pc) k (flatOf cl ds) := World.ownsRow.drew (own_below g2 bW)
      have hbW : Below w.heap.size w W.drew := hbel.trans (bWd.mono hsz)
      have hob := fun e => Nat.lt_irrefl _ (own_block_lt g2 wr.heap.size (Eq.symm e))
      have HO1 := hide (And.intro g1 (And.intro g5 (And.intro g6 g7)))
      have HCl6 := hide (unhide HCl W.drew hbW)
      clear bW HO g1 g3 g4 g5 g6 g7 HCl
      go_wp2_with fail
      rw [← hW]
      clear hW
      go_region_held3 (fun w' => w'.cell? ⟨wr.heap.size, 0, none⟩ = some (.slice a0 ll q0) ∧ w'.cell? ⟨wr.heap.size, 1, none⟩ = some (.slice a1 m q1)) (first | exact S6 | exact S7 | exact S8 | exact S9 _ | exact S10) ((first | (go_at_call 121; refine (unhide HCl6).mono ?_; rintro e w7 ⟨vl, rfl, ol, b7⟩; obtain ⟨la, lq, rfl⟩ : ∃ a q, vl = .slice a ll q := (by obtain ⟨-, a, q, e, -⟩ := lies_of_own ol; exact ⟨a, q, e⟩); have z7 := b7.size; simp only [World.size_drew] at z7; have hb7 : Below w.heap.size w w7 := hbW.trans (b7.mono hbW.size); have S7 : (fun w' : World => w'.cell? ⟨wr.heap.size, 0, none⟩ = some (.slice a0 ll q0) ∧ w'.cell? ⟨wr.heap.size, 1, none⟩ = some (.slice a1 m q1)) w7 := ⟨(b7.cell (p := ⟨_, _, none⟩) (by first | (simp; done) | (simp; omega) | omega)).trans S6.1, (b7.cell (p := ⟨_, _, none⟩) (by first | (simp; done) | (simp; omega) | omega)).trans S6.2⟩) | (go_at_call 122; refine (unhide HCs w7 hb7).mono ?_; rintro e w8 ⟨vs, rfl, oS, b8⟩; obtain ⟨sa, sq, rfl⟩ : ∃ a q, vs = .slice a m q := (by obtain ⟨-, a, q, e, -⟩ := lies_of_own oS; exact ⟨a, q, e⟩); have z8 := b8.size; have S8 : (fun w' : World => w'.cell? ⟨wr.heap.size, 0, none⟩ = some (.slice a0 ll q0) ∧ w'.cell? ⟨wr.heap.size, 1, none⟩ = some (.slice a1 m q1)) w8 := ⟨(b8.cell (p := ⟨_, _, none⟩) (by first | (simp; done) | (simp; omega) | omega)).trans S7.1, (b8.cell (p := ⟨_, _, none⟩) (by first | (simp; done) | (simp; omega) | omega)).trans S7.2⟩; have S9 : ∀ o, (fun w' : World => w'.cell? ⟨wr.heap.size, 0, none⟩ = some (.slice a0 ll q0) ∧ w'.cell? ⟨wr.heap.size, 1, none⟩ = some (.slice a1 m q1)) (w8.alloc o) := fun o => ⟨(((Below.refl _ _).alloc (Nat.le_refl _) _).cell (p := ⟨_, _, none⟩) (by first | (simp; done) | (simp; omega) | omega)).trans S8.1, (((Below.refl _ _).alloc (Nat.le_refl _) _).cell (p := ⟨_, _, none⟩) (by first | (simp; done) | (simp; omega) | omega)).trans S8.2⟩) | (refine app_step _ (by rfl) _ _ _ (by rfl) w.heap.size 93 i0 _ 2 48 Tryz.underlying28 hi hz0 hz1 hz2 rfl (by omega) _ k _ (by rfl) (World.ownsRow.alloc (own_below (own_below oW b7) b8) _) _ 1 [.slice la ll lq, .slice sa m sq] (by rfl) (lies_new (w := w8) (by simp) rfl hmx1) (by simp [Value.oneCell']) (by unfold maxLen; omega) (by omega) (by simp <;> omega) ?_; intro vn wn on gn an; have S10 : (fun w' : World => w'.cell? ⟨wr.heap.size, 0, none⟩ = some (.slice a0 ll q0) ∧ w'.cell? ⟨wr.heap.size, 1, none⟩ = some (.slice a1 m q1)) wn := ⟨by rw [gn.cell_far _ (by simp <;> omega) hob]; exact (S9 _).1, by rw [gn.cell_far _ (by simp <;> omega) hob]; exact (S9 _).2⟩)))
      have hb8 : Below w.heap.size w w8 := hb7.trans (b8.mono (by omega))
      have R9 : Below w.heap.size w wn := below_grown (hb8.alloc (by omega) _) (by simp <;> omega) gn (own_ge g2)
      have HO' := hide (show Own w.heap.size wn.heap.size wn vn (zs.take (k + 1)) by
        obtain ⟨g1, g5, g6, g7⟩ := unhide HO1
        rw [unhide HSn]
        have hw := fun {base e size n v} {xs : List Value} (ho : wr.ownsRow base e size v n xs) => World.ownsRow.alloc (own_below (own_below (own_below ho bWd) b7) b8) (.cells #[.slice la ll lq, .slice sa m sq] 93)
        exact own_snoc (w := w8.alloc (.cells #[.slice la ll lq, .slice sa m sq] 93)) (pv := .slice pa k pc) (vl := .slice la ll lq) (xv := .slice sa m sq) g1 (by rw [unhide HTl]; exact hw g2) g5 g6 (fun i hi => ⟨hw (g7 i hi).1.1, hw (g7 i hi).1.2⟩) gn (by rw [unhide HTl]; exact on) (by simp only; rw [← unhide HLL]; exact World.ownsRow.alloc (own_below (own_mono ol (by simp; omega)) b8) _) (by simp only; rw [← unhide HM]; exact World.ownsRow.alloc (own_mono oS (by omega)) _) (fun i hi k hk hk' => by have h1 := own_block_lt (g7 i hi).1.1 k hk; have h2 := own_ge ol k hk'; simp at h2; omega) (fun i hi k hk hk' => by have h1 := own_block_lt (g7 i hi).1.2 k hk; have h2 := own_ge oS k hk'; omega))
      obtain ⟨an', cn, hvn⟩ : ∃ a c, vn = .slice a (k + 1) c := by obtain ⟨-, a, c, e, -⟩ := lies_of_own on; exact ⟨a, c, e⟩
      have HV := hide hvn
      clear on gn an hvn hob S6 S7 S8 S9 S10 oW hbW b7 b8 hb8 hb7 ol oS g2 bWd HO1 HCs HCl6
      go_wp2_with fail
      go_roundw
      case rel => exact ⟨k + 1, an', cn, by omega, by go_num, unhide HV, HO', R9⟩
      case measure => simp [intOf]; omega
    · obtain rfl : k = l := by omega
      have HO' := hide (show Own w.heap.size wr.heap.size wr (.slice pa k pc) zs by have := unhide HO; rwa [List.take_of_length_le (by have := unhide HN; omega)] at this)
      clear HO
      go_wp2
      go_ret
      exact ⟨_, rfl, unhide HO', hbel⟩
end Go.Proofs.YtlboekimnhgfdaaGreat.Row

/- A copy of rows that are ok: the model's l5Copy. -/
namespace Go.Proofs.YtlboekimnhgfdaaGreat.Row
open Go.RowKit Rw
set_option linter.unusedVariables false
attribute [local go_sem ↓] Go.wp_at_zero Go.wp_at_succ
set_option maxRecDepth 100000 in
set_option maxHeartbeats 8000000 in
theorem l5copy_any {w : World} {v : Value} {zs : List E} (h : Is w v zs) (hs : zs.length ≤ 11 ∧ ∀ x ∈ zs, x.1.length ≤ 1000 ∧ x.2.length ≤ 1000) : Calls Tryz.prog 103 #[v] w fun e w' => ∃ r, e = .returned r ∧ Own w.heap.size w'.heap.size w' r zs ∧ Below w.heap.size w w' := by
  obtain ⟨i0, hi, hz0, hz1, hz2⟩ := info_parts Row.info_e
  obtain ⟨i1, hi1, hy0, hy1, hy2⟩ := info_parts Lab.info_e
  obtain ⟨i2, hi2, hx0, hx1, hx2⟩ := info_parts Sam.info_e
  have hn10 := hs.1
  have HOK := hide hs.2
  obtain ⟨cs, hcs, hL, hE⟩ := h
  have HE := hide hE
  obtain ⟨-, a, cap, rfl, hc, hmx, -, hr⟩ := hL
  unfold maxLen at hmx
  obtain ⟨l, hl⟩ : ∃ l, l = zs.length := ⟨_, rfl⟩
  rw [← hl] at hc hr hcs hn10 ⊢
  have HN := hide hl
  have HC := hide hcs
  clear hl hE hcs hs
  have HI0 := hide (show Own w.heap.size (w.alloc (.cells #[] 93)).heap.size (w.alloc (.cells #[] 93)) (.slice (some ⟨w.heap.size, 0, none⟩) 0 0) (zs.take 0) from ⟨[], rfl, Str.own_empty' (Nat.le_refl _) rfl, own_block_lt (Str.own_empty' (base := w.heap.size) (e := 93) (size := 2) (Nat.le_refl _) rfl), Nat.le_refl _, fun i j _ h => absurd h (Nat.not_lt_zero _), fun i j _ h => absurd h (Nat.not_lt_zero _), fun i h => absurd h (Nat.not_lt_zero _)⟩)
  have B0 : Below w.heap.size w (w.alloc (.cells #[] 93)) := (Below.refl _ _).alloc (Nat.le_refl _) _
  go_enter Tryz.func103, Tryz.ntmps103
  go_wp2_with fail
  go_loopw [3, 4] (fun pv i wr => ∃ (k : Nat) (pa : Option Addr) (pc : Nat), k ≤ l ∧ i = .int .i64 k ∧ pv = .slice pa k pc ∧ Hid (Own w.heap.size wr.heap.size wr pv (zs.take k)) ∧ Below w.heap.size w wr) (fun _ i _ => l - (intOf i).toNat)
  case atStart => exact ⟨0, _, 0, Nat.zero_le _, rfl, rfl, HI0, B0⟩
  case round =>
    clear HI0 B0
    obtain ⟨k, pa, pc, hk, rfl, rfl, HO, hbel⟩ := hrel
    have hsz := hbel.size
    have hk0 : (0 : Int) ≤ (k : Int) := Int.natCast_nonneg _
    by_cases hlt : k < l
    · obtain ⟨b, off, rfl, hbl, hcells⟩ := hr (by omega)
      have fa := flat_at cs k (by have := unhide HC; omega)
      have hc0 : wr.cell? ⟨b, off + k * 2, none⟩ = some (cat cs k).1 := (hbel.cell (p := ⟨b, _, none⟩) hbl).trans (hcells (k * 2) _ fa.1)
      have hc1 : wr.cell? ⟨b, off + k * 2 + 1, none⟩ = some (cat cs k).2 := (hbel.cell (p := ⟨b, _, none⟩) hbl).trans (hcells (k * 2 + 1) _ fa.2)
      have hkz : k < zs.length := by have := unhide HN; omega
      have hEk := unhide HE k hkz
      have hst := unhide HOK (at' zs k) (at_mem zs k hkz)
      have hsn : zs.take (k + 1) = zs.take k ++ [at' zs k] := by rw [List.take_succ_eq_append_getElem hkz, at_get zs k hkz]
      have htl : (zs.take k).length = k := by rw [List.length_take]; omega
      obtain ⟨⟨ls, xs⟩, hX⟩ : ∃ x, x = at' zs k := ⟨_, rfl⟩
      rw [← hX] at hEk hst hsn
      simp only at hst
      obtain ⟨c0, c1, hY⟩ : ∃ c0 c1, (c0, c1) = cat cs k := ⟨_, _, rfl⟩
      rw [← hY] at hc0 hc1 hEk
      have hE1 : Lab.Is w c0 ls := hEk.1
      have hE2 : Sam.Is w c1 xs := hEk.2
      obtain ⟨-, a0, q0, e0, -⟩ := hE1
      obtain ⟨-, a1, q1, e1, -⟩ := hE2
      have hE1 : Lab.Is w c0 ls := hEk.1
      have hE2 : Sam.Is w c1 xs := hEk.2
      clear fa hEk hX hY
      have hk1 : (k : Int) < (l : Int) := by omega
      have hmx1 : 1 ≤ maxLen := by unfold maxLen; omega
      have hsm := hst.1
      have hx1000 := hst.2
      obtain ⟨ll, hll⟩ : ∃ ll, ll = ls.length := ⟨_, rfl⟩
      obtain ⟨m, hm⟩ : ∃ m, m = xs.length := ⟨_, rfl⟩
      rw [← hll] at e0 hsm
      rw [← hm] at e1 hx1000
      have HL1 := hide (fun W (hb : Below w.heap.size w W) => show Lies W c0 ll 2 (Lab.flat ls) by rw [hll]; exact hE1.below hb)
      have HL2 := hide (fun W (hb : Below w.heap.size w W) => show Lies W c1 m 2 (Sam.flat xs) by rw [hm]; exact hE2.below hb)
      have HLL := hide hll
      have HM := hide hm
      have HSn := hide hsn
      have HTl := hide htl
      clear hll hm hE1 hE2 hst hsn htl
      subst e0 e1
      obtain ⟨ds, g1, g2, g3, g4, g5, g6, g7⟩ := unhide HO
      rw [unhide HTl] at g2
      have hb0 : b < wr.heap.size := by omega
      have hb0a : b < wr.heap.size + 1 := by omega
      have hb0b : b < wr.heap.size + 1 + 1 := by omega
      have hbn : ¬ b = wr.heap.size := by omega
      have hbn2 : ¬ b = wr.heap.size + 1 := by omega
      have be1 : Below wr.heap.size wr (wr.alloc (.cells #[] 64)).drew := ((Below.refl _ _).alloc (Nat.le_refl _) _).drew
      have be2 : Below wr.heap.size wr ((wr.alloc (.cells #[] 64)).alloc (.cells #[] 106)).drew := (((Below.refl _ _).alloc (Nat.le_refl _) _).alloc (by simp) _).drew
      have be3 : Below wr.heap.size wr ((wr.alloc (.cells #[] 106)).alloc (.cells #[] 64)).drew := (((Below.refl _ _).alloc (Nat.le_refl _) _).alloc (by simp) _).drew
      have oe1 : World.ownsRow (wr.alloc (.cells #[] 64)).drew wr.heap.size 64 2 (.slice (some ⟨wr.heap.size, 0, none⟩) 0 0) 0 [] := World.ownsRow.drew (own_empty (Nat.le_refl _))
      have oe2 : World.ownsRow ((wr.alloc (.cells #[] 64)).alloc (.cells #[] 106)).drew wr.heap.size 64 2 (.slice (some ⟨wr.heap.size, 0, none⟩) 0 0) 0 [] := World.ownsRow.drew (World.ownsRow.alloc (own_empty (Nat.le_refl _)) _)
      have oe3 : World.ownsRow ((wr.alloc (.cells #[] 106)).alloc (.cells #[] 64)).drew wr.heap.size 64 2 (.slice (some ⟨wr.heap.size + 1, 0, none⟩) 0 0) 0 [] := World.ownsRow.drew (Str.own_empty' (w := wr.alloc (.cells #[] 106)) (by simp) (by simp))
      have os2 : World.ownsRow ((wr.alloc (.cells #[] 64)).alloc (.cells #[] 106)).drew wr.heap.size 106 2 (.slice (some ⟨wr.heap.size + 1, 0, none⟩) 0 0) 0 [] := World.ownsRow.drew (Str.own_empty' (w := wr.alloc (.cells #[] 64)) (by simp) (by simp))
      have os3 : World.ownsRow ((wr.alloc (.cells #[] 106)).alloc (.cells #[] 64)).drew wr.heap.size 106 2 (.slice (some ⟨wr.heap.size, 0, none⟩) 0 0) 0 [] := World.ownsRow.drew (World.ownsRow.alloc (own_empty (Nat.le_refl _)) _)
      have le1 := unhide HL1 _ (hbel.trans (be1.mono hsz))
      have le2 := unhide HL1 _ (hbel.trans (be2.mono hsz))
      have le3 := unhide HL1 _ (hbel.trans (be3.mono hsz))
      have HO1 := hide (And.intro g1 (And.intro g5 (And.intro g6 g7)))
      clear HO g1 g3 g4 g5 g6 g7
      go_wp2_with fail
      go_region_law ((first | (refine app_step _ (by rfl) (.tmp 13) (.tmp 18) _ (by rfl) wr.heap.size 64 i1 _ 2 32 Tryz.underlying60 hi1 hy0 hy1 hy2 rfl (by omega) _ 0 [] (by rfl) (by first | exact oe1 | exact oe2 | exact oe3) _ ll (Lab.flat ls) (by rfl) (by first | exact le1 | exact le2 | exact le3) (Lab.flat_oneCell _) (by unfold maxLen; omega) (by omega) (by simp <;> omega) ?_; intro vl w7 ol gl al; rw [Nat.zero_add, List.nil_append] at ol; have b7 : Below wr.heap.size wr w7 := (by first | exact below_grown be1 (by simp) gl (own_ge oe1) | exact below_grown be2 (by simp <;> omega) gl (own_ge oe2) | exact below_grown be3 (by simp <;> omega) gl (own_ge oe3)); obtain ⟨la, lq, rfl⟩ : ∃ a q, vl = .slice a ll q := (by obtain ⟨-, a, q, e, -⟩ := lies_of_own ol; exact ⟨a, q, e⟩); have z7 := b7.size; have hb7 : Below w.heap.size w w7 := hbel.trans (b7.mono hsz); have c7a : w7.cell? ⟨b, off + k * 2 + 1, none⟩ = some (.slice a1 m q1) := (b7.cell (p := ⟨b, _, none⟩) hb0).trans hc1; have hb77 : b < w7.heap.size := (by omega); have hb7n : ¬ b = w7.heap.size := (by omega); have os1 : (w7.alloc (.cells #[] 106)).ownsRow wr.heap.size 106 2 (.slice (some ⟨w7.heap.size, 0, none⟩) 0 0) 0 [] := own_empty z7; have bs1 : Below w7.heap.size w7 (w7.alloc (.cells #[] 106)) := (Below.refl _ _).alloc (Nat.le_refl _) _; have lx1 := unhide HL2 _ (hb7.trans (bs1.mono (by omega))); have lx2 := unhide HL2 _ hb7) | (refine app_step _ (by rfl) (.tmp 20) (.tmp 25) _ (by rfl) wr.heap.size 106 i2 _ 2 16 Tryz.underlying91 hi2 hx0 hx1 hx2 rfl (by omega) _ 0 [] (by rfl) (by first | exact os1 | exact own_grown gl os2 (own_ne_type os2 oe2 (by decide)) | exact own_grown gl os3 (own_ne_type os3 oe3 (by decide))) _ m (Sam.flat xs) (by rfl) (by first | exact lx1 | exact lx2) (Sam.flat_oneCell _) (by unfold maxLen; omega) (by omega) (by first | omega | (simp; done) | (simp; omega)) ?_; intro vs w8 oS gS aS; rw [Nat.zero_add, List.nil_append] at oS; have b8 : Below wr.heap.size wr w8 := (by first | exact below_grown (b7.trans (bs1.mono z7)) (by simp <;> omega) gS (own_ge os1) | exact below_grown b7 z7 gS (own_ge os2) | exact below_grown b7 z7 gS (own_ge os3)); have ol8 : w8.ownsRow wr.heap.size 64 2 (.slice la ll lq) ll (Lab.flat ls) := (by first | exact own_grown gS (own_below ol bs1) (own_ne_type (own_below ol bs1) os1 (by decide)) | exact own_grown gS ol (own_ne_type ol (own_grown gl os2 (own_ne_type os2 oe2 (by decide))) (by decide)) | exact own_grown gS ol (own_ne_type ol (own_grown gl os3 (own_ne_type os3 oe3 (by decide))) (by decide))); obtain ⟨sa, sq, rfl⟩ : ∃ a q, vs = .slice a m q := (by obtain ⟨-, a, q, e, -⟩ := lies_of_own oS; exact ⟨a, q, e⟩); have z8 := b8.size) | (refine app_step _ (by rfl) (.tmp 12) (.tmp 28) _ (by rfl) w.heap.size 93 i0 _ 2 48 Tryz.underlying28 hi hz0 hz1 hz2 rfl (by omega) _ k _ (by rfl) (World.ownsRow.alloc (own_below g2 b8) _) _ 1 [.slice la ll lq, .slice sa m sq] (by rfl) (lies_new (w := w8) (by simp) rfl hmx1) (by simp [Value.oneCell']) (by unfold maxLen; omega) (by omega) (by simp <;> omega) ?_; intro vn wn on gn an)))
      all_goals
        have hb8 : Below w.heap.size w w8 := hbel.trans (b8.mono hsz)
        have R9 : Below w.heap.size w wn := below_grown (hb8.alloc (by omega) _) (by simp <;> omega) gn (own_ge g2)
        have HO' := hide (show Own w.heap.size wn.heap.size wn vn (zs.take (k + 1)) by
          obtain ⟨g1, g5, g6, g7⟩ := unhide HO1
          rw [unhide HSn]
          have hw := fun {base e size n v} {xs : List Value} (ho : wr.ownsRow base e size v n xs) => World.ownsRow.alloc (own_below ho b8) (.cells #[.slice la ll lq, .slice sa m sq] 93)
          exact own_snoc (w := w8.alloc (.cells #[.slice la ll lq, .slice sa m sq] 93)) (pv := .slice pa k pc) (vl := .slice la ll lq) (xv := .slice sa m sq) g1 (by rw [unhide HTl]; exact hw g2) g5 g6 (fun i hi => ⟨hw (g7 i hi).1.1, hw (g7 i hi).1.2⟩) gn (by rw [unhide HTl]; exact on) (by simp only; rw [← unhide HLL]; exact World.ownsRow.alloc (own_mono ol8 (by omega)) _) (by simp only; rw [← unhide HM]; exact World.ownsRow.alloc (own_mono oS (by omega)) _) (fun i hi k hk hk' => by have h1 := own_block_lt (g7 i hi).1.1 k hk; have h2 := own_ge ol8 k hk'; omega) (fun i hi k hk hk' => by have h1 := own_block_lt (g7 i hi).1.2 k hk; have h2 := own_ge oS k hk'; omega))
        obtain ⟨an', cn, hvn⟩ : ∃ a c, vn = .slice a (k + 1) c := by obtain ⟨-, a, c, e, -⟩ := lies_of_own on; exact ⟨a, c, e⟩
        have HV := hide hvn
        clear on gn an hvn ol oS ol8 g2 HO1 oe1 oe2 oe3 os1 os2 os3 le1 le2 le3 lx1 lx2 be1 be2 be3 bs1 gl gS al aS b7 b8 hb7 hb8
        go_wp2_with fail
        go_roundw
        case rel => exact ⟨k + 1, an', cn, by omega, by go_num, unhide HV, HO', R9⟩
        case measure => simp [intOf]; omega
    · obtain rfl : k = l := by omega
      have HO' := hide (show Own w.heap.size wr.heap.size wr (.slice pa k pc) zs by have := unhide HO; rwa [List.take_of_length_le (by have := unhide HN; omega)] at this)
      clear HO
      go_wp2
      go_ret
      exact ⟨_, rfl, unhide HO', hbel⟩
theorem l5copy {w : World} {v : Value} {zs : List E} (h : Is w v zs) (hok : ok zs = true) : Calls Tryz.prog 103 #[v] w fun e w' => ∃ r, e = .returned r ∧ Own w.heap.size w'.heap.size w' r zs ∧ Below w.heap.size w w' := by
  refine l5copy_any h ⟨by have := ok_len hok; omega, fun x hx => ?_⟩
  obtain ⟨i, hi, rfl⟩ := List.getElem_of_mem hx
  have hst := step_is (ok_at hok hi)
  rw [at_get zs i hi] at hst
  exact ⟨by have := (Lab.ok_small hst.1).1; omega, hst.2.2.1⟩
end Go.Proofs.YtlboekimnhgfdaaGreat.Row

/- Where labels come among rows: the model's l5At. -/
namespace Go.Proofs.YtlboekimnhgfdaaGreat.Row
open Go.RowKit Rw
set_option linter.unusedVariables false
attribute [local go_sem ↓] Go.wp_at_zero Go.wp_at_succ
/-- the first place whose labels do not stand ahead -/
def place : List E → List Lab.E → Nat
  | [], _ => 0
  | y :: L, ls => if Lab.cmpL y.1 ls < 0 then place L ls + 1 else 0
def there (L : List E) (ls : List Lab.E) : Bool := decide (place L ls < L.length) && decide (Lab.cmpL (at' L (place L ls)).1 ls = 0)
theorem place_le : ∀ (L : List E) (ls : List Lab.E), place L ls ≤ L.length
  | [], _ => Nat.le_refl _
  | y :: L, ls => by
    rw [place]
    split
    · have := place_le L ls; simp only [List.length_cons]; omega
    · exact Nat.zero_le _
theorem place_lt : ∀ (L : List E) (ls : List Lab.E) (i : Nat), i < place L ls → Lab.cmpL (at' L i).1 ls < 0
  | [], _, i, h => by simp [place] at h
  | y :: L, ls, i, h => by
    rw [place] at h
    split at h
    · rename_i hc
      cases i with
      | zero => exact hc
      | succ i => exact place_lt L ls i (by omega)
    · omega
theorem place_stop : ∀ (L : List E) (ls : List Lab.E), place L ls = L.length ∨ ¬ Lab.cmpL (at' L (place L ls)).1 ls < 0
  | [], _ => .inl rfl
  | y :: L, ls => by
    rw [place]
    split
    · rcases place_stop L ls with h | h
      · left; simp only [List.length_cons]; omega
      · right; exact h
    · rename_i hc; right; exact hc
theorem place_is {L : List E} {ls : List Lab.E} {k : Nat} (hk : k ≤ L.length) (h1 : ∀ i, i < k → Lab.cmpL (at' L i).1 ls < 0) (h2 : k = L.length ∨ ¬ Lab.cmpL (at' L k).1 ls < 0) : place L ls = k := by
  rcases Nat.lt_trichotomy (place L ls) k with h | h | h
  · rcases place_stop L ls with e | e
    · omega
    · exact absurd (h1 _ h) e
  · exact h
  · rcases h2 with e | e
    · have := place_le L ls; omega
    · exact absurd (place_lt L ls k h) e
theorem ins_place (L : List E) (x : E) : ins L x = if there L x.1 = true then (jn (at' L (place L x.1)) x.2).map (fun y => L.take (place L x.1) ++ y :: L.drop (place L x.1 + 1)) else some (L.take (place L x.1) ++ x :: L.drop (place L x.1)) := by
  rw [ins_at (place L x.1) (place_le _ _) (place_lt _ _) (place_stop _ _)]
  unfold there
  simp only [Bool.and_eq_true, decide_eq_true_eq]
set_option maxRecDepth 100000 in
set_option maxHeartbeats 4000000 in
theorem l5at {w : World} {v u : Value} {zs : List E} {ls : List Lab.E} (h : Is w v zs) (h' : Lab.Is w u ls) (hlen : zs.length ≤ 1000) :
    Calls Tryz.prog 145 #[v, u] w fun e w' => e = .returned (.tuple #[.int .i64 (place zs ls : Int), .bool (there zs ls)]) ∧ Below w.heap.size w w' := by
  obtain ⟨cs, hcs, hL, hE⟩ := h
  have HE := hide hE
  have HU := hide h'
  obtain ⟨-, au, qu, eu, -⟩ := h'
  obtain ⟨-, a, cap, rfl, hc, hmx, -, hr⟩ := hL
  unfold maxLen at hmx
  obtain ⟨l, hl⟩ : ∃ l, l = zs.length := ⟨_, rfl⟩
  rw [← hl] at hc hr hcs hlen ⊢
  have HN := hide hl
  have HC := hide hcs
  clear hl hE hcs
  go_enter Tryz.func145, Tryz.ntmps145
  go_wp2_with fail
  go_loopw [6] (fun i wr => ∃ k : Nat, k ≤ l ∧ i = .int .i64 k ∧ Hid (∀ i, i < k → Lab.cmpL (at' zs i).1 ls < 0) ∧ Below w.heap.size w wr) (fun i _ => l - (intOf i).toNat)
  case atStart => exact ⟨0, Nat.zero_le _, rfl, fun i h => absurd h (Nat.not_lt_zero _), Below.refl _ _⟩
  case round =>
    obtain ⟨k, hk, rfl, HP, hbel⟩ := hrel
    have hsz := hbel.size
    have hk0 : (0 : Int) ≤ (k : Int) := Int.natCast_nonneg _
    by_cases hlt : k < l
    · obtain ⟨b, off, rfl, hbl, hcells⟩ := hr (by omega)
      have fa := flat_at cs k (by have := unhide HC; omega)
      have hkz : k < zs.length := by have := unhide HN; omega
      have hEk := unhide HE k hkz
      have hc0 : wr.cell? ⟨b, off + k * 2, none⟩ = some (cat cs k).1 := (hbel.cell (p := ⟨b, _, none⟩) hbl).trans (hcells (k * 2) _ fa.1)
      obtain ⟨c0, hY⟩ : ∃ c0, c0 = (cat cs k).1 := ⟨_, rfl⟩
      rw [← hY] at hc0
      have hE1 : Lab.Is w c0 (at' zs k).1 := by rw [hY]; exact hEk.1
      have HCm := hide (fun W (hb : Below w.heap.size w W) => Lab.l3Cmp_any (hE1.below hb) ((unhide HU).below hb))
      obtain ⟨-, a0, q0, e0, -⟩ := hE1
      generalize (at' zs k).1.length = ll at e0
      have hrng := Lab.cmpL_range (at' zs k).1 ls
      have HNext := hide (fun (h : Lab.cmpL (at' zs k).1 ls < 0) => show ∀ i, i < k + 1 → Lab.cmpL (at' zs i).1 ls < 0 from fun i hi => by rcases Nat.lt_or_eq_of_le (Nat.le_of_lt_succ hi) with h' | h'; exact unhide HP i h'; rw [h']; exact h)
      have HStop := hide (fun (h : ¬ Lab.cmpL (at' zs k).1 ls < 0) => show place zs ls = k ∧ there zs ls = decide (Lab.cmpL (at' zs k).1 ls = 0) from by
        have e := place_is (by omega) (unhide HP) (.inr h)
        refine ⟨e, ?_⟩
        unfold there
        rw [e, decide_eq_true hkz, Bool.true_and])
      obtain ⟨C, hC⟩ : ∃ C, C = Lab.cmpL (at' zs k).1 ls := ⟨_, rfl⟩
      rw [← hC] at HCm HNext HStop hrng
      clear fa hEk hY hC
      subst e0 eu
      have hk1 : (k : Int) < (l : Int) := by omega
      go_wp2_with fail
      refine (unhide HCm wr hbel).mono ?_
      rintro e w1 ⟨rfl, b1⟩
      have R1 := hbel.trans (b1.mono hsz)
      by_cases hneg : C < 0
      · have HNx := hide (unhide HNext hneg)
        clear HNext HStop HCm hc0
        go_wp2_with fail
        go_roundw
        case rel => exact ⟨k + 1, by omega, by go_num, HNx, R1⟩
        case measure => simp [intOf]; omega
      · have HSt := hide (unhide HStop (by omega))
        have hc1 : w1.cell? ⟨b, off + k * 2, none⟩ = some (.slice a0 ll q0) := (b1.cell (p := ⟨b, _, none⟩) (by show b < _; omega)).trans hc0
        clear HNext HStop hc0
        go_wp2_with fail
        refine (unhide HCm w1 R1).mono ?_
        rintro e w2 ⟨rfl, b2⟩
        have R2 := R1.trans (b2.mono R1.size)
        clear HCm hc1
        go_wp2_with fail
        go_ret2
        exact ⟨by rw [(unhide HSt).1, (unhide HSt).2]; rfl, R2⟩
    · obtain rfl : k = l := by omega
      have HSt := hide (show place zs ls = k ∧ there zs ls = false by
        have e := place_is (L := zs) (ls := ls) (k := k) (by have := unhide HN; omega) (unhide HP) (.inl (unhide HN))
        refine ⟨e, ?_⟩
        unfold there
        rw [e, decide_eq_false (by have := unhide HN; omega), Bool.false_and])
      have hd : decide (k < k) = false := by simp
      go_wp2_with fail
      go_ret2
      exact ⟨by rw [(unhide HSt).1, (unhide HSt).2]; rfl, hbel⟩
end Go.Proofs.YtlboekimnhgfdaaGreat.Row

/- What the laws' own helpers do to mark rows, and to see that the marks are held. -/
namespace Go.Proofs.YtlboekimnhgfdaaGreat.Row
open Go.RowKit Rw
set_option linter.unusedVariables false
attribute [local go_sem ↓] Go.wp_at_zero Go.wp_at_succ
def cntE (x : E) : Nat := 2 * x.1.length + 2 * x.2.length
def cntTo (zs : List E) (i : Nat) : Nat := ((zs.take i).map cntE).sum
def cnt (zs : List E) : Nat := cntTo zs zs.length
theorem cntTo_succ (zs : List E) (j : Nat) (h : j < zs.length) : cntTo zs (j + 1) = cntTo zs j + cntE (at' zs j) := by
  unfold cntTo
  rw [List.take_succ_eq_append_getElem h, List.map_append, List.sum_append, at_get zs j h]
  simp
theorem cntTo_mono (zs : List E) : ∀ (i j : Nat), i ≤ j → j ≤ zs.length → cntTo zs i ≤ cntTo zs j
  | i, 0, h, _ => by obtain rfl : i = 0 := by omega
                     exact Nat.le_refl _
  | i, j + 1, h, hl => by
    by_cases e : i = j + 1
    · subst e; exact Nat.le_refl _
    · have h1 := cntTo_mono zs i j (by omega) (by omega)
      rw [cntTo_succ zs j (by omega)]
      omega
theorem cntTo_le (zs : List E) (j : Nat) (h : j < zs.length) : cntTo zs j + cntE (at' zs j) ≤ cnt zs := by
  rw [← cntTo_succ zs j h]
  exact cntTo_mono zs _ _ (by omega) (Nat.le_refl _)
def mkAt (k0 : Nat) (zs : List E) (i : Nat) : E := (Lab.marks (k0 + cntTo zs i) (at' zs i).1.length, Sam.marks (k0 + cntTo zs i + 2 * (at' zs i).1.length) (at' zs i).2.length)
def mk (k0 : Nat) (zs : List E) : List E := (List.range zs.length).map (mkAt k0 zs)
theorem mk_length (k0 : Nat) (zs : List E) : (mk k0 zs).length = zs.length := by simp [mk]
theorem mk_at (k0 : Nat) (zs : List E) (i : Nat) (h : i < zs.length) : at' (mk k0 zs) i = mkAt k0 zs i := by
  rw [at_get _ _ (by rw [mk_length]; exact h)]
  simp [mk]
/-- what row i holds when j rows are marked -/
def cur (k0 : Nat) (zs : List E) (j i : Nat) : E := if i < j then mkAt k0 zs i else at' zs i
set_option maxRecDepth 100000 in
set_option maxHeartbeats 4000000 in
theorem mark_some {lo hi g n cap : Nat} {zs : List E} {w : World} (k0 : Nat) (hk1 : 1 ≤ k0) (hk2 : k0 ≤ 100000000) (hn : zs.length = n) (ht : cnt zs ≤ 2097152) (hnb : n ≤ 2097152) (h : Own lo hi w (.slice (some ⟨g, 0, none⟩) n cap) zs) :
    Calls Tryz.prog 48 #[.slice (some ⟨g, 0, none⟩) n cap, .int .i64 k0] w fun e w' => ∃ k : Nat, e = .returned (.int .i64 k) ∧ k = k0 + cnt zs ∧ Own lo hi w' (.slice (some ⟨g, 0, none⟩) n cap) (mk k0 zs) ∧ Zone lo hi w w' := by
  obtain ⟨cs, h1, h2, h3, h4, h5, h6, h7⟩ := h
  rw [hn] at h1 h2 h5 h6 h7
  have HN := hide hn
  have HI := hide (fun i (hi' : i < n) => (h7 i hi').2)
  have HR := hide (show ∀ i, i < n → w.ownsRow lo 64 2 (cat cs i).1 (cur k0 zs 0 i).1.length (Lab.flat (cur k0 zs 0 i).1) ∧ w.ownsRow lo 106 2 (cat cs i).2 (cur k0 zs 0 i).2.length (Sam.flat (cur k0 zs 0 i).2) from fun i hi' => by rw [show cur k0 zs 0 i = at' zs i from if_neg (by omega)]; exact (h7 i hi').1)
  have HA1 := hide h5
  have HA2 := hide h6
  have HC := hide h1
  have HTT := hide ht
  have H34 := hide (And.intro h3 h4)
  clear h5 h6 h7 h1 hn ht h3 h4
  go_enter Tryz.func48, Tryz.ntmps48
  go_wp2
  go_loopw [1, 5] (fun kv i wr => ∃ (j q : Nat), j ≤ n ∧ i = .int .i64 j ∧ kv = .int .i64 q ∧ Hid (q = k0 + cntTo zs j) ∧ wr.ownsRow lo 93 2 (.slice (some ⟨g, 0, none⟩) n cap) n (flatOf cl cs) ∧ Hid (∀ i, i < n → wr.ownsRow lo 64 2 (cat cs i).1 (cur k0 zs j i).1.length (Lab.flat (cur k0 zs j i).1) ∧ wr.ownsRow lo 106 2 (cat cs i).2 (cur k0 zs j i).2.length (Sam.flat (cur k0 zs j i).2)) ∧ Zone lo hi w wr) (fun _ i _ => n - (intOf i).toNat)
  case atStart => exact ⟨0, k0, Nat.zero_le _, rfl, rfl, hide (by simp [cntTo]), h2, HR, Zone.refl _ _ _⟩
  case round =>
    clear HR h2
    obtain ⟨j, q, hj, rfl, rfl, HQ, ho, HR, hzn⟩ := hrel
    by_cases hlt : j < n
    · have fa := flat_at cs j (by have := unhide HC; omega)
      have hc0 : wr.cell? ⟨g, j * 2, none⟩ = some (cat cs j).1 := by rw [ho.cellAt (j * 2) (by omega)]; exact fa.1
      have hc1 : wr.cell? ⟨g, j * 2 + 1, none⟩ = some (cat cs j).2 := by rw [ho.cellAt (j * 2 + 1) (by omega)]; exact fa.2
      have h0 : (0 : Int) ≤ (j : Int) := Int.natCast_nonneg _
      have h1 : (j : Int) < (n : Int) := by omega
      have hq := unhide HQ
      have hle := cntTo_le zs j (by have := unhide HN; omega)
      unfold cntE at hle
      have hxo := unhide HR j hlt
      rw [show cur k0 zs j j = at' zs j from if_neg (Nat.lt_irrefl _)] at hxo
      have HM := hide (Lab.mark_any q (by omega) (by have := unhide HTT; omega) (by have := unhide HTT; omega) hxo.1 (in_self (cat cs j).1))
      -- behind the labels' marks
      have HR1 := hide (fun (w' : World) (hw : Zone (loOf (cat cs j).1) (hiOf (cat cs j).1) wr w') (hy : w'.ownsRow lo 64 2 (cat cs j).1 (at' zs j).1.length (Lab.flat (Lab.marks q (at' zs j).1.length))) =>
        (show w'.ownsRow lo 93 2 (.slice (some ⟨g, 0, none⟩) n cap) n (flatOf cl cs) ∧ w'.ownsRow lo 106 2 (cat cs j).2 (at' zs j).2.length (Sam.flat (at' zs j).2) ∧ (∀ i, i < n → i ≠ j → w'.ownsRow lo 64 2 (cat cs i).1 (cur k0 zs j i).1.length (Lab.flat (cur k0 zs j i).1) ∧ w'.ownsRow lo 106 2 (cat cs i).2 (cur k0 zs j i).2.length (Sam.flat (cur k0 zs j i).2)) ∧ Zone lo hi w w' from
          ⟨hw.own ho (out_of_ne (own_ne_type hxo.1 ho (by decide))), hw.own hxo.2 (out_of_ne (own_ne_type hxo.1 hxo.2 (by decide))),
           fun i hi' hij => ⟨hw.own (unhide HR i hi').1 (out_of_ne ((unhide HA1).ne (fun e => hij e.symm) hlt hi')), hw.own (unhide HR i hi').2 (out_of_ne (own_ne_type hxo.1 (unhide HR i hi').2 (by decide)))⟩,
           hzn.trans (zone_in hw (fun k hk => ⟨own_ge hxo.1 k hk, (unhide HI j hlt).1 k hk⟩))⟩))
      have HLb := hide (show 1 ≤ q ∧ q + 2 * (at' zs j).1.length ≤ 500000000000 ∧ (at' zs j).2.length ≤ 8388608 ∧ q + 2 * (at' zs j).1.length + 2 * (at' zs j).2.length = k0 + cntTo zs (j + 1) from ⟨by omega, by have := unhide HTT; omega, by have := unhide HTT; omega, by rw [cntTo_succ zs j (by have := unhide HN; omega)]; unfold cntE; omega⟩)
      have HMk := hide (show mkAt k0 zs j = (Lab.marks q (at' zs j).1.length, Sam.marks (q + 2 * (at' zs j).1.length) (at' zs j).2.length) by unfold mkAt; rw [hq])
      clear fa hle hxo ho HR hzn
      obtain ⟨c0, hX0⟩ : ∃ c0, c0 = (cat cs j).1 := ⟨_, rfl⟩
      obtain ⟨c1, hX1⟩ : ∃ c1, c1 = (cat cs j).2 := ⟨_, rfl⟩
      rw [← hX0] at hc0 HM HR1
      rw [← hX1] at hc1 HR1
      have HX0 := hide hX0
      have HX1 := hide hX1
      clear hX0 hX1
      obtain ⟨l0, hl0⟩ : ∃ l, l = (at' zs j).1.length := ⟨_, rfl⟩
      rw [← hl0] at HM HLb HMk HR1
      have HL0 := hide hl0
      clear hl0 hq
      go_wp2_with fail
      refine (unhide HM).mono ?_
      rintro e w2 ⟨rfl, o2, z2⟩
      obtain ⟨r1, r2, r3, r4⟩ := unhide HR1 w2 z2 o2
      have hcc : w2.cell? ⟨g, j * 2 + 1, none⟩ = some c1 := by rw [r1.cellAt (j * 2 + 1) (by omega), unhide HX1]; exact (flat_at cs j (by have := unhide HC; omega)).2
      clear HR1 HM z2
      have HS := hide (Sam.mark_any (q + 2 * l0) (by have := unhide HLb; omega) (unhide HLb).2.1 (unhide HLb).2.2.1 r2 (in_self c1))
      have HR2 := hide (fun (w' : World) (hw : Zone (loOf c1) (hiOf c1) w2 w') (hy : w'.ownsRow lo 106 2 c1 (at' zs j).2.length (Sam.flat (Sam.marks (q + 2 * l0) (at' zs j).2.length))) =>
        (show w'.ownsRow lo 93 2 (.slice (some ⟨g, 0, none⟩) n cap) n (flatOf cl cs) ∧ (∀ i, i < n → w'.ownsRow lo 64 2 (cat cs i).1 (cur k0 zs (j + 1) i).1.length (Lab.flat (cur k0 zs (j + 1) i).1) ∧ w'.ownsRow lo 106 2 (cat cs i).2 (cur k0 zs (j + 1) i).2.length (Sam.flat (cur k0 zs (j + 1) i).2)) ∧ Zone lo hi w w' from
          ⟨hw.own r1 (out_of_ne (own_ne_type r2 r1 (by decide))),
           fun i hi' => by
             by_cases hij : i = j
             · subst hij
               rw [show cur k0 zs (i + 1) i = mkAt k0 zs i from if_pos (Nat.lt_succ_self i), unhide HMk]
               simp only [Lab.marks_length, Sam.marks_length]
               rw [← unhide HX0, ← unhide HX1]
               exact ⟨hw.own o2 (out_of_ne (own_ne_type r2 o2 (by decide))), hy⟩
             · rw [show cur k0 zs (j + 1) i = cur k0 zs j i by unfold cur; by_cases h : i < j <;> simp [h] <;> omega]
               refine ⟨hw.own (r3 i hi' hij).1 (out_of_ne (own_ne_type r2 (r3 i hi' hij).1 (by decide))), hw.own (r3 i hi' hij).2 (out_of_ne ?_)⟩
               rw [unhide HX1]
               exact (unhide HA2).ne (fun e => hij e.symm) hlt hi',
           r4.trans (zone_in hw (fun k hk => ⟨own_ge r2 k hk, (unhide HI j hlt).2 k (by rw [← unhide HX1]; exact hk)⟩))⟩))
      clear r1 r2 r3 r4 o2
      obtain ⟨l1, hl1⟩ : ∃ l, l = (at' zs j).2.length := ⟨_, rfl⟩
      rw [← hl1] at HS HLb HR2
      clear hl1
      obtain ⟨q1, hq1⟩ : ∃ q1, q1 = q + 2 * l0 := ⟨_, rfl⟩
      rw [← hq1] at HS HLb HR2
      rw [← hq1]
      clear hq1
      go_wp2_with fail
      refine (unhide HS).mono ?_
      rintro e w3 ⟨rfl, o3, z3⟩
      have RR := hide (unhide HR2 w3 z3 o3)
      clear HR2 HS o3 z3
      obtain ⟨q2, hq2⟩ : ∃ q2, q2 = q1 + 2 * l1 := ⟨_, rfl⟩
      rw [← hq2]
      have HQ2 := hide (show q2 = k0 + cntTo zs (j + 1) by rw [hq2]; exact (unhide HLb).2.2.2)
      clear hq2 HLb HQ
      go_wp2_with fail
      go_roundw
      case rel => exact ⟨j + 1, q2, by omega, by go_num, rfl, HQ2, (unhide RR).1, hide (unhide RR).2.1, (unhide RR).2.2⟩
      case measure => simp [intOf]; omega
    · obtain rfl : j = n := by omega
      have hq := unhide HQ
      have HF := hide (show Own lo hi wr (.slice (some ⟨g, 0, none⟩) j cap) (mk k0 zs) from ⟨cs, by rw [mk_length]; have := unhide HC; have := unhide HN; omega, by rw [mk_length, unhide HN]; exact ho, (unhide H34).1, Nat.le_trans (unhide H34).2 hzn.size, by rw [mk_length, unhide HN]; exact unhide HA1, by rw [mk_length, unhide HN]; exact unhide HA2, fun i hi' => by
        rw [mk_length] at hi'
        have hin : i < j := by have := unhide HN; omega
        rw [mk_at k0 zs i hi']
        have := unhide HR i hin
        rw [show cur k0 zs j i = mkAt k0 zs i from if_pos hin] at this
        exact ⟨this, unhide HI i hin⟩⟩)
      have HQ' := hide (show q = k0 + cnt zs by rw [hq]; unfold cnt; rw [unhide HN])
      clear hq HQ ho HR
      go_wp2
      go_ret
      exact ⟨q, rfl, unhide HQ', unhide HF, hzn⟩
theorem mark_nil (k0 : Int) (w : World) : Calls Tryz.prog 48 #[.slice none 0 0, .int .i64 k0] w fun e w' => e = .returned (.int .i64 k0) ∧ w' = w := by
  go_enter Tryz.func48, Tryz.ntmps48
  go_wp2
  refine wp_loop_rounds 1 ?_
  rw [rounds_succ]
  go_wp2
  go_ret
  exact ⟨rfl, rfl⟩
theorem len_cnt {zs : List E} (h : tot zs ≤ 1048576) : zs.length ≤ 2097152 := (tiny_of h).1
theorem markX {lo hi : Nat} {v : Value} {zs : List E} {w : World} (k0 : Nat) (hk1 : 1 ≤ k0) (hk2 : k0 ≤ 100000000) (hc : cnt zs ≤ 2097152 ∧ zs.length ≤ 2097152) (h : Own lo hi w v zs) :
    Calls Tryz.prog 48 #[v, .int .i64 k0] w fun e w' => ∃ k : Nat, e = .returned (.int .i64 k) ∧ k = k0 + cnt zs ∧ Own lo hi w' v (mk k0 zs) ∧ Zone lo hi w w' := by
  have hf := h
  obtain ⟨cs, hl, h2, -⟩ := h
  rcases h2.2 with ⟨h1, hz⟩ | ⟨g, cap, cur, h1, -⟩
  · subst h1
    obtain rfl : zs = [] := List.eq_nil_of_length_eq_zero hz
    refine (mark_nil k0 w).mono ?_
    rintro e w' ⟨rfl, rfl⟩
    exact ⟨k0, rfl, by simp [cnt, cntTo], hf, Zone.refl _ _ _⟩
  · subst h1
    exact mark_some k0 hk1 hk2 rfl hc.1 hc.2 hf
set_option maxRecDepth 100000 in
set_option maxHeartbeats 4000000 in
theorem heldX {v : Value} {zs : List E} {w : World} (k0 : Nat) (hk1 : 1 ≤ k0) (hk2 : k0 ≤ 100000000) (hc : cnt zs ≤ 2097152 ∧ zs.length ≤ 2097152) (h : Is w v (mk k0 zs)) :
    Calls Tryz.prog 50 #[v, .int .i64 k0] w fun e w' => ∃ k : Nat, e = .returned (.int .i64 k) ∧ k = k0 + cnt zs ∧ Below w.heap.size w w' := by
  obtain ⟨cs, hcs, hL, hE⟩ := h
  rw [mk_length] at hcs hL hE
  have HE := hide hE
  obtain ⟨-, a, cap, rfl, hcp, hm, -, hr⟩ := hL
  unfold maxLen at hm
  obtain ⟨n, hn⟩ : ∃ n, n = zs.length := ⟨_, rfl⟩
  rw [← hn] at hcp hr hcs ⊢
  have HN := hide hn
  have HC := hide hcs
  have HTT := hide hc
  clear hn hE hcs hc
  go_enter Tryz.func50, Tryz.ntmps50
  go_wp2_with fail
  go_loopw [1, 5] (fun kv i wr => ∃ (j q : Nat), j ≤ n ∧ i = .int .i64 j ∧ kv = .int .i64 q ∧ Hid (q = k0 + cntTo zs j) ∧ Below w.heap.size w wr) (fun _ i _ => n - (intOf i).toNat)
  case atStart => exact ⟨0, k0, Nat.zero_le _, rfl, rfl, hide (by simp [cntTo]), Below.refl _ _⟩
  case round =>
    obtain ⟨j, q, hj, rfl, rfl, HQ, hbel⟩ := hrel
    have hsz := hbel.size
    by_cases hlt : j < n
    · obtain ⟨b, off, rfl, hl, hcells⟩ := hr (by omega)
      have fa := flat_at cs j (by have := unhide HC; omega)
      have hc0 : wr.cell? ⟨b, off + j * 2, none⟩ = some (cat cs j).1 := (hbel.cell (p := ⟨b, _, none⟩) hl).trans (hcells (j * 2) _ fa.1)
      have hc1 : wr.cell? ⟨b, off + j * 2 + 1, none⟩ = some (cat cs j).2 := (hbel.cell (p := ⟨b, _, none⟩) hl).trans (hcells (j * 2 + 1) _ fa.2)
      have h0 : (0 : Int) ≤ (j : Int) := Int.natCast_nonneg _
      have h1 : (j : Int) < (n : Int) := by omega
      have hq := unhide HQ
      have hle := cntTo_le zs j (by have := unhide HN; omega)
      unfold cntE at hle
      have hEj := (unhide HE j (by have := unhide HN; omega)).below hbel
      rw [mk_at k0 zs j (by have := unhide HN; omega)] at hEj
      have HMk : mkAt k0 zs j = (Lab.marks q (at' zs j).1.length, Sam.marks (q + 2 * (at' zs j).1.length) (at' zs j).2.length) := by unfold mkAt; rw [hq]
      rw [HMk] at hEj
      have HM := hide (Lab.held_any q (by omega) (by have := unhide HTT; omega) (by have := unhide HTT; omega) hEj.1)
      have HS := hide (fun W (hb : Below wr.heap.size wr W) => Sam.held_any (q + 2 * (at' zs j).1.length) (by omega) (by have := unhide HTT; omega) (by have := unhide HTT; omega) (hEj.2.below hb))
      have HLb := hide (show q + 2 * (at' zs j).1.length + 2 * (at' zs j).2.length = k0 + cntTo zs (j + 1) by rw [cntTo_succ zs j (by have := unhide HN; omega)]; unfold cntE; omega)
      clear fa hle hEj HMk
      obtain ⟨c0, hX0⟩ : ∃ c0, c0 = (cat cs j).1 := ⟨_, rfl⟩
      obtain ⟨c1, hX1⟩ : ∃ c1, c1 = (cat cs j).2 := ⟨_, rfl⟩
      rw [← hX0] at hc0 HM
      rw [← hX1] at hc1 HS
      clear hX0 hX1
      obtain ⟨l0, hl0⟩ : ∃ l, l = (at' zs j).1.length := ⟨_, rfl⟩
      rw [← hl0] at HM HLb HS
      clear hl0 hq
      obtain ⟨l1, hl1⟩ : ∃ l, l = (at' zs j).2.length := ⟨_, rfl⟩
      rw [← hl1] at HS HLb
      clear hl1
      obtain ⟨q1, hq1⟩ : ∃ q1, q1 = q + 2 * l0 := ⟨_, rfl⟩
      rw [← hq1] at HS HLb HM
      clear hq1
      go_wp2_with fail
      refine (unhide HM).mono ?_
      rintro e w2 ⟨rfl, b2⟩
      have hcc : w2.cell? ⟨b, off + j * 2 + 1, none⟩ = some c1 := (b2.cell (p := ⟨b, off + j * 2 + 1, none⟩) (by show b < _; omega)).trans hc1
      have hbel2 := hbel.trans (b2.mono hsz)
      have HS2 := hide (unhide HS w2 b2)
      have hqn : decide ((q1 : Int) < 0) = false := by simp
      obtain ⟨q2, hq2⟩ : ∃ q2, q2 = q1 + 2 * l1 := ⟨_, rfl⟩
      rw [← hq2] at HS2 HLb
      clear hq2 HM HS b2
      go_wp2_with fail
      refine (unhide HS2).mono ?_
      rintro e w3 ⟨rfl, b3⟩
      have hbel3 := hbel2.trans (b3.mono hbel2.size)
      have hqn2 : decide ((q2 : Int) < 0) = false := by simp
      clear HS2 b3 HQ
      go_wp2_with fail
      go_roundw
      case rel => exact ⟨j + 1, q2, by omega, by go_num, rfl, HLb, hbel3⟩
      case measure => simp [intOf]; omega
    · obtain rfl : j = n := by omega
      have HQ' := hide (show q = k0 + cnt zs by rw [unhide HQ]; unfold cnt; rw [unhide HN])
      clear HQ
      go_wp2
      go_ret
      exact ⟨q, rfl, unhide HQ', hbel⟩
theorem cnt_tot (zs : List E) : ∀ j, j ≤ zs.length → cntTo zs j ≤ 2 * totTo zs j
  | 0, _ => by simp [cntTo]
  | j + 1, h => by
    have := cnt_tot zs j (by omega)
    rw [cntTo_succ zs j (by omega), totTo_succ zs j (by omega)]
    have h1 := Lab.tot_len (at' zs j).1
    have h2 : (at' zs j).2.length ≤ Sam.tot (at' zs j).2 := Nat.le_refl _
    unfold cntE szOf
    omega
theorem markA {lo hi : Nat} {v : Value} {zs : List E} {w : World} (k0 : Nat) (hk1 : 1 ≤ k0) (hk2 : k0 ≤ 100000000) (ht : tot zs ≤ 1048576) (h : Own lo hi w v zs) :
    Calls Tryz.prog 48 #[v, .int .i64 k0] w fun e w' => ∃ k : Nat, e = .returned (.int .i64 k) ∧ 1 ≤ k ∧ k ≤ k0 + 4194304 ∧ Zone lo hi w w' := by
  have hc : cnt zs ≤ 2097152 := by have := cnt_tot zs zs.length (Nat.le_refl _); rw [totTo_all] at this; unfold cnt; omega
  refine (markX k0 hk1 hk2 ⟨hc, (tiny_of ht).1⟩ h).mono ?_
  rintro e w' ⟨k, rfl, h1, -, z⟩
  exact ⟨k, rfl, by omega, by omega, z⟩
end Go.Proofs.YtlboekimnhgfdaaGreat.Row
