/- My own texts of one claim, laid together by program: RowCopy, RowCopy2, RowAt, RowAdd. -/
import Derived.Test.YtncjagdnebpaaaaG3907c7d8cb
import Derived.Test.YtncjagdnebpaaaaG00539b006e
import Derived.Test.YtncjagdnebpaaaaG31fbfc5a42
import Derived.Test.YtncjagdnebpaaaaG228b1de602
/- A copy of rows that are ok: the program's rowsCopy. -/
namespace Go.Proofs.Ytncjagdnebpaaaa.Row
open Go.RowKit Rw
set_option linter.unusedVariables false
attribute [local go_sem ↓] Go.wp_at_zero Go.wp_at_succ
set_option maxRecDepth 100000 in
set_option maxHeartbeats 2000000 in
theorem clone_any {w : World} {v : Value} {zs : List Sam.E} (h : Sam.Is w v zs) (h0 : zs ≠ []) (h1 : zs.length ≤ 4194304) : Calls Try.prog 45 #[v] w fun e w' => ∃ r, e = .returned r ∧ w'.ownsRow w.heap.size 26 2 r zs.length (Sam.flat zs) ∧ Below w.heap.size w w' := by
  obtain ⟨i2, hi2, hx0, hx1, hx2⟩ := info_parts Sam.info_e
  have hL : Lies w v zs.length 2 (Sam.flat zs) := h
  obtain ⟨-, a, cap, rfl, hc, hm, -, hr⟩ := h
  obtain ⟨b, off, rfl, hl, hcells⟩ := hr (List.length_pos_iff.2 h0)
  have oe : (w.alloc (.cells #[] 26)).ownsRow w.heap.size 26 2 (.slice (some ⟨w.heap.size, 0, none⟩) 0 0) 0 [] := own_empty (Nat.le_refl _)
  have be : Below w.heap.size w (w.alloc (.cells #[] 26)) := (Below.refl _ _).alloc (Nat.le_refl _) _
  have le := hL.below be
  clear hL hcells hr
  obtain ⟨m, hm'⟩ : ∃ m, m = zs.length := ⟨_, rfl⟩
  rw [← hm'] at h1 le ⊢
  clear hm' hc
  have heq : ∀ W, (binOp .eql 42 (.slice (some ⟨b, off, none⟩) m cap) (.slice none 0 0)).run Try.prog W = .ok (.bool false) W := fun W => rfl
  go_enter Try.func45, Try.ntmps45
  go_wp2_with (at_builtin; refine app_wp _ rfl _ _ _ rfl w.heap.size 26 i2 _ 2 16 Try.underlying42 hi2 hx0 hx1 hx2 rfl (by omega) _ 0 [] rfl oe _ m (Sam.flat zs) rfl le (Sam.flat_oneCell _) (by unfold maxLen; omega) (by omega) (by simp) ?_; intro vn wn on gn an)
  rw [Nat.zero_add, List.nil_append] at on
  have bn := below_grown be (by simp) gn (fun k hk => by cases hk; exact Nat.le_refl _)
  clear gn an le be oe
  go_wp2_with fail
  go_ret
  exact ⟨_, rfl, on, bn⟩
set_option maxRecDepth 100000 in
set_option maxHeartbeats 8000000 in
theorem copy_any {w : World} {v : Value} {zs : List E} (h : Is w v zs) (hok : ok zs = true) : Calls Try.prog 22 #[v] w fun e w' => ∃ r, e = .returned r ∧ Own w.heap.size w'.heap.size w' r zs ∧ Below w.heap.size w w' := by
  obtain ⟨i0, hi, hz0, hz1, hz2⟩ := info_parts Row.info_e
  have hn10 := ok_len hok
  have HOK := hide hok
  obtain ⟨cs, hcs, hL, hE⟩ := h
  have HE := hide hE
  obtain ⟨-, a, cap, rfl, hc, hmx, -, hr⟩ := hL
  unfold maxLen at hmx
  obtain ⟨l, hl⟩ : ∃ l, l = zs.length := ⟨_, rfl⟩
  rw [← hl] at hc hr hcs hn10 ⊢
  have HN := hide hl
  have HC := hide hcs
  clear hl hE hcs hok
  go_enter Try.func22, Try.ntmps22
  go_wp2_with fail
  go_loopw [3, 8] (fun pv i wr => ∃ (k : Nat) (pa : Option Addr) (pc : Nat), k ≤ l ∧ i = .int .i64 k ∧ pv = .slice pa k pc ∧ Hid (Own w.heap.size wr.heap.size wr pv (zs.take k)) ∧ Below w.heap.size w wr) (fun _ i _ => l - (intOf i).toNat)
  case atStart => exact ⟨0, none, 0, Nat.zero_le _, rfl, rfl, hide (own_nil w.heap.size w), Below.refl _ _⟩
  case round =>
    obtain ⟨k, pa, pc, hk, rfl, rfl, HO, hbel⟩ := hrel
    have hsz := hbel.size
    have hk0 : (0 : Int) ≤ (k : Int) := Int.natCast_nonneg _
    by_cases hlt : k < l
    · obtain ⟨b, off, rfl, hbl, hcells⟩ := hr (by omega)
      have fa := flat_at cs k (by have := unhide HC; omega)
      have hc0 : wr.cell? ⟨b, off + k * 2, none⟩ = some (cat cs k).1 := (hbel.cell (p := ⟨b, _, none⟩) hbl).trans (hcells (k * 2) _ fa.1)
      have hc1 : wr.cell? ⟨b, off + k * 2 + 1, none⟩ = some (cat cs k).2 := (hbel.cell (p := ⟨b, _, none⟩) hbl).trans (hcells (k * 2 + 1) _ fa.2)
      have hkz : k < zs.length := by have := unhide HN; omega
      have hEk := unhide HE k hkz
      have hst := step_is (ok_at (unhide HOK) hkz)
      have hsn : zs.take (k + 1) = zs.take k ++ [at' zs k] := by rw [List.take_succ_eq_append_getElem hkz, at_get zs k hkz]
      have htl : (zs.take k).length = k := by rw [List.length_take]; omega
      obtain ⟨⟨ls, xs⟩, hX⟩ : ∃ x, x = at' zs k := ⟨_, rfl⟩
      rw [← hX] at hEk hst hsn
      simp only at hst
      obtain ⟨c0, c1, hY⟩ : ∃ c0 c1, (c0, c1) = cat cs k := ⟨_, _, rfl⟩
      rw [← hY] at hc0 hc1 hEk
      have hE1 : Lab.Is w c0 ls := hEk.1
      have hE2 : Sam.Is w c1 xs := hEk.2
      obtain ⟨-, a0, q0, e0, -⟩ := hE1
      obtain ⟨-, a1, q1, e1, -⟩ := hE2
      have hE1 : Lab.Is w c0 ls := hEk.1
      have hE2 : Sam.Is w c1 xs := hEk.2
      clear fa hEk hX hY
      have hxne : xs ≠ [] := fun e => by rw [e] at hst; simp at hst
      have hk1 : (k : Int) < (l : Int) := by omega
      have hmx1 : 1 ≤ maxLen := by unfold maxLen; omega
      have HCl := hide (fun W (hb : Below w.heap.size w W) => Lab.copy_any (hE1.below hb) (Lab.ok_small hst.1))
      have HCs := hide (fun W (hb : Below w.heap.size w W) => clone_any (hE2.below hb) hxne (by omega))
      obtain ⟨ll, hll⟩ : ∃ ll, ll = ls.length := ⟨_, rfl⟩
      obtain ⟨m, hm⟩ : ∃ m, m = xs.length := ⟨_, rfl⟩
      rw [← hll] at e0 HCl
      rw [← hm] at e1 HCs
      have HLL := hide hll
      have HM := hide hm
      have HSn := hide hsn
      have HTl := hide htl
      clear hll hm hE1 hE2 hst hxne hsn htl
      subst e0 e1
      obtain ⟨ds, g1, g2, g3, g4, g5, g6, g7⟩ := unhide HO
      rw [unhide HTl] at g2
      obtain ⟨W, hW⟩ : ∃ W, W = wr.alloc (.cells #[.slice a0 ll q0, .slice a1 m q1] 44) := ⟨_, rfl⟩
      have bW : Below wr.heap.size wr W := by rw [hW]; exact (Below.refl _ _).alloc (Nat.le_refl _) _
      have zW : wr.heap.size < W.heap.size := by rw [hW]; simp
      have S6 : (fun w' : World => w'.cell? ⟨wr.heap.size, 0, none⟩ = some (.slice a0 ll q0) ∧ w'.cell? ⟨wr.heap.size, 1, none⟩ = some (.slice a1 m q1)) W.drew := by rw [hW]; exact ⟨by simp, by simp⟩
      have bWd : Below wr.heap.size wr W.drew := bW.drew
      have oW : W.drew.ownsRow w.heap.size 44 2 (.slice pa k pc) k (flatOf cl ds) := World.ownsRow.drew (own_below g2 bW)
      have hbW : Below w.heap.size w W.drew := hbel.trans (bWd.mono hsz)
      have hob := fun e => Nat.lt_irrefl _ (own_block_lt g2 wr.heap.size (Eq.symm e))
      have HO1 := hide (And.intro g1 (And.intro g5 (And.intro g6 g7)))
      have HCl6 := hide (unhide HCl W.drew hbW)
      clear bW HO g1 g3 g4 g5 g6 g7 HCl
      go_wp2_with fail
      rw [← hW]
      clear hW
      go_region_held3 (fun w' => w'.cell? ⟨wr.heap.size, 0, none⟩ = some (.slice a0 ll q0) ∧ w'.cell? ⟨wr.heap.size, 1, none⟩ = some (.slice a1 m q1)) (first | exact S6 | exact S7 | exact S8 | exact S9 _ | exact S10) ((first | (go_at_call 44; refine (unhide HCl6).mono ?_; rintro e w7 ⟨vl, rfl, ol, b7⟩; obtain ⟨la, lq, rfl⟩ : ∃ a q, vl = .slice a ll q := (by obtain ⟨-, a, q, e, -⟩ := lies_of_own ol; exact ⟨a, q, e⟩); have z7 := b7.size; simp only [World.size_drew] at z7; have hb7 : Below w.heap.size w w7 := hbW.trans (b7.mono hbW.size); have S7 : (fun w' : World => w'.cell? ⟨wr.heap.size, 0, none⟩ = some (.slice a0 ll q0) ∧ w'.cell? ⟨wr.heap.size, 1, none⟩ = some (.slice a1 m q1)) w7 := ⟨(b7.cell (p := ⟨_, _, none⟩) (by first | (simp; done) | (simp; omega) | omega)).trans S6.1, (b7.cell (p := ⟨_, _, none⟩) (by first | (simp; done) | (simp; omega) | omega)).trans S6.2⟩) | (go_at_call 45; refine (unhide HCs w7 hb7).mono ?_; rintro e w8 ⟨vs, rfl, oS, b8⟩; obtain ⟨sa, sq, rfl⟩ : ∃ a q, vs = .slice a m q := (by obtain ⟨-, a, q, e, -⟩ := lies_of_own oS; exact ⟨a, q, e⟩); have z8 := b8.size; have S8 : (fun w' : World => w'.cell? ⟨wr.heap.size, 0, none⟩ = some (.slice a0 ll q0) ∧ w'.cell? ⟨wr.heap.size, 1, none⟩ = some (.slice a1 m q1)) w8 := ⟨(b8.cell (p := ⟨_, _, none⟩) (by first | (simp; done) | (simp; omega) | omega)).trans S7.1, (b8.cell (p := ⟨_, _, none⟩) (by first | (simp; done) | (simp; omega) | omega)).trans S7.2⟩; have S9 : ∀ o, (fun w' : World => w'.cell? ⟨wr.heap.size, 0, none⟩ = some (.slice a0 ll q0) ∧ w'.cell? ⟨wr.heap.size, 1, none⟩ = some (.slice a1 m q1)) (w8.alloc o) := fun o => ⟨(((Below.refl _ _).alloc (Nat.le_refl _) _).cell (p := ⟨_, _, none⟩) (by first | (simp; done) | (simp; omega) | omega)).trans S8.1, (((Below.refl _ _).alloc (Nat.le_refl _) _).cell (p := ⟨_, _, none⟩) (by first | (simp; done) | (simp; omega) | omega)).trans S8.2⟩) | (refine app_step _ (by rfl) _ _ _ (by rfl) w.heap.size 44 i0 _ 2 48 Try.underlying23 hi hz0 hz1 hz2 rfl (by omega) _ k _ (by rfl) (World.ownsRow.alloc (own_below (own_below oW b7) b8) _) _ 1 [.slice la ll lq, .slice sa m sq] (by rfl) (lies_new (w := w8) (by simp) rfl hmx1) (by simp [Value.oneCell']) (by unfold maxLen; omega) (by omega) (by simp <;> omega) ?_; intro vn wn on gn an; have S10 : (fun w' : World => w'.cell? ⟨wr.heap.size, 0, none⟩ = some (.slice a0 ll q0) ∧ w'.cell? ⟨wr.heap.size, 1, none⟩ = some (.slice a1 m q1)) wn := ⟨by rw [gn.cell_far _ (by simp <;> omega) hob]; exact (S9 _).1, by rw [gn.cell_far _ (by simp <;> omega) hob]; exact (S9 _).2⟩)))
      have hb8 : Below w.heap.size w w8 := hb7.trans (b8.mono (by omega))
      have R9 : Below w.heap.size w wn := below_grown (hb8.alloc (by omega) _) (by simp <;> omega) gn (own_ge g2)
      have HO' := hide (show Own w.heap.size wn.heap.size wn vn (zs.take (k + 1)) by
        obtain ⟨g1, g5, g6, g7⟩ := unhide HO1
        rw [unhide HSn]
        have hw := fun {base e size n v} {xs : List Value} (ho : wr.ownsRow base e size v n xs) => World.ownsRow.alloc (own_below (own_below (own_below ho bWd) b7) b8) (.cells #[.slice la ll lq, .slice sa m sq] 44)
        exact own_snoc (w := w8.alloc (.cells #[.slice la ll lq, .slice sa m sq] 44)) (pv := .slice pa k pc) (vl := .slice la ll lq) (xv := .slice sa m sq) g1 (by rw [unhide HTl]; exact hw g2) g5 g6 (fun i hi => ⟨hw (g7 i hi).1.1, hw (g7 i hi).1.2⟩) gn (by rw [unhide HTl]; exact on) (by simp only; rw [← unhide HLL]; exact World.ownsRow.alloc (own_below (own_mono ol (by simp; omega)) b8) _) (by simp only; rw [← unhide HM]; exact World.ownsRow.alloc (own_mono oS (by omega)) _) (fun i hi k hk hk' => by have h1 := own_block_lt (g7 i hi).1.1 k hk; have h2 := own_ge ol k hk'; simp at h2; omega) (fun i hi k hk hk' => by have h1 := own_block_lt (g7 i hi).1.2 k hk; have h2 := own_ge oS k hk'; omega))
      obtain ⟨an', cn, hvn⟩ : ∃ a c, vn = .slice a (k + 1) c := by obtain ⟨-, a, c, e, -⟩ := lies_of_own on; exact ⟨a, c, e⟩
      have HV := hide hvn
      clear on gn an hvn hob S6 S7 S8 S9 S10 oW hbW b7 b8 hb8 hb7 ol oS g2 bWd HO1 HCs HCl6
      go_wp2_with fail
      go_roundw
      case rel => exact ⟨k + 1, an', cn, by omega, by go_num, unhide HV, HO', R9⟩
      case measure => simp [intOf]; omega
    · obtain rfl : k = l := by omega
      have HO' := hide (show Own w.heap.size wr.heap.size wr (.slice pa k pc) zs by have := unhide HO; rwa [List.take_of_length_le (by have := unhide HN; omega)] at this)
      clear HO
      go_wp2
      go_ret
      exact ⟨_, rfl, unhide HO', hbel⟩
end Go.Proofs.Ytncjagdnebpaaaa.Row

/- A copy of rows that are ok: the model's l5Copy. -/
namespace Go.Proofs.Ytncjagdnebpaaaa.Row
open Go.RowKit Rw
set_option linter.unusedVariables false
attribute [local go_sem ↓] Go.wp_at_zero Go.wp_at_succ
set_option maxRecDepth 100000 in
set_option maxHeartbeats 8000000 in
theorem l5copy_any {w : World} {v : Value} {zs : List E} (h : Is w v zs) (hs : zs.length ≤ 11 ∧ ∀ x ∈ zs, x.1.length ≤ 1000 ∧ x.2.length ≤ 1000) : Calls Try.prog 26 #[v] w fun e w' => ∃ r, e = .returned r ∧ Own w.heap.size w'.heap.size w' r zs ∧ Below w.heap.size w w' := by
  obtain ⟨i0, hi, hz0, hz1, hz2⟩ := info_parts Row.info_e
  obtain ⟨i1, hi1, hy0, hy1, hy2⟩ := info_parts Lab.info_e
  obtain ⟨i2, hi2, hx0, hx1, hx2⟩ := info_parts Sam.info_e
  have hn10 := hs.1
  have HOK := hide hs.2
  obtain ⟨cs, hcs, hL, hE⟩ := h
  have HE := hide hE
  obtain ⟨-, a, cap, rfl, hc, hmx, -, hr⟩ := hL
  unfold maxLen at hmx
  obtain ⟨l, hl⟩ : ∃ l, l = zs.length := ⟨_, rfl⟩
  rw [← hl] at hc hr hcs hn10 ⊢
  have HN := hide hl
  have HC := hide hcs
  clear hl hE hcs hs
  have HI0 := hide (show Own w.heap.size (w.alloc (.cells #[] 44)).heap.size (w.alloc (.cells #[] 44)) (.slice (some ⟨w.heap.size, 0, none⟩) 0 0) (zs.take 0) from ⟨[], rfl, Str.own_empty' (Nat.le_refl _) rfl, own_block_lt (Str.own_empty' (base := w.heap.size) (e := 44) (size := 2) (Nat.le_refl _) rfl), Nat.le_refl _, fun i j _ h => absurd h (Nat.not_lt_zero _), fun i j _ h => absurd h (Nat.not_lt_zero _), fun i h => absurd h (Nat.not_lt_zero _)⟩)
  have B0 : Below w.heap.size w (w.alloc (.cells #[] 44)) := (Below.refl _ _).alloc (Nat.le_refl _) _
  go_enter Try.func26, Try.ntmps26
  go_wp2_with fail
  go_loopw [3, 4] (fun pv i wr => ∃ (k : Nat) (pa : Option Addr) (pc : Nat), k ≤ l ∧ i = .int .i64 k ∧ pv = .slice pa k pc ∧ Hid (Own w.heap.size wr.heap.size wr pv (zs.take k)) ∧ Below w.heap.size w wr) (fun _ i _ => l - (intOf i).toNat)
  case atStart => exact ⟨0, _, 0, Nat.zero_le _, rfl, rfl, HI0, B0⟩
  case round =>
    clear HI0 B0
    obtain ⟨k, pa, pc, hk, rfl, rfl, HO, hbel⟩ := hrel
    have hsz := hbel.size
    have hk0 : (0 : Int) ≤ (k : Int) := Int.natCast_nonneg _
    by_cases hlt : k < l
    · obtain ⟨b, off, rfl, hbl, hcells⟩ := hr (by omega)
      have fa := flat_at cs k (by have := unhide HC; omega)
      have hc0 : wr.cell? ⟨b, off + k * 2, none⟩ = some (cat cs k).1 := (hbel.cell (p := ⟨b, _, none⟩) hbl).trans (hcells (k * 2) _ fa.1)
      have hc1 : wr.cell? ⟨b, off + k * 2 + 1, none⟩ = some (cat cs k).2 := (hbel.cell (p := ⟨b, _, none⟩) hbl).trans (hcells (k * 2 + 1) _ fa.2)
      have hkz : k < zs.length := by have := unhide HN; omega
      have hEk := unhide HE k hkz
      have hst := unhide HOK (at' zs k) (at_mem zs k hkz)
      have hsn : zs.take (k + 1) = zs.take k ++ [at' zs k] := by rw [List.take_succ_eq_append_getElem hkz, at_get zs k hkz]
      have htl : (zs.take k).length = k := by rw [List.length_take]; omega
      obtain ⟨⟨ls, xs⟩, hX⟩ : ∃ x, x = at' zs k := ⟨_, rfl⟩
      rw [← hX] at hEk hst hsn
      simp only at hst
      obtain ⟨c0, c1, hY⟩ : ∃ c0 c1, (c0, c1) = cat cs k := ⟨_, _, rfl⟩
      rw [← hY] at hc0 hc1 hEk
      have hE1 : Lab.Is w c0 ls := hEk.1
      have hE2 : Sam.Is w c1 xs := hEk.2
      obtain ⟨-, a0, q0, e0, -⟩ := hE1
      obtain ⟨-, a1, q1, e1, -⟩ := hE2
      have hE1 : Lab.Is w c0 ls := hEk.1
      have hE2 : Sam.Is w c1 xs := hEk.2
      clear fa hEk hX hY
      have hk1 : (k : Int) < (l : Int) := by omega
      have hmx1 : 1 ≤ maxLen := by unfold maxLen; omega
      have hsm := hst.1
      have hx1000 := hst.2
      obtain ⟨ll, hll⟩ : ∃ ll, ll = ls.length := ⟨_, rfl⟩
      obtain ⟨m, hm⟩ : ∃ m, m = xs.length := ⟨_, rfl⟩
      rw [← hll] at e0 hsm
      rw [← hm] at e1 hx1000
      have HL1 := hide (fun W (hb : Below w.heap.size w W) => show Lies W c0 ll 2 (Lab.flat ls) by rw [hll]; exact hE1.below hb)
      have HL2 := hide (fun W (hb : Below w.heap.size w W) => show Lies W c1 m 2 (Sam.flat xs) by rw [hm]; exact hE2.below hb)
      have HLL := hide hll
      have HM := hide hm
      have HSn := hide hsn
      have HTl := hide htl
      clear hll hm hE1 hE2 hst hsn htl
      subst e0 e1
      obtain ⟨ds, g1, g2, g3, g4, g5, g6, g7⟩ := unhide HO
      rw [unhide HTl] at g2
      have hb0 : b < wr.heap.size := by omega
      have hb0a : b < wr.heap.size + 1 := by omega
      have hb0b : b < wr.heap.size + 1 + 1 := by omega
      have hbn : ¬ b = wr.heap.size := by omega
      have hbn2 : ¬ b = wr.heap.size + 1 := by omega
      have be1 : Below wr.heap.size wr (wr.alloc (.cells #[] 47)).drew := ((Below.refl _ _).alloc (Nat.le_refl _) _).drew
      have be2 : Below wr.heap.size wr ((wr.alloc (.cells #[] 47)).alloc (.cells #[] 26)).drew := (((Below.refl _ _).alloc (Nat.le_refl _) _).alloc (by simp) _).drew
      have be3 : Below wr.heap.size wr ((wr.alloc (.cells #[] 26)).alloc (.cells #[] 47)).drew := (((Below.refl _ _).alloc (Nat.le_refl _) _).alloc (by simp) _).drew
      have oe1 : World.ownsRow (wr.alloc (.cells #[] 47)).drew wr.heap.size 47 2 (.slice (some ⟨wr.heap.size, 0, none⟩) 0 0) 0 [] := World.ownsRow.drew (own_empty (Nat.le_refl _))
      have oe2 : World.ownsRow ((wr.alloc (.cells #[] 47)).alloc (.cells #[] 26)).drew wr.heap.size 47 2 (.slice (some ⟨wr.heap.size, 0, none⟩) 0 0) 0 [] := World.ownsRow.drew (World.ownsRow.alloc (own_empty (Nat.le_refl _)) _)
      have oe3 : World.ownsRow ((wr.alloc (.cells #[] 26)).alloc (.cells #[] 47)).drew wr.heap.size 47 2 (.slice (some ⟨wr.heap.size + 1, 0, none⟩) 0 0) 0 [] := World.ownsRow.drew (Str.own_empty' (w := wr.alloc (.cells #[] 26)) (by simp) (by simp))
      have os2 : World.ownsRow ((wr.alloc (.cells #[] 47)).alloc (.cells #[] 26)).drew wr.heap.size 26 2 (.slice (some ⟨wr.heap.size + 1, 0, none⟩) 0 0) 0 [] := World.ownsRow.drew (Str.own_empty' (w := wr.alloc (.cells #[] 47)) (by simp) (by simp))
      have os3 : World.ownsRow ((wr.alloc (.cells #[] 26)).alloc (.cells #[] 47)).drew wr.heap.size 26 2 (.slice (some ⟨wr.heap.size, 0, none⟩) 0 0) 0 [] := World.ownsRow.drew (World.ownsRow.alloc (own_empty (Nat.le_refl _)) _)
      have le1 := unhide HL1 _ (hbel.trans (be1.mono hsz))
      have le2 := unhide HL1 _ (hbel.trans (be2.mono hsz))
      have le3 := unhide HL1 _ (hbel.trans (be3.mono hsz))
      have HO1 := hide (And.intro g1 (And.intro g5 (And.intro g6 g7)))
      clear HO g1 g3 g4 g5 g6 g7
      go_wp2_with fail
      go_region_law ((first | (refine app_step _ (by rfl) (.tmp 13) (.tmp 18) _ (by rfl) wr.heap.size 47 i1 _ 2 32 Try.underlying24 hi1 hy0 hy1 hy2 rfl (by omega) _ 0 [] (by rfl) (by first | exact oe1 | exact oe2 | exact oe3) _ ll (Lab.flat ls) (by rfl) (by first | exact le1 | exact le2 | exact le3) (Lab.flat_oneCell _) (by unfold maxLen; omega) (by omega) (by simp <;> omega) ?_; intro vl w7 ol gl al; rw [Nat.zero_add, List.nil_append] at ol; have b7 : Below wr.heap.size wr w7 := (by first | exact below_grown be1 (by simp) gl (own_ge oe1) | exact below_grown be2 (by simp <;> omega) gl (own_ge oe2) | exact below_grown be3 (by simp <;> omega) gl (own_ge oe3)); obtain ⟨la, lq, rfl⟩ : ∃ a q, vl = .slice a ll q := (by obtain ⟨-, a, q, e, -⟩ := lies_of_own ol; exact ⟨a, q, e⟩); have z7 := b7.size; have hb7 : Below w.heap.size w w7 := hbel.trans (b7.mono hsz); have c7a : w7.cell? ⟨b, off + k * 2 + 1, none⟩ = some (.slice a1 m q1) := (b7.cell (p := ⟨b, _, none⟩) hb0).trans hc1; have hb77 : b < w7.heap.size := (by omega); have hb7n : ¬ b = w7.heap.size := (by omega); have os1 : (w7.alloc (.cells #[] 26)).ownsRow wr.heap.size 26 2 (.slice (some ⟨w7.heap.size, 0, none⟩) 0 0) 0 [] := own_empty z7; have bs1 : Below w7.heap.size w7 (w7.alloc (.cells #[] 26)) := (Below.refl _ _).alloc (Nat.le_refl _) _; have lx1 := unhide HL2 _ (hb7.trans (bs1.mono (by omega))); have lx2 := unhide HL2 _ hb7) | (refine app_step _ (by rfl) (.tmp 20) (.tmp 25) _ (by rfl) wr.heap.size 26 i2 _ 2 16 Try.underlying42 hi2 hx0 hx1 hx2 rfl (by omega) _ 0 [] (by rfl) (by first | exact os1 | exact own_grown gl os2 (own_ne_type os2 oe2 (by decide)) | exact own_grown gl os3 (own_ne_type os3 oe3 (by decide))) _ m (Sam.flat xs) (by rfl) (by first | exact lx1 | exact lx2) (Sam.flat_oneCell _) (by unfold maxLen; omega) (by omega) (by first | omega | (simp; done) | (simp; omega)) ?_; intro vs w8 oS gS aS; rw [Nat.zero_add, List.nil_append] at oS; have b8 : Below wr.heap.size wr w8 := (by first | exact below_grown (b7.trans (bs1.mono z7)) (by simp <;> omega) gS (own_ge os1) | exact below_grown b7 z7 gS (own_ge os2) | exact below_grown b7 z7 gS (own_ge os3)); have ol8 : w8.ownsRow wr.heap.size 47 2 (.slice la ll lq) ll (Lab.flat ls) := (by first | exact own_grown gS (own_below ol bs1) (own_ne_type (own_below ol bs1) os1 (by decide)) | exact own_grown gS ol (own_ne_type ol (own_grown gl os2 (own_ne_type os2 oe2 (by decide))) (by decide)) | exact own_grown gS ol (own_ne_type ol (own_grown gl os3 (own_ne_type os3 oe3 (by decide))) (by decide))); obtain ⟨sa, sq, rfl⟩ : ∃ a q, vs = .slice a m q := (by obtain ⟨-, a, q, e, -⟩ := lies_of_own oS; exact ⟨a, q, e⟩); have z8 := b8.size) | (refine app_step _ (by rfl) (.tmp 12) (.tmp 28) _ (by rfl) w.heap.size 44 i0 _ 2 48 Try.underlying23 hi hz0 hz1 hz2 rfl (by omega) _ k _ (by rfl) (World.ownsRow.alloc (own_below g2 b8) _) _ 1 [.slice la ll lq, .slice sa m sq] (by rfl) (lies_new (w := w8) (by simp) rfl hmx1) (by simp [Value.oneCell']) (by unfold maxLen; omega) (by omega) (by simp <;> omega) ?_; intro vn wn on gn an)))
      all_goals
        have hb8 : Below w.heap.size w w8 := hbel.trans (b8.mono hsz)
        have R9 : Below w.heap.size w wn := below_grown (hb8.alloc (by omega) _) (by simp <;> omega) gn (own_ge g2)
        have HO' := hide (show Own w.heap.size wn.heap.size wn vn (zs.take (k + 1)) by
          obtain ⟨g1, g5, g6, g7⟩ := unhide HO1
          rw [unhide HSn]
          have hw := fun {base e size n v} {xs : List Value} (ho : wr.ownsRow base e size v n xs) => World.ownsRow.alloc (own_below ho b8) (.cells #[.slice la ll lq, .slice sa m sq] 44)
          exact own_snoc (w := w8.alloc (.cells #[.slice la ll lq, .slice sa m sq] 44)) (pv := .slice pa k pc) (vl := .slice la ll lq) (xv := .slice sa m sq) g1 (by rw [unhide HTl]; exact hw g2) g5 g6 (fun i hi => ⟨hw (g7 i hi).1.1, hw (g7 i hi).1.2⟩) gn (by rw [unhide HTl]; exact on) (by simp only; rw [← unhide HLL]; exact World.ownsRow.alloc (own_mono ol8 (by omega)) _) (by simp only; rw [← unhide HM]; exact World.ownsRow.alloc (own_mono oS (by omega)) _) (fun i hi k hk hk' => by have h1 := own_block_lt (g7 i hi).1.1 k hk; have h2 := own_ge ol8 k hk'; omega) (fun i hi k hk hk' => by have h1 := own_block_lt (g7 i hi).1.2 k hk; have h2 := own_ge oS k hk'; omega))
        obtain ⟨an', cn, hvn⟩ : ∃ a c, vn = .slice a (k + 1) c := by obtain ⟨-, a, c, e, -⟩ := lies_of_own on; exact ⟨a, c, e⟩
        have HV := hide hvn
        clear on gn an hvn ol oS ol8 g2 HO1 oe1 oe2 oe3 os1 os2 os3 le1 le2 le3 lx1 lx2 be1 be2 be3 bs1 gl gS al aS b7 b8 hb7 hb8
        go_wp2_with fail
        go_roundw
        case rel => exact ⟨k + 1, an', cn, by omega, by go_num, unhide HV, HO', R9⟩
        case measure => simp [intOf]; omega
    · obtain rfl : k = l := by omega
      have HO' := hide (show Own w.heap.size wr.heap.size wr (.slice pa k pc) zs by have := unhide HO; rwa [List.take_of_length_le (by have := unhide HN; omega)] at this)
      clear HO
      go_wp2
      go_ret
      exact ⟨_, rfl, unhide HO', hbel⟩
theorem l5copy {w : World} {v : Value} {zs : List E} (h : Is w v zs) (hok : ok zs = true) : Calls Try.prog 26 #[v] w fun e w' => ∃ r, e = .returned r ∧ Own w.heap.size w'.heap.size w' r zs ∧ Below w.heap.size w w' := by
  refine l5copy_any h ⟨by have := ok_len hok; omega, fun x hx => ?_⟩
  obtain ⟨i, hi, rfl⟩ := List.getElem_of_mem hx
  have hst := step_is (ok_at hok hi)
  rw [at_get zs i hi] at hst
  exact ⟨by have := (Lab.ok_small hst.1).1; omega, hst.2.2.1⟩
end Go.Proofs.Ytncjagdnebpaaaa.Row

/- Where labels come among rows: the model's l5At. -/
namespace Go.Proofs.Ytncjagdnebpaaaa.Row
open Go.RowKit Rw
set_option linter.unusedVariables false
attribute [local go_sem ↓] Go.wp_at_zero Go.wp_at_succ
/-- the first place whose labels do not stand ahead -/
def place : List E → List Lab.E → Nat
  | [], _ => 0
  | y :: L, ls => if Lab.cmpL y.1 ls < 0 then place L ls + 1 else 0
def there (L : List E) (ls : List Lab.E) : Bool := decide (place L ls < L.length) && decide (Lab.cmpL (at' L (place L ls)).1 ls = 0)
theorem place_le : ∀ (L : List E) (ls : List Lab.E), place L ls ≤ L.length
  | [], _ => Nat.le_refl _
  | y :: L, ls => by
    rw [place]
    split
    · have := place_le L ls; simp only [List.length_cons]; omega
    · exact Nat.zero_le _
theorem place_lt : ∀ (L : List E) (ls : List Lab.E) (i : Nat), i < place L ls → Lab.cmpL (at' L i).1 ls < 0
  | [], _, i, h => by simp [place] at h
  | y :: L, ls, i, h => by
    rw [place] at h
    split at h
    · rename_i hc
      cases i with
      | zero => exact hc
      | succ i => exact place_lt L ls i (by omega)
    · omega
theorem place_stop : ∀ (L : List E) (ls : List Lab.E), place L ls = L.length ∨ ¬ Lab.cmpL (at' L (place L ls)).1 ls < 0
  | [], _ => .inl rfl
  | y :: L, ls => by
    rw [place]
    split
    · rcases place_stop L ls with h | h
      · left; simp only [List.length_cons]; omega
      · right; exact h
    · rename_i hc; right; exact hc
theorem place_is {L : List E} {ls : List Lab.E} {k : Nat} (hk : k ≤ L.length) (h1 : ∀ i, i < k → Lab.cmpL (at' L i).1 ls < 0) (h2 : k = L.length ∨ ¬ Lab.cmpL (at' L k).1 ls < 0) : place L ls = k := by
  rcases Nat.lt_trichotomy (place L ls) k with h | h | h
  · rcases place_stop L ls with e | e
    · omega
    · exact absurd (h1 _ h) e
  · exact h
  · rcases h2 with e | e
    · have := place_le L ls; omega
    · exact absurd (place_lt L ls k h) e
theorem ins_place (L : List E) (x : E) : ins L x = if there L x.1 = true then (jn (at' L (place L x.1)) x.2).map (fun y => L.take (place L x.1) ++ y :: L.drop (place L x.1 + 1)) else some (L.take (place L x.1) ++ x :: L.drop (place L x.1)) := by
  rw [ins_at (place L x.1) (place_le _ _) (place_lt _ _) (place_stop _ _)]
  unfold there
  simp only [Bool.and_eq_true, decide_eq_true_eq]
set_option maxRecDepth 100000 in
set_option maxHeartbeats 4000000 in
theorem l5at {w : World} {v u : Value} {zs : List E} {ls : List Lab.E} (h : Is w v zs) (h' : Lab.Is w u ls) (hlen : zs.length ≤ 1000) :
    Calls Try.prog 48 #[v, u] w fun e w' => e = .returned (.tuple #[.int .i64 (place zs ls : Int), .bool (there zs ls)]) ∧ Below w.heap.size w w' := by
  obtain ⟨cs, hcs, hL, hE⟩ := h
  have HE := hide hE
  have HU := hide h'
  obtain ⟨-, au, qu, eu, -⟩ := h'
  obtain ⟨-, a, cap, rfl, hc, hmx, -, hr⟩ := hL
  unfold maxLen at hmx
  obtain ⟨l, hl⟩ : ∃ l, l = zs.length := ⟨_, rfl⟩
  rw [← hl] at hc hr hcs hlen ⊢
  have HN := hide hl
  have HC := hide hcs
  clear hl hE hcs
  go_enter Try.func48, Try.ntmps48
  go_wp2_with fail
  go_loopw [6] (fun i wr => ∃ k : Nat, k ≤ l ∧ i = .int .i64 k ∧ Hid (∀ i, i < k → Lab.cmpL (at' zs i).1 ls < 0) ∧ Below w.heap.size w wr) (fun i _ => l - (intOf i).toNat)
  case atStart => exact ⟨0, Nat.zero_le _, rfl, fun i h => absurd h (Nat.not_lt_zero _), Below.refl _ _⟩
  case round =>
    obtain ⟨k, hk, rfl, HP, hbel⟩ := hrel
    have hsz := hbel.size
    have hk0 : (0 : Int) ≤ (k : Int) := Int.natCast_nonneg _
    by_cases hlt : k < l
    · obtain ⟨b, off, rfl, hbl, hcells⟩ := hr (by omega)
      have fa := flat_at cs k (by have := unhide HC; omega)
      have hkz : k < zs.length := by have := unhide HN; omega
      have hEk := unhide HE k hkz
      have hc0 : wr.cell? ⟨b, off + k * 2, none⟩ = some (cat cs k).1 := (hbel.cell (p := ⟨b, _, none⟩) hbl).trans (hcells (k * 2) _ fa.1)
      obtain ⟨c0, hY⟩ : ∃ c0, c0 = (cat cs k).1 := ⟨_, rfl⟩
      rw [← hY] at hc0
      have hE1 : Lab.Is w c0 (at' zs k).1 := by rw [hY]; exact hEk.1
      have HCm := hide (fun W (hb : Below w.heap.size w W) => Lab.l3Cmp_any (hE1.below hb) ((unhide HU).below hb))
      obtain ⟨-, a0, q0, e0, -⟩ := hE1
      generalize (at' zs k).1.length = ll at e0
      have hrng := Lab.cmpL_range (at' zs k).1 ls
      have HNext := hide (fun (h : Lab.cmpL (at' zs k).1 ls < 0) => show ∀ i, i < k + 1 → Lab.cmpL (at' zs i).1 ls < 0 from fun i hi => by rcases Nat.lt_or_eq_of_le (Nat.le_of_lt_succ hi) with h' | h'; exact unhide HP i h'; rw [h']; exact h)
      have HStop := hide (fun (h : ¬ Lab.cmpL (at' zs k).1 ls < 0) => show place zs ls = k ∧ there zs ls = decide (Lab.cmpL (at' zs k).1 ls = 0) from by
        have e := place_is (by omega) (unhide HP) (.inr h)
        refine ⟨e, ?_⟩
        unfold there
        rw [e, decide_eq_true hkz, Bool.true_and])
      obtain ⟨C, hC⟩ : ∃ C, C = Lab.cmpL (at' zs k).1 ls := ⟨_, rfl⟩
      rw [← hC] at HCm HNext HStop hrng
      clear fa hEk hY hC
      subst e0 eu
      have hk1 : (k : Int) < (l : Int) := by omega
      go_wp2_with fail
      refine (unhide HCm wr hbel).mono ?_
      rintro e w1 ⟨rfl, b1⟩
      have R1 := hbel.trans (b1.mono hsz)
      by_cases hneg : C < 0
      · have HNx := hide (unhide HNext hneg)
        clear HNext HStop HCm hc0
        go_wp2_with fail
        go_roundw
        case rel => exact ⟨k + 1, by omega, by go_num, HNx, R1⟩
        case measure => simp [intOf]; omega
      · have HSt := hide (unhide HStop (by omega))
        have hc1 : w1.cell? ⟨b, off + k * 2, none⟩ = some (.slice a0 ll q0) := (b1.cell (p := ⟨b, _, none⟩) (by show b < _; omega)).trans hc0
        clear HNext HStop hc0
        go_wp2_with fail
        refine (unhide HCm w1 R1).mono ?_
        rintro e w2 ⟨rfl, b2⟩
        have R2 := R1.trans (b2.mono R1.size)
        clear HCm hc1
        go_wp2_with fail
        go_ret2
        exact ⟨by rw [(unhide HSt).1, (unhide HSt).2]; rfl, R2⟩
    · obtain rfl : k = l := by omega
      have HSt := hide (show place zs ls = k ∧ there zs ls = false by
        have e := place_is (L := zs) (ls := ls) (k := k) (by have := unhide HN; omega) (unhide HP) (.inl (unhide HN))
        refine ⟨e, ?_⟩
        unfold there
        rw [e, decide_eq_false (by have := unhide HN; omega), Bool.false_and])
      have hd : decide (k < k) = false := by simp
      go_wp2_with fail
      go_ret2
      exact ⟨by rw [(unhide HSt).1, (unhide HSt).2]; rfl, hbel⟩
end Go.Proofs.Ytncjagdnebpaaaa.Row

/- A row more among rows: the model's l5Add. -/
namespace Go.Proofs.Ytncjagdnebpaaaa.Row
open Go.RowKit Rw
set_option linter.unusedVariables false
attribute [local go_sem ↓] Go.wp_at_zero Go.wp_at_succ
/-! ### the size of what is made -/
theorem sized_mid {A D : List E} {x : E} (h : sized (A ++ D) = true) : sized (A ++ x :: D) = (decide ((A ++ D).length + 1 ≤ 10) && decide (x.2.length ≤ 1000)) := by
  unfold sized at h ⊢
  simp only [Bool.and_eq_true, decide_eq_true_eq, List.all_append, List.length_append] at h
  simp only [List.length_append, List.length_cons, List.all_append, List.all_cons, h.2.1, h.2.2, Bool.true_and, Bool.and_true]
  congr 2
theorem sized_same {A D : List E} {x y : E} (h : sized (A ++ x :: D) = true) : sized (A ++ y :: D) = decide (y.2.length ≤ 1000) := by
  unfold sized at h ⊢
  simp only [Bool.and_eq_true, decide_eq_true_eq, List.all_append, List.length_append, List.length_cons, List.all_cons] at h
  simp only [List.length_append, List.length_cons, List.all_append, List.all_cons, h.2.1, h.2.2.2, Bool.true_and, Bool.and_true]
  rw [decide_eq_true h.1, Bool.true_and]
theorem add_new {zs : List E} {x : E} (hok : ok zs = true) (h : there zs x.1 = false) : add zs x = if (decide (zs.length + 1 ≤ 10) && decide (x.2.length ≤ 1000)) = true then some (zs.take (place zs x.1) ++ x :: zs.drop (place zs x.1)) else none := by
  have hs := sized_of_ok hok
  unfold add
  rw [ins_place, h, if_neg (by simp), Option.bind_some]
  have e := sized_mid (A := zs.take (place zs x.1)) (D := zs.drop (place zs x.1)) (x := x) (by rw [List.take_append_drop]; exact hs)
  rw [List.take_append_drop] at e
  rw [e]
theorem take_at_drop {zs : List E} {k : Nat} (hk : k < zs.length) : zs = zs.take k ++ at' zs k :: zs.drop (k + 1) := by
  rw [at_get zs k hk, ← List.drop_eq_getElem_cons hk, List.take_append_drop]
theorem set_is {zs : List E} {k : Nat} (y : E) (hk : k < zs.length) : zs.set k y = zs.take k ++ y :: zs.drop (k + 1) := by
  rw [List.set_eq_take_append_cons_drop, if_pos hk]
theorem add_old {zs : List E} {x : E} (hok : ok zs = true) (h : there zs x.1 = true) : add zs x = if ((SampMath.join (at' zs (place zs x.1)).2 x.2).2 && decide ((SampMath.join (at' zs (place zs x.1)).2 x.2).1.length ≤ 1000)) = true then some (zs.set (place zs x.1) ((at' zs (place zs x.1)).1, (SampMath.join (at' zs (place zs x.1)).2 x.2).1)) else none := by
  have hs := sized_of_ok hok
  have hk : place zs x.1 < zs.length := by unfold there at h; simp only [Bool.and_eq_true, decide_eq_true_eq] at h; exact h.1
  unfold add
  rw [ins_place, h, if_pos rfl, set_is _ hk]
  generalize place zs x.1 = k at hk
  unfold jn
  cases hj : (SampMath.join (at' zs k).2 x.2).2
  · simp
  · simp only [if_true, Option.map_some, Option.bind_some, Bool.true_and]
    rw [sized_same (A := zs.take k) (D := zs.drop (k + 1)) (x := at' zs k) (by rw [← take_at_drop hk]; exact hs)]
/-! ### cells of rows, one more, one turned -/
theorem cat_mid (cs : List C) (c : C) (k i : Nat) (hk : k ≤ cs.length) (hi : i ≤ cs.length) : cat (cs.take k ++ c :: cs.drop k) i = if i < k then cat cs i else if i = k then c else cat cs (i - 1) := by
  have hl : (cs.take k).length = k := by rw [List.length_take]; omega
  unfold cat List.getD
  by_cases h1 : i < k
  · rw [if_pos h1, List.getElem?_append_left (by omega), List.getElem?_take, if_pos h1]
  · rw [if_neg h1, List.getElem?_append_right (by omega), hl]
    by_cases h2 : i = k
    · rw [if_pos h2, h2, Nat.sub_self]; rfl
    · rw [if_neg h2, show i - k = (i - k - 1) + 1 by omega, List.getElem?_cons_succ, List.getElem?_drop, show k + (i - k - 1) = i - 1 by omega]
theorem at_mid (cs : List E) (c : E) (k i : Nat) (hk : k ≤ cs.length) (hi : i ≤ cs.length) : at' (cs.take k ++ c :: cs.drop k) i = if i < k then at' cs i else if i = k then c else at' cs (i - 1) := by
  have hl : (cs.take k).length = k := by rw [List.length_take]; omega
  unfold at' List.getD
  by_cases h1 : i < k
  · rw [if_pos h1, List.getElem?_append_left (by omega), List.getElem?_take, if_pos h1]
  · rw [if_neg h1, List.getElem?_append_right (by omega), hl]
    by_cases h2 : i = k
    · rw [if_pos h2, h2, Nat.sub_self]; rfl
    · rw [if_neg h2, show i - k = (i - k - 1) + 1 by omega, List.getElem?_cons_succ, List.getElem?_drop, show k + (i - k - 1) = i - 1 by omega]
theorem apart_mid {n k : Nat} {cs : List C} {c : C} (hd : cs.length = n) (hk : k ≤ n) (p : C → Value) (h : ApartF n (fun i => p (cat cs i))) (hc : ∀ i, i < n → ∀ b, (p (cat cs i)).ownBlock = some b → (p c).ownBlock ≠ some b) : ApartF (n + 1) (fun i => p (cat (cs.take k ++ c :: cs.drop k) i)) := by
  subst hd
  intro i j hij hj b hb
  simp only at hb ⊢
  rw [cat_mid _ _ _ _ hk (by omega)] at hb ⊢
  by_cases j1 : j < k
  · rw [if_pos (by omega)] at hb
    rw [if_pos j1]
    exact h i j hij (by omega) b hb
  · rw [if_neg j1]
    by_cases j2 : j = k
    · rw [if_pos j2]
      rw [if_pos (by omega)] at hb
      exact hc i (by omega) b hb
    · rw [if_neg j2]
      by_cases i1 : i < k
      · rw [if_pos i1] at hb
        exact h i (j - 1) (by omega) (by omega) b hb
      · rw [if_neg i1] at hb
        by_cases i2 : i = k
        · rw [if_pos i2] at hb
          intro hb'
          exact hc (j - 1) (by omega) b hb' hb
        · rw [if_neg i2] at hb
          exact h (i - 1) (j - 1) (by omega) (by omega) b hb
theorem flat_mid (cs : List C) (c : C) (k : Nat) : flatOf cl (cs.take k ++ c :: cs.drop k) = flatOf cl (cs.take k) ++ [c.1, c.2] ++ flatOf cl (cs.drop k) := by
  rw [flatOf_append, flatOf_cons]
  show _ ++ ([c.1, c.2] ++ _) = _
  rw [List.append_assoc]
theorem own_mid {lo k : Nat} {wn : World} {vn : Value} {L : List E} {cs : List C} {x : E} {c : C} (hk : k ≤ L.length) (h1 : cs.length = L.length) (h5 : ApartF L.length (fun i => (cat cs i).1)) (h6 : ApartF L.length (fun i => (cat cs i).2))
    (h7 : ∀ i, i < L.length → wn.ownsRow lo 47 2 (cat cs i).1 (at' L i).1.length (Lab.flat (at' L i).1) ∧ wn.ownsRow lo 26 2 (cat cs i).2 (at' L i).2.length (Sam.flat (at' L i).2))
    (on : wn.ownsRow lo 44 2 vn (L.length + 1) (flatOf cl (cs.take k) ++ [c.1, c.2] ++ flatOf cl (cs.drop k))) (hl : wn.ownsRow lo 47 2 c.1 x.1.length (Lab.flat x.1)) (hx : wn.ownsRow lo 26 2 c.2 x.2.length (Sam.flat x.2))
    (nl : ∀ i, i < L.length → ∀ b, (cat cs i).1.ownBlock = some b → c.1.ownBlock ≠ some b) (nx : ∀ i, i < L.length → ∀ b, (cat cs i).2.ownBlock = some b → c.2.ownBlock ≠ some b) : Own lo wn.heap.size wn vn (L.take k ++ x :: L.drop k) := by
  have hlen : (L.take k ++ x :: L.drop k).length = L.length + 1 := by simp; omega
  refine ⟨cs.take k ++ c :: cs.drop k, by rw [hlen]; simp; omega, by rw [hlen, flat_mid]; exact on, own_block_lt on, Nat.le_refl _, by rw [hlen]; exact apart_mid h1 hk (·.1) h5 nl, by rw [hlen]; exact apart_mid h1 hk (·.2) h6 nx, fun i hi => ?_⟩
  rw [hlen] at hi
  rw [cat_mid _ _ _ _ (by omega) (by omega), at_mid _ _ _ _ hk (by omega)]
  by_cases i1 : i < k
  · rw [if_pos i1, if_pos i1]
    have := h7 i (by omega)
    exact ⟨this, own_block_lt this.1, own_block_lt this.2⟩
  · rw [if_neg i1, if_neg i1]
    by_cases i2 : i = k
    · rw [if_pos i2, if_pos i2]
      exact ⟨⟨hl, hx⟩, own_block_lt hl, own_block_lt hx⟩
    · rw [if_neg i2, if_neg i2]
      have := h7 (i - 1) (by omega)
      exact ⟨this, own_block_lt this.1, own_block_lt this.2⟩
theorem cat_set (cs : List C) (c : C) (k i : Nat) (hk : k < cs.length) : cat (cs.set k c) i = if i = k then c else cat cs i := by
  unfold cat List.getD
  rw [List.getElem?_set]
  by_cases h : k = i
  · rw [if_pos h, if_pos h.symm, if_pos hk]; rfl
  · rw [if_neg h, if_neg (fun e => h e.symm)]
theorem at_set (cs : List E) (c : E) (k i : Nat) (hk : k < cs.length) : at' (cs.set k c) i = if i = k then c else at' cs i := by
  unfold at' List.getD
  rw [List.getElem?_set]
  by_cases h : k = i
  · rw [if_pos h, if_pos h.symm, if_pos hk]; rfl
  · rw [if_neg h, if_neg (fun e => h e.symm)]
theorem flat_set2 (cs : List C) (k : Nat) (hk : k < cs.length) (u : Value) : flatOf cl (cs.set k ((cat cs k).1, u)) = (flatOf cl cs).set (k * 2 + 1) u := by
  apply List.ext_getElem?
  intro j
  rw [List.getElem?_set]
  rcases Nat.lt_or_ge j (cs.length * 2) with hj | hj
  · obtain ⟨i, c, rfl, hc⟩ : ∃ i c, j = i * 2 + c ∧ c < 2 := ⟨j / 2, j % 2, by omega, by omega⟩
    have f1 := flat_at (cs.set k ((cat cs k).1, u)) i (by rw [List.length_set]; omega)
    have f2 := flat_at cs i (by omega)
    rw [cat_set _ _ _ _ hk] at f1
    have hfl : (flatOf cl cs).length = cs.length * 2 := flatOf_length clk cs
    rcases (show c = 0 ∨ c = 1 by omega) with rfl | rfl
    · rw [Nat.add_zero, if_neg (by omega), f1.1, f2.1]
      by_cases e : i = k
      · rw [if_pos e, e]
      · rw [if_neg e]
    · by_cases e : i = k
      · subst e
        rw [if_pos rfl] at f1
        rw [f1.2, if_pos rfl, if_pos (by omega)]
      · rw [if_neg e] at f1
        rw [f1.2, if_neg (by omega), f2.2]
  · rw [List.getElem?_eq_none (by rw [flatOf_length clk, List.length_set]; omega), if_neg (by omega), List.getElem?_eq_none (by rw [flatOf_length clk]; omega)]
theorem own_set {lo hi g q k : Nat} {w : World} {L : List E} {J : List Sam.E} {xv : Value} (h : Own lo hi w (.slice (some ⟨g, 0, none⟩) L.length q) L) (hk : k < L.length) (hx : w.ownsRow lo 26 2 xv J.length (Sam.flat J)) (hf : ∀ b, xv.ownBlock = some b → hi ≤ b) :
    Own lo w.heap.size (w.setCell ⟨g, k * 2 + 1, none⟩ xv) (.slice (some ⟨g, 0, none⟩) L.length q) (L.set k ((at' L k).1, J)) := by
  obtain ⟨cs, h1, h2, h3, h4, h5, h6, h7⟩ := h
  have hst := (h2.stored (k * 2 + 1) xv).1
  have ho := (OnlyAt.refl g w).setCell (k * 2 + 1) xv
  have hxl := own_block_lt hx
  have keepL : ∀ {n v} {xs : List Value}, w.ownsRow lo 47 2 v n xs → (w.setCell ⟨g, k * 2 + 1, none⟩ xv).ownsRow lo 47 2 v n xs := fun h => ho.own h (fun b hb e => own_ne_type h h2 (by decide) b hb (by rw [e]; rfl))
  have keepS : ∀ {n v} {xs : List Value}, w.ownsRow lo 26 2 v n xs → (w.setCell ⟨g, k * 2 + 1, none⟩ xv).ownsRow lo 26 2 v n xs := fun h => ho.own h (fun b hb e => own_ne_type h h2 (by decide) b hb (by rw [e]; rfl))
  refine ⟨cs.set k ((cat cs k).1, xv), by simp [h1], ?_, fun b hb => by have := h3 b hb; omega, by rw [ho.size]; exact Nat.le_refl _, ?_, ?_, fun i hi => ?_⟩
  · rw [List.length_set, flat_set2 cs k (by omega)]
    exact hst
  · rw [List.length_set]
    intro i j hij hj b hb
    simp only at hb ⊢
    rw [cat_set _ _ _ _ (by omega)] at hb ⊢
    have hb' : (cat cs i).1.ownBlock = some b := by
      by_cases e : i = k
      · subst e; rwa [if_pos rfl] at hb
      · rwa [if_neg e] at hb
    have := h5 i j hij hj b hb'
    by_cases e : j = k
    · subst e; rwa [if_pos rfl]
    · rwa [if_neg e]
  · rw [List.length_set]
    intro i j hij hj b hb
    simp only at hb ⊢
    rw [cat_set _ _ _ _ (by omega)] at hb ⊢
    by_cases e : i = k
    · rw [if_pos e] at hb
      rw [if_neg (by omega)]
      intro hb'
      have h8 := hf b hb
      have h9 := (h7 j hj).2.2 b hb'
      omega
    · rw [if_neg e] at hb
      by_cases e' : j = k
      · rw [if_pos e']
        intro hb'
        have h8 := hf b hb'
        have h9 := (h7 i (by omega)).2.2 b hb
        omega
      · rw [if_neg e']
        exact h6 i j hij hj b hb
  · rw [List.length_set] at hi
    rw [cat_set _ _ _ _ (by omega), at_set _ _ _ _ hk]
    have h8 := h7 i hi
    by_cases e : i = k
    · subst e
      rw [if_pos rfl, if_pos rfl]
      exact ⟨⟨keepL h8.1.1, keepS hx⟩, fun b hb => by have := h8.2.1 b hb; omega, hxl⟩
    · rw [if_neg e, if_neg e]
      exact ⟨⟨keepL h8.1.1, keepS h8.1.2⟩, fun b hb => by have := h8.2.1 b hb; omega, fun b hb => by have := h8.2.2 b hb; omega⟩
theorem view_of_is {w : World} {v : Value} {zs : List Sam.E} (h : Sam.Is w v zs) : ∃ a n cap, v = .slice a n cap ∧ Samp.View w a n cap zs := by
  obtain ⟨-, a, cap, rfl, h2, h3, h4, h5⟩ := h
  exact ⟨a, _, cap, rfl, rfl, h2, h3, h4, fun h0 => by obtain ⟨b, off, e, hl, hc⟩ := h5 h0; exact ⟨b, off, e, hl, Sam.reads_of hc⟩⟩
end Go.Proofs.Ytncjagdnebpaaaa.Row
