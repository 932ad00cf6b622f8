/- How much slices hold, counted: of impl.Row. -/
import Derived.Test.YtomncodkbcngmaaRowLaw
namespace Go.Proofs.Ytomncodkbcngmaa.Row
open Go.RowKit Rw
set_option linter.unusedVariables false
attribute [local go_sem ↓] Go.wp_at_zero Go.wp_at_succ
def szOf (x : E) : Nat := Lab.tot (x.1) + Sam.tot (x.2)
def tot (zs : List E) : Nat := zs.foldl (fun a x => a + szOf x) zs.length
def totTo (zs : List E) (j : Nat) : Nat := (zs.take j).foldl (fun a x => a + szOf x) zs.length
theorem totTo_succ (zs : List E) (j : Nat) (h : j < zs.length) : totTo zs (j + 1) = totTo zs j + szOf (at' zs j) := by
  unfold totTo
  rw [at_snoc zs j h, List.foldl_append]
  rfl
theorem totTo_mono (zs : List E) : ∀ (i j : Nat), i ≤ j → j ≤ zs.length → totTo zs i ≤ totTo zs j
  | i, 0, h, _ => by obtain rfl : i = 0 := by omega
                     exact Nat.le_refl _
  | i, j + 1, h, hj => by
    by_cases e : i = j + 1
    · subst e; exact Nat.le_refl _
    · have h1 := totTo_mono zs i j (by omega) (by omega)
      rw [totTo_succ zs j (by omega)]
      omega
theorem totTo_all (zs : List E) : totTo zs zs.length = tot zs := by unfold totTo tot; rw [List.take_of_length_le (Nat.le_refl _)]
theorem tot_len (zs : List E) : zs.length ≤ tot zs := by have := totTo_mono zs 0 zs.length (Nat.zero_le _) (Nat.le_refl _); rw [totTo_all] at this; unfold totTo at this; simpa using this
theorem tot_at (zs : List E) (j : Nat) (h : j < zs.length) : szOf (at' zs j) ≤ tot zs := by
  have h1 := totTo_succ zs j h
  have h2 := totTo_mono zs (j + 1) zs.length (by omega) (Nat.le_refl _)
  rw [totTo_all] at h2
  omega
set_option maxHeartbeats 2000000 in
theorem sz_one {c : C} {x : E} {w : World} (left : Int) (h : Elem w c x) (hg : good x) (h0 : 0 ≤ left) (h1 : left ≤ 1048576) :
    Calls Try.prog 35 #[.agg #[c.1, c.2], .int .i64 left] w fun e w' => e = .returned (.int .i64 (if left - (szOf x : Int) < 0 then -1 else left - (szOf x : Int))) ∧ Below w.heap.size w w' := by
  obtain ⟨c0, c1⟩ := c
  obtain ⟨e0, e1⟩ := h
  obtain ⟨g0, g1⟩ := hg
  simp only at e0 e1
  have T0 := hide (fun W (hb : Below w.heap.size w W) (l : Int) (p0 : 0 ≤ l) (p1 : l ≤ 1048576) => Lab.sz_any l (e0.below hb) g0.1 g0.2 p0 p1)
  obtain ⟨t0, ht0⟩ : ∃ t, t = Lab.tot (x.1) := ⟨_, rfl⟩
  rw [← ht0] at T0
  have T1 := hide (fun W (hb : Below w.heap.size w W) (l : Int) (p0 : 0 ≤ l) (p1 : l ≤ 1048576) => Sam.sz_any l (e1.below hb) g1.1 g1.2 p0 p1)
  obtain ⟨t1, ht1⟩ : ∃ t, t = Sam.tot (x.2) := ⟨_, rfl⟩
  rw [← ht1] at T1
  have HS : szOf x = t0 + t1 := by unfold szOf; rw [ht0, ht1]
  rw [HS]
  clear HS ht0 e0 g0 ht1 e1 g1
  have B := (Below.refl w.heap.size w).alloc (Nat.le_refl _) (.cells #[c0, c1] 59)
  by_cases k0 : left - (t0 : Int) < 0
  · rw [if_pos (by omega)]
    go_enter Try.func35, Try.ntmps35
    go_wp2_with fail
    refine (unhide T0 _ B (left) (by omega) (by omega)).mono ?_
    rintro e v0 ⟨rfl, b0⟩
    have B0 := B.trans (b0.mono B.size)
    obtain ⟨bc0, bf0⟩ := bcell b0
    have z0 := b0.size
    simp only [World.size_alloc] at z0 bc0 bf0
    rw [if_pos (by omega)]
    go_wp2_with fail
    go_ret
    exact ⟨rfl, B0⟩
  by_cases k1 : left - (t0 : Int) - (t1 : Int) < 0
  · rw [if_pos (by omega)]
    go_enter Try.func35, Try.ntmps35
    go_wp2_with fail
    refine (unhide T0 _ B (left) (by omega) (by omega)).mono ?_
    rintro e v0 ⟨rfl, b0⟩
    have B0 := B.trans (b0.mono B.size)
    obtain ⟨bc0, bf0⟩ := bcell b0
    have z0 := b0.size
    simp only [World.size_alloc] at z0 bc0 bf0
    rw [if_neg (by omega)]
    have n0 : 0 ≤ left - (t0 : Int) := by omega
    go_wp2_with fail
    refine (unhide T1 _ B0 (left - (t0 : Int)) (by omega) (by omega)).mono ?_
    rintro e v1 ⟨rfl, b1⟩
    have B1 := B0.trans (b1.mono B0.size)
    obtain ⟨bc1, bf1⟩ := bcell b1
    have z1 := b1.size
    have bd1 : ∀ b o, b < w.heap.size + 1 → v1.cell? ⟨b, o, none⟩ = v0.cell? ⟨b, o, none⟩ := fun b o h => bc1 b o (by omega)
    clear bc1 bf1
    rw [if_pos (by omega)]
    go_wp2_with fail
    go_ret
    exact ⟨rfl, B1⟩
  rw [if_neg (by omega), show left - ((t0 + t1 : Nat) : Int) = left - (t0 : Int) - (t1 : Int) from by omega]
  go_enter Try.func35, Try.ntmps35
  go_wp2_with fail
  refine (unhide T0 _ B (left) (by omega) (by omega)).mono ?_
  rintro e v0 ⟨rfl, b0⟩
  have B0 := B.trans (b0.mono B.size)
  obtain ⟨bc0, bf0⟩ := bcell b0
  have z0 := b0.size
  simp only [World.size_alloc] at z0 bc0 bf0
  rw [if_neg (by omega)]
  have n0 : 0 ≤ left - (t0 : Int) := by omega
  go_wp2_with fail
  refine (unhide T1 _ B0 (left - (t0 : Int)) (by omega) (by omega)).mono ?_
  rintro e v1 ⟨rfl, b1⟩
  have B1 := B0.trans (b1.mono B0.size)
  obtain ⟨bc1, bf1⟩ := bcell b1
  have z1 := b1.size
  have bd1 : ∀ b o, b < w.heap.size + 1 → v1.cell? ⟨b, o, none⟩ = v0.cell? ⟨b, o, none⟩ := fun b o h => bc1 b o (by omega)
  clear bc1 bf1
  rw [if_neg (by omega)]
  have n1 : 0 ≤ left - (t0 : Int) - (t1 : Int) := by omega
  go_wp2_with fail
  go_ret
  exact ⟨rfl, B1⟩
set_option maxRecDepth 100000 in
set_option maxHeartbeats 2000000 in
theorem sz_any {w : World} {v : Value} {zs : List E} (left : Int) (h : Is w v zs) (hlm : zs.length ≤ maxLen) (hg : ∀ x ∈ zs, good x) (h0 : 0 ≤ left) (h1 : left ≤ 1048576) :
    Calls Try.prog 8 #[v, .int .i64 left] w fun e w' => e = .returned (.int .i64 (if left - (tot zs : Int) < 0 then -1 else left - (tot zs : Int))) ∧ Below w.heap.size w w' := by
  obtain ⟨cs, hcs, hL, hE⟩ := h
  have HE := hide hE
  obtain ⟨-, a, cap, rfl, hc, hm, -, hr⟩ := hL
  have HT := hide (tot_len zs)
  unfold maxLen at hm hlm
  obtain ⟨n, hn⟩ : ∃ n, n = zs.length := ⟨_, rfl⟩
  rw [← hn] at hc hr hlm hcs ⊢
  have HN := hide hn
  have HC := hide hcs
  have HG := hide hg
  have T0 := hide (show totTo zs 0 = n by rw [hn]; rfl)
  clear hn hg hE hcs
  by_cases hn0 : left - (n : Int) < 0
  · rw [if_pos (by have := unhide HT; have := unhide HN; omega)]
    go_enter Try.func8, Try.ntmps8
    go_wp2
    go_ret
    exact ⟨rfl, Below.refl _ _⟩
  obtain ⟨R, hR⟩ : ∃ R : Int, R = if left - (tot zs : Int) < 0 then -1 else left - (tot zs : Int) := ⟨_, rfl⟩
  rw [← hR]
  have HR := hide hR
  clear hR
  go_enter Try.func8, Try.ntmps8
  go_wp2
  go_loopw [1, 5] (fun lv i wr => ∃ (j : Nat), j ≤ n ∧ i = .int .i64 j ∧ lv = .int .i64 (left - (totTo zs j : Int)) ∧ 0 ≤ left - (totTo zs j : Int) ∧ Below w.heap.size w wr) (fun _ i _ => n - (intOf i).toNat)
  case atStart => exact ⟨0, Nat.zero_le _, rfl, by rw [unhide T0], by rw [unhide T0]; omega, Below.refl _ _⟩
  case round =>
    obtain ⟨j, hj, rfl, rfl, hleft, hbel⟩ := hrel
    have hsz := hbel.size
    by_cases hlt : j < n
    · obtain ⟨b, off, rfl, hl, hcells⟩ := hr (by omega)
      have fa := flat_at cs j (by have := unhide HC; omega)
      have HTS := hide (totTo_succ zs j (by have := unhide HN; omega))
      have HLe := hide (show totTo zs (j + 1) ≤ tot zs by rw [← totTo_all]; exact totTo_mono zs _ _ (by have := unhide HN; omega) (Nat.le_refl _))
      have HO := hide (sz_one (left - (totTo zs j : Int)) ((unhide HE j (by have := unhide HN; omega)).below hbel) (unhide HG _ (at_mem zs j (by have := unhide HN; omega))) hleft (by omega))
      obtain ⟨c0, c1, hX⟩ : ∃ c0 c1, (c0, c1) = cat cs j := ⟨_, _, rfl⟩
      rw [← hX] at fa HO
      have hc0 : wr.cell? ⟨b, off + j * 2, none⟩ = some c0 := (hbel.cell (p := ⟨b, _, none⟩) hl).trans (hcells (j * 2) _ fa.1)
      have hc1 : wr.cell? ⟨b, off + j * 2 + 1, none⟩ = some c1 := (hbel.cell (p := ⟨b, _, none⟩) hl).trans (hcells (j * 2 + 1) _ fa.2)
      have hk0 : (0 : Int) ≤ (j : Int) := Int.natCast_nonneg _
      have hk1 : (j : Int) < (n : Int) := by omega
      clear hX fa
      simp only at HO
      obtain ⟨M, hM⟩ : ∃ M, M = szOf (at' zs j) := ⟨_, rfl⟩
      rw [← hM] at HO HTS
      clear hM
      generalize totTo zs j = Q at *
      go_wp2_with fail
      refine (unhide HO).mono ?_
      rintro e w2 ⟨rfl, b2⟩
      by_cases hneg : left - (Q : Int) - (M : Int) < 0
      · rw [if_pos hneg]
        have HRn := hide (show R = -1 by rw [unhide HR, if_pos]; have := unhide HLe; have := unhide HTS; omega)
        go_wp2
        go_ret
        exact ⟨ret_int (unhide HRn).symm, hbel.trans (b2.mono hsz)⟩
      · rw [if_neg hneg]
        have hle0 : 0 ≤ left - (Q : Int) - (M : Int) := by omega
        go_wp2
        go_roundw
        case rel => exact ⟨j + 1, by omega, by go_num, by rw [unhide HTS]; go_num, by rw [unhide HTS]; omega, hbel.trans (b2.mono hsz)⟩
        case measure => simp [intOf]; omega
    · obtain rfl : j = n := by omega
      have HRp := hide (show R = left - (totTo zs j : Int) by rw [unhide HR]; have e := totTo_all zs; rw [← unhide HN] at e; rw [← e, if_neg (by omega)])
      go_wp2
      go_ret
      exact ⟨ret_int (unhide HRp).symm, hbel⟩
end Go.Proofs.Ytomncodkbcngmaa.Row
