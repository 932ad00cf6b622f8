/- My own texts of one claim, laid together by program: RowSz, RowTo, RowEq, RowTiny. -/
import Derived.Test.YtlboekimnhgfdaaGreatG5b9f8c3b84
/- How much slices hold, counted: of impl.Row. -/
namespace Go.Proofs.YtlboekimnhgfdaaGreat.Row
open Go.RowKit Rw
set_option linter.unusedVariables false
attribute [local go_sem ↓] Go.wp_at_zero Go.wp_at_succ
def szOf (x : E) : Nat := Lab.tot (x.1) + Sam.tot (x.2)
def tot (zs : List E) : Nat := zs.foldl (fun a x => a + szOf x) zs.length
def totTo (zs : List E) (j : Nat) : Nat := (zs.take j).foldl (fun a x => a + szOf x) zs.length
theorem totTo_succ (zs : List E) (j : Nat) (h : j < zs.length) : totTo zs (j + 1) = totTo zs j + szOf (at' zs j) := by
  unfold totTo
  rw [at_snoc zs j h, List.foldl_append]
  rfl
theorem totTo_mono (zs : List E) : ∀ (i j : Nat), i ≤ j → j ≤ zs.length → totTo zs i ≤ totTo zs j
  | i, 0, h, _ => by obtain rfl : i = 0 := by omega
                     exact Nat.le_refl _
  | i, j + 1, h, hj => by
    by_cases e : i = j + 1
    · subst e; exact Nat.le_refl _
    · have h1 := totTo_mono zs i j (by omega) (by omega)
      rw [totTo_succ zs j (by omega)]
      omega
theorem totTo_all (zs : List E) : totTo zs zs.length = tot zs := by unfold totTo tot; rw [List.take_of_length_le (Nat.le_refl _)]
theorem tot_len (zs : List E) : zs.length ≤ tot zs := by have := totTo_mono zs 0 zs.length (Nat.zero_le _) (Nat.le_refl _); rw [totTo_all] at this; unfold totTo at this; simpa using this
theorem tot_at (zs : List E) (j : Nat) (h : j < zs.length) : szOf (at' zs j) ≤ tot zs := by
  have h1 := totTo_succ zs j h
  have h2 := totTo_mono zs (j + 1) zs.length (by omega) (Nat.le_refl _)
  rw [totTo_all] at h2
  omega
set_option maxHeartbeats 2000000 in
theorem sz_one {c : C} {x : E} {w : World} (left : Int) (h : Elem w c x) (hg : good x) (h0 : 0 ≤ left) (h1 : left ≤ 1048576) :
    Calls Tryz.prog 78 #[.agg #[c.1, c.2], .int .i64 left] w fun e w' => e = .returned (.int .i64 (if left - (szOf x : Int) < 0 then -1 else left - (szOf x : Int))) ∧ Below w.heap.size w w' := by
  obtain ⟨c0, c1⟩ := c
  obtain ⟨e0, e1⟩ := h
  obtain ⟨g0, g1⟩ := hg
  simp only at e0 e1
  have T0 := hide (fun W (hb : Below w.heap.size w W) (l : Int) (p0 : 0 ≤ l) (p1 : l ≤ 1048576) => Lab.sz_any l (e0.below hb) g0.1 g0.2 p0 p1)
  obtain ⟨t0, ht0⟩ : ∃ t, t = Lab.tot (x.1) := ⟨_, rfl⟩
  rw [← ht0] at T0
  have T1 := hide (fun W (hb : Below w.heap.size w W) (l : Int) (p0 : 0 ≤ l) (p1 : l ≤ 1048576) => Sam.sz_any l (e1.below hb) g1.1 g1.2 p0 p1)
  obtain ⟨t1, ht1⟩ : ∃ t, t = Sam.tot (x.2) := ⟨_, rfl⟩
  rw [← ht1] at T1
  have HS : szOf x = t0 + t1 := by unfold szOf; rw [ht0, ht1]
  rw [HS]
  clear HS ht0 e0 g0 ht1 e1 g1
  have B := (Below.refl w.heap.size w).alloc (Nat.le_refl _) (.cells #[c0, c1] 110)
  by_cases k0 : left - (t0 : Int) < 0
  · rw [if_pos (by omega)]
    go_enter Tryz.func78, Tryz.ntmps78
    go_wp2_with fail
    refine (unhide T0 _ B (left) (by omega) (by omega)).mono ?_
    rintro e v0 ⟨rfl, b0⟩
    have B0 := B.trans (b0.mono B.size)
    obtain ⟨bc0, bf0⟩ := bcell b0
    have z0 := b0.size
    simp only [World.size_alloc] at z0 bc0 bf0
    rw [if_pos (by omega)]
    go_wp2_with fail
    go_ret
    exact ⟨rfl, B0⟩
  by_cases k1 : left - (t0 : Int) - (t1 : Int) < 0
  · rw [if_pos (by omega)]
    go_enter Tryz.func78, Tryz.ntmps78
    go_wp2_with fail
    refine (unhide T0 _ B (left) (by omega) (by omega)).mono ?_
    rintro e v0 ⟨rfl, b0⟩
    have B0 := B.trans (b0.mono B.size)
    obtain ⟨bc0, bf0⟩ := bcell b0
    have z0 := b0.size
    simp only [World.size_alloc] at z0 bc0 bf0
    rw [if_neg (by omega)]
    have n0 : 0 ≤ left - (t0 : Int) := by omega
    go_wp2_with fail
    refine (unhide T1 _ B0 (left - (t0 : Int)) (by omega) (by omega)).mono ?_
    rintro e v1 ⟨rfl, b1⟩
    have B1 := B0.trans (b1.mono B0.size)
    obtain ⟨bc1, bf1⟩ := bcell b1
    have z1 := b1.size
    have bd1 : ∀ b o, b < w.heap.size + 1 → v1.cell? ⟨b, o, none⟩ = v0.cell? ⟨b, o, none⟩ := fun b o h => bc1 b o (by omega)
    clear bc1 bf1
    rw [if_pos (by omega)]
    go_wp2_with fail
    go_ret
    exact ⟨rfl, B1⟩
  rw [if_neg (by omega), show left - ((t0 + t1 : Nat) : Int) = left - (t0 : Int) - (t1 : Int) from by omega]
  go_enter Tryz.func78, Tryz.ntmps78
  go_wp2_with fail
  refine (unhide T0 _ B (left) (by omega) (by omega)).mono ?_
  rintro e v0 ⟨rfl, b0⟩
  have B0 := B.trans (b0.mono B.size)
  obtain ⟨bc0, bf0⟩ := bcell b0
  have z0 := b0.size
  simp only [World.size_alloc] at z0 bc0 bf0
  rw [if_neg (by omega)]
  have n0 : 0 ≤ left - (t0 : Int) := by omega
  go_wp2_with fail
  refine (unhide T1 _ B0 (left - (t0 : Int)) (by omega) (by omega)).mono ?_
  rintro e v1 ⟨rfl, b1⟩
  have B1 := B0.trans (b1.mono B0.size)
  obtain ⟨bc1, bf1⟩ := bcell b1
  have z1 := b1.size
  have bd1 : ∀ b o, b < w.heap.size + 1 → v1.cell? ⟨b, o, none⟩ = v0.cell? ⟨b, o, none⟩ := fun b o h => bc1 b o (by omega)
  clear bc1 bf1
  rw [if_neg (by omega)]
  have n1 : 0 ≤ left - (t0 : Int) - (t1 : Int) := by omega
  go_wp2_with fail
  go_ret
  exact ⟨rfl, B1⟩
set_option maxRecDepth 100000 in
set_option maxHeartbeats 2000000 in
theorem sz_any {w : World} {v : Value} {zs : List E} (left : Int) (h : Is w v zs) (hlm : zs.length ≤ maxLen) (hg : ∀ x ∈ zs, good x) (h0 : 0 ≤ left) (h1 : left ≤ 1048576) :
    Calls Tryz.prog 39 #[v, .int .i64 left] w fun e w' => e = .returned (.int .i64 (if left - (tot zs : Int) < 0 then -1 else left - (tot zs : Int))) ∧ Below w.heap.size w w' := by
  obtain ⟨cs, hcs, hL, hE⟩ := h
  have HE := hide hE
  obtain ⟨-, a, cap, rfl, hc, hm, -, hr⟩ := hL
  have HT := hide (tot_len zs)
  unfold maxLen at hm hlm
  obtain ⟨n, hn⟩ : ∃ n, n = zs.length := ⟨_, rfl⟩
  rw [← hn] at hc hr hlm hcs ⊢
  have HN := hide hn
  have HC := hide hcs
  have HG := hide hg
  have T0 := hide (show totTo zs 0 = n by rw [hn]; rfl)
  clear hn hg hE hcs
  by_cases hn0 : left - (n : Int) < 0
  · rw [if_pos (by have := unhide HT; have := unhide HN; omega)]
    go_enter Tryz.func39, Tryz.ntmps39
    go_wp2
    go_ret
    exact ⟨rfl, Below.refl _ _⟩
  obtain ⟨R, hR⟩ : ∃ R : Int, R = if left - (tot zs : Int) < 0 then -1 else left - (tot zs : Int) := ⟨_, rfl⟩
  rw [← hR]
  have HR := hide hR
  clear hR
  go_enter Tryz.func39, Tryz.ntmps39
  go_wp2
  go_loopw [1, 5] (fun lv i wr => ∃ (j : Nat), j ≤ n ∧ i = .int .i64 j ∧ lv = .int .i64 (left - (totTo zs j : Int)) ∧ 0 ≤ left - (totTo zs j : Int) ∧ Below w.heap.size w wr) (fun _ i _ => n - (intOf i).toNat)
  case atStart => exact ⟨0, Nat.zero_le _, rfl, by rw [unhide T0], by rw [unhide T0]; omega, Below.refl _ _⟩
  case round =>
    obtain ⟨j, hj, rfl, rfl, hleft, hbel⟩ := hrel
    have hsz := hbel.size
    by_cases hlt : j < n
    · obtain ⟨b, off, rfl, hl, hcells⟩ := hr (by omega)
      have fa := flat_at cs j (by have := unhide HC; omega)
      have HTS := hide (totTo_succ zs j (by have := unhide HN; omega))
      have HLe := hide (show totTo zs (j + 1) ≤ tot zs by rw [← totTo_all]; exact totTo_mono zs _ _ (by have := unhide HN; omega) (Nat.le_refl _))
      have HO := hide (sz_one (left - (totTo zs j : Int)) ((unhide HE j (by have := unhide HN; omega)).below hbel) (unhide HG _ (at_mem zs j (by have := unhide HN; omega))) hleft (by omega))
      obtain ⟨c0, c1, hX⟩ : ∃ c0 c1, (c0, c1) = cat cs j := ⟨_, _, rfl⟩
      rw [← hX] at fa HO
      have hc0 : wr.cell? ⟨b, off + j * 2, none⟩ = some c0 := (hbel.cell (p := ⟨b, _, none⟩) hl).trans (hcells (j * 2) _ fa.1)
      have hc1 : wr.cell? ⟨b, off + j * 2 + 1, none⟩ = some c1 := (hbel.cell (p := ⟨b, _, none⟩) hl).trans (hcells (j * 2 + 1) _ fa.2)
      have hk0 : (0 : Int) ≤ (j : Int) := Int.natCast_nonneg _
      have hk1 : (j : Int) < (n : Int) := by omega
      clear hX fa
      simp only at HO
      obtain ⟨M, hM⟩ : ∃ M, M = szOf (at' zs j) := ⟨_, rfl⟩
      rw [← hM] at HO HTS
      clear hM
      generalize totTo zs j = Q at *
      go_wp2_with fail
      refine (unhide HO).mono ?_
      rintro e w2 ⟨rfl, b2⟩
      by_cases hneg : left - (Q : Int) - (M : Int) < 0
      · rw [if_pos hneg]
        have HRn := hide (show R = -1 by rw [unhide HR, if_pos]; have := unhide HLe; have := unhide HTS; omega)
        go_wp2
        go_ret
        exact ⟨ret_int (unhide HRn).symm, hbel.trans (b2.mono hsz)⟩
      · rw [if_neg hneg]
        have hle0 : 0 ≤ left - (Q : Int) - (M : Int) := by omega
        go_wp2
        go_roundw
        case rel => exact ⟨j + 1, by omega, by go_num, by rw [unhide HTS]; go_num, by rw [unhide HTS]; omega, hbel.trans (b2.mono hsz)⟩
        case measure => simp [intOf]; omega
    · obtain rfl : j = n := by omega
      have HRp := hide (show R = left - (totTo zs j : Int) by rw [unhide HR]; have e := totTo_all zs; rw [← unhide HN] at e; rw [← e, if_neg (by omega)])
      go_wp2
      go_ret
      exact ⟨ret_int (unhide HRp).symm, hbel⟩
end Go.Proofs.YtlboekimnhgfdaaGreat.Row

/- The laws' copies of slices of impl.Row. -/
namespace Go.Proofs.YtlboekimnhgfdaaGreat.Row
open Go.RowKit Rw
set_option linter.unusedVariables false
attribute [local go_sem ↓] Go.wp_at_zero Go.wp_at_succ
theorem set_e (A : List Value) (u0 u1 x0 x1 : Value) (L : List Value) (k : Nat) (h : A.length = k) : (((A ++ u0 :: u1 :: L).set k x0).set (k + 1) x1) = A ++ [x0, x1] ++ L := by
  subst h
  simp [List.set_append_right]
theorem split_e (r : List Value) (n : Nat) (h : r.length = (n + 1) * 2) : ∃ u0 u1 L, r = u0 :: u1 :: L ∧ L.length = n * 2 := by
  match r, h with
  | u0 :: u1 :: L, h => exact ⟨u0, u1, L, rfl, by simp only [List.length_cons] at h; omega⟩
  | [], h => simp at h <;> omega
  | [_], h => simp at h <;> omega
set_option maxHeartbeats 2000000 in
theorem to_one {c : C} {x : E} {w : World} (h : Elem w c x) (ht : tiny x) : Calls Tryz.prog 81 #[.agg #[c.1, c.2]] w fun e w' => ∃ c' : C, e = .returned (.agg #[c'.1, c'.2]) ∧ Elem w' c' x ∧ far w.heap.size c' ∧ Below w.heap.size w w' := by
  obtain ⟨c0, c1⟩ := c
  obtain ⟨h0, h1⟩ := h
  simp only at h0 h1
  have T0 := hide (fun W (hb : Below w.heap.size w W) => Lab.to_any (h0.below hb) (ht.1))
  have T1 := hide (fun W (hb : Below w.heap.size w W) => Sam.to_any (h1.below hb) (ht.2))
  clear h0 h1 ht
  obtain ⟨l0, hl0⟩ : ∃ l, l = (x.1).length := ⟨_, rfl⟩
  rw [← hl0] at T0
  have HL0 := hide hl0
  clear hl0
  obtain ⟨l1, hl1⟩ : ∃ l, l = (x.2).length := ⟨_, rfl⟩
  rw [← hl1] at T1
  have HL1 := hide hl1
  clear hl1
  have B := (((Below.refl w.heap.size w).alloc (Nat.le_refl _) (.cells #[c0, c1] 110)).alloc (by simp) (.cells #[.slice none 0 0, .slice none 0 0] 93)).alloc (by simp; omega) (.cells #[.slice none 0 0, .slice none 0 0] 93)
  go_enter Tryz.func81, Tryz.ntmps81
  go_wp2_with fail
  refine (unhide T0 _ B).mono ?_
  rintro e v0 ⟨rfl, r0, b0⟩
  obtain ⟨bc0, bf0⟩ := bcell b0
  have z0 := b0.size
  have B0 := B.trans (b0.mono B.size)
  simp only [World.size_alloc] at z0 bc0 bf0 r0 ⊢
  clear b0
  have I0 := hide (show Lab.Is v0 (.slice (some ⟨w.heap.size + 1 + 1 + 1, 0, none⟩) l0 l0) (x.1) by rw [unhide HL0] at r0 ⊢; exact Lab.is_of_own r0)
  clear r0
  have Bs0 := B0.setCell (p := ⟨w.heap.size + 1 + 1, 0, none⟩) (by show w.heap.size ≤ w.heap.size + 1 + 1; omega) (.slice (some ⟨w.heap.size + 1 + 1 + 1, 0, none⟩) l0 l0)
  clear B0
  have I0 := hide (((OnlyAt.refl (w.heap.size + 1 + 1) _).setCell 0 (.slice (some ⟨w.heap.size + 1 + 1 + 1, 0, none⟩) l0 l0)).lies (unhide I0) (fun k hk => by cases hk; dsimp only; omega))
  go_wp2_with fail
  refine (unhide T1 _ Bs0).mono ?_
  rintro e v1 ⟨rfl, r1, b1⟩
  obtain ⟨bc1, bf1⟩ := bcell b1
  have z1 := b1.size
  have B1 := Bs0.trans (b1.mono Bs0.size)
  have I0 := hide ((unhide I0).below b1)
  simp only [World.size_setCell] at z1 bc1 bf1 r1 ⊢
  clear b1
  have bd1 : ∀ b o, b < w.heap.size + 1 + 1 + 1 → v1.cell? ⟨b, o, none⟩ = _ := fun b o h => bc1 b o (by omega)
  have be1 : ∀ b o, b < w.heap.size + 1 + 1 + 1 → v1.frozen? ⟨b, o, none⟩ = v0.frozen? ⟨b, o, none⟩ := fun b o h => (bf1 b o (by omega)).trans (World.frozen?_setCell _ _ _ _)
  clear bc1 bf1
  have I1 := hide (show Sam.Is v1 (.slice (some ⟨v0.heap.size, 0, none⟩) l1 l1) (x.2) by rw [unhide HL1] at r1 ⊢; exact Sam.is_of_own r1)
  clear r1
  have Bs1 := B1.setCell (p := ⟨w.heap.size + 1 + 1, 1, none⟩) (by show w.heap.size ≤ w.heap.size + 1 + 1; omega) (.slice (some ⟨v0.heap.size, 0, none⟩) l1 l1)
  clear B1
  have I0 := hide (((OnlyAt.refl (w.heap.size + 1 + 1) _).setCell 1 (.slice (some ⟨v0.heap.size, 0, none⟩) l1 l1)).lies (unhide I0) (fun k hk => by cases hk; dsimp only; omega))
  have I1 := hide (((OnlyAt.refl (w.heap.size + 1 + 1) _).setCell 1 (.slice (some ⟨v0.heap.size, 0, none⟩) l1 l1)).lies (unhide I1) (fun k hk => by cases hk; dsimp only; omega))
  have Br0 := Bs1.setCell (p := ⟨w.heap.size + 1, 0, none⟩) (by show w.heap.size ≤ w.heap.size + 1; omega) (.slice (some ⟨w.heap.size + 1 + 1 + 1, 0, none⟩) l0 l0)
  clear Bs1
  have I0 := hide (((OnlyAt.refl (w.heap.size + 1) _).setCell 0 (.slice (some ⟨w.heap.size + 1 + 1 + 1, 0, none⟩) l0 l0)).lies (unhide I0) (fun k hk => by cases hk; dsimp only; omega))
  have I1 := hide (((OnlyAt.refl (w.heap.size + 1) _).setCell 0 (.slice (some ⟨w.heap.size + 1 + 1 + 1, 0, none⟩) l0 l0)).lies (unhide I1) (fun k hk => by cases hk; dsimp only; omega))
  have Br1 := Br0.setCell (p := ⟨w.heap.size + 1, 1, none⟩) (by show w.heap.size ≤ w.heap.size + 1; omega) (.slice (some ⟨v0.heap.size, 0, none⟩) l1 l1)
  clear Br0
  have I0 := hide (((OnlyAt.refl (w.heap.size + 1) _).setCell 1 (.slice (some ⟨v0.heap.size, 0, none⟩) l1 l1)).lies (unhide I0) (fun k hk => by cases hk; dsimp only; omega))
  have I1 := hide (((OnlyAt.refl (w.heap.size + 1) _).setCell 1 (.slice (some ⟨v0.heap.size, 0, none⟩) l1 l1)).lies (unhide I1) (fun k hk => by cases hk; dsimp only; omega))
  go_wp2
  refine bodyPost_ret (v := .agg #[(.slice (some ⟨w.heap.size + 1 + 1 + 1, 0, none⟩) l0 l0), (.slice (some ⟨v0.heap.size, 0, none⟩) l1 l1)]) (by simp [results, Tryz.results81, go_sem, bc0, bd1]) rfl ⟨((.slice (some ⟨w.heap.size + 1 + 1 + 1, 0, none⟩) l0 l0), (.slice (some ⟨v0.heap.size, 0, none⟩) l1 l1)), rfl, ⟨unhide I0, unhide I1⟩, ⟨fun k hk => by cases hk; dsimp only; omega, fun k hk => by cases hk; dsimp only; omega⟩, Br1⟩
set_option maxRecDepth 100000 in
set_option maxHeartbeats 4000000 in
theorem to_any {w : World} {v : Value} {zs : List E} (h : Is w v zs) (hlen : zs.length ≤ 2097152) (ht : ∀ x ∈ zs, tiny x) :
    Calls Tryz.prog 42 #[v] w fun e w' => e = .returned (.slice (some ⟨w.heap.size, 0, none⟩) zs.length zs.length) ∧ IsF w.heap.size w' (.slice (some ⟨w.heap.size, 0, none⟩) zs.length zs.length) zs ∧ Below w.heap.size w w' := by
  obtain ⟨i0, hi, hz0, hz1, hz2⟩ := info_parts info_e
  obtain ⟨cs, hcs, hL, hE⟩ := h
  have HE := hide hE
  have HTt := hide ht
  obtain ⟨-, a, cap, rfl, hc, hm, -, hr⟩ := hL
  unfold maxLen at hm
  obtain ⟨n, hn⟩ : ∃ n, n = zs.length := ⟨_, rfl⟩
  rw [← hn] at hc hr hlen hcs ⊢
  have HN := hide hn
  have HC := hide hcs
  clear hn hE ht hcs
  go_enter Tryz.func42, Tryz.ntmps42
  go_wp2_with (at_make; refine wpList_make_full _ rfl _ _ _ rfl w.heap.size 93 i0 (.agg #[.slice none 0 0, .slice none 0 0]) 2 Tryz.underlying28 hi hz0 hz1 .i64 .i64 _ _ n rfl rfl rfl rfl (by rw [hz2]; omega) (by unfold maxLen; omega) (Nat.le_refl _) ?_; intro w1 hown1 hgrow1)
  go_loopw [4] (fun i wr => ∃ (j : Nat) (r : List Value) (ds : List C), j ≤ n ∧ i = .int .i64 j ∧ r.length = (n - j) * 2 ∧ ds.length = j ∧ wr.ownsRow w.heap.size 93 2 (.slice (some ⟨w.heap.size, 0, none⟩) n n) n (flatOf cl ds ++ r) ∧ Hid (∀ i, i < j → Elem wr (cat ds i) (at' zs i) ∧ far (w.heap.size + 1) (cat ds i)) ∧ Below w.heap.size w wr) (fun i _ => n - (intOf i).toNat)
  case atStart =>
    refine ⟨0, _, [], Nat.zero_le _, rfl, ?_, rfl, hown1, hide (fun i h => by omega), below_grown (Below.refl _ _) (Nat.le_refl _) hgrow1 (by simp)⟩
    have := hown1.1
    simpa using this
  case round =>
    obtain ⟨j, r, ds, hj, rfl, hrl, hdl, hown, HD, hbel⟩ := hrel
    have hsz := own_lt hown
    by_cases hlt : j < n
    · obtain ⟨u0, u1, L, rfl, hB⟩ := split_e r (n - j - 1) (by rw [hrl]; omega)
      obtain ⟨b, off, rfl, hl, hcells⟩ := hr (by omega)
      have fa := flat_at cs j (by have := unhide HC; omega)
      have hc0 : wr.cell? ⟨b, off + j * 2, none⟩ = some ((cat cs j).1) := (hbel.cell (p := ⟨b, _, none⟩) hl).trans (hcells (j * 2) _ fa.1)
      have hc1 : wr.cell? ⟨b, off + j * 2 + 1, none⟩ = some ((cat cs j).2) := (hbel.cell (p := ⟨b, _, none⟩) hl).trans (hcells (j * 2 + 1) _ fa.2)
      have fln : (flatOf cl ds).length = j * 2 := by rw [flatOf_length clk, hdl]
      have hd0 : wr.cell? ⟨w.heap.size, j * 2, none⟩ = some u0 := by rw [hown.cellAt (j * 2) (by omega)]; simp [fln]
      have hf0 := hown.frozenAt (j * 2)
      have hd1 : wr.cell? ⟨w.heap.size, j * 2 + 1, none⟩ = some u1 := by rw [hown.cellAt (j * 2 + 1) (by omega)]; simp [fln]
      have hf1 := hown.frozenAt (j * 2 + 1)
      have hk0 : (0 : Int) ≤ (j : Int) := Int.natCast_nonneg _
      have hk1 : (j : Int) < (n : Int) := by omega
      have HO := hide (to_one ((unhide HE j (by have := unhide HN; omega)).below hbel) (unhide HTt _ (at_mem zs j (by have := unhide HN; omega))))
      obtain ⟨c0, c1, hX⟩ : ∃ c0 c1, (c0, c1) = cat cs j := ⟨_, _, rfl⟩
      rw [← hX] at hc0 hc1 HO
      clear hX fa
      have HF := hide fln
      clear fln
      simp only at HO
      go_wp2_with (go_at_call 81; refine (unhide HO).mono ?_; rintro e w2 ⟨⟨d0, d1⟩, rfl, hE2, hF2, hb2⟩; obtain ⟨bc, bf⟩ := bcell hb2; obtain ⟨a0, q0, f0, -, -⟩ := hE2.1.form; simp only at f0; subst f0; obtain ⟨a1, q1, f1, -, -⟩ := hE2.2.form; simp only at f1; subst f1)
      have o0 := ((own_below hown hb2).stored (j * 2) (.slice a0 ((at' zs j).1).length q0)).1
      have o1 := (o0.stored (j * 2 + 1) (.slice a1 ((at' zs j).2).length q1)).1
      rw [set_e _ _ _ _ _ _ _ (unhide HF)] at o1
      have e2 : flatOf cl (ds ++ [((.slice a0 ((at' zs j).1).length q0), (.slice a1 ((at' zs j).2).length q1))]) = flatOf cl ds ++ [(.slice a0 ((at' zs j).1).length q0), (.slice a1 ((at' zs j).2).length q1)] := by rw [flatOf_append, flatOf_one]; rfl
      rw [← e2] at o1
      have R := hide (((hbel.trans (hb2.mono (by omega))).setCell (p := ⟨w.heap.size, j * 2, none⟩) (Nat.le_refl _) (.slice a0 ((at' zs j).1).length q0)).setCell (p := ⟨w.heap.size, j * 2 + 1, none⟩) (Nat.le_refl _) (.slice a1 ((at' zs j).2).length q1))
      have O := hide o1
      have oa := hide (((OnlyAt.refl w.heap.size w2).setCell (j * 2) (.slice a0 ((at' zs j).1).length q0)).setCell (j * 2 + 1) (.slice a1 ((at' zs j).2).length q1))
      have HD' := hide (show ∀ i, i < j + 1 → Elem _ (cat (ds ++ [((.slice a0 ((at' zs j).1).length q0), (.slice a1 ((at' zs j).2).length q1))]) i) (at' zs i) ∧ far (w.heap.size + 1) (cat (ds ++ [((.slice a0 ((at' zs j).1).length q0), (.slice a1 ((at' zs j).2).length q1))]) i) from fun i hi => by
        by_cases hij : i < j
        · have h := unhide HD i hij
          rw [cat_lt _ _ _ (by omega)]
          exact ⟨(h.1.below hb2).only (unhide oa) h.2, h.2⟩
        · obtain rfl : i = j := by omega
          have hF3 := hF2.mono (show w.heap.size + 1 ≤ wr.heap.size from hsz)
          rw [show i = ds.length from hdl.symm, cat_last]
          rw [hdl]
          exact ⟨hE2.only (unhide oa) hF3, hF3⟩)
      clear o0 o1 e2 hown bc bf hd0 hf0 hd1 hf1 hE2 hF2 HD oa
      go_wp2_with fail
      go_roundw
      case rel => exact ⟨j + 1, L, ds ++ [((.slice a0 ((at' zs j).1).length q0), (.slice a1 ((at' zs j).2).length q1))], by omega, by go_num, by omega, by simp [hdl], unhide O, HD', unhide R⟩
      case measure => simp [intOf]; omega
    · obtain rfl : j = n := by omega
      obtain rfl : r = [] := List.eq_nil_of_length_eq_zero (by rw [hrl]; omega)
      rw [List.append_nil] at hown
      have hI := hide (show IsF w.heap.size wr (.slice (some ⟨w.heap.size, 0, none⟩) j j) zs from ⟨ds, by have := unhide HN; omega, by rw [← unhide HN]; exact lies_of_own hown, own_ge hown, fun i hi => ⟨(unhide HD i (by have := unhide HN; omega)).1, (unhide HD i (by have := unhide HN; omega)).2.mono (Nat.le_succ _)⟩⟩)
      clear hown HD
      go_wp2
      go_ret
      exact ⟨rfl, unhide hI, hbel⟩
end Go.Proofs.YtlboekimnhgfdaaGreat.Row

/- Whether slices are the same: of impl.Row. -/
namespace Go.Proofs.YtlboekimnhgfdaaGreat.Row
open Go.RowKit Rw
set_option linter.unusedVariables false
attribute [local go_sem ↓] Go.wp_at_zero Go.wp_at_succ
set_option maxHeartbeats 2000000 in
theorem eq_one {c d : C} {x : E} {w : World} (h : Elem w c x) (h' : Elem w d x) : Calls Tryz.prog 86 #[.agg #[c.1, c.2], .agg #[d.1, d.2]] w fun e w' => e = .returned (.bool true) ∧ Below w.heap.size w w' := by
  obtain ⟨c0, c1⟩ := c
  obtain ⟨d0, d1⟩ := d
  obtain ⟨h0, h1⟩ := h
  obtain ⟨g0, g1⟩ := h'
  simp only at h0 h1 g0 g1
  have T0 := hide (fun W (hb : Below w.heap.size w W) => Lab.eq_any (h0.below hb) (g0.below hb))
  have T1 := hide (fun W (hb : Below w.heap.size w W) => Sam.eq_any (h1.below hb) (g1.below hb))
  clear h0 g0 h1 g1
  have B := ((Below.refl w.heap.size w).alloc (Nat.le_refl _) (.cells #[c0, c1] 93)).alloc (by simp) (.cells #[d0, d1] 93)
  go_enter Tryz.func86, Tryz.ntmps86
  go_wp2_with fail
  refine (unhide T0 _ B).mono ?_
  rintro e v0 ⟨rfl, b0⟩
  obtain ⟨bc0, bf0⟩ := bcell b0
  have z0 := b0.size
  have B0 := B.trans (b0.mono B.size)
  simp only [World.size_alloc] at z0 bc0 bf0
  go_wp2_with fail
  refine (unhide T1 _ B0).mono ?_
  rintro e v1 ⟨rfl, b1⟩
  obtain ⟨bc1, bf1⟩ := bcell b1
  have z1 := b1.size
  have B1 := B0.trans (b1.mono B0.size)
  have bd1 : ∀ b o, b < w.heap.size + 1 + 1 → v1.cell? ⟨b, o, none⟩ = v0.cell? ⟨b, o, none⟩ := fun b o h => bc1 b o (by omega)
  clear bc1 bf1
  go_wp2
  go_ret
  exact ⟨rfl, B1⟩
set_option maxRecDepth 100000 in
set_option maxHeartbeats 2000000 in
theorem eq_any {v u : Value} {zs : List E} {w : World} (h : Is w v zs) (h' : Is w u zs) : Calls Tryz.prog 46 #[v, u] w fun e w' => e = .returned (.bool true) ∧ Below w.heap.size w w' := by
  obtain ⟨cs, hcs, hL, hE⟩ := h
  obtain ⟨ds, hds, hL', hE'⟩ := h'
  have HE := hide hE
  have HE' := hide hE'
  obtain ⟨-, a, cap, rfl, hc, hm, -, hr⟩ := hL
  obtain ⟨-, a', cap', rfl, hc', hm', -, hr'⟩ := hL'
  unfold maxLen at hm hm'
  obtain ⟨n, hn⟩ : ∃ n, n = zs.length := ⟨_, rfl⟩
  rw [← hn] at hc hr hc' hr' hcs hds ⊢
  have HN := hide hn
  have HC := hide hcs
  have HD := hide hds
  clear hn hE hE' hcs hds
  go_enter Tryz.func46, Tryz.ntmps46
  go_wp2
  go_loopw [5] (fun i wr => ∃ (j : Nat), j ≤ n ∧ i = .int .i64 j ∧ Below w.heap.size w wr) (fun i _ => n - (intOf i).toNat)
  case atStart => exact ⟨0, Nat.zero_le _, rfl, Below.refl _ _⟩
  case round =>
    obtain ⟨j, hj, rfl, hbel⟩ := hrel
    have hsz := hbel.size
    by_cases hlt : j < n
    · obtain ⟨b, off, rfl, hl, hcells⟩ := hr (by omega)
      obtain ⟨b', off', rfl, hl', hcells'⟩ := hr' (by omega)
      have fa := flat_at cs j (by have := unhide HC; omega)
      have fb := flat_at ds j (by have := unhide HD; omega)
      have HO := hide (fun x : Cls wr.heap.size wr => eq_one (((unhide HE j (by have := unhide HN; omega)).below hbel).below x.isBelow) (((unhide HE' j (by have := unhide HN; omega)).below hbel).below x.isBelow))
      obtain ⟨c0, c1, hX⟩ : ∃ c0 c1, (c0, c1) = cat cs j := ⟨_, _, rfl⟩
      obtain ⟨d0, d1, hY⟩ : ∃ d0 d1, (d0, d1) = cat ds j := ⟨_, _, rfl⟩
      rw [← hX] at fa HO
      rw [← hY] at fb HO
      have hq0 : ∀ x : Cls wr.heap.size wr, x.val.cell? ⟨b, off + j * 2, none⟩ = some c0 := fun x => by rw [x.cell (by omega)]; exact (hbel.cell (p := ⟨b, _, none⟩) hl).trans (hcells (j * 2) _ fa.1)
      have hp0 : ∀ x : Cls wr.heap.size wr, x.val.cell? ⟨b', off' + j * 2, none⟩ = some d0 := fun x => by rw [x.cell (by omega)]; exact (hbel.cell (p := ⟨b', _, none⟩) hl').trans (hcells' (j * 2) _ fb.1)
      have hq1 : ∀ x : Cls wr.heap.size wr, x.val.cell? ⟨b, off + j * 2 + 1, none⟩ = some c1 := fun x => by rw [x.cell (by omega)]; exact (hbel.cell (p := ⟨b, _, none⟩) hl).trans (hcells (j * 2 + 1) _ fa.2)
      have hp1 : ∀ x : Cls wr.heap.size wr, x.val.cell? ⟨b', off' + j * 2 + 1, none⟩ = some d1 := fun x => by rw [x.cell (by omega)]; exact (hbel.cell (p := ⟨b', _, none⟩) hl').trans (hcells' (j * 2 + 1) _ fb.2)
      have hk0 : (0 : Int) ≤ (j : Int) := Int.natCast_nonneg _
      have hk1 : (j : Int) < (n : Int) := by omega
      clear hX hY fa fb
      have hne := cls_nonempty wr.heap.size wr
      go_wp2_with fail
      refine region_cls (by kernel_rfl) (by kernel_rfl) ?_
      repeat (go_big_quiet_step ((go_at_call 86; exact cls_call (Nat.le_refl _) (unhide HO _))))
      refine wpQuiet_nil ?_
      rintro wq ⟨⟨_, hq⟩, rfl⟩
      go_wp2
      go_roundw
      case rel => exact ⟨j + 1, by omega, by go_num, hbel.trans (hq.mono hsz)⟩
      case measure => simp [intOf]; omega
    · go_wp2
      go_ret
      exact ⟨rfl, hbel⟩
end Go.Proofs.YtlboekimnhgfdaaGreat.Row

/- What is counted is small enough to be copied. No condition. -/
namespace Go.Proofs.YtlboekimnhgfdaaGreat.Row
open Go.RowKit Rw
theorem tiny_of {zs : List E} (h : tot zs ≤ 1048576) : zs.length ≤ 2097152 ∧ ∀ x ∈ zs, tiny x := by
  refine ⟨by have := tot_len zs; omega, fun x hx => ?_⟩
  obtain ⟨i, hi, rfl⟩ := List.getElem_of_mem hx
  have h1 := tot_at zs i hi
  rw [at_get zs i hi] at h1
  have h2 := Lab.tot_len (zs[i]).1
  unfold szOf Sam.tot at h1
  exact ⟨by omega, by omega⟩
end Go.Proofs.YtlboekimnhgfdaaGreat.Row
