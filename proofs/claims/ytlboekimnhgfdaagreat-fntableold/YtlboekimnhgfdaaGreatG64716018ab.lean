/- My own texts of one claim, laid together by program: SamUni, RowOwn, RowMark, PutMath. -/
import Derived.Test.YtlboekimnhgfdaaGreatG87737f173d
import Derived.Test.YtlboekimnhgfdaaGreatG4314fff0a5
import Derived.Test.YtlboekimnhgfdaaGreatG41d3d5ff59
import Derived.Lib.Join
/- One face for what the laws' helpers do with slices of impl.Sample. -/
namespace Go.Proofs.YtlboekimnhgfdaaGreat.Sam
open Go.RowKit Rw
set_option linter.unusedVariables false
/-- a row of its own, in a block from lo on, ahead of hi -/
def Own (lo hi : Nat) (w : World) (v : Value) (zs : List E) : Prop := w.ownsRow lo 106 2 v zs.length (flat zs) ∧ (∀ k, v.ownBlock = some k → k < hi) ∧ hi ≤ w.heap.size
theorem Own.is {lo hi : Nat} {w : World} {v : Value} {zs : List E} (h : Own lo hi w v zs) : Is w v zs := is_of_own h.1
theorem Own.below {lo hi : Nat} {w w' : World} {v : Value} {zs : List E} (h : Own lo hi w v zs) (hb : Below w.heap.size w w') : Own lo hi w' v zs := ⟨own_below h.1 hb, h.2.1, Nat.le_trans h.2.2 hb.size⟩
theorem Own.zone {lo hi a b : Nat} {w w' : World} {v : Value} {zs : List E} (h : Own lo hi w v zs) (hz : Zone a b w w') (ho : hi ≤ a ∨ b ≤ lo) : Own lo hi w' v zs :=
  ⟨hz.own h.1 (fun k hk => by have := h.2.1 k hk; have := own_ge h.1 k hk; omega), h.2.1, Nat.le_trans h.2.2 hz.size⟩
theorem Own.form {lo hi : Nat} {w : World} {v : Value} {zs : List E} (h : Own lo hi w v zs) : ∃ a l q, v = .slice a l q := by
  obtain ⟨-, a, q, e, -⟩ := lies_of_own h.1
  exact ⟨a, _, q, e⟩
theorem Own.of {lo : Nat} {w : World} {v : Value} {zs : List E} (h : w.ownsRow lo 106 2 v zs.length (flat zs)) : Own lo w.heap.size w v zs := ⟨h, own_block_lt h, Nat.le_refl _⟩
theorem eqX {v u : Value} {zs : List E} {w : World} (h : Is w v zs) (h' : Is w u zs) : Calls Tryz.prog 126 #[v, u] w fun e w' => e = .returned (.bool true) ∧ Below w.heap.size w w' := eq_any h h'
theorem toX {w : World} {v : Value} {zs : List E} (h : Is w v zs) (ht : tot zs ≤ 1048576) : Calls Tryz.prog 119 #[v] w fun e w' => ∃ v', e = .returned v' ∧ Own w.heap.size w'.heap.size w' v' zs ∧ Below w.heap.size w w' := by
  refine (to_any h (by have := (show zs.length ≤ tot zs from Nat.le_refl _); omega)).mono ?_
  rintro e w' ⟨rfl, o, b⟩
  exact ⟨_, rfl, Own.of o, b⟩
theorem markA {lo hi : Nat} {v : Value} {zs : List E} {w : World} (k0 : Nat) (hk1 : 1 ≤ k0) (hk2 : k0 ≤ 100000000) (ht : tot zs ≤ 1048576) (h : Own lo hi w v zs) :
    Calls Tryz.prog 88 #[v, .int .i64 k0] w fun e w' => ∃ k : Nat, e = .returned (.int .i64 k) ∧ 1 ≤ k ∧ k ≤ k0 + 4194304 ∧ Zone lo hi w w' := by
  have hl := (show zs.length ≤ tot zs from Nat.le_refl _)
  refine (mark_any k0 hk1 (by omega) (by omega) h.1 (lo := lo) (hi := hi) (fun k hk => ⟨own_ge h.1 k hk, h.2.1 k hk⟩)).mono ?_
  rintro e w' ⟨rfl, -, z⟩
  exact ⟨_, rfl, by omega, by omega, z⟩
def cnt (zs : List E) : Nat := 2 * zs.length
def mk (k0 : Nat) (zs : List E) : List E := marks k0 zs.length
theorem mk_length (k0 : Nat) (zs : List E) : (mk k0 zs).length = zs.length := marks_length _ _
theorem markX {lo hi : Nat} {v : Value} {zs : List E} {w : World} (k0 : Nat) (hk1 : 1 ≤ k0) (hk2 : k0 ≤ 100000000) (hc : zs.length ≤ 2097152) (h : Own lo hi w v zs) :
    Calls Tryz.prog 88 #[v, .int .i64 k0] w fun e w' => ∃ k : Nat, e = .returned (.int .i64 k) ∧ k = k0 + cnt zs ∧ Own lo hi w' v (mk k0 zs) ∧ Zone lo hi w w' := by
  refine (mark_any k0 hk1 (by omega) (by omega) h.1 (lo := lo) (hi := hi) (fun k hk => ⟨own_ge h.1 k hk, h.2.1 k hk⟩)).mono ?_
  rintro e w' ⟨rfl, o, z⟩
  exact ⟨_, rfl, rfl, ⟨by rw [mk_length]; exact o, h.2.1, Nat.le_trans h.2.2 z.size⟩, z⟩
theorem heldX {v : Value} {zs : List E} {w : World} (k0 : Nat) (hk1 : 1 ≤ k0) (hk2 : k0 ≤ 100000000) (hc : zs.length ≤ 2097152) (h : Is w v (mk k0 zs)) :
    Calls Tryz.prog 91 #[v, .int .i64 k0] w fun e w' => ∃ k : Nat, e = .returned (.int .i64 k) ∧ k = k0 + cnt zs ∧ Below w.heap.size w w' := by
  refine (held_any k0 hk1 (by omega) (by omega) h).mono ?_
  rintro e w' ⟨rfl, b⟩
  exact ⟨_, rfl, rfl, b⟩
end Go.Proofs.YtlboekimnhgfdaaGreat.Sam

/- Rows that the call made itself, no two of their slices in one block: copies, marks. -/
namespace Go.Proofs.YtlboekimnhgfdaaGreat.Row
open Go.RowKit Rw
set_option linter.unusedVariables false
attribute [local go_sem ↓] Go.wp_at_zero Go.wp_at_succ
def ApartF (n : Nat) (f : Nat → Value) : Prop := ∀ i j, i < j → j < n → ∀ k, (f i).ownBlock = some k → (f j).ownBlock ≠ some k
theorem ApartF.ne {n : Nat} {f : Nat → Value} (h : ApartF n f) {i j : Nat} (hij : i ≠ j) (hi : i < n) (hj : j < n) : ∀ k, (f i).ownBlock = some k → (f j).ownBlock ≠ some k := by
  intro k hk
  rcases Nat.lt_or_gt_of_ne hij with hl | hl
  · exact h i j hl hj k hk
  · intro hk'
    exact h j i hl hi k hk' hk
/-- rows of the call's own, in blocks from lo on, ahead of hi -/
def Own (lo hi : Nat) (w : World) (v : Value) (zs : List E) : Prop := ∃ cs : List C, cs.length = zs.length ∧ w.ownsRow lo 93 2 v zs.length (flatOf cl cs) ∧ (∀ k, v.ownBlock = some k → k < hi) ∧ hi ≤ w.heap.size ∧
  ApartF zs.length (fun i => (cat cs i).1) ∧ ApartF zs.length (fun i => (cat cs i).2) ∧
  ∀ i, i < zs.length → (w.ownsRow lo 64 2 (cat cs i).1 (at' zs i).1.length (Lab.flat (at' zs i).1) ∧ w.ownsRow lo 106 2 (cat cs i).2 (at' zs i).2.length (Sam.flat (at' zs i).2)) ∧ (∀ k, (cat cs i).1.ownBlock = some k → k < hi) ∧ (∀ k, (cat cs i).2.ownBlock = some k → k < hi)
theorem Own.is {lo hi : Nat} {w : World} {v : Value} {zs : List E} (h : Own lo hi w v zs) : Is w v zs := by
  obtain ⟨cs, h1, h2, h3, h4, h5, h6, h7⟩ := h
  exact ⟨cs, h1, lies_of_own h2, fun i hi => ⟨Lab.is_of_own (h7 i hi).1.1, Sam.is_of_own (h7 i hi).1.2⟩⟩
theorem Own.below {lo hi : Nat} {w w' : World} {v : Value} {zs : List E} (h : Own lo hi w v zs) (hb : Below w.heap.size w w') : Own lo hi w' v zs := by
  obtain ⟨cs, h1, h2, h3, h4, h5, h6, h7⟩ := h
  exact ⟨cs, h1, own_below h2 hb, h3, Nat.le_trans h4 hb.size, h5, h6, fun i hi => ⟨⟨own_below (h7 i hi).1.1 hb, own_below (h7 i hi).1.2 hb⟩, (h7 i hi).2⟩⟩
theorem Own.zone {lo hi a b : Nat} {w w' : World} {v : Value} {zs : List E} (h : Own lo hi w v zs) (hz : Zone a b w w') (ho : hi ≤ a ∨ b ≤ lo) : Own lo hi w' v zs := by
  obtain ⟨cs, h1, h2, h3, h4, h5, h6, h7⟩ := h
  refine ⟨cs, h1, hz.own h2 (fun k hk => by have := h3 k hk; have := own_ge h2 k hk; omega), h3, Nat.le_trans h4 hz.size, h5, h6, fun i hi => ⟨⟨hz.own (h7 i hi).1.1 (fun k hk => ?_), hz.own (h7 i hi).1.2 (fun k hk => ?_)⟩, (h7 i hi).2⟩⟩
  · have := (h7 i hi).2.1 k hk
    have := own_ge (h7 i hi).1.1 k hk
    omega
  · have := (h7 i hi).2.2 k hk
    have := own_ge (h7 i hi).1.2 k hk
    omega
theorem Own.form {lo hi : Nat} {w : World} {v : Value} {zs : List E} (h : Own lo hi w v zs) : ∃ a l q, v = .slice a l q := by
  obtain ⟨cs, -, h2, -⟩ := h
  obtain ⟨-, a, q, e, -⟩ := lies_of_own h2
  exact ⟨a, _, q, e⟩
theorem eqX {v u : Value} {zs : List E} {w : World} (h : Is w v zs) (h' : Is w u zs) : Calls Tryz.prog 46 #[v, u] w fun e w' => e = .returned (.bool true) ∧ Below w.heap.size w w' := eq_any h h'
theorem apart_snoc {n : Nat} {ds : List C} {c : C} (hd : ds.length = n) (p : C → Value) (h : ApartF n (fun i => p (cat ds i))) (hc : ∀ i, i < n → ∀ k, (p (cat ds i)).ownBlock = some k → (p c).ownBlock ≠ some k) : ApartF (n + 1) (fun i => p (cat (ds ++ [c]) i)) := by
  intro i j hij hj k hk
  simp only at hk ⊢
  rw [cat_lt _ _ _ (by omega)] at hk
  by_cases hl : j < n
  · rw [cat_lt _ _ _ (by omega)]
    exact h i j hij hl k hk
  · obtain rfl : j = ds.length := by omega
    rw [cat_last]
    exact hc i (by omega) k hk
set_option maxHeartbeats 2000000 in
theorem to_own1 {c : C} {x : E} {w : World} (h : Elem w c x) (ht : tiny x) : Calls Tryz.prog 81 #[.agg #[c.1, c.2]] w fun e w' => ∃ c' : C, e = .returned (.agg #[c'.1, c'.2]) ∧ w'.ownsRow w.heap.size 64 2 c'.1 x.1.length (Lab.flat x.1) ∧ w'.ownsRow w.heap.size 106 2 c'.2 x.2.length (Sam.flat x.2) ∧ Below w.heap.size w w' := by
  obtain ⟨c0, c1⟩ := c
  obtain ⟨h0, h1⟩ := h
  simp only at h0 h1
  have T0 := hide (fun W (hb : Below w.heap.size w W) => Lab.to_any (h0.below hb) (ht.1))
  have T1 := hide (fun W (hb : Below w.heap.size w W) => Sam.to_any (h1.below hb) (ht.2))
  clear h0 h1 ht
  obtain ⟨l0, hl0⟩ : ∃ l, l = (x.1).length := ⟨_, rfl⟩
  rw [← hl0] at T0
  have HL0 := hide hl0
  clear hl0
  obtain ⟨l1, hl1⟩ : ∃ l, l = (x.2).length := ⟨_, rfl⟩
  rw [← hl1] at T1
  have HL1 := hide hl1
  clear hl1
  have B := (((Below.refl w.heap.size w).alloc (Nat.le_refl _) (.cells #[c0, c1] 110)).alloc (by simp) (.cells #[.slice none 0 0, .slice none 0 0] 93)).alloc (by simp; omega) (.cells #[.slice none 0 0, .slice none 0 0] 93)
  go_enter Tryz.func81, Tryz.ntmps81
  go_wp2_with fail
  refine (unhide T0 _ B).mono ?_
  rintro e v0 ⟨rfl, r0, b0⟩
  obtain ⟨bc0, bf0⟩ := bcell b0
  have z0 := b0.size
  have B0 := B.trans (b0.mono B.size)
  simp only [World.size_alloc] at z0 bc0 bf0 r0 ⊢
  clear b0
  have I0 := hide (show v0.ownsRow w.heap.size 64 2 (.slice (some ⟨w.heap.size + 1 + 1 + 1, 0, none⟩) l0 l0) x.1.length (Lab.flat x.1) by rw [unhide HL0] at r0 ⊢; exact own_mono r0 (by omega))
  clear r0
  have Bs0 := B0.setCell (p := ⟨w.heap.size + 1 + 1, 0, none⟩) (by show w.heap.size ≤ w.heap.size + 1 + 1; omega) (.slice (some ⟨w.heap.size + 1 + 1 + 1, 0, none⟩) l0 l0)
  clear B0
  have I0 := hide (((OnlyAt.refl (w.heap.size + 1 + 1) _).setCell 0 (.slice (some ⟨w.heap.size + 1 + 1 + 1, 0, none⟩) l0 l0)).own (unhide I0) (fun k hk => by cases hk; dsimp only; omega))
  go_wp2_with fail
  refine (unhide T1 _ Bs0).mono ?_
  rintro e v1 ⟨rfl, r1, b1⟩
  obtain ⟨bc1, bf1⟩ := bcell b1
  have z1 := b1.size
  have B1 := Bs0.trans (b1.mono Bs0.size)
  have I0 := hide (own_below (unhide I0) b1)
  simp only [World.size_setCell] at z1 bc1 bf1 r1 ⊢
  clear b1
  have bd1 : ∀ b o, b < w.heap.size + 1 + 1 + 1 → v1.cell? ⟨b, o, none⟩ = _ := fun b o h => bc1 b o (by omega)
  have be1 : ∀ b o, b < w.heap.size + 1 + 1 + 1 → v1.frozen? ⟨b, o, none⟩ = v0.frozen? ⟨b, o, none⟩ := fun b o h => (bf1 b o (by omega)).trans (World.frozen?_setCell _ _ _ _)
  clear bc1 bf1
  have I1 := hide (show v1.ownsRow w.heap.size 106 2 (.slice (some ⟨v0.heap.size, 0, none⟩) l1 l1) x.2.length (Sam.flat x.2) by rw [unhide HL1] at r1 ⊢; exact own_mono r1 (by omega))
  clear r1
  have Bs1 := B1.setCell (p := ⟨w.heap.size + 1 + 1, 1, none⟩) (by show w.heap.size ≤ w.heap.size + 1 + 1; omega) (.slice (some ⟨v0.heap.size, 0, none⟩) l1 l1)
  clear B1
  have I0 := hide (((OnlyAt.refl (w.heap.size + 1 + 1) _).setCell 1 (.slice (some ⟨v0.heap.size, 0, none⟩) l1 l1)).own (unhide I0) (fun k hk => by cases hk; dsimp only; omega))
  have I1 := hide (((OnlyAt.refl (w.heap.size + 1 + 1) _).setCell 1 (.slice (some ⟨v0.heap.size, 0, none⟩) l1 l1)).own (unhide I1) (fun k hk => by cases hk; dsimp only; omega))
  have Br0 := Bs1.setCell (p := ⟨w.heap.size + 1, 0, none⟩) (by show w.heap.size ≤ w.heap.size + 1; omega) (.slice (some ⟨w.heap.size + 1 + 1 + 1, 0, none⟩) l0 l0)
  clear Bs1
  have I0 := hide (((OnlyAt.refl (w.heap.size + 1) _).setCell 0 (.slice (some ⟨w.heap.size + 1 + 1 + 1, 0, none⟩) l0 l0)).own (unhide I0) (fun k hk => by cases hk; dsimp only; omega))
  have I1 := hide (((OnlyAt.refl (w.heap.size + 1) _).setCell 0 (.slice (some ⟨w.heap.size + 1 + 1 + 1, 0, none⟩) l0 l0)).own (unhide I1) (fun k hk => by cases hk; dsimp only; omega))
  have Br1 := Br0.setCell (p := ⟨w.heap.size + 1, 1, none⟩) (by show w.heap.size ≤ w.heap.size + 1; omega) (.slice (some ⟨v0.heap.size, 0, none⟩) l1 l1)
  clear Br0
  have I0 := hide (((OnlyAt.refl (w.heap.size + 1) _).setCell 1 (.slice (some ⟨v0.heap.size, 0, none⟩) l1 l1)).own (unhide I0) (fun k hk => by cases hk; dsimp only; omega))
  have I1 := hide (((OnlyAt.refl (w.heap.size + 1) _).setCell 1 (.slice (some ⟨v0.heap.size, 0, none⟩) l1 l1)).own (unhide I1) (fun k hk => by cases hk; dsimp only; omega))
  go_wp2
  refine bodyPost_ret (v := .agg #[(.slice (some ⟨w.heap.size + 1 + 1 + 1, 0, none⟩) l0 l0), (.slice (some ⟨v0.heap.size, 0, none⟩) l1 l1)]) (by simp [results, Tryz.results81, go_sem, bc0, bd1]) rfl ⟨((.slice (some ⟨w.heap.size + 1 + 1 + 1, 0, none⟩) l0 l0), (.slice (some ⟨v0.heap.size, 0, none⟩) l1 l1)), rfl, unhide I0, unhide I1, Br1⟩
set_option maxRecDepth 100000 in
set_option maxHeartbeats 4000000 in
theorem toX {w : World} {v : Value} {zs : List E} (h : Is w v zs) (htot : tot zs ≤ 1048576) :
    Calls Tryz.prog 42 #[v] w fun e w' => ∃ v', e = .returned v' ∧ Own w.heap.size w'.heap.size w' v' zs ∧ Below w.heap.size w w' := by
  have hlen := (tiny_of htot).1
  have ht := (tiny_of htot).2
  clear htot
  obtain ⟨i0, hi, hz0, hz1, hz2⟩ := info_parts info_e
  obtain ⟨cs, hcs, hL, hE⟩ := h
  have HE := hide hE
  have HTt := hide ht
  obtain ⟨-, a, cap, rfl, hc, hm, -, hr⟩ := hL
  unfold maxLen at hm
  obtain ⟨n, hn⟩ : ∃ n, n = zs.length := ⟨_, rfl⟩
  rw [← hn] at hc hr hlen hcs ⊢
  have HN := hide hn
  have HC := hide hcs
  clear hn hE ht hcs
  go_enter Tryz.func42, Tryz.ntmps42
  go_wp2_with (at_make; refine wpList_make_full _ rfl _ _ _ rfl w.heap.size 93 i0 (.agg #[.slice none 0 0, .slice none 0 0]) 2 Tryz.underlying28 hi hz0 hz1 .i64 .i64 _ _ n rfl rfl rfl rfl (by rw [hz2]; omega) (by unfold maxLen; omega) (Nat.le_refl _) ?_; intro w1 hown1 hgrow1)
  go_loopw [4] (fun i wr => ∃ (j : Nat) (r : List Value) (ds : List C), j ≤ n ∧ i = .int .i64 j ∧ r.length = (n - j) * 2 ∧ ds.length = j ∧ wr.ownsRow w.heap.size 93 2 (.slice (some ⟨w.heap.size, 0, none⟩) n n) n (flatOf cl ds ++ r) ∧ Hid (∀ i, i < j → wr.ownsRow (w.heap.size + 1) 64 2 (cat ds i).1 (at' zs i).1.length (Lab.flat (at' zs i).1) ∧ wr.ownsRow (w.heap.size + 1) 106 2 (cat ds i).2 (at' zs i).2.length (Sam.flat (at' zs i).2)) ∧ Hid (ApartF j (fun i => (cat ds i).1) ∧ ApartF j (fun i => (cat ds i).2)) ∧ Below w.heap.size w wr) (fun i _ => n - (intOf i).toNat)
  case atStart =>
    refine ⟨0, _, [], Nat.zero_le _, rfl, ?_, rfl, hown1, hide (fun i h => by omega), hide ⟨fun i j _ h => by omega, fun i j _ h => by omega⟩, below_grown (Below.refl _ _) (Nat.le_refl _) hgrow1 (by simp)⟩
    have := hown1.1
    simpa using this
  case round =>
    obtain ⟨j, r, ds, hj, rfl, hrl, hdl, hown, HD, HA, hbel⟩ := hrel
    have hsz := own_lt hown
    by_cases hlt : j < n
    · obtain ⟨u0, u1, L, rfl, hB⟩ := split_e r (n - j - 1) (by rw [hrl]; omega)
      obtain ⟨b, off, rfl, hl, hcells⟩ := hr (by omega)
      have fa := flat_at cs j (by have := unhide HC; omega)
      have hc0 : wr.cell? ⟨b, off + j * 2, none⟩ = some ((cat cs j).1) := (hbel.cell (p := ⟨b, _, none⟩) hl).trans (hcells (j * 2) _ fa.1)
      have hc1 : wr.cell? ⟨b, off + j * 2 + 1, none⟩ = some ((cat cs j).2) := (hbel.cell (p := ⟨b, _, none⟩) hl).trans (hcells (j * 2 + 1) _ fa.2)
      have fln : (flatOf cl ds).length = j * 2 := by rw [flatOf_length clk, hdl]
      have hd0 : wr.cell? ⟨w.heap.size, j * 2, none⟩ = some u0 := by rw [hown.cellAt (j * 2) (by omega)]; simp [fln]
      have hf0 := hown.frozenAt (j * 2)
      have hd1 : wr.cell? ⟨w.heap.size, j * 2 + 1, none⟩ = some u1 := by rw [hown.cellAt (j * 2 + 1) (by omega)]; simp [fln]
      have hf1 := hown.frozenAt (j * 2 + 1)
      have hk0 : (0 : Int) ≤ (j : Int) := Int.natCast_nonneg _
      have hk1 : (j : Int) < (n : Int) := by omega
      have HO := hide (to_own1 ((unhide HE j (by have := unhide HN; omega)).below hbel) (unhide HTt _ (at_mem zs j (by have := unhide HN; omega))))
      obtain ⟨c0, c1, hX⟩ : ∃ c0 c1, (c0, c1) = cat cs j := ⟨_, _, rfl⟩
      rw [← hX] at hc0 hc1 HO
      clear hX fa
      have HF := hide fln
      clear fln
      simp only at HO
      obtain ⟨m0, hm0⟩ : ∃ m, m = (at' zs j).1.length := ⟨_, rfl⟩
      obtain ⟨m1, hm1⟩ : ∃ m, m = (at' zs j).2.length := ⟨_, rfl⟩
      go_wp2_with (go_at_call 81; refine (unhide HO).mono ?_; rintro e w2 ⟨⟨d0, d1⟩, rfl, oL, oS, hb2⟩; obtain ⟨bc, bf⟩ := bcell hb2; simp only at oL oS; obtain ⟨-, a0, q0, f0, -, -⟩ := lies_of_own oL; subst f0; obtain ⟨-, a1, q1, f1, -, -⟩ := lies_of_own oS; subst f1)
      have o0 := ((own_below hown hb2).stored (j * 2) (.slice a0 ((at' zs j).1).length q0)).1
      have o1 := (o0.stored (j * 2 + 1) (.slice a1 ((at' zs j).2).length q1)).1
      rw [set_e _ _ _ _ _ _ _ (unhide HF)] at o1
      have e2 : flatOf cl (ds ++ [((.slice a0 ((at' zs j).1).length q0), (.slice a1 ((at' zs j).2).length q1))]) = flatOf cl ds ++ [(.slice a0 ((at' zs j).1).length q0), (.slice a1 ((at' zs j).2).length q1)] := by rw [flatOf_append, flatOf_one]; rfl
      rw [← e2] at o1
      have R := hide (((hbel.trans (hb2.mono (by omega))).setCell (p := ⟨w.heap.size, j * 2, none⟩) (Nat.le_refl _) (.slice a0 ((at' zs j).1).length q0)).setCell (p := ⟨w.heap.size, j * 2 + 1, none⟩) (Nat.le_refl _) (.slice a1 ((at' zs j).2).length q1))
      have O := hide o1
      have oa := hide (((OnlyAt.refl w.heap.size w2).setCell (j * 2) (.slice a0 ((at' zs j).1).length q0)).setCell (j * 2 + 1) (.slice a1 ((at' zs j).2).length q1))
      have HA' := hide (show ApartF (j + 1) (fun i => (cat (ds ++ [((.slice a0 ((at' zs j).1).length q0), (.slice a1 ((at' zs j).2).length q1))]) i).1) ∧ ApartF (j + 1) (fun i => (cat (ds ++ [((.slice a0 ((at' zs j).1).length q0), (.slice a1 ((at' zs j).2).length q1))]) i).2) from
        ⟨apart_snoc hdl (·.1) (unhide HA).1 (fun i hi k hk hk' => by have h1 := own_block_lt (unhide HD i hi).1 k hk; have h2 := own_ge oL k hk'; omega), apart_snoc hdl (·.2) (unhide HA).2 (fun i hi k hk hk' => by have h1 := own_block_lt (unhide HD i hi).2 k hk; have h2 := own_ge oS k hk'; omega)⟩)
      have HD' := hide (show ∀ i, i < j + 1 → World.ownsRow _ (w.heap.size + 1) 64 2 (cat (ds ++ [((.slice a0 ((at' zs j).1).length q0), (.slice a1 ((at' zs j).2).length q1))]) i).1 (at' zs i).1.length (Lab.flat (at' zs i).1) ∧ World.ownsRow _ (w.heap.size + 1) 106 2 (cat (ds ++ [((.slice a0 ((at' zs j).1).length q0), (.slice a1 ((at' zs j).2).length q1))]) i).2 (at' zs i).2.length (Sam.flat (at' zs i).2) from fun i hi => by
        by_cases hij : i < j
        · have h := unhide HD i hij
          rw [cat_lt _ _ _ (by omega)]
          exact ⟨(unhide oa).own (own_below h.1 hb2) (fun k hk => by have := own_ge h.1 k hk; omega), (unhide oa).own (own_below h.2 hb2) (fun k hk => by have := own_ge h.2 k hk; omega)⟩
        · obtain rfl : i = j := by omega
          rw [show cat (ds ++ [((.slice a0 ((at' zs i).1).length q0), (.slice a1 ((at' zs i).2).length q1))]) i = ((.slice a0 ((at' zs i).1).length q0), (.slice a1 ((at' zs i).2).length q1)) by rw [← hdl]; exact cat_last _ _]
          exact ⟨(unhide oa).own (own_mono oL (by omega)) (fun k hk => by have := own_ge oL k hk; omega), (unhide oa).own (own_mono oS (by omega)) (fun k hk => by have := own_ge oS k hk; omega)⟩)
      clear o0 o1 e2 hown bc bf hd0 hf0 hd1 hf1 oL oS HD HA oa hm0 hm1
      go_wp2_with fail
      go_roundw
      case rel => exact ⟨j + 1, L, ds ++ [((.slice a0 ((at' zs j).1).length q0), (.slice a1 ((at' zs j).2).length q1))], by omega, by go_num, by omega, by simp [hdl], unhide O, HD', HA', unhide R⟩
      case measure => simp [intOf]; omega
    · obtain rfl : j = n := by omega
      obtain rfl : r = [] := List.eq_nil_of_length_eq_zero (by rw [hrl]; omega)
      rw [List.append_nil] at hown
      have hI := hide (show Own w.heap.size wr.heap.size wr (.slice (some ⟨w.heap.size, 0, none⟩) j j) zs from ⟨ds, by have := unhide HN; omega, by rw [← unhide HN]; exact hown, own_block_lt hown, Nat.le_refl _, by rw [← unhide HN]; exact (unhide HA).1, by rw [← unhide HN]; exact (unhide HA).2, fun i hi => by
        have h := unhide HD i (by have := unhide HN; omega)
        exact ⟨⟨own_mono h.1 (by omega), own_mono h.2 (by omega)⟩, own_block_lt h.1, own_block_lt h.2⟩⟩)
      clear hown HD HA
      go_wp2
      go_ret
      exact ⟨_, rfl, unhide hI, hbel⟩
end Go.Proofs.YtlboekimnhgfdaaGreat.Row

/- What the laws' own helpers do to mark rows, and to see that the marks are held. -/
namespace Go.Proofs.YtlboekimnhgfdaaGreat.Row
open Go.RowKit Rw
set_option linter.unusedVariables false
attribute [local go_sem ↓] Go.wp_at_zero Go.wp_at_succ
def cntE (x : E) : Nat := 2 * x.1.length + 2 * x.2.length
def cntTo (zs : List E) (i : Nat) : Nat := ((zs.take i).map cntE).sum
def cnt (zs : List E) : Nat := cntTo zs zs.length
theorem cntTo_succ (zs : List E) (j : Nat) (h : j < zs.length) : cntTo zs (j + 1) = cntTo zs j + cntE (at' zs j) := by
  unfold cntTo
  rw [List.take_succ_eq_append_getElem h, List.map_append, List.sum_append, at_get zs j h]
  simp
theorem cntTo_mono (zs : List E) : ∀ (i j : Nat), i ≤ j → j ≤ zs.length → cntTo zs i ≤ cntTo zs j
  | i, 0, h, _ => by obtain rfl : i = 0 := by omega
                     exact Nat.le_refl _
  | i, j + 1, h, hl => by
    by_cases e : i = j + 1
    · subst e; exact Nat.le_refl _
    · have h1 := cntTo_mono zs i j (by omega) (by omega)
      rw [cntTo_succ zs j (by omega)]
      omega
theorem cntTo_le (zs : List E) (j : Nat) (h : j < zs.length) : cntTo zs j + cntE (at' zs j) ≤ cnt zs := by
  rw [← cntTo_succ zs j h]
  exact cntTo_mono zs _ _ (by omega) (Nat.le_refl _)
def mkAt (k0 : Nat) (zs : List E) (i : Nat) : E := (Lab.marks (k0 + cntTo zs i) (at' zs i).1.length, Sam.marks (k0 + cntTo zs i + 2 * (at' zs i).1.length) (at' zs i).2.length)
def mk (k0 : Nat) (zs : List E) : List E := (List.range zs.length).map (mkAt k0 zs)
theorem mk_length (k0 : Nat) (zs : List E) : (mk k0 zs).length = zs.length := by simp [mk]
theorem mk_at (k0 : Nat) (zs : List E) (i : Nat) (h : i < zs.length) : at' (mk k0 zs) i = mkAt k0 zs i := by
  rw [at_get _ _ (by rw [mk_length]; exact h)]
  simp [mk]
/-- what row i holds when j rows are marked -/
def cur (k0 : Nat) (zs : List E) (j i : Nat) : E := if i < j then mkAt k0 zs i else at' zs i
set_option maxRecDepth 100000 in
set_option maxHeartbeats 4000000 in
theorem mark_some {lo hi g n cap : Nat} {zs : List E} {w : World} (k0 : Nat) (hk1 : 1 ≤ k0) (hk2 : k0 ≤ 100000000) (hn : zs.length = n) (ht : cnt zs ≤ 2097152) (hnb : n ≤ 2097152) (h : Own lo hi w (.slice (some ⟨g, 0, none⟩) n cap) zs) :
    Calls Tryz.prog 48 #[.slice (some ⟨g, 0, none⟩) n cap, .int .i64 k0] w fun e w' => ∃ k : Nat, e = .returned (.int .i64 k) ∧ k = k0 + cnt zs ∧ Own lo hi w' (.slice (some ⟨g, 0, none⟩) n cap) (mk k0 zs) ∧ Zone lo hi w w' := by
  obtain ⟨cs, h1, h2, h3, h4, h5, h6, h7⟩ := h
  rw [hn] at h1 h2 h5 h6 h7
  have HN := hide hn
  have HI := hide (fun i (hi' : i < n) => (h7 i hi').2)
  have HR := hide (show ∀ i, i < n → w.ownsRow lo 64 2 (cat cs i).1 (cur k0 zs 0 i).1.length (Lab.flat (cur k0 zs 0 i).1) ∧ w.ownsRow lo 106 2 (cat cs i).2 (cur k0 zs 0 i).2.length (Sam.flat (cur k0 zs 0 i).2) from fun i hi' => by rw [show cur k0 zs 0 i = at' zs i from if_neg (by omega)]; exact (h7 i hi').1)
  have HA1 := hide h5
  have HA2 := hide h6
  have HC := hide h1
  have HTT := hide ht
  have H34 := hide (And.intro h3 h4)
  clear h5 h6 h7 h1 hn ht h3 h4
  go_enter Tryz.func48, Tryz.ntmps48
  go_wp2
  go_loopw [1, 5] (fun kv i wr => ∃ (j q : Nat), j ≤ n ∧ i = .int .i64 j ∧ kv = .int .i64 q ∧ Hid (q = k0 + cntTo zs j) ∧ wr.ownsRow lo 93 2 (.slice (some ⟨g, 0, none⟩) n cap) n (flatOf cl cs) ∧ Hid (∀ i, i < n → wr.ownsRow lo 64 2 (cat cs i).1 (cur k0 zs j i).1.length (Lab.flat (cur k0 zs j i).1) ∧ wr.ownsRow lo 106 2 (cat cs i).2 (cur k0 zs j i).2.length (Sam.flat (cur k0 zs j i).2)) ∧ Zone lo hi w wr) (fun _ i _ => n - (intOf i).toNat)
  case atStart => exact ⟨0, k0, Nat.zero_le _, rfl, rfl, hide (by simp [cntTo]), h2, HR, Zone.refl _ _ _⟩
  case round =>
    clear HR h2
    obtain ⟨j, q, hj, rfl, rfl, HQ, ho, HR, hzn⟩ := hrel
    by_cases hlt : j < n
    · have fa := flat_at cs j (by have := unhide HC; omega)
      have hc0 : wr.cell? ⟨g, j * 2, none⟩ = some (cat cs j).1 := by rw [ho.cellAt (j * 2) (by omega)]; exact fa.1
      have hc1 : wr.cell? ⟨g, j * 2 + 1, none⟩ = some (cat cs j).2 := by rw [ho.cellAt (j * 2 + 1) (by omega)]; exact fa.2
      have h0 : (0 : Int) ≤ (j : Int) := Int.natCast_nonneg _
      have h1 : (j : Int) < (n : Int) := by omega
      have hq := unhide HQ
      have hle := cntTo_le zs j (by have := unhide HN; omega)
      unfold cntE at hle
      have hxo := unhide HR j hlt
      rw [show cur k0 zs j j = at' zs j from if_neg (Nat.lt_irrefl _)] at hxo
      have HM := hide (Lab.mark_any q (by omega) (by have := unhide HTT; omega) (by have := unhide HTT; omega) hxo.1 (in_self (cat cs j).1))
      -- behind the labels' marks
      have HR1 := hide (fun (w' : World) (hw : Zone (loOf (cat cs j).1) (hiOf (cat cs j).1) wr w') (hy : w'.ownsRow lo 64 2 (cat cs j).1 (at' zs j).1.length (Lab.flat (Lab.marks q (at' zs j).1.length))) =>
        (show w'.ownsRow lo 93 2 (.slice (some ⟨g, 0, none⟩) n cap) n (flatOf cl cs) ∧ w'.ownsRow lo 106 2 (cat cs j).2 (at' zs j).2.length (Sam.flat (at' zs j).2) ∧ (∀ i, i < n → i ≠ j → w'.ownsRow lo 64 2 (cat cs i).1 (cur k0 zs j i).1.length (Lab.flat (cur k0 zs j i).1) ∧ w'.ownsRow lo 106 2 (cat cs i).2 (cur k0 zs j i).2.length (Sam.flat (cur k0 zs j i).2)) ∧ Zone lo hi w w' from
          ⟨hw.own ho (out_of_ne (own_ne_type hxo.1 ho (by decide))), hw.own hxo.2 (out_of_ne (own_ne_type hxo.1 hxo.2 (by decide))),
           fun i hi' hij => ⟨hw.own (unhide HR i hi').1 (out_of_ne ((unhide HA1).ne (fun e => hij e.symm) hlt hi')), hw.own (unhide HR i hi').2 (out_of_ne (own_ne_type hxo.1 (unhide HR i hi').2 (by decide)))⟩,
           hzn.trans (zone_in hw (fun k hk => ⟨own_ge hxo.1 k hk, (unhide HI j hlt).1 k hk⟩))⟩))
      have HLb := hide (show 1 ≤ q ∧ q + 2 * (at' zs j).1.length ≤ 500000000000 ∧ (at' zs j).2.length ≤ 8388608 ∧ q + 2 * (at' zs j).1.length + 2 * (at' zs j).2.length = k0 + cntTo zs (j + 1) from ⟨by omega, by have := unhide HTT; omega, by have := unhide HTT; omega, by rw [cntTo_succ zs j (by have := unhide HN; omega)]; unfold cntE; omega⟩)
      have HMk := hide (show mkAt k0 zs j = (Lab.marks q (at' zs j).1.length, Sam.marks (q + 2 * (at' zs j).1.length) (at' zs j).2.length) by unfold mkAt; rw [hq])
      clear fa hle hxo ho HR hzn
      obtain ⟨c0, hX0⟩ : ∃ c0, c0 = (cat cs j).1 := ⟨_, rfl⟩
      obtain ⟨c1, hX1⟩ : ∃ c1, c1 = (cat cs j).2 := ⟨_, rfl⟩
      rw [← hX0] at hc0 HM HR1
      rw [← hX1] at hc1 HR1
      have HX0 := hide hX0
      have HX1 := hide hX1
      clear hX0 hX1
      obtain ⟨l0, hl0⟩ : ∃ l, l = (at' zs j).1.length := ⟨_, rfl⟩
      rw [← hl0] at HM HLb HMk HR1
      have HL0 := hide hl0
      clear hl0 hq
      go_wp2_with fail
      refine (unhide HM).mono ?_
      rintro e w2 ⟨rfl, o2, z2⟩
      obtain ⟨r1, r2, r3, r4⟩ := unhide HR1 w2 z2 o2
      have hcc : w2.cell? ⟨g, j * 2 + 1, none⟩ = some c1 := by rw [r1.cellAt (j * 2 + 1) (by omega), unhide HX1]; exact (flat_at cs j (by have := unhide HC; omega)).2
      clear HR1 HM z2
      have HS := hide (Sam.mark_any (q + 2 * l0) (by have := unhide HLb; omega) (unhide HLb).2.1 (unhide HLb).2.2.1 r2 (in_self c1))
      have HR2 := hide (fun (w' : World) (hw : Zone (loOf c1) (hiOf c1) w2 w') (hy : w'.ownsRow lo 106 2 c1 (at' zs j).2.length (Sam.flat (Sam.marks (q + 2 * l0) (at' zs j).2.length))) =>
        (show w'.ownsRow lo 93 2 (.slice (some ⟨g, 0, none⟩) n cap) n (flatOf cl cs) ∧ (∀ i, i < n → w'.ownsRow lo 64 2 (cat cs i).1 (cur k0 zs (j + 1) i).1.length (Lab.flat (cur k0 zs (j + 1) i).1) ∧ w'.ownsRow lo 106 2 (cat cs i).2 (cur k0 zs (j + 1) i).2.length (Sam.flat (cur k0 zs (j + 1) i).2)) ∧ Zone lo hi w w' from
          ⟨hw.own r1 (out_of_ne (own_ne_type r2 r1 (by decide))),
           fun i hi' => by
             by_cases hij : i = j
             · subst hij
               rw [show cur k0 zs (i + 1) i = mkAt k0 zs i from if_pos (Nat.lt_succ_self i), unhide HMk]
               simp only [Lab.marks_length, Sam.marks_length]
               rw [← unhide HX0, ← unhide HX1]
               exact ⟨hw.own o2 (out_of_ne (own_ne_type r2 o2 (by decide))), hy⟩
             · rw [show cur k0 zs (j + 1) i = cur k0 zs j i by unfold cur; by_cases h : i < j <;> simp [h] <;> omega]
               refine ⟨hw.own (r3 i hi' hij).1 (out_of_ne (own_ne_type r2 (r3 i hi' hij).1 (by decide))), hw.own (r3 i hi' hij).2 (out_of_ne ?_)⟩
               rw [unhide HX1]
               exact (unhide HA2).ne (fun e => hij e.symm) hlt hi',
           r4.trans (zone_in hw (fun k hk => ⟨own_ge r2 k hk, (unhide HI j hlt).2 k (by rw [← unhide HX1]; exact hk)⟩))⟩))
      clear r1 r2 r3 r4 o2
      obtain ⟨l1, hl1⟩ : ∃ l, l = (at' zs j).2.length := ⟨_, rfl⟩
      rw [← hl1] at HS HLb HR2
      clear hl1
      obtain ⟨q1, hq1⟩ : ∃ q1, q1 = q + 2 * l0 := ⟨_, rfl⟩
      rw [← hq1] at HS HLb HR2
      rw [← hq1]
      clear hq1
      go_wp2_with fail
      refine (unhide HS).mono ?_
      rintro e w3 ⟨rfl, o3, z3⟩
      have RR := hide (unhide HR2 w3 z3 o3)
      clear HR2 HS o3 z3
      obtain ⟨q2, hq2⟩ : ∃ q2, q2 = q1 + 2 * l1 := ⟨_, rfl⟩
      rw [← hq2]
      have HQ2 := hide (show q2 = k0 + cntTo zs (j + 1) by rw [hq2]; exact (unhide HLb).2.2.2)
      clear hq2 HLb HQ
      go_wp2_with fail
      go_roundw
      case rel => exact ⟨j + 1, q2, by omega, by go_num, rfl, HQ2, (unhide RR).1, hide (unhide RR).2.1, (unhide RR).2.2⟩
      case measure => simp [intOf]; omega
    · obtain rfl : j = n := by omega
      have hq := unhide HQ
      have HF := hide (show Own lo hi wr (.slice (some ⟨g, 0, none⟩) j cap) (mk k0 zs) from ⟨cs, by rw [mk_length]; have := unhide HC; have := unhide HN; omega, by rw [mk_length, unhide HN]; exact ho, (unhide H34).1, Nat.le_trans (unhide H34).2 hzn.size, by rw [mk_length, unhide HN]; exact unhide HA1, by rw [mk_length, unhide HN]; exact unhide HA2, fun i hi' => by
        rw [mk_length] at hi'
        have hin : i < j := by have := unhide HN; omega
        rw [mk_at k0 zs i hi']
        have := unhide HR i hin
        rw [show cur k0 zs j i = mkAt k0 zs i from if_pos hin] at this
        exact ⟨this, unhide HI i hin⟩⟩)
      have HQ' := hide (show q = k0 + cnt zs by rw [hq]; unfold cnt; rw [unhide HN])
      clear hq HQ ho HR
      go_wp2
      go_ret
      exact ⟨q, rfl, unhide HQ', unhide HF, hzn⟩
theorem mark_nil (k0 : Int) (w : World) : Calls Tryz.prog 48 #[.slice none 0 0, .int .i64 k0] w fun e w' => e = .returned (.int .i64 k0) ∧ w' = w := by
  go_enter Tryz.func48, Tryz.ntmps48
  go_wp2
  refine wp_loop_rounds 1 ?_
  rw [rounds_succ]
  go_wp2
  go_ret
  exact ⟨rfl, rfl⟩
theorem len_cnt {zs : List E} (h : tot zs ≤ 1048576) : zs.length ≤ 2097152 := (tiny_of h).1
theorem markX {lo hi : Nat} {v : Value} {zs : List E} {w : World} (k0 : Nat) (hk1 : 1 ≤ k0) (hk2 : k0 ≤ 100000000) (hc : cnt zs ≤ 2097152 ∧ zs.length ≤ 2097152) (h : Own lo hi w v zs) :
    Calls Tryz.prog 48 #[v, .int .i64 k0] w fun e w' => ∃ k : Nat, e = .returned (.int .i64 k) ∧ k = k0 + cnt zs ∧ Own lo hi w' v (mk k0 zs) ∧ Zone lo hi w w' := by
  have hf := h
  obtain ⟨cs, hl, h2, -⟩ := h
  rcases h2.2 with ⟨h1, hz⟩ | ⟨g, cap, cur, h1, -⟩
  · subst h1
    obtain rfl : zs = [] := List.eq_nil_of_length_eq_zero hz
    refine (mark_nil k0 w).mono ?_
    rintro e w' ⟨rfl, rfl⟩
    exact ⟨k0, rfl, by simp [cnt, cntTo], hf, Zone.refl _ _ _⟩
  · subst h1
    exact mark_some k0 hk1 hk2 rfl hc.1 hc.2 hf
set_option maxRecDepth 100000 in
set_option maxHeartbeats 4000000 in
theorem heldX {v : Value} {zs : List E} {w : World} (k0 : Nat) (hk1 : 1 ≤ k0) (hk2 : k0 ≤ 100000000) (hc : cnt zs ≤ 2097152 ∧ zs.length ≤ 2097152) (h : Is w v (mk k0 zs)) :
    Calls Tryz.prog 50 #[v, .int .i64 k0] w fun e w' => ∃ k : Nat, e = .returned (.int .i64 k) ∧ k = k0 + cnt zs ∧ Below w.heap.size w w' := by
  obtain ⟨cs, hcs, hL, hE⟩ := h
  rw [mk_length] at hcs hL hE
  have HE := hide hE
  obtain ⟨-, a, cap, rfl, hcp, hm, -, hr⟩ := hL
  unfold maxLen at hm
  obtain ⟨n, hn⟩ : ∃ n, n = zs.length := ⟨_, rfl⟩
  rw [← hn] at hcp hr hcs ⊢
  have HN := hide hn
  have HC := hide hcs
  have HTT := hide hc
  clear hn hE hcs hc
  go_enter Tryz.func50, Tryz.ntmps50
  go_wp2_with fail
  go_loopw [1, 5] (fun kv i wr => ∃ (j q : Nat), j ≤ n ∧ i = .int .i64 j ∧ kv = .int .i64 q ∧ Hid (q = k0 + cntTo zs j) ∧ Below w.heap.size w wr) (fun _ i _ => n - (intOf i).toNat)
  case atStart => exact ⟨0, k0, Nat.zero_le _, rfl, rfl, hide (by simp [cntTo]), Below.refl _ _⟩
  case round =>
    obtain ⟨j, q, hj, rfl, rfl, HQ, hbel⟩ := hrel
    have hsz := hbel.size
    by_cases hlt : j < n
    · obtain ⟨b, off, rfl, hl, hcells⟩ := hr (by omega)
      have fa := flat_at cs j (by have := unhide HC; omega)
      have hc0 : wr.cell? ⟨b, off + j * 2, none⟩ = some (cat cs j).1 := (hbel.cell (p := ⟨b, _, none⟩) hl).trans (hcells (j * 2) _ fa.1)
      have hc1 : wr.cell? ⟨b, off + j * 2 + 1, none⟩ = some (cat cs j).2 := (hbel.cell (p := ⟨b, _, none⟩) hl).trans (hcells (j * 2 + 1) _ fa.2)
      have h0 : (0 : Int) ≤ (j : Int) := Int.natCast_nonneg _
      have h1 : (j : Int) < (n : Int) := by omega
      have hq := unhide HQ
      have hle := cntTo_le zs j (by have := unhide HN; omega)
      unfold cntE at hle
      have hEj := (unhide HE j (by have := unhide HN; omega)).below hbel
      rw [mk_at k0 zs j (by have := unhide HN; omega)] at hEj
      have HMk : mkAt k0 zs j = (Lab.marks q (at' zs j).1.length, Sam.marks (q + 2 * (at' zs j).1.length) (at' zs j).2.length) := by unfold mkAt; rw [hq]
      rw [HMk] at hEj
      have HM := hide (Lab.held_any q (by omega) (by have := unhide HTT; omega) (by have := unhide HTT; omega) hEj.1)
      have HS := hide (fun W (hb : Below wr.heap.size wr W) => Sam.held_any (q + 2 * (at' zs j).1.length) (by omega) (by have := unhide HTT; omega) (by have := unhide HTT; omega) (hEj.2.below hb))
      have HLb := hide (show q + 2 * (at' zs j).1.length + 2 * (at' zs j).2.length = k0 + cntTo zs (j + 1) by rw [cntTo_succ zs j (by have := unhide HN; omega)]; unfold cntE; omega)
      clear fa hle hEj HMk
      obtain ⟨c0, hX0⟩ : ∃ c0, c0 = (cat cs j).1 := ⟨_, rfl⟩
      obtain ⟨c1, hX1⟩ : ∃ c1, c1 = (cat cs j).2 := ⟨_, rfl⟩
      rw [← hX0] at hc0 HM
      rw [← hX1] at hc1 HS
      clear hX0 hX1
      obtain ⟨l0, hl0⟩ : ∃ l, l = (at' zs j).1.length := ⟨_, rfl⟩
      rw [← hl0] at HM HLb HS
      clear hl0 hq
      obtain ⟨l1, hl1⟩ : ∃ l, l = (at' zs j).2.length := ⟨_, rfl⟩
      rw [← hl1] at HS HLb
      clear hl1
      obtain ⟨q1, hq1⟩ : ∃ q1, q1 = q + 2 * l0 := ⟨_, rfl⟩
      rw [← hq1] at HS HLb HM
      clear hq1
      go_wp2_with fail
      refine (unhide HM).mono ?_
      rintro e w2 ⟨rfl, b2⟩
      have hcc : w2.cell? ⟨b, off + j * 2 + 1, none⟩ = some c1 := (b2.cell (p := ⟨b, off + j * 2 + 1, none⟩) (by show b < _; omega)).trans hc1
      have hbel2 := hbel.trans (b2.mono hsz)
      have HS2 := hide (unhide HS w2 b2)
      have hqn : decide ((q1 : Int) < 0) = false := by simp
      obtain ⟨q2, hq2⟩ : ∃ q2, q2 = q1 + 2 * l1 := ⟨_, rfl⟩
      rw [← hq2] at HS2 HLb
      clear hq2 HM HS b2
      go_wp2_with fail
      refine (unhide HS2).mono ?_
      rintro e w3 ⟨rfl, b3⟩
      have hbel3 := hbel2.trans (b3.mono hbel2.size)
      have hqn2 : decide ((q2 : Int) < 0) = false := by simp
      clear HS2 b3 HQ
      go_wp2_with fail
      go_roundw
      case rel => exact ⟨j + 1, q2, by omega, by go_num, rfl, HLb, hbel3⟩
      case measure => simp [intOf]; omega
    · obtain rfl : j = n := by omega
      have HQ' := hide (show q = k0 + cnt zs by rw [unhide HQ]; unfold cnt; rw [unhide HN])
      clear HQ
      go_wp2
      go_ret
      exact ⟨q, rfl, unhide HQ', hbel⟩
theorem cnt_tot (zs : List E) : ∀ j, j ≤ zs.length → cntTo zs j ≤ 2 * totTo zs j
  | 0, _ => by simp [cntTo]
  | j + 1, h => by
    have := cnt_tot zs j (by omega)
    rw [cntTo_succ zs j (by omega), totTo_succ zs j (by omega)]
    have h1 := Lab.tot_len (at' zs j).1
    have h2 : (at' zs j).2.length ≤ Sam.tot (at' zs j).2 := Nat.le_refl _
    unfold cntE szOf
    omega
theorem markA {lo hi : Nat} {v : Value} {zs : List E} {w : World} (k0 : Nat) (hk1 : 1 ≤ k0) (hk2 : k0 ≤ 100000000) (ht : tot zs ≤ 1048576) (h : Own lo hi w v zs) :
    Calls Tryz.prog 48 #[v, .int .i64 k0] w fun e w' => ∃ k : Nat, e = .returned (.int .i64 k) ∧ 1 ≤ k ∧ k ≤ k0 + 4194304 ∧ Zone lo hi w w' := by
  have hc : cnt zs ≤ 2097152 := by have := cnt_tot zs zs.length (Nat.le_refl _); rw [totTo_all] at this; unfold cnt; omega
  refine (markX k0 hk1 hk2 ⟨hc, (tiny_of ht).1⟩ h).mono ?_
  rintro e w' ⟨k, rfl, h1, -, z⟩
  exact ⟨k, rfl, by omega, by omega, z⟩
end Go.Proofs.YtlboekimnhgfdaaGreat.Row

/- Texts with a sign between, as plain mathematics. No condition. -/
namespace Go.Proofs.YtlboekimnhgfdaaGreat.PutMath
def joinB (ps : List ByteArray) : List UInt8 := Lib.join (ps.map (·.data.toList)) [44]
theorem joinB_nil : joinB [] = [] := rfl
theorem joinTail_snoc (sep : List UInt8) (r : List (List UInt8)) (y : List UInt8) : Lib.joinTail sep (r ++ [y]) = Lib.joinTail sep r ++ (sep ++ y) := by simp [Lib.joinTail]
theorem joinB_snoc (ps : List ByteArray) (p : ByteArray) : joinB (ps ++ [p]) = (if ps.length = 0 then [] else joinB ps ++ [44]) ++ p.data.toList := by
  unfold joinB
  cases ps with
  | nil => simp [Lib.join_one]
  | cons x r => simp [Lib.join_cons, joinTail_snoc]
theorem joinB_len (ps : List ByteArray) (M : Nat) (h : ∀ p ∈ ps, p.size ≤ M) : (joinB ps).length ≤ ps.length * (M + 1) := by
  have t : ∀ (r : List ByteArray), (∀ p ∈ r, p.size ≤ M) → (Lib.joinTail [44] (r.map (·.data.toList))).length ≤ r.length * (M + 1) := by
    intro r
    induction r with
    | nil => intro _; simp [Lib.joinTail]
    | cons x r ih =>
      intro hr
      have h1 := ih (fun p hp => hr p (List.mem_cons_of_mem _ hp))
      have h2 := hr x (List.mem_cons_self ..)
      have hl : x.data.toList.length = x.size := Array.length_toList
      have e : Lib.joinTail [44] ((x :: r).map (·.data.toList)) = [44] ++ x.data.toList ++ Lib.joinTail [44] (r.map (·.data.toList)) := by simp [Lib.joinTail]
      have e2 : (x :: r).length * (M + 1) = r.length * (M + 1) + (M + 1) := by rw [List.length_cons, Nat.add_mul, Nat.one_mul]
      rw [e, e2, List.length_append, List.length_append, hl]
      simp only [List.length_cons, List.length_nil]
      omega
  unfold joinB
  cases ps with
  | nil => simp [Lib.join_nil]
  | cons x r =>
    have h1 := t r (fun p hp => h p (List.mem_cons_of_mem _ hp))
    have h2 := h x (List.mem_cons_self ..)
    have hl : x.data.toList.length = x.size := Array.length_toList
    rw [List.map_cons, Lib.join_cons, List.length_append, List.length_cons, Nat.add_mul, hl]
    omega
theorem app_toList (a b : ByteArray) : (a ++ b).data.toList = a.data.toList ++ b.data.toList := by simp [ByteArray.data_append]
theorem of_toList (l : List UInt8) : (⟨l.toArray⟩ : ByteArray).data.toList = l := by simp
theorem size_of (l : List UInt8) : (⟨l.toArray⟩ : ByteArray).size = l.length := by simp [ByteArray.size]
/-- open, what stands between, shut -/
def wrap (o s : UInt8) (ps : List ByteArray) : ByteArray := ⟨(o :: joinB ps ++ [s]).toArray⟩
/-- the text of the loop that puts one part behind the other -/
def out (o : UInt8) (ps : List ByteArray) : ByteArray := ⟨(o :: joinB ps).toArray⟩
theorem out_size (o : UInt8) (ps : List ByteArray) : (out o ps).size = (joinB ps).length + 1 := by rw [out, size_of, List.length_cons]
theorem wrap_join (o s : UInt8) (ps : List ByteArray) : (⟨#[o]⟩ ++ (⟨(joinB ps).toArray⟩ : ByteArray)) ++ ⟨#[s]⟩ = wrap o s ps := by
  apply Go.WideShapes.bytes_inj
  rw [app_toList, app_toList]
  simp [wrap]
theorem wrap_out (o s : UInt8) (ps : List ByteArray) : out o ps ++ ⟨#[s]⟩ = wrap o s ps := by
  apply Go.WideShapes.bytes_inj
  rw [app_toList]
  simp [wrap, out]
theorem out_first (o : UInt8) : out o [] = ⟨#[o]⟩ := by simp [out, joinB_nil]
theorem out_next (o : UInt8) (ps : List ByteArray) (p q : ByteArray) (h : (if ps.length = 0 then out o ps else out o ps ++ ⟨#[44]⟩) = q) : q ++ p = out o (ps ++ [p]) := by
  subst h
  apply Go.WideShapes.bytes_inj
  have e : (out o (ps ++ [p])).data.toList = o :: joinB (ps ++ [p]) := by unfold out; rw [of_toList]
  have e0 : (out o ps).data.toList = o :: joinB ps := by unfold out; rw [of_toList]
  rw [app_toList, e, joinB_snoc]
  by_cases h0 : ps.length = 0
  · obtain rfl : ps = [] := List.eq_nil_of_length_eq_zero h0
    simp [out, joinB_nil]
  · rw [if_neg h0, if_neg h0, app_toList, e0]
    simp
theorem app_assoc (a b c : ByteArray) : a ++ b ++ c = a ++ (b ++ c) := by
  apply Go.WideShapes.bytes_inj
  rw [app_toList, app_toList, app_toList, app_toList, List.append_assoc]
theorem app_size (a b : ByteArray) : (a ++ b).size = a.size + b.size := by
  have h : ∀ x : ByteArray, x.data.toList.length = x.size := fun x => Array.length_toList
  rw [← h, ← h a, ← h b, app_toList, List.length_append]
end Go.Proofs.YtlboekimnhgfdaaGreat.PutMath
