/- My own texts of one claim, laid together by program: EntOwn, EntMark, FnExactTableAddWalk. -/
import Derived.Test.YtlboekimnhgfdaaGreatG558b7a128b
import Derived.Test.YtlboekimnhgfdaaGreatG5809efe2b5
import Derived.Test.YtlboekimnhgfdaaGreatG748fb4d886
import Derived.Test.YtlboekimnhgfdaaGreatGe2182a335b
import Derived.Test.YtlboekimnhgfdaaGreatGd67b3f41de
import Derived.Test.YtlboekimnhgfdaaGreatGf7ca62e939
/- Entries that the call made itself, no two of their labels in one block: copies. -/
namespace Go.Proofs.YtlboekimnhgfdaaGreat.Ent
open Go.RowKit Rw
set_option linter.unusedVariables false
attribute [local go_sem ↓] Go.wp_at_zero Go.wp_at_succ
/-- entries of the call's own, in blocks from lo on, ahead of hi -/
def Own (lo hi : Nat) (w : World) (v : Value) (zs : List E) : Prop := ∃ cs : List C, cs.length = zs.length ∧ w.ownsRow lo 62 3 v zs.length (flatOf cl cs) ∧ (∀ k, v.ownBlock = some k → k < hi) ∧ hi ≤ w.heap.size ∧
  Row.ApartF zs.length (fun i => (cat cs i).1) ∧
  ∀ i, i < zs.length → w.ownsRow lo 64 2 (cat cs i).1 (at' zs i).1.length (Lab.flat (at' zs i).1) ∧ (cat cs i).2.1 = .int .i64 (at' zs i).2.1 ∧ (cat cs i).2.2 = .int .i64 (at' zs i).2.2 ∧ ∀ k, (cat cs i).1.ownBlock = some k → k < hi
theorem Own.is {lo hi : Nat} {w : World} {v : Value} {zs : List E} (h : Own lo hi w v zs) : Is w v zs := by
  obtain ⟨cs, h1, h2, h3, h4, h5, h7⟩ := h
  exact ⟨cs, h1, lies_of_own h2, fun i hi => ⟨Lab.is_of_own (h7 i hi).1, (h7 i hi).2.1, (h7 i hi).2.2.1⟩⟩
theorem Own.below {lo hi : Nat} {w w' : World} {v : Value} {zs : List E} (h : Own lo hi w v zs) (hb : Below w.heap.size w w') : Own lo hi w' v zs := by
  obtain ⟨cs, h1, h2, h3, h4, h5, h7⟩ := h
  exact ⟨cs, h1, own_below h2 hb, h3, Nat.le_trans h4 hb.size, h5, fun i hi => ⟨own_below (h7 i hi).1 hb, (h7 i hi).2⟩⟩
theorem Own.zone {lo hi a b : Nat} {w w' : World} {v : Value} {zs : List E} (h : Own lo hi w v zs) (hz : Zone a b w w') (ho : hi ≤ a ∨ b ≤ lo) : Own lo hi w' v zs := by
  obtain ⟨cs, h1, h2, h3, h4, h5, h7⟩ := h
  exact ⟨cs, h1, hz.own h2 (fun k hk => by have := h3 k hk; have := own_ge h2 k hk; omega), h3, Nat.le_trans h4 hz.size, h5, fun i hi => ⟨hz.own (h7 i hi).1 (fun k hk => by have := (h7 i hi).2.2.2 k hk; have := own_ge (h7 i hi).1 k hk; omega), (h7 i hi).2⟩⟩
theorem Own.form {lo hi : Nat} {w : World} {v : Value} {zs : List E} (h : Own lo hi w v zs) : ∃ a l q, v = .slice a l q := by
  obtain ⟨cs, -, h2, -⟩ := h
  obtain ⟨-, a, q, e, -⟩ := lies_of_own h2
  exact ⟨a, _, q, e⟩
theorem eqX {v u : Value} {zs : List E} {w : World} (h : Is w v zs) (h' : Is w u zs) : Calls Tryz.prog 17 #[v, u] w fun e w' => e = .returned (.bool true) ∧ Below w.heap.size w w' := eq_any h h'
theorem apart_snoc {n : Nat} {ds : List C} {c : C} (hd : ds.length = n) (p : C → Value) (h : Row.ApartF n (fun i => p (cat ds i))) (hc : ∀ i, i < n → ∀ k, (p (cat ds i)).ownBlock = some k → (p c).ownBlock ≠ some k) : Row.ApartF (n + 1) (fun i => p (cat (ds ++ [c]) i)) := by
  intro i j hij hj k hk
  simp only at hk ⊢
  rw [cat_lt _ _ _ (by omega)] at hk
  by_cases hl : j < n
  · rw [cat_lt _ _ _ (by omega)]
    exact h i j hij hl k hk
  · obtain rfl : j = ds.length := by omega
    rw [cat_last]
    exact hc i (by omega) k hk
set_option maxHeartbeats 2000000 in
theorem to_own1 {c : C} {x : E} {w : World} (h : Elem w c x) (ht : tiny x) : Calls Tryz.prog 43 #[.agg #[c.1, c.2.1, c.2.2]] w fun e w' => ∃ c' : C, e = .returned (.agg #[c'.1, c'.2.1, c'.2.2]) ∧ w'.ownsRow w.heap.size 64 2 c'.1 x.1.length (Lab.flat x.1) ∧ c'.2.1 = .int .i64 x.2.1 ∧ c'.2.2 = .int .i64 x.2.2 ∧ Below w.heap.size w w' := by
  obtain ⟨c0, c1, c2⟩ := c
  obtain ⟨h0, h1, h2⟩ := h
  simp only at h0 h1 h2
  subst h1
  subst h2
  have T0 := hide (fun W (hb : Below w.heap.size w W) => Lab.to_any (h0.below hb) (ht))
  clear h0 ht
  obtain ⟨l0, hl0⟩ : ∃ l, l = (x.1).length := ⟨_, rfl⟩
  rw [← hl0] at T0
  have HL0 := hide hl0
  clear hl0
  have B := (((Below.refl w.heap.size w).alloc (Nat.le_refl _) (.cells #[c0, .int .i64 (x.2.1), .int .i64 (x.2.2)] 69)).alloc (by simp) (.cells #[.slice none 0 0, .int .i64 0, .int .i64 0] 62)).alloc (by simp; omega) (.cells #[.slice none 0 0, .int .i64 0, .int .i64 0] 62)
  go_enter Tryz.func43, Tryz.ntmps43
  go_wp2_with fail
  refine (unhide T0 _ B).mono ?_
  rintro e v0 ⟨rfl, r0, b0⟩
  obtain ⟨bc0, bf0⟩ := bcell b0
  have z0 := b0.size
  have B0 := B.trans (b0.mono B.size)
  simp only [World.size_alloc] at z0 bc0 bf0 r0 ⊢
  clear b0
  have I0 := hide (show v0.ownsRow w.heap.size 64 2 (.slice (some ⟨w.heap.size + 1 + 1 + 1, 0, none⟩) l0 l0) x.1.length (Lab.flat x.1) by rw [unhide HL0] at r0 ⊢; exact own_mono r0 (by omega))
  clear r0
  have Bs0 := B0.setCell (p := ⟨w.heap.size + 1 + 1, 0, none⟩) (by show w.heap.size ≤ w.heap.size + 1 + 1; omega) (.slice (some ⟨w.heap.size + 1 + 1 + 1, 0, none⟩) l0 l0)
  clear B0
  have I0 := hide (((OnlyAt.refl (w.heap.size + 1 + 1) _).setCell 0 (.slice (some ⟨w.heap.size + 1 + 1 + 1, 0, none⟩) l0 l0)).own (unhide I0) (fun k hk => by cases hk; dsimp only; omega))
  have Bs1 := Bs0.setCell (p := ⟨w.heap.size + 1 + 1, 1, none⟩) (by show w.heap.size ≤ w.heap.size + 1 + 1; omega) (.int .i64 (x.2.1))
  clear Bs0
  have I0 := hide (((OnlyAt.refl (w.heap.size + 1 + 1) _).setCell 1 (.int .i64 (x.2.1))).own (unhide I0) (fun k hk => by cases hk; dsimp only; omega))
  have Bs2 := Bs1.setCell (p := ⟨w.heap.size + 1 + 1, 2, none⟩) (by show w.heap.size ≤ w.heap.size + 1 + 1; omega) (.int .i64 (x.2.2))
  clear Bs1
  have I0 := hide (((OnlyAt.refl (w.heap.size + 1 + 1) _).setCell 2 (.int .i64 (x.2.2))).own (unhide I0) (fun k hk => by cases hk; dsimp only; omega))
  have Br0 := Bs2.setCell (p := ⟨w.heap.size + 1, 0, none⟩) (by show w.heap.size ≤ w.heap.size + 1; omega) (.slice (some ⟨w.heap.size + 1 + 1 + 1, 0, none⟩) l0 l0)
  clear Bs2
  have I0 := hide (((OnlyAt.refl (w.heap.size + 1) _).setCell 0 (.slice (some ⟨w.heap.size + 1 + 1 + 1, 0, none⟩) l0 l0)).own (unhide I0) (fun k hk => by cases hk; dsimp only; omega))
  have Br1 := Br0.setCell (p := ⟨w.heap.size + 1, 1, none⟩) (by show w.heap.size ≤ w.heap.size + 1; omega) (.int .i64 (x.2.1))
  clear Br0
  have I0 := hide (((OnlyAt.refl (w.heap.size + 1) _).setCell 1 (.int .i64 (x.2.1))).own (unhide I0) (fun k hk => by cases hk; dsimp only; omega))
  have Br2 := Br1.setCell (p := ⟨w.heap.size + 1, 2, none⟩) (by show w.heap.size ≤ w.heap.size + 1; omega) (.int .i64 (x.2.2))
  clear Br1
  have I0 := hide (((OnlyAt.refl (w.heap.size + 1) _).setCell 2 (.int .i64 (x.2.2))).own (unhide I0) (fun k hk => by cases hk; dsimp only; omega))
  go_wp2
  refine bodyPost_ret (v := .agg #[(.slice (some ⟨w.heap.size + 1 + 1 + 1, 0, none⟩) l0 l0), (.int .i64 (x.2.1)), (.int .i64 (x.2.2))]) (by simp [results, Tryz.results43, go_sem, bc0]) rfl ⟨((.slice (some ⟨w.heap.size + 1 + 1 + 1, 0, none⟩) l0 l0), (.int .i64 (x.2.1)), (.int .i64 (x.2.2))), rfl, unhide I0, rfl, rfl, Br2⟩
set_option maxRecDepth 100000 in
set_option maxHeartbeats 4000000 in
theorem toX {w : World} {v : Value} {zs : List E} (h : Is w v zs) (htot : tot zs ≤ 1048576) :
    Calls Tryz.prog 14 #[v] w fun e w' => ∃ v', e = .returned v' ∧ Own w.heap.size w'.heap.size w' v' zs ∧ Below w.heap.size w w' := by
  have hlen := (tiny_of htot).1
  have ht := (tiny_of htot).2
  clear htot
  obtain ⟨i0, hi, hz0, hz1, hz2⟩ := info_parts info_e
  obtain ⟨cs, hcs, hL, hE⟩ := h
  have HE := hide hE
  have HTt := hide ht
  obtain ⟨-, a, cap, rfl, hc, hm, -, hr⟩ := hL
  unfold maxLen at hm
  obtain ⟨n, hn⟩ : ∃ n, n = zs.length := ⟨_, rfl⟩
  rw [← hn] at hc hr hlen hcs ⊢
  have HN := hide hn
  have HC := hide hcs
  clear hn hE ht hcs
  go_enter Tryz.func14, Tryz.ntmps14
  go_wp2_with (at_make; refine wpList_make_full _ rfl _ _ _ rfl w.heap.size 62 i0 (.agg #[.slice none 0 0, .int .i64 0, .int .i64 0]) 3 Tryz.underlying34 hi hz0 hz1 .i64 .i64 _ _ n rfl rfl rfl rfl (by rw [hz2]; omega) (by unfold maxLen; omega) (Nat.le_refl _) ?_; intro w1 hown1 hgrow1)
  go_loopw [4] (fun i wr => ∃ (j : Nat) (r : List Value) (ds : List C), j ≤ n ∧ i = .int .i64 j ∧ r.length = (n - j) * 3 ∧ ds.length = j ∧ wr.ownsRow w.heap.size 62 3 (.slice (some ⟨w.heap.size, 0, none⟩) n n) n (flatOf cl ds ++ r) ∧ Hid (∀ i, i < j → wr.ownsRow (w.heap.size + 1) 64 2 (cat ds i).1 (at' zs i).1.length (Lab.flat (at' zs i).1) ∧ (cat ds i).2.1 = .int .i64 (at' zs i).2.1 ∧ (cat ds i).2.2 = .int .i64 (at' zs i).2.2) ∧ Hid (Row.ApartF j (fun i => (cat ds i).1)) ∧ Below w.heap.size w wr) (fun i _ => n - (intOf i).toNat)
  case atStart =>
    refine ⟨0, _, [], Nat.zero_le _, rfl, ?_, rfl, hown1, hide (fun i h => by omega), hide (fun i j _ h => by omega), below_grown (Below.refl _ _) (Nat.le_refl _) hgrow1 (by simp)⟩
    have := hown1.1
    simpa using this
  case round =>
    obtain ⟨j, r, ds, hj, rfl, hrl, hdl, hown, HD, HA, hbel⟩ := hrel
    have hsz := own_lt hown
    by_cases hlt : j < n
    · obtain ⟨u0, u1, u2, L, rfl, hB⟩ := split_e r (n - j - 1) (by rw [hrl]; omega)
      obtain ⟨b, off, rfl, hl, hcells⟩ := hr (by omega)
      have fa := flat_at cs j (by have := unhide HC; omega)
      have hc0 : wr.cell? ⟨b, off + j * 3, none⟩ = some ((cat cs j).1) := (hbel.cell (p := ⟨b, _, none⟩) hl).trans (hcells (j * 3) _ fa.1)
      have hc1 : wr.cell? ⟨b, off + j * 3 + 1, none⟩ = some ((cat cs j).2.1) := (hbel.cell (p := ⟨b, _, none⟩) hl).trans (hcells (j * 3 + 1) _ fa.2.1)
      have hc2 : wr.cell? ⟨b, off + j * 3 + 2, none⟩ = some ((cat cs j).2.2) := (hbel.cell (p := ⟨b, _, none⟩) hl).trans (hcells (j * 3 + 2) _ fa.2.2)
      have fln : (flatOf cl ds).length = j * 3 := by rw [flatOf_length clk, hdl]
      have hd0 : wr.cell? ⟨w.heap.size, j * 3, none⟩ = some u0 := by rw [hown.cellAt (j * 3) (by omega)]; simp [fln]
      have hf0 := hown.frozenAt (j * 3)
      have hd1 : wr.cell? ⟨w.heap.size, j * 3 + 1, none⟩ = some u1 := by rw [hown.cellAt (j * 3 + 1) (by omega)]; simp [fln]
      have hf1 := hown.frozenAt (j * 3 + 1)
      have hd2 : wr.cell? ⟨w.heap.size, j * 3 + 2, none⟩ = some u2 := by rw [hown.cellAt (j * 3 + 2) (by omega)]; simp [fln]
      have hf2 := hown.frozenAt (j * 3 + 2)
      have hk0 : (0 : Int) ≤ (j : Int) := Int.natCast_nonneg _
      have hk1 : (j : Int) < (n : Int) := by omega
      have HO := hide (to_own1 ((unhide HE j (by have := unhide HN; omega)).below hbel) (unhide HTt _ (at_mem zs j (by have := unhide HN; omega))))
      obtain ⟨c0, c1, c2, hX⟩ : ∃ c0 c1 c2, (c0, c1, c2) = cat cs j := ⟨_, _, _, rfl⟩
      rw [← hX] at hc0 hc1 hc2 HO
      clear hX fa
      have HF := hide fln
      clear fln
      simp only at HO
      go_wp2_with (go_at_call 43; refine (unhide HO).mono ?_; rintro e w2 ⟨⟨d0, d1, d2⟩, rfl, oL, f1, f2, hb2⟩; obtain ⟨bc, bf⟩ := bcell hb2; simp only at oL f1 f2; subst f1; subst f2; obtain ⟨-, a0, q0, f0, -, -⟩ := lies_of_own oL; subst f0)
      have o0 := ((own_below hown hb2).stored (j * 3) (.slice a0 ((at' zs j).1).length q0)).1
      have o1 := (o0.stored (j * 3 + 1) (.int .i64 ((at' zs j).2.1))).1
      have o2 := (o1.stored (j * 3 + 2) (.int .i64 ((at' zs j).2.2))).1
      rw [set_e _ _ _ _ _ _ _ _ _ (unhide HF)] at o2
      have e2 : flatOf cl (ds ++ [((.slice a0 ((at' zs j).1).length q0), (.int .i64 ((at' zs j).2.1)), (.int .i64 ((at' zs j).2.2)))]) = flatOf cl ds ++ [(.slice a0 ((at' zs j).1).length q0), (.int .i64 ((at' zs j).2.1)), (.int .i64 ((at' zs j).2.2))] := by rw [flatOf_append, flatOf_one]; rfl
      rw [← e2] at o2
      have R := hide ((((hbel.trans (hb2.mono (by omega))).setCell (p := ⟨w.heap.size, j * 3, none⟩) (Nat.le_refl _) (.slice a0 ((at' zs j).1).length q0)).setCell (p := ⟨w.heap.size, j * 3 + 1, none⟩) (Nat.le_refl _) (.int .i64 ((at' zs j).2.1))).setCell (p := ⟨w.heap.size, j * 3 + 2, none⟩) (Nat.le_refl _) (.int .i64 ((at' zs j).2.2)))
      have O := hide o2
      have oa := hide ((((OnlyAt.refl w.heap.size w2).setCell (j * 3) (.slice a0 ((at' zs j).1).length q0)).setCell (j * 3 + 1) (.int .i64 ((at' zs j).2.1))).setCell (j * 3 + 2) (.int .i64 ((at' zs j).2.2)))
      have HA' := hide (show Row.ApartF (j + 1) (fun i => (cat (ds ++ [((.slice a0 ((at' zs j).1).length q0), (.int .i64 ((at' zs j).2.1)), (.int .i64 ((at' zs j).2.2)))]) i).1) from apart_snoc hdl (·.1) (unhide HA) (fun i hi k hk hk' => by have h1 := own_block_lt (unhide HD i hi).1 k hk; have h2 := own_ge oL k hk'; omega))
      have HD' := hide (show ∀ i, i < j + 1 → World.ownsRow _ (w.heap.size + 1) 64 2 (cat (ds ++ [((.slice a0 ((at' zs j).1).length q0), (.int .i64 ((at' zs j).2.1)), (.int .i64 ((at' zs j).2.2)))]) i).1 (at' zs i).1.length (Lab.flat (at' zs i).1) ∧ (cat (ds ++ [((.slice a0 ((at' zs j).1).length q0), (.int .i64 ((at' zs j).2.1)), (.int .i64 ((at' zs j).2.2)))]) i).2.1 = .int .i64 (at' zs i).2.1 ∧ (cat (ds ++ [((.slice a0 ((at' zs j).1).length q0), (.int .i64 ((at' zs j).2.1)), (.int .i64 ((at' zs j).2.2)))]) i).2.2 = .int .i64 (at' zs i).2.2 from fun i hi => by
        by_cases hij : i < j
        · have h := unhide HD i hij
          rw [cat_lt _ _ _ (by omega)]
          exact ⟨(unhide oa).own (own_below h.1 hb2) (fun k hk => by have := own_ge h.1 k hk; omega), h.2⟩
        · obtain rfl : i = j := by omega
          rw [show cat (ds ++ [((.slice a0 ((at' zs i).1).length q0), (.int .i64 ((at' zs i).2.1)), (.int .i64 ((at' zs i).2.2)))]) i = ((.slice a0 ((at' zs i).1).length q0), (.int .i64 ((at' zs i).2.1)), (.int .i64 ((at' zs i).2.2))) by rw [← hdl]; exact cat_last _ _]
          exact ⟨(unhide oa).own (own_mono oL (by omega)) (fun k hk => by have := own_ge oL k hk; omega), rfl, rfl⟩)
      clear o0 o1 o2 e2 hown bc bf hd0 hf0 hd1 hf1 hd2 hf2 oL HD HA oa
      go_wp2_with fail
      go_roundw
      case rel => exact ⟨j + 1, L, ds ++ [((.slice a0 ((at' zs j).1).length q0), (.int .i64 ((at' zs j).2.1)), (.int .i64 ((at' zs j).2.2)))], by omega, by go_num, by omega, by simp [hdl], unhide O, HD', HA', unhide R⟩
      case measure => simp [intOf]; omega
    · obtain rfl : j = n := by omega
      obtain rfl : r = [] := List.eq_nil_of_length_eq_zero (by rw [hrl]; omega)
      rw [List.append_nil] at hown
      have hI := hide (show Own w.heap.size wr.heap.size wr (.slice (some ⟨w.heap.size, 0, none⟩) j j) zs from ⟨ds, by have := unhide HN; omega, by rw [← unhide HN]; exact hown, own_block_lt hown, Nat.le_refl _, by rw [← unhide HN]; exact unhide HA, fun i hi => by
        have h := unhide HD i (by have := unhide HN; omega)
        exact ⟨own_mono h.1 (by omega), h.2.1, h.2.2, own_block_lt h.1⟩⟩)
      clear hown HD HA
      go_wp2
      go_ret
      exact ⟨_, rfl, unhide hI, hbel⟩
end Go.Proofs.YtlboekimnhgfdaaGreat.Ent

/- What the laws' own helpers do to mark entries that were handed in. -/
namespace Go.Proofs.YtlboekimnhgfdaaGreat.Ent
open Go.RowKit Rw
set_option linter.unusedVariables false
attribute [local go_sem ↓] Go.wp_at_zero Go.wp_at_succ
/-- while entries are marked: each one's labels are still the call's own, in their own block -/
def Marking (lo hi : Nat) (w : World) (g n cap : Nat) (cs : List C) (ml : Nat → Nat) : Prop :=
  (∃ xs, w.ownsRow lo 62 3 (.slice (some ⟨g, 0, none⟩) n cap) n xs ∧ ∀ i, i < n → xs[i * 3]? = some (cat cs i).1 ∧ (∃ u, xs[i * 3 + 1]? = some u) ∧ ∃ u, xs[i * 3 + 2]? = some u) ∧ ∀ i, i < n → ∃ ls : List Lab.E, ls.length = ml i ∧ w.ownsRow lo 64 2 (cat cs i).1 (ml i) (Lab.flat ls)
theorem Marking.zone {lo hi a b : Nat} {w w' : World} {g n cap : Nat} {cs : List C} {ml : Nat → Nat} {c : Value} {m : Nat} {ys : List Value} {j : Nat} (h : Marking lo hi w g n cap cs ml) (hj : j < n) (hA : Row.ApartF n (fun i => (cat cs i).1))
    (hz : Zone (loOf (cat cs j).1) (hiOf (cat cs j).1) w w') (hy : ∃ ls : List Lab.E, ls.length = ml j ∧ w'.ownsRow lo 64 2 (cat cs j).1 (ml j) (Lab.flat ls)) : Marking lo hi w' g n cap cs ml := by
  obtain ⟨⟨xs, h1, h2⟩, h3⟩ := h
  obtain ⟨ls, -, hl⟩ := h3 j hj
  refine ⟨⟨xs, hz.own h1 (out_of_ne (own_ne_type hl h1 (by decide))), h2⟩, fun i hi => ?_⟩
  by_cases e : i = j
  · subst e; exact hy
  · obtain ⟨ls', hl', ho⟩ := h3 i hi
    exact ⟨ls', hl', hz.own ho (out_of_ne (hA.ne (fun e' => e e'.symm) hj hi))⟩
theorem Marking.set {lo hi : Nat} {w : World} {g n cap : Nat} {cs : List C} {ml : Nat → Nat} {j c : Nat} (h : Marking lo hi w g n cap cs ml) (hj : j < n) (hc : c = 1 ∨ c = 2) (u : Value) :
    (∃ x, w.cell? ⟨g, j * 3 + c, none⟩ = some x) ∧ w.frozen? ⟨g, j * 3 + c, none⟩ = false ∧ Marking lo hi (w.setCell ⟨g, j * 3 + c, none⟩ u) g n cap cs ml ∧ OnlyAt g w (w.setCell ⟨g, j * 3 + c, none⟩ u) := by
  obtain ⟨⟨xs, h1, h2⟩, h3⟩ := h
  have hlen : xs.length = n * 3 := h1.1
  have hst := (h1.stored (j * 3 + c) u).1
  have ho := (OnlyAt.refl g w).setCell (j * 3 + c) u
  refine ⟨?_, h1.frozenAt _, ⟨⟨xs.set (j * 3 + c) u, hst, fun i hi => ?_⟩, fun i hi => ?_⟩, ho⟩
  · rw [h1.cellAt (j * 3 + c) (by omega)]
    exact ⟨_, List.getElem?_eq_getElem (by omega)⟩
  · obtain ⟨a, ⟨u1, b⟩, u2, d⟩ := h2 i hi
    rw [List.getElem?_set, List.getElem?_set, List.getElem?_set, if_neg (by omega)]
    refine ⟨a, ?_, ?_⟩
    · split
      · exact ⟨u, by rw [if_pos (by omega)]⟩
      · exact ⟨u1, b⟩
    · split
      · exact ⟨u, by rw [if_pos (by omega)]⟩
      · exact ⟨u2, d⟩
  · obtain ⟨ls, hl, hw⟩ := h3 i hi
    exact ⟨ls, hl, ho.own hw (fun k hk e => own_ne_type hw h1 (by decide) k hk (by rw [e]; rfl))⟩
set_option maxRecDepth 100000 in
set_option maxHeartbeats 4000000 in
theorem mark_some {lo hi g n cap : Nat} {zs : List E} {w : World} (k0 : Nat) (hk1 : 1 ≤ k0) (hk2 : k0 ≤ 100000000) (hn : zs.length = n) (ht : tot zs ≤ 1048576) (h : Own lo hi w (.slice (some ⟨g, 0, none⟩) n cap) zs) :
    Calls Tryz.prog 19 #[.slice (some ⟨g, 0, none⟩) n cap, .int .i64 k0] w fun e w' => ∃ k : Nat, e = .returned (.int .i64 k) ∧ 1 ≤ k ∧ k ≤ k0 + 4194304 ∧ Zone lo hi w w' := by
  obtain ⟨cs, h1, h2, h3, h4, h5, h7⟩ := h
  rw [hn] at h1 h2 h5 h7
  have hq : n ≤ cap ∧ cap ≤ 9223372036854775807 := by
    obtain ⟨-, a', q', e, hq1, hq2, -⟩ := lies_of_own h2
    simp only [Value.slice.injEq, true_and] at e
    unfold maxLen at hq2
    omega
  have hlo := own_ge h2 g rfl
  have hhi := h3 g rfl
  have HN := hide hn
  have HA := hide h5
  have HI := hide (fun i (hi' : i < n) => (h7 i hi').2.2.2)
  have HM0 := hide (show Marking lo hi w g n cap cs (fun i => (at' zs i).1.length) from
    ⟨⟨_, h2, fun i hi' => by have f := flat_at cs i (by omega); exact ⟨f.1, ⟨_, f.2.1⟩, ⟨_, f.2.2⟩⟩⟩, fun i hi' => ⟨(at' zs i).1, rfl, (h7 i hi').1⟩⟩)
  have HT := hide ht
  have htl := tot_len zs
  have hnb : n ≤ 1048576 := by omega
  clear h1 h2 h5 h7 hn ht htl h3
  go_enter Tryz.func19, Tryz.ntmps19
  go_wp2
  go_loopw [1, 5] (fun kv i wr => ∃ (j q : Nat), j ≤ n ∧ i = .int .i64 j ∧ kv = .int .i64 q ∧ (k0 ≤ q ∧ q ≤ k0 + 2 * totTo zs j + 2 * j) ∧ Hid (Marking lo hi wr g n cap cs (fun i => (at' zs i).1.length)) ∧ Zone lo hi w wr) (fun _ i _ => n - (intOf i).toNat)
  case atStart => exact ⟨0, k0, Nat.zero_le _, rfl, rfl, ⟨Nat.le_refl _, by omega⟩, HM0, Zone.refl _ _ _⟩
  case round =>
    clear HM0
    obtain ⟨j, q, hj, rfl, rfl, hqq, HM, hzn⟩ := hrel
    have hTj : totTo zs j ≤ 1048576 := by have h := totTo_mono zs j zs.length (by have := unhide HN; omega) (Nat.le_refl _); rw [totTo_all] at h; have := unhide HT; omega
    by_cases hlt : j < n
    · have hjz : j < zs.length := by have := unhide HN; omega
      have h0 : (0 : Int) ≤ (j : Int) := Int.natCast_nonneg _
      have h1 : (j : Int) < (n : Int) := by omega
      have hts := totTo_succ zs j hjz
      have hlt2 : (at' zs j).1.length ≤ szOf (at' zs j) := Lab.tot_len _
      have hT2 : totTo zs (j + 1) ≤ 1048576 := by have h := totTo_mono zs (j + 1) zs.length (by omega) (Nat.le_refl _); rw [totTo_all] at h; have := unhide HT; omega
      obtain ⟨⟨xs, hx1, hx2⟩, hx3⟩ := id (unhide HM)
      obtain ⟨ls, hls, hlw⟩ := hx3 j hlt
      have hc0 : wr.cell? ⟨g, j * 3, none⟩ = some (cat cs j).1 := by rw [hx1.cellAt (j * 3) (by omega)]; exact (hx2 j hlt).1
      simp only at hls
      have HMk := hide (Lab.mark_any (zs := ls) q (by omega) (by omega) (by omega) (by rw [hls]; exact hlw) (in_self (cat cs j).1))
      have HZn := hide (fun (w' : World) (hw : Zone (loOf (cat cs j).1) (hiOf (cat cs j).1) wr w') => show Zone lo hi w w' from hzn.trans (zone_in hw (fun k hk => ⟨own_ge hlw k hk, unhide HI j hlt k hk⟩)))
      obtain ⟨m, hm⟩ : ∃ m, m = ls.length := ⟨_, rfl⟩
      have hmj : m = (at' zs j).1.length := hm.trans hls
      obtain ⟨c0, hX0⟩ : ∃ c0, c0 = (cat cs j).1 := ⟨_, rfl⟩
      have HX0 := hide hX0
      rw [← hX0] at hc0
      have HMk2 := hide (show Calls Tryz.prog 49 #[c0, .int .i64 q] wr _ from by rw [hX0]; exact unhide HMk)
      clear hx1 hx2 hx3 hlw HMk hX0
      go_wp2_with fail
      refine (unhide HMk2).mono ?_
      rintro e w2 ⟨rfl, o2, z2⟩
      rw [← hm] at o2 ⊢
      have M2 := hide ((unhide HM).zone (c := c0) (m := 0) (ys := []) (a := 0) (b := 0) hlt (unhide HA) z2 ⟨Lab.marks q m, by rw [Lab.marks_length]; exact hmj, by rw [← hmj]; exact o2⟩)
      have Z2 := unhide HZn w2 z2
      obtain ⟨⟨v1, k1⟩, k1f, M3, on3⟩ := (unhide M2).set (c := 1) hlt (.inl rfl) (.int .i64 ((q + 2 * m : Nat) : Int))
      obtain ⟨w3, hw3⟩ : ∃ V, w2.setCell ⟨g, j * 3 + 1, none⟩ (.int .i64 ((q + 2 * m : Nat) : Int)) = V := ⟨_, rfl⟩
      rw [hw3] at M3 on3
      obtain ⟨⟨v2, k2⟩, k2f, M4, on4⟩ := M3.set (c := 2) hlt (.inr rfl) (.int .i64 (((q + 2 * m : Nat) : Int) + 1))
      obtain ⟨w4, hw4⟩ : ∃ V, w3.setCell ⟨g, j * 3 + 2, none⟩ (.int .i64 (((q + 2 * m : Nat) : Int) + 1)) = V := ⟨_, rfl⟩
      rw [hw4] at M4 on4
      have Z4 := hide ((Z2.trans (Zone.of_only on3 hlo hhi)).trans (Zone.of_only on4 hlo hhi))
      have HM4 := hide M4
      obtain ⟨Q, hQ⟩ : ∃ Q, Q = q + 2 * m := ⟨_, rfl⟩
      rw [← hQ] at hw3 hw4 ⊢
      have hQQ : k0 ≤ Q ∧ Q + 2 ≤ k0 + 2 * totTo zs (j + 1) + 2 * (j + 1) := by omega
      have hQb : Q ≤ 200000000 := by omega
      clear HMk2 M2 M3 M4 on3 on4 Z2 o2 z2 HZn HM hQ
      go_wp2_with fail
      go_roundw
      case rel => exact ⟨j + 1, Q + 2, by omega, by go_num, by go_num, ⟨by omega, by omega⟩, HM4, unhide Z4⟩
      case measure => simp [intOf]; omega
    · obtain rfl : j = n := by omega
      go_wp2
      go_ret
      exact ⟨q, rfl, by omega, by omega, hzn⟩
theorem mark_nil (k0 : Int) (w : World) : Calls Tryz.prog 19 #[.slice none 0 0, .int .i64 k0] w fun e w' => e = .returned (.int .i64 k0) ∧ w' = w := by
  go_enter Tryz.func19, Tryz.ntmps19
  go_wp2
  refine wp_loop_rounds 1 ?_
  rw [rounds_succ]
  go_wp2
  go_ret
  exact ⟨rfl, rfl⟩
theorem markA {lo hi : Nat} {v : Value} {zs : List E} {w : World} (k0 : Nat) (hk1 : 1 ≤ k0) (hk2 : k0 ≤ 100000000) (ht : tot zs ≤ 1048576) (h : Own lo hi w v zs) :
    Calls Tryz.prog 19 #[v, .int .i64 k0] w fun e w' => ∃ k : Nat, e = .returned (.int .i64 k) ∧ 1 ≤ k ∧ k ≤ k0 + 4194304 ∧ Zone lo hi w w' := by
  have hf := h
  obtain ⟨cs, hl, h2, -⟩ := h
  rcases h2.2 with ⟨h1, hz⟩ | ⟨g, cap, cur, h1, -⟩
  · subst h1
    refine (mark_nil k0 w).mono ?_
    rintro e w' ⟨rfl, rfl⟩
    exact ⟨k0, rfl, by omega, by omega, Zone.refl _ _ _⟩
  · subst h1
    exact mark_some k0 hk1 hk2 rfl ht hf
end Go.Proofs.YtlboekimnhgfdaaGreat.Ent

/- FnExactTableAdd returns true at all tables and entries. -/
namespace Go.Proofs.YtlboekimnhgfdaaGreat
open Go.RowKit Rw
set_option linter.unusedVariables false
set_option maxRecDepth 100000 in
set_option maxHeartbeats 16000000 in
theorem fnExactTableAdd.walk (c0 : Tab.C) (x0 : Tab.E) (a1 : Option Addr) (len1 cap1 : Nat) (z1 : List Ent.E) (w : World) (w0 : Tab.Elem w c0 x0 ∧ Tab.good x0) (w1 : z1.length = len1 ∧ len1 ≤ maxLen ∧ Ent.Is w (.slice a1 len1 cap1) z1 ∧ ∀ x ∈ z1, Ent.good x) :
    Calls Tryz.prog 3 #[.agg #[c0.1, c0.2.1, c0.2.2], .slice a1 len1 cap1] w fun e w' => e = .returned (.bool true) ∧ Below w.heap.size w w' := by
  obtain ⟨vv, cH, cF⟩ := c0
  obtain ⟨z0, H, F⟩ := x0
  obtain ⟨⟨s0, eH, eF⟩, hg0⟩ := w0
  simp only at s0 eH eF
  subst eH eF
  have g0 : ∀ x ∈ z0, Row.good x := hg0.1.2
  have m0 : z0.length ≤ maxLen := hg0.1.1
  obtain ⟨a0, len0, cap0, e0⟩ : ∃ a n c, vv = .slice a n c := by obtain ⟨cs, -, hL, -⟩ := s0; obtain ⟨-, a, c, e, -⟩ := hL; exact ⟨a, _, c, e⟩
  subst e0
  obtain ⟨e1, m1, s1, g1⟩ := w1
  rw [← e1] at m1
  clear e1
  obtain ⟨wa, hwa⟩ : ∃ wa, wa = w.alloc (.cells #[.slice a0 len0 cap0, .int .i64 H, .int .i64 F] 24) := ⟨_, rfl⟩
  have BA : Below w.heap.size w wa := by rw [hwa]; exact (Below.refl _ _).alloc (Nat.le_refl _) _
  have za : w.heap.size < wa.heap.size := by rw [hwa]; simp
  have A0 : wa.cell? ⟨w.heap.size, 0, none⟩ = some (.slice a0 len0 cap0) := by rw [hwa]; simp [go_sem]
  have A1 : wa.cell? ⟨w.heap.size, 1, none⟩ = some (.int .i64 H) := by rw [hwa]; simp [go_sem]
  have A2 : wa.cell? ⟨w.heap.size, 2, none⟩ = some (.int .i64 F) := by rw [hwa]; simp [go_sem]
  have HS0 := hide (fun W (hB : Below w.heap.size w W) (l : Int) (l0 : 0 ≤ l) (l1 : l ≤ 1048576) => Tab.szX (N1 := H) (N2 := F) l (s0.below hB) hg0 l0 l1)
  obtain ⟨t0, ht0⟩ : ∃ t, t = Row.tot z0 := ⟨_, rfl⟩
  rw [← ht0] at HS0
  have HT0 := hide ht0
  clear ht0
  have HS1 := hide (fun W (hB : Below w.heap.size w W) (l : Int) (l0 : 0 ≤ l) (l1 : l ≤ 1048576) => Ent.sz_any l (s1.below hB) m1 g1 l0 l1)
  obtain ⟨t1, ht1⟩ : ∃ t, t = Ent.tot z1 := ⟨_, rfl⟩
  rw [← ht1] at HS1
  have HT1 := hide ht1
  clear ht1
  by_cases hb0 : (1048576 : Int) - (t0 : Int) < 0
  · clear s0 g0 m0 s1 g1 m1 hg0
    go_enter Tryz.func3, Tryz.ntmps3
    go_wp2_with fail
    rw [← hwa]
    clear hwa
    refine (unhide HS0 _ BA (1048576) (by omega) (by omega)).mono ?_
    rintro e u0 ⟨rfl, b0⟩
    have d0 := BA.trans (b0.mono BA.size)
    have y0 := b0.size
    have A0_u0 := (b0.cell (p := ⟨w.heap.size, 0, none⟩) (by show w.heap.size < _; omega)).trans A0
    have A1_u0 := (b0.cell (p := ⟨w.heap.size, 1, none⟩) (by show w.heap.size < _; omega)).trans A1
    have A2_u0 := (b0.cell (p := ⟨w.heap.size, 2, none⟩) (by show w.heap.size < _; omega)).trans A2
    clear A0 A1 A2
    rw [if_pos (by omega)]
    go_wp2_with fail
    go_ret
    exact ⟨rfl, d0⟩
  by_cases hb1 : (1048576 : Int) - (t0 : Int) - (t1 : Int) < 0
  · clear s0 g0 m0 s1 g1 m1 hg0
    go_enter Tryz.func3, Tryz.ntmps3
    go_wp2_with fail
    rw [← hwa]
    clear hwa
    refine (unhide HS0 _ BA (1048576) (by omega) (by omega)).mono ?_
    rintro e u0 ⟨rfl, b0⟩
    have d0 := BA.trans (b0.mono BA.size)
    have y0 := b0.size
    have A0_u0 := (b0.cell (p := ⟨w.heap.size, 0, none⟩) (by show w.heap.size < _; omega)).trans A0
    have A1_u0 := (b0.cell (p := ⟨w.heap.size, 1, none⟩) (by show w.heap.size < _; omega)).trans A1
    have A2_u0 := (b0.cell (p := ⟨w.heap.size, 2, none⟩) (by show w.heap.size < _; omega)).trans A2
    clear A0 A1 A2
    rw [if_neg (by omega)]
    have n0 : decide (1048576 - (t0 : Int) < 0) = false := by simp; omega
    go_wp2_with fail
    refine (unhide HS1 _ d0 (1048576 - (t0 : Int)) (by omega) (by omega)).mono ?_
    rintro e u1 ⟨rfl, b1⟩
    have d1 := d0.trans (b1.mono d0.size)
    have y1 := b1.size
    have A0_u1 := (b1.cell (p := ⟨w.heap.size, 0, none⟩) (by show w.heap.size < _; omega)).trans A0_u0
    have A1_u1 := (b1.cell (p := ⟨w.heap.size, 1, none⟩) (by show w.heap.size < _; omega)).trans A1_u0
    have A2_u1 := (b1.cell (p := ⟨w.heap.size, 2, none⟩) (by show w.heap.size < _; omega)).trans A2_u0
    clear A0_u0 A1_u0 A2_u0
    rw [if_pos (by omega)]
    go_wp2_with fail
    go_ret
    exact ⟨rfl, d1⟩
  have T0 : Row.tot z0 ≤ 1048576 := by rw [← unhide HT0]; omega
  have HTo0 := hide (fun W (hB : Below w.heap.size w W) => Tab.toX H F (s0.below hB) T0)
  have HG0 := hide g0
  have HM0 := hide m0
  have HB0 := hide T0
  clear s0 g0 m0 T0 hg0
  have T1 : Ent.tot z1 ≤ 1048576 := by rw [← unhide HT1]; omega
  have HTo1 := hide (fun W (hB : Below w.heap.size w W) => Ent.toX (s1.below hB) T1)
  have HG1 := hide g1
  have HM1 := hide m1
  have HB1 := hide T1
  clear s1 g1 m1 T1
  have HRL := hide (show Row.cnt (Tab.tadd z0 H F z1).1.1 ≤ 2097152 ∧ (Tab.tadd z0 H F z1).1.1.length ≤ 2097152 from Tab.tadd_cnt z0 H F z1)
  obtain ⟨rz, RH, RF, RK, hrz⟩ : ∃ a b c d, ((a, b, c), d) = Tab.tadd z0 H F z1 := ⟨_, _, _, _, rfl⟩
  rw [← hrz] at HRL
  simp only at HRL
  have HRZ := hide hrz
  have hbb : (RK != RK) = false := by simp
  clear hrz
  go_enter Tryz.func3, Tryz.ntmps3
  go_wp2_with fail
  rw [← hwa]
  clear hwa
  refine (unhide HS0 _ BA (1048576) (by omega) (by omega)).mono ?_
  rintro e u0 ⟨rfl, b0⟩
  have d0 := BA.trans (b0.mono BA.size)
  have y0 := b0.size
  have A0_u0 := (b0.cell (p := ⟨w.heap.size, 0, none⟩) (by show w.heap.size < _; omega)).trans A0
  have A1_u0 := (b0.cell (p := ⟨w.heap.size, 1, none⟩) (by show w.heap.size < _; omega)).trans A1
  have A2_u0 := (b0.cell (p := ⟨w.heap.size, 2, none⟩) (by show w.heap.size < _; omega)).trans A2
  clear A0 A1 A2
  rw [if_neg (by omega)]
  have n0 : decide (1048576 - (t0 : Int) < 0) = false := by simp; omega
  go_wp2_with fail
  refine (unhide HS1 _ d0 (1048576 - (t0 : Int)) (by omega) (by omega)).mono ?_
  rintro e u1 ⟨rfl, b1⟩
  have d1 := d0.trans (b1.mono d0.size)
  have y1 := b1.size
  have A0_u1 := (b1.cell (p := ⟨w.heap.size, 0, none⟩) (by show w.heap.size < _; omega)).trans A0_u0
  have A1_u1 := (b1.cell (p := ⟨w.heap.size, 1, none⟩) (by show w.heap.size < _; omega)).trans A1_u0
  have A2_u1 := (b1.cell (p := ⟨w.heap.size, 2, none⟩) (by show w.heap.size < _; omega)).trans A2_u0
  clear A0_u0 A1_u0 A2_u0
  rw [if_neg (by omega)]
  have n1 : decide (1048576 - (t0 : Int) - (t1 : Int) < 0) = false := by simp; omega
  clear b0 HS0 b1 HS1
  have z0' := d1.size
  go_wp2_with fail
  refine (unhide HTo0 _ d1).mono ?_
  rintro e w1 ⟨v_p0, rfl, on, bn⟩
  have c1 := d1.trans (bn.mono d1.size)
  have z1' := bn.size
  have A0_1 := (bn.cell (p := ⟨w.heap.size, 0, none⟩) (by show w.heap.size < _; omega)).trans A0_u1
  have A1_1 := (bn.cell (p := ⟨w.heap.size, 1, none⟩) (by show w.heap.size < _; omega)).trans A1_u1
  have A2_1 := (bn.cell (p := ⟨w.heap.size, 2, none⟩) (by show w.heap.size < _; omega)).trans A2_u1
  clear A0_u1 A1_u1 A2_u1
  obtain ⟨a_p0, l_p0, q_p0, rfl⟩ := Row.Own.form on
  have F_p0_1 := on
  clear on bn
  go_wp2_with fail
  refine (unhide HTo1 _ c1).mono ?_
  rintro e w2 ⟨v_p1, rfl, on, bn⟩
  have c2 := c1.trans (bn.mono c1.size)
  have z2' := bn.size
  have F_p0_2 := F_p0_1.below bn
  clear F_p0_1
  have A0_2 := (bn.cell (p := ⟨w.heap.size, 0, none⟩) (by show w.heap.size < _; omega)).trans A0_1
  have A1_2 := (bn.cell (p := ⟨w.heap.size, 1, none⟩) (by show w.heap.size < _; omega)).trans A1_1
  have A2_2 := (bn.cell (p := ⟨w.heap.size, 2, none⟩) (by show w.heap.size < _; omega)).trans A2_1
  clear A0_1 A1_1 A2_1
  obtain ⟨a_p1, l_p1, q_p1, rfl⟩ := Ent.Own.form on
  have F_p1_2 := on
  clear on bn
  go_wp2_with fail
  have Q := hide (Tab.spec_tadd H F F_p0_2.is (unhide HG0) (unhide HM0) F_p1_2.is (Tab.okay_of (unhide HG1)))
  rw [← unhide HRZ] at Q
  simp only at Q
  refine (unhide Q).mono ?_
  rintro e w3 ⟨v_w, rfl, on0, bn⟩
  have on := on0
  clear on0 Q
  have c3 := c2.trans (bn.mono c2.size)
  have z3' := bn.size
  have F_p0_3 := F_p0_2.below bn
  clear F_p0_2
  have F_p1_3 := F_p1_2.below bn
  clear F_p1_2
  have A0_3 := (bn.cell (p := ⟨w.heap.size, 0, none⟩) (by show w.heap.size < _; omega)).trans A0_2
  have A1_3 := (bn.cell (p := ⟨w.heap.size, 1, none⟩) (by show w.heap.size < _; omega)).trans A1_2
  have A2_3 := (bn.cell (p := ⟨w.heap.size, 2, none⟩) (by show w.heap.size < _; omega)).trans A2_2
  clear A0_2 A1_2 A2_2
  obtain ⟨a_w, l_w, q_w, rfl⟩ := Row.Own.form on
  have F_w_3 := on
  clear on bn
  obtain ⟨w4, hw4⟩ : ∃ w', w' = w3.alloc (.cells #[.slice a_w l_w q_w, .int .i64 RH, .int .i64 RF] 30) := ⟨_, rfl⟩
  have bn : Below w3.heap.size w3 w4 := by rw [hw4]; exact (Below.refl _ _).alloc (Nat.le_refl _) _
  have zz4 : w3.heap.size < w4.heap.size := by rw [hw4]; simp
  have V0_4 : w4.cell? ⟨w3.heap.size, 0, none⟩ = some (.slice a_w l_w q_w) := by rw [hw4]; simp [go_sem]
  have V1_4 : w4.cell? ⟨w3.heap.size, 1, none⟩ = some (.int .i64 RH) := by rw [hw4]; simp [go_sem]
  have V2_4 : w4.cell? ⟨w3.heap.size, 2, none⟩ = some (.int .i64 RF) := by rw [hw4]; simp [go_sem]
  have c4 := c3.trans (bn.mono c3.size)
  have z4' := bn.size
  have F_p0_4 := F_p0_3.below bn
  clear F_p0_3
  have F_p1_4 := F_p1_3.below bn
  clear F_p1_3
  have F_w_4 := F_w_3.below bn
  clear F_w_3
  have A0_4 := (bn.cell (p := ⟨w.heap.size, 0, none⟩) (by show w.heap.size < _; omega)).trans A0_3
  have A1_4 := (bn.cell (p := ⟨w.heap.size, 1, none⟩) (by show w.heap.size < _; omega)).trans A1_3
  have A2_4 := (bn.cell (p := ⟨w.heap.size, 2, none⟩) (by show w.heap.size < _; omega)).trans A2_3
  clear A0_3 A1_3 A2_3
  clear bn
  have hs4 := hw4.symm
  clear hw4
  clear F_p0_4
  clear F_p1_4
  go_wp2_with fail
  try rw [hs4]
  clear hs4
  refine (unhide HTo0 _ c4).mono ?_
  rintro e w5 ⟨v_x0, rfl, on, bn⟩
  have c5 := c4.trans (bn.mono c4.size)
  have z5' := bn.size
  have F_w_5 := F_w_4.below bn
  clear F_w_4
  have A0_5 := (bn.cell (p := ⟨w.heap.size, 0, none⟩) (by show w.heap.size < _; omega)).trans A0_4
  have A1_5 := (bn.cell (p := ⟨w.heap.size, 1, none⟩) (by show w.heap.size < _; omega)).trans A1_4
  have A2_5 := (bn.cell (p := ⟨w.heap.size, 2, none⟩) (by show w.heap.size < _; omega)).trans A2_4
  clear A0_4 A1_4 A2_4
  have V0_5 := (bn.cell (p := ⟨w3.heap.size, 0, none⟩) (by show w3.heap.size < _; omega)).trans V0_4
  have V1_5 := (bn.cell (p := ⟨w3.heap.size, 1, none⟩) (by show w3.heap.size < _; omega)).trans V1_4
  have V2_5 := (bn.cell (p := ⟨w3.heap.size, 2, none⟩) (by show w3.heap.size < _; omega)).trans V2_4
  clear V0_4 V1_4 V2_4
  obtain ⟨a_x0, l_x0, q_x0, rfl⟩ := Row.Own.form on
  have F_x0_5 := on
  clear on bn
  obtain ⟨w6, hw6⟩ : ∃ w', w' = w5.alloc (.cells #[.slice a_x0 l_x0 q_x0, .int .i64 H, .int .i64 F] 30) := ⟨_, rfl⟩
  have bn : Below w5.heap.size w5 w6 := by rw [hw6]; exact (Below.refl _ _).alloc (Nat.le_refl _) _
  have zz6 : w5.heap.size < w6.heap.size := by rw [hw6]; simp
  have X0_6 : w6.cell? ⟨w5.heap.size, 0, none⟩ = some (.slice a_x0 l_x0 q_x0) := by rw [hw6]; simp [go_sem]
  have X1_6 : w6.cell? ⟨w5.heap.size, 1, none⟩ = some (.int .i64 H) := by rw [hw6]; simp [go_sem]
  have X2_6 : w6.cell? ⟨w5.heap.size, 2, none⟩ = some (.int .i64 F) := by rw [hw6]; simp [go_sem]
  have c6 := c5.trans (bn.mono c5.size)
  have z6' := bn.size
  have F_w_6 := F_w_5.below bn
  clear F_w_5
  have F_x0_6 := F_x0_5.below bn
  clear F_x0_5
  have A0_6 := (bn.cell (p := ⟨w.heap.size, 0, none⟩) (by show w.heap.size < _; omega)).trans A0_5
  have A1_6 := (bn.cell (p := ⟨w.heap.size, 1, none⟩) (by show w.heap.size < _; omega)).trans A1_5
  have A2_6 := (bn.cell (p := ⟨w.heap.size, 2, none⟩) (by show w.heap.size < _; omega)).trans A2_5
  clear A0_5 A1_5 A2_5
  have V0_6 := (bn.cell (p := ⟨w3.heap.size, 0, none⟩) (by show w3.heap.size < _; omega)).trans V0_5
  have V1_6 := (bn.cell (p := ⟨w3.heap.size, 1, none⟩) (by show w3.heap.size < _; omega)).trans V1_5
  have V2_6 := (bn.cell (p := ⟨w3.heap.size, 2, none⟩) (by show w3.heap.size < _; omega)).trans V2_5
  clear V0_5 V1_5 V2_5
  clear bn
  have hs6 := hw6.symm
  clear hw6
  go_wp2_with fail
  try rw [hs6]
  clear hs6
  refine (unhide HTo1 _ c6).mono ?_
  rintro e w7 ⟨v_x1, rfl, on, bn⟩
  have c7 := c6.trans (bn.mono c6.size)
  have z7' := bn.size
  have F_w_7 := F_w_6.below bn
  clear F_w_6
  have F_x0_7 := F_x0_6.below bn
  clear F_x0_6
  have A0_7 := (bn.cell (p := ⟨w.heap.size, 0, none⟩) (by show w.heap.size < _; omega)).trans A0_6
  have A1_7 := (bn.cell (p := ⟨w.heap.size, 1, none⟩) (by show w.heap.size < _; omega)).trans A1_6
  have A2_7 := (bn.cell (p := ⟨w.heap.size, 2, none⟩) (by show w.heap.size < _; omega)).trans A2_6
  clear A0_6 A1_6 A2_6
  have V0_7 := (bn.cell (p := ⟨w3.heap.size, 0, none⟩) (by show w3.heap.size < _; omega)).trans V0_6
  have V1_7 := (bn.cell (p := ⟨w3.heap.size, 1, none⟩) (by show w3.heap.size < _; omega)).trans V1_6
  have V2_7 := (bn.cell (p := ⟨w3.heap.size, 2, none⟩) (by show w3.heap.size < _; omega)).trans V2_6
  clear V0_6 V1_6 V2_6
  have X0_7 := (bn.cell (p := ⟨w5.heap.size, 0, none⟩) (by show w5.heap.size < _; omega)).trans X0_6
  have X1_7 := (bn.cell (p := ⟨w5.heap.size, 1, none⟩) (by show w5.heap.size < _; omega)).trans X1_6
  have X2_7 := (bn.cell (p := ⟨w5.heap.size, 2, none⟩) (by show w5.heap.size < _; omega)).trans X2_6
  clear X0_6 X1_6 X2_6
  obtain ⟨a_x1, l_x1, q_x1, rfl⟩ := Ent.Own.form on
  have F_x1_7 := on
  clear on bn
  go_wp2_with fail
  have Q := hide (Tab.impl_tadd H F F_x0_7.is (unhide HG0) (unhide HM0) F_x1_7.is (Tab.okay_of (unhide HG1)))
  rw [← unhide HRZ] at Q
  simp only at Q
  refine (unhide Q).mono ?_
  rintro e w8 ⟨v_g, rfl, on0, bn⟩
  have on := on0
  clear on0 Q
  have c8 := c7.trans (bn.mono c7.size)
  have z8' := bn.size
  have F_w_8 := F_w_7.below bn
  clear F_w_7
  have F_x0_8 := F_x0_7.below bn
  clear F_x0_7
  have F_x1_8 := F_x1_7.below bn
  clear F_x1_7
  have A0_8 := (bn.cell (p := ⟨w.heap.size, 0, none⟩) (by show w.heap.size < _; omega)).trans A0_7
  have A1_8 := (bn.cell (p := ⟨w.heap.size, 1, none⟩) (by show w.heap.size < _; omega)).trans A1_7
  have A2_8 := (bn.cell (p := ⟨w.heap.size, 2, none⟩) (by show w.heap.size < _; omega)).trans A2_7
  clear A0_7 A1_7 A2_7
  have V0_8 := (bn.cell (p := ⟨w3.heap.size, 0, none⟩) (by show w3.heap.size < _; omega)).trans V0_7
  have V1_8 := (bn.cell (p := ⟨w3.heap.size, 1, none⟩) (by show w3.heap.size < _; omega)).trans V1_7
  have V2_8 := (bn.cell (p := ⟨w3.heap.size, 2, none⟩) (by show w3.heap.size < _; omega)).trans V2_7
  clear V0_7 V1_7 V2_7
  have X0_8 := (bn.cell (p := ⟨w5.heap.size, 0, none⟩) (by show w5.heap.size < _; omega)).trans X0_7
  have X1_8 := (bn.cell (p := ⟨w5.heap.size, 1, none⟩) (by show w5.heap.size < _; omega)).trans X1_7
  have X2_8 := (bn.cell (p := ⟨w5.heap.size, 2, none⟩) (by show w5.heap.size < _; omega)).trans X2_7
  clear X0_7 X1_7 X2_7
  obtain ⟨a_g, l_g, q_g, rfl⟩ := Row.Own.form on
  have F_g_8 := on
  clear on bn
  obtain ⟨w9, hw9⟩ : ∃ w', w' = w8.alloc (.cells #[.slice a_g l_g q_g, .int .i64 RH, .int .i64 RF] 30) := ⟨_, rfl⟩
  have bn : Below w8.heap.size w8 w9 := by rw [hw9]; exact (Below.refl _ _).alloc (Nat.le_refl _) _
  have zz9 : w8.heap.size < w9.heap.size := by rw [hw9]; simp
  have G0_9 : w9.cell? ⟨w8.heap.size, 0, none⟩ = some (.slice a_g l_g q_g) := by rw [hw9]; simp [go_sem]
  have G1_9 : w9.cell? ⟨w8.heap.size, 1, none⟩ = some (.int .i64 RH) := by rw [hw9]; simp [go_sem]
  have G2_9 : w9.cell? ⟨w8.heap.size, 2, none⟩ = some (.int .i64 RF) := by rw [hw9]; simp [go_sem]
  have c9 := c8.trans (bn.mono c8.size)
  have z9' := bn.size
  have F_w_9 := F_w_8.below bn
  clear F_w_8
  have F_x0_9 := F_x0_8.below bn
  clear F_x0_8
  have F_x1_9 := F_x1_8.below bn
  clear F_x1_8
  have F_g_9 := F_g_8.below bn
  clear F_g_8
  have A0_9 := (bn.cell (p := ⟨w.heap.size, 0, none⟩) (by show w.heap.size < _; omega)).trans A0_8
  have A1_9 := (bn.cell (p := ⟨w.heap.size, 1, none⟩) (by show w.heap.size < _; omega)).trans A1_8
  have A2_9 := (bn.cell (p := ⟨w.heap.size, 2, none⟩) (by show w.heap.size < _; omega)).trans A2_8
  clear A0_8 A1_8 A2_8
  have V0_9 := (bn.cell (p := ⟨w3.heap.size, 0, none⟩) (by show w3.heap.size < _; omega)).trans V0_8
  have V1_9 := (bn.cell (p := ⟨w3.heap.size, 1, none⟩) (by show w3.heap.size < _; omega)).trans V1_8
  have V2_9 := (bn.cell (p := ⟨w3.heap.size, 2, none⟩) (by show w3.heap.size < _; omega)).trans V2_8
  clear V0_8 V1_8 V2_8
  have X0_9 := (bn.cell (p := ⟨w5.heap.size, 0, none⟩) (by show w5.heap.size < _; omega)).trans X0_8
  have X1_9 := (bn.cell (p := ⟨w5.heap.size, 1, none⟩) (by show w5.heap.size < _; omega)).trans X1_8
  have X2_9 := (bn.cell (p := ⟨w5.heap.size, 2, none⟩) (by show w5.heap.size < _; omega)).trans X2_8
  clear X0_8 X1_8 X2_8
  clear bn
  have hs9 := hw9.symm
  clear hw9
  go_wp2_with fail
  try rw [hs9]
  clear hs9
  refine (Tab.eqX (N1 := RH) (N2 := RF) F_g_9.is F_w_9.is).mono ?_
  rintro e w10 ⟨rfl, bn⟩
  have c10 := c9.trans (bn.mono c9.size)
  have z10' := bn.size
  have F_w_10 := F_w_9.below bn
  clear F_w_9
  have F_x0_10 := F_x0_9.below bn
  clear F_x0_9
  have F_x1_10 := F_x1_9.below bn
  clear F_x1_9
  have F_g_10 := F_g_9.below bn
  clear F_g_9
  have A0_10 := (bn.cell (p := ⟨w.heap.size, 0, none⟩) (by show w.heap.size < _; omega)).trans A0_9
  have A1_10 := (bn.cell (p := ⟨w.heap.size, 1, none⟩) (by show w.heap.size < _; omega)).trans A1_9
  have A2_10 := (bn.cell (p := ⟨w.heap.size, 2, none⟩) (by show w.heap.size < _; omega)).trans A2_9
  clear A0_9 A1_9 A2_9
  have V0_10 := (bn.cell (p := ⟨w3.heap.size, 0, none⟩) (by show w3.heap.size < _; omega)).trans V0_9
  have V1_10 := (bn.cell (p := ⟨w3.heap.size, 1, none⟩) (by show w3.heap.size < _; omega)).trans V1_9
  have V2_10 := (bn.cell (p := ⟨w3.heap.size, 2, none⟩) (by show w3.heap.size < _; omega)).trans V2_9
  clear V0_9 V1_9 V2_9
  have X0_10 := (bn.cell (p := ⟨w5.heap.size, 0, none⟩) (by show w5.heap.size < _; omega)).trans X0_9
  have X1_10 := (bn.cell (p := ⟨w5.heap.size, 1, none⟩) (by show w5.heap.size < _; omega)).trans X1_9
  have X2_10 := (bn.cell (p := ⟨w5.heap.size, 2, none⟩) (by show w5.heap.size < _; omega)).trans X2_9
  clear X0_9 X1_9 X2_9
  have G0_10 := (bn.cell (p := ⟨w8.heap.size, 0, none⟩) (by show w8.heap.size < _; omega)).trans G0_9
  have G1_10 := (bn.cell (p := ⟨w8.heap.size, 1, none⟩) (by show w8.heap.size < _; omega)).trans G1_9
  have G2_10 := (bn.cell (p := ⟨w8.heap.size, 2, none⟩) (by show w8.heap.size < _; omega)).trans G2_9
  clear G0_9 G1_9 G2_9
  clear bn
  have S6 : (fun W : World => W.cell? ⟨w.heap.size, 0, none⟩ = some (.slice a0 len0 cap0) ∧ W.cell? ⟨w.heap.size, 1, none⟩ = some (.int .i64 H) ∧ W.cell? ⟨w.heap.size, 2, none⟩ = some (.int .i64 F) ∧ W.cell? ⟨w5.heap.size, 0, none⟩ = some (.slice a_x0 l_x0 q_x0) ∧ W.cell? ⟨w5.heap.size, 1, none⟩ = some (.int .i64 H) ∧ W.cell? ⟨w5.heap.size, 2, none⟩ = some (.int .i64 F)) w10.drew := ⟨by simpa using A0_10, by simpa using A1_10, by simpa using A2_10, by simpa using X0_10, by simpa using X1_10, by simpa using X2_10⟩
  have cd := c10.drew
  have HT6 := hide (unhide HTo0 w10.drew cd)
  have FX := F_x0_10.is.below (Below.refl w10.heap.size w10).drew
  go_wp2_with fail
  go_region_held3 (fun W => W.cell? ⟨w.heap.size, 0, none⟩ = some (.slice a0 len0 cap0) ∧ W.cell? ⟨w.heap.size, 1, none⟩ = some (.int .i64 H) ∧ W.cell? ⟨w.heap.size, 2, none⟩ = some (.int .i64 F) ∧ W.cell? ⟨w5.heap.size, 0, none⟩ = some (.slice a_x0 l_x0 q_x0) ∧ W.cell? ⟨w5.heap.size, 1, none⟩ = some (.int .i64 H) ∧ W.cell? ⟨w5.heap.size, 2, none⟩ = some (.int .i64 F)) (first | exact S6 | exact S7 | exact S8) ((first | (go_at_call 13; refine (unhide HT6).mono ?_; rintro e w7' ⟨vq, rfl, oq, b7⟩; have z7 := b7.size; simp only [World.size_drew] at z7; have S7 : (fun W : World => W.cell? ⟨w.heap.size, 0, none⟩ = some (.slice a0 len0 cap0) ∧ W.cell? ⟨w.heap.size, 1, none⟩ = some (.int .i64 H) ∧ W.cell? ⟨w.heap.size, 2, none⟩ = some (.int .i64 F) ∧ W.cell? ⟨w5.heap.size, 0, none⟩ = some (.slice a_x0 l_x0 q_x0) ∧ W.cell? ⟨w5.heap.size, 1, none⟩ = some (.int .i64 H) ∧ W.cell? ⟨w5.heap.size, 2, none⟩ = some (.int .i64 F)) w7' := ⟨(b7.cell (p := ⟨w.heap.size, 0, none⟩) (by simp; omega)).trans S6.1, (b7.cell (p := ⟨w.heap.size, 1, none⟩) (by simp; omega)).trans S6.2.1, (b7.cell (p := ⟨w.heap.size, 2, none⟩) (by simp; omega)).trans S6.2.2.1, (b7.cell (p := ⟨w5.heap.size, 0, none⟩) (by simp; omega)).trans S6.2.2.2.1, (b7.cell (p := ⟨w5.heap.size, 1, none⟩) (by simp; omega)).trans S6.2.2.2.2.1, (b7.cell (p := ⟨w5.heap.size, 2, none⟩) (by simp; omega)).trans S6.2.2.2.2.2⟩) | (go_at_call 16; refine (Tab.eqX (FX.below b7) oq.is).mono ?_; rintro e w8' ⟨rfl, b8⟩; have z8 := b8.size; have S8 : (fun W : World => W.cell? ⟨w.heap.size, 0, none⟩ = some (.slice a0 len0 cap0) ∧ W.cell? ⟨w.heap.size, 1, none⟩ = some (.int .i64 H) ∧ W.cell? ⟨w.heap.size, 2, none⟩ = some (.int .i64 F) ∧ W.cell? ⟨w5.heap.size, 0, none⟩ = some (.slice a_x0 l_x0 q_x0) ∧ W.cell? ⟨w5.heap.size, 1, none⟩ = some (.int .i64 H) ∧ W.cell? ⟨w5.heap.size, 2, none⟩ = some (.int .i64 F)) w8' := ⟨(b8.cell (p := ⟨w.heap.size, 0, none⟩) (by simp; omega)).trans S7.1, (b8.cell (p := ⟨w.heap.size, 1, none⟩) (by simp; omega)).trans S7.2.1, (b8.cell (p := ⟨w.heap.size, 2, none⟩) (by simp; omega)).trans S7.2.2.1, (b8.cell (p := ⟨w5.heap.size, 0, none⟩) (by simp; omega)).trans S7.2.2.2.1, (b8.cell (p := ⟨w5.heap.size, 1, none⟩) (by simp; omega)).trans S7.2.2.2.2.1, (b8.cell (p := ⟨w5.heap.size, 2, none⟩) (by simp; omega)).trans S7.2.2.2.2.2⟩)))
  obtain ⟨w11, hw11⟩ : ∃ w', w' = w8' := ⟨_, rfl⟩
  subst hw11
  have bn : Below w10.heap.size w10 w11 := ((Below.refl w10.heap.size w10).drew.trans b7).trans (b8.mono (by simpa using b7.size))
  clear S6 S7 S8 HT6 FX oq cd b7 b8
  have c11 := c10.trans (bn.mono c10.size)
  have z11' := bn.size
  have F_w_11 := F_w_10.below bn
  clear F_w_10
  have F_x0_11 := F_x0_10.below bn
  clear F_x0_10
  have F_x1_11 := F_x1_10.below bn
  clear F_x1_10
  have F_g_11 := F_g_10.below bn
  clear F_g_10
  have A0_11 := (bn.cell (p := ⟨w.heap.size, 0, none⟩) (by show w.heap.size < _; omega)).trans A0_10
  have A1_11 := (bn.cell (p := ⟨w.heap.size, 1, none⟩) (by show w.heap.size < _; omega)).trans A1_10
  have A2_11 := (bn.cell (p := ⟨w.heap.size, 2, none⟩) (by show w.heap.size < _; omega)).trans A2_10
  clear A0_10 A1_10 A2_10
  have V0_11 := (bn.cell (p := ⟨w3.heap.size, 0, none⟩) (by show w3.heap.size < _; omega)).trans V0_10
  have V1_11 := (bn.cell (p := ⟨w3.heap.size, 1, none⟩) (by show w3.heap.size < _; omega)).trans V1_10
  have V2_11 := (bn.cell (p := ⟨w3.heap.size, 2, none⟩) (by show w3.heap.size < _; omega)).trans V2_10
  clear V0_10 V1_10 V2_10
  have X0_11 := (bn.cell (p := ⟨w5.heap.size, 0, none⟩) (by show w5.heap.size < _; omega)).trans X0_10
  have X1_11 := (bn.cell (p := ⟨w5.heap.size, 1, none⟩) (by show w5.heap.size < _; omega)).trans X1_10
  have X2_11 := (bn.cell (p := ⟨w5.heap.size, 2, none⟩) (by show w5.heap.size < _; omega)).trans X2_10
  clear X0_10 X1_10 X2_10
  have G0_11 := (bn.cell (p := ⟨w8.heap.size, 0, none⟩) (by show w8.heap.size < _; omega)).trans G0_10
  have G1_11 := (bn.cell (p := ⟨w8.heap.size, 1, none⟩) (by show w8.heap.size < _; omega)).trans G1_10
  have G2_11 := (bn.cell (p := ⟨w8.heap.size, 2, none⟩) (by show w8.heap.size < _; omega)).trans G2_10
  clear G0_10 G1_10 G2_10
  clear bn
  go_wp2_with fail
  refine (unhide HTo1 _ c11).mono ?_
  rintro e w12 ⟨v_r1, rfl, on, bn⟩
  have c12 := c11.trans (bn.mono c11.size)
  have z12' := bn.size
  have F_w_12 := F_w_11.below bn
  clear F_w_11
  have F_x0_12 := F_x0_11.below bn
  clear F_x0_11
  have F_x1_12 := F_x1_11.below bn
  clear F_x1_11
  have F_g_12 := F_g_11.below bn
  clear F_g_11
  have A0_12 := (bn.cell (p := ⟨w.heap.size, 0, none⟩) (by show w.heap.size < _; omega)).trans A0_11
  have A1_12 := (bn.cell (p := ⟨w.heap.size, 1, none⟩) (by show w.heap.size < _; omega)).trans A1_11
  have A2_12 := (bn.cell (p := ⟨w.heap.size, 2, none⟩) (by show w.heap.size < _; omega)).trans A2_11
  clear A0_11 A1_11 A2_11
  have V0_12 := (bn.cell (p := ⟨w3.heap.size, 0, none⟩) (by show w3.heap.size < _; omega)).trans V0_11
  have V1_12 := (bn.cell (p := ⟨w3.heap.size, 1, none⟩) (by show w3.heap.size < _; omega)).trans V1_11
  have V2_12 := (bn.cell (p := ⟨w3.heap.size, 2, none⟩) (by show w3.heap.size < _; omega)).trans V2_11
  clear V0_11 V1_11 V2_11
  have X0_12 := (bn.cell (p := ⟨w5.heap.size, 0, none⟩) (by show w5.heap.size < _; omega)).trans X0_11
  have X1_12 := (bn.cell (p := ⟨w5.heap.size, 1, none⟩) (by show w5.heap.size < _; omega)).trans X1_11
  have X2_12 := (bn.cell (p := ⟨w5.heap.size, 2, none⟩) (by show w5.heap.size < _; omega)).trans X2_11
  clear X0_11 X1_11 X2_11
  have G0_12 := (bn.cell (p := ⟨w8.heap.size, 0, none⟩) (by show w8.heap.size < _; omega)).trans G0_11
  have G1_12 := (bn.cell (p := ⟨w8.heap.size, 1, none⟩) (by show w8.heap.size < _; omega)).trans G1_11
  have G2_12 := (bn.cell (p := ⟨w8.heap.size, 2, none⟩) (by show w8.heap.size < _; omega)).trans G2_11
  clear G0_11 G1_11 G2_11
  obtain ⟨a_r1, l_r1, q_r1, rfl⟩ := Ent.Own.form on
  have F_r1_12 := on
  clear on bn
  go_wp2_with fail
  refine (Ent.eqX F_x1_12.is F_r1_12.is).mono ?_
  rintro e w13 ⟨rfl, bn⟩
  have c13 := c12.trans (bn.mono c12.size)
  have z13' := bn.size
  have F_w_13 := F_w_12.below bn
  clear F_w_12
  have F_x0_13 := F_x0_12.below bn
  clear F_x0_12
  have F_x1_13 := F_x1_12.below bn
  clear F_x1_12
  have F_g_13 := F_g_12.below bn
  clear F_g_12
  have F_r1_13 := F_r1_12.below bn
  clear F_r1_12
  have A0_13 := (bn.cell (p := ⟨w.heap.size, 0, none⟩) (by show w.heap.size < _; omega)).trans A0_12
  have A1_13 := (bn.cell (p := ⟨w.heap.size, 1, none⟩) (by show w.heap.size < _; omega)).trans A1_12
  have A2_13 := (bn.cell (p := ⟨w.heap.size, 2, none⟩) (by show w.heap.size < _; omega)).trans A2_12
  clear A0_12 A1_12 A2_12
  have V0_13 := (bn.cell (p := ⟨w3.heap.size, 0, none⟩) (by show w3.heap.size < _; omega)).trans V0_12
  have V1_13 := (bn.cell (p := ⟨w3.heap.size, 1, none⟩) (by show w3.heap.size < _; omega)).trans V1_12
  have V2_13 := (bn.cell (p := ⟨w3.heap.size, 2, none⟩) (by show w3.heap.size < _; omega)).trans V2_12
  clear V0_12 V1_12 V2_12
  have X0_13 := (bn.cell (p := ⟨w5.heap.size, 0, none⟩) (by show w5.heap.size < _; omega)).trans X0_12
  have X1_13 := (bn.cell (p := ⟨w5.heap.size, 1, none⟩) (by show w5.heap.size < _; omega)).trans X1_12
  have X2_13 := (bn.cell (p := ⟨w5.heap.size, 2, none⟩) (by show w5.heap.size < _; omega)).trans X2_12
  clear X0_12 X1_12 X2_12
  have G0_13 := (bn.cell (p := ⟨w8.heap.size, 0, none⟩) (by show w8.heap.size < _; omega)).trans G0_12
  have G1_13 := (bn.cell (p := ⟨w8.heap.size, 1, none⟩) (by show w8.heap.size < _; omega)).trans G1_12
  have G2_13 := (bn.cell (p := ⟨w8.heap.size, 2, none⟩) (by show w8.heap.size < _; omega)).trans G2_12
  clear G0_12 G1_12 G2_12
  clear bn
  clear F_r1_13
  go_wp2_with fail
  refine (Tab.markA (N1 := H) (N2 := F) 1 (by omega) (by omega) (unhide HB0) F_x0_13).mono ?_
  rintro e w14 ⟨k0, rfl, ka0, kb0, zn⟩
  clear F_x0_13
  have c14 := c13.trans (zn.below (by omega) (by omega))
  have z14' := zn.size
  have F_w_14 := F_w_13.zone zn (by omega)
  clear F_w_13
  have F_x1_14 := F_x1_13.zone zn (by omega)
  clear F_x1_13
  have F_g_14 := F_g_13.zone zn (by omega)
  clear F_g_13
  have A0_14 := (World.cell?_of_block (a := ⟨w.heap.size, 0, none⟩) (zn.block w.heap.size (by omega) (by omega))).trans A0_13
  have A1_14 := (World.cell?_of_block (a := ⟨w.heap.size, 1, none⟩) (zn.block w.heap.size (by omega) (by omega))).trans A1_13
  have A2_14 := (World.cell?_of_block (a := ⟨w.heap.size, 2, none⟩) (zn.block w.heap.size (by omega) (by omega))).trans A2_13
  clear A0_13 A1_13 A2_13
  have V0_14 := (World.cell?_of_block (a := ⟨w3.heap.size, 0, none⟩) (zn.block w3.heap.size (by omega) (by omega))).trans V0_13
  have V1_14 := (World.cell?_of_block (a := ⟨w3.heap.size, 1, none⟩) (zn.block w3.heap.size (by omega) (by omega))).trans V1_13
  have V2_14 := (World.cell?_of_block (a := ⟨w3.heap.size, 2, none⟩) (zn.block w3.heap.size (by omega) (by omega))).trans V2_13
  clear V0_13 V1_13 V2_13
  have X0_14 := (World.cell?_of_block (a := ⟨w5.heap.size, 0, none⟩) (zn.block w5.heap.size (by omega) (by omega))).trans X0_13
  have X1_14 := (World.cell?_of_block (a := ⟨w5.heap.size, 1, none⟩) (zn.block w5.heap.size (by omega) (by omega))).trans X1_13
  have X2_14 := (World.cell?_of_block (a := ⟨w5.heap.size, 2, none⟩) (zn.block w5.heap.size (by omega) (by omega))).trans X2_13
  clear X0_13 X1_13 X2_13
  have G0_14 := (World.cell?_of_block (a := ⟨w8.heap.size, 0, none⟩) (zn.block w8.heap.size (by omega) (by omega))).trans G0_13
  have G1_14 := (World.cell?_of_block (a := ⟨w8.heap.size, 1, none⟩) (zn.block w8.heap.size (by omega) (by omega))).trans G1_13
  have G2_14 := (World.cell?_of_block (a := ⟨w8.heap.size, 2, none⟩) (zn.block w8.heap.size (by omega) (by omega))).trans G2_13
  clear G0_13 G1_13 G2_13
  clear zn
  go_wp2_with fail
  refine (Ent.markA k0 (by omega) (by omega) (unhide HB1) F_x1_14).mono ?_
  rintro e w15 ⟨k1, rfl, ka1, kb1, zn⟩
  clear F_x1_14
  have c15 := c14.trans (zn.below (by omega) (by omega))
  have z15' := zn.size
  have F_w_15 := F_w_14.zone zn (by omega)
  clear F_w_14
  have F_g_15 := F_g_14.zone zn (by omega)
  clear F_g_14
  have A0_15 := (World.cell?_of_block (a := ⟨w.heap.size, 0, none⟩) (zn.block w.heap.size (by omega) (by omega))).trans A0_14
  have A1_15 := (World.cell?_of_block (a := ⟨w.heap.size, 1, none⟩) (zn.block w.heap.size (by omega) (by omega))).trans A1_14
  have A2_15 := (World.cell?_of_block (a := ⟨w.heap.size, 2, none⟩) (zn.block w.heap.size (by omega) (by omega))).trans A2_14
  clear A0_14 A1_14 A2_14
  have V0_15 := (World.cell?_of_block (a := ⟨w3.heap.size, 0, none⟩) (zn.block w3.heap.size (by omega) (by omega))).trans V0_14
  have V1_15 := (World.cell?_of_block (a := ⟨w3.heap.size, 1, none⟩) (zn.block w3.heap.size (by omega) (by omega))).trans V1_14
  have V2_15 := (World.cell?_of_block (a := ⟨w3.heap.size, 2, none⟩) (zn.block w3.heap.size (by omega) (by omega))).trans V2_14
  clear V0_14 V1_14 V2_14
  have X0_15 := (World.cell?_of_block (a := ⟨w5.heap.size, 0, none⟩) (zn.block w5.heap.size (by omega) (by omega))).trans X0_14
  have X1_15 := (World.cell?_of_block (a := ⟨w5.heap.size, 1, none⟩) (zn.block w5.heap.size (by omega) (by omega))).trans X1_14
  have X2_15 := (World.cell?_of_block (a := ⟨w5.heap.size, 2, none⟩) (zn.block w5.heap.size (by omega) (by omega))).trans X2_14
  clear X0_14 X1_14 X2_14
  have G0_15 := (World.cell?_of_block (a := ⟨w8.heap.size, 0, none⟩) (zn.block w8.heap.size (by omega) (by omega))).trans G0_14
  have G1_15 := (World.cell?_of_block (a := ⟨w8.heap.size, 1, none⟩) (zn.block w8.heap.size (by omega) (by omega))).trans G1_14
  have G2_15 := (World.cell?_of_block (a := ⟨w8.heap.size, 2, none⟩) (zn.block w8.heap.size (by omega) (by omega))).trans G2_14
  clear G0_14 G1_14 G2_14
  clear zn
  have hkn : decide ((k1 : Int) < 0) = false := by simp
  go_wp2_with fail
  refine (Tab.eqX (N1 := RH) (N2 := RF) F_g_15.is F_w_15.is).mono ?_
  rintro e w16 ⟨rfl, bn⟩
  have c16 := c15.trans (bn.mono c15.size)
  have z16' := bn.size
  have F_w_16 := F_w_15.below bn
  clear F_w_15
  have F_g_16 := F_g_15.below bn
  clear F_g_15
  have A0_16 := (bn.cell (p := ⟨w.heap.size, 0, none⟩) (by show w.heap.size < _; omega)).trans A0_15
  have A1_16 := (bn.cell (p := ⟨w.heap.size, 1, none⟩) (by show w.heap.size < _; omega)).trans A1_15
  have A2_16 := (bn.cell (p := ⟨w.heap.size, 2, none⟩) (by show w.heap.size < _; omega)).trans A2_15
  clear A0_15 A1_15 A2_15
  have V0_16 := (bn.cell (p := ⟨w3.heap.size, 0, none⟩) (by show w3.heap.size < _; omega)).trans V0_15
  have V1_16 := (bn.cell (p := ⟨w3.heap.size, 1, none⟩) (by show w3.heap.size < _; omega)).trans V1_15
  have V2_16 := (bn.cell (p := ⟨w3.heap.size, 2, none⟩) (by show w3.heap.size < _; omega)).trans V2_15
  clear V0_15 V1_15 V2_15
  have X0_16 := (bn.cell (p := ⟨w5.heap.size, 0, none⟩) (by show w5.heap.size < _; omega)).trans X0_15
  have X1_16 := (bn.cell (p := ⟨w5.heap.size, 1, none⟩) (by show w5.heap.size < _; omega)).trans X1_15
  have X2_16 := (bn.cell (p := ⟨w5.heap.size, 2, none⟩) (by show w5.heap.size < _; omega)).trans X2_15
  clear X0_15 X1_15 X2_15
  have G0_16 := (bn.cell (p := ⟨w8.heap.size, 0, none⟩) (by show w8.heap.size < _; omega)).trans G0_15
  have G1_16 := (bn.cell (p := ⟨w8.heap.size, 1, none⟩) (by show w8.heap.size < _; omega)).trans G1_15
  have G2_16 := (bn.cell (p := ⟨w8.heap.size, 2, none⟩) (by show w8.heap.size < _; omega)).trans G2_15
  clear G0_15 G1_15 G2_15
  clear bn
  clear hkn
  go_wp2_with fail
  refine (Tab.markX 1 (by omega) (by omega) (unhide HRL) F_g_16).mono ?_
  rintro e w17 ⟨km, rfl, ekm, on, zn⟩
  clear F_g_16
  have c17 := c16.trans (zn.below (by omega) (by omega))
  have z17' := zn.size
  have F_w_17 := F_w_16.zone zn (by omega)
  clear F_w_16
  have A0_17 := (World.cell?_of_block (a := ⟨w.heap.size, 0, none⟩) (zn.block w.heap.size (by omega) (by omega))).trans A0_16
  have A1_17 := (World.cell?_of_block (a := ⟨w.heap.size, 1, none⟩) (zn.block w.heap.size (by omega) (by omega))).trans A1_16
  have A2_17 := (World.cell?_of_block (a := ⟨w.heap.size, 2, none⟩) (zn.block w.heap.size (by omega) (by omega))).trans A2_16
  clear A0_16 A1_16 A2_16
  have V0_17 := (World.cell?_of_block (a := ⟨w3.heap.size, 0, none⟩) (zn.block w3.heap.size (by omega) (by omega))).trans V0_16
  have V1_17 := (World.cell?_of_block (a := ⟨w3.heap.size, 1, none⟩) (zn.block w3.heap.size (by omega) (by omega))).trans V1_16
  have V2_17 := (World.cell?_of_block (a := ⟨w3.heap.size, 2, none⟩) (zn.block w3.heap.size (by omega) (by omega))).trans V2_16
  clear V0_16 V1_16 V2_16
  have X0_17 := (World.cell?_of_block (a := ⟨w5.heap.size, 0, none⟩) (zn.block w5.heap.size (by omega) (by omega))).trans X0_16
  have X1_17 := (World.cell?_of_block (a := ⟨w5.heap.size, 1, none⟩) (zn.block w5.heap.size (by omega) (by omega))).trans X1_16
  have X2_17 := (World.cell?_of_block (a := ⟨w5.heap.size, 2, none⟩) (zn.block w5.heap.size (by omega) (by omega))).trans X2_16
  clear X0_16 X1_16 X2_16
  have G0_17 := (World.cell?_of_block (a := ⟨w8.heap.size, 0, none⟩) (zn.block w8.heap.size (by omega) (by omega))).trans G0_16
  have G1_17 := (World.cell?_of_block (a := ⟨w8.heap.size, 1, none⟩) (zn.block w8.heap.size (by omega) (by omega))).trans G1_16
  have G2_17 := (World.cell?_of_block (a := ⟨w8.heap.size, 2, none⟩) (zn.block w8.heap.size (by omega) (by omega))).trans G2_16
  clear G0_16 G1_16 G2_16
  have F_g_17 := on
  have HKM := hide ekm
  clear on zn ekm
  go_wp2_with fail
  refine (Tab.heldX 1 (by omega) (by omega) (unhide HRL) F_g_17.is).mono ?_
  rintro e w18 ⟨kq, rfl, ekq, bn⟩
  obtain rfl : kq = km := by rw [ekq, unhide HKM]
  have c18 := c17.trans (bn.mono c17.size)
  have z18' := bn.size
  have F_w_18 := F_w_17.below bn
  clear F_w_17
  have F_g_18 := F_g_17.below bn
  clear F_g_17
  have A0_18 := (bn.cell (p := ⟨w.heap.size, 0, none⟩) (by show w.heap.size < _; omega)).trans A0_17
  have A1_18 := (bn.cell (p := ⟨w.heap.size, 1, none⟩) (by show w.heap.size < _; omega)).trans A1_17
  have A2_18 := (bn.cell (p := ⟨w.heap.size, 2, none⟩) (by show w.heap.size < _; omega)).trans A2_17
  clear A0_17 A1_17 A2_17
  have V0_18 := (bn.cell (p := ⟨w3.heap.size, 0, none⟩) (by show w3.heap.size < _; omega)).trans V0_17
  have V1_18 := (bn.cell (p := ⟨w3.heap.size, 1, none⟩) (by show w3.heap.size < _; omega)).trans V1_17
  have V2_18 := (bn.cell (p := ⟨w3.heap.size, 2, none⟩) (by show w3.heap.size < _; omega)).trans V2_17
  clear V0_17 V1_17 V2_17
  have X0_18 := (bn.cell (p := ⟨w5.heap.size, 0, none⟩) (by show w5.heap.size < _; omega)).trans X0_17
  have X1_18 := (bn.cell (p := ⟨w5.heap.size, 1, none⟩) (by show w5.heap.size < _; omega)).trans X1_17
  have X2_18 := (bn.cell (p := ⟨w5.heap.size, 2, none⟩) (by show w5.heap.size < _; omega)).trans X2_17
  clear X0_17 X1_17 X2_17
  have G0_18 := (bn.cell (p := ⟨w8.heap.size, 0, none⟩) (by show w8.heap.size < _; omega)).trans G0_17
  have G1_18 := (bn.cell (p := ⟨w8.heap.size, 1, none⟩) (by show w8.heap.size < _; omega)).trans G1_17
  have G2_18 := (bn.cell (p := ⟨w8.heap.size, 2, none⟩) (by show w8.heap.size < _; omega)).trans G2_17
  clear G0_17 G1_17 G2_17
  clear bn ekq
  have hkn : decide ((kq : Int) < 0) = false := by simp
  have HKM' := hide (unhide HKM)
  go_wp2_with fail
  refine (unhide HTo0 _ c18).mono ?_
  rintro e w19 ⟨v_b0, rfl, on, bn⟩
  have c19 := c18.trans (bn.mono c18.size)
  have z19' := bn.size
  have F_w_19 := F_w_18.below bn
  clear F_w_18
  have F_g_19 := F_g_18.below bn
  clear F_g_18
  have A0_19 := (bn.cell (p := ⟨w.heap.size, 0, none⟩) (by show w.heap.size < _; omega)).trans A0_18
  have A1_19 := (bn.cell (p := ⟨w.heap.size, 1, none⟩) (by show w.heap.size < _; omega)).trans A1_18
  have A2_19 := (bn.cell (p := ⟨w.heap.size, 2, none⟩) (by show w.heap.size < _; omega)).trans A2_18
  clear A0_18 A1_18 A2_18
  have V0_19 := (bn.cell (p := ⟨w3.heap.size, 0, none⟩) (by show w3.heap.size < _; omega)).trans V0_18
  have V1_19 := (bn.cell (p := ⟨w3.heap.size, 1, none⟩) (by show w3.heap.size < _; omega)).trans V1_18
  have V2_19 := (bn.cell (p := ⟨w3.heap.size, 2, none⟩) (by show w3.heap.size < _; omega)).trans V2_18
  clear V0_18 V1_18 V2_18
  have X0_19 := (bn.cell (p := ⟨w5.heap.size, 0, none⟩) (by show w5.heap.size < _; omega)).trans X0_18
  have X1_19 := (bn.cell (p := ⟨w5.heap.size, 1, none⟩) (by show w5.heap.size < _; omega)).trans X1_18
  have X2_19 := (bn.cell (p := ⟨w5.heap.size, 2, none⟩) (by show w5.heap.size < _; omega)).trans X2_18
  clear X0_18 X1_18 X2_18
  have G0_19 := (bn.cell (p := ⟨w8.heap.size, 0, none⟩) (by show w8.heap.size < _; omega)).trans G0_18
  have G1_19 := (bn.cell (p := ⟨w8.heap.size, 1, none⟩) (by show w8.heap.size < _; omega)).trans G1_18
  have G2_19 := (bn.cell (p := ⟨w8.heap.size, 2, none⟩) (by show w8.heap.size < _; omega)).trans G2_18
  clear G0_18 G1_18 G2_18
  obtain ⟨a_b0, l_b0, q_b0, rfl⟩ := Row.Own.form on
  have F_b0_19 := on
  clear on bn
  go_wp2_with fail
  refine (unhide HTo1 _ c19).mono ?_
  rintro e w20 ⟨v_b1, rfl, on, bn⟩
  have c20 := c19.trans (bn.mono c19.size)
  have z20' := bn.size
  have F_w_20 := F_w_19.below bn
  clear F_w_19
  have F_g_20 := F_g_19.below bn
  clear F_g_19
  have F_b0_20 := F_b0_19.below bn
  clear F_b0_19
  have A0_20 := (bn.cell (p := ⟨w.heap.size, 0, none⟩) (by show w.heap.size < _; omega)).trans A0_19
  have A1_20 := (bn.cell (p := ⟨w.heap.size, 1, none⟩) (by show w.heap.size < _; omega)).trans A1_19
  have A2_20 := (bn.cell (p := ⟨w.heap.size, 2, none⟩) (by show w.heap.size < _; omega)).trans A2_19
  clear A0_19 A1_19 A2_19
  have V0_20 := (bn.cell (p := ⟨w3.heap.size, 0, none⟩) (by show w3.heap.size < _; omega)).trans V0_19
  have V1_20 := (bn.cell (p := ⟨w3.heap.size, 1, none⟩) (by show w3.heap.size < _; omega)).trans V1_19
  have V2_20 := (bn.cell (p := ⟨w3.heap.size, 2, none⟩) (by show w3.heap.size < _; omega)).trans V2_19
  clear V0_19 V1_19 V2_19
  have X0_20 := (bn.cell (p := ⟨w5.heap.size, 0, none⟩) (by show w5.heap.size < _; omega)).trans X0_19
  have X1_20 := (bn.cell (p := ⟨w5.heap.size, 1, none⟩) (by show w5.heap.size < _; omega)).trans X1_19
  have X2_20 := (bn.cell (p := ⟨w5.heap.size, 2, none⟩) (by show w5.heap.size < _; omega)).trans X2_19
  clear X0_19 X1_19 X2_19
  have G0_20 := (bn.cell (p := ⟨w8.heap.size, 0, none⟩) (by show w8.heap.size < _; omega)).trans G0_19
  have G1_20 := (bn.cell (p := ⟨w8.heap.size, 1, none⟩) (by show w8.heap.size < _; omega)).trans G1_19
  have G2_20 := (bn.cell (p := ⟨w8.heap.size, 2, none⟩) (by show w8.heap.size < _; omega)).trans G2_19
  clear G0_19 G1_19 G2_19
  obtain ⟨a_b1, l_b1, q_b1, rfl⟩ := Ent.Own.form on
  have F_b1_20 := on
  clear on bn
  go_wp2_with fail
  have Q := hide (Tab.impl_tadd H F F_b0_20.is (unhide HG0) (unhide HM0) F_b1_20.is (Tab.okay_of (unhide HG1)))
  rw [← unhide HRZ] at Q
  simp only at Q
  refine (unhide Q).mono ?_
  rintro e w21 ⟨v_h, rfl, on0, bn⟩
  have on := on0
  clear on0 Q
  have c21 := c20.trans (bn.mono c20.size)
  have z21' := bn.size
  have F_w_21 := F_w_20.below bn
  clear F_w_20
  have F_g_21 := F_g_20.below bn
  clear F_g_20
  have F_b0_21 := F_b0_20.below bn
  clear F_b0_20
  have F_b1_21 := F_b1_20.below bn
  clear F_b1_20
  have A0_21 := (bn.cell (p := ⟨w.heap.size, 0, none⟩) (by show w.heap.size < _; omega)).trans A0_20
  have A1_21 := (bn.cell (p := ⟨w.heap.size, 1, none⟩) (by show w.heap.size < _; omega)).trans A1_20
  have A2_21 := (bn.cell (p := ⟨w.heap.size, 2, none⟩) (by show w.heap.size < _; omega)).trans A2_20
  clear A0_20 A1_20 A2_20
  have V0_21 := (bn.cell (p := ⟨w3.heap.size, 0, none⟩) (by show w3.heap.size < _; omega)).trans V0_20
  have V1_21 := (bn.cell (p := ⟨w3.heap.size, 1, none⟩) (by show w3.heap.size < _; omega)).trans V1_20
  have V2_21 := (bn.cell (p := ⟨w3.heap.size, 2, none⟩) (by show w3.heap.size < _; omega)).trans V2_20
  clear V0_20 V1_20 V2_20
  have X0_21 := (bn.cell (p := ⟨w5.heap.size, 0, none⟩) (by show w5.heap.size < _; omega)).trans X0_20
  have X1_21 := (bn.cell (p := ⟨w5.heap.size, 1, none⟩) (by show w5.heap.size < _; omega)).trans X1_20
  have X2_21 := (bn.cell (p := ⟨w5.heap.size, 2, none⟩) (by show w5.heap.size < _; omega)).trans X2_20
  clear X0_20 X1_20 X2_20
  have G0_21 := (bn.cell (p := ⟨w8.heap.size, 0, none⟩) (by show w8.heap.size < _; omega)).trans G0_20
  have G1_21 := (bn.cell (p := ⟨w8.heap.size, 1, none⟩) (by show w8.heap.size < _; omega)).trans G1_20
  have G2_21 := (bn.cell (p := ⟨w8.heap.size, 2, none⟩) (by show w8.heap.size < _; omega)).trans G2_20
  clear G0_20 G1_20 G2_20
  obtain ⟨a_h, l_h, q_h, rfl⟩ := Row.Own.form on
  have F_h_21 := on
  clear on bn
  obtain ⟨w22, hw22⟩ : ∃ w', w' = w21.alloc (.cells #[.slice a_h l_h q_h, .int .i64 RH, .int .i64 RF] 30) := ⟨_, rfl⟩
  have bn : Below w21.heap.size w21 w22 := by rw [hw22]; exact (Below.refl _ _).alloc (Nat.le_refl _) _
  have zz22 : w21.heap.size < w22.heap.size := by rw [hw22]; simp
  have Y0_22 : w22.cell? ⟨w21.heap.size, 0, none⟩ = some (.slice a_h l_h q_h) := by rw [hw22]; simp [go_sem]
  have Y1_22 : w22.cell? ⟨w21.heap.size, 1, none⟩ = some (.int .i64 RH) := by rw [hw22]; simp [go_sem]
  have Y2_22 : w22.cell? ⟨w21.heap.size, 2, none⟩ = some (.int .i64 RF) := by rw [hw22]; simp [go_sem]
  have c22 := c21.trans (bn.mono c21.size)
  have z22' := bn.size
  have F_w_22 := F_w_21.below bn
  clear F_w_21
  have F_g_22 := F_g_21.below bn
  clear F_g_21
  have F_b0_22 := F_b0_21.below bn
  clear F_b0_21
  have F_b1_22 := F_b1_21.below bn
  clear F_b1_21
  have F_h_22 := F_h_21.below bn
  clear F_h_21
  have A0_22 := (bn.cell (p := ⟨w.heap.size, 0, none⟩) (by show w.heap.size < _; omega)).trans A0_21
  have A1_22 := (bn.cell (p := ⟨w.heap.size, 1, none⟩) (by show w.heap.size < _; omega)).trans A1_21
  have A2_22 := (bn.cell (p := ⟨w.heap.size, 2, none⟩) (by show w.heap.size < _; omega)).trans A2_21
  clear A0_21 A1_21 A2_21
  have V0_22 := (bn.cell (p := ⟨w3.heap.size, 0, none⟩) (by show w3.heap.size < _; omega)).trans V0_21
  have V1_22 := (bn.cell (p := ⟨w3.heap.size, 1, none⟩) (by show w3.heap.size < _; omega)).trans V1_21
  have V2_22 := (bn.cell (p := ⟨w3.heap.size, 2, none⟩) (by show w3.heap.size < _; omega)).trans V2_21
  clear V0_21 V1_21 V2_21
  have X0_22 := (bn.cell (p := ⟨w5.heap.size, 0, none⟩) (by show w5.heap.size < _; omega)).trans X0_21
  have X1_22 := (bn.cell (p := ⟨w5.heap.size, 1, none⟩) (by show w5.heap.size < _; omega)).trans X1_21
  have X2_22 := (bn.cell (p := ⟨w5.heap.size, 2, none⟩) (by show w5.heap.size < _; omega)).trans X2_21
  clear X0_21 X1_21 X2_21
  have G0_22 := (bn.cell (p := ⟨w8.heap.size, 0, none⟩) (by show w8.heap.size < _; omega)).trans G0_21
  have G1_22 := (bn.cell (p := ⟨w8.heap.size, 1, none⟩) (by show w8.heap.size < _; omega)).trans G1_21
  have G2_22 := (bn.cell (p := ⟨w8.heap.size, 2, none⟩) (by show w8.heap.size < _; omega)).trans G2_21
  clear G0_21 G1_21 G2_21
  clear bn
  have hs22 := hw22.symm
  clear hw22
  clear F_b0_22
  clear F_b1_22
  go_wp2_with fail
  try rw [hs22]
  clear hs22
  refine (Tab.eqX (N1 := RH) (N2 := RF) F_h_22.is F_w_22.is).mono ?_
  rintro e w23 ⟨rfl, bn⟩
  have c23 := c22.trans (bn.mono c22.size)
  have z23' := bn.size
  have F_w_23 := F_w_22.below bn
  clear F_w_22
  have F_g_23 := F_g_22.below bn
  clear F_g_22
  have F_h_23 := F_h_22.below bn
  clear F_h_22
  have A0_23 := (bn.cell (p := ⟨w.heap.size, 0, none⟩) (by show w.heap.size < _; omega)).trans A0_22
  have A1_23 := (bn.cell (p := ⟨w.heap.size, 1, none⟩) (by show w.heap.size < _; omega)).trans A1_22
  have A2_23 := (bn.cell (p := ⟨w.heap.size, 2, none⟩) (by show w.heap.size < _; omega)).trans A2_22
  clear A0_22 A1_22 A2_22
  have V0_23 := (bn.cell (p := ⟨w3.heap.size, 0, none⟩) (by show w3.heap.size < _; omega)).trans V0_22
  have V1_23 := (bn.cell (p := ⟨w3.heap.size, 1, none⟩) (by show w3.heap.size < _; omega)).trans V1_22
  have V2_23 := (bn.cell (p := ⟨w3.heap.size, 2, none⟩) (by show w3.heap.size < _; omega)).trans V2_22
  clear V0_22 V1_22 V2_22
  have X0_23 := (bn.cell (p := ⟨w5.heap.size, 0, none⟩) (by show w5.heap.size < _; omega)).trans X0_22
  have X1_23 := (bn.cell (p := ⟨w5.heap.size, 1, none⟩) (by show w5.heap.size < _; omega)).trans X1_22
  have X2_23 := (bn.cell (p := ⟨w5.heap.size, 2, none⟩) (by show w5.heap.size < _; omega)).trans X2_22
  clear X0_22 X1_22 X2_22
  have G0_23 := (bn.cell (p := ⟨w8.heap.size, 0, none⟩) (by show w8.heap.size < _; omega)).trans G0_22
  have G1_23 := (bn.cell (p := ⟨w8.heap.size, 1, none⟩) (by show w8.heap.size < _; omega)).trans G1_22
  have G2_23 := (bn.cell (p := ⟨w8.heap.size, 2, none⟩) (by show w8.heap.size < _; omega)).trans G2_22
  clear G0_22 G1_22 G2_22
  have Y0_23 := (bn.cell (p := ⟨w21.heap.size, 0, none⟩) (by show w21.heap.size < _; omega)).trans Y0_22
  have Y1_23 := (bn.cell (p := ⟨w21.heap.size, 1, none⟩) (by show w21.heap.size < _; omega)).trans Y1_22
  have Y2_23 := (bn.cell (p := ⟨w21.heap.size, 2, none⟩) (by show w21.heap.size < _; omega)).trans Y2_22
  clear Y0_22 Y1_22 Y2_22
  clear bn
  clear F_h_23
  go_wp2_with fail
  refine (Tab.heldX 1 (by omega) (by omega) (unhide HRL) F_g_23.is).mono ?_
  rintro e w24 ⟨kr, rfl, ekr, bn⟩
  obtain rfl : kr = kq := by rw [ekr, unhide HKM']
  have c24 := c23.trans (bn.mono c23.size)
  have z24' := bn.size
  have F_w_24 := F_w_23.below bn
  clear F_w_23
  have F_g_24 := F_g_23.below bn
  clear F_g_23
  have A0_24 := (bn.cell (p := ⟨w.heap.size, 0, none⟩) (by show w.heap.size < _; omega)).trans A0_23
  have A1_24 := (bn.cell (p := ⟨w.heap.size, 1, none⟩) (by show w.heap.size < _; omega)).trans A1_23
  have A2_24 := (bn.cell (p := ⟨w.heap.size, 2, none⟩) (by show w.heap.size < _; omega)).trans A2_23
  clear A0_23 A1_23 A2_23
  have V0_24 := (bn.cell (p := ⟨w3.heap.size, 0, none⟩) (by show w3.heap.size < _; omega)).trans V0_23
  have V1_24 := (bn.cell (p := ⟨w3.heap.size, 1, none⟩) (by show w3.heap.size < _; omega)).trans V1_23
  have V2_24 := (bn.cell (p := ⟨w3.heap.size, 2, none⟩) (by show w3.heap.size < _; omega)).trans V2_23
  clear V0_23 V1_23 V2_23
  have X0_24 := (bn.cell (p := ⟨w5.heap.size, 0, none⟩) (by show w5.heap.size < _; omega)).trans X0_23
  have X1_24 := (bn.cell (p := ⟨w5.heap.size, 1, none⟩) (by show w5.heap.size < _; omega)).trans X1_23
  have X2_24 := (bn.cell (p := ⟨w5.heap.size, 2, none⟩) (by show w5.heap.size < _; omega)).trans X2_23
  clear X0_23 X1_23 X2_23
  have G0_24 := (bn.cell (p := ⟨w8.heap.size, 0, none⟩) (by show w8.heap.size < _; omega)).trans G0_23
  have G1_24 := (bn.cell (p := ⟨w8.heap.size, 1, none⟩) (by show w8.heap.size < _; omega)).trans G1_23
  have G2_24 := (bn.cell (p := ⟨w8.heap.size, 2, none⟩) (by show w8.heap.size < _; omega)).trans G2_23
  clear G0_23 G1_23 G2_23
  have Y0_24 := (bn.cell (p := ⟨w21.heap.size, 0, none⟩) (by show w21.heap.size < _; omega)).trans Y0_23
  have Y1_24 := (bn.cell (p := ⟨w21.heap.size, 1, none⟩) (by show w21.heap.size < _; omega)).trans Y1_23
  have Y2_24 := (bn.cell (p := ⟨w21.heap.size, 2, none⟩) (by show w21.heap.size < _; omega)).trans Y2_23
  clear Y0_23 Y1_23 Y2_23
  clear bn ekr
  have hkn' : decide ((kr : Int) < 0) = false := by simp
  go_wp2_with fail
  go_ret
  exact ⟨rfl, c24⟩
end Go.Proofs.YtlboekimnhgfdaaGreat
