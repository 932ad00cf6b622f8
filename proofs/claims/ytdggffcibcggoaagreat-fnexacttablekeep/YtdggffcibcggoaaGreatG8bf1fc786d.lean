/- My own texts of one claim, laid together by program: SamMark, SamUni, RowOwn. -/
import Derived.Test.YtdggffcibcggoaaGreatG6159603340
import Derived.Test.YtdggffcibcggoaaGreatG8f18621342
import Derived.Test.YtdggffcibcggoaaGreatG69686afb3b
/- What the laws' own helpers do to mark a slice of impl.Sample, and to see that the marks are held. -/
namespace Go.Proofs.YtdggffcibcggoaaGreat.Sam
open Go.RowKit Rw
set_option linter.unusedVariables false
attribute [local go_sem ↓] Go.wp_at_zero Go.wp_at_succ
def markOne (q : Nat) : E := (((q : Nat) : Int), ((q + 1 : Nat) : Int))
def marks (k0 n : Nat) : List E := (List.range n).map fun i => markOne (k0 + 2 * i)
theorem marks_length (k0 n : Nat) : (marks k0 n).length = n := by simp [marks]
theorem marks_succ (k0 n : Nat) : marks k0 (n + 1) = marks k0 n ++ [markOne (k0 + 2 * n)] := by simp [marks, List.range_succ]
theorem marks_at (k0 n i : Nat) (h : i < n) : at' (marks k0 n) i = markOne (k0 + 2 * i) := by simp [marks, at', List.getD, h]
theorem flat_marks (k0 j : Nat) : flat (marks k0 (j + 1)) = flat (marks k0 j) ++ [.int .i64 (((k0 + 2 * j) : Nat) : Int), .int .i64 (((k0 + 2 * j) + 1 : Nat) : Int)] := by rw [marks_succ]; unfold flat; rw [flatOf_append, flatOf_one]; rfl
set_option maxRecDepth 100000 in
set_option maxHeartbeats 2000000 in
theorem mark_some (base g n cap : Nat) (zs : List E) (k0 : Nat) (w : World) (hk1 : 1 ≤ k0) (hk2 : k0 ≤ 500000000000) (hn : n ≤ 8388608) (hz : zs.length = n) (hown : w.ownsRow base 133 2 (.slice (some ⟨g, 0, none⟩) n cap) n (flat zs)) :
    Calls Tryz.prog 83 #[.slice (some ⟨g, 0, none⟩) n cap, .int .i64 k0] w fun e w' => e = .returned (.int .i64 ((k0 + 2 * n : Nat) : Int)) ∧
      w'.ownsRow base 133 2 (.slice (some ⟨g, 0, none⟩) n cap) n (flat (marks k0 n)) ∧ Zone g (g + 1) w w' := by
  have hg0 := own_lt hown
  go_enter Tryz.func83, Tryz.ntmps83
  go_wp2
  go_loopw [1, 5] (fun kv i wr => ∃ (j q : Nat) (r : List Value), j ≤ n ∧ i = .int .i64 j ∧ kv = .int .i64 q ∧ Hid (q = k0 + 2 * j) ∧ r.length = (n - j) * 2 ∧ wr.ownsRow base 133 2 (.slice (some ⟨g, 0, none⟩) n cap) n (flat (marks k0 j) ++ r) ∧ Zone g (g + 1) w wr) (fun _ i _ => n - (intOf i).toNat)
  case atStart => exact ⟨0, k0, flat zs, Nat.zero_le _, rfl, rfl, hide (by omega), by rw [flat_length]; omega, by simpa [marks, flat, flatOf] using hown, Zone.refl _ _ _⟩
  case round =>
    obtain ⟨j, q, r, hj, rfl, rfl, HQ, hrl, ho, hzn⟩ := hrel
    have hsz := own_lt ho
    have hq1 : 1 ≤ q := by have := unhide HQ; omega
    have hq2 : q ≤ 600000000000 := by have := unhide HQ; omega
    by_cases hlt : j < n
    · obtain ⟨u0, u1, L, rfl, hB⟩ := split_e r (n - j - 1) (by rw [hrl]; omega)
      have fln : (flat (marks k0 j)).length = j * 2 := by rw [flat_length, marks_length]
      have h0 : (0 : Int) ≤ (j : Int) := Int.natCast_nonneg _
      have h1 : (j : Int) < (n : Int) := by omega
      have HF := hide fln
      have HE := hide (flat_marks k0 j)
      rw [← unhide HQ] at HE
      clear fln
      have hd0 : World.cell? wr ⟨g, j * 2, none⟩ = some u0 := by rw [ho.cellAt (j * 2) (by omega)]; simp [unhide HF]
      have hf0 := ho.frozenAt (j * 2)
      have p0 := (ho.stored (j * 2) (.int .i64 ((q : Int)))).1
      have x0 := hzn.store (Nat.le_refl g) (Nat.lt_succ_self g) (j * 2) (.int .i64 ((q : Int)))
      clear ho hzn
      have hd1 : World.cell? (World.setCell wr ⟨g, j * 2, none⟩ (.int .i64 ((q : Int)))) ⟨g, j * 2 + 1, none⟩ = some u1 := by rw [p0.cellAt (j * 2 + 1) (by omega)]; simp [unhide HF]
      have hf1 := p0.frozenAt (j * 2 + 1)
      have p1 := (p0.stored (j * 2 + 1) (.int .i64 ((q : Int) + 1))).1
      have x1 := x0.store (Nat.le_refl g) (Nat.lt_succ_self g) (j * 2 + 1) (.int .i64 ((q : Int) + 1))
      clear p0 x0
      rw [set_e _ _ _ _ _ _ _ (unhide HF)] at p1
      have P := hide p1
      have X := hide x1
      clear p1 x1
      have P' := hide (show World.ownsRow (World.setCell (World.setCell wr ⟨g, j * 2, none⟩ (.int .i64 ((q : Int)))) ⟨g, j * 2 + 1, none⟩ (.int .i64 ((q : Int) + 1))) base 133 2 (.slice (some ⟨g, 0, none⟩) n cap) n (flat (marks k0 (j + 1)) ++ L) by rw [unhide HE]; exact unhide P)
      clear P
      go_wp2_with fail
      go_roundw
      case rel => exact ⟨j + 1, q + 2, L, by omega, by go_num, by go_num, hide (by have := unhide HQ; omega), by omega, unhide P', unhide X⟩
      case measure => simp [intOf]; omega
    · obtain rfl : j = n := by omega
      obtain rfl : r = [] := List.eq_nil_of_length_eq_zero (by rw [hrl]; omega)
      rw [List.append_nil] at ho
      go_wp2
      go_ret
      exact ⟨ret_int (by have := unhide HQ; omega), ho, hzn⟩
theorem mark_nil (k0 : Int) (w : World) : Calls Tryz.prog 83 #[.slice none 0 0, .int .i64 k0] w fun e w' => e = .returned (.int .i64 k0) ∧ w' = w := by
  go_enter Tryz.func83, Tryz.ntmps83
  go_wp2
  refine wp_loop_rounds 1 ?_
  rw [rounds_succ]
  go_wp2
  go_ret
  exact ⟨rfl, rfl⟩
/-- new marks are laid in a row of the call's own; what lies elsewhere is as it was -/
theorem mark_any {base : Nat} {v : Value} {zs : List E} {w : World} (k0 : Nat) (hk1 : 1 ≤ k0) (hk2 : k0 ≤ 500000000000) (hn : zs.length ≤ 8388608) (hown : w.ownsRow base 133 2 v zs.length (flat zs)) {lo hi : Nat} (hin : ∀ k, v.ownBlock = some k → lo ≤ k ∧ k < hi) :
    Calls Tryz.prog 83 #[v, .int .i64 k0] w fun e w' => e = .returned (.int .i64 ((k0 + 2 * zs.length : Nat) : Int)) ∧
      w'.ownsRow base 133 2 v zs.length (flat (marks k0 zs.length)) ∧ Zone lo hi w w' := by
  have hf := hown
  rcases hown.2 with ⟨h1, h2⟩ | ⟨g, cap, cur, h1, h2, hg, _⟩
  · subst h1
    obtain rfl : zs = [] := List.eq_nil_of_length_eq_zero h2
    refine (mark_nil k0 w).mono ?_
    rintro e w' ⟨rfl, rfl⟩
    exact ⟨ret_int (by simp), ⟨rfl, .inl ⟨rfl, rfl⟩⟩, Zone.refl _ _ _⟩
  · subst h1
    refine (mark_some base g zs.length cap zs k0 w hk1 hk2 hn rfl hf).mono ?_
    rintro e w' ⟨rfl, ho, hon⟩
    have := hin g rfl
    exact ⟨rfl, ho, hon.mono (by omega) (by omega)⟩
set_option maxRecDepth 100000 in
set_option maxHeartbeats 2000000 in
theorem held_any {v : Value} {n : Nat} {w : World} (k0 : Nat) (hk1 : 1 ≤ k0) (hk2 : k0 ≤ 500000000000) (hn : n ≤ 8388608) (h : Is w v (marks k0 n)) :
    Calls Tryz.prog 85 #[v, .int .i64 k0] w fun e w' => e = .returned (.int .i64 ((k0 + 2 * n : Nat) : Int)) ∧ Below w.heap.size w w' := by
  obtain ⟨-, a, cap, rfl, hc, hm, -, hr⟩ := h
  rw [marks_length] at hc hr ⊢
  go_enter Tryz.func85, Tryz.ntmps85
  go_wp2
  go_loopw [1, 5] (fun kv i wr => ∃ (j q : Nat), j ≤ n ∧ i = .int .i64 j ∧ kv = .int .i64 q ∧ Hid (q = k0 + 2 * j) ∧ Below w.heap.size w wr) (fun _ i _ => n - (intOf i).toNat)
  case atStart => exact ⟨0, k0, Nat.zero_le _, rfl, rfl, hide (by omega), Below.refl _ _⟩
  case round =>
    obtain ⟨j, q, hj, rfl, rfl, HQ, hbel⟩ := hrel
    have hsz := hbel.size
    have hq1 : 1 ≤ q := by have := unhide HQ; omega
    have hq2 : q ≤ 600000000000 := by have := unhide HQ; omega
    by_cases hlt : j < n
    · obtain ⟨b, off, rfl, hl, hcells⟩ := hr (by omega)
      have fa := flat_at (marks k0 n) j (by rw [marks_length]; exact hlt)
      rw [marks_at k0 n j hlt, ← unhide HQ] at fa
      unfold markOne at fa
      simp only at fa
      have h0 : (0 : Int) ≤ (j : Int) := Int.natCast_nonneg _
      have h1 : (j : Int) < (n : Int) := by omega
      have hc0 : wr.cell? ⟨b, off + j * 2, none⟩ = some (.int .i64 ((q : Int))) := (hbel.cell (p := ⟨b, _, none⟩) hl).trans (hcells (j * 2) _ fa.1)
      have hc1 : wr.cell? ⟨b, off + j * 2 + 1, none⟩ = some (.int .i64 ((q : Int) + 1)) := (hbel.cell (p := ⟨b, _, none⟩) hl).trans (hcells (j * 2 + 1) _ fa.2)
      clear fa
      go_wp2
      go_roundw
      case rel => exact ⟨j + 1, q + 2, by omega, by go_num, by go_num, hide (by have := unhide HQ; omega), hbel⟩
      case measure => simp [intOf]; omega
    · obtain rfl : j = n := by omega
      go_wp2
      go_ret
      exact ⟨ret_int (by have := unhide HQ; omega), hbel⟩
theorem own_marks {base : Nat} {v : Value} {n k0 : Nat} {w : World} (h : w.ownsRow base 133 2 v n (flat (marks k0 n))) : Is w v (marks k0 n) := is_of_own (by rw [marks_length]; exact h)
end Go.Proofs.YtdggffcibcggoaaGreat.Sam

/- One face for what the laws' helpers do with slices of impl.Sample. -/
namespace Go.Proofs.YtdggffcibcggoaaGreat.Sam
open Go.RowKit Rw
set_option linter.unusedVariables false
/-- a row of its own, in a block from lo on, ahead of hi -/
def Own (lo hi : Nat) (w : World) (v : Value) (zs : List E) : Prop := w.ownsRow lo 133 2 v zs.length (flat zs) ∧ (∀ k, v.ownBlock = some k → k < hi) ∧ hi ≤ w.heap.size
theorem Own.is {lo hi : Nat} {w : World} {v : Value} {zs : List E} (h : Own lo hi w v zs) : Is w v zs := is_of_own h.1
theorem Own.below {lo hi : Nat} {w w' : World} {v : Value} {zs : List E} (h : Own lo hi w v zs) (hb : Below w.heap.size w w') : Own lo hi w' v zs := ⟨own_below h.1 hb, h.2.1, Nat.le_trans h.2.2 hb.size⟩
theorem Own.zone {lo hi a b : Nat} {w w' : World} {v : Value} {zs : List E} (h : Own lo hi w v zs) (hz : Zone a b w w') (ho : hi ≤ a ∨ b ≤ lo) : Own lo hi w' v zs :=
  ⟨hz.own h.1 (fun k hk => by have := h.2.1 k hk; have := own_ge h.1 k hk; omega), h.2.1, Nat.le_trans h.2.2 hz.size⟩
theorem Own.form {lo hi : Nat} {w : World} {v : Value} {zs : List E} (h : Own lo hi w v zs) : ∃ a l q, v = .slice a l q := by
  obtain ⟨-, a, q, e, -⟩ := lies_of_own h.1
  exact ⟨a, _, q, e⟩
theorem Own.of {lo : Nat} {w : World} {v : Value} {zs : List E} (h : w.ownsRow lo 133 2 v zs.length (flat zs)) : Own lo w.heap.size w v zs := ⟨h, own_block_lt h, Nat.le_refl _⟩
theorem eqX {v u : Value} {zs : List E} {w : World} (h : Is w v zs) (h' : Is w u zs) : Calls Tryz.prog 117 #[v, u] w fun e w' => e = .returned (.bool true) ∧ Below w.heap.size w w' := eq_any h h'
theorem toX {w : World} {v : Value} {zs : List E} (h : Is w v zs) (ht : tot zs ≤ 1048576) : Calls Tryz.prog 109 #[v] w fun e w' => ∃ v', e = .returned v' ∧ Own w.heap.size w'.heap.size w' v' zs ∧ Below w.heap.size w w' := by
  refine (to_any h (by have := (show zs.length ≤ tot zs from Nat.le_refl _); omega)).mono ?_
  rintro e w' ⟨rfl, o, b⟩
  exact ⟨_, rfl, Own.of o, b⟩
theorem markA {lo hi : Nat} {v : Value} {zs : List E} {w : World} (k0 : Nat) (hk1 : 1 ≤ k0) (hk2 : k0 ≤ 100000000) (ht : tot zs ≤ 1048576) (h : Own lo hi w v zs) :
    Calls Tryz.prog 83 #[v, .int .i64 k0] w fun e w' => ∃ k : Nat, e = .returned (.int .i64 k) ∧ 1 ≤ k ∧ k ≤ k0 + 4194304 ∧ Zone lo hi w w' := by
  have hl := (show zs.length ≤ tot zs from Nat.le_refl _)
  refine (mark_any k0 hk1 (by omega) (by omega) h.1 (lo := lo) (hi := hi) (fun k hk => ⟨own_ge h.1 k hk, h.2.1 k hk⟩)).mono ?_
  rintro e w' ⟨rfl, -, z⟩
  exact ⟨_, rfl, by omega, by omega, z⟩
def cnt (zs : List E) : Nat := 2 * zs.length
def mk (k0 : Nat) (zs : List E) : List E := marks k0 zs.length
theorem mk_length (k0 : Nat) (zs : List E) : (mk k0 zs).length = zs.length := marks_length _ _
theorem markX {lo hi : Nat} {v : Value} {zs : List E} {w : World} (k0 : Nat) (hk1 : 1 ≤ k0) (hk2 : k0 ≤ 100000000) (hc : zs.length ≤ 2097152) (h : Own lo hi w v zs) :
    Calls Tryz.prog 83 #[v, .int .i64 k0] w fun e w' => ∃ k : Nat, e = .returned (.int .i64 k) ∧ k = k0 + cnt zs ∧ Own lo hi w' v (mk k0 zs) ∧ Zone lo hi w w' := by
  refine (mark_any k0 hk1 (by omega) (by omega) h.1 (lo := lo) (hi := hi) (fun k hk => ⟨own_ge h.1 k hk, h.2.1 k hk⟩)).mono ?_
  rintro e w' ⟨rfl, o, z⟩
  exact ⟨_, rfl, rfl, ⟨by rw [mk_length]; exact o, h.2.1, Nat.le_trans h.2.2 z.size⟩, z⟩
theorem heldX {v : Value} {zs : List E} {w : World} (k0 : Nat) (hk1 : 1 ≤ k0) (hk2 : k0 ≤ 100000000) (hc : zs.length ≤ 2097152) (h : Is w v (mk k0 zs)) :
    Calls Tryz.prog 85 #[v, .int .i64 k0] w fun e w' => ∃ k : Nat, e = .returned (.int .i64 k) ∧ k = k0 + cnt zs ∧ Below w.heap.size w w' := by
  refine (held_any k0 hk1 (by omega) (by omega) h).mono ?_
  rintro e w' ⟨rfl, b⟩
  exact ⟨_, rfl, rfl, b⟩
end Go.Proofs.YtdggffcibcggoaaGreat.Sam

/- Rows that the call made itself, no two of their slices in one block: copies, marks. -/
namespace Go.Proofs.YtdggffcibcggoaaGreat.Row
open Go.RowKit Rw
set_option linter.unusedVariables false
attribute [local go_sem ↓] Go.wp_at_zero Go.wp_at_succ
def ApartF (n : Nat) (f : Nat → Value) : Prop := ∀ i j, i < j → j < n → ∀ k, (f i).ownBlock = some k → (f j).ownBlock ≠ some k
theorem ApartF.ne {n : Nat} {f : Nat → Value} (h : ApartF n f) {i j : Nat} (hij : i ≠ j) (hi : i < n) (hj : j < n) : ∀ k, (f i).ownBlock = some k → (f j).ownBlock ≠ some k := by
  intro k hk
  rcases Nat.lt_or_gt_of_ne hij with hl | hl
  · exact h i j hl hj k hk
  · intro hk'
    exact h j i hl hi k hk' hk
/-- rows of the call's own, in blocks from lo on, ahead of hi -/
def Own (lo hi : Nat) (w : World) (v : Value) (zs : List E) : Prop := ∃ cs : List C, cs.length = zs.length ∧ w.ownsRow lo 88 2 v zs.length (flatOf cl cs) ∧ (∀ k, v.ownBlock = some k → k < hi) ∧ hi ≤ w.heap.size ∧
  ApartF zs.length (fun i => (cat cs i).1) ∧ ApartF zs.length (fun i => (cat cs i).2) ∧
  ∀ i, i < zs.length → (w.ownsRow lo 120 2 (cat cs i).1 (at' zs i).1.length (Lab.flat (at' zs i).1) ∧ w.ownsRow lo 133 2 (cat cs i).2 (at' zs i).2.length (Sam.flat (at' zs i).2)) ∧ (∀ k, (cat cs i).1.ownBlock = some k → k < hi) ∧ (∀ k, (cat cs i).2.ownBlock = some k → k < hi)
theorem Own.is {lo hi : Nat} {w : World} {v : Value} {zs : List E} (h : Own lo hi w v zs) : Is w v zs := by
  obtain ⟨cs, h1, h2, h3, h4, h5, h6, h7⟩ := h
  exact ⟨cs, h1, lies_of_own h2, fun i hi => ⟨Lab.is_of_own (h7 i hi).1.1, Sam.is_of_own (h7 i hi).1.2⟩⟩
theorem Own.below {lo hi : Nat} {w w' : World} {v : Value} {zs : List E} (h : Own lo hi w v zs) (hb : Below w.heap.size w w') : Own lo hi w' v zs := by
  obtain ⟨cs, h1, h2, h3, h4, h5, h6, h7⟩ := h
  exact ⟨cs, h1, own_below h2 hb, h3, Nat.le_trans h4 hb.size, h5, h6, fun i hi => ⟨⟨own_below (h7 i hi).1.1 hb, own_below (h7 i hi).1.2 hb⟩, (h7 i hi).2⟩⟩
theorem Own.zone {lo hi a b : Nat} {w w' : World} {v : Value} {zs : List E} (h : Own lo hi w v zs) (hz : Zone a b w w') (ho : hi ≤ a ∨ b ≤ lo) : Own lo hi w' v zs := by
  obtain ⟨cs, h1, h2, h3, h4, h5, h6, h7⟩ := h
  refine ⟨cs, h1, hz.own h2 (fun k hk => by have := h3 k hk; have := own_ge h2 k hk; omega), h3, Nat.le_trans h4 hz.size, h5, h6, fun i hi => ⟨⟨hz.own (h7 i hi).1.1 (fun k hk => ?_), hz.own (h7 i hi).1.2 (fun k hk => ?_)⟩, (h7 i hi).2⟩⟩
  · have := (h7 i hi).2.1 k hk
    have := own_ge (h7 i hi).1.1 k hk
    omega
  · have := (h7 i hi).2.2 k hk
    have := own_ge (h7 i hi).1.2 k hk
    omega
theorem Own.form {lo hi : Nat} {w : World} {v : Value} {zs : List E} (h : Own lo hi w v zs) : ∃ a l q, v = .slice a l q := by
  obtain ⟨cs, -, h2, -⟩ := h
  obtain ⟨-, a, q, e, -⟩ := lies_of_own h2
  exact ⟨a, _, q, e⟩
theorem eqX {v u : Value} {zs : List E} {w : World} (h : Is w v zs) (h' : Is w u zs) : Calls Tryz.prog 42 #[v, u] w fun e w' => e = .returned (.bool true) ∧ Below w.heap.size w w' := eq_any h h'
theorem apart_snoc {n : Nat} {ds : List C} {c : C} (hd : ds.length = n) (p : C → Value) (h : ApartF n (fun i => p (cat ds i))) (hc : ∀ i, i < n → ∀ k, (p (cat ds i)).ownBlock = some k → (p c).ownBlock ≠ some k) : ApartF (n + 1) (fun i => p (cat (ds ++ [c]) i)) := by
  intro i j hij hj k hk
  simp only at hk ⊢
  rw [cat_lt _ _ _ (by omega)] at hk
  by_cases hl : j < n
  · rw [cat_lt _ _ _ (by omega)]
    exact h i j hij hl k hk
  · obtain rfl : j = ds.length := by omega
    rw [cat_last]
    exact hc i (by omega) k hk
set_option maxHeartbeats 2000000 in
theorem to_own1 {c : C} {x : E} {w : World} (h : Elem w c x) (ht : tiny x) : Calls Tryz.prog 77 #[.agg #[c.1, c.2]] w fun e w' => ∃ c' : C, e = .returned (.agg #[c'.1, c'.2]) ∧ w'.ownsRow w.heap.size 120 2 c'.1 x.1.length (Lab.flat x.1) ∧ w'.ownsRow w.heap.size 133 2 c'.2 x.2.length (Sam.flat x.2) ∧ Below w.heap.size w w' := by
  obtain ⟨c0, c1⟩ := c
  obtain ⟨h0, h1⟩ := h
  simp only at h0 h1
  have T0 := hide (fun W (hb : Below w.heap.size w W) => Lab.to_any (h0.below hb) (ht.1))
  have T1 := hide (fun W (hb : Below w.heap.size w W) => Sam.to_any (h1.below hb) (ht.2))
  clear h0 h1 ht
  obtain ⟨l0, hl0⟩ : ∃ l, l = (x.1).length := ⟨_, rfl⟩
  rw [← hl0] at T0
  have HL0 := hide hl0
  clear hl0
  obtain ⟨l1, hl1⟩ : ∃ l, l = (x.2).length := ⟨_, rfl⟩
  rw [← hl1] at T1
  have HL1 := hide hl1
  clear hl1
  have B := (((Below.refl w.heap.size w).alloc (Nat.le_refl _) (.cells #[c0, c1] 102)).alloc (by simp) (.cells #[.slice none 0 0, .slice none 0 0] 88)).alloc (by simp; omega) (.cells #[.slice none 0 0, .slice none 0 0] 88)
  go_enter Tryz.func77, Tryz.ntmps77
  go_wp2_with fail
  refine (unhide T0 _ B).mono ?_
  rintro e v0 ⟨rfl, r0, b0⟩
  obtain ⟨bc0, bf0⟩ := bcell b0
  have z0 := b0.size
  have B0 := B.trans (b0.mono B.size)
  simp only [World.size_alloc] at z0 bc0 bf0 r0 ⊢
  clear b0
  have I0 := hide (show v0.ownsRow w.heap.size 120 2 (.slice (some ⟨w.heap.size + 1 + 1 + 1, 0, none⟩) l0 l0) x.1.length (Lab.flat x.1) by rw [unhide HL0] at r0 ⊢; exact own_mono r0 (by omega))
  clear r0
  have Bs0 := B0.setCell (p := ⟨w.heap.size + 1 + 1, 0, none⟩) (by show w.heap.size ≤ w.heap.size + 1 + 1; omega) (.slice (some ⟨w.heap.size + 1 + 1 + 1, 0, none⟩) l0 l0)
  clear B0
  have I0 := hide (((OnlyAt.refl (w.heap.size + 1 + 1) _).setCell 0 (.slice (some ⟨w.heap.size + 1 + 1 + 1, 0, none⟩) l0 l0)).own (unhide I0) (fun k hk => by cases hk; dsimp only; omega))
  go_wp2_with fail
  refine (unhide T1 _ Bs0).mono ?_
  rintro e v1 ⟨rfl, r1, b1⟩
  obtain ⟨bc1, bf1⟩ := bcell b1
  have z1 := b1.size
  have B1 := Bs0.trans (b1.mono Bs0.size)
  have I0 := hide (own_below (unhide I0) b1)
  simp only [World.size_setCell] at z1 bc1 bf1 r1 ⊢
  clear b1
  have bd1 : ∀ b o, b < w.heap.size + 1 + 1 + 1 → v1.cell? ⟨b, o, none⟩ = _ := fun b o h => bc1 b o (by omega)
  have be1 : ∀ b o, b < w.heap.size + 1 + 1 + 1 → v1.frozen? ⟨b, o, none⟩ = v0.frozen? ⟨b, o, none⟩ := fun b o h => (bf1 b o (by omega)).trans (World.frozen?_setCell _ _ _ _)
  clear bc1 bf1
  have I1 := hide (show v1.ownsRow w.heap.size 133 2 (.slice (some ⟨v0.heap.size, 0, none⟩) l1 l1) x.2.length (Sam.flat x.2) by rw [unhide HL1] at r1 ⊢; exact own_mono r1 (by omega))
  clear r1
  have Bs1 := B1.setCell (p := ⟨w.heap.size + 1 + 1, 1, none⟩) (by show w.heap.size ≤ w.heap.size + 1 + 1; omega) (.slice (some ⟨v0.heap.size, 0, none⟩) l1 l1)
  clear B1
  have I0 := hide (((OnlyAt.refl (w.heap.size + 1 + 1) _).setCell 1 (.slice (some ⟨v0.heap.size, 0, none⟩) l1 l1)).own (unhide I0) (fun k hk => by cases hk; dsimp only; omega))
  have I1 := hide (((OnlyAt.refl (w.heap.size + 1 + 1) _).setCell 1 (.slice (some ⟨v0.heap.size, 0, none⟩) l1 l1)).own (unhide I1) (fun k hk => by cases hk; dsimp only; omega))
  have Br0 := Bs1.setCell (p := ⟨w.heap.size + 1, 0, none⟩) (by show w.heap.size ≤ w.heap.size + 1; omega) (.slice (some ⟨w.heap.size + 1 + 1 + 1, 0, none⟩) l0 l0)
  clear Bs1
  have I0 := hide (((OnlyAt.refl (w.heap.size + 1) _).setCell 0 (.slice (some ⟨w.heap.size + 1 + 1 + 1, 0, none⟩) l0 l0)).own (unhide I0) (fun k hk => by cases hk; dsimp only; omega))
  have I1 := hide (((OnlyAt.refl (w.heap.size + 1) _).setCell 0 (.slice (some ⟨w.heap.size + 1 + 1 + 1, 0, none⟩) l0 l0)).own (unhide I1) (fun k hk => by cases hk; dsimp only; omega))
  have Br1 := Br0.setCell (p := ⟨w.heap.size + 1, 1, none⟩) (by show w.heap.size ≤ w.heap.size + 1; omega) (.slice (some ⟨v0.heap.size, 0, none⟩) l1 l1)
  clear Br0
  have I0 := hide (((OnlyAt.refl (w.heap.size + 1) _).setCell 1 (.slice (some ⟨v0.heap.size, 0, none⟩) l1 l1)).own (unhide I0) (fun k hk => by cases hk; dsimp only; omega))
  have I1 := hide (((OnlyAt.refl (w.heap.size + 1) _).setCell 1 (.slice (some ⟨v0.heap.size, 0, none⟩) l1 l1)).own (unhide I1) (fun k hk => by cases hk; dsimp only; omega))
  go_wp2
  refine bodyPost_ret (v := .agg #[(.slice (some ⟨w.heap.size + 1 + 1 + 1, 0, none⟩) l0 l0), (.slice (some ⟨v0.heap.size, 0, none⟩) l1 l1)]) (by simp [results, Tryz.results77, go_sem, bc0, bd1]) rfl ⟨((.slice (some ⟨w.heap.size + 1 + 1 + 1, 0, none⟩) l0 l0), (.slice (some ⟨v0.heap.size, 0, none⟩) l1 l1)), rfl, unhide I0, unhide I1, Br1⟩
set_option maxRecDepth 100000 in
set_option maxHeartbeats 4000000 in
theorem toX {w : World} {v : Value} {zs : List E} (h : Is w v zs) (htot : tot zs ≤ 1048576) :
    Calls Tryz.prog 39 #[v] w fun e w' => ∃ v', e = .returned v' ∧ Own w.heap.size w'.heap.size w' v' zs ∧ Below w.heap.size w w' := by
  have hlen := (tiny_of htot).1
  have ht := (tiny_of htot).2
  clear htot
  obtain ⟨i0, hi, hz0, hz1, hz2⟩ := info_parts info_e
  obtain ⟨cs, hcs, hL, hE⟩ := h
  have HE := hide hE
  have HTt := hide ht
  obtain ⟨-, a, cap, rfl, hc, hm, -, hr⟩ := hL
  unfold maxLen at hm
  obtain ⟨n, hn⟩ : ∃ n, n = zs.length := ⟨_, rfl⟩
  rw [← hn] at hc hr hlen hcs ⊢
  have HN := hide hn
  have HC := hide hcs
  clear hn hE ht hcs
  go_enter Tryz.func39, Tryz.ntmps39
  go_wp2_with (at_make; refine wpList_make_full _ rfl _ _ _ rfl w.heap.size 88 i0 (.agg #[.slice none 0 0, .slice none 0 0]) 2 Tryz.underlying26 hi hz0 hz1 .i64 .i64 _ _ n rfl rfl rfl rfl (by rw [hz2]; omega) (by unfold maxLen; omega) (Nat.le_refl _) ?_; intro w1 hown1 hgrow1)
  go_loopw [4] (fun i wr => ∃ (j : Nat) (r : List Value) (ds : List C), j ≤ n ∧ i = .int .i64 j ∧ r.length = (n - j) * 2 ∧ ds.length = j ∧ wr.ownsRow w.heap.size 88 2 (.slice (some ⟨w.heap.size, 0, none⟩) n n) n (flatOf cl ds ++ r) ∧ Hid (∀ i, i < j → wr.ownsRow (w.heap.size + 1) 120 2 (cat ds i).1 (at' zs i).1.length (Lab.flat (at' zs i).1) ∧ wr.ownsRow (w.heap.size + 1) 133 2 (cat ds i).2 (at' zs i).2.length (Sam.flat (at' zs i).2)) ∧ Hid (ApartF j (fun i => (cat ds i).1) ∧ ApartF j (fun i => (cat ds i).2)) ∧ Below w.heap.size w wr) (fun i _ => n - (intOf i).toNat)
  case atStart =>
    refine ⟨0, _, [], Nat.zero_le _, rfl, ?_, rfl, hown1, hide (fun i h => by omega), hide ⟨fun i j _ h => by omega, fun i j _ h => by omega⟩, below_grown (Below.refl _ _) (Nat.le_refl _) hgrow1 (by simp)⟩
    have := hown1.1
    simpa using this
  case round =>
    obtain ⟨j, r, ds, hj, rfl, hrl, hdl, hown, HD, HA, hbel⟩ := hrel
    have hsz := own_lt hown
    by_cases hlt : j < n
    · obtain ⟨u0, u1, L, rfl, hB⟩ := split_e r (n - j - 1) (by rw [hrl]; omega)
      obtain ⟨b, off, rfl, hl, hcells⟩ := hr (by omega)
      have fa := flat_at cs j (by have := unhide HC; omega)
      have hc0 : wr.cell? ⟨b, off + j * 2, none⟩ = some ((cat cs j).1) := (hbel.cell (p := ⟨b, _, none⟩) hl).trans (hcells (j * 2) _ fa.1)
      have hc1 : wr.cell? ⟨b, off + j * 2 + 1, none⟩ = some ((cat cs j).2) := (hbel.cell (p := ⟨b, _, none⟩) hl).trans (hcells (j * 2 + 1) _ fa.2)
      have fln : (flatOf cl ds).length = j * 2 := by rw [flatOf_length clk, hdl]
      have hd0 : wr.cell? ⟨w.heap.size, j * 2, none⟩ = some u0 := by rw [hown.cellAt (j * 2) (by omega)]; simp [fln]
      have hf0 := hown.frozenAt (j * 2)
      have hd1 : wr.cell? ⟨w.heap.size, j * 2 + 1, none⟩ = some u1 := by rw [hown.cellAt (j * 2 + 1) (by omega)]; simp [fln]
      have hf1 := hown.frozenAt (j * 2 + 1)
      have hk0 : (0 : Int) ≤ (j : Int) := Int.natCast_nonneg _
      have hk1 : (j : Int) < (n : Int) := by omega
      have HO := hide (to_own1 ((unhide HE j (by have := unhide HN; omega)).below hbel) (unhide HTt _ (at_mem zs j (by have := unhide HN; omega))))
      obtain ⟨c0, c1, hX⟩ : ∃ c0 c1, (c0, c1) = cat cs j := ⟨_, _, rfl⟩
      rw [← hX] at hc0 hc1 HO
      clear hX fa
      have HF := hide fln
      clear fln
      simp only at HO
      obtain ⟨m0, hm0⟩ : ∃ m, m = (at' zs j).1.length := ⟨_, rfl⟩
      obtain ⟨m1, hm1⟩ : ∃ m, m = (at' zs j).2.length := ⟨_, rfl⟩
      go_wp2_with (go_at_call 77; refine (unhide HO).mono ?_; rintro e w2 ⟨⟨d0, d1⟩, rfl, oL, oS, hb2⟩; obtain ⟨bc, bf⟩ := bcell hb2; simp only at oL oS; obtain ⟨-, a0, q0, f0, -, -⟩ := lies_of_own oL; subst f0; obtain ⟨-, a1, q1, f1, -, -⟩ := lies_of_own oS; subst f1)
      have o0 := ((own_below hown hb2).stored (j * 2) (.slice a0 ((at' zs j).1).length q0)).1
      have o1 := (o0.stored (j * 2 + 1) (.slice a1 ((at' zs j).2).length q1)).1
      rw [set_e _ _ _ _ _ _ _ (unhide HF)] at o1
      have e2 : flatOf cl (ds ++ [((.slice a0 ((at' zs j).1).length q0), (.slice a1 ((at' zs j).2).length q1))]) = flatOf cl ds ++ [(.slice a0 ((at' zs j).1).length q0), (.slice a1 ((at' zs j).2).length q1)] := by rw [flatOf_append, flatOf_one]; rfl
      rw [← e2] at o1
      have R := hide (((hbel.trans (hb2.mono (by omega))).setCell (p := ⟨w.heap.size, j * 2, none⟩) (Nat.le_refl _) (.slice a0 ((at' zs j).1).length q0)).setCell (p := ⟨w.heap.size, j * 2 + 1, none⟩) (Nat.le_refl _) (.slice a1 ((at' zs j).2).length q1))
      have O := hide o1
      have oa := hide (((OnlyAt.refl w.heap.size w2).setCell (j * 2) (.slice a0 ((at' zs j).1).length q0)).setCell (j * 2 + 1) (.slice a1 ((at' zs j).2).length q1))
      have HA' := hide (show ApartF (j + 1) (fun i => (cat (ds ++ [((.slice a0 ((at' zs j).1).length q0), (.slice a1 ((at' zs j).2).length q1))]) i).1) ∧ ApartF (j + 1) (fun i => (cat (ds ++ [((.slice a0 ((at' zs j).1).length q0), (.slice a1 ((at' zs j).2).length q1))]) i).2) from
        ⟨apart_snoc hdl (·.1) (unhide HA).1 (fun i hi k hk hk' => by have h1 := own_block_lt (unhide HD i hi).1 k hk; have h2 := own_ge oL k hk'; omega), apart_snoc hdl (·.2) (unhide HA).2 (fun i hi k hk hk' => by have h1 := own_block_lt (unhide HD i hi).2 k hk; have h2 := own_ge oS k hk'; omega)⟩)
      have HD' := hide (show ∀ i, i < j + 1 → World.ownsRow _ (w.heap.size + 1) 120 2 (cat (ds ++ [((.slice a0 ((at' zs j).1).length q0), (.slice a1 ((at' zs j).2).length q1))]) i).1 (at' zs i).1.length (Lab.flat (at' zs i).1) ∧ World.ownsRow _ (w.heap.size + 1) 133 2 (cat (ds ++ [((.slice a0 ((at' zs j).1).length q0), (.slice a1 ((at' zs j).2).length q1))]) i).2 (at' zs i).2.length (Sam.flat (at' zs i).2) from fun i hi => by
        by_cases hij : i < j
        · have h := unhide HD i hij
          rw [cat_lt _ _ _ (by omega)]
          exact ⟨(unhide oa).own (own_below h.1 hb2) (fun k hk => by have := own_ge h.1 k hk; omega), (unhide oa).own (own_below h.2 hb2) (fun k hk => by have := own_ge h.2 k hk; omega)⟩
        · obtain rfl : i = j := by omega
          rw [show cat (ds ++ [((.slice a0 ((at' zs i).1).length q0), (.slice a1 ((at' zs i).2).length q1))]) i = ((.slice a0 ((at' zs i).1).length q0), (.slice a1 ((at' zs i).2).length q1)) by rw [← hdl]; exact cat_last _ _]
          exact ⟨(unhide oa).own (own_mono oL (by omega)) (fun k hk => by have := own_ge oL k hk; omega), (unhide oa).own (own_mono oS (by omega)) (fun k hk => by have := own_ge oS k hk; omega)⟩)
      clear o0 o1 e2 hown bc bf hd0 hf0 hd1 hf1 oL oS HD HA oa hm0 hm1
      go_wp2_with fail
      go_roundw
      case rel => exact ⟨j + 1, L, ds ++ [((.slice a0 ((at' zs j).1).length q0), (.slice a1 ((at' zs j).2).length q1))], by omega, by go_num, by omega, by simp [hdl], unhide O, HD', HA', unhide R⟩
      case measure => simp [intOf]; omega
    · obtain rfl : j = n := by omega
      obtain rfl : r = [] := List.eq_nil_of_length_eq_zero (by rw [hrl]; omega)
      rw [List.append_nil] at hown
      have hI := hide (show Own w.heap.size wr.heap.size wr (.slice (some ⟨w.heap.size, 0, none⟩) j j) zs from ⟨ds, by have := unhide HN; omega, by rw [← unhide HN]; exact hown, own_block_lt hown, Nat.le_refl _, by rw [← unhide HN]; exact (unhide HA).1, by rw [← unhide HN]; exact (unhide HA).2, fun i hi => by
        have h := unhide HD i (by have := unhide HN; omega)
        exact ⟨⟨own_mono h.1 (by omega), own_mono h.2 (by omega)⟩, own_block_lt h.1, own_block_lt h.2⟩⟩)
      clear hown HD HA
      go_wp2
      go_ret
      exact ⟨_, rfl, unhide hI, hbel⟩
end Go.Proofs.YtdggffcibcggoaaGreat.Row
