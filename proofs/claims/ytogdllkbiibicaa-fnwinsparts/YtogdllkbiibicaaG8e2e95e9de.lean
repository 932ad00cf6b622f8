/- My own texts of one claim, laid together by program: WinMark, WinUni. -/
import Derived.Test.YtogdllkbiibicaaG2f43a2a56a
import Derived.Test.YtogdllkbiibicaaG462f86d0cb
/- What the laws' own helpers do to mark a slice of impl.Win, and to see that the marks are held. -/
namespace Go.Proofs.Ytogdllkbiibicaa.Win
open Go.RowKit Rw
set_option linter.unusedVariables false
attribute [local go_sem ↓] Go.wp_at_zero Go.wp_at_succ
def markOne (q : Nat) : E := (((q : Nat) : Int), ((q + 1 : Nat) : Int), ((q + 2 : Nat) : Int), ((q + 3 : Nat) : Int), ((q + 4 : Nat) : Int), ((q + 5 : Nat) : Int))
def marks (k0 n : Nat) : List E := (List.range n).map fun i => markOne (k0 + 6 * i)
theorem marks_length (k0 n : Nat) : (marks k0 n).length = n := by simp [marks]
theorem marks_succ (k0 n : Nat) : marks k0 (n + 1) = marks k0 n ++ [markOne (k0 + 6 * n)] := by simp [marks, List.range_succ]
theorem marks_at (k0 n i : Nat) (h : i < n) : at' (marks k0 n) i = markOne (k0 + 6 * i) := by simp [marks, at', List.getD, h]
theorem flat_marks (k0 j : Nat) : flat (marks k0 (j + 1)) = flat (marks k0 j) ++ [.int .i64 (((k0 + 6 * j) : Nat) : Int), .int .i64 (((k0 + 6 * j) + 1 : Nat) : Int), .int .i64 (((k0 + 6 * j) + 2 : Nat) : Int), .int .i64 (((k0 + 6 * j) + 3 : Nat) : Int), .int .i64 (((k0 + 6 * j) + 4 : Nat) : Int), .int .i64 (((k0 + 6 * j) + 5 : Nat) : Int)] := by rw [marks_succ]; unfold flat; rw [flatOf_append, flatOf_one]; rfl
set_option maxRecDepth 100000 in
set_option maxHeartbeats 8000000 in
theorem mark_some (base g n cap : Nat) (zs : List E) (k0 : Nat) (w : World) (hk1 : 1 ≤ k0) (hk2 : k0 ≤ 500000000000) (hn : n ≤ 8388608) (hz : zs.length = n) (hown : w.ownsRow base 52 6 (.slice (some ⟨g, 0, none⟩) n cap) n (flat zs)) :
    Calls Try.prog 23 #[.slice (some ⟨g, 0, none⟩) n cap, .int .i64 k0] w fun e w' => e = .returned (.int .i64 ((k0 + 6 * n : Nat) : Int)) ∧
      w'.ownsRow base 52 6 (.slice (some ⟨g, 0, none⟩) n cap) n (flat (marks k0 n)) ∧ Zone g (g + 1) w w' := by
  have hg0 := own_lt hown
  go_enter Try.func23, Try.ntmps23
  go_wp2
  go_loopw [1, 5] (fun kv i wr => ∃ (j q : Nat) (r : List Value), j ≤ n ∧ i = .int .i64 j ∧ kv = .int .i64 q ∧ Hid (q = k0 + 6 * j) ∧ r.length = (n - j) * 6 ∧ wr.ownsRow base 52 6 (.slice (some ⟨g, 0, none⟩) n cap) n (flat (marks k0 j) ++ r) ∧ Zone g (g + 1) w wr) (fun _ i _ => n - (intOf i).toNat)
  case atStart => exact ⟨0, k0, flat zs, Nat.zero_le _, rfl, rfl, hide (by omega), by rw [flat_length]; omega, by simpa [marks, flat, flatOf] using hown, Zone.refl _ _ _⟩
  case round =>
    obtain ⟨j, q, r, hj, rfl, rfl, HQ, hrl, ho, hzn⟩ := hrel
    have hsz := own_lt ho
    have hq1 : 1 ≤ q := by have := unhide HQ; omega
    have hq2 : q ≤ 600000000000 := by have := unhide HQ; omega
    by_cases hlt : j < n
    · obtain ⟨u0, u1, u2, u3, u4, u5, L, rfl, hB⟩ := split_e r (n - j - 1) (by rw [hrl]; omega)
      have fln : (flat (marks k0 j)).length = j * 6 := by rw [flat_length, marks_length]
      have h0 : (0 : Int) ≤ (j : Int) := Int.natCast_nonneg _
      have h1 : (j : Int) < (n : Int) := by omega
      have HF := hide fln
      have HE := hide (flat_marks k0 j)
      rw [← unhide HQ] at HE
      rw [show ((q + 1 : Nat) : Int) = (q : Int) + 1 from by omega] at HE
      rw [show ((q + 2 : Nat) : Int) = (q : Int) + 1 + 1 from by omega] at HE
      rw [show ((q + 3 : Nat) : Int) = (q : Int) + 1 + 1 + 1 from by omega] at HE
      rw [show ((q + 4 : Nat) : Int) = (q : Int) + 1 + 1 + 1 + 1 from by omega] at HE
      rw [show ((q + 5 : Nat) : Int) = (q : Int) + 1 + 1 + 1 + 1 + 1 from by omega] at HE
      clear fln
      have hd0 : World.cell? wr ⟨g, j * 6, none⟩ = some u0 := by rw [ho.cellAt (j * 6) (by omega)]; simp [unhide HF]
      have hf0 := ho.frozenAt (j * 6)
      have p0 := (ho.stored (j * 6) (.int .i64 ((q : Int)))).1
      have x0 := hzn.store (Nat.le_refl g) (Nat.lt_succ_self g) (j * 6) (.int .i64 ((q : Int)))
      obtain ⟨w1, hw1⟩ : ∃ w', World.setCell wr ⟨g, j * 6, none⟩ (.int .i64 ((q : Int))) = w' := ⟨_, rfl⟩
      rw [hw1] at p0 x0
      clear ho hzn
      have hd1 : World.cell? w1 ⟨g, j * 6 + 1, none⟩ = some u1 := by rw [p0.cellAt (j * 6 + 1) (by omega)]; simp [unhide HF]
      have hf1 := p0.frozenAt (j * 6 + 1)
      have p1 := (p0.stored (j * 6 + 1) (.int .i64 ((q : Int) + 1))).1
      have x1 := x0.store (Nat.le_refl g) (Nat.lt_succ_self g) (j * 6 + 1) (.int .i64 ((q : Int) + 1))
      obtain ⟨w2, hw2⟩ : ∃ w', World.setCell w1 ⟨g, j * 6 + 1, none⟩ (.int .i64 ((q : Int) + 1)) = w' := ⟨_, rfl⟩
      rw [hw2] at p1 x1
      clear p0 x0
      have hd2 : World.cell? w2 ⟨g, j * 6 + 2, none⟩ = some u2 := by rw [p1.cellAt (j * 6 + 2) (by omega)]; simp [unhide HF]
      have hf2 := p1.frozenAt (j * 6 + 2)
      have p2 := (p1.stored (j * 6 + 2) (.int .i64 ((q : Int) + 1 + 1))).1
      have x2 := x1.store (Nat.le_refl g) (Nat.lt_succ_self g) (j * 6 + 2) (.int .i64 ((q : Int) + 1 + 1))
      obtain ⟨w3, hw3⟩ : ∃ w', World.setCell w2 ⟨g, j * 6 + 2, none⟩ (.int .i64 ((q : Int) + 1 + 1)) = w' := ⟨_, rfl⟩
      rw [hw3] at p2 x2
      clear p1 x1
      have hd3 : World.cell? w3 ⟨g, j * 6 + 3, none⟩ = some u3 := by rw [p2.cellAt (j * 6 + 3) (by omega)]; simp [unhide HF]
      have hf3 := p2.frozenAt (j * 6 + 3)
      have p3 := (p2.stored (j * 6 + 3) (.int .i64 ((q : Int) + 1 + 1 + 1))).1
      have x3 := x2.store (Nat.le_refl g) (Nat.lt_succ_self g) (j * 6 + 3) (.int .i64 ((q : Int) + 1 + 1 + 1))
      obtain ⟨w4, hw4⟩ : ∃ w', World.setCell w3 ⟨g, j * 6 + 3, none⟩ (.int .i64 ((q : Int) + 1 + 1 + 1)) = w' := ⟨_, rfl⟩
      rw [hw4] at p3 x3
      clear p2 x2
      have hd4 : World.cell? w4 ⟨g, j * 6 + 4, none⟩ = some u4 := by rw [p3.cellAt (j * 6 + 4) (by omega)]; simp [unhide HF]
      have hf4 := p3.frozenAt (j * 6 + 4)
      have p4 := (p3.stored (j * 6 + 4) (.int .i64 ((q : Int) + 1 + 1 + 1 + 1))).1
      have x4 := x3.store (Nat.le_refl g) (Nat.lt_succ_self g) (j * 6 + 4) (.int .i64 ((q : Int) + 1 + 1 + 1 + 1))
      obtain ⟨w5, hw5⟩ : ∃ w', World.setCell w4 ⟨g, j * 6 + 4, none⟩ (.int .i64 ((q : Int) + 1 + 1 + 1 + 1)) = w' := ⟨_, rfl⟩
      rw [hw5] at p4 x4
      clear p3 x3
      have hd5 : World.cell? w5 ⟨g, j * 6 + 5, none⟩ = some u5 := by rw [p4.cellAt (j * 6 + 5) (by omega)]; simp [unhide HF]
      have hf5 := p4.frozenAt (j * 6 + 5)
      have p5 := (p4.stored (j * 6 + 5) (.int .i64 ((q : Int) + 1 + 1 + 1 + 1 + 1))).1
      have x5 := x4.store (Nat.le_refl g) (Nat.lt_succ_self g) (j * 6 + 5) (.int .i64 ((q : Int) + 1 + 1 + 1 + 1 + 1))
      obtain ⟨w6, hw6⟩ : ∃ w', World.setCell w5 ⟨g, j * 6 + 5, none⟩ (.int .i64 ((q : Int) + 1 + 1 + 1 + 1 + 1)) = w' := ⟨_, rfl⟩
      rw [hw6] at p5 x5
      clear p4 x4
      rw [set_e _ _ _ _ _ _ _ _ _ _ _ _ _ _ _ (unhide HF)] at p5
      have P := hide p5
      have X := hide x5
      clear p5 x5
      have P' := hide (show World.ownsRow w6 base 52 6 (.slice (some ⟨g, 0, none⟩) n cap) n (flat (marks k0 (j + 1)) ++ L) by rw [unhide HE]; exact unhide P)
      clear P
      go_wp2_with fail
      go_roundw
      case rel => exact ⟨j + 1, q + 6, L, by omega, by go_num, by go_num, hide (by have := unhide HQ; omega), by omega, unhide P', unhide X⟩
      case measure => simp [intOf]; omega
    · obtain rfl : j = n := by omega
      obtain rfl : r = [] := List.eq_nil_of_length_eq_zero (by rw [hrl]; omega)
      rw [List.append_nil] at ho
      go_wp2
      go_ret
      exact ⟨ret_int (by have := unhide HQ; omega), ho, hzn⟩
theorem mark_nil (k0 : Int) (w : World) : Calls Try.prog 23 #[.slice none 0 0, .int .i64 k0] w fun e w' => e = .returned (.int .i64 k0) ∧ w' = w := by
  go_enter Try.func23, Try.ntmps23
  go_wp2
  refine wp_loop_rounds 1 ?_
  rw [rounds_succ]
  go_wp2
  go_ret
  exact ⟨rfl, rfl⟩
/-- new marks are laid in a row of the call's own; what lies elsewhere is as it was -/
theorem mark_any {base : Nat} {v : Value} {zs : List E} {w : World} (k0 : Nat) (hk1 : 1 ≤ k0) (hk2 : k0 ≤ 500000000000) (hn : zs.length ≤ 8388608) (hown : w.ownsRow base 52 6 v zs.length (flat zs)) {lo hi : Nat} (hin : ∀ k, v.ownBlock = some k → lo ≤ k ∧ k < hi) :
    Calls Try.prog 23 #[v, .int .i64 k0] w fun e w' => e = .returned (.int .i64 ((k0 + 6 * zs.length : Nat) : Int)) ∧
      w'.ownsRow base 52 6 v zs.length (flat (marks k0 zs.length)) ∧ Zone lo hi w w' := by
  have hf := hown
  rcases hown.2 with ⟨h1, h2⟩ | ⟨g, cap, cur, h1, h2, hg, _⟩
  · subst h1
    obtain rfl : zs = [] := List.eq_nil_of_length_eq_zero h2
    refine (mark_nil k0 w).mono ?_
    rintro e w' ⟨rfl, rfl⟩
    exact ⟨ret_int (by simp), ⟨rfl, .inl ⟨rfl, rfl⟩⟩, Zone.refl _ _ _⟩
  · subst h1
    refine (mark_some base g zs.length cap zs k0 w hk1 hk2 hn rfl hf).mono ?_
    rintro e w' ⟨rfl, ho, hon⟩
    have := hin g rfl
    exact ⟨rfl, ho, hon.mono (by omega) (by omega)⟩
set_option maxRecDepth 100000 in
set_option maxHeartbeats 8000000 in
theorem held_any {v : Value} {n : Nat} {w : World} (k0 : Nat) (hk1 : 1 ≤ k0) (hk2 : k0 ≤ 500000000000) (hn : n ≤ 8388608) (h : Is w v (marks k0 n)) :
    Calls Try.prog 24 #[v, .int .i64 k0] w fun e w' => e = .returned (.int .i64 ((k0 + 6 * n : Nat) : Int)) ∧ Below w.heap.size w w' := by
  obtain ⟨-, a, cap, rfl, hc, hm, -, hr⟩ := h
  rw [marks_length] at hc hr ⊢
  go_enter Try.func24, Try.ntmps24
  go_wp2
  go_loopw [1, 5] (fun kv i wr => ∃ (j q : Nat), j ≤ n ∧ i = .int .i64 j ∧ kv = .int .i64 q ∧ Hid (q = k0 + 6 * j) ∧ Below w.heap.size w wr) (fun _ i _ => n - (intOf i).toNat)
  case atStart => exact ⟨0, k0, Nat.zero_le _, rfl, rfl, hide (by omega), Below.refl _ _⟩
  case round =>
    obtain ⟨j, q, hj, rfl, rfl, HQ, hbel⟩ := hrel
    have hsz := hbel.size
    have hq1 : 1 ≤ q := by have := unhide HQ; omega
    have hq2 : q ≤ 600000000000 := by have := unhide HQ; omega
    by_cases hlt : j < n
    · obtain ⟨b, off, rfl, hl, hcells⟩ := hr (by omega)
      have fa := flat_at (marks k0 n) j (by rw [marks_length]; exact hlt)
      rw [marks_at k0 n j hlt, ← unhide HQ] at fa
      unfold markOne at fa
      simp only at fa
      have h0 : (0 : Int) ≤ (j : Int) := Int.natCast_nonneg _
      have h1 : (j : Int) < (n : Int) := by omega
      have hc0 : wr.cell? ⟨b, off + j * 6, none⟩ = some (.int .i64 ((q : Int))) := (hbel.cell (p := ⟨b, _, none⟩) hl).trans (hcells (j * 6) _ fa.1)
      have hc1 : wr.cell? ⟨b, off + j * 6 + 1, none⟩ = some (.int .i64 ((q : Int) + 1)) := (hbel.cell (p := ⟨b, _, none⟩) hl).trans (hcells (j * 6 + 1) _ fa.2.1)
      have hc2 : wr.cell? ⟨b, off + j * 6 + 2, none⟩ = some (.int .i64 ((q : Int) + 2)) := (hbel.cell (p := ⟨b, _, none⟩) hl).trans (hcells (j * 6 + 2) _ fa.2.2.1)
      have hc3 : wr.cell? ⟨b, off + j * 6 + 3, none⟩ = some (.int .i64 ((q : Int) + 3)) := (hbel.cell (p := ⟨b, _, none⟩) hl).trans (hcells (j * 6 + 3) _ fa.2.2.2.1)
      have hc4 : wr.cell? ⟨b, off + j * 6 + 4, none⟩ = some (.int .i64 ((q : Int) + 4)) := (hbel.cell (p := ⟨b, _, none⟩) hl).trans (hcells (j * 6 + 4) _ fa.2.2.2.2.1)
      have hc5 : wr.cell? ⟨b, off + j * 6 + 5, none⟩ = some (.int .i64 ((q : Int) + 5)) := (hbel.cell (p := ⟨b, _, none⟩) hl).trans (hcells (j * 6 + 5) _ fa.2.2.2.2.2)
      clear fa
      go_wp2
      go_roundw
      case rel => exact ⟨j + 1, q + 6, by omega, by go_num, by go_num, hide (by have := unhide HQ; omega), hbel⟩
      case measure => simp [intOf]; omega
    · obtain rfl : j = n := by omega
      go_wp2
      go_ret
      exact ⟨ret_int (by have := unhide HQ; omega), hbel⟩
theorem own_marks {base : Nat} {v : Value} {n k0 : Nat} {w : World} (h : w.ownsRow base 52 6 v n (flat (marks k0 n))) : Is w v (marks k0 n) := is_of_own (by rw [marks_length]; exact h)
end Go.Proofs.Ytogdllkbiibicaa.Win

/- One face for what the laws' helpers do with slices of impl.Win. -/
namespace Go.Proofs.Ytogdllkbiibicaa.Win
open Go.RowKit Rw
set_option linter.unusedVariables false
/-- a row of its own, in a block from lo on, ahead of hi -/
def Own (lo hi : Nat) (w : World) (v : Value) (zs : List E) : Prop := w.ownsRow lo 52 6 v zs.length (flat zs) ∧ (∀ k, v.ownBlock = some k → k < hi) ∧ hi ≤ w.heap.size
theorem Own.is {lo hi : Nat} {w : World} {v : Value} {zs : List E} (h : Own lo hi w v zs) : Is w v zs := is_of_own h.1
theorem Own.below {lo hi : Nat} {w w' : World} {v : Value} {zs : List E} (h : Own lo hi w v zs) (hb : Below w.heap.size w w') : Own lo hi w' v zs := ⟨own_below h.1 hb, h.2.1, Nat.le_trans h.2.2 hb.size⟩
theorem Own.zone {lo hi a b : Nat} {w w' : World} {v : Value} {zs : List E} (h : Own lo hi w v zs) (hz : Zone a b w w') (ho : hi ≤ a ∨ b ≤ lo) : Own lo hi w' v zs :=
  ⟨hz.own h.1 (fun k hk => by have := h.2.1 k hk; have := own_ge h.1 k hk; omega), h.2.1, Nat.le_trans h.2.2 hz.size⟩
theorem Own.form {lo hi : Nat} {w : World} {v : Value} {zs : List E} (h : Own lo hi w v zs) : ∃ a l q, v = .slice a l q := by
  obtain ⟨-, a, q, e, -⟩ := lies_of_own h.1
  exact ⟨a, _, q, e⟩
theorem Own.of {lo : Nat} {w : World} {v : Value} {zs : List E} (h : w.ownsRow lo 52 6 v zs.length (flat zs)) : Own lo w.heap.size w v zs := ⟨h, own_block_lt h, Nat.le_refl _⟩
theorem eqX {v u : Value} {zs : List E} {w : World} (h : Is w v zs) (h' : Is w u zs) : Calls Try.prog 22 #[v, u] w fun e w' => e = .returned (.bool true) ∧ Below w.heap.size w w' := eq_any h h'
def cnt (zs : List E) : Nat := 6 * zs.length
def mk (k0 : Nat) (zs : List E) : List E := marks k0 zs.length
theorem mk_length (k0 : Nat) (zs : List E) : (mk k0 zs).length = zs.length := marks_length _ _
theorem markX {lo hi : Nat} {v : Value} {zs : List E} {w : World} (k0 : Nat) (hk1 : 1 ≤ k0) (hk2 : k0 ≤ 100000000) (hc : zs.length ≤ 2097152) (h : Own lo hi w v zs) :
    Calls Try.prog 23 #[v, .int .i64 k0] w fun e w' => ∃ k : Nat, e = .returned (.int .i64 k) ∧ k = k0 + cnt zs ∧ Own lo hi w' v (mk k0 zs) ∧ Zone lo hi w w' := by
  refine (mark_any k0 hk1 (by omega) (by omega) h.1 (lo := lo) (hi := hi) (fun k hk => ⟨own_ge h.1 k hk, h.2.1 k hk⟩)).mono ?_
  rintro e w' ⟨rfl, o, z⟩
  exact ⟨_, rfl, rfl, ⟨by rw [mk_length]; exact o, h.2.1, Nat.le_trans h.2.2 z.size⟩, z⟩
theorem heldX {v : Value} {zs : List E} {w : World} (k0 : Nat) (hk1 : 1 ≤ k0) (hk2 : k0 ≤ 100000000) (hc : zs.length ≤ 2097152) (h : Is w v (mk k0 zs)) :
    Calls Try.prog 24 #[v, .int .i64 k0] w fun e w' => ∃ k : Nat, e = .returned (.int .i64 k) ∧ k = k0 + cnt zs ∧ Below w.heap.size w w' := by
  refine (held_any k0 hk1 (by omega) (by omega) h).mono ?_
  rintro e w' ⟨rfl, b⟩
  exact ⟨_, rfl, rfl, b⟩
end Go.Proofs.Ytogdllkbiibicaa.Win
