/- My own texts of one claim, laid together by program: DropCnt, TabRes, MatMark. -/
import Derived.Test.YtomncodkbcngmaaGreatG4c8d2bc93f
import Derived.Test.YtomncodkbcngmaaGreatG3d11e24d26
import Derived.Test.YtomncodkbcngmaaGreatG5e192b5de1
import Derived.Test.YtomncodkbcngmaaGreatG459e8be0b9
/- How much there is at most in what is left. -/
namespace Go.Proofs.YtomncodkbcngmaaGreat.Row
open Go.RowKit Rw
theorem drop_cnt (ms : List Mat.E) (f t : Int) (zs : List E) : cnt (drop ms f t zs) ≤ 2097152 ∧ (drop ms f t zs).length ≤ 2097152 := by
  unfold drop
  by_cases h : ok zs = true ∧ Mat.ok ms = true
  · rw [if_pos h]
    refine outL_cnt h.1 (fun i hi => ?_)
    have := (step_is (ok_at h.1 hi)).2.2.1
    unfold dropG
    split
    · exact Nat.le_trans (List.length_filter_le _ _) (by omega)
    · omega
  · rw [if_neg h]
    simp [cnt, cntTo]
end Go.Proofs.YtomncodkbcngmaaGreat.Row

/- A table as an answer: its marks are laid, and held; how much there is in it at most. -/
namespace Go.Proofs.YtomncodkbcngmaaGreat.Tab
open Go.RowKit Rw
set_option linter.unusedVariables false
attribute [local go_sem ↓] Go.wp_at_zero Go.wp_at_succ
theorem markX {lo hi : Nat} {v : Value} {zs : List Row.E} {N1 N2 : Int} {w : World} (k0 : Nat) (hk1 : 1 ≤ k0) (hk2 : k0 ≤ 100000000) (hc : Row.cnt zs ≤ 2097152 ∧ zs.length ≤ 2097152) (h : Row.Own lo hi w v zs) :
    Calls Tryz.prog 16 #[.agg #[v, .int .i64 N1, .int .i64 N2], .int .i64 k0] w fun e w' => ∃ k : Nat, e = .returned (.int .i64 k) ∧ k = k0 + Row.cnt zs ∧ Row.Own lo hi w' v (Row.mk k0 zs) ∧ Zone lo hi w w' := by
  obtain ⟨ra, rl, rq, rfl⟩ := Row.Own.form h
  have b : Below w.heap.size w (w.alloc (.cells #[.slice ra rl rq, .int .i64 N1, .int .i64 N2] 31)) := (Below.refl _ _).alloc (Nat.le_refl _) _
  have H := hide (Row.markX k0 hk1 hk2 hc (h.below b))
  have zb : Zone lo hi w (w.alloc (.cells #[.slice ra rl rq, .int .i64 N1, .int .i64 N2] 31)) := Zone.of_below b
  clear h hc b
  go_enter Tryz.func16, Tryz.ntmps16
  go_wp2_with fail
  refine (unhide H).mono ?_
  rintro e v0 ⟨k, rfl, h1, o, z⟩
  have O := hide o
  have E := hide h1
  clear o h1
  go_wp2_with fail
  go_ret
  exact ⟨k, rfl, unhide E, unhide O, zb.trans z⟩
theorem heldX {v : Value} {zs : List Row.E} {N1 N2 : Int} {w : World} (k0 : Nat) (hk1 : 1 ≤ k0) (hk2 : k0 ≤ 100000000) (hc : Row.cnt zs ≤ 2097152 ∧ zs.length ≤ 2097152) (h : Row.Is w v (Row.mk k0 zs)) :
    Calls Tryz.prog 22 #[.agg #[v, .int .i64 N1, .int .i64 N2], .int .i64 k0] w fun e w' => ∃ k : Nat, e = .returned (.int .i64 k) ∧ k = k0 + Row.cnt zs ∧ Below w.heap.size w w' := by
  obtain ⟨ra, rl, rq, rfl⟩ : ∃ a n c, v = .slice a n c := by obtain ⟨cs, -, hL, -⟩ := h; obtain ⟨-, a, c, e, -⟩ := hL; exact ⟨a, _, c, e⟩
  have b : Below w.heap.size w (w.alloc (.cells #[.slice ra rl rq, .int .i64 N1, .int .i64 N2] 31)) := (Below.refl _ _).alloc (Nat.le_refl _) _
  have H := hide (Row.heldX k0 hk1 hk2 hc (h.below b))
  clear h hc
  go_enter Tryz.func22, Tryz.ntmps22
  go_wp2_with fail
  refine (unhide H).mono ?_
  rintro e v0 ⟨k, rfl, h1, b1⟩
  have E := hide h1
  have bn := b.trans (b1.mono b.size)
  have hkn : decide ((k : Int) < 0) = false := by simp
  clear h1 b1
  go_wp2_with fail
  go_ret
  exact ⟨k, rfl, unhide E, bn⟩
theorem rows_cnt {zs : List Row.E} (h : Row.ok zs = true) : Row.cnt zs ≤ 2097152 ∧ zs.length ≤ 2097152 := by
  have h10 := Row.ok_len h
  have h1 := Row.cnt_le zs 6000 (fun y hy => by
    obtain ⟨i, hi, rfl⟩ := List.getElem_of_mem hy
    have hs := Row.step_is (Row.ok_at h hi)
    rw [Row.at_get zs i hi] at hs
    have := (Lab.ok_small hs.1).1
    have := hs.2.2.1
    unfold Row.cntE
    omega)
  have h2 : zs.length * 6000 ≤ 10 * 6000 := Nat.mul_le_mul_right _ (by omega)
  omega
theorem drop_cnt (ms : List Mat.E) (f t : Int) (zs : List Row.E) (H F : Int) : Row.cnt (drop ms f t zs H F).1 ≤ 2097152 ∧ (drop ms f t zs H F).1.length ≤ 2097152 := by
  unfold drop
  split
  · rename_i h
    split
    · exact Row.drop_cnt ms f t zs
    · exact rows_cnt (table_ok h)
  · simp [Row.cnt, Row.cntTo]
end Go.Proofs.YtomncodkbcngmaaGreat.Tab

/- What the laws' own helpers do to mark a slice of impl.Match, and to see that the marks are held. -/
namespace Go.Proofs.YtomncodkbcngmaaGreat.Mat
open Go.RowKit Rw
set_option linter.unusedVariables false
attribute [local go_sem ↓] Go.wp_at_zero Go.wp_at_succ
def markOne (q : Nat) : E := (((q : Nat) : Int), Mark.text (q + 1), Mark.text (q + 2))
def marks (k0 n : Nat) : List E := (List.range n).map fun i => markOne (k0 + 3 * i)
theorem marks_length (k0 n : Nat) : (marks k0 n).length = n := by simp [marks]
theorem marks_succ (k0 n : Nat) : marks k0 (n + 1) = marks k0 n ++ [markOne (k0 + 3 * n)] := by simp [marks, List.range_succ]
theorem marks_at (k0 n i : Nat) (h : i < n) : at' (marks k0 n) i = markOne (k0 + 3 * i) := by simp [marks, at', List.getD, h]
theorem flat_marks (k0 j : Nat) : flat (marks k0 (j + 1)) = flat (marks k0 j) ++ [.int .i64 (((k0 + 3 * j) : Nat) : Int), .string (Mark.text ((k0 + 3 * j) + 1)), .string (Mark.text ((k0 + 3 * j) + 2))] := by rw [marks_succ]; unfold flat; rw [flatOf_append, flatOf_one]; rfl
set_option maxRecDepth 100000 in
set_option maxHeartbeats 2000000 in
theorem mark_some (base g n cap : Nat) (zs : List E) (k0 : Nat) (w : World) (hk1 : 1 ≤ k0) (hk2 : k0 ≤ 500000000000) (hn : n ≤ 8388608) (hz : zs.length = n) (hown : w.ownsRow base 62 3 (.slice (some ⟨g, 0, none⟩) n cap) n (flat zs)) :
    Calls Tryz.prog 17 #[.slice (some ⟨g, 0, none⟩) n cap, .int .i64 k0] w fun e w' => e = .returned (.int .i64 ((k0 + 3 * n : Nat) : Int)) ∧
      w'.ownsRow base 62 3 (.slice (some ⟨g, 0, none⟩) n cap) n (flat (marks k0 n)) ∧ Zone g (g + 1) w w' := by
  have hg0 := own_lt hown
  go_enter Tryz.func17, Tryz.ntmps17
  go_wp2
  go_loopw [1, 5] (fun kv i wr => ∃ (j q : Nat) (r : List Value), j ≤ n ∧ i = .int .i64 j ∧ kv = .int .i64 q ∧ Hid (q = k0 + 3 * j) ∧ r.length = (n - j) * 3 ∧ wr.ownsRow base 62 3 (.slice (some ⟨g, 0, none⟩) n cap) n (flat (marks k0 j) ++ r) ∧ Zone g (g + 1) w wr) (fun _ i _ => n - (intOf i).toNat)
  case atStart => exact ⟨0, k0, flat zs, Nat.zero_le _, rfl, rfl, hide (by omega), by rw [flat_length]; omega, by simpa [marks, flat, flatOf] using hown, Zone.refl _ _ _⟩
  case round =>
    obtain ⟨j, q, r, hj, rfl, rfl, HQ, hrl, ho, hzn⟩ := hrel
    have hsz := own_lt ho
    have hq1 : 1 ≤ q := by have := unhide HQ; omega
    have hq2 : q ≤ 600000000000 := by have := unhide HQ; omega
    by_cases hlt : j < n
    · obtain ⟨u0, u1, u2, L, rfl, hB⟩ := split_e r (n - j - 1) (by rw [hrl]; omega)
      have fln : (flat (marks k0 j)).length = j * 3 := by rw [flat_length, marks_length]
      have h0 : (0 : Int) ≤ (j : Int) := Int.natCast_nonneg _
      have h1 : (j : Int) < (n : Int) := by omega
      have HF := hide fln
      have HE := hide (flat_marks k0 j)
      rw [← unhide HQ] at HE
      clear fln
      have hd0 : World.cell? wr ⟨g, j * 3, none⟩ = some u0 := by rw [ho.cellAt (j * 3) (by omega)]; simp [unhide HF]
      have hf0 := ho.frozenAt (j * 3)
      have p0 := (ho.stored (j * 3) (.int .i64 ((q : Int)))).1
      have x0 := hzn.store (Nat.le_refl g) (Nat.lt_succ_self g) (j * 3) (.int .i64 ((q : Int)))
      clear ho hzn
      go_wp2_with fail
      refine (Mark.text_at (q + 1) _ (by omega) (by omega) (by omega) _).mono ?_
      rintro e w1 ⟨rfl, b1⟩
      have o1 := own_below p0 b1
      have y1 := x0.trans (Zone.of_below b1)
      clear b1 p0 x0
      have hd1 : World.cell? w1 ⟨g, j * 3 + 1, none⟩ = some u1 := by rw [o1.cellAt (j * 3 + 1) (by omega)]; simp [unhide HF]
      have hf1 := o1.frozenAt (j * 3 + 1)
      have p1 := (o1.stored (j * 3 + 1) (.string (Mark.text (q + 1)))).1
      have x1 := y1.store (Nat.le_refl g) (Nat.lt_succ_self g) (j * 3 + 1) (.string (Mark.text (q + 1)))
      clear o1 y1
      go_wp2_with fail
      refine (Mark.text_at (q + 2) _ (by omega) (by omega) (by omega) _).mono ?_
      rintro e w2 ⟨rfl, b2⟩
      have o2 := own_below p1 b2
      have y2 := x1.trans (Zone.of_below b2)
      clear b2 p1 x1
      have hd2 : World.cell? w2 ⟨g, j * 3 + 2, none⟩ = some u2 := by rw [o2.cellAt (j * 3 + 2) (by omega)]; simp [unhide HF]
      have hf2 := o2.frozenAt (j * 3 + 2)
      have p2 := (o2.stored (j * 3 + 2) (.string (Mark.text (q + 2)))).1
      have x2 := y2.store (Nat.le_refl g) (Nat.lt_succ_self g) (j * 3 + 2) (.string (Mark.text (q + 2)))
      clear o2 y2
      rw [set_e _ _ _ _ _ _ _ _ _ (unhide HF)] at p2
      have P := hide p2
      have X := hide x2
      clear p2 x2
      have P' := hide (show World.ownsRow (World.setCell w2 ⟨g, j * 3 + 2, none⟩ (.string (Mark.text (q + 2)))) base 62 3 (.slice (some ⟨g, 0, none⟩) n cap) n (flat (marks k0 (j + 1)) ++ L) by rw [unhide HE]; exact unhide P)
      clear P
      go_wp2_with fail
      go_roundw
      case rel => exact ⟨j + 1, q + 3, L, by omega, by go_num, by go_num, hide (by have := unhide HQ; omega), by omega, unhide P', unhide X⟩
      case measure => simp [intOf]; omega
    · obtain rfl : j = n := by omega
      obtain rfl : r = [] := List.eq_nil_of_length_eq_zero (by rw [hrl]; omega)
      rw [List.append_nil] at ho
      go_wp2
      go_ret
      exact ⟨ret_int (by have := unhide HQ; omega), ho, hzn⟩
theorem mark_nil (k0 : Int) (w : World) : Calls Tryz.prog 17 #[.slice none 0 0, .int .i64 k0] w fun e w' => e = .returned (.int .i64 k0) ∧ w' = w := by
  go_enter Tryz.func17, Tryz.ntmps17
  go_wp2
  refine wp_loop_rounds 1 ?_
  rw [rounds_succ]
  go_wp2
  go_ret
  exact ⟨rfl, rfl⟩
/-- new marks are laid in a row of the call's own; what lies elsewhere is as it was -/
theorem mark_any {base : Nat} {v : Value} {zs : List E} {w : World} (k0 : Nat) (hk1 : 1 ≤ k0) (hk2 : k0 ≤ 500000000000) (hn : zs.length ≤ 8388608) (hown : w.ownsRow base 62 3 v zs.length (flat zs)) {lo hi : Nat} (hin : ∀ k, v.ownBlock = some k → lo ≤ k ∧ k < hi) :
    Calls Tryz.prog 17 #[v, .int .i64 k0] w fun e w' => e = .returned (.int .i64 ((k0 + 3 * zs.length : Nat) : Int)) ∧
      w'.ownsRow base 62 3 v zs.length (flat (marks k0 zs.length)) ∧ Zone lo hi w w' := by
  have hf := hown
  rcases hown.2 with ⟨h1, h2⟩ | ⟨g, cap, cur, h1, h2, hg, _⟩
  · subst h1
    obtain rfl : zs = [] := List.eq_nil_of_length_eq_zero h2
    refine (mark_nil k0 w).mono ?_
    rintro e w' ⟨rfl, rfl⟩
    exact ⟨ret_int (by simp), ⟨rfl, .inl ⟨rfl, rfl⟩⟩, Zone.refl _ _ _⟩
  · subst h1
    refine (mark_some base g zs.length cap zs k0 w hk1 hk2 hn rfl hf).mono ?_
    rintro e w' ⟨rfl, ho, hon⟩
    have := hin g rfl
    exact ⟨rfl, ho, hon.mono (by omega) (by omega)⟩
theorem own_marks {base : Nat} {v : Value} {n k0 : Nat} {w : World} (h : w.ownsRow base 62 3 v n (flat (marks k0 n))) : Is w v (marks k0 n) := is_of_own (by rw [marks_length]; exact h)
end Go.Proofs.YtomncodkbcngmaaGreat.Mat
