/- Marking samples of the call's own, and looking whether the marks are still there. -/
import Derived.Test.YtogdllkbiibicaaSampLaw
namespace Go.Proofs.Ytogdllkbiibicaa.Samp
open Go.RowKit SampMath Rw
set_option linter.unusedVariables false
attribute [local go_sem ↓] Go.wp_at_zero Go.wp_at_succ
def marks (k0 : Int) (n : Nat) : List S := (List.range n).map fun i : Nat => (k0 + 2 * (i : Int), k0 + 2 * (i : Int) + 1)
theorem marks_length (k0 : Int) (n : Nat) : (marks k0 n).length = n := by simp [marks]
theorem marks_succ (k0 : Int) (n : Nat) : marks k0 (n + 1) = marks k0 n ++ [(k0 + 2 * (n : Int), k0 + 2 * (n : Int) + 1)] := by simp [marks, List.range_succ]
theorem marks_at (k0 : Int) (n i : Nat) (h : i < n) : at' (marks k0 n) i = (k0 + 2 * (i : Int), k0 + 2 * (i : Int) + 1) := by simp [marks, at', List.getD, h]
theorem smp_only {g : Nat} {a b : World} (h : OnlyAt g a b) {v : Value} {zs : List S} (hs : Smp a v zs) (hv : ∀ k, v.ownBlock = some k → k ≠ g) : Smp b v zs := by
  rcases hs with hs | ⟨c, off, cap, h1, h2, h3, h4, h5⟩
  · exact .inl hs
  · have hc : c ≠ g := hv c (by rw [h1]; rfl)
    have hcell : ∀ o, b.cell? ⟨c, o, none⟩ = a.cell? ⟨c, o, none⟩ := fun o => World.cell?_of_block (a := ⟨c, o, none⟩) (h.block c hc)
    exact .inr ⟨c, off, cap, h1, h2, h3, by rw [h.size]; exact h4, fun i hi => ⟨(hcell _).trans (h5 i hi).1, (hcell _).trans (h5 i hi).2⟩⟩
set_option maxRecDepth 100000 in
set_option maxHeartbeats 1000000 in
theorem mark_some (base g n cap : Nat) (zs : List S) (k0 : Int) (w : World) (hk1 : 0 ≤ k0) (hk2 : k0 ≤ 1000000000000) (hn : n ≤ 4194304) (hz : zs.length = n) (hown : w.ownsRow base 41 2 (.slice (some ⟨g, 0, none⟩) n cap) n (flat zs)) :
    Calls Try.prog 18 #[.slice (some ⟨g, 0, none⟩) n cap, .int .i64 k0] w fun e w' => e = .returned (.int .i64 (k0 + 2 * (n : Int))) ∧
      w'.ownsRow base 41 2 (.slice (some ⟨g, 0, none⟩) n cap) n (flat (marks k0 n)) ∧ OnlyAt g w w' := by
  go_enter Try.func18, Try.ntmps18
  go_wp2
  go_loopw [1, 5] (fun kv i wr => ∃ (j : Nat) (r : List Value), j ≤ n ∧ i = .int .i64 j ∧ kv = .int .i64 (k0 + 2 * (j : Int)) ∧ r.length = (n - j) * 2 ∧ wr.ownsRow base 41 2 (.slice (some ⟨g, 0, none⟩) n cap) n (flat (marks k0 j) ++ r) ∧ OnlyAt g w wr) (fun _ i _ => n - (intOf i).toNat)
  case atStart => exact ⟨0, flat zs, Nat.zero_le _, rfl, by simp, by rw [flat_length]; omega, by simpa [marks, flat] using hown, OnlyAt.refl _ _⟩
  case round =>
    obtain ⟨j, r, hj, rfl, rfl, hrl, ho, hon⟩ := hrel
    by_cases hlt : j < n
    · obtain ⟨u0, u1, B, rfl, hB⟩ := split_two r (n - j - 1) (by rw [hrl]; omega)
      have fl := flat_length (marks k0 j)
      rw [marks_length] at fl
      have hd0 : wr.cell? ⟨g, j * 2, none⟩ = some u0 := by rw [ho.cellAt (j * 2) (by omega)]; simp [fl]
      have hd1 : wr.cell? ⟨g, j * 2 + 1, none⟩ = some u1 := by rw [ho.cellAt (j * 2 + 1) (by omega)]; simp [fl]
      have hf0 := ho.frozenAt (j * 2)
      have hf1 := ho.frozenAt (j * 2 + 1)
      have h0 : (0 : Int) ≤ (j : Int) := Int.natCast_nonneg _
      have h1 : (j : Int) < (n : Int) := by omega
      have HE := hide fl
      clear fl
      have o1 := (ho.stored (j * 2) (.int .i64 (k0 + 2 * (j : Int)))).1
      have o2 := (o1.stored (j * 2 + 1) (.int .i64 (k0 + 2 * (j : Int) + 1))).1
      rw [set_two _ _ _ _ _ _ _ (unhide HE)] at o2
      have e2 : flat (marks k0 (j + 1)) = flat (marks k0 j) ++ [.int .i64 (k0 + 2 * (j : Int)), .int .i64 (k0 + 2 * (j : Int) + 1)] := by rw [marks_succ, flat_append, flat_one]
      rw [← e2] at o2
      have R := (hon.setCell (j * 2) (.int .i64 (k0 + 2 * (j : Int)))).setCell (j * 2 + 1) (.int .i64 (k0 + 2 * (j : Int) + 1))
      clear o1 e2 ho
      go_wp2
      go_roundw
      case rel => exact ⟨j + 1, B, by omega, by go_num, by go_num, by omega, o2, R⟩
      case measure => simp [intOf]; omega
    · obtain rfl : j = n := by omega
      obtain rfl : r = [] := List.eq_nil_of_length_eq_zero (by rw [hrl]; omega)
      rw [List.append_nil] at ho
      go_wp2
      go_ret
      exact ⟨rfl, ho, hon⟩
theorem mark_nil (k0 : Int) (w : World) : Calls Try.prog 18 #[.slice none 0 0, .int .i64 k0] w fun e w' => e = .returned (.int .i64 k0) ∧ w' = w := by
  go_enter Try.func18, Try.ntmps18
  go_wp2
  refine wp_loop_rounds 1 ?_
  rw [rounds_succ]
  go_wp2
  go_ret
  exact ⟨rfl, rfl⟩
theorem held_nil (k0 : Int) (w : World) : Calls Try.prog 19 #[.slice none 0 0, .int .i64 k0] w fun e w' => e = .returned (.int .i64 k0) ∧ w' = w := by
  go_enter Try.func19, Try.ntmps19
  go_wp2
  refine wp_loop_rounds 1 ?_
  rw [rounds_succ]
  go_wp2
  go_ret
  exact ⟨rfl, rfl⟩
set_option maxRecDepth 100000 in
set_option maxHeartbeats 1000000 in
theorem held_some (b off n cap : Nat) (k0 : Int) (w : World) (hk1 : 0 ≤ k0) (hk2 : k0 ≤ 1000000000000) (hn : n ≤ 4194304) (hr : Reads w b off (marks k0 n)) :
    Calls Try.prog 19 #[.slice (some ⟨b, off, none⟩) n cap, .int .i64 k0] w fun e w' => e = .returned (.int .i64 (k0 + 2 * (n : Int))) ∧ w' = w := by
  go_enter Try.func19, Try.ntmps19
  go_wp2
  go_loop [1, 5] (fun kv i => ∃ (j : Nat), j ≤ n ∧ i = .int .i64 j ∧ kv = .int .i64 (k0 + 2 * (j : Int))) (fun _ i => n - (intOf i).toNat)
  case atStart => exact ⟨0, Nat.zero_le _, rfl, by simp⟩
  case round =>
    obtain ⟨j, hj, rfl, rfl⟩ := hrel
    by_cases hlt : j < n
    · have hc := hr j (by rw [marks_length]; exact hlt)
      rw [marks_at k0 n j hlt] at hc
      obtain ⟨hc0, hc1⟩ := hc
      have h0 : (0 : Int) ≤ (j : Int) := Int.natCast_nonneg _
      have h1 : (j : Int) < (n : Int) := by omega
      go_wp2
      go_round
      case rel => exact ⟨j + 1, by omega, by go_num, by go_num⟩
      case measure => simp [intOf]; omega
    · obtain rfl : j = n := by omega
      go_wp2
      go_ret
      exact ⟨rfl, rfl⟩
/-- marks that are there are told, and new marks are laid, in a row of the call's own -/
theorem mark_any {base : Nat} {v : Value} {zs : List S} {w : World} (k0 : Int) (hk1 : 0 ≤ k0) (hk2 : k0 ≤ 1000000000000) (hn : zs.length ≤ 4194304) (hown : w.ownsRow base 41 2 v zs.length (flat zs)) :
    Calls Try.prog 18 #[v, .int .i64 k0] w fun e w' => e = .returned (.int .i64 (k0 + 2 * (zs.length : Int))) ∧
      w'.ownsRow base 41 2 v zs.length (flat (marks k0 zs.length)) ∧ Below base w w' ∧ w'.heap.size = w.heap.size ∧
      (∀ (u : Value) (ys : List S), Smp w u ys → (∀ k, u.ownBlock = some k → v.ownBlock ≠ some k) → Smp w' u ys) ∧
      (∀ (b' n' : Nat) (u : Value) (xs : List Value), w.ownsRow b' 41 2 u n' xs → (∀ k, u.ownBlock = some k → v.ownBlock ≠ some k) → w'.ownsRow b' 41 2 u n' xs) := by
  have hf := hown
  rcases hown.2 with ⟨h1, h2⟩ | ⟨g, cap, cur, h1, h2, hg, _⟩
  · subst h1
    obtain rfl : zs = [] := List.eq_nil_of_length_eq_zero h2
    refine (mark_nil k0 w).mono ?_
    rintro e w' ⟨rfl, rfl⟩
    exact ⟨ret_int (by simp), ⟨rfl, .inl ⟨rfl, rfl⟩⟩, Below.refl _ _, rfl, fun u ys h _ => h, fun b' n' u xs h _ => h⟩
  · subst h1
    refine (mark_some base g zs.length cap zs k0 w hk1 hk2 hn rfl hf).mono ?_
    rintro e w' ⟨rfl, ho, hon⟩
    exact ⟨rfl, ho, hon.below h2, hon.size, fun u ys h hne => smp_only hon h (fun k hk e => hne k hk (by rw [e]; rfl)), fun b' n' u xs h hne => hon.own h (fun k hk e => hne k hk (by rw [e]; rfl))⟩
theorem held_any {v : Value} {n : Nat} {w : World} (k0 : Int) (hk1 : 0 ≤ k0) (hk2 : k0 ≤ 1000000000000) (hn : n ≤ 4194304) (h : Smp w v (marks k0 n)) :
    Calls Try.prog 19 #[v, .int .i64 k0] w fun e w' => e = .returned (.int .i64 (k0 + 2 * (n : Int))) ∧ w' = w := by
  rcases h with ⟨rfl, h2⟩ | ⟨b, off, cap, rfl, _, _, _, h5⟩
  · have : n = 0 := by have := marks_length k0 n; rw [h2] at this; simpa using this.symm
    subst this
    refine (held_nil k0 w).mono ?_
    rintro e w' ⟨rfl, rfl⟩
    exact ⟨ret_int (by simp), rfl⟩
  · rw [marks_length]
    exact held_some b off n cap k0 w hk1 hk2 hn h5
theorem own_marks {base : Nat} {v : Value} {n : Nat} {k0 : Int} {w : World} (h : w.ownsRow base 41 2 v n (flat (marks k0 n))) : Smp w v (marks k0 n) := by
  exact smp_of_own (by rw [marks_length]; exact h)
end Go.Proofs.Ytogdllkbiibicaa.Samp
