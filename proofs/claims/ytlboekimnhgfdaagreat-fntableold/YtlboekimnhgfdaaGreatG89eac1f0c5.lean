/- My own texts of one claim, laid together by program: SampMark, SampCut, JoinMath, SampJoin. -/
import Derived.Test.YtlboekimnhgfdaaGreatGb177af0568
import Derived.Test.YtlboekimnhgfdaaGreatG5cddafb44b
import Derived.Laws.AppendOwnNone
/- Marking samples of the call's own, and looking whether the marks are still there. -/
namespace Go.Proofs.YtlboekimnhgfdaaGreat.Samp
open Go.RowKit SampMath Rw
set_option linter.unusedVariables false
attribute [local go_sem ↓] Go.wp_at_zero Go.wp_at_succ
def marks (k0 : Int) (n : Nat) : List S := (List.range n).map fun i : Nat => (k0 + 2 * (i : Int), k0 + 2 * (i : Int) + 1)
theorem marks_length (k0 : Int) (n : Nat) : (marks k0 n).length = n := by simp [marks]
theorem marks_succ (k0 : Int) (n : Nat) : marks k0 (n + 1) = marks k0 n ++ [(k0 + 2 * (n : Int), k0 + 2 * (n : Int) + 1)] := by simp [marks, List.range_succ]
theorem marks_at (k0 : Int) (n i : Nat) (h : i < n) : at' (marks k0 n) i = (k0 + 2 * (i : Int), k0 + 2 * (i : Int) + 1) := by simp [marks, at', List.getD, h]
theorem smp_only {g : Nat} {a b : World} (h : OnlyAt g a b) {v : Value} {zs : List S} (hs : Smp a v zs) (hv : ∀ k, v.ownBlock = some k → k ≠ g) : Smp b v zs := by
  rcases hs with hs | ⟨c, off, cap, h1, h2, h3, h4, h5⟩
  · exact .inl hs
  · have hc : c ≠ g := hv c (by rw [h1]; rfl)
    have hcell : ∀ o, b.cell? ⟨c, o, none⟩ = a.cell? ⟨c, o, none⟩ := fun o => World.cell?_of_block (a := ⟨c, o, none⟩) (h.block c hc)
    exact .inr ⟨c, off, cap, h1, h2, h3, by rw [h.size]; exact h4, fun i hi => ⟨(hcell _).trans (h5 i hi).1, (hcell _).trans (h5 i hi).2⟩⟩
set_option maxRecDepth 100000 in
set_option maxHeartbeats 1000000 in
theorem mark_some (base g n cap : Nat) (zs : List S) (k0 : Int) (w : World) (hk1 : 0 ≤ k0) (hk2 : k0 ≤ 1000000000000) (hn : n ≤ 4194304) (hz : zs.length = n) (hown : w.ownsRow base 106 2 (.slice (some ⟨g, 0, none⟩) n cap) n (flat zs)) :
    Calls Tryz.prog 88 #[.slice (some ⟨g, 0, none⟩) n cap, .int .i64 k0] w fun e w' => e = .returned (.int .i64 (k0 + 2 * (n : Int))) ∧
      w'.ownsRow base 106 2 (.slice (some ⟨g, 0, none⟩) n cap) n (flat (marks k0 n)) ∧ OnlyAt g w w' := by
  go_enter Tryz.func88, Tryz.ntmps88
  go_wp2
  go_loopw [1, 5] (fun kv i wr => ∃ (j : Nat) (r : List Value), j ≤ n ∧ i = .int .i64 j ∧ kv = .int .i64 (k0 + 2 * (j : Int)) ∧ r.length = (n - j) * 2 ∧ wr.ownsRow base 106 2 (.slice (some ⟨g, 0, none⟩) n cap) n (flat (marks k0 j) ++ r) ∧ OnlyAt g w wr) (fun _ i _ => n - (intOf i).toNat)
  case atStart => exact ⟨0, flat zs, Nat.zero_le _, rfl, by simp, by rw [flat_length]; omega, by simpa [marks, flat] using hown, OnlyAt.refl _ _⟩
  case round =>
    obtain ⟨j, r, hj, rfl, rfl, hrl, ho, hon⟩ := hrel
    by_cases hlt : j < n
    · obtain ⟨u0, u1, B, rfl, hB⟩ := split_two r (n - j - 1) (by rw [hrl]; omega)
      have fl := flat_length (marks k0 j)
      rw [marks_length] at fl
      have hd0 : wr.cell? ⟨g, j * 2, none⟩ = some u0 := by rw [ho.cellAt (j * 2) (by omega)]; simp [fl]
      have hd1 : wr.cell? ⟨g, j * 2 + 1, none⟩ = some u1 := by rw [ho.cellAt (j * 2 + 1) (by omega)]; simp [fl]
      have hf0 := ho.frozenAt (j * 2)
      have hf1 := ho.frozenAt (j * 2 + 1)
      have h0 : (0 : Int) ≤ (j : Int) := Int.natCast_nonneg _
      have h1 : (j : Int) < (n : Int) := by omega
      have HE := hide fl
      clear fl
      have o1 := (ho.stored (j * 2) (.int .i64 (k0 + 2 * (j : Int)))).1
      have o2 := (o1.stored (j * 2 + 1) (.int .i64 (k0 + 2 * (j : Int) + 1))).1
      rw [set_two _ _ _ _ _ _ _ (unhide HE)] at o2
      have e2 : flat (marks k0 (j + 1)) = flat (marks k0 j) ++ [.int .i64 (k0 + 2 * (j : Int)), .int .i64 (k0 + 2 * (j : Int) + 1)] := by rw [marks_succ, flat_append, flat_one]
      rw [← e2] at o2
      have R := (hon.setCell (j * 2) (.int .i64 (k0 + 2 * (j : Int)))).setCell (j * 2 + 1) (.int .i64 (k0 + 2 * (j : Int) + 1))
      clear o1 e2 ho
      go_wp2
      go_roundw
      case rel => exact ⟨j + 1, B, by omega, by go_num, by go_num, by omega, o2, R⟩
      case measure => simp [intOf]; omega
    · obtain rfl : j = n := by omega
      obtain rfl : r = [] := List.eq_nil_of_length_eq_zero (by rw [hrl]; omega)
      rw [List.append_nil] at ho
      go_wp2
      go_ret
      exact ⟨rfl, ho, hon⟩
theorem mark_nil (k0 : Int) (w : World) : Calls Tryz.prog 88 #[.slice none 0 0, .int .i64 k0] w fun e w' => e = .returned (.int .i64 k0) ∧ w' = w := by
  go_enter Tryz.func88, Tryz.ntmps88
  go_wp2
  refine wp_loop_rounds 1 ?_
  rw [rounds_succ]
  go_wp2
  go_ret
  exact ⟨rfl, rfl⟩
theorem held_nil (k0 : Int) (w : World) : Calls Tryz.prog 91 #[.slice none 0 0, .int .i64 k0] w fun e w' => e = .returned (.int .i64 k0) ∧ w' = w := by
  go_enter Tryz.func91, Tryz.ntmps91
  go_wp2
  refine wp_loop_rounds 1 ?_
  rw [rounds_succ]
  go_wp2
  go_ret
  exact ⟨rfl, rfl⟩
set_option maxRecDepth 100000 in
set_option maxHeartbeats 1000000 in
theorem held_some (b off n cap : Nat) (k0 : Int) (w : World) (hk1 : 0 ≤ k0) (hk2 : k0 ≤ 1000000000000) (hn : n ≤ 4194304) (hr : Reads w b off (marks k0 n)) :
    Calls Tryz.prog 91 #[.slice (some ⟨b, off, none⟩) n cap, .int .i64 k0] w fun e w' => e = .returned (.int .i64 (k0 + 2 * (n : Int))) ∧ w' = w := by
  go_enter Tryz.func91, Tryz.ntmps91
  go_wp2
  go_loop [1, 5] (fun kv i => ∃ (j : Nat), j ≤ n ∧ i = .int .i64 j ∧ kv = .int .i64 (k0 + 2 * (j : Int))) (fun _ i => n - (intOf i).toNat)
  case atStart => exact ⟨0, Nat.zero_le _, rfl, by simp⟩
  case round =>
    obtain ⟨j, hj, rfl, rfl⟩ := hrel
    by_cases hlt : j < n
    · have hc := hr j (by rw [marks_length]; exact hlt)
      rw [marks_at k0 n j hlt] at hc
      obtain ⟨hc0, hc1⟩ := hc
      have h0 : (0 : Int) ≤ (j : Int) := Int.natCast_nonneg _
      have h1 : (j : Int) < (n : Int) := by omega
      go_wp2
      go_round
      case rel => exact ⟨j + 1, by omega, by go_num, by go_num⟩
      case measure => simp [intOf]; omega
    · obtain rfl : j = n := by omega
      go_wp2
      go_ret
      exact ⟨rfl, rfl⟩
/-- marks that are there are told, and new marks are laid, in a row of the call's own -/
theorem mark_any {base : Nat} {v : Value} {zs : List S} {w : World} (k0 : Int) (hk1 : 0 ≤ k0) (hk2 : k0 ≤ 1000000000000) (hn : zs.length ≤ 4194304) (hown : w.ownsRow base 106 2 v zs.length (flat zs)) :
    Calls Tryz.prog 88 #[v, .int .i64 k0] w fun e w' => e = .returned (.int .i64 (k0 + 2 * (zs.length : Int))) ∧
      w'.ownsRow base 106 2 v zs.length (flat (marks k0 zs.length)) ∧ Below base w w' ∧ w'.heap.size = w.heap.size ∧
      (∀ (u : Value) (ys : List S), Smp w u ys → (∀ k, u.ownBlock = some k → v.ownBlock ≠ some k) → Smp w' u ys) ∧
      (∀ (b' n' : Nat) (u : Value) (xs : List Value), w.ownsRow b' 106 2 u n' xs → (∀ k, u.ownBlock = some k → v.ownBlock ≠ some k) → w'.ownsRow b' 106 2 u n' xs) := by
  have hf := hown
  rcases hown.2 with ⟨h1, h2⟩ | ⟨g, cap, cur, h1, h2, hg, _⟩
  · subst h1
    obtain rfl : zs = [] := List.eq_nil_of_length_eq_zero h2
    refine (mark_nil k0 w).mono ?_
    rintro e w' ⟨rfl, rfl⟩
    exact ⟨ret_int (by simp), ⟨rfl, .inl ⟨rfl, rfl⟩⟩, Below.refl _ _, rfl, fun u ys h _ => h, fun b' n' u xs h _ => h⟩
  · subst h1
    refine (mark_some base g zs.length cap zs k0 w hk1 hk2 hn rfl hf).mono ?_
    rintro e w' ⟨rfl, ho, hon⟩
    exact ⟨rfl, ho, hon.below h2, hon.size, fun u ys h hne => smp_only hon h (fun k hk e => hne k hk (by rw [e]; rfl)), fun b' n' u xs h hne => hon.own h (fun k hk e => hne k hk (by rw [e]; rfl))⟩
theorem held_any {v : Value} {n : Nat} {w : World} (k0 : Int) (hk1 : 0 ≤ k0) (hk2 : k0 ≤ 1000000000000) (hn : n ≤ 4194304) (h : Smp w v (marks k0 n)) :
    Calls Tryz.prog 91 #[v, .int .i64 k0] w fun e w' => e = .returned (.int .i64 (k0 + 2 * (n : Int))) ∧ w' = w := by
  rcases h with ⟨rfl, h2⟩ | ⟨b, off, cap, rfl, _, _, _, h5⟩
  · have : n = 0 := by have := marks_length k0 n; rw [h2] at this; simpa using this.symm
    subst this
    refine (held_nil k0 w).mono ?_
    rintro e w' ⟨rfl, rfl⟩
    exact ⟨ret_int (by simp), rfl⟩
  · rw [marks_length]
    exact held_some b off n cap k0 w hk1 hk2 hn h5
theorem own_marks {base : Nat} {v : Value} {n : Nat} {k0 : Int} {w : World} (h : w.ownsRow base 106 2 v n (flat (marks k0 n))) : Smp w v (marks k0 n) := by
  exact smp_of_own (by rw [marks_length]; exact h)
end Go.Proofs.YtlboekimnhgfdaaGreat.Samp

/- What SamplesCut answers, of the program and of the model, at every slice of samples. -/
namespace Go.Proofs.YtlboekimnhgfdaaGreat.Samp
open Go.RowKit SampMath Rw
set_option linter.unusedVariables false
attribute [local go_sem ↓] Go.wp_at_zero Go.wp_at_succ
def inT (f t : Int) (x : S) : Bool := decide (f ≤ x.1) && decide (x.1 < t)
def cutL (zs : List S) (f t : Int) : List S := zs.filter (inT f t)
def cut (zs : List S) (f t : Int) : List S := if ok zs = true then cutL zs f t else []
theorem cutL_snoc (zs : List S) (f t : Int) (k : Nat) (h : k < zs.length) : cutL (zs.take (k + 1)) f t = cutL (zs.take k) f t ++ if inT f t (at' zs k) = true then [at' zs k] else [] := by
  rw [at_snoc zs k h, cutL, List.filter_append, cutL]
  cases hh : inT f t (at' zs k) <;> simp [hh]
theorem cutL_le (zs : List S) (f t : Int) (k : Nat) : (cutL (zs.take k) f t).length ≤ k := by
  have h1 := List.length_filter_le (inT f t) (zs.take k)
  have h2 := List.length_take_le k zs
  unfold cutL
  omega
set_option maxRecDepth 100000 in
set_option maxHeartbeats 1000000 in
theorem impl_cut_some (b off n cap : Nat) (zs : List S) (f t : Int) (w : World) (hz : zs.length = n) (hcap : n ≤ cap) (hm : cap ≤ maxLen) (hn : n ≤ 4194304) (hbl : b < w.heap.size) (hr : Reads w b off zs) :
    Calls Tryz.prog 102 #[.slice (some ⟨b, off, none⟩) n cap, .int .i64 f, .int .i64 t] w fun e w' => ∃ v, e = .returned v ∧ w'.ownsRow w.heap.size 106 2 v (cut zs f t).length (flat (cut zs f t)) ∧ Below w.heap.size w w' := by
  obtain ⟨i0, hi, hz0, hz1, hz2⟩ := info_parts info_sample
  have HOK := hide (fun W (hs : Smp W (.slice (some ⟨b, off, none⟩) n cap) zs) => impl_ok hs)
  have HS := hide (show Smp w (.slice (some ⟨b, off, none⟩) n cap) zs from .inr ⟨b, off, cap, by rw [hz], by omega, hm, hbl, hr⟩)
  unfold maxLen at hm
  cases hok : ok zs
  · have HK := hide (show cut zs f t = [] by unfold cut; rw [hok]; rfl)
    have HO := hide hok
    clear hok
    go_enter Tryz.func102, Tryz.ntmps102
    go_wp2_with (go_at_call 111; refine (unhide HOK _ (unhide HS)).mono ?_; rintro e w1 ⟨rfl, hb1⟩; rw [unhide HO])
    go_ret
    refine ⟨_, rfl, ?_, hb1⟩
    rw [unhide HK]
    exact World.ownsRow_nil _ _ _ _
  · have HK := hide (show cut zs f t = cutL zs f t by unfold cut; rw [hok]; rfl)
    have HO := hide hok
    clear hok
    go_enter Tryz.func102, Tryz.ntmps102
    go_wp2_with (go_at_call 111; refine (unhide HOK _ (unhide HS)).mono ?_; rintro e w1 ⟨rfl, hb1⟩; rw [unhide HO])
    go_loopw [7, 15] (fun v i wr => ∃ k : Nat, k ≤ n ∧ i = .int .i64 k ∧ wr.ownsRow w.heap.size 106 2 v (cutL (zs.take k) f t).length (flat (cutL (zs.take k) f t)) ∧ Below w.heap.size w wr) (fun _ i _ => n - (intOf i).toNat)
    case atStart => exact ⟨0, Nat.zero_le _, rfl, World.ownsRow_nil _ _ _ _, hb1⟩
    case round =>
      obtain ⟨k, hk, rfl, hown, hbel⟩ := hrel
      have hsz := hbel.size
      by_cases hlt : k < n
      · have hle := cutL_le zs f t k
        have HC := hide (cutL_snoc zs f t k (by omega))
        obtain ⟨T, hT⟩ : ∃ T, T = (at' zs k).1 := ⟨_, rfl⟩
        obtain ⟨V, hV⟩ : ∃ V, V = (at' zs k).2 := ⟨_, rfl⟩
        have hc0 : wr.cell? ⟨b, off + k * 2, none⟩ = some (.int .i64 T) := by rw [hT]; exact (hbel.cell (p := ⟨b, _, none⟩) hbl).trans (hr k (by omega)).1
        have hc1 : wr.cell? ⟨b, off + k * 2 + 1, none⟩ = some (.int .i64 V) := by rw [hV]; exact (hbel.cell (p := ⟨b, _, none⟩) hbl).trans (hr k (by omega)).2
        have hk0 : (0 : Int) ≤ (k : Int) := Int.natCast_nonneg _
        have hk1 : (k : Int) < (n : Int) := by omega
        have HT := hide (show at' zs k = (T, V) by rw [hT, hV])
        clear hT hV
        generalize cutL (zs.take k) f t = L at hown hle HC
        rcases (show T < f ∨ (f ≤ T ∧ t ≤ T) ∨ (f ≤ T ∧ T < t) from by omega) with h1 | ⟨h1, h2⟩ | ⟨h1, h2⟩
        · have HL := hide (show cutL (zs.take (k + 1)) f t = L by rw [unhide HC, unhide HT, show inT f t (T, V) = false from by simp [inT]; omega]; simp)
          go_wp2
          go_roundw
          case rel => exact ⟨k + 1, by omega, by go_num, by rw [unhide HL]; exact hown.alloc _, hbel.alloc hsz _⟩
          case measure => simp [intOf]; omega
        · have HL := hide (show cutL (zs.take (k + 1)) f t = L by rw [unhide HC, unhide HT, show inT f t (T, V) = false from by simp [inT]; omega]; simp)
          go_wp2
          go_roundw
          case rel => exact ⟨k + 1, by omega, by go_num, by rw [unhide HL]; exact hown.alloc _, hbel.alloc hsz _⟩
          case measure => simp [intOf]; omega
        · have HL := hide (show cutL (zs.take (k + 1)) f t = L ++ [(T, V)] by rw [unhide HC, unhide HT, show inT f t (T, V) = true from by simp [inT]; omega]; simp)
          go_wp2_with (at_builtin; refine wpList_append_lies _ rfl _ _ _ rfl w.heap.size 106 i0 _ 2 16 Tryz.underlying91 hi hz0 hz1 hz2 rfl (by omega) _ L.length _ rfl ((hown.alloc _).alloc _) _ 1 1 [.int .i64 T, .int .i64 V] rfl rfl (World.news_of_block (cs := #[.int .i64 T, .int .i64 V]) (t := 106) (fr := (0, 0)) (alloc_at (by simp))) (by simp [Value.oneCell']) (by omega) (by unfold maxLen; omega) (by omega) (by simp; omega) _ rfl ?_; intro gg cap' w2 hown2 hgrow hat hlt2)
          have R := below_grown ((hbel.alloc hsz _).alloc (by simp; omega) _) (by simp; omega) hgrow (own_ge hown)
          have R2 : w2.ownsRow w.heap.size 106 2 (.slice (some ⟨gg, 0, none⟩) (L.length + 1) cap') (cutL (zs.take (k + 1)) f t).length (flat (cutL (zs.take (k + 1)) f t)) := by
            rw [unhide HL, flat_append, flat_one, List.length_append]; exact hown2
          clear hown2 hgrow hown
          go_wp2
          go_roundw
          case rel => exact ⟨k + 1, by omega, by go_num, R2, R⟩
          case measure => simp [intOf]; omega
      · go_wp2
        go_ret
        exact ⟨_, rfl, by rw [unhide HK]; rw [List.take_of_length_le (by omega)] at hown; exact hown, hbel⟩
set_option maxRecDepth 100000 in
set_option maxHeartbeats 1000000 in
theorem l2cut_some (b off n cap : Nat) (zs : List S) (f t : Int) (w : World) (hz : zs.length = n) (hcap : n ≤ cap) (hm : cap ≤ maxLen) (hn : n ≤ 4194304) (hbl : b < w.heap.size) (hr : Reads w b off zs) :
    Calls Tryz.prog 105 #[.slice (some ⟨b, off, none⟩) n cap, .int .i64 f, .int .i64 t] w fun e w' => ∃ v, e = .returned v ∧ w'.ownsRow w.heap.size 106 2 v (cutL zs f t).length (flat (cutL zs f t)) ∧ Below w.heap.size w w' := by
  obtain ⟨i0, hi, hz0, hz1, hz2⟩ := info_parts info_sample
  unfold maxLen at hm
  go_enter Tryz.func105, Tryz.ntmps105
  go_wp2
  go_loopw [7, 8] (fun v i wr => ∃ k : Nat, k ≤ n ∧ i = .int .i64 k ∧ wr.ownsRow w.heap.size 106 2 v (cutL (zs.take k) f t).length (flat (cutL (zs.take k) f t)) ∧ Below w.heap.size w wr) (fun _ i _ => n - (intOf i).toNat)
  case atStart => exact ⟨0, Nat.zero_le _, rfl, own_empty (Nat.le_refl _), (Below.refl _ _).alloc (Nat.le_refl _) _⟩
  case round =>
    obtain ⟨k, hk, rfl, hown, hbel⟩ := hrel
    have hsz := hbel.size
    by_cases hlt : k < n
    · have hle := cutL_le zs f t k
      have HC := hide (cutL_snoc zs f t k (by omega))
      obtain ⟨T, hT⟩ : ∃ T, T = (at' zs k).1 := ⟨_, rfl⟩
      obtain ⟨V, hV⟩ : ∃ V, V = (at' zs k).2 := ⟨_, rfl⟩
      have hc0 : wr.cell? ⟨b, off + k * 2, none⟩ = some (.int .i64 T) := by rw [hT]; exact (hbel.cell (p := ⟨b, _, none⟩) hbl).trans (hr k (by omega)).1
      have hc1 : wr.cell? ⟨b, off + k * 2 + 1, none⟩ = some (.int .i64 V) := by rw [hV]; exact (hbel.cell (p := ⟨b, _, none⟩) hbl).trans (hr k (by omega)).2
      have hk0 : (0 : Int) ≤ (k : Int) := Int.natCast_nonneg _
      have hk1 : (k : Int) < (n : Int) := by omega
      have HT := hide (show at' zs k = (T, V) by rw [hT, hV])
      clear hT hV
      generalize cutL (zs.take k) f t = L at hown hle HC
      rcases (show T < f ∨ (f ≤ T ∧ t ≤ T) ∨ (f ≤ T ∧ T < t) from by omega) with h1 | ⟨h1, h2⟩ | ⟨h1, h2⟩
      · have HL := hide (show cutL (zs.take (k + 1)) f t = L by rw [unhide HC, unhide HT, show inT f t (T, V) = false from by simp [inT]; omega]; simp)
        go_wp2
        go_roundw
        case rel => exact ⟨k + 1, by omega, by go_num, by rw [unhide HL]; exact hown, hbel⟩
        case measure => simp [intOf]; omega
      · have HL := hide (show cutL (zs.take (k + 1)) f t = L by rw [unhide HC, unhide HT, show inT f t (T, V) = false from by simp [inT]; omega]; simp)
        go_wp2
        go_roundw
        case rel => exact ⟨k + 1, by omega, by go_num, by rw [unhide HL]; exact hown, hbel⟩
        case measure => simp [intOf]; omega
      · have HL := hide (show cutL (zs.take (k + 1)) f t = L ++ [(T, V)] by rw [unhide HC, unhide HT, show inT f t (T, V) = true from by simp [inT]; omega]; simp)
        go_wp2_with (at_builtin; refine wpList_append_lies _ rfl _ _ _ rfl w.heap.size 106 i0 _ 2 16 Tryz.underlying91 hi hz0 hz1 hz2 rfl (by omega) _ L.length _ rfl (hown.alloc _) _ 1 1 [.int .i64 T, .int .i64 V] rfl rfl (World.news_of_block (cs := #[.int .i64 T, .int .i64 V]) (t := 106) (fr := (0, 0)) (alloc_at (by simp))) (by simp [Value.oneCell']) (by omega) (by unfold maxLen; omega) (by omega) (by simp; omega) _ rfl ?_; intro gg cap' w2 hown2 hgrow hat hlt2)
        have R := below_grown (hbel.alloc hsz _) (by simp; omega) hgrow (own_ge hown)
        have R2 : w2.ownsRow w.heap.size 106 2 (.slice (some ⟨gg, 0, none⟩) (L.length + 1) cap') (cutL (zs.take (k + 1)) f t).length (flat (cutL (zs.take (k + 1)) f t)) := by
          rw [unhide HL, flat_append, flat_one, List.length_append]; exact hown2
        clear hown2 hgrow hown
        go_wp2
        go_roundw
        case rel => exact ⟨k + 1, by omega, by go_num, R2, R⟩
        case measure => simp [intOf]; omega
    · go_wp2
      go_ret
      exact ⟨_, rfl, by rw [List.take_of_length_le (by omega)] at hown; exact hown, hbel⟩
theorem l2cut_nil (f t : Int) (w : World) :
    Calls Tryz.prog 105 #[.slice none 0 0, .int .i64 f, .int .i64 t] w fun e w' => ∃ v, e = .returned v ∧ w'.ownsRow w.heap.size 106 2 v (cutL [] f t).length (flat (cutL [] f t)) ∧ Below w.heap.size w w' := by
  go_enter Tryz.func105, Tryz.ntmps105
  go_wp2
  refine wp_loop_rounds 1 ?_
  rw [rounds_succ]
  go_wp2
  go_ret
  exact ⟨_, rfl, own_empty (Nat.le_refl _), (Below.refl _ _).alloc (Nat.le_refl _) _⟩
theorem l2cut {w : World} {v : Value} {zs : List S} (f t : Int) (h : Smp w v zs) (hn : zs.length ≤ 4194304) :
    Calls Tryz.prog 105 #[v, .int .i64 f, .int .i64 t] w fun e w' => ∃ v, e = .returned v ∧ w'.ownsRow w.heap.size 106 2 v (cutL zs f t).length (flat (cutL zs f t)) ∧ Below w.heap.size w w' := by
  rcases h with ⟨rfl, rfl⟩ | ⟨b, off, cap, rfl, h2, h3, h4, h5⟩
  · exact l2cut_nil f t w
  · exact l2cut_some b off _ cap zs f t w rfl h2 h3 hn h4 h5
theorem impl_cut_nil (f t : Int) (w : World) :
    Calls Tryz.prog 102 #[.slice none 0 0, .int .i64 f, .int .i64 t] w fun e w' => ∃ v, e = .returned v ∧ w'.ownsRow w.heap.size 106 2 v (cut [] f t).length (flat (cut [] f t)) ∧ Below w.heap.size w w' := by
  have HOK := hide (fun W => impl_ok (w := W) (v := .slice none 0 0) (zs := []) (.inl ⟨rfl, rfl⟩))
  go_enter Tryz.func102, Tryz.ntmps102
  go_wp2_with (go_at_call 111; refine (unhide HOK _).mono ?_; rintro e w1 ⟨rfl, hb1⟩; rw [show ok [] = true from rfl])
  refine wp_loop_rounds 1 ?_
  rw [rounds_succ]
  go_wp2
  go_ret
  exact ⟨_, rfl, World.ownsRow_nil _ _ _ _, hb1⟩
theorem impl_cut {w : World} {v : Value} {zs : List S} (f t : Int) (h : Smp w v zs) (hn : zs.length ≤ 4194304) :
    Calls Tryz.prog 102 #[v, .int .i64 f, .int .i64 t] w fun e w' => ∃ v, e = .returned v ∧ w'.ownsRow w.heap.size 106 2 v (cut zs f t).length (flat (cut zs f t)) ∧ Below w.heap.size w w' := by
  rcases h with ⟨rfl, rfl⟩ | ⟨b, off, cap, rfl, h2, h3, h4, h5⟩
  · exact impl_cut_nil f t w
  · exact impl_cut_some b off _ cap zs f t w rfl h2 h3 hn h4 h5
end Go.Proofs.YtlboekimnhgfdaaGreat.Samp

/- Samples of both, as plain mathematics: by time, each once; none if they have two numbers for one time. No condition. -/
namespace Go.Proofs.YtlboekimnhgfdaaGreat.SampMath
def merge : List S → List S → Option (List S)
  | [], b => some b
  | x :: a, [] => some (x :: a)
  | x :: a, y :: b =>
    if x.1 < y.1 then (merge a (y :: b)).map (x :: ·)
    else if y.1 < x.1 then (merge (x :: a) b).map (y :: ·)
    else if x.2 = y.2 then (merge a b).map (x :: ·) else none
theorem merge_nil (b : List S) : merge [] b = some b := by rw [merge]
theorem merge_nil_right (a : List S) : merge a [] = some a := by cases a <;> rw [merge]
theorem drop_at (zs : List S) (i : Nat) (h : i < zs.length) : zs.drop i = at' zs i :: zs.drop (i + 1) := by
  rw [List.drop_eq_getElem_cons h]; simp [at', List.getD, h]
/-- what the loops keep: the result is what is out, and what is left together -/
def MLeft (a b L : List S) (i j : Nat) : Prop := merge a b = (merge (a.drop i) (b.drop j)).map (L ++ ·)
theorem left_start (a b : List S) : MLeft a b [] 0 0 := by
  unfold MLeft
  simp
theorem left_first {a b L : List S} {i j : Nat} (h : MLeft a b L i j) (hi : i < a.length) (hj : j < b.length) (hlt : (at' a i).1 < (at' b j).1) : MLeft a b (L ++ [at' a i]) (i + 1) j := by
  unfold MLeft at *
  rw [h, drop_at a i hi, drop_at b j hj, merge, if_pos hlt, Option.map_map, ← drop_at b j hj]
  congr 1
  funext x
  simp
theorem left_second {a b L : List S} {i j : Nat} (h : MLeft a b L i j) (hi : i < a.length) (hj : j < b.length) (hlt : (at' b j).1 < (at' a i).1) : MLeft a b (L ++ [at' b j]) i (j + 1) := by
  unfold MLeft at *
  rw [h, drop_at a i hi, drop_at b j hj, merge, if_neg (by omega), if_pos hlt, Option.map_map, ← drop_at a i hi]
  congr 1
  funext x
  simp
theorem left_both {a b L : List S} {i j : Nat} (h : MLeft a b L i j) (hi : i < a.length) (hj : j < b.length) (ht : (at' a i).1 = (at' b j).1) (hv : (at' a i).2 = (at' b j).2) : MLeft a b (L ++ [at' a i]) (i + 1) (j + 1) := by
  unfold MLeft at *
  rw [h, drop_at a i hi, drop_at b j hj, merge, if_neg (by omega), if_neg (by omega), if_pos hv, Option.map_map]
  congr 1
  funext x
  simp
theorem left_clash {a b L : List S} {i j : Nat} (h : MLeft a b L i j) (hi : i < a.length) (hj : j < b.length) (ht : (at' a i).1 = (at' b j).1) (hv : (at' a i).2 ≠ (at' b j).2) : merge a b = none := by
  unfold MLeft at *
  rw [h, drop_at a i hi, drop_at b j hj, merge, if_neg (by omega), if_neg (by omega), if_neg hv]
  rfl
theorem left_end_a {a b L : List S} {i j : Nat} (h : MLeft a b L i j) (hi : a.length ≤ i) : merge a b = some (L ++ b.drop j) := by
  unfold MLeft at *
  rw [h, List.drop_eq_nil_of_le hi, merge_nil]
  rfl
theorem left_end_b {a b L : List S} {i j : Nat} (h : MLeft a b L i j) (hj : b.length ≤ j) : merge a b = some (L ++ a.drop i) := by
  unfold MLeft at *
  rw [h, List.drop_eq_nil_of_le hj, merge_nil_right]
  rfl
/-- what SamplesJoin answers -/
def join (a b : List S) : List S × Bool := if ok a = true ∧ ok b = true then (match merge a b with | some L => (L, true) | none => ([], false)) else ([], false)
theorem join_bad {a b : List S} (h : ok a = false ∨ ok b = false) : join a b = ([], false) := by
  unfold join
  rw [if_neg]
  rintro ⟨h1, h2⟩
  rcases h with h | h <;> simp_all
theorem join_some {a b L : List S} (h1 : ok a = true) (h2 : ok b = true) (h : merge a b = some L) : join a b = (L, true) := by
  unfold join
  rw [if_pos ⟨h1, h2⟩, h]
theorem join_none {a b : List S} (h1 : ok a = true) (h2 : ok b = true) (h : merge a b = none) : join a b = ([], false) := by
  unfold join
  rw [if_pos ⟨h1, h2⟩, h]
theorem merge_le : ∀ (a b L : List S), merge a b = some L → L.length ≤ a.length + b.length := by
  intro a b
  induction a, b using merge.induct with
  | case1 b => intro L h; rw [merge_nil] at h; cases h; simp
  | case2 x a => intro L h; rw [merge_nil_right] at h; cases h; simp
  | case3 x a y b hlt ih =>
    intro L h
    rw [merge, if_pos hlt] at h
    obtain ⟨M, hM, rfl⟩ := Option.map_eq_some_iff.1 h
    have := ih M hM
    simp only [List.length_cons] at *
    omega
  | case4 x a y b h1 hlt ih =>
    intro L h
    rw [merge, if_neg h1, if_pos hlt] at h
    obtain ⟨M, hM, rfl⟩ := Option.map_eq_some_iff.1 h
    have := ih M hM
    simp only [List.length_cons] at *
    omega
  | case5 x a y b h1 h2 hv ih =>
    intro L h
    rw [merge, if_neg h1, if_neg h2, if_pos hv] at h
    obtain ⟨M, hM, rfl⟩ := Option.map_eq_some_iff.1 h
    have := ih M hM
    simp only [List.length_cons] at *
    omega
  | case6 x a y b h1 h2 hv =>
    intro L h
    rw [merge, if_neg h1, if_neg h2, if_neg hv] at h
    cases h
theorem join_le (a b : List S) : (join a b).1.length ≤ a.length + b.length := by
  unfold join
  split
  · cases h : merge a b with
    | none => simp
    | some L => exact merge_le a b L h
  · simp
end Go.Proofs.YtlboekimnhgfdaaGreat.SampMath

/- What SamplesJoin answers, of the program and of the model, at every two slices of samples. -/
namespace Go.Proofs.YtlboekimnhgfdaaGreat.Samp
open Go.RowKit SampMath Rw
set_option linter.unusedVariables false
attribute [local go_sem ↓] Go.wp_at_zero Go.wp_at_succ
/-- a slice of samples, its address open: where there are some, it has one -/
def View (w : World) (a : Option Addr) (n cap : Nat) (zs : List S) : Prop :=
  zs.length = n ∧ n ≤ cap ∧ cap ≤ maxLen ∧ (a = none → cap = 0) ∧ (0 < n → ∃ b off, a = some ⟨b, off, none⟩ ∧ b < w.heap.size ∧ Reads w b off zs)
theorem view_of {w : World} {v : Value} {zs : List S} (h : Smp w v zs) : ∃ a n cap, v = .slice a n cap ∧ View w a n cap zs := by
  rcases h with ⟨rfl, rfl⟩ | ⟨b, off, cap, rfl, h2, h3, h4, h5⟩
  · exact ⟨none, 0, 0, rfl, rfl, Nat.le_refl _, Nat.zero_le _, fun _ => rfl, fun h => by omega⟩
  · exact ⟨_, _, cap, rfl, rfl, h2, h3, fun h => by (cases h), fun _ => ⟨b, off, rfl, h4, h5⟩⟩
theorem View.below {w w' : World} {a : Option Addr} {n cap : Nat} {zs : List S} (h : View w a n cap zs) (hb : Below w.heap.size w w') : View w' a n cap zs := by
  obtain ⟨h1, h2, h3, h4, h5⟩ := h
  exact ⟨h1, h2, h3, h4, fun h => by obtain ⟨b, off, e, hl, hr⟩ := h5 h; exact ⟨b, off, e, by have := hb.size; omega, hr.below hb hl⟩⟩
/-- where a[i:] begins -/
def tailA (a : Option Addr) (i cap : Nat) : Option Addr := if cap = i then a else a.map (·.add (i * 2))
theorem size_sample : (sizeOf (Tryz.prog.elem 91)).run Tryz.prog = fun w => .ok 2 w := by kernel_rfl
theorem tail_run (a : Option Addr) (n cap i : Nat) (h : i ≤ n) (hc : n ≤ cap) (W : World) :
    (Instr.slice 91 (.slice a n cap) (some (.int .i64 (i : Int))) none none).run Tryz.prog W = .ok (.slice (tailA a i cap) (n - i) (cap - i)) W := by
  rw [run_slice_l (P := Tryz.prog) W 91 a n cap (by kernel_rfl) .i64 (i : Int) (by omega) (by omega)]
  show ((sizeOf (Tryz.prog.elem 91)).run Tryz.prog W).andThen _ = _
  rw [size_sample]
  rfl
theorem flat_drop (zs : List S) (i : Nat) : flat (zs.drop i) = (flat zs).drop (i * 2) := by
  induction i generalizing zs with
  | zero => simp
  | succ i ih =>
    cases zs with
    | nil => simp [flat]
    | cons x zs =>
      rw [List.drop_succ_cons, ih zs, show (i + 1) * 2 = i * 2 + 1 + 1 from by omega]
      rfl
theorem flat_cell {w : World} {b off : Nat} {zs : List S} (hr : Reads w b off zs) (j : Nat) (u : Value) (h : (flat zs)[j]? = some u) : w.cell? ⟨b, off + j, none⟩ = some u := by
  have hj : j < zs.length * 2 := by
    have := (List.getElem?_eq_some_iff.1 h).1
    rwa [flat_length] at this
  have hq : j / 2 < zs.length := by omega
  have hf := flat_get zs (j / 2) hq
  have hc := hr (j / 2) hq
  rcases (show j = j / 2 * 2 ∨ j = j / 2 * 2 + 1 from by omega) with e | e
  · rw [e] at h ⊢
    rw [hf.1] at h
    rw [← h]
    exact hc.1
  · rw [e] at h ⊢
    rw [hf.2] at h
    rw [← h]
    exact hc.2
theorem tail_cells {w : World} {a : Option Addr} {n cap i : Nat} {zs : List S} (h : View w a n cap zs) (hi : i ≤ n) :
    ∀ ad, tailA a i cap = some ad → ∀ j u, (flat (zs.drop i))[j]? = some u → w.cell? (ad.add j) = some u := by
  intro ad had j u hu
  obtain ⟨h1, h2, h3, h4, h5⟩ := h
  rw [flat_drop, List.getElem?_drop] at hu
  have hlt := (List.getElem?_eq_some_iff.1 hu).1
  rw [flat_length] at hlt
  obtain ⟨b, off, rfl, _, hr⟩ := h5 (by omega)
  have hne : ¬ cap = i := by omega
  unfold tailA at had
  rw [if_neg hne] at had
  simp only [Option.map_some, Option.some.injEq] at had
  subst had
  rw [Go.WideShapes.add_plain, Go.WideShapes.add_plain]
  have := flat_cell hr (i * 2 + j) u hu
  rwa [← Nat.add_assoc] at this
theorem tail_none {w : World} {a : Option Addr} {n cap i : Nat} {zs : List S} (h : View w a n cap zs) (hi : i ≤ n) : tailA a i cap = none → n - i = 0 ∧ cap - i = 0 := by
  intro hn
  obtain ⟨h1, h2, h3, h4, h5⟩ := h
  unfold tailA at hn
  have ha : a = none := by
    split at hn
    · exact hn
    · simpa using hn
  have := h4 ha
  omega
/-- append of whatever slice onto a row of the call's own -/
theorem wpList_append_any {P : Program} (w : World) {ops : Array Oper} {rest : List Oper} {o : Oper} {a : Act} {Q : Exit → Act → World → Prop} (hgd : o.guard = none) (s x : Operand) (t : TypeId)
    (ho : o.op = .call { callee := .builtin .append, args := #[s, x], argTypes := #[t, t] })
    (base : Nat) (e : TypeId) (i : TypeInfo) (z : Value) (size bytes : Nat) (ht : P.underlying t = some (.slice e)) (hi : P.info? e = some i) (hz : i.zero = some z)
    (hsize : i.size = size) (hby : i.bytes = bytes) (hzs : z.cells.size = size) (hsz : 0 < size)
    (v : Value) (n : Nat) (xs : List Value) (hs : a.eval s = v) (hown : w.ownsRow base e size v n xs)
    (ao : Option Addr) (m c : Nat) (news : List Value) (hx : a.eval x = .slice ao m c) (hn : ao = none → m = 0 ∧ c = 0) (hl : news.length = m * size) (hnews : ∀ ad, ao = some ad → ∀ j u, news[j]? = some u → w.cell? (ad.add j) = some u) (h1 : ∀ u ∈ news, u.oneCell' = true)
    (h63 : n + m ≤ maxLen) (hbytes : (n + m) * bytes ≤ 140737488355328) (hbase : base ≤ w.heap.size)
    (h : ∀ v' w', w'.ownsRow base e size v' (n + m) (xs ++ news) → w.grownBy w' v.ownBlock → wpList P ops Q rest (a.put o.dst v') w') : wpList P ops Q (o :: rest) a w := by
  cases ao with
  | none =>
    obtain ⟨rfl, rfl⟩ := hn rfl
    obtain rfl : news = [] := List.eq_nil_of_length_eq_zero (by omega)
    refine wpList_append_own_none hgd s x t ho base e i size ht hi v n xs hs hown hx (h v w (by rw [List.append_nil]; exact hown) ⟨rfl, rfl, rfl, Nat.le_refl _, fun _ _ _ => rfl⟩)
  | some ad => exact wpList_append_own w hgd s x t ho base e i z size bytes ht hi hz hsize hby hzs hsz v n xs hs hown ad m c news hx hl (hnews ad rfl) h1 h63 hbytes hbase fun v' w' h2 h3 _ => h v' w' h2 h3
theorem cls_cell {wr W : World} {b o : Nat} {u : Value} (hW : Below wr.heap.size wr W) (hb : b < wr.heap.size) (h : wr.cell? ⟨b, o, none⟩ = some u) : ∀ x : Cls W.heap.size W, x.val.cell? ⟨b, o, none⟩ = some u := fun x => by
  rw [x.cell (by have := hW.size; omega)]
  exact (hW.cell (p := ⟨b, o, none⟩) hb).trans h
theorem old_cell {wr W : World} {b o : Nat} {u : Value} (hW : Below wr.heap.size wr W) (hb : b < wr.heap.size) (h : wr.cell? ⟨b, o, none⟩ = some u) : W.cell? ⟨b, o, none⟩ = some u := (hW.cell (p := ⟨b, o, none⟩) hb).trans h
set_option maxRecDepth 100000 in
set_option maxHeartbeats 4000000 in
theorem impl_merge (a a' : Option Addr) (n m cap cap' : Nat) (zs ys : List S) (w : World) (hv : View w a n cap zs) (hu : View w a' m cap' ys) (hn : n ≤ 4194304) (hm : m ≤ 4194304) (HK1 : Hid (Calls Tryz.prog 111 #[.slice a n cap] w fun e w' => e = .returned (.bool true) ∧ Below w.heap.size w w')) (HK2 : Hid (∀ W, Below w.heap.size w W → Calls Tryz.prog 111 #[.slice a' m cap'] W fun e w' => e = .returned (.bool true) ∧ Below W.heap.size W w')) :
    Calls Tryz.prog 134 #[.slice a n cap, .slice a' m cap'] w fun e w' => ∃ v, e = .returned (.tuple #[v, .bool (merge zs ys).isSome]) ∧ w'.ownsRow w.heap.size 106 2 v ((merge zs ys).getD []).length (flat ((merge zs ys).getD [])) ∧ Below w.heap.size w w' := by
  obtain ⟨i0, hi, hz0, hz1, hz2⟩ := info_parts info_sample
  obtain ⟨hl1, hc1, hm1, -, -⟩ := id hv
  obtain ⟨hl2, hc2, hm2, -, -⟩ := id hu
  unfold maxLen at hm1 hm2
  have HV := hide hv
  have HU := hide hu
  clear hv hu
  go_enter Tryz.func134, Tryz.ntmps134
  go_wp2_with fail
  refine (unhide HK1).mono ?_
  rintro e w1 ⟨rfl, b1⟩
  go_wp2_with fail
  refine (unhide HK2 _ b1).mono ?_
  rintro e w2 ⟨rfl, b2⟩
  have c2 := b1.trans (b2.mono b1.size)
  clear b2 b1
  go_wp2_with fail
  go_loopw [6, 7, 8] (fun v iv jv wr => ∃ (i j : Nat) (L : List S), i ≤ n ∧ j ≤ m ∧ iv = .int .i64 i ∧ jv = .int .i64 j ∧ L.length ≤ i + j ∧ MLeft zs ys L i j ∧ wr.ownsRow w.heap.size 106 2 v L.length (flat L) ∧ Below w.heap.size w wr) (fun _ iv jv _ => (n - (intOf iv).toNat) + (m - (intOf jv).toNat))
  case atStart => exact ⟨0, 0, [], Nat.zero_le _, Nat.zero_le _, rfl, rfl, Nat.zero_le _, left_start zs ys, World.ownsRow_nil _ _ _ _, c2⟩
  case round =>
    obtain ⟨i, j, L, hin, hjm, rfl, rfl, hL, hleft, hown, hbel⟩ := hrel
    have hsz := hbel.size
    have HL := hide hleft
    clear hleft c2
    have VW := hide ((unhide HV).below hbel)
    have UW := hide ((unhide HU).below hbel)
    have hi0 : (0 : Int) ≤ (i : Int) := Int.natCast_nonneg _
    have hj0 : (0 : Int) ≤ (j : Int) := Int.natCast_nonneg _
    by_cases hij : i < n ∧ j < m
    · obtain ⟨hi1, hj1⟩ := hij
      have hi2 : (i : Int) < (n : Int) := by omega
      have hj2 : (j : Int) < (m : Int) := by omega
      obtain ⟨b, off, ha, hb, hr⟩ := (unhide VW).2.2.2.2 (by omega)
      obtain ⟨b', off', ha', hb', hr'⟩ := (unhide UW).2.2.2.2 (by omega)
      subst ha ha'
      obtain ⟨x0, x1⟩ := hr i (by omega)
      obtain ⟨y0, y1⟩ := hr' j (by omega)
      obtain ⟨T, hT⟩ : ∃ T, T = (at' zs i).1 := ⟨_, rfl⟩
      obtain ⟨V, hV⟩ : ∃ V, V = (at' zs i).2 := ⟨_, rfl⟩
      obtain ⟨T', hT'⟩ : ∃ T, T = (at' ys j).1 := ⟨_, rfl⟩
      obtain ⟨V', hV'⟩ : ∃ V, V = (at' ys j).2 := ⟨_, rfl⟩
      rw [← hT] at x0
      rw [← hV] at x1
      rw [← hT'] at y0
      rw [← hV'] at y1
      have HX := hide (show at' zs i = (T, V) by rw [hT, hV])
      have HY := hide (show at' ys j = (T', V') by rw [hT', hV'])
      clear hT hV hT' hV' hr hr' HV HU VW UW HK1 HK2
      have q0 := cls_cell (Below.refl _ _) hb x0
      have q1 := cls_cell (Below.refl _ _) hb x1
      have p0 := cls_cell (Below.refl _ _) hb' y0
      have p1 := cls_cell (Below.refl _ _) hb' y1
      have hne := cls_nonempty wr.heap.size wr
      go_wp2_with fail
      refine region_cls (by kernel_rfl) (by kernel_rfl) ?_
      repeat (go_big_quiet_step (fail))
      refine wpQuiet_nil ?_
      rintro wq ⟨⟨_, hq⟩, rfl⟩
      clear q0 q1 p0 p1 hne
      have o1 := own_below hown hq
      have bq := hbel.trans (hq.mono hsz)
      have sq := bq.size
      rcases (show T < T' ∨ T' < T ∨ T = T' from by omega) with hlt | hlt | heq
      · have HN := hide (left_first (unhide HL) (by omega) (by omega) (by rw [unhide HX, unhide HY]; exact hlt))
        rw [unhide HX] at HN
        have z0 := old_cell hq hb x0
        have z1 := old_cell hq hb x1
        clear HL hown x0 x1 y0 y1
        go_wp2_with (at_builtin; refine wpList_append_lies _ rfl _ _ _ rfl w.heap.size 106 i0 _ 2 16 Tryz.underlying91 hi hz0 hz1 hz2 rfl (by omega) _ L.length _ rfl ((o1).alloc _) _ 1 1 [.int .i64 T, .int .i64 V] rfl rfl (World.news_of_block (cs := #[.int .i64 T, .int .i64 V]) (t := 106) (fr := (0, 0)) (alloc_at (by simp))) (by simp [Value.oneCell']) (by omega) (by unfold maxLen; omega) (by omega) (by simp; omega) _ rfl ?_; intro gg cp w9 hown2 hgrow hat hlt2)
        have R := below_grown (bq.alloc sq _) (by simp; omega) hgrow (own_ge o1)
        have R2 : w9.ownsRow w.heap.size 106 2 (.slice (some ⟨gg, 0, none⟩) (L.length + 1) cp) (L ++ [(T, V)]).length (flat (L ++ [(T, V)])) := by rw [flat_append, flat_one, List.length_append]; exact hown2
        clear hown2 hgrow o1 z0 z1
        go_wp2
        go_roundw
        case rel => exact ⟨i + 1, j, L ++ [(T, V)], by omega, by omega, by go_num, rfl, by simp; omega, unhide HN, R2, R⟩
        case measure => simp [intOf]; omega
      · have HN := hide (left_second (unhide HL) (by omega) (by omega) (by rw [unhide HX, unhide HY]; exact hlt))
        rw [unhide HY] at HN
        have q0 := cls_cell hq hb x0
        have p0 := cls_cell hq hb' y0
        have hne := cls_nonempty wq.heap.size wq
        have hnl : decide (T < T') = false := by simp; omega
        go_wp2_with fail
        refine region_cls (by kernel_rfl) (by kernel_rfl) ?_
        repeat (go_big_quiet_step (fail))
        refine wpQuiet_nil ?_
        rintro wp ⟨⟨_, hp⟩, rfl⟩
        clear q0 p0 hne
        have hpq := hq.trans (hp.mono hq.size)
        have z0 := old_cell hpq hb' y0
        have z1 := old_cell hpq hb' y1
        have o2 := own_below o1 hp
        have bp := bq.trans (hp.mono sq)
        have sp := bp.size
        clear HL hown x0 x1 y0 y1 o1
        go_wp2_with (at_builtin; refine wpList_append_lies _ rfl _ _ _ rfl w.heap.size 106 i0 _ 2 16 Tryz.underlying91 hi hz0 hz1 hz2 rfl (by omega) _ L.length _ rfl ((o2).alloc _) _ 1 1 [.int .i64 T', .int .i64 V'] rfl rfl (World.news_of_block (cs := #[.int .i64 T', .int .i64 V']) (t := 106) (fr := (0, 0)) (alloc_at (by simp))) (by simp [Value.oneCell']) (by omega) (by unfold maxLen; omega) (by omega) (by simp; omega) _ rfl ?_; intro gg cp w9 hown2 hgrow hat hlt2)
        have R := below_grown (bp.alloc sp _) (by simp; omega) hgrow (own_ge o2)
        have R2 : w9.ownsRow w.heap.size 106 2 (.slice (some ⟨gg, 0, none⟩) (L.length + 1) cp) (L ++ [(T', V')]).length (flat (L ++ [(T', V')])) := by rw [flat_append, flat_one, List.length_append]; exact hown2
        clear hown2 hgrow o2 z0 z1
        go_wp2
        go_roundw
        case rel => exact ⟨i, j + 1, L ++ [(T', V')], by omega, by omega, rfl, by go_num, by simp; omega, unhide HN, R2, R⟩
        case measure => simp [intOf]; omega
      · have q0 := cls_cell hq hb x0
        have p0 := cls_cell hq hb' y0
        have hne := cls_nonempty wq.heap.size wq
        have hnl : decide (T < T') = false := by simp; omega
        have hnr : decide (T' < T) = false := by simp; omega
        have HE := hide heq
        have hA : T' ≤ T := by omega
        have hB : T ≤ T' := by omega
        clear heq
        go_wp2_with fail
        refine region_cls (by kernel_rfl) (by kernel_rfl) ?_
        repeat (go_big_quiet_step (fail))
        refine wpQuiet_nil ?_
        rintro wp ⟨⟨_, hp⟩, rfl⟩
        clear q0 p0 hne
        have hpq := hq.trans (hp.mono hq.size)
        have q1 := cls_cell hpq hb x1
        have p1 := cls_cell hpq hb' y1
        have hne := cls_nonempty wp.heap.size wp
        by_cases hVV : V = V'
        · have hvv : (V != V') = false := by simp [hVV]
          have HVV := hide hVV
          clear hVV
          have HN := hide (left_both (unhide HL) (by omega) (by omega) (by rw [unhide HX, unhide HY]; exact unhide HE) (by rw [unhide HX, unhide HY]; exact unhide HVV))
          rw [unhide HX] at HN
          go_wp2_with fail
          refine region_cls (by kernel_rfl) (by kernel_rfl) ?_
          repeat (go_big_quiet_step (fail))
          refine wpQuiet_nil ?_
          rintro wo ⟨⟨_, ho⟩, rfl⟩
          clear q1 p1 hne
          have hoq := hpq.trans (ho.mono hpq.size)
          have z0 := old_cell hoq hb x0
          have z1 := old_cell hoq hb x1
          have o3 := own_below (own_below o1 hp) ho
          have bo := (bq.trans (hp.mono sq)).trans (ho.mono (bq.trans (hp.mono sq)).size)
          have so := bo.size
          clear HL hown x0 x1 y0 y1 o1
          go_wp2_with (at_builtin; refine wpList_append_lies _ rfl _ _ _ rfl w.heap.size 106 i0 _ 2 16 Tryz.underlying91 hi hz0 hz1 hz2 rfl (by omega) _ L.length _ rfl ((o3).alloc _) _ 1 1 [.int .i64 T, .int .i64 V] rfl rfl (World.news_of_block (cs := #[.int .i64 T, .int .i64 V]) (t := 106) (fr := (0, 0)) (alloc_at (by simp))) (by simp [Value.oneCell']) (by omega) (by unfold maxLen; omega) (by omega) (by simp; omega) _ rfl ?_; intro gg cp w9 hown2 hgrow hat hlt2)
          have R := below_grown (bo.alloc so _) (by simp; omega) hgrow (own_ge o3)
          have R2 : w9.ownsRow w.heap.size 106 2 (.slice (some ⟨gg, 0, none⟩) (L.length + 1) cp) (L ++ [(T, V)]).length (flat (L ++ [(T, V)])) := by rw [flat_append, flat_one, List.length_append]; exact hown2
          clear hown2 hgrow o3 z0 z1
          go_wp2
          go_roundw
          case rel => exact ⟨i + 1, j + 1, L ++ [(T, V)], by omega, by omega, by go_num, by go_num, by simp; omega, unhide HN, R2, R⟩
          case measure => simp [intOf]; omega
        · have hvv : (V != V') = true := by simp [hVV]
          have HN := hide (left_clash (unhide HL) (by omega) (by omega) (by rw [unhide HX, unhide HY]; exact unhide HE) (by rw [unhide HX, unhide HY]; exact hVV))
          clear hVV
          go_wp2_with fail
          refine region_cls (by kernel_rfl) (by kernel_rfl) ?_
          repeat (go_big_quiet_step (fail))
          refine wpQuiet_nil ?_
          rintro wo ⟨⟨_, ho⟩, rfl⟩
          have bo := (bq.trans (hp.mono sq)).trans (ho.mono (bq.trans (hp.mono sq)).size)
          go_wp2
          go_ret2
          refine ⟨.slice none 0 0, ?_, ?_, bo⟩
          · rw [unhide HN]; rfl
          · rw [unhide HN]; exact World.ownsRow_nil _ _ _ _
    · have hsl1 := tail_run a n cap i hin hc1
      have hsl2 := tail_run a' m cap' j hjm hc2
      have N1 := hide (tail_none (unhide VW) hin)
      have C1 := hide (tail_cells (unhide VW) hin)
      have l1 := flat_length (zs.drop i)
      have l2 := flat_length (ys.drop j)
      rw [List.length_drop, hl1] at l1
      rw [List.length_drop, hl2] at l2
      have D1 := hide l1
      have D2 := hide l2
      have HF := hide (show merge zs ys = some (L ++ zs.drop i ++ ys.drop j) by
        by_cases hi1 : i < n
        · rw [left_end_b (unhide HL) (by omega), show ys.drop j = [] from List.drop_eq_nil_of_le (by omega), List.append_nil]
        · rw [left_end_a (unhide HL) (by omega), show zs.drop i = [] from List.drop_eq_nil_of_le (by omega), List.append_nil])
      clear l1 l2 HL VW UW HK1 HK2
      by_cases hi1 : i < n
      · go_wp2_with (first | (at_builtin; refine wpList_append_any _ rfl (.tmp 92) (.tmp 95) _ rfl w.heap.size 106 i0 _ 2 16 Tryz.underlying91 hi hz0 hz1 hz2 rfl (by omega) _ L.length _ rfl hown (tailA a i cap) (n - i) (cap - i) (flat (zs.drop i)) rfl (unhide N1) (unhide D1) (unhide C1) (flat_oneCell _) (by unfold maxLen; omega) (by omega) hsz ?_; intro v8 w8 ow8 hg8; have b8 := below_grown hbel hsz hg8 (own_ge hown); have C2 := hide (tail_cells ((unhide HU).below b8) hjm); have N2 := hide (tail_none (unhide HU) hjm)) | (at_builtin; refine wpList_append_any _ rfl (.tmp 97) (.tmp 100) _ rfl w.heap.size 106 i0 _ 2 16 Tryz.underlying91 hi hz0 hz1 hz2 rfl (by omega) _ (L.length + (n - i)) _ rfl ow8 (tailA a' j cap') (m - j) (cap' - j) (flat (ys.drop j)) rfl (unhide N2) (unhide D2) (unhide C2) (flat_oneCell _) (by unfold maxLen; omega) (by omega) b8.size ?_; intro v9 w9 ow9 hg9))
        go_ret2
        have R := below_grown b8 b8.size hg9 (own_ge ow8)
        refine ⟨v9, ?_, ?_, R⟩
        · rw [unhide HF]; rfl
        · rw [unhide HF, Option.getD_some, flat_append, flat_append, List.length_append, List.length_append, List.length_drop, List.length_drop, hl1, hl2]; exact ow9
      · go_wp2_with (first | (at_builtin; refine wpList_append_any _ rfl (.tmp 92) (.tmp 95) _ rfl w.heap.size 106 i0 _ 2 16 Tryz.underlying91 hi hz0 hz1 hz2 rfl (by omega) _ L.length _ rfl hown (tailA a i cap) (n - i) (cap - i) (flat (zs.drop i)) rfl (unhide N1) (unhide D1) (unhide C1) (flat_oneCell _) (by unfold maxLen; omega) (by omega) hsz ?_; intro v8 w8 ow8 hg8; have b8 := below_grown hbel hsz hg8 (own_ge hown); have C2 := hide (tail_cells ((unhide HU).below b8) hjm); have N2 := hide (tail_none (unhide HU) hjm)) | (at_builtin; refine wpList_append_any _ rfl (.tmp 97) (.tmp 100) _ rfl w.heap.size 106 i0 _ 2 16 Tryz.underlying91 hi hz0 hz1 hz2 rfl (by omega) _ (L.length + (n - i)) _ rfl ow8 (tailA a' j cap') (m - j) (cap' - j) (flat (ys.drop j)) rfl (unhide N2) (unhide D2) (unhide C2) (flat_oneCell _) (by unfold maxLen; omega) (by omega) b8.size ?_; intro v9 w9 ow9 hg9))
        go_ret2
        have R := below_grown b8 b8.size hg9 (own_ge ow8)
        refine ⟨v9, ?_, ?_, R⟩
        · rw [unhide HF]; rfl
        · rw [unhide HF, Option.getD_some, flat_append, flat_append, List.length_append, List.length_append, List.length_drop, List.length_drop, hl1, hl2]; exact ow9
end Go.Proofs.YtlboekimnhgfdaaGreat.Samp
