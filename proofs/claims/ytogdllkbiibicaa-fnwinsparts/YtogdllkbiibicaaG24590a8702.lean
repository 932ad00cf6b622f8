/- My own texts of one claim, laid together by program: SampLaw, SampMark. -/
import Derived.Test.YtogdllkbiibicaaG5159c8d96d
/- What the laws' own helpers do with slices of samples: they are copied, held against each other, marked and looked at again. -/
namespace Go.Proofs.Ytogdllkbiibicaa.Samp
open Go.RowKit SampMath Rw
set_option linter.unusedVariables false
attribute [local go_sem ↓] Go.wp_at_zero Go.wp_at_succ
theorem to_one (t v : Int) (w : World) : Calls Try.prog 37 #[.agg #[.int .i64 t, .int .i64 v]] w fun e w' => e = .returned (.agg #[.int .i64 t, .int .i64 v]) ∧ Below w.heap.size w w' := by
  go_enter Try.func37, Try.ntmps37
  go_wp2
  refine bodyPost_ret (v := .agg #[.int .i64 t, .int .i64 v]) (by simp [results, Try.results37, go_sem]) rfl ⟨rfl, ?_⟩
  exact (((Below.refl _ _).alloc (Nat.le_refl _) _).alloc (by simp) _).alloc (by simp; omega) _
set_option maxRecDepth 100000 in
set_option maxHeartbeats 1000000 in
theorem to_some (b off len cap : Nat) (zs : List S) (w : World) (hz : zs.length = len) (hc : len ≤ cap) (hm : cap ≤ maxLen) (hlen : len ≤ 2097152) (hbl : b < w.heap.size) (hr : Reads w b off zs) :
    Calls Try.prog 13 #[.slice (some ⟨b, off, none⟩) len cap] w fun e w' => e = .returned (.slice (some ⟨w.heap.size, 0, none⟩) len len) ∧
      w'.ownsRow w.heap.size 41 2 (.slice (some ⟨w.heap.size, 0, none⟩) len len) len (flat zs) ∧ Below w.heap.size w w' := by
  obtain ⟨i0, hi, hz0, hz1, hz2⟩ := info_parts info_sample
  unfold maxLen at hm
  go_enter Try.func13, Try.ntmps13
  go_wp2_with (at_make; refine wpList_make_full _ rfl _ _ _ rfl w.heap.size 41 i0 (.agg #[.int .i64 0, .int .i64 0]) 2 Try.underlying25 hi hz0 hz1 .i64 .i64 _ _ len rfl rfl rfl rfl (by rw [hz2]; omega) (by unfold maxLen; omega) (Nat.le_refl _) ?_; intro w1 hown1 hgrow1)
  go_loopw [4] (fun i wr => ∃ (k : Nat) (r : List Value), k ≤ len ∧ i = .int .i64 k ∧ r.length = (len - k) * 2 ∧ wr.ownsRow w.heap.size 41 2 (.slice (some ⟨w.heap.size, 0, none⟩) len len) len (flat (zs.take k) ++ r) ∧ Below w.heap.size w wr) (fun i _ => len - (intOf i).toNat)
  case atStart =>
    refine ⟨0, _, Nat.zero_le _, rfl, ?_, hown1, below_grown (Below.refl _ _) (Nat.le_refl _) hgrow1 (by simp)⟩
    have := hown1.1
    simpa using this
  case round =>
    obtain ⟨k, r, hk, rfl, hrl, hown, hbel⟩ := hrel
    have hsz := own_lt hown
    by_cases hlt : k < len
    · obtain ⟨u0, u1, B, rfl, hB⟩ := split_two r (len - k - 1) (by rw [hrl]; omega)
      have hc0 : wr.cell? ⟨b, off + k * 2, none⟩ = some (.int .i64 (at' zs k).1) := (hbel.cell (p := ⟨b, _, none⟩) hbl).trans (hr k (by omega)).1
      have hc1 : wr.cell? ⟨b, off + k * 2 + 1, none⟩ = some (.int .i64 (at' zs k).2) := (hbel.cell (p := ⟨b, _, none⟩) hbl).trans (hr k (by omega)).2
      have fl := flat_length (zs.take k)
      have tl : (zs.take k).length = k := by simp; omega
      have hd0 : wr.cell? ⟨w.heap.size, k * 2, none⟩ = some u0 := by rw [hown.cellAt (k * 2) (by omega)]; simp [fl, tl]
      have hd1 : wr.cell? ⟨w.heap.size, k * 2 + 1, none⟩ = some u1 := by rw [hown.cellAt (k * 2 + 1) (by omega)]; simp [fl, tl]
      have hf0 := hown.frozenAt (k * 2)
      have hf1 := hown.frozenAt (k * 2 + 1)
      have hk0 : (0 : Int) ≤ (k : Int) := Int.natCast_nonneg _
      have hk1 : (k : Int) < (len : Int) := by omega
      have HE := hide (show (flat (zs.take k)).length = k * 2 by rw [fl, tl])
      have HS := hide (at_snoc zs k (by omega))
      obtain ⟨T, hT⟩ : ∃ T, T = (at' zs k).1 := ⟨_, rfl⟩
      obtain ⟨V, hV⟩ : ∃ V, V = (at' zs k).2 := ⟨_, rfl⟩
      rw [← hT] at hc0
      rw [← hV] at hc1
      have HT := hide hT
      have HV := hide hV
      clear fl tl hT hV
      go_wp2_with (go_at_call 37; refine (to_one _ _ _).mono ?_; rintro e w2 ⟨rfl, hb2⟩; obtain ⟨bc, bf⟩ := bcell hb2)
      have o1 := ((own_below hown hb2).stored (k * 2) (.int .i64 T)).1
      have o2 := (o1.stored (k * 2 + 1) (.int .i64 V)).1
      rw [set_two _ _ _ _ _ _ _ (unhide HE)] at o2
      have e2 : flat (zs.take (k + 1)) = flat (zs.take k) ++ [.int .i64 T, .int .i64 V] := by rw [unhide HS, flat_append, flat_one, unhide HT, unhide HV]
      rw [← e2] at o2
      have R := ((hbel.trans (hb2.mono (by omega))).setCell (p := ⟨w.heap.size, k * 2, none⟩) (Nat.le_refl _) (.int .i64 T)).setCell (p := ⟨w.heap.size, k * 2 + 1, none⟩) (Nat.le_refl _) (.int .i64 V)
      clear o1 e2 hown bc bf hd0 hd1 hf0 hf1
      go_roundw
      case rel => exact ⟨k + 1, B, by omega, by go_num, by omega, o2, R⟩
      case measure => simp [intOf]; omega
    · obtain rfl : k = len := by omega
      obtain rfl : r = [] := List.eq_nil_of_length_eq_zero (by rw [hrl]; omega)
      rw [List.append_nil, List.take_of_length_le (by omega)] at hown
      go_wp2
      go_ret
      exact ⟨rfl, hown, hbel⟩
set_option maxHeartbeats 1000000 in
theorem to_zero (a : Option Addr) (cap : Nat) (w : World) :
    Calls Try.prog 13 #[.slice a 0 cap] w fun e w' => e = .returned (.slice (some ⟨w.heap.size, 0, none⟩) 0 0) ∧
      w'.ownsRow w.heap.size 41 2 (.slice (some ⟨w.heap.size, 0, none⟩) 0 0) 0 (flat []) ∧ Below w.heap.size w w' := by
  obtain ⟨i0, hi, hz0, hz1, hz2⟩ := info_parts info_sample
  go_enter Try.func13, Try.ntmps13
  go_wp2_with (at_make; refine wpList_make_full _ rfl _ _ _ rfl w.heap.size 41 i0 (.agg #[.int .i64 0, .int .i64 0]) 2 Try.underlying25 hi hz0 hz1 .i64 .i64 _ _ 0 rfl rfl rfl rfl (by omega) (by unfold maxLen; omega) (Nat.le_refl _) ?_; intro w1 hown1 hgrow1)
  refine wp_loop_rounds 1 ?_
  rw [rounds_succ]
  go_wp2
  go_ret
  have e0 : (madeCells (Value.agg #[Value.int IntKind.i64 0, Value.int IntKind.i64 0]).cells (0 * 2)).toList = flat [] := by simp [madeCells, flat]
  rw [e0] at hown1
  exact ⟨rfl, hown1, below_grown (Below.refl _ _) (Nat.le_refl _) hgrow1 (by simp)⟩
/-- a slice that came in, copied: new memory of the call's own -/
theorem to_any {a : Option Addr} {len cap : Nat} {z : List S} (w w0 : World) (h : IsPairs w0 a len cap z) (hlen : len ≤ 2097152) (hb : Below w0.heap.size w0 w) :
    Calls Try.prog 13 #[.slice a len cap] w fun e w' => e = .returned (.slice (some ⟨w.heap.size, 0, none⟩) len len) ∧
      w'.ownsRow w.heap.size 41 2 (.slice (some ⟨w.heap.size, 0, none⟩) len len) (z.take len).length (flat (z.take len)) ∧ Below w.heap.size w w' := by
  obtain ⟨h1, h2, h3, h4⟩ := pairs_at h
  rcases h4 with rfl | ⟨b, off, rfl, hbl, hr⟩
  · have e : z.take 0 = [] := rfl
    rw [e]
    exact to_zero a cap w
  · rw [h3]
    exact to_some b off len cap (z.take len) w h3 h1 h2 hlen (by have := hb.size; omega) (hr.below hb hbl)
theorem eq_one (t v : Int) (w : World) : Calls Try.prog 39 #[.agg #[.int .i64 t, .int .i64 v], .agg #[.int .i64 t, .int .i64 v]] w fun e w' => e = .returned (.bool true) ∧ Below w.heap.size w w' := by
  go_enter Try.func39, Try.ntmps39
  go_wp2
  go_ret
  exact ⟨rfl, ((Below.refl _ _).alloc (Nat.le_refl _) _).alloc (by simp) _⟩
theorem eq_zero (a a' : Option Addr) (c c' : Nat) (w : World) : Calls Try.prog 15 #[.slice a 0 c, .slice a' 0 c'] w fun e w' => e = .returned (.bool true) ∧ Below w.heap.size w w' := by
  go_enter Try.func15, Try.ntmps15
  go_wp2
  refine wp_loop_rounds 1 ?_
  rw [rounds_succ]
  go_wp2
  go_ret
  exact ⟨rfl, Below.refl _ _⟩
set_option maxRecDepth 100000 in
set_option maxHeartbeats 1000000 in
theorem eq_some (b off b' off' len cap cap' : Nat) (zs : List S) (w : World) (hz : zs.length = len) (h1 : len ≤ cap) (h2 : cap ≤ maxLen) (hbl : b < w.heap.size) (hr : Reads w b off zs) (h1' : len ≤ cap') (h2' : cap' ≤ maxLen) (hbl' : b' < w.heap.size) (hr' : Reads w b' off' zs) :
    Calls Try.prog 15 #[.slice (some ⟨b, off, none⟩) len cap, .slice (some ⟨b', off', none⟩) len cap'] w fun e w' => e = .returned (.bool true) ∧ Below w.heap.size w w' := by
  unfold maxLen at h2 h2'
  go_enter Try.func15, Try.ntmps15
  go_wp2
  go_loopw [5] (fun i wr => ∃ (k : Nat), k ≤ len ∧ i = .int .i64 k ∧ Below w.heap.size w wr) (fun i _ => len - (intOf i).toNat)
  case atStart => exact ⟨0, Nat.zero_le _, rfl, Below.refl _ _⟩
  case round =>
    obtain ⟨k, hk, rfl, hbel⟩ := hrel
    have hsz := hbel.size
    by_cases hlt : k < len
    · obtain ⟨T, hT⟩ : ∃ T, T = (at' zs k).1 := ⟨_, rfl⟩
      obtain ⟨V, hV⟩ : ∃ V, V = (at' zs k).2 := ⟨_, rfl⟩
      have hq0 : ∀ x : Cls wr.heap.size wr, x.val.cell? ⟨b, off + k * 2, none⟩ = some (.int .i64 T) := fun x => by rw [x.cell (by omega), hT]; exact (hbel.cell (p := ⟨b, _, none⟩) hbl).trans (hr k (by omega)).1
      have hq1 : ∀ x : Cls wr.heap.size wr, x.val.cell? ⟨b, off + k * 2 + 1, none⟩ = some (.int .i64 V) := fun x => by rw [x.cell (by omega), hV]; exact (hbel.cell (p := ⟨b, _, none⟩) hbl).trans (hr k (by omega)).2
      have hp0 : ∀ x : Cls wr.heap.size wr, x.val.cell? ⟨b', off' + k * 2, none⟩ = some (.int .i64 T) := fun x => by rw [x.cell (by omega), hT]; exact (hbel.cell (p := ⟨b', _, none⟩) hbl').trans (hr' k (by omega)).1
      have hp1 : ∀ x : Cls wr.heap.size wr, x.val.cell? ⟨b', off' + k * 2 + 1, none⟩ = some (.int .i64 V) := fun x => by rw [x.cell (by omega), hV]; exact (hbel.cell (p := ⟨b', _, none⟩) hbl').trans (hr' k (by omega)).2
      have hk0 : (0 : Int) ≤ (k : Int) := Int.natCast_nonneg _
      have hk1 : (k : Int) < (len : Int) := by omega
      clear hT hV
      have hne := cls_nonempty wr.heap.size wr
      go_wp2_with fail
      refine region_cls (by kernel_rfl) (by kernel_rfl) ?_
      repeat (go_big_quiet_step ((go_at_call 39; exact cls_call (Nat.le_refl _) (eq_one _ _ _))))
      refine wpQuiet_nil ?_
      rintro _ ⟨⟨wq, hq⟩, rfl⟩
      go_wp2
      go_roundw
      case rel => exact ⟨k + 1, by omega, by go_num, hbel.trans (hq.mono hsz)⟩
      case measure => simp [intOf]; omega
    · go_wp2
      go_ret
      exact ⟨rfl, hbel⟩
theorem eq_any {v u : Value} {zs : List S} {w : World} (h : Smp w v zs) (h' : Smp w u zs) : Calls Try.prog 15 #[v, u] w fun e w' => e = .returned (.bool true) ∧ Below w.heap.size w w' := by
  rcases h with ⟨rfl, rfl⟩ | ⟨b, off, cap, rfl, h2, h3, h4, h5⟩
  · rcases h' with ⟨rfl, _⟩ | ⟨b', off', cap', rfl, _, _, _, _⟩
    · exact eq_zero _ _ _ _ w
    · exact eq_zero _ _ _ _ w
  · rcases h' with ⟨rfl, rfl⟩ | ⟨b', off', cap', rfl, g2, g3, g4, g5⟩
    · exact eq_zero _ _ _ _ w
    · exact eq_some b off b' off' _ cap cap' zs w rfl h2 h3 h4 h5 g2 g3 g4 g5
/-- so many are left, or none -/
theorem sz_any (a : Option Addr) (len cap : Nat) (left : Int) (w : World) (h : len ≤ 9223372036854775807) (h1 : 0 ≤ left) (h2 : left ≤ 1048576) :
    Calls Try.prog 11 #[.slice a len cap, .int .i64 left] w fun e w' => e = .returned (.int .i64 (if left - len < 0 then -1 else left - len)) ∧ w' = w := by
  by_cases hl : left - len < 0
  · rw [if_pos hl]
    go_enter Try.func11, Try.ntmps11
    go_wp2
    go_ret
    exact ⟨rfl, rfl⟩
  · rw [if_neg hl]
    go_enter Try.func11, Try.ntmps11
    go_wp2
    go_ret
    exact ⟨rfl, rfl⟩
end Go.Proofs.Ytogdllkbiibicaa.Samp

/- Marking samples of the call's own, and looking whether the marks are still there. -/
namespace Go.Proofs.Ytogdllkbiibicaa.Samp
open Go.RowKit SampMath Rw
set_option linter.unusedVariables false
attribute [local go_sem ↓] Go.wp_at_zero Go.wp_at_succ
def marks (k0 : Int) (n : Nat) : List S := (List.range n).map fun i : Nat => (k0 + 2 * (i : Int), k0 + 2 * (i : Int) + 1)
theorem marks_length (k0 : Int) (n : Nat) : (marks k0 n).length = n := by simp [marks]
theorem marks_succ (k0 : Int) (n : Nat) : marks k0 (n + 1) = marks k0 n ++ [(k0 + 2 * (n : Int), k0 + 2 * (n : Int) + 1)] := by simp [marks, List.range_succ]
theorem marks_at (k0 : Int) (n i : Nat) (h : i < n) : at' (marks k0 n) i = (k0 + 2 * (i : Int), k0 + 2 * (i : Int) + 1) := by simp [marks, at', List.getD, h]
theorem smp_only {g : Nat} {a b : World} (h : OnlyAt g a b) {v : Value} {zs : List S} (hs : Smp a v zs) (hv : ∀ k, v.ownBlock = some k → k ≠ g) : Smp b v zs := by
  rcases hs with hs | ⟨c, off, cap, h1, h2, h3, h4, h5⟩
  · exact .inl hs
  · have hc : c ≠ g := hv c (by rw [h1]; rfl)
    have hcell : ∀ o, b.cell? ⟨c, o, none⟩ = a.cell? ⟨c, o, none⟩ := fun o => World.cell?_of_block (a := ⟨c, o, none⟩) (h.block c hc)
    exact .inr ⟨c, off, cap, h1, h2, h3, by rw [h.size]; exact h4, fun i hi => ⟨(hcell _).trans (h5 i hi).1, (hcell _).trans (h5 i hi).2⟩⟩
set_option maxRecDepth 100000 in
set_option maxHeartbeats 1000000 in
theorem mark_some (base g n cap : Nat) (zs : List S) (k0 : Int) (w : World) (hk1 : 0 ≤ k0) (hk2 : k0 ≤ 1000000000000) (hn : n ≤ 4194304) (hz : zs.length = n) (hown : w.ownsRow base 41 2 (.slice (some ⟨g, 0, none⟩) n cap) n (flat zs)) :
    Calls Try.prog 18 #[.slice (some ⟨g, 0, none⟩) n cap, .int .i64 k0] w fun e w' => e = .returned (.int .i64 (k0 + 2 * (n : Int))) ∧
      w'.ownsRow base 41 2 (.slice (some ⟨g, 0, none⟩) n cap) n (flat (marks k0 n)) ∧ OnlyAt g w w' := by
  go_enter Try.func18, Try.ntmps18
  go_wp2
  go_loopw [1, 5] (fun kv i wr => ∃ (j : Nat) (r : List Value), j ≤ n ∧ i = .int .i64 j ∧ kv = .int .i64 (k0 + 2 * (j : Int)) ∧ r.length = (n - j) * 2 ∧ wr.ownsRow base 41 2 (.slice (some ⟨g, 0, none⟩) n cap) n (flat (marks k0 j) ++ r) ∧ OnlyAt g w wr) (fun _ i _ => n - (intOf i).toNat)
  case atStart => exact ⟨0, flat zs, Nat.zero_le _, rfl, by simp, by rw [flat_length]; omega, by simpa [marks, flat] using hown, OnlyAt.refl _ _⟩
  case round =>
    obtain ⟨j, r, hj, rfl, rfl, hrl, ho, hon⟩ := hrel
    by_cases hlt : j < n
    · obtain ⟨u0, u1, B, rfl, hB⟩ := split_two r (n - j - 1) (by rw [hrl]; omega)
      have fl := flat_length (marks k0 j)
      rw [marks_length] at fl
      have hd0 : wr.cell? ⟨g, j * 2, none⟩ = some u0 := by rw [ho.cellAt (j * 2) (by omega)]; simp [fl]
      have hd1 : wr.cell? ⟨g, j * 2 + 1, none⟩ = some u1 := by rw [ho.cellAt (j * 2 + 1) (by omega)]; simp [fl]
      have hf0 := ho.frozenAt (j * 2)
      have hf1 := ho.frozenAt (j * 2 + 1)
      have h0 : (0 : Int) ≤ (j : Int) := Int.natCast_nonneg _
      have h1 : (j : Int) < (n : Int) := by omega
      have HE := hide fl
      clear fl
      have o1 := (ho.stored (j * 2) (.int .i64 (k0 + 2 * (j : Int)))).1
      have o2 := (o1.stored (j * 2 + 1) (.int .i64 (k0 + 2 * (j : Int) + 1))).1
      rw [set_two _ _ _ _ _ _ _ (unhide HE)] at o2
      have e2 : flat (marks k0 (j + 1)) = flat (marks k0 j) ++ [.int .i64 (k0 + 2 * (j : Int)), .int .i64 (k0 + 2 * (j : Int) + 1)] := by rw [marks_succ, flat_append, flat_one]
      rw [← e2] at o2
      have R := (hon.setCell (j * 2) (.int .i64 (k0 + 2 * (j : Int)))).setCell (j * 2 + 1) (.int .i64 (k0 + 2 * (j : Int) + 1))
      clear o1 e2 ho
      go_wp2
      go_roundw
      case rel => exact ⟨j + 1, B, by omega, by go_num, by go_num, by omega, o2, R⟩
      case measure => simp [intOf]; omega
    · obtain rfl : j = n := by omega
      obtain rfl : r = [] := List.eq_nil_of_length_eq_zero (by rw [hrl]; omega)
      rw [List.append_nil] at ho
      go_wp2
      go_ret
      exact ⟨rfl, ho, hon⟩
theorem mark_nil (k0 : Int) (w : World) : Calls Try.prog 18 #[.slice none 0 0, .int .i64 k0] w fun e w' => e = .returned (.int .i64 k0) ∧ w' = w := by
  go_enter Try.func18, Try.ntmps18
  go_wp2
  refine wp_loop_rounds 1 ?_
  rw [rounds_succ]
  go_wp2
  go_ret
  exact ⟨rfl, rfl⟩
theorem held_nil (k0 : Int) (w : World) : Calls Try.prog 19 #[.slice none 0 0, .int .i64 k0] w fun e w' => e = .returned (.int .i64 k0) ∧ w' = w := by
  go_enter Try.func19, Try.ntmps19
  go_wp2
  refine wp_loop_rounds 1 ?_
  rw [rounds_succ]
  go_wp2
  go_ret
  exact ⟨rfl, rfl⟩
set_option maxRecDepth 100000 in
set_option maxHeartbeats 1000000 in
theorem held_some (b off n cap : Nat) (k0 : Int) (w : World) (hk1 : 0 ≤ k0) (hk2 : k0 ≤ 1000000000000) (hn : n ≤ 4194304) (hr : Reads w b off (marks k0 n)) :
    Calls Try.prog 19 #[.slice (some ⟨b, off, none⟩) n cap, .int .i64 k0] w fun e w' => e = .returned (.int .i64 (k0 + 2 * (n : Int))) ∧ w' = w := by
  go_enter Try.func19, Try.ntmps19
  go_wp2
  go_loop [1, 5] (fun kv i => ∃ (j : Nat), j ≤ n ∧ i = .int .i64 j ∧ kv = .int .i64 (k0 + 2 * (j : Int))) (fun _ i => n - (intOf i).toNat)
  case atStart => exact ⟨0, Nat.zero_le _, rfl, by simp⟩
  case round =>
    obtain ⟨j, hj, rfl, rfl⟩ := hrel
    by_cases hlt : j < n
    · have hc := hr j (by rw [marks_length]; exact hlt)
      rw [marks_at k0 n j hlt] at hc
      obtain ⟨hc0, hc1⟩ := hc
      have h0 : (0 : Int) ≤ (j : Int) := Int.natCast_nonneg _
      have h1 : (j : Int) < (n : Int) := by omega
      go_wp2
      go_round
      case rel => exact ⟨j + 1, by omega, by go_num, by go_num⟩
      case measure => simp [intOf]; omega
    · obtain rfl : j = n := by omega
      go_wp2
      go_ret
      exact ⟨rfl, rfl⟩
/-- marks that are there are told, and new marks are laid, in a row of the call's own -/
theorem mark_any {base : Nat} {v : Value} {zs : List S} {w : World} (k0 : Int) (hk1 : 0 ≤ k0) (hk2 : k0 ≤ 1000000000000) (hn : zs.length ≤ 4194304) (hown : w.ownsRow base 41 2 v zs.length (flat zs)) :
    Calls Try.prog 18 #[v, .int .i64 k0] w fun e w' => e = .returned (.int .i64 (k0 + 2 * (zs.length : Int))) ∧
      w'.ownsRow base 41 2 v zs.length (flat (marks k0 zs.length)) ∧ Below base w w' ∧ w'.heap.size = w.heap.size ∧
      (∀ (u : Value) (ys : List S), Smp w u ys → (∀ k, u.ownBlock = some k → v.ownBlock ≠ some k) → Smp w' u ys) ∧
      (∀ (b' n' : Nat) (u : Value) (xs : List Value), w.ownsRow b' 41 2 u n' xs → (∀ k, u.ownBlock = some k → v.ownBlock ≠ some k) → w'.ownsRow b' 41 2 u n' xs) := by
  have hf := hown
  rcases hown.2 with ⟨h1, h2⟩ | ⟨g, cap, cur, h1, h2, hg, _⟩
  · subst h1
    obtain rfl : zs = [] := List.eq_nil_of_length_eq_zero h2
    refine (mark_nil k0 w).mono ?_
    rintro e w' ⟨rfl, rfl⟩
    exact ⟨ret_int (by simp), ⟨rfl, .inl ⟨rfl, rfl⟩⟩, Below.refl _ _, rfl, fun u ys h _ => h, fun b' n' u xs h _ => h⟩
  · subst h1
    refine (mark_some base g zs.length cap zs k0 w hk1 hk2 hn rfl hf).mono ?_
    rintro e w' ⟨rfl, ho, hon⟩
    exact ⟨rfl, ho, hon.below h2, hon.size, fun u ys h hne => smp_only hon h (fun k hk e => hne k hk (by rw [e]; rfl)), fun b' n' u xs h hne => hon.own h (fun k hk e => hne k hk (by rw [e]; rfl))⟩
theorem held_any {v : Value} {n : Nat} {w : World} (k0 : Int) (hk1 : 0 ≤ k0) (hk2 : k0 ≤ 1000000000000) (hn : n ≤ 4194304) (h : Smp w v (marks k0 n)) :
    Calls Try.prog 19 #[v, .int .i64 k0] w fun e w' => e = .returned (.int .i64 (k0 + 2 * (n : Int))) ∧ w' = w := by
  rcases h with ⟨rfl, h2⟩ | ⟨b, off, cap, rfl, _, _, _, h5⟩
  · have : n = 0 := by have := marks_length k0 n; rw [h2] at this; simpa using this.symm
    subst this
    refine (held_nil k0 w).mono ?_
    rintro e w' ⟨rfl, rfl⟩
    exact ⟨ret_int (by simp), rfl⟩
  · rw [marks_length]
    exact held_some b off n cap k0 w hk1 hk2 hn h5
theorem own_marks {base : Nat} {v : Value} {n : Nat} {k0 : Int} {w : World} (h : w.ownsRow base 41 2 v n (flat (marks k0 n))) : Smp w v (marks k0 n) := by
  exact smp_of_own (by rw [marks_length]; exact h)
end Go.Proofs.Ytogdllkbiibicaa.Samp
