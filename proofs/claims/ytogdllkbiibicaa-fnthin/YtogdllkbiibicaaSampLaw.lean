/- What the laws' own helpers do with slices of samples: they are copied, held against each other, marked and looked at again. -/
import Derived.Test.YtogdllkbiibicaaSampFlat
namespace Go.Proofs.Ytogdllkbiibicaa.Samp
open Go.RowKit SampMath Rw
set_option linter.unusedVariables false
attribute [local go_sem ↓] Go.wp_at_zero Go.wp_at_succ
theorem to_one (t v : Int) (w : World) : Calls Try.prog 37 #[.agg #[.int .i64 t, .int .i64 v]] w fun e w' => e = .returned (.agg #[.int .i64 t, .int .i64 v]) ∧ Below w.heap.size w w' := by
  go_enter Try.func37, Try.ntmps37
  go_wp2
  refine bodyPost_ret (v := .agg #[.int .i64 t, .int .i64 v]) (by simp [results, Try.results37, go_sem]) rfl ⟨rfl, ?_⟩
  exact (((Below.refl _ _).alloc (Nat.le_refl _) _).alloc (by simp) _).alloc (by simp; omega) _
set_option maxRecDepth 100000 in
set_option maxHeartbeats 1000000 in
theorem to_some (b off len cap : Nat) (zs : List S) (w : World) (hz : zs.length = len) (hc : len ≤ cap) (hm : cap ≤ maxLen) (hlen : len ≤ 2097152) (hbl : b < w.heap.size) (hr : Reads w b off zs) :
    Calls Try.prog 13 #[.slice (some ⟨b, off, none⟩) len cap] w fun e w' => e = .returned (.slice (some ⟨w.heap.size, 0, none⟩) len len) ∧
      w'.ownsRow w.heap.size 41 2 (.slice (some ⟨w.heap.size, 0, none⟩) len len) len (flat zs) ∧ Below w.heap.size w w' := by
  obtain ⟨i0, hi, hz0, hz1, hz2⟩ := info_parts info_sample
  unfold maxLen at hm
  go_enter Try.func13, Try.ntmps13
  go_wp2_with (at_make; refine wpList_make_full _ rfl _ _ _ rfl w.heap.size 41 i0 (.agg #[.int .i64 0, .int .i64 0]) 2 Try.underlying25 hi hz0 hz1 .i64 .i64 _ _ len rfl rfl rfl rfl (by rw [hz2]; omega) (by unfold maxLen; omega) (Nat.le_refl _) ?_; intro w1 hown1 hgrow1)
  go_loopw [4] (fun i wr => ∃ (k : Nat) (r : List Value), k ≤ len ∧ i = .int .i64 k ∧ r.length = (len - k) * 2 ∧ wr.ownsRow w.heap.size 41 2 (.slice (some ⟨w.heap.size, 0, none⟩) len len) len (flat (zs.take k) ++ r) ∧ Below w.heap.size w wr) (fun i _ => len - (intOf i).toNat)
  case atStart =>
    refine ⟨0, _, Nat.zero_le _, rfl, ?_, hown1, below_grown (Below.refl _ _) (Nat.le_refl _) hgrow1 (by simp)⟩
    have := hown1.1
    simpa using this
  case round =>
    obtain ⟨k, r, hk, rfl, hrl, hown, hbel⟩ := hrel
    have hsz := own_lt hown
    by_cases hlt : k < len
    · obtain ⟨u0, u1, B, rfl, hB⟩ := split_two r (len - k - 1) (by rw [hrl]; omega)
      have hc0 : wr.cell? ⟨b, off + k * 2, none⟩ = some (.int .i64 (at' zs k).1) := (hbel.cell (p := ⟨b, _, none⟩) hbl).trans (hr k (by omega)).1
      have hc1 : wr.cell? ⟨b, off + k * 2 + 1, none⟩ = some (.int .i64 (at' zs k).2) := (hbel.cell (p := ⟨b, _, none⟩) hbl).trans (hr k (by omega)).2
      have fl := flat_length (zs.take k)
      have tl : (zs.take k).length = k := by simp; omega
      have hd0 : wr.cell? ⟨w.heap.size, k * 2, none⟩ = some u0 := by rw [hown.cellAt (k * 2) (by omega)]; simp [fl, tl]
      have hd1 : wr.cell? ⟨w.heap.size, k * 2 + 1, none⟩ = some u1 := by rw [hown.cellAt (k * 2 + 1) (by omega)]; simp [fl, tl]
      have hf0 := hown.frozenAt (k * 2)
      have hf1 := hown.frozenAt (k * 2 + 1)
      have hk0 : (0 : Int) ≤ (k : Int) := Int.natCast_nonneg _
      have hk1 : (k : Int) < (len : Int) := by omega
      have HE := hide (show (flat (zs.take k)).length = k * 2 by rw [fl, tl])
      have HS := hide (at_snoc zs k (by omega))
      obtain ⟨T, hT⟩ : ∃ T, T = (at' zs k).1 := ⟨_, rfl⟩
      obtain ⟨V, hV⟩ : ∃ V, V = (at' zs k).2 := ⟨_, rfl⟩
      rw [← hT] at hc0
      rw [← hV] at hc1
      have HT := hide hT
      have HV := hide hV
      clear fl tl hT hV
      go_wp2_with (go_at_call 37; refine (to_one _ _ _).mono ?_; rintro e w2 ⟨rfl, hb2⟩; obtain ⟨bc, bf⟩ := bcell hb2)
      have o1 := ((own_below hown hb2).stored (k * 2) (.int .i64 T)).1
      have o2 := (o1.stored (k * 2 + 1) (.int .i64 V)).1
      rw [set_two _ _ _ _ _ _ _ (unhide HE)] at o2
      have e2 : flat (zs.take (k + 1)) = flat (zs.take k) ++ [.int .i64 T, .int .i64 V] := by rw [unhide HS, flat_append, flat_one, unhide HT, unhide HV]
      rw [← e2] at o2
      have R := ((hbel.trans (hb2.mono (by omega))).setCell (p := ⟨w.heap.size, k * 2, none⟩) (Nat.le_refl _) (.int .i64 T)).setCell (p := ⟨w.heap.size, k * 2 + 1, none⟩) (Nat.le_refl _) (.int .i64 V)
      clear o1 e2 hown bc bf hd0 hd1 hf0 hf1
      go_roundw
      case rel => exact ⟨k + 1, B, by omega, by go_num, by omega, o2, R⟩
      case measure => simp [intOf]; omega
    · obtain rfl : k = len := by omega
      obtain rfl : r = [] := List.eq_nil_of_length_eq_zero (by rw [hrl]; omega)
      rw [List.append_nil, List.take_of_length_le (by omega)] at hown
      go_wp2
      go_ret
      exact ⟨rfl, hown, hbel⟩
set_option maxHeartbeats 1000000 in
theorem to_zero (a : Option Addr) (cap : Nat) (w : World) :
    Calls Try.prog 13 #[.slice a 0 cap] w fun e w' => e = .returned (.slice (some ⟨w.heap.size, 0, none⟩) 0 0) ∧
      w'.ownsRow w.heap.size 41 2 (.slice (some ⟨w.heap.size, 0, none⟩) 0 0) 0 (flat []) ∧ Below w.heap.size w w' := by
  obtain ⟨i0, hi, hz0, hz1, hz2⟩ := info_parts info_sample
  go_enter Try.func13, Try.ntmps13
  go_wp2_with (at_make; refine wpList_make_full _ rfl _ _ _ rfl w.heap.size 41 i0 (.agg #[.int .i64 0, .int .i64 0]) 2 Try.underlying25 hi hz0 hz1 .i64 .i64 _ _ 0 rfl rfl rfl rfl (by omega) (by unfold maxLen; omega) (Nat.le_refl _) ?_; intro w1 hown1 hgrow1)
  refine wp_loop_rounds 1 ?_
  rw [rounds_succ]
  go_wp2
  go_ret
  have e0 : (madeCells (Value.agg #[Value.int IntKind.i64 0, Value.int IntKind.i64 0]).cells (0 * 2)).toList = flat [] := by simp [madeCells, flat]
  rw [e0] at hown1
  exact ⟨rfl, hown1, below_grown (Below.refl _ _) (Nat.le_refl _) hgrow1 (by simp)⟩
/-- a slice that came in, copied: new memory of the call's own -/
theorem to_any {a : Option Addr} {len cap : Nat} {z : List S} (w w0 : World) (h : IsPairs w0 a len cap z) (hlen : len ≤ 2097152) (hb : Below w0.heap.size w0 w) :
    Calls Try.prog 13 #[.slice a len cap] w fun e w' => e = .returned (.slice (some ⟨w.heap.size, 0, none⟩) len len) ∧
      w'.ownsRow w.heap.size 41 2 (.slice (some ⟨w.heap.size, 0, none⟩) len len) (z.take len).length (flat (z.take len)) ∧ Below w.heap.size w w' := by
  obtain ⟨h1, h2, h3, h4⟩ := pairs_at h
  rcases h4 with rfl | ⟨b, off, rfl, hbl, hr⟩
  · have e : z.take 0 = [] := rfl
    rw [e]
    exact to_zero a cap w
  · rw [h3]
    exact to_some b off len cap (z.take len) w h3 h1 h2 hlen (by have := hb.size; omega) (hr.below hb hbl)
theorem eq_one (t v : Int) (w : World) : Calls Try.prog 39 #[.agg #[.int .i64 t, .int .i64 v], .agg #[.int .i64 t, .int .i64 v]] w fun e w' => e = .returned (.bool true) ∧ Below w.heap.size w w' := by
  go_enter Try.func39, Try.ntmps39
  go_wp2
  go_ret
  exact ⟨rfl, ((Below.refl _ _).alloc (Nat.le_refl _) _).alloc (by simp) _⟩
theorem eq_zero (a a' : Option Addr) (c c' : Nat) (w : World) : Calls Try.prog 15 #[.slice a 0 c, .slice a' 0 c'] w fun e w' => e = .returned (.bool true) ∧ Below w.heap.size w w' := by
  go_enter Try.func15, Try.ntmps15
  go_wp2
  refine wp_loop_rounds 1 ?_
  rw [rounds_succ]
  go_wp2
  go_ret
  exact ⟨rfl, Below.refl _ _⟩
set_option maxRecDepth 100000 in
set_option maxHeartbeats 1000000 in
theorem eq_some (b off b' off' len cap cap' : Nat) (zs : List S) (w : World) (hz : zs.length = len) (h1 : len ≤ cap) (h2 : cap ≤ maxLen) (hbl : b < w.heap.size) (hr : Reads w b off zs) (h1' : len ≤ cap') (h2' : cap' ≤ maxLen) (hbl' : b' < w.heap.size) (hr' : Reads w b' off' zs) :
    Calls Try.prog 15 #[.slice (some ⟨b, off, none⟩) len cap, .slice (some ⟨b', off', none⟩) len cap'] w fun e w' => e = .returned (.bool true) ∧ Below w.heap.size w w' := by
  unfold maxLen at h2 h2'
  go_enter Try.func15, Try.ntmps15
  go_wp2
  go_loopw [5] (fun i wr => ∃ (k : Nat), k ≤ len ∧ i = .int .i64 k ∧ Below w.heap.size w wr) (fun i _ => len - (intOf i).toNat)
  case atStart => exact ⟨0, Nat.zero_le _, rfl, Below.refl _ _⟩
  case round =>
    obtain ⟨k, hk, rfl, hbel⟩ := hrel
    have hsz := hbel.size
    by_cases hlt : k < len
    · obtain ⟨T, hT⟩ : ∃ T, T = (at' zs k).1 := ⟨_, rfl⟩
      obtain ⟨V, hV⟩ : ∃ V, V = (at' zs k).2 := ⟨_, rfl⟩
      have hq0 : ∀ x : Cls wr.heap.size wr, x.val.cell? ⟨b, off + k * 2, none⟩ = some (.int .i64 T) := fun x => by rw [x.cell (by omega), hT]; exact (hbel.cell (p := ⟨b, _, none⟩) hbl).trans (hr k (by omega)).1
      have hq1 : ∀ x : Cls wr.heap.size wr, x.val.cell? ⟨b, off + k * 2 + 1, none⟩ = some (.int .i64 V) := fun x => by rw [x.cell (by omega), hV]; exact (hbel.cell (p := ⟨b, _, none⟩) hbl).trans (hr k (by omega)).2
      have hp0 : ∀ x : Cls wr.heap.size wr, x.val.cell? ⟨b', off' + k * 2, none⟩ = some (.int .i64 T) := fun x => by rw [x.cell (by omega), hT]; exact (hbel.cell (p := ⟨b', _, none⟩) hbl').trans (hr' k (by omega)).1
      have hp1 : ∀ x : Cls wr.heap.size wr, x.val.cell? ⟨b', off' + k * 2 + 1, none⟩ = some (.int .i64 V) := fun x => by rw [x.cell (by omega), hV]; exact (hbel.cell (p := ⟨b', _, none⟩) hbl').trans (hr' k (by omega)).2
      have hk0 : (0 : Int) ≤ (k : Int) := Int.natCast_nonneg _
      have hk1 : (k : Int) < (len : Int) := by omega
      clear hT hV
      have hne := cls_nonempty wr.heap.size wr
      go_wp2_with fail
      refine region_cls (by kernel_rfl) (by kernel_rfl) ?_
      repeat (go_big_quiet_step ((go_at_call 39; exact cls_call (Nat.le_refl _) (eq_one _ _ _))))
      refine wpQuiet_nil ?_
      rintro _ ⟨⟨wq, hq⟩, rfl⟩
      go_wp2
      go_roundw
      case rel => exact ⟨k + 1, by omega, by go_num, hbel.trans (hq.mono hsz)⟩
      case measure => simp [intOf]; omega
    · go_wp2
      go_ret
      exact ⟨rfl, hbel⟩
theorem eq_any {v u : Value} {zs : List S} {w : World} (h : Smp w v zs) (h' : Smp w u zs) : Calls Try.prog 15 #[v, u] w fun e w' => e = .returned (.bool true) ∧ Below w.heap.size w w' := by
  rcases h with ⟨rfl, rfl⟩ | ⟨b, off, cap, rfl, h2, h3, h4, h5⟩
  · rcases h' with ⟨rfl, _⟩ | ⟨b', off', cap', rfl, _, _, _, _⟩
    · exact eq_zero _ _ _ _ w
    · exact eq_zero _ _ _ _ w
  · rcases h' with ⟨rfl, rfl⟩ | ⟨b', off', cap', rfl, g2, g3, g4, g5⟩
    · exact eq_zero _ _ _ _ w
    · exact eq_some b off b' off' _ cap cap' zs w rfl h2 h3 h4 h5 g2 g3 g4 g5
/-- so many are left, or none -/
theorem sz_any (a : Option Addr) (len cap : Nat) (left : Int) (w : World) (h : len ≤ 9223372036854775807) (h1 : 0 ≤ left) (h2 : left ≤ 1048576) :
    Calls Try.prog 11 #[.slice a len cap, .int .i64 left] w fun e w' => e = .returned (.int .i64 (if left - len < 0 then -1 else left - len)) ∧ w' = w := by
  by_cases hl : left - len < 0
  · rw [if_pos hl]
    go_enter Try.func11, Try.ntmps11
    go_wp2
    go_ret
    exact ⟨rfl, rfl⟩
  · rw [if_neg hl]
    go_enter Try.func11, Try.ntmps11
    go_wp2
    go_ret
    exact ⟨rfl, rfl⟩
end Go.Proofs.Ytogdllkbiibicaa.Samp
