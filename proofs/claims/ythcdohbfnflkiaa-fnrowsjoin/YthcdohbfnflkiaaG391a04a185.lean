/- My own texts of one claim, laid together by program: AlSamp, AlRows, WinMath2. -/
import Derived.Test.YthcdohbfnflkiaaGa7ba4cdec9
import Derived.Test.YthcdohbfnflkiaaG8187b0ec37
import Derived.Test.YthcdohbfnflkiaaG311d823920
import Derived.Test.YthcdohbfnflkiaaG0ef107225d
import Derived.Test.YthcdohbfnflkiaaG0556e437e9
import Derived.Test.YthcdohbfnflkiaaG854af48df4
/- Samples and times are drawn; the same samples are the same. -/
namespace Go.Proofs.Ythcdohbfnflkiaa.Draw
open Go.RowKit Samp SampMath Rw
set_option linter.unusedVariables false
attribute [local go_sem ↓] Go.wp_at_zero Go.wp_at_succ
set_option maxRecDepth 100000 in
set_option maxHeartbeats 2000000 in
theorem al_some (b off b' off' len cap cap' : Nat) (zs : List S) (w : World) (hz : zs.length = len) (h1 : len ≤ cap) (h2 : cap ≤ maxLen) (hbl : b < w.heap.size) (hr : Reads w b off zs) (h1' : len ≤ cap') (h2' : cap' ≤ maxLen) (hbl' : b' < w.heap.size) (hr' : Reads w b' off' zs) :
    Calls Try.prog 35 #[.slice (some ⟨b, off, none⟩) len cap, .slice (some ⟨b', off', none⟩) len cap'] w fun e w' => e = .returned (.bool true) ∧ Below w.heap.size w w' := by
  unfold maxLen at h2 h2'
  go_enter Try.func35, Try.ntmps35
  go_wp2_with fail
  go_loopw [5] (fun i wr => ∃ (k : Nat), k ≤ len ∧ i = .int .i64 k ∧ Below w.heap.size w wr) (fun i _ => len - (intOf i).toNat)
  case atStart => exact ⟨0, Nat.zero_le _, rfl, Below.refl _ _⟩
  case round =>
    obtain ⟨k, hk, rfl, hbel⟩ := hrel
    have hsz := hbel.size
    by_cases hlt : k < len
    · obtain ⟨T, hT⟩ : ∃ T, T = (at' zs k).1 := ⟨_, rfl⟩
      obtain ⟨V, hV⟩ : ∃ V, V = (at' zs k).2 := ⟨_, rfl⟩
      have hq0 : ∀ x : Cls wr.heap.size wr, x.val.cell? ⟨b, off + k * 2, none⟩ = some (.int .i64 T) := fun x => by rw [x.cell (by omega), hT]; exact (hbel.cell (p := ⟨b, _, none⟩) hbl).trans (hr k (by omega)).1
      have hq1 : ∀ x : Cls wr.heap.size wr, x.val.cell? ⟨b, off + k * 2 + 1, none⟩ = some (.int .i64 V) := fun x => by rw [x.cell (by omega), hV]; exact (hbel.cell (p := ⟨b, _, none⟩) hbl).trans (hr k (by omega)).2
      have hp0 : ∀ x : Cls wr.heap.size wr, x.val.cell? ⟨b', off' + k * 2, none⟩ = some (.int .i64 T) := fun x => by rw [x.cell (by omega), hT]; exact (hbel.cell (p := ⟨b', _, none⟩) hbl').trans (hr' k (by omega)).1
      have hp1 : ∀ x : Cls wr.heap.size wr, x.val.cell? ⟨b', off' + k * 2 + 1, none⟩ = some (.int .i64 V) := fun x => by rw [x.cell (by omega), hV]; exact (hbel.cell (p := ⟨b', _, none⟩) hbl').trans (hr' k (by omega)).2
      have hk0 : (0 : Int) ≤ (k : Int) := Int.natCast_nonneg _
      have hk1 : (k : Int) < (len : Int) := by omega
      clear hT hV
      have hne := cls_nonempty wr.heap.size wr
      go_wp2_with fail
      refine region_cls (by kernel_rfl) (by kernel_rfl) ?_
      repeat (go_big_quiet_step ((fail)))
      refine wpQuiet_nil ?_
      rintro wq ⟨⟨_, hq⟩, rfl⟩
      go_wp2
      go_roundw
      case rel => exact ⟨k + 1, by omega, by go_num, hbel.trans (hq.mono hsz)⟩
      case measure => simp [intOf]; omega
    · go_wp2
      go_ret
      exact ⟨rfl, hbel⟩
theorem al_zero (a a' : Option Addr) (c c' : Nat) (w : World) : Calls Try.prog 35 #[.slice a 0 c, .slice a' 0 c'] w fun e w' => e = .returned (.bool true) ∧ Below w.heap.size w w' := by
  go_enter Try.func35, Try.ntmps35
  go_wp2
  refine wp_loop_rounds 1 ?_
  rw [rounds_succ]
  go_wp2
  go_ret
  exact ⟨rfl, Below.refl _ _⟩
theorem al_same {v u : Value} {zs : List S} {w : World} (h : Smp w v zs) (h' : Smp w u zs) : Calls Try.prog 35 #[v, u] w fun e w' => e = .returned (.bool true) ∧ Below w.heap.size w w' := by
  rcases h with ⟨rfl, rfl⟩ | ⟨b, off, cap, rfl, h2, h3, h4, h5⟩
  · rcases h' with ⟨rfl, _⟩ | ⟨b', off', cap', rfl, _, _, _, _⟩
    · exact al_zero _ _ _ _ w
    · exact al_zero _ _ _ _ w
  · rcases h' with ⟨rfl, rfl⟩ | ⟨b', off', cap', rfl, g2, g3, g4, g5⟩
    · exact al_zero _ _ _ _ w
    · exact al_some b off b' off' _ cap cap' zs w rfl h2 h3 h4 h5 g2 g3 g4 g5
end Go.Proofs.Ythcdohbfnflkiaa.Draw

/- Rows are told to be the same; how many samples there are. -/
namespace Go.Proofs.Ythcdohbfnflkiaa.Row
open Go.RowKit Rw
set_option linter.unusedVariables false
attribute [local go_sem ↓] Go.wp_at_zero Go.wp_at_succ
theorem al_lab {v u : Value} {zs : List Lab.E} {w : World} (h : Lab.Is w v zs) (h' : Lab.Is w u zs) : Calls Try.prog 34 #[v, u] w fun e w' => e = .returned (.bool true) ∧ Below w.heap.size w w' :=
  (Lab.al_any h h').mono fun e w' ⟨R, h1, h2, h3⟩ => ⟨by rw [h1, h2.2 rfl], h3⟩
theorem al_sam {v u : Value} {zs : List Sam.E} {w : World} (h : Sam.Is w v zs) (h' : Sam.Is w u zs) : Calls Try.prog 35 #[v, u] w fun e w' => e = .returned (.bool true) ∧ Below w.heap.size w w' := by
  by_cases h0 : zs = []
  · subst h0
    obtain ⟨-, a, cap, rfl, -⟩ := h
    obtain ⟨-, a', cap', rfl, -⟩ := h'
    exact Draw.al_zero a a' cap cap' w
  · exact Draw.al_same (smp_of_lies h h0) (smp_of_lies h' h0)
set_option maxRecDepth 100000 in
set_option maxHeartbeats 4000000 in
theorem al_rows {v u : Value} {zs : List E} {w : World} (h : Is w v zs) (h' : Is w u zs) : Calls Try.prog 9 #[v, u] w fun e w' => e = .returned (.bool true) ∧ Below w.heap.size w w' := by
  obtain ⟨cs, hcs, hL, hE⟩ := h
  obtain ⟨ds, hds, hL', hE'⟩ := h'
  have HE := hide hE
  have HE' := hide hE'
  obtain ⟨-, a, cap, rfl, hc, hm, -, hr⟩ := hL
  obtain ⟨-, a', cap', rfl, hc', hm', -, hr'⟩ := hL'
  unfold maxLen at hm hm'
  obtain ⟨n, hn⟩ : ∃ n, n = zs.length := ⟨_, rfl⟩
  rw [← hn] at hc hr hc' hr' hcs hds ⊢
  have HN := hide hn
  have HC := hide hcs
  have HD := hide hds
  clear hn hE hE' hcs hds
  go_enter Try.func9, Try.ntmps9
  go_wp2
  go_loopw [5] (fun i wr => ∃ (j : Nat), j ≤ n ∧ i = .int .i64 j ∧ Below w.heap.size w wr) (fun i _ => n - (intOf i).toNat)
  case atStart => exact ⟨0, Nat.zero_le _, rfl, Below.refl _ _⟩
  case round =>
    obtain ⟨j, hj, rfl, hbel⟩ := hrel
    have hsz := hbel.size
    by_cases hlt : j < n
    · obtain ⟨b, off, rfl, hl, hcells⟩ := hr (by omega)
      obtain ⟨b', off', rfl, hl', hcells'⟩ := hr' (by omega)
      have fa := flat_at cs j (by have := unhide HC; omega)
      have fb := flat_at ds j (by have := unhide HD; omega)
      have hE1 := unhide HE j (by have := unhide HN; omega)
      have hE2 := unhide HE' j (by have := unhide HN; omega)
      have HO1 := hide (fun x : Cls wr.heap.size wr => al_lab ((hE1.1.below hbel).below x.isBelow) ((hE2.1.below hbel).below x.isBelow))
      have HO2 := hide (fun x : Cls wr.heap.size wr => al_sam ((hE1.2.below hbel).below x.isBelow) ((hE2.2.below hbel).below x.isBelow))
      obtain ⟨c0, c1, hX⟩ : ∃ c0 c1, (c0, c1) = cat cs j := ⟨_, _, rfl⟩
      obtain ⟨d0, d1, hY⟩ : ∃ d0 d1, (d0, d1) = cat ds j := ⟨_, _, rfl⟩
      rw [← hX] at fa HO1 HO2
      rw [← hY] at fb HO1 HO2
      have hq0 : ∀ x : Cls wr.heap.size wr, x.val.cell? ⟨b, off + j * 2, none⟩ = some c0 := fun x => by rw [x.cell (by omega)]; exact (hbel.cell (p := ⟨b, _, none⟩) hl).trans (hcells (j * 2) _ fa.1)
      have hp0 : ∀ x : Cls wr.heap.size wr, x.val.cell? ⟨b', off' + j * 2, none⟩ = some d0 := fun x => by rw [x.cell (by omega)]; exact (hbel.cell (p := ⟨b', _, none⟩) hl').trans (hcells' (j * 2) _ fb.1)
      have hq1 : ∀ x : Cls wr.heap.size wr, x.val.cell? ⟨b, off + j * 2 + 1, none⟩ = some c1 := fun x => by rw [x.cell (by omega)]; exact (hbel.cell (p := ⟨b, _, none⟩) hl).trans (hcells (j * 2 + 1) _ fa.2)
      have hp1 : ∀ x : Cls wr.heap.size wr, x.val.cell? ⟨b', off' + j * 2 + 1, none⟩ = some d1 := fun x => by rw [x.cell (by omega)]; exact (hbel.cell (p := ⟨b', _, none⟩) hl').trans (hcells' (j * 2 + 1) _ fb.2)
      have hk0 : (0 : Int) ≤ (j : Int) := Int.natCast_nonneg _
      have hk1 : (j : Int) < (n : Int) := by omega
      clear hX hY fa fb hE1 hE2
      have hne := cls_nonempty wr.heap.size wr
      go_wp2_with fail
      refine region_cls (by kernel_rfl) (by kernel_rfl) ?_
      repeat (go_big_quiet_step ((first | (go_at_call 34; exact cls_call (Nat.le_refl _) (unhide HO1 _)) | (go_at_call 35; exact cls_call (Nat.le_refl _) (unhide HO2 _)))))
      refine wpQuiet_nil ?_
      rintro w2 ⟨⟨_, hq⟩, rfl⟩
      have R := hbel.trans (hq.mono hsz)
      clear hq0 hp0 hq1 hp1 hne HO1 HO2
      go_wp2_with fail
      go_roundw
      case rel => exact ⟨j + 1, by omega, by go_num, R⟩
      case measure => simp [intOf]; omega
    · obtain rfl : j = n := by omega
      go_wp2
      go_ret
      exact ⟨rfl, hbel⟩
end Go.Proofs.Ythcdohbfnflkiaa.Row

/- By how much samples rose, in two parts. No condition. -/
namespace Go.Proofs.Ythcdohbfnflkiaa.SampMath
theorem ok_sub {zs ys : List S} (h : ok zs = true) (hs : ys.Sublist zs) : ok ys = true := by
  rw [Samp.ok_iff] at h ⊢
  exact ⟨fun z hz => h.1 z (hs.subset hz), h.2.sublist hs⟩
theorem at_take {zs : List S} {k i : Nat} (h : i < k) : at' (zs.take k) i = at' zs i := by
  simp [at', List.getD, h]
theorem at_drop (zs : List S) (k i : Nat) : at' (zs.drop k) i = at' zs (k + i) := by
  simp [at', List.getD, List.getElem?_drop]
theorem up_take {zs : List S} {k i : Nat} (h : i < k) : up (zs.take k) i = up zs i := by
  unfold up; rw [at_take h, at_take (by omega)]
theorem upTo_take {zs : List S} {k : Nat} : ∀ j, j ≤ k → upTo (zs.take k) j = upTo zs j := by
  intro j
  induction j with
  | zero => intro _; rfl
  | succ j ih =>
    intro h
    by_cases h0 : j = 0
    · subst h0; rfl
    · rw [upTo_succ _ _ (by omega), upTo_succ _ _ (by omega), ih (by omega), up_take (by omega)]
theorem up_drop (zs : List S) (m i : Nat) (h : 0 < i) : up (zs.drop m) i = up zs (m + i) := by
  unfold up; rw [at_drop, at_drop, show m + (i - 1) = m + i - 1 by omega]
theorem upTo_drop (zs : List S) (m : Nat) : ∀ j, upTo (zs.drop m) (j + 1) = upTo zs (m + j + 1) - upTo zs (m + 1) := by
  intro j
  induction j with
  | zero => rw [upTo_one]; simp
  | succ j ih => rw [upTo_succ _ _ (by omega), ih, up_drop _ _ _ (by omega), show m + (j + 1) + 1 = (m + j + 1) + 1 by omega, upTo_succ zs (m + j + 1) (by omega), show m + (j + 1) = m + j + 1 by omega]; omega
theorem rises_ok {zs : List S} (h : ok zs = true) : rises zs = upTo zs zs.length := by unfold rises; rw [h]; rfl
theorem rises_parts {zs : List S} (h : ok zs = true) {k : Nat} (h1 : 1 ≤ k) (h2 : k < zs.length) : rises zs = rises (zs.take k) + rises (zs.drop (k - 1)) := by
  rw [rises_ok h, rises_ok (ok_sub h (List.take_sublist _ _)), rises_ok (ok_sub h (List.drop_sublist _ _))]
  rw [List.length_take, List.length_drop, Nat.min_eq_left (by omega), upTo_take k (Nat.le_refl _)]
  obtain ⟨j, hj⟩ : ∃ j, zs.length - (k - 1) = j + 1 := ⟨zs.length - (k - 1) - 1, by omega⟩
  rw [hj, upTo_drop, show k - 1 + j + 1 = zs.length by omega, show k - 1 + 1 = k by omega]
  omega
theorem rises_range {zs : List S} (h : ok zs = true) : 0 ≤ rises zs ∧ rises zs ≤ 21474836470000 := by
  rw [rises_ok h]
  have := upTo_range h zs.length (Nat.le_refl _)
  have := ok_len h
  omega
theorem upTo_ends {zs : List S} (h : ok zs = true) : ∀ j, j < zs.length → (at' zs j).2 - (at' zs 0).2 ≤ upTo zs (j + 1) := by
  intro j
  induction j with
  | zero => intro _; rw [upTo_one]; omega
  | succ j ih =>
    intro hj
    have a := ih (by omega)
    have b := ok_range h hj
    have c := ok_range h (k := j) (by omega)
    rw [upTo_succ zs (j + 1) (by omega)]
    unfold up
    rw [Nat.add_sub_cancel]
    split <;> omega
theorem rises_ends {zs : List S} (h : ok zs = true) (h0 : 0 < zs.length) : (at' zs (zs.length - 1)).2 - (at' zs 0).2 ≤ rises zs := by
  rw [rises_ok h]
  have := upTo_ends h (zs.length - 1) (by omega)
  rwa [show zs.length - 1 + 1 = zs.length by omega] at this
end Go.Proofs.Ythcdohbfnflkiaa.SampMath
