/- My own texts of one claim, laid together by program: WinRise, DrawWin. -/
import Derived.Test.YtogdllkbiibicaaGb52c530028
import Derived.Test.YtogdllkbiibicaaG0a6b50ee67
/- What Rises answers, of the program and of the model, at every slice of samples. -/
namespace Go.Proofs.Ytogdllkbiibicaa.Sam
open Go.RowKit Rw
set_option linter.unusedVariables false
attribute [local go_sem ↓] Go.wp_at_zero Go.wp_at_succ
theorem sat_eq (zs : List E) (i : Nat) : SampMath.at' zs i = at' zs i := rfl
/-- the cell of a number, wherever it is asked for -/
theorem v_cell {w wr : World} {a : Option Addr} {n cap : Nat} {zs : List E} (h : Is w (.slice a n cap) zs) (hb : Below w.heap.size w wr) (h0 : 0 < n) (hn : n = zs.length) :
    ∃ b off, a = some ⟨b, off, none⟩ ∧ b < w.heap.size ∧ ∀ i, i < n → wr.cell? ⟨b, off + i * 2, none⟩ = some (.int .i64 (SampMath.at' zs i).1) ∧ wr.cell? ⟨b, off + i * 2 + 1, none⟩ = some (.int .i64 (SampMath.at' zs i).2) := by
  obtain ⟨-, a', cap', h1, -, -, -, hr⟩ := h
  simp only [Value.slice.injEq] at h1
  obtain ⟨rfl, -, rfl⟩ := h1
  obtain ⟨b, off, e, hl, hc⟩ := hr (by omega)
  refine ⟨b, off, e, hl, fun i hi => ?_⟩
  have fa := flat_at zs i (by omega)
  exact ⟨(hb.cell (p := ⟨b, _, none⟩) hl).trans (hc (i * 2) _ fa.1), (hb.cell (p := ⟨b, _, none⟩) hl).trans (hc (i * 2 + 1) _ fa.2)⟩
set_option maxRecDepth 100000 in
set_option maxHeartbeats 2000000 in
theorem impl_rises {w : World} {v : Value} {zs : List E} (h : Is w v zs) : Calls Try.prog 14 #[v] w fun e w' => e = .returned (.int .i64 (SampMath.rises zs)) ∧ Below w.heap.size w w' := by
  have HOK := hide (fun W (hs : Is W v zs) => impl_ok hs)
  have HH := hide h
  obtain ⟨-, a, cap, rfl, hc, hm, -, -⟩ := id h
  cases hok : SampMath.ok zs
  · have HK := hide (show SampMath.rises zs = 0 by unfold SampMath.rises; rw [hok]; rfl)
    have HO := hide hok
    clear hok h
    go_enter Try.func14, Try.ntmps14
    go_wp2_with (go_at_call 38; refine (unhide HOK _ (unhide HH)).mono ?_; rintro e w1 ⟨rfl, hb1⟩; rw [unhide HO])
    go_ret
    exact ⟨ret_int (unhide HK).symm, hb1⟩
  · have HK := hide (show SampMath.rises zs = SampMath.upTo zs zs.length by unfold SampMath.rises; rw [hok]; rfl)
    have HO := hide hok
    have hle := SampMath.ok_len hok
    obtain ⟨n, hn⟩ : ∃ n, n = zs.length := ⟨_, rfl⟩
    rw [← hn] at hc hle h ⊢
    have HN := hide hn
    have hl := h
    have HL := hide hl
    unfold maxLen at hm
    clear hok h hn hl
    have HOK' := hide (show Calls Try.prog 38 #[.slice a n cap] w fun e w' => e = .returned (.bool (SampMath.ok zs)) ∧ Below w.heap.size w w' by have := unhide HOK _ (unhide HH); rwa [← unhide HN] at this)
    clear HOK HH
    go_enter Try.func14, Try.ntmps14
    go_wp2_with (go_at_call 38; refine (unhide HOK').mono ?_; rintro e w1 ⟨rfl, hb1⟩; rw [unhide HO])
    go_loopw [3, 4] (fun s i wr => ∃ k : Nat, k ≤ n ∧ i = .int .i64 ((k : Int) + 1) ∧ s = .int .i64 (SampMath.upTo zs (min (k + 1) n)) ∧ Below w.heap.size w wr) (fun _ i _ => n + 1 - (intOf i).toNat)
    case atStart => exact ⟨0, Nat.zero_le _, rfl, by rcases Nat.eq_zero_or_pos n with h | h; (subst h; rfl); (rw [Nat.min_eq_left (by omega)]; rfl), hb1⟩
    case round =>
      obtain ⟨k, hk, rfl, rfl, hbel⟩ := hrel
      have hsz := hbel.size
      by_cases hlt : k + 1 < n
      · obtain ⟨b, off, rfl, hbl, hcell⟩ := v_cell (unhide HL) hbel (by omega) (unhide HN)
        have HR := hide (SampMath.ok_range (unhide HO) (k := k) (by have := unhide HN; omega))
        have HR1 := hide (SampMath.ok_range (unhide HO) (k := k + 1) (by have := unhide HN; omega))
        have HU := hide (SampMath.upTo_range (unhide HO) (k + 1) (by have := unhide HN; omega))
        have HS := hide (SampMath.upTo_succ zs (k + 1) (by omega))
        rw [Nat.min_eq_left (show k + 1 ≤ n by omega)]
        have hx1 := (hcell (k + 1) hlt).2
        have hx0 := (hcell k (by omega)).2
        clear hcell
        obtain ⟨P, hP⟩ : ∃ P, P = (SampMath.at' zs k).2 := ⟨_, rfl⟩
        obtain ⟨V, hV⟩ : ∃ V, V = (SampMath.at' zs (k + 1)).2 := ⟨_, rfl⟩
        obtain ⟨U, hU⟩ : ∃ U, U = SampMath.upTo zs (k + 1) := ⟨_, rfl⟩
        rw [← hP] at hx0
        rw [← hV] at hx1
        rw [← hU]
        have hP0 : 0 ≤ P ∧ P ≤ 2147483647 := by rw [hP]; exact (unhide HR).2.2
        have hV0 : 0 ≤ V ∧ V ≤ 2147483647 := by rw [hV]; exact (unhide HR1).2.2
        have hU0 : 0 ≤ U ∧ U ≤ 21474836470000 := by rw [hU]; have := unhide HU; omega
        have HP := hide hP
        have HV := hide hV
        have HUU := hide hU
        clear hP hV hU HR HR1 HU
        have hne := cls_nonempty wr.heap.size wr
        have hq0 : ∀ x : Cls wr.heap.size wr, x.val.cell? ⟨b, off + k * 2 + 1, none⟩ = some (.int .i64 P) := fun x => by rw [x.cell (by omega)]; exact hx0
        have hq1 : ∀ x : Cls wr.heap.size wr, x.val.cell? ⟨b, off + (k + 1) * 2 + 1, none⟩ = some (.int .i64 V) := fun x => by rw [x.cell (by omega)]; exact hx1
        have hk1 : (k : Int) + 1 < (n : Int) := by omega
        by_cases hup : P ≤ V
        · have hs : decide (V - P < 0) = false := by simp; omega
          have HF := hide (show SampMath.upTo zs (k + 1 + 1) = U + (V - P) by rw [unhide HS, SampMath.up_yes (by rw [Nat.add_sub_cancel, ← unhide HP, ← unhide HV]; exact hup), ← unhide HUU, Nat.add_sub_cancel, ← unhide HP, ← unhide HV])
          go_wp2_with fail
          refine region_cls (by kernel_rfl) (by kernel_rfl) ?_
          repeat (go_big_quiet_step (fail))
          refine wpQuiet_nil ?_
          rintro wq ⟨⟨_, hq⟩, rfl⟩
          go_wp2
          go_roundw
          case rel => exact ⟨k + 1, by omega, by go_num, by rw [Nat.min_eq_left (by omega), unhide HF], hbel.trans (hq.mono hsz)⟩
          case measure => simp [intOf]; omega
        · have hs : decide (V - P < 0) = true := by simp; omega
          have HF := hide (show SampMath.upTo zs (k + 1 + 1) = U + V by rw [unhide HS, SampMath.up_no (by rw [Nat.add_sub_cancel, ← unhide HP, ← unhide HV]; exact hup), ← unhide HUU, ← unhide HV])
          go_wp2_with fail
          refine region_cls (by kernel_rfl) (by kernel_rfl) ?_
          repeat (go_big_quiet_step (fail))
          refine wpQuiet_nil ?_
          rintro wq ⟨⟨_, hq⟩, rfl⟩
          have hx2 : wq.cell? ⟨b, off + (k + 1) * 2 + 1, none⟩ = some (.int .i64 V) := (hq.cell (p := ⟨b, _, none⟩) (show b < wr.heap.size by omega)).trans hx1
          go_wp2
          go_roundw
          case rel => exact ⟨k + 1, by omega, by go_num, by rw [Nat.min_eq_left (by omega), unhide HF], hbel.trans (hq.mono hsz)⟩
          case measure => simp [intOf]; omega
      · have HF := hide (show SampMath.upTo zs (min (k + 1) n) = SampMath.rises zs by rw [Nat.min_eq_right (by omega), unhide HK, unhide HN])
        go_wp2
        go_ret
        exact ⟨ret_int (unhide HF), hbel⟩
set_option maxRecDepth 100000 in
set_option maxHeartbeats 2000000 in
theorem spec_rises {w : World} {v : Value} {zs : List E} (h : Is w v zs) : Calls Try.prog 12 #[v] w fun e w' => e = .returned (.int .i64 (SampMath.rises zs)) ∧ Below w.heap.size w w' := by
  have HOK := hide (fun W (hs : Is W v zs) => l2ok hs)
  have HH := hide h
  obtain ⟨-, a, cap, rfl, hc, hm, -, -⟩ := id h
  cases hok : SampMath.ok zs
  · have HK := hide (show SampMath.rises zs = 0 by unfold SampMath.rises; rw [hok]; rfl)
    have HO := hide hok
    clear hok h
    go_enter Try.func12, Try.ntmps12
    go_wp2_with (go_at_call 36; refine (unhide HOK _ (unhide HH)).mono ?_; rintro e w1 ⟨rfl, hb1⟩; rw [unhide HO])
    go_ret
    exact ⟨ret_int (unhide HK).symm, hb1⟩
  · have HK := hide (show SampMath.rises zs = SampMath.upTo zs zs.length by unfold SampMath.rises; rw [hok]; rfl)
    have HO := hide hok
    have hle := SampMath.ok_len hok
    obtain ⟨n, hn⟩ : ∃ n, n = zs.length := ⟨_, rfl⟩
    rw [← hn] at hc hle h ⊢
    have HN := hide hn
    have hl := h
    have HL := hide hl
    unfold maxLen at hm
    clear hok h hn hl
    have HOK' := hide (show Calls Try.prog 36 #[.slice a n cap] w fun e w' => e = .returned (.bool (SampMath.ok zs)) ∧ Below w.heap.size w w' by have := unhide HOK _ (unhide HH); rwa [← unhide HN] at this)
    clear HOK HH
    go_enter Try.func12, Try.ntmps12
    go_wp2_with (go_at_call 36; refine (unhide HOK').mono ?_; rintro e w1 ⟨rfl, hb1⟩; rw [unhide HO])
    go_loopw [3, 4] (fun s i wr => ∃ k : Nat, k ≤ n ∧ i = .int .i64 ((k : Int) + 1) ∧ s = .int .i64 (SampMath.upTo zs (min (k + 1) n)) ∧ Below w.heap.size w wr) (fun _ i _ => n + 1 - (intOf i).toNat)
    case atStart => exact ⟨0, Nat.zero_le _, rfl, by rcases Nat.eq_zero_or_pos n with h | h; (subst h; rfl); (rw [Nat.min_eq_left (by omega)]; rfl), hb1⟩
    case round =>
      obtain ⟨k, hk, rfl, rfl, hbel⟩ := hrel
      have hsz := hbel.size
      by_cases hlt : k + 1 < n
      · obtain ⟨b, off, rfl, hbl, hcell⟩ := v_cell (unhide HL) hbel (by omega) (unhide HN)
        have HR := hide (SampMath.ok_range (unhide HO) (k := k) (by have := unhide HN; omega))
        have HR1 := hide (SampMath.ok_range (unhide HO) (k := k + 1) (by have := unhide HN; omega))
        have HU := hide (SampMath.upTo_range (unhide HO) (k + 1) (by have := unhide HN; omega))
        have HS := hide (SampMath.upTo_succ zs (k + 1) (by omega))
        rw [Nat.min_eq_left (show k + 1 ≤ n by omega)]
        have hx1 := (hcell (k + 1) hlt).2
        have hx0 := (hcell k (by omega)).2
        clear hcell
        obtain ⟨P, hP⟩ : ∃ P, P = (SampMath.at' zs k).2 := ⟨_, rfl⟩
        obtain ⟨V, hV⟩ : ∃ V, V = (SampMath.at' zs (k + 1)).2 := ⟨_, rfl⟩
        obtain ⟨U, hU⟩ : ∃ U, U = SampMath.upTo zs (k + 1) := ⟨_, rfl⟩
        rw [← hP] at hx0
        rw [← hV] at hx1
        rw [← hU]
        have hP0 : 0 ≤ P ∧ P ≤ 2147483647 := by rw [hP]; exact (unhide HR).2.2
        have hV0 : 0 ≤ V ∧ V ≤ 2147483647 := by rw [hV]; exact (unhide HR1).2.2
        have hU0 : 0 ≤ U ∧ U ≤ 21474836470000 := by rw [hU]; have := unhide HU; omega
        have HP := hide hP
        have HV := hide hV
        have HUU := hide hU
        clear hP hV hU HR HR1 HU
        have hne := cls_nonempty wr.heap.size wr
        have hq0 : ∀ x : Cls wr.heap.size wr, x.val.cell? ⟨b, off + k * 2 + 1, none⟩ = some (.int .i64 P) := fun x => by rw [x.cell (by omega)]; exact hx0
        have hq1 : ∀ x : Cls wr.heap.size wr, x.val.cell? ⟨b, off + (k + 1) * 2 + 1, none⟩ = some (.int .i64 V) := fun x => by rw [x.cell (by omega)]; exact hx1
        have hk1 : (k : Int) + 1 < (n : Int) := by omega
        by_cases hup : P ≤ V
        · have hs : decide (P ≤ V) = true := by simp; omega
          have HF := hide (show SampMath.upTo zs (k + 1 + 1) = U + (V - P) by rw [unhide HS, SampMath.up_yes (by rw [Nat.add_sub_cancel, ← unhide HP, ← unhide HV]; exact hup), ← unhide HUU, Nat.add_sub_cancel, ← unhide HP, ← unhide HV])
          go_wp2_with fail
          refine region_cls (by kernel_rfl) (by kernel_rfl) ?_
          repeat (go_big_quiet_step (fail))
          refine wpQuiet_nil ?_
          rintro wq ⟨⟨_, hq⟩, rfl⟩
          have hne2 := cls_nonempty wq.heap.size wq
          have hy0 := (hq.cell (p := ⟨b, off + k * 2 + 1, none⟩) (show b < wr.heap.size by omega)).trans hx0
          have hy1 := (hq.cell (p := ⟨b, off + (k + 1) * 2 + 1, none⟩) (show b < wr.heap.size by omega)).trans hx1
          have hz0 : ∀ x : Cls wq.heap.size wq, x.val.cell? ⟨b, off + k * 2 + 1, none⟩ = some (.int .i64 P) := fun x => by rw [x.cell (by have := hq.size; omega)]; exact hy0
          have hz1 : ∀ x : Cls wq.heap.size wq, x.val.cell? ⟨b, off + (k + 1) * 2 + 1, none⟩ = some (.int .i64 V) := fun x => by rw [x.cell (by have := hq.size; omega)]; exact hy1
          go_wp2_with fail
          refine region_cls (by kernel_rfl) (by kernel_rfl) ?_
          repeat (go_big_quiet_step (fail))
          refine wpQuiet_nil ?_
          rintro w2 ⟨⟨_, hq2⟩, rfl⟩
          go_wp2
          go_roundw
          case rel => exact ⟨k + 1, by omega, by go_num, by rw [Nat.min_eq_left (by omega), unhide HF]; go_num, (hbel.trans (hq.mono hsz)).trans (hq2.mono (by have := hq.size; omega))⟩
          case measure => simp [intOf]; omega
        · have hs : decide (P ≤ V) = false := by simp; omega
          have HF := hide (show SampMath.upTo zs (k + 1 + 1) = U + V by rw [unhide HS, SampMath.up_no (by rw [Nat.add_sub_cancel, ← unhide HP, ← unhide HV]; exact hup), ← unhide HUU, ← unhide HV])
          go_wp2_with fail
          refine region_cls (by kernel_rfl) (by kernel_rfl) ?_
          repeat (go_big_quiet_step (fail))
          refine wpQuiet_nil ?_
          rintro wq ⟨⟨_, hq⟩, rfl⟩
          have hx2 : wq.cell? ⟨b, off + (k + 1) * 2 + 1, none⟩ = some (.int .i64 V) := (hq.cell (p := ⟨b, _, none⟩) (show b < wr.heap.size by omega)).trans hx1
          go_wp2
          go_roundw
          case rel => exact ⟨k + 1, by omega, by go_num, by rw [Nat.min_eq_left (by omega), unhide HF], hbel.trans (hq.mono hsz)⟩
          case measure => simp [intOf]; omega
      · have HF := hide (show SampMath.upTo zs (min (k + 1) n) = SampMath.rises zs by rw [Nat.min_eq_right (by omega), unhide HK, unhide HN])
        go_wp2
        go_ret
        exact ⟨ret_int (unhide HF), hbel⟩
end Go.Proofs.Ytogdllkbiibicaa.Sam

/- Samples are drawn, for Rises and Thin; slices of samples, cut. -/
namespace Go.Proofs.Ytogdllkbiibicaa.Sam
open Go.RowKit Rw
theorem sflat_eq (zs : List E) : Samp.flat zs = flat zs := by
  induction zs with
  | nil => rfl
  | cons x zs ih => unfold flat at ih ⊢; rw [flatOf_cons, ← ih]; rfl
theorem is_of_smp {w : World} {v : Value} {zs : List E} (h : Samp.Smp w v zs) : Is w v zs := by
  refine ⟨flat_length zs, ?_⟩
  rcases h with ⟨rfl, rfl⟩ | ⟨b, off, cap, rfl, h2, h3, h4, h5⟩
  · exact ⟨none, 0, rfl, Nat.le_refl _, Nat.zero_le _, fun _ => rfl, fun h => by simp at h⟩
  · refine ⟨_, cap, rfl, h2, h3, fun e => (by cases e), fun h0 => ⟨b, off, rfl, h4, fun j u hu => ?_⟩⟩
    have hj : j < zs.length * 2 := by have := (List.getElem?_eq_some_iff.1 hu).1; rwa [flat_length] at this
    obtain ⟨i, c, rfl, hc⟩ : ∃ i c, j = i * 2 + c ∧ c < 2 := ⟨j / 2, j % 2, by omega, by omega⟩
    have fa := flat_at zs i (by omega)
    have r := h5 i (by omega)
    rcases (show c = 0 ∨ c = 1 by omega) with rfl | rfl
    · rw [Nat.add_zero] at hu ⊢
      rw [fa.1] at hu
      cases hu
      exact r.1
    · rw [fa.2] at hu
      cases hu
      rw [← Nat.add_assoc]
      exact r.2
theorem smp_of_is {w : World} {v : Value} {zs : List E} (h : Is w v zs) (ha : ∃ b off n cap, v = .slice (some ⟨b, off, none⟩) n cap ∧ b < w.heap.size) : Samp.Smp w v zs := by
  obtain ⟨b, off, n, cap, rfl, hb⟩ := ha
  obtain ⟨-, a, cap', h1, h2, h3, h4, h5⟩ := h
  simp only [Value.slice.injEq] at h1
  obtain ⟨rfl, rfl, rfl⟩ := h1
  refine .inr ⟨b, off, cap, rfl, h2, h3, hb, fun i hi => ?_⟩
  obtain ⟨b', off', e, -, hc⟩ := h5 (by omega)
  cases e
  exact reads_of hc i hi
theorem size_s : (sizeOf (Try.prog.elem 25)).run Try.prog = fun w => .ok 2 w := by kernel_rfl
theorem head_ok {w : World} {a : Option Addr} {N cap k : Nat} {xs : List Value} (h : Lies w (.slice a N cap) N 2 xs) (h0 : k ≤ N) :
    ∃ R, (∀ W, (Instr.slice 25 (.slice a N cap) none (some (.int .i64 (k : Int))) none).run Try.prog W = .ok R W) ∧ Lies w R k 2 (xs.take (k * 2)) := by
  have hc : N ≤ cap := by obtain ⟨-, a', cap', h1, h2, -⟩ := h; simp only [Value.slice.injEq, true_and] at h1; omega
  have h1 := take_lies (k := k) (cut_lies h (i := 0) (by omega)) (by omega)
  rw [Nat.zero_mul, List.drop_zero] at h1
  refine ⟨_, fun W => ?_, h1⟩
  have e := run_slice_h (P := Try.prog) W 25 a N cap (by kernel_rfl) .i64 (k : Int) (by omega) (by omega)
  rw [e]
  show ((sizeOf (Try.prog.elem 25)).run Try.prog W).andThen _ = _
  rw [size_s]
  simp [sliced]
theorem rest_ok {w : World} {a : Option Addr} {N cap k : Nat} {xs : List Value} (h : Lies w (.slice a N cap) N 2 xs) (h0 : k ≤ N) :
    ∃ R, (∀ W, (Instr.slice 25 (.slice a N cap) (some (.int .i64 (k : Int))) none none).run Try.prog W = .ok R W) ∧ Lies w R (N - k) 2 (xs.drop (k * 2)) := by
  have hc : N ≤ cap := by obtain ⟨-, a', cap', h1, h2, -⟩ := h; simp only [Value.slice.injEq, true_and] at h1; omega
  refine ⟨_, fun W => ?_, cut_lies h (i := k) (by omega)⟩
  have e := run_slice_l (P := Try.prog) W 25 a N cap (by kernel_rfl) .i64 (k : Int) (by omega) (by omega)
  rw [e]
  show ((sizeOf (Try.prog.elem 25)).run Try.prog W).andThen _ = _
  rw [size_s]
  simp [sliced]
theorem head_is {w : World} {a : Option Addr} {N cap k : Nat} {zs : List E} (h : Is w (.slice a N cap) zs) (hN : N = zs.length) (h0 : k ≤ N) :
    ∃ R, (∀ W, (Instr.slice 25 (.slice a N cap) none (some (.int .i64 (k : Int))) none).run Try.prog W = .ok R W) ∧ Is w R (zs.take k) := by
  subst hN
  obtain ⟨R, h1, h2⟩ := head_ok h h0
  refine ⟨R, h1, ?_⟩
  unfold Is flat
  rw [flatOf_take flk, List.length_take, Nat.min_eq_left h0]
  exact h2
theorem rest_is {w : World} {a : Option Addr} {N cap k : Nat} {zs : List E} (h : Is w (.slice a N cap) zs) (hN : N = zs.length) (h0 : k ≤ N) :
    ∃ R, (∀ W, (Instr.slice 25 (.slice a N cap) (some (.int .i64 (k : Int))) none none).run Try.prog W = .ok R W) ∧ Is w R (zs.drop k) := by
  subst hN
  obtain ⟨R, h1, h2⟩ := rest_ok h h0
  refine ⟨R, h1, ?_⟩
  unfold Is flat
  rw [flatOf_drop flk, List.length_drop]
  exact h2
end Go.Proofs.Ytogdllkbiibicaa.Sam
namespace Go.Proofs.Ytogdllkbiibicaa.Draw
open Go.RowKit Samp SampMath Rw
set_option linter.unusedVariables false
attribute [local go_sem ↓] Go.wp_at_zero Go.wp_at_succ
set_option maxRecDepth 100000 in
set_option maxHeartbeats 2000000 in
theorem draw_rises {a : Option Addr} {len cap : Nat} {zs : List Int} (w0 w : World) (h : IsRow .u8 w0 a len cap zs) (hB : Below w0.heap.size w0 w) :
    Calls Try.prog 25 #[.slice a len cap] w fun e w' => ∃ (zs : List S) (g cp : Nat), e = .returned (.slice (some ⟨g, 0, none⟩) zs.length cp) ∧ zs.length ≤ 9 ∧ Sam.Is w' (.slice (some ⟨g, 0, none⟩) zs.length cp) zs ∧ g < w'.heap.size ∧ Below w.heap.size w w' := by
  have HO := hide (open_any w0 w h hB)
  clear h hB
  go_enter Try.func25, Try.ntmps25
  go_wp2_with fail
  refine (unhide HO).mono ?_
  rintro e w1 ⟨rfl, r1, b1⟩
  have hlt := r1.lt
  have hs1 := b1.size
  go_wp2_with fail
  refine (anysamples_any w.heap.size 0 9 _ r1 (by omega) (by omega)).mono ?_
  rintro e w2 ⟨zs, g, cp, rfl, hl, o2, ⟨p2, hp2, r2⟩, q2⟩
  have b2 := b1.trans (below_of_grown q2 (Nat.le_refl _) hs1)
  have S2 := hide (Sam.is_of_smp (smp_of_own o2))
  have G2 := hide (own_lt o2)
  clear o2 r1 HO r2 q2
  go_wp2
  go_ret
  exact ⟨zs, g, cp, rfl, hl, unhide S2, unhide G2, b2⟩
end Go.Proofs.Ytogdllkbiibicaa.Draw
