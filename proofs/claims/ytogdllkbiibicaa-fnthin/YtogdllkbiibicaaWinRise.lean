/- What Rises answers, of the program and of the model, at every slice of samples. -/
import Derived.Test.YtogdllkbiibicaaSamOk
import Derived.Test.YtogdllkbiibicaaWinMath
namespace Go.Proofs.Ytogdllkbiibicaa.Sam
open Go.RowKit Rw
set_option linter.unusedVariables false
attribute [local go_sem ↓] Go.wp_at_zero Go.wp_at_succ
theorem sat_eq (zs : List E) (i : Nat) : SampMath.at' zs i = at' zs i := rfl
/-- the cell of a number, wherever it is asked for -/
theorem v_cell {w wr : World} {a : Option Addr} {n cap : Nat} {zs : List E} (h : Is w (.slice a n cap) zs) (hb : Below w.heap.size w wr) (h0 : 0 < n) (hn : n = zs.length) :
    ∃ b off, a = some ⟨b, off, none⟩ ∧ b < w.heap.size ∧ ∀ i, i < n → wr.cell? ⟨b, off + i * 2, none⟩ = some (.int .i64 (SampMath.at' zs i).1) ∧ wr.cell? ⟨b, off + i * 2 + 1, none⟩ = some (.int .i64 (SampMath.at' zs i).2) := by
  obtain ⟨-, a', cap', h1, -, -, -, hr⟩ := h
  simp only [Value.slice.injEq] at h1
  obtain ⟨rfl, -, rfl⟩ := h1
  obtain ⟨b, off, e, hl, hc⟩ := hr (by omega)
  refine ⟨b, off, e, hl, fun i hi => ?_⟩
  have fa := flat_at zs i (by omega)
  exact ⟨(hb.cell (p := ⟨b, _, none⟩) hl).trans (hc (i * 2) _ fa.1), (hb.cell (p := ⟨b, _, none⟩) hl).trans (hc (i * 2 + 1) _ fa.2)⟩
set_option maxRecDepth 100000 in
set_option maxHeartbeats 2000000 in
theorem impl_rises {w : World} {v : Value} {zs : List E} (h : Is w v zs) : Calls Try.prog 14 #[v] w fun e w' => e = .returned (.int .i64 (SampMath.rises zs)) ∧ Below w.heap.size w w' := by
  have HOK := hide (fun W (hs : Is W v zs) => impl_ok hs)
  have HH := hide h
  obtain ⟨-, a, cap, rfl, hc, hm, -, -⟩ := id h
  cases hok : SampMath.ok zs
  · have HK := hide (show SampMath.rises zs = 0 by unfold SampMath.rises; rw [hok]; rfl)
    have HO := hide hok
    clear hok h
    go_enter Try.func14, Try.ntmps14
    go_wp2_with (go_at_call 38; refine (unhide HOK _ (unhide HH)).mono ?_; rintro e w1 ⟨rfl, hb1⟩; rw [unhide HO])
    go_ret
    exact ⟨ret_int (unhide HK).symm, hb1⟩
  · have HK := hide (show SampMath.rises zs = SampMath.upTo zs zs.length by unfold SampMath.rises; rw [hok]; rfl)
    have HO := hide hok
    have hle := SampMath.ok_len hok
    obtain ⟨n, hn⟩ : ∃ n, n = zs.length := ⟨_, rfl⟩
    rw [← hn] at hc hle h ⊢
    have HN := hide hn
    have hl := h
    have HL := hide hl
    unfold maxLen at hm
    clear hok h hn hl
    have HOK' := hide (show Calls Try.prog 38 #[.slice a n cap] w fun e w' => e = .returned (.bool (SampMath.ok zs)) ∧ Below w.heap.size w w' by have := unhide HOK _ (unhide HH); rwa [← unhide HN] at this)
    clear HOK HH
    go_enter Try.func14, Try.ntmps14
    go_wp2_with (go_at_call 38; refine (unhide HOK').mono ?_; rintro e w1 ⟨rfl, hb1⟩; rw [unhide HO])
    go_loopw [3, 4] (fun s i wr => ∃ k : Nat, k ≤ n ∧ i = .int .i64 ((k : Int) + 1) ∧ s = .int .i64 (SampMath.upTo zs (min (k + 1) n)) ∧ Below w.heap.size w wr) (fun _ i _ => n + 1 - (intOf i).toNat)
    case atStart => exact ⟨0, Nat.zero_le _, rfl, by rcases Nat.eq_zero_or_pos n with h | h; (subst h; rfl); (rw [Nat.min_eq_left (by omega)]; rfl), hb1⟩
    case round =>
      obtain ⟨k, hk, rfl, rfl, hbel⟩ := hrel
      have hsz := hbel.size
      by_cases hlt : k + 1 < n
      · obtain ⟨b, off, rfl, hbl, hcell⟩ := v_cell (unhide HL) hbel (by omega) (unhide HN)
        have HR := hide (SampMath.ok_range (unhide HO) (k := k) (by have := unhide HN; omega))
        have HR1 := hide (SampMath.ok_range (unhide HO) (k := k + 1) (by have := unhide HN; omega))
        have HU := hide (SampMath.upTo_range (unhide HO) (k + 1) (by have := unhide HN; omega))
        have HS := hide (SampMath.upTo_succ zs (k + 1) (by omega))
        rw [Nat.min_eq_left (show k + 1 ≤ n by omega)]
        have hx1 := (hcell (k + 1) hlt).2
        have hx0 := (hcell k (by omega)).2
        clear hcell
        obtain ⟨P, hP⟩ : ∃ P, P = (SampMath.at' zs k).2 := ⟨_, rfl⟩
        obtain ⟨V, hV⟩ : ∃ V, V = (SampMath.at' zs (k + 1)).2 := ⟨_, rfl⟩
        obtain ⟨U, hU⟩ : ∃ U, U = SampMath.upTo zs (k + 1) := ⟨_, rfl⟩
        rw [← hP] at hx0
        rw [← hV] at hx1
        rw [← hU]
        have hP0 : 0 ≤ P ∧ P ≤ 2147483647 := by rw [hP]; exact (unhide HR).2.2
        have hV0 : 0 ≤ V ∧ V ≤ 2147483647 := by rw [hV]; exact (unhide HR1).2.2
        have hU0 : 0 ≤ U ∧ U ≤ 21474836470000 := by rw [hU]; have := unhide HU; omega
        have HP := hide hP
        have HV := hide hV
        have HUU := hide hU
        clear hP hV hU HR HR1 HU
        have hne := cls_nonempty wr.heap.size wr
        have hq0 : ∀ x : Cls wr.heap.size wr, x.val.cell? ⟨b, off + k * 2 + 1, none⟩ = some (.int .i64 P) := fun x => by rw [x.cell (by omega)]; exact hx0
        have hq1 : ∀ x : Cls wr.heap.size wr, x.val.cell? ⟨b, off + (k + 1) * 2 + 1, none⟩ = some (.int .i64 V) := fun x => by rw [x.cell (by omega)]; exact hx1
        have hk1 : (k : Int) + 1 < (n : Int) := by omega
        by_cases hup : P ≤ V
        · have hs : decide (V - P < 0) = false := by simp; omega
          have HF := hide (show SampMath.upTo zs (k + 1 + 1) = U + (V - P) by rw [unhide HS, SampMath.up_yes (by rw [Nat.add_sub_cancel, ← unhide HP, ← unhide HV]; exact hup), ← unhide HUU, Nat.add_sub_cancel, ← unhide HP, ← unhide HV])
          go_wp2_with fail
          refine region_cls (by kernel_rfl) (by kernel_rfl) ?_
          repeat (go_big_quiet_step (fail))
          refine wpQuiet_nil ?_
          rintro wq ⟨⟨_, hq⟩, rfl⟩
          go_wp2
          go_roundw
          case rel => exact ⟨k + 1, by omega, by go_num, by rw [Nat.min_eq_left (by omega), unhide HF], hbel.trans (hq.mono hsz)⟩
          case measure => simp [intOf]; omega
        · have hs : decide (V - P < 0) = true := by simp; omega
          have HF := hide (show SampMath.upTo zs (k + 1 + 1) = U + V by rw [unhide HS, SampMath.up_no (by rw [Nat.add_sub_cancel, ← unhide HP, ← unhide HV]; exact hup), ← unhide HUU, ← unhide HV])
          go_wp2_with fail
          refine region_cls (by kernel_rfl) (by kernel_rfl) ?_
          repeat (go_big_quiet_step (fail))
          refine wpQuiet_nil ?_
          rintro wq ⟨⟨_, hq⟩, rfl⟩
          have hx2 : wq.cell? ⟨b, off + (k + 1) * 2 + 1, none⟩ = some (.int .i64 V) := (hq.cell (p := ⟨b, _, none⟩) (show b < wr.heap.size by omega)).trans hx1
          go_wp2
          go_roundw
          case rel => exact ⟨k + 1, by omega, by go_num, by rw [Nat.min_eq_left (by omega), unhide HF], hbel.trans (hq.mono hsz)⟩
          case measure => simp [intOf]; omega
      · have HF := hide (show SampMath.upTo zs (min (k + 1) n) = SampMath.rises zs by rw [Nat.min_eq_right (by omega), unhide HK, unhide HN])
        go_wp2
        go_ret
        exact ⟨ret_int (unhide HF), hbel⟩
set_option maxRecDepth 100000 in
set_option maxHeartbeats 2000000 in
theorem spec_rises {w : World} {v : Value} {zs : List E} (h : Is w v zs) : Calls Try.prog 12 #[v] w fun e w' => e = .returned (.int .i64 (SampMath.rises zs)) ∧ Below w.heap.size w w' := by
  have HOK := hide (fun W (hs : Is W v zs) => l2ok hs)
  have HH := hide h
  obtain ⟨-, a, cap, rfl, hc, hm, -, -⟩ := id h
  cases hok : SampMath.ok zs
  · have HK := hide (show SampMath.rises zs = 0 by unfold SampMath.rises; rw [hok]; rfl)
    have HO := hide hok
    clear hok h
    go_enter Try.func12, Try.ntmps12
    go_wp2_with (go_at_call 36; refine (unhide HOK _ (unhide HH)).mono ?_; rintro e w1 ⟨rfl, hb1⟩; rw [unhide HO])
    go_ret
    exact ⟨ret_int (unhide HK).symm, hb1⟩
  · have HK := hide (show SampMath.rises zs = SampMath.upTo zs zs.length by unfold SampMath.rises; rw [hok]; rfl)
    have HO := hide hok
    have hle := SampMath.ok_len hok
    obtain ⟨n, hn⟩ : ∃ n, n = zs.length := ⟨_, rfl⟩
    rw [← hn] at hc hle h ⊢
    have HN := hide hn
    have hl := h
    have HL := hide hl
    unfold maxLen at hm
    clear hok h hn hl
    have HOK' := hide (show Calls Try.prog 36 #[.slice a n cap] w fun e w' => e = .returned (.bool (SampMath.ok zs)) ∧ Below w.heap.size w w' by have := unhide HOK _ (unhide HH); rwa [← unhide HN] at this)
    clear HOK HH
    go_enter Try.func12, Try.ntmps12
    go_wp2_with (go_at_call 36; refine (unhide HOK').mono ?_; rintro e w1 ⟨rfl, hb1⟩; rw [unhide HO])
    go_loopw [3, 4] (fun s i wr => ∃ k : Nat, k ≤ n ∧ i = .int .i64 ((k : Int) + 1) ∧ s = .int .i64 (SampMath.upTo zs (min (k + 1) n)) ∧ Below w.heap.size w wr) (fun _ i _ => n + 1 - (intOf i).toNat)
    case atStart => exact ⟨0, Nat.zero_le _, rfl, by rcases Nat.eq_zero_or_pos n with h | h; (subst h; rfl); (rw [Nat.min_eq_left (by omega)]; rfl), hb1⟩
    case round =>
      obtain ⟨k, hk, rfl, rfl, hbel⟩ := hrel
      have hsz := hbel.size
      by_cases hlt : k + 1 < n
      · obtain ⟨b, off, rfl, hbl, hcell⟩ := v_cell (unhide HL) hbel (by omega) (unhide HN)
        have HR := hide (SampMath.ok_range (unhide HO) (k := k) (by have := unhide HN; omega))
        have HR1 := hide (SampMath.ok_range (unhide HO) (k := k + 1) (by have := unhide HN; omega))
        have HU := hide (SampMath.upTo_range (unhide HO) (k + 1) (by have := unhide HN; omega))
        have HS := hide (SampMath.upTo_succ zs (k + 1) (by omega))
        rw [Nat.min_eq_left (show k + 1 ≤ n by omega)]
        have hx1 := (hcell (k + 1) hlt).2
        have hx0 := (hcell k (by omega)).2
        clear hcell
        obtain ⟨P, hP⟩ : ∃ P, P = (SampMath.at' zs k).2 := ⟨_, rfl⟩
        obtain ⟨V, hV⟩ : ∃ V, V = (SampMath.at' zs (k + 1)).2 := ⟨_, rfl⟩
        obtain ⟨U, hU⟩ : ∃ U, U = SampMath.upTo zs (k + 1) := ⟨_, rfl⟩
        rw [← hP] at hx0
        rw [← hV] at hx1
        rw [← hU]
        have hP0 : 0 ≤ P ∧ P ≤ 2147483647 := by rw [hP]; exact (unhide HR).2.2
        have hV0 : 0 ≤ V ∧ V ≤ 2147483647 := by rw [hV]; exact (unhide HR1).2.2
        have hU0 : 0 ≤ U ∧ U ≤ 21474836470000 := by rw [hU]; have := unhide HU; omega
        have HP := hide hP
        have HV := hide hV
        have HUU := hide hU
        clear hP hV hU HR HR1 HU
        have hne := cls_nonempty wr.heap.size wr
        have hq0 : ∀ x : Cls wr.heap.size wr, x.val.cell? ⟨b, off + k * 2 + 1, none⟩ = some (.int .i64 P) := fun x => by rw [x.cell (by omega)]; exact hx0
        have hq1 : ∀ x : Cls wr.heap.size wr, x.val.cell? ⟨b, off + (k + 1) * 2 + 1, none⟩ = some (.int .i64 V) := fun x => by rw [x.cell (by omega)]; exact hx1
        have hk1 : (k : Int) + 1 < (n : Int) := by omega
        by_cases hup : P ≤ V
        · have hs : decide (P ≤ V) = true := by simp; omega
          have HF := hide (show SampMath.upTo zs (k + 1 + 1) = U + (V - P) by rw [unhide HS, SampMath.up_yes (by rw [Nat.add_sub_cancel, ← unhide HP, ← unhide HV]; exact hup), ← unhide HUU, Nat.add_sub_cancel, ← unhide HP, ← unhide HV])
          go_wp2_with fail
          refine region_cls (by kernel_rfl) (by kernel_rfl) ?_
          repeat (go_big_quiet_step (fail))
          refine wpQuiet_nil ?_
          rintro wq ⟨⟨_, hq⟩, rfl⟩
          have hne2 := cls_nonempty wq.heap.size wq
          have hy0 := (hq.cell (p := ⟨b, off + k * 2 + 1, none⟩) (show b < wr.heap.size by omega)).trans hx0
          have hy1 := (hq.cell (p := ⟨b, off + (k + 1) * 2 + 1, none⟩) (show b < wr.heap.size by omega)).trans hx1
          have hz0 : ∀ x : Cls wq.heap.size wq, x.val.cell? ⟨b, off + k * 2 + 1, none⟩ = some (.int .i64 P) := fun x => by rw [x.cell (by have := hq.size; omega)]; exact hy0
          have hz1 : ∀ x : Cls wq.heap.size wq, x.val.cell? ⟨b, off + (k + 1) * 2 + 1, none⟩ = some (.int .i64 V) := fun x => by rw [x.cell (by have := hq.size; omega)]; exact hy1
          go_wp2_with fail
          refine region_cls (by kernel_rfl) (by kernel_rfl) ?_
          repeat (go_big_quiet_step (fail))
          refine wpQuiet_nil ?_
          rintro w2 ⟨⟨_, hq2⟩, rfl⟩
          go_wp2
          go_roundw
          case rel => exact ⟨k + 1, by omega, by go_num, by rw [Nat.min_eq_left (by omega), unhide HF]; go_num, (hbel.trans (hq.mono hsz)).trans (hq2.mono (by have := hq.size; omega))⟩
          case measure => simp [intOf]; omega
        · have hs : decide (P ≤ V) = false := by simp; omega
          have HF := hide (show SampMath.upTo zs (k + 1 + 1) = U + V by rw [unhide HS, SampMath.up_no (by rw [Nat.add_sub_cancel, ← unhide HP, ← unhide HV]; exact hup), ← unhide HUU, ← unhide HV])
          go_wp2_with fail
          refine region_cls (by kernel_rfl) (by kernel_rfl) ?_
          repeat (go_big_quiet_step (fail))
          refine wpQuiet_nil ?_
          rintro wq ⟨⟨_, hq⟩, rfl⟩
          have hx2 : wq.cell? ⟨b, off + (k + 1) * 2 + 1, none⟩ = some (.int .i64 V) := (hq.cell (p := ⟨b, _, none⟩) (show b < wr.heap.size by omega)).trans hx1
          go_wp2
          go_roundw
          case rel => exact ⟨k + 1, by omega, by go_num, by rw [Nat.min_eq_left (by omega), unhide HF], hbel.trans (hq.mono hsz)⟩
          case measure => simp [intOf]; omega
      · have HF := hide (show SampMath.upTo zs (min (k + 1) n) = SampMath.rises zs by rw [Nat.min_eq_right (by omega), unhide HK, unhide HN])
        go_wp2
        go_ret
        exact ⟨ret_int (unhide HF), hbel⟩
end Go.Proofs.Ytogdllkbiibicaa.Sam
