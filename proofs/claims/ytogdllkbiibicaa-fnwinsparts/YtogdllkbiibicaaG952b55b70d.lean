/- My own texts of one claim, laid together by program: WinBox, WinOne. -/
import Derived.Test.YtogdllkbiibicaaGbe28e0345f
import Derived.Test.YtogdllkbiibicaaG1e90aafe99
import Derived.Test.YtogdllkbiibicaaG341cf6558d
/- Whiles: the program's small functions; times; the model's while of samples. -/
namespace Go.Proofs.Ytogdllkbiibicaa.WinM
open Go.RowKit Rw
set_option linter.unusedVariables false
attribute [local go_sem ↓] Go.wp_at_zero Go.wp_at_succ
theorem times_yes {f t : Int} (h1 : 0 ≤ f) (h2 : f ≤ 9999) (h3 : f ≤ t) (h4 : t ≤ 10000) : timesB f t = true := by unfold timesB; rw [decide_eq_true h1, decide_eq_true h2, decide_eq_true h3, decide_eq_true h4]; rfl
theorem times_is {f t : Int} (h : timesB f t = true) : 0 ≤ f ∧ f ≤ 9999 ∧ f ≤ t ∧ t ≤ 10000 := by
  unfold timesB at h
  simp only [Bool.and_eq_true, decide_eq_true_eq] at h
  omega
theorem times_no {f t : Int} (h : f < 0 ∨ 9999 < f ∨ t < f ∨ 10000 < t) : timesB f t = false := by
  rw [Bool.eq_false_iff]; intro e; have := times_is e; omega
theorem times_in (f t : Int) : timesB f t = (Zig.inB f 0 9999 && Zig.inB t f 10000) := by unfold timesB Zig.inB; rw [Bool.and_assoc]
theorem impl_times (f t : Int) (w : World) : Calls Try.prog 48 #[.int .i64 f, .int .i64 t] w fun e w' => e = .returned (.bool (timesB f t)) ∧ w' = w := by
  by_cases h1 : 0 ≤ f
  · by_cases h2 : f ≤ 9999
    · by_cases h3 : f ≤ t
      · by_cases h4 : t ≤ 10000
        · have HR := hide (times_yes h1 h2 h3 h4)
          go_enter Try.func48, Try.ntmps48
          go_wp2
          go_ret
          exact ⟨ret_bool (unhide HR).symm, rfl⟩
        · have HR := hide (times_no (f := f) (t := t) (by omega))
          go_enter Try.func48, Try.ntmps48
          go_wp2
          go_ret
          exact ⟨ret_bool (unhide HR).symm, rfl⟩
      · have HR := hide (times_no (f := f) (t := t) (by omega))
        go_enter Try.func48, Try.ntmps48
        go_wp2
        go_ret
        exact ⟨ret_bool (unhide HR).symm, rfl⟩
    · have HR := hide (times_no (f := f) (t := t) (by omega))
      go_enter Try.func48, Try.ntmps48
      go_wp2
      go_ret
      exact ⟨ret_bool (unhide HR).symm, rfl⟩
  · have HR := hide (times_no (f := f) (t := t) (by omega))
    go_enter Try.func48, Try.ntmps48
    go_wp2
    go_ret
    exact ⟨ret_bool (unhide HR).symm, rfl⟩
theorem spec_times (f t : Int) (w : World) : Calls Try.prog 45 #[.int .i64 f, .int .i64 t] w fun e w' => e = .returned (.bool (timesB f t)) ∧ w' = w := by
  cases h1 : Zig.inB f 0 9999
  · have HR := hide (show timesB f t = false by rw [times_in, h1]; rfl)
    have I1 := hide h1
    clear h1
    go_enter Try.func45, Try.ntmps45
    go_wp2_with fail
    refine (Samp.in_is f 0 9999 _ _ (unhide I1)).mono ?_
    rintro e v1 ⟨rfl, rfl⟩
    go_wp2_with fail
    go_ret
    exact ⟨ret_bool (unhide HR).symm, rfl⟩
  · have HR := hide (show timesB f t = Zig.inB t f 10000 by rw [times_in, h1]; rfl)
    have I1 := hide h1
    clear h1
    go_enter Try.func45, Try.ntmps45
    go_wp2_with fail
    refine (Samp.in_is f 0 9999 _ _ (unhide I1)).mono ?_
    rintro e v1 ⟨rfl, rfl⟩
    go_wp2_with fail
    refine (Zig.in_any t f 10000 _).mono ?_
    rintro e v2 ⟨rfl, rfl⟩
    go_wp2_with fail
    go_ret
    exact ⟨ret_bool (unhide HR).symm, rfl⟩
def alW (x y : W6) : Bool := decide (x.1 = y.1)
def addW (a b : Int) : Int := IntKind.i64.wrap (a + b)
def tgW (x y : W6) : W6 := (x.1, addW x.2.1 y.2.1, addW x.2.2.1 y.2.2.1, min x.2.2.2.1 y.2.2.2.1, max x.2.2.2.2.1 y.2.2.2.2.1, y.2.2.2.2.2)
set_option maxRecDepth 100000 in
theorem same_any (X0 X1 X2 X3 X4 X5 Y0 Y1 Y2 Y3 Y4 Y5 : Int) (w : World) :
    Calls Try.prog 51 #[.agg #[.int .i64 X0, .int .i64 X1, .int .i64 X2, .int .i64 X3, .int .i64 X4, .int .i64 X5], .agg #[.int .i64 Y0, .int .i64 Y1, .int .i64 Y2, .int .i64 Y3, .int .i64 Y4, .int .i64 Y5]] w fun e w' => e = .returned (.bool (alW (X0, X1, X2, X3, X4, X5) (Y0, Y1, Y2, Y3, Y4, Y5))) ∧ Below w.heap.size w w' := by
  have HA := hide (show alW (X0, X1, X2, X3, X4, X5) (Y0, Y1, Y2, Y3, Y4, Y5) = decide (X0 = Y0) from rfl)
  go_enter Try.func51, Try.ntmps51
  go_wp2
  go_ret
  exact ⟨by rw [unhide HA]; first | rfl | (apply ret_bool; simp), ((Below.refl _ _).alloc (Nat.le_refl _) _).alloc (by simp) _⟩
set_option maxRecDepth 100000 in
set_option maxHeartbeats 4000000 in
theorem with_any (X0 X1 X2 X3 X4 X5 Y0 Y1 Y2 Y3 Y4 Y5 : Int) (w : World) :
    Calls Try.prog 52 #[.agg #[.int .i64 X0, .int .i64 X1, .int .i64 X2, .int .i64 X3, .int .i64 X4, .int .i64 X5], .agg #[.int .i64 Y0, .int .i64 Y1, .int .i64 Y2, .int .i64 Y3, .int .i64 Y4, .int .i64 Y5]] w fun e w' => e = .returned (.agg #[.int .i64 X0, .int .i64 (addW X1 Y1), .int .i64 (addW X2 Y2), .int .i64 (min X3 Y3), .int .i64 (max X4 Y4), .int .i64 Y5]) ∧ Below w.heap.size w w' := by
  obtain ⟨c, hc⟩ : ∃ c, IntKind.i64.wrap (X1 + Y1) = c := ⟨_, rfl⟩
  obtain ⟨s, hs⟩ : ∃ s, IntKind.i64.wrap (X2 + Y2) = s := ⟨_, rfl⟩
  have HC := hide (show addW X1 Y1 = c from hc)
  have HS := hide (show addW X2 Y2 = s from hs)
  rw [unhide HC, unhide HS]
  rcases Int.lt_or_le Y3 X3 with a | a
  · rw [show min X3 Y3 = Y3 by omega]
    rcases Int.lt_or_le X4 Y4 with b | b
    · rw [show max X4 Y4 = Y4 by omega]
      go_enter Try.func52, Try.ntmps52
      go_wp2
      refine bodyPost_ret (v := .agg #[.int .i64 X0, .int .i64 c, .int .i64 s, .int .i64 Y3, .int .i64 Y4, .int .i64 Y5]) (by simp [results, Try.results52, go_sem]) rfl ⟨rfl, ?_⟩
      exact (((Below.refl _ _).alloc (Nat.le_refl _) _).alloc (by simp) _).alloc (by simp; omega) _
    · rw [show max X4 Y4 = X4 by omega]
      have b' : ¬ X4 < Y4 := by omega
      go_enter Try.func52, Try.ntmps52
      go_wp2
      refine bodyPost_ret (v := .agg #[.int .i64 X0, .int .i64 c, .int .i64 s, .int .i64 Y3, .int .i64 X4, .int .i64 Y5]) (by simp [results, Try.results52, go_sem]) rfl ⟨rfl, ?_⟩
      exact (((Below.refl _ _).alloc (Nat.le_refl _) _).alloc (by simp) _).alloc (by simp; omega) _
  · rw [show min X3 Y3 = X3 by omega]
    rcases Int.lt_or_le X4 Y4 with b | b
    · rw [show max X4 Y4 = Y4 by omega]
      have a' : ¬ Y3 < X3 := by omega
      go_enter Try.func52, Try.ntmps52
      go_wp2
      refine bodyPost_ret (v := .agg #[.int .i64 X0, .int .i64 c, .int .i64 s, .int .i64 X3, .int .i64 Y4, .int .i64 Y5]) (by simp [results, Try.results52, go_sem]) rfl ⟨rfl, ?_⟩
      exact (((Below.refl _ _).alloc (Nat.le_refl _) _).alloc (by simp) _).alloc (by simp; omega) _
    · rw [show max X4 Y4 = X4 by omega]
      have a' : ¬ Y3 < X3 := by omega
      have b' : ¬ X4 < Y4 := by omega
      go_enter Try.func52, Try.ntmps52
      go_wp2
      refine bodyPost_ret (v := .agg #[.int .i64 X0, .int .i64 c, .int .i64 s, .int .i64 X3, .int .i64 X4, .int .i64 Y5]) (by simp [results, Try.results52, go_sem]) rfl ⟨rfl, ?_⟩
      exact (((Below.refl _ _).alloc (Nat.le_refl _) _).alloc (by simp) _).alloc (by simp; omega) _
set_option maxRecDepth 100000 in
set_option maxHeartbeats 4000000 in
theorem winOf_any (b T V : Int) (w : World) :
    Calls Try.prog 49 #[.int .i64 b, .agg #[.int .i64 T, .int .i64 V]] w fun e w' => e = .returned (.agg #[.int .i64 b, .int .i64 1, .int .i64 V, .int .i64 V, .int .i64 V, .int .i64 V]) ∧ Below w.heap.size w w' := by
  go_enter Try.func49, Try.ntmps49
  go_wp2
  refine bodyPost_ret (v := .agg #[.int .i64 b, .int .i64 1, .int .i64 V, .int .i64 V, .int .i64 V, .int .i64 V]) (by simp [results, Try.results49, go_sem]) rfl ⟨rfl, ?_⟩
  exact ((Below.refl _ _).alloc (Nat.le_refl _) _).alloc (by simp) _
end Go.Proofs.Ytogdllkbiibicaa.WinM

/- What samples of one while come to, of the model; cuts of samples at slices whose address is open. -/
namespace Go.Proofs.Ytogdllkbiibicaa.Sam
open Go.RowKit Rw
set_option linter.unusedVariables false
attribute [local go_sem ↓] Go.wp_at_zero Go.wp_at_succ
theorem impl_cut_zero (a : Option Addr) (cap : Nat) (f t : Int) (w : World) :
    Calls Try.prog 29 #[.slice a 0 cap, .int .i64 f, .int .i64 t] w fun e w' => ∃ v, e = .returned v ∧ w'.ownsRow w.heap.size 41 2 v (Samp.cut [] f t).length (flat (Samp.cut [] f t)) ∧ Below w.heap.size w w' := by
  have HOK := hide (fun W => impl_ok_zero a cap W)
  go_enter Try.func29, Try.ntmps29
  go_wp2_with (go_at_call 38; refine (unhide HOK _).mono ?_; rintro e w1 ⟨rfl, hb1⟩; rw [show SampMath.ok [] = true from rfl])
  refine wp_loop_rounds 1 ?_
  rw [rounds_succ]
  go_wp2
  go_ret
  exact ⟨_, rfl, World.ownsRow_nil _ _ _ _, hb1⟩
theorem l2cut_zero (a : Option Addr) (cap : Nat) (f t : Int) (w : World) :
    Calls Try.prog 46 #[.slice a 0 cap, .int .i64 f, .int .i64 t] w fun e w' => ∃ v, e = .returned v ∧ w'.ownsRow w.heap.size 41 2 v (Samp.cutL [] f t).length (flat (Samp.cutL [] f t)) ∧ Below w.heap.size w w' := by
  go_enter Try.func46, Try.ntmps46
  go_wp2
  refine wp_loop_rounds 1 ?_
  rw [rounds_succ]
  go_wp2
  go_ret
  exact ⟨_, rfl, own_empty (Nat.le_refl _), (Below.refl _ _).alloc (Nat.le_refl _) _⟩
theorem impl_cut {w : World} {v : Value} {zs : List E} (f t : Int) (h : Is w v zs) (hn : zs.length ≤ 4194304) :
    Calls Try.prog 29 #[v, .int .i64 f, .int .i64 t] w fun e w' => ∃ v, e = .returned v ∧ w'.ownsRow w.heap.size 41 2 v (Samp.cut zs f t).length (flat (Samp.cut zs f t)) ∧ Below w.heap.size w w' := by
  obtain ⟨-, a, cap, rfl, hc, hm, -, hr⟩ := id h
  by_cases h0 : zs.length = 0
  · obtain rfl : zs = [] := List.eq_nil_of_length_eq_zero h0
    exact impl_cut_zero a cap f t w
  · obtain ⟨b, off, rfl, hl, -⟩ := hr (by omega)
    refine (Samp.impl_cut f t (smp_of_is h ⟨b, off, _, cap, rfl, hl⟩) hn).mono ?_
    rintro e w' ⟨r, rfl, o, hb⟩
    rw [sflat_eq] at o
    exact ⟨r, rfl, o, hb⟩
theorem l2cut {w : World} {v : Value} {zs : List E} (f t : Int) (h : Is w v zs) (hn : zs.length ≤ 4194304) :
    Calls Try.prog 46 #[v, .int .i64 f, .int .i64 t] w fun e w' => ∃ v, e = .returned v ∧ w'.ownsRow w.heap.size 41 2 v (Samp.cutL zs f t).length (flat (Samp.cutL zs f t)) ∧ Below w.heap.size w w' := by
  obtain ⟨-, a, cap, rfl, hc, hm, -, hr⟩ := id h
  by_cases h0 : zs.length = 0
  · obtain rfl : zs = [] := List.eq_nil_of_length_eq_zero h0
    exact l2cut_zero a cap f t w
  · obtain ⟨b, off, rfl, hl, -⟩ := hr (by omega)
    refine (Samp.l2cut f t (smp_of_is h ⟨b, off, _, cap, rfl, hl⟩) hn).mono ?_
    rintro e w' ⟨r, rfl, o, hb⟩
    rw [sflat_eq] at o
    exact ⟨r, rfl, o, hb⟩
end Go.Proofs.Ytogdllkbiibicaa.Sam
namespace Go.Proofs.Ytogdllkbiibicaa.WinM
open Go.RowKit Rw
set_option linter.unusedVariables false
attribute [local go_sem ↓] Go.wp_at_zero Go.wp_at_succ
theorem own_new {w : World} {base : Nat} {cs : Array Value} {t : TypeId} (hb : base ≤ w.heap.size) (h : cs.size = 6) : (w.alloc (.cells cs t)).ownsRow base t 6 (.slice (some ⟨w.heap.size, 0, none⟩) 1 1) 1 cs.toList :=
  ⟨by simp [h], .inr ⟨w.heap.size, 1, cs, rfl, hb, heap_alloc_new w _, Nat.le_refl _, by unfold maxLen; omega, by simp [h], by simp [List.take_of_length_le, h]⟩⟩
abbrev Z6 : Array Value := #[.int .i64 0, .int .i64 0, .int .i64 0, .int .i64 0, .int .i64 0, .int .i64 0]
def vals (x : W6) : List Value := [.int .i64 x.1, .int .i64 x.2.1, .int .i64 x.2.2.1, .int .i64 x.2.2.2.1, .int .i64 x.2.2.2.2.1, .int .i64 x.2.2.2.2.2]
set_option maxRecDepth 100000 in
set_option maxHeartbeats 8000000 in
theorem l11win {w : World} {v : Value} {g : List SampMath.S} (b0 : Int) (h : Sam.Is w v g) (h0 : 0 < g.length) (hlen : g.length ≤ 10000) (hv : ∀ i, i < g.length → 0 ≤ (SampMath.at' g i).2 ∧ (SampMath.at' g i).2 ≤ 2147483647) :
    Calls Try.prog 47 #[.int .i64 b0, v] w fun e w' => e = .returned (.agg (vals (winTo b0 g g.length)).toArray) ∧ Below w.heap.size w w' := by
  obtain ⟨-, a, cap, rfl, hc, hm, -, -⟩ := id h
  obtain ⟨n, hn⟩ : ∃ n, n = g.length := ⟨_, rfl⟩
  rw [← hn] at hc h0 hlen h ⊢
  obtain ⟨b, off, rfl, hbl, hcell⟩ := Sam.v_cell h (Below.refl _ _) h0 hn
  have HC := hide hcell
  have HV := hide hv
  have HN := hide hn
  have hV0 := hv 0 (by omega)
  obtain ⟨V0, eV⟩ : ∃ V0, V0 = (SampMath.at' g 0).2 := ⟨_, rfl⟩
  have hx := (hcell 0 h0).2
  rw [← eV] at hx hV0
  have HV0 := hide eV
  unfold maxLen at hm
  have hn0 : (0 : Int) < (n : Int) := by omega
  obtain ⟨W, hW⟩ : ∃ W, w.alloc (.cells Z6 52) = W := ⟨_, rfl⟩
  have bW : Below w.heap.size w W := by rw [← hW]; exact (Below.refl _ _).alloc (Nat.le_refl _) _
  have zW : W.heap.size = w.heap.size + 1 := by rw [← hW]; simp
  have oR : W.ownsRow w.heap.size 52 6 (.slice (some ⟨w.heap.size, 0, none⟩) 1 1) 1 Z6.toList := by rw [← hW]; exact own_new (Nat.le_refl _) rfl
  have xW : W.cell? ⟨b, off + 1, none⟩ = some (.int .i64 V0) := (bW.cell (p := ⟨b, _, none⟩) hbl).trans (by simpa using hx)
  have hblW : b < W.heap.size := by omega
  have xD : W.drew.cell? ⟨b, off + 1, none⟩ = some (.int .i64 V0) := by simpa using xW
  have xA : (W.drew.alloc (.cells Z6 52)).cell? ⟨b, off + 1, none⟩ = some (.int .i64 V0) := (((Below.refl W.drew.heap.size W.drew).alloc (Nat.le_refl _) _).cell (p := ⟨b, _, none⟩) (by simpa using hblW)).trans xD
  clear hcell hv hn eV hx h
  go_enter Try.func47, Try.ntmps47
  go_wp2_with fail
  try rw [hW]
  clear hW
  go_region_with (fail)
  all_goals
    obtain ⟨W1, hW1⟩ : ∃ W1, W1 = (W.alloc (.cells #[.int .i64 b0, .int .i64 0, .int .i64 0, .int .i64 V0, .int .i64 V0, .int .i64 0] 52)).drew := ⟨_, rfl⟩
    rw [← hW1]
    have b1 : Below w.heap.size w W1 := by rw [hW1]; exact (bW.alloc bW.size _).drew
    have o1 : W1.ownsRow w.heap.size 52 6 (.slice (some ⟨w.heap.size + 1, 0, none⟩) 1 1) 1 (vals (winTo b0 g 0)) := by
      have := World.ownsRow.drew (own_new (w := W) (base := w.heap.size) (cs := #[.int .i64 b0, .int .i64 0, .int .i64 0, .int .i64 V0, .int .i64 V0, .int .i64 0]) (t := 52) bW.size rfl)
      rw [hW1, ← zW]
      rw [unhide HV0] at this ⊢
      exact this
    have r1 : W1.ownsRow w.heap.size 52 6 (.slice (some ⟨w.heap.size, 0, none⟩) 1 1) 1 Z6.toList := by
      rw [hW1]; exact World.ownsRow.drew (oR.alloc _)
    have HW := hide hW1
    clear hW1 xW xD xA oR
    go_wp2_with fail
    go_loopw [6] (fun iv wr => ∃ k : Nat, k ≤ n ∧ iv = .int .i64 k ∧ wr.ownsRow w.heap.size 52 6 (.slice (some ⟨w.heap.size + 1, 0, none⟩) 1 1) 1 (vals (winTo b0 g k)) ∧ wr.ownsRow w.heap.size 52 6 (.slice (some ⟨w.heap.size, 0, none⟩) 1 1) 1 Z6.toList ∧ Below w.heap.size w wr) (fun iv _ => n - (intOf iv).toNat)
    case atStart => exact ⟨0, Nat.zero_le _, rfl, o1, r1, b1⟩
    case round =>
      obtain ⟨k, hk, rfl, hox, hor, hbel⟩ := hrel
      by_cases hlt : k < n
      · have hcl := (unhide HC k hlt).2
        have hvk := unhide HV k (by have := unhide HN; omega)
        have hsm := winTo_sum (b := b0) (unhide HV) k (by have := unhide HN; omega)
        have hct := winTo_count b0 g k
        have hSu : winTo b0 g (k + 1) = upd (winTo b0 g k) (SampMath.at' g k).2 := rfl
        obtain ⟨V, eV⟩ : ∃ V, V = (SampMath.at' g k).2 := ⟨_, rfl⟩
        rw [← eV] at hcl hvk hSu
        obtain ⟨F, C, U, L, H, A, eX⟩ : ∃ F C U L H A, (F, C, U, L, H, A) = winTo b0 g k := ⟨_, _, _, _, _, _, rfl⟩
        rw [← eX] at hox hsm hct hSu
        simp only at hsm hct
        have hx : wr.cell? ⟨b, off + k * 2 + 1, none⟩ = some (.int .i64 V) := (hbel.cell (p := ⟨b, _, none⟩) hbl).trans hcl
        have hU : 0 ≤ U ∧ U ≤ 21474836470000 := by omega
        have hC : 0 ≤ C ∧ C ≤ 10000 := by omega
        have HSu := hide hSu
        have p0 : wr.ownsRow w.heap.size 52 6 (.slice (some ⟨w.heap.size + 1, 0, none⟩) 1 1) 1 [.int .i64 F, .int .i64 C, .int .i64 U, .int .i64 L, .int .i64 H, .int .i64 A] := hox
        have hk0 : (0 : Int) ≤ (k : Int) := Int.natCast_nonneg _
        have hk1 : (k : Int) < (n : Int) := by omega
        clear hcl hsm hct hSu eV eX hox
        have hd1 : wr.cell? ⟨w.heap.size + 1, 1, none⟩ = some (.int .i64 C) := by rw [p0.cellAt 1 (by omega)]; rfl
        have hf1 := p0.frozenAt 1
        have s1 := (p0.stored 1 (.int .i64 (C + 1))).1
        obtain ⟨w1, hw1⟩ : ∃ w', wr.setCell ⟨w.heap.size + 1, 1, none⟩ (.int .i64 (C + 1)) = w' := ⟨_, rfl⟩
        rw [hw1] at s1
        have q1 : w1.ownsRow w.heap.size 52 6 (.slice (some ⟨w.heap.size + 1, 0, none⟩) 1 1) 1 [.int .i64 F, .int .i64 (C + 1), .int .i64 U, .int .i64 L, .int .i64 H, .int .i64 A] := s1
        clear s1
        have hd2 : w1.cell? ⟨w.heap.size + 1, 2, none⟩ = some (.int .i64 U) := by rw [q1.cellAt 2 (by omega)]; rfl
        have hf2 := q1.frozenAt 2
        have s2 := (q1.stored 2 (.int .i64 (U + V))).1
        obtain ⟨w2, hw2⟩ : ∃ w', w1.setCell ⟨w.heap.size + 1, 2, none⟩ (.int .i64 (U + V)) = w' := ⟨_, rfl⟩
        rw [hw2] at s2
        have q2 : w2.ownsRow w.heap.size 52 6 (.slice (some ⟨w.heap.size + 1, 0, none⟩) 1 1) 1 [.int .i64 F, .int .i64 (C + 1), .int .i64 (U + V), .int .i64 L, .int .i64 H, .int .i64 A] := s2
        clear s2
        have hd5 : w2.cell? ⟨w.heap.size + 1, 5, none⟩ = some (.int .i64 A) := by rw [q2.cellAt 5 (by omega)]; rfl
        have hf5 := q2.frozenAt 5
        have s5 := (q2.stored 5 (.int .i64 V)).1
        obtain ⟨w3, hw5⟩ : ∃ w', w2.setCell ⟨w.heap.size + 1, 5, none⟩ (.int .i64 V) = w' := ⟨_, rfl⟩
        rw [hw5] at s5
        have q5 : w3.ownsRow w.heap.size 52 6 (.slice (some ⟨w.heap.size + 1, 0, none⟩) 1 1) 1 [.int .i64 F, .int .i64 (C + 1), .int .i64 (U + V), .int .i64 L, .int .i64 H, .int .i64 V] := s5
        clear s5
        have hd3 : w3.cell? ⟨w.heap.size + 1, 3, none⟩ = some (.int .i64 L) := by rw [q5.cellAt 3 (by omega)]; rfl
        have on3 := (((OnlyAt.refl (w.heap.size + 1) wr).setCell 1 (.int .i64 (C + 1))).setCell 2 (.int .i64 (U + V))).setCell 5 (.int .i64 V)
        rw [hw1, hw2, hw5] at on3
        by_cases hlo : V < L
        · have hdl : decide (V < L) = true := by simp; omega
          have hd3x : w3.cell? ⟨w.heap.size + 1, 3, none⟩ = some (.int .i64 L) := by rw [q5.cellAt 3 (by omega)]; rfl
          have hf3x := q5.frozenAt 3
          have s3x := (q5.stored 3 (.int .i64 V)).1
          obtain ⟨w4, hw3x⟩ : ∃ w', w3.setCell ⟨w.heap.size + 1, 3, none⟩ (.int .i64 V) = w' := ⟨_, rfl⟩
          rw [hw3x] at s3x
          have q3x : w4.ownsRow w.heap.size 52 6 (.slice (some ⟨w.heap.size + 1, 0, none⟩) 1 1) 1 [.int .i64 F, .int .i64 (C + 1), .int .i64 (U + V), .int .i64 V, .int .i64 H, .int .i64 V] := s3x
          clear s3x
          have on4 := on3.setCell 3 (.int .i64 V)
          rw [hw3x] at on4
          have hd4 : w4.cell? ⟨w.heap.size + 1, 4, none⟩ = some (.int .i64 H) := by rw [q3x.cellAt 4 (by omega)]; rfl
          by_cases hhi : H < V
          · have hdh : decide (H < V) = true := by simp; omega
            have hd4x : w4.cell? ⟨w.heap.size + 1, 4, none⟩ = some (.int .i64 H) := by rw [q3x.cellAt 4 (by omega)]; rfl
            have hf4x := q3x.frozenAt 4
            have s4x := (q3x.stored 4 (.int .i64 V)).1
            obtain ⟨w5, hw4x⟩ : ∃ w', w4.setCell ⟨w.heap.size + 1, 4, none⟩ (.int .i64 V) = w' := ⟨_, rfl⟩
            rw [hw4x] at s4x
            have q4x : w5.ownsRow w.heap.size 52 6 (.slice (some ⟨w.heap.size + 1, 0, none⟩) 1 1) 1 [.int .i64 F, .int .i64 (C + 1), .int .i64 (U + V), .int .i64 V, .int .i64 V, .int .i64 V] := s4x
            clear s4x
            have on5 := on4.setCell 4 (.int .i64 V)
            rw [hw4x] at on5
            have HF := hide (show winTo b0 g (k + 1) = (F, C + 1, U + V, V, V, V) by rw [unhide HSu]; simp only [upd]; rw [if_pos hlo, if_pos hhi])
            have RO := hide (on5.own hor (fun k hk => by simp only [Value.ownBlock, Option.some.injEq] at hk; omega))
            have RB := hide (hbel.trans (on5.below (show w.heap.size ≤ w.heap.size + 1 by omega)))
            have RQ := hide q4x
            clear on5 hor
            go_wp2_with fail
            go_roundw
            case rel => exact ⟨k + 1, by omega, by go_num, by rw [unhide HF]; exact unhide RQ, unhide RO, unhide RB⟩
            case measure => simp [intOf]; omega
          · have hdh : decide (H < V) = false := by simp; omega
            have HF := hide (show winTo b0 g (k + 1) = (F, C + 1, U + V, V, H, V) by rw [unhide HSu]; simp only [upd]; rw [if_pos hlo, if_neg hhi])
            have RO := hide (on4.own hor (fun k hk => by simp only [Value.ownBlock, Option.some.injEq] at hk; omega))
            have RB := hide (hbel.trans (on4.below (show w.heap.size ≤ w.heap.size + 1 by omega)))
            have RQ := hide q3x
            clear on4 hor
            go_wp2_with fail
            go_roundw
            case rel => exact ⟨k + 1, by omega, by go_num, by rw [unhide HF]; exact unhide RQ, unhide RO, unhide RB⟩
            case measure => simp [intOf]; omega
        · have hdl : decide (V < L) = false := by simp; omega
          have hd4 : w3.cell? ⟨w.heap.size + 1, 4, none⟩ = some (.int .i64 H) := by rw [q5.cellAt 4 (by omega)]; rfl
          by_cases hhi : H < V
          · have hdh : decide (H < V) = true := by simp; omega
            have hd4x : w3.cell? ⟨w.heap.size + 1, 4, none⟩ = some (.int .i64 H) := by rw [q5.cellAt 4 (by omega)]; rfl
            have hf4x := q5.frozenAt 4
            have s4x := (q5.stored 4 (.int .i64 V)).1
            obtain ⟨w5, hw4x⟩ : ∃ w', w3.setCell ⟨w.heap.size + 1, 4, none⟩ (.int .i64 V) = w' := ⟨_, rfl⟩
            rw [hw4x] at s4x
            have q4x : w5.ownsRow w.heap.size 52 6 (.slice (some ⟨w.heap.size + 1, 0, none⟩) 1 1) 1 [.int .i64 F, .int .i64 (C + 1), .int .i64 (U + V), .int .i64 L, .int .i64 V, .int .i64 V] := s4x
            clear s4x
            have on5 := on3.setCell 4 (.int .i64 V)
            rw [hw4x] at on5
            have HF := hide (show winTo b0 g (k + 1) = (F, C + 1, U + V, L, V, V) by rw [unhide HSu]; simp only [upd]; rw [if_neg hlo, if_pos hhi])
            have RO := hide (on5.own hor (fun k hk => by simp only [Value.ownBlock, Option.some.injEq] at hk; omega))
            have RB := hide (hbel.trans (on5.below (show w.heap.size ≤ w.heap.size + 1 by omega)))
            have RQ := hide q4x
            clear on5 hor
            go_wp2_with fail
            go_roundw
            case rel => exact ⟨k + 1, by omega, by go_num, by rw [unhide HF]; exact unhide RQ, unhide RO, unhide RB⟩
            case measure => simp [intOf]; omega
          · have hdh : decide (H < V) = false := by simp; omega
            have HF := hide (show winTo b0 g (k + 1) = (F, C + 1, U + V, L, H, V) by rw [unhide HSu]; simp only [upd]; rw [if_neg hlo, if_neg hhi])
            have RO := hide (on3.own hor (fun k hk => by simp only [Value.ownBlock, Option.some.injEq] at hk; omega))
            have RB := hide (hbel.trans (on3.below (show w.heap.size ≤ w.heap.size + 1 by omega)))
            have RQ := hide q5
            clear on3 hor
            go_wp2_with fail
            go_roundw
            case rel => exact ⟨k + 1, by omega, by go_num, by rw [unhide HF]; exact unhide RQ, unhide RO, unhide RB⟩
            case measure => simp [intOf]; omega
      · obtain rfl : k = n := by omega
        obtain ⟨F, C, U, L, H, A, eX⟩ : ∃ F C U L H A, (F, C, U, L, H, A) = winTo b0 g k := ⟨_, _, _, _, _, _, rfl⟩
        rw [← eX] at hox
        have HEX := hide eX
        have p0 : wr.ownsRow w.heap.size 52 6 (.slice (some ⟨w.heap.size + 1, 0, none⟩) 1 1) 1 [.int .i64 F, .int .i64 C, .int .i64 U, .int .i64 L, .int .i64 H, .int .i64 A] := hox
        have hd0 : wr.cell? ⟨w.heap.size + 1, 0, none⟩ = some (.int .i64 F) := by rw [p0.cellAt 0 (by omega)]; rfl
        have hd1 : wr.cell? ⟨w.heap.size + 1, 1, none⟩ = some (.int .i64 C) := by rw [p0.cellAt 1 (by omega)]; rfl
        have hd2 : wr.cell? ⟨w.heap.size + 1, 2, none⟩ = some (.int .i64 U) := by rw [p0.cellAt 2 (by omega)]; rfl
        have hd3 : wr.cell? ⟨w.heap.size + 1, 3, none⟩ = some (.int .i64 L) := by rw [p0.cellAt 3 (by omega)]; rfl
        have hd4 : wr.cell? ⟨w.heap.size + 1, 4, none⟩ = some (.int .i64 H) := by rw [p0.cellAt 4 (by omega)]; rfl
        have hd5 : wr.cell? ⟨w.heap.size + 1, 5, none⟩ = some (.int .i64 A) := by rw [p0.cellAt 5 (by omega)]; rfl
        clear eX hox p0
        have hr0 : wr.cell? ⟨w.heap.size, 0, none⟩ = some (.int .i64 0) := by rw [hor.cellAt 0 (by omega)]; rfl
        have hg0 := hor.frozenAt 0
        have t0 := (hor.stored 0 (.int .i64 F)).1
        obtain ⟨y0, hy0⟩ : ∃ w', wr.setCell ⟨w.heap.size, 0, none⟩ (.int .i64 F) = w' := ⟨_, rfl⟩
        rw [hy0] at t0
        have hr1 : y0.cell? ⟨w.heap.size, 1, none⟩ = some (.int .i64 0) := by rw [t0.cellAt 1 (by omega)]; rfl
        have hg1 := t0.frozenAt 1
        have t1 := (t0.stored 1 (.int .i64 C)).1
        obtain ⟨y1, hy1⟩ : ∃ w', y0.setCell ⟨w.heap.size, 1, none⟩ (.int .i64 C) = w' := ⟨_, rfl⟩
        rw [hy1] at t1
        have hr2 : y1.cell? ⟨w.heap.size, 2, none⟩ = some (.int .i64 0) := by rw [t1.cellAt 2 (by omega)]; rfl
        have hg2 := t1.frozenAt 2
        have t2 := (t1.stored 2 (.int .i64 U)).1
        obtain ⟨y2, hy2⟩ : ∃ w', y1.setCell ⟨w.heap.size, 2, none⟩ (.int .i64 U) = w' := ⟨_, rfl⟩
        rw [hy2] at t2
        have hr3 : y2.cell? ⟨w.heap.size, 3, none⟩ = some (.int .i64 0) := by rw [t2.cellAt 3 (by omega)]; rfl
        have hg3 := t2.frozenAt 3
        have t3 := (t2.stored 3 (.int .i64 L)).1
        obtain ⟨y3, hy3⟩ : ∃ w', y2.setCell ⟨w.heap.size, 3, none⟩ (.int .i64 L) = w' := ⟨_, rfl⟩
        rw [hy3] at t3
        have hr4 : y3.cell? ⟨w.heap.size, 4, none⟩ = some (.int .i64 0) := by rw [t3.cellAt 4 (by omega)]; rfl
        have hg4 := t3.frozenAt 4
        have t4 := (t3.stored 4 (.int .i64 H)).1
        obtain ⟨y4, hy4⟩ : ∃ w', y3.setCell ⟨w.heap.size, 4, none⟩ (.int .i64 H) = w' := ⟨_, rfl⟩
        rw [hy4] at t4
        have hr5 : y4.cell? ⟨w.heap.size, 5, none⟩ = some (.int .i64 0) := by rw [t4.cellAt 5 (by omega)]; rfl
        have hg5 := t4.frozenAt 5
        have t5 := (t4.stored 5 (.int .i64 A)).1
        obtain ⟨y5, hy5⟩ : ∃ w', y4.setCell ⟨w.heap.size, 5, none⟩ (.int .i64 A) = w' := ⟨_, rfl⟩
        rw [hy5] at t5
        have on := OnlyAt.refl w.heap.size wr
        have on := on.setCell 0 (.int .i64 F)
        rw [hy0] at on
        have on := on.setCell 1 (.int .i64 C)
        rw [hy1] at on
        have on := on.setCell 2 (.int .i64 U)
        rw [hy2] at on
        have on := on.setCell 3 (.int .i64 L)
        rw [hy3] at on
        have on := on.setCell 4 (.int .i64 H)
        rw [hy4] at on
        have on := on.setCell 5 (.int .i64 A)
        rw [hy5] at on
        have z0 : y5.cell? ⟨w.heap.size, 0, none⟩ = some (.int .i64 F) := by rw [t5.cellAt 0 (by omega)]; rfl
        have z1 : y5.cell? ⟨w.heap.size, 1, none⟩ = some (.int .i64 C) := by rw [t5.cellAt 1 (by omega)]; rfl
        have z2 : y5.cell? ⟨w.heap.size, 2, none⟩ = some (.int .i64 U) := by rw [t5.cellAt 2 (by omega)]; rfl
        have z3 : y5.cell? ⟨w.heap.size, 3, none⟩ = some (.int .i64 L) := by rw [t5.cellAt 3 (by omega)]; rfl
        have z4 : y5.cell? ⟨w.heap.size, 4, none⟩ = some (.int .i64 H) := by rw [t5.cellAt 4 (by omega)]; rfl
        have z5 : y5.cell? ⟨w.heap.size, 5, none⟩ = some (.int .i64 A) := by rw [t5.cellAt 5 (by omega)]; rfl
        have RB := hide (hbel.trans (on.below (Nat.le_refl _)))
        clear on hor t0 t1 t2 t3 t4 t5
        go_wp2_with fail
        refine bodyPost_ret (v := .agg #[.int .i64 F, .int .i64 C, .int .i64 U, .int .i64 L, .int .i64 H, .int .i64 A]) (by simp [results, Try.results47, go_sem, z0, z1, z2, z3, z4, z5]) rfl ⟨by rw [← unhide HEX]; rfl, unhide RB⟩
end Go.Proofs.Ytogdllkbiibicaa.WinM
