/- My own texts of one claim, laid together by program: RdOne, DrawBig, In. -/
import Derived.Test.YthcdohbfnflkiaaG2ba2f89b3e
import Derived.Test.YthcdohbfnflkiaaG95bb76ca01
/- The laws draw their inputs from bytes: what is drawn lies within bounds, and nothing that lay there is turned. -/
namespace Go.Proofs.Ythcdohbfnflkiaa.Draw
open Go.RowKit Rw
set_option linter.unusedVariables false
attribute [local go_sem ↓] Go.wp_at_zero Go.wp_at_succ
/-- numbers that lie in a block of their own -/
def Ints (w : World) (g : Nat) (l : List Int) : Prop := ∀ i, i < l.length → w.cell? ⟨g, i, none⟩ = some (.int .i64 (l.getD i 0))
set_option maxHeartbeats 1000000 in
theorem one_any (rb p g : Nat) (l : List Int) (w : World) (h : Rd w rb p) (hp : p ≤ 1000000) (hl : 0 < l.length) (hl2 : l.length ≤ 1000) (hg : Ints w g l) (hgs : g < w.heap.size) (hne : g ≠ rb) :
    Calls Try.prog 40 #[.pointer (some ⟨rb, 0, none⟩), .slice (some ⟨g, 0, none⟩) l.length l.length] w fun e w' => ∃ x : Int, e = .returned (.int .i64 x) ∧ x ∈ l ∧ Rd w' rb (p + 1) ∧ w.grownBy w' (some rb) := by
  obtain ⟨n, hn⟩ : ∃ n, n = l.length := ⟨_, rfl⟩
  rw [← hn]
  have HN := hide hn
  have n1 : 0 < n := by omega
  have n2 : n ≤ 1000 := by omega
  have HP := hide (fun k (hk : k ≤ (4294967296 : Int)) => pick_any rb p k w h hp hk)
  clear h hn hl hl2
  go_enter Try.func40, Try.ntmps40
  go_wp2_with fail
  refine (unhide HP _ (by omega)).mono ?_
  rintro e w1 ⟨x, rfl, x0, x1, -, r1, g1⟩
  have x2 : x < (n : Int) := x1 (by omega)
  obtain ⟨k, rfl⟩ := Int.eq_ofNat_of_zero_le x0
  have hk : k < n := by omega
  have hc : w1.cell? ⟨g, k, none⟩ = some (.int .i64 (l.getD k 0)) := (grown_cell g1 hgs hne).trans (hg k (by have := unhide HN; omega))
  have hm := hide (show l.getD k 0 ∈ l by
    have hk' : k < l.length := by have := unhide HN; omega
    simp [List.getD, hk'])
  generalize l.getD k 0 = X at hc hm
  clear x1
  go_wp2
  go_ret
  exact ⟨X, rfl, unhide hm, r1, g1⟩
theorem ints_block {w : World} {g : Nat} {l : List Int} {t : TypeId} (h : w.heap[g]? = some (.cells (l.map (Value.int .i64)).toArray t (0, 0))) : Ints w g l := fun i hi => by
  rw [cell_of_row w g i _ _ _ h]
  simp [List.getD, hi]
/-- one of numbers that are written out -/
theorem one_new (rb p : Nat) (l : List Int) (w : World) (h : Rd w rb p) (hp : p ≤ 1000000) (hl : 0 < l.length) (hl2 : l.length ≤ 1000) :
    Calls Try.prog 40 #[.pointer (some ⟨rb, 0, none⟩), .slice (some ⟨w.heap.size, 0, none⟩) l.length l.length] (w.alloc (.cells (l.map (Value.int .i64)).toArray 3)) fun e w' => ∃ x : Int, e = .returned (.int .i64 x) ∧ x ∈ l ∧ Rd w' rb (p + 1) ∧ w.grownBy w' (some rb) := by
  have hb : Below w.heap.size w (w.alloc (.cells (l.map (Value.int .i64)).toArray 3)) := (Below.refl _ _).alloc (Nat.le_refl _) _
  refine (one_any rb p w.heap.size l _ (h.below hb) hp hl hl2 (ints_block (heap_alloc_new w _)) (by simp) (by have := h.lt; omega)).mono ?_
  rintro e w' ⟨x, rfl, hx, hr, hg⟩
  exact ⟨x, rfl, hx, hr, grown_trans (grown_below hb) hg⟩
end Go.Proofs.Ythcdohbfnflkiaa.Draw

/- Great numbers are drawn. -/
namespace Go.Proofs.Ythcdohbfnflkiaa.Draw
open Go.RowKit Rw
set_option linter.unusedVariables false
attribute [local go_sem ↓] Go.wp_at_zero Go.wp_at_succ
set_option maxRecDepth 100000 in
set_option maxHeartbeats 2000000 in
theorem big_any (rb p n : Nat) (w : World) (h : Rd w rb p) (hp : p ≤ 900000) (hn : 0 < n) (hn2 : n ≤ 4294967296) :
    Calls Try.prog 57 #[.pointer (some ⟨rb, 0, none⟩), .int .i64 n] w fun e w' => ∃ x : Nat, e = .returned (.int .i64 x) ∧ x < n ∧ Rd w' rb (p + 3) ∧ w.grownBy w' (some rb) := by
  have HR := hide h
  clear h
  go_enter Try.func57, Try.ntmps57
  go_wp2_with fail
  refine (pick_any rb p _ _ (unhide HR) (by omega) (by omega)).mono ?_
  rintro e w1 ⟨x, rfl, x0, x1, -, r1, g1⟩
  have x2 : x < 256 := x1 (by omega)
  clear x1 HR
  go_wp2_with fail
  refine (pick_any rb (p + 1) _ _ r1 (by omega) (by omega)).mono ?_
  rintro e w2 ⟨y, rfl, y0, y1, -, r2, g2⟩
  have y2 : y < 256 := y1 (by omega)
  have q2 := grown_trans g1 g2
  clear y1 r1 g1 g2
  go_wp2_with fail
  refine (pick_any rb (p + 1 + 1) _ _ r2 (by omega) (by omega)).mono ?_
  rintro e w3 ⟨z, rfl, z0, z1, -, r3, g3⟩
  have z2 : z < 256 := z1 (by omega)
  have q3 := grown_trans q2 g3
  clear z1 r2 q2 g3
  obtain ⟨X, hX⟩ : ∃ X : Nat, (X : Int) = (x * 65536 + y * 256 + z) % (n : Int) := ⟨((x * 65536 + y * 256 + z) % (n : Int)).toNat, Int.toNat_of_nonneg (Int.emod_nonneg _ (by omega))⟩
  have hX2 : X < n := by have := Int.emod_lt_of_pos (x * 65536 + y * 256 + z) (show (0 : Int) < (n : Int) by omega); omega
  have hX3 : (x * 65536 + y * 256 + z).tmod (n : Int) = (X : Int) := by rw [Int.tmod_eq_emod_of_nonneg (by omega), hX]
  have hX4 := hX.symm
  clear hX
  go_wp2
  go_ret
  exact ⟨X, rfl, hX2, r3, q3⟩
end Go.Proofs.Ythcdohbfnflkiaa.Draw

/- Whether a number lies between two others: spec.l1In. No condition. -/
namespace Go.Proofs.Ythcdohbfnflkiaa.Zig
open Go.RowKit
def inB (n lo hi : Int) : Bool := decide (lo ≤ n) && decide (n ≤ hi)
theorem in_yes (n lo hi : Int) (w : World) (h1 : lo ≤ n) (h2 : n ≤ hi) : Calls Try.prog 38 #[.int .i64 n, .int .i64 lo, .int .i64 hi] w fun e w' => e = .returned (.bool true) ∧ w' = w := by
  go_enter Try.func38, Try.ntmps38
  go_wp2
  go_ret
  exact ⟨rfl, rfl⟩
theorem in_low (n lo hi : Int) (w : World) (h1 : n < lo) : Calls Try.prog 38 #[.int .i64 n, .int .i64 lo, .int .i64 hi] w fun e w' => e = .returned (.bool false) ∧ w' = w := by
  go_enter Try.func38, Try.ntmps38
  go_wp2
  go_ret
  exact ⟨rfl, rfl⟩
theorem in_high (n lo hi : Int) (w : World) (h0 : lo ≤ n) (h1 : hi < n) : Calls Try.prog 38 #[.int .i64 n, .int .i64 lo, .int .i64 hi] w fun e w' => e = .returned (.bool false) ∧ w' = w := by
  go_enter Try.func38, Try.ntmps38
  go_wp2
  go_ret
  exact ⟨ret_bool (by simpa using h1), rfl⟩
theorem in_any (n lo hi : Int) (w : World) : Calls Try.prog 38 #[.int .i64 n, .int .i64 lo, .int .i64 hi] w fun e w' => e = .returned (.bool (inB n lo hi)) ∧ w' = w := by
  unfold inB
  by_cases h1 : lo ≤ n
  · by_cases h2 : n ≤ hi
    · rw [decide_eq_true h1, decide_eq_true h2]; exact in_yes n lo hi w h1 h2
    · rw [decide_eq_false h2, Bool.and_false]; exact in_high n lo hi w h1 (by omega)
  · rw [decide_eq_false h1, Bool.false_and]; exact in_low n lo hi w (by omega)
end Go.Proofs.Ythcdohbfnflkiaa.Zig
