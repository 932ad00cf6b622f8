/- My own texts of one claim, laid together by program: RdOne, DrawBig, In, SampMath. -/
import Derived.Test.YtncjagdnebpaaaaGffb30f2161
import Derived.Test.YtncjagdnebpaaaaGb216fbfaf6
/- The laws draw their inputs from bytes: what is drawn lies within bounds, and nothing that lay there is turned. -/
namespace Go.Proofs.Ytncjagdnebpaaaa.Draw
open Go.RowKit Rw
set_option linter.unusedVariables false
attribute [local go_sem ↓] Go.wp_at_zero Go.wp_at_succ
/-- numbers that lie in a block of their own -/
def Ints (w : World) (g : Nat) (l : List Int) : Prop := ∀ i, i < l.length → w.cell? ⟨g, i, none⟩ = some (.int .i64 (l.getD i 0))
set_option maxHeartbeats 1000000 in
theorem one_any (rb p g : Nat) (l : List Int) (w : World) (h : Rd w rb p) (hp : p ≤ 1000000) (hl : 0 < l.length) (hl2 : l.length ≤ 1000) (hg : Ints w g l) (hgs : g < w.heap.size) (hne : g ≠ rb) :
    Calls Try.prog 35 #[.pointer (some ⟨rb, 0, none⟩), .slice (some ⟨g, 0, none⟩) l.length l.length] w fun e w' => ∃ x : Int, e = .returned (.int .i64 x) ∧ x ∈ l ∧ Rd w' rb (p + 1) ∧ w.grownBy w' (some rb) := by
  obtain ⟨n, hn⟩ : ∃ n, n = l.length := ⟨_, rfl⟩
  rw [← hn]
  have HN := hide hn
  have n1 : 0 < n := by omega
  have n2 : n ≤ 1000 := by omega
  have HP := hide (fun k (hk : k ≤ (4294967296 : Int)) => pick_any rb p k w h hp hk)
  clear h hn hl hl2
  go_enter Try.func35, Try.ntmps35
  go_wp2_with fail
  refine (unhide HP _ (by omega)).mono ?_
  rintro e w1 ⟨x, rfl, x0, x1, -, r1, g1⟩
  have x2 : x < (n : Int) := x1 (by omega)
  obtain ⟨k, rfl⟩ := Int.eq_ofNat_of_zero_le x0
  have hk : k < n := by omega
  have hc : w1.cell? ⟨g, k, none⟩ = some (.int .i64 (l.getD k 0)) := (grown_cell g1 hgs hne).trans (hg k (by have := unhide HN; omega))
  have hm := hide (show l.getD k 0 ∈ l by
    have hk' : k < l.length := by have := unhide HN; omega
    simp [List.getD, hk'])
  generalize l.getD k 0 = X at hc hm
  clear x1
  go_wp2
  go_ret
  exact ⟨X, rfl, unhide hm, r1, g1⟩
theorem ints_block {w : World} {g : Nat} {l : List Int} {t : TypeId} (h : w.heap[g]? = some (.cells (l.map (Value.int .i64)).toArray t (0, 0))) : Ints w g l := fun i hi => by
  rw [cell_of_row w g i _ _ _ h]
  simp [List.getD, hi]
/-- one of numbers that are written out -/
theorem one_new (rb p : Nat) (l : List Int) (w : World) (h : Rd w rb p) (hp : p ≤ 1000000) (hl : 0 < l.length) (hl2 : l.length ≤ 1000) :
    Calls Try.prog 35 #[.pointer (some ⟨rb, 0, none⟩), .slice (some ⟨w.heap.size, 0, none⟩) l.length l.length] (w.alloc (.cells (l.map (Value.int .i64)).toArray 3)) fun e w' => ∃ x : Int, e = .returned (.int .i64 x) ∧ x ∈ l ∧ Rd w' rb (p + 1) ∧ w.grownBy w' (some rb) := by
  have hb : Below w.heap.size w (w.alloc (.cells (l.map (Value.int .i64)).toArray 3)) := (Below.refl _ _).alloc (Nat.le_refl _) _
  refine (one_any rb p w.heap.size l _ (h.below hb) hp hl hl2 (ints_block (heap_alloc_new w _)) (by simp) (by have := h.lt; omega)).mono ?_
  rintro e w' ⟨x, rfl, hx, hr, hg⟩
  exact ⟨x, rfl, hx, hr, grown_trans (grown_below hb) hg⟩
end Go.Proofs.Ytncjagdnebpaaaa.Draw

/- Great numbers are drawn. -/
namespace Go.Proofs.Ytncjagdnebpaaaa.Draw
open Go.RowKit Rw
set_option linter.unusedVariables false
attribute [local go_sem ↓] Go.wp_at_zero Go.wp_at_succ
set_option maxRecDepth 100000 in
set_option maxHeartbeats 2000000 in
theorem big_any (rb p n : Nat) (w : World) (h : Rd w rb p) (hp : p ≤ 900000) (hn : 0 < n) (hn2 : n ≤ 4294967296) :
    Calls Try.prog 36 #[.pointer (some ⟨rb, 0, none⟩), .int .i64 n] w fun e w' => ∃ x : Nat, e = .returned (.int .i64 x) ∧ x < n ∧ Rd w' rb (p + 3) ∧ w.grownBy w' (some rb) := by
  have HR := hide h
  clear h
  go_enter Try.func36, Try.ntmps36
  go_wp2_with fail
  refine (pick_any rb p _ _ (unhide HR) (by omega) (by omega)).mono ?_
  rintro e w1 ⟨x, rfl, x0, x1, -, r1, g1⟩
  have x2 : x < 256 := x1 (by omega)
  clear x1 HR
  go_wp2_with fail
  refine (pick_any rb (p + 1) _ _ r1 (by omega) (by omega)).mono ?_
  rintro e w2 ⟨y, rfl, y0, y1, -, r2, g2⟩
  have y2 : y < 256 := y1 (by omega)
  have q2 := grown_trans g1 g2
  clear y1 r1 g1 g2
  go_wp2_with fail
  refine (pick_any rb (p + 1 + 1) _ _ r2 (by omega) (by omega)).mono ?_
  rintro e w3 ⟨z, rfl, z0, z1, -, r3, g3⟩
  have z2 : z < 256 := z1 (by omega)
  have q3 := grown_trans q2 g3
  clear z1 r2 q2 g3
  obtain ⟨X, hX⟩ : ∃ X : Nat, (X : Int) = (x * 65536 + y * 256 + z) % (n : Int) := ⟨((x * 65536 + y * 256 + z) % (n : Int)).toNat, Int.toNat_of_nonneg (Int.emod_nonneg _ (by omega))⟩
  have hX2 : X < n := by have := Int.emod_lt_of_pos (x * 65536 + y * 256 + z) (show (0 : Int) < (n : Int) by omega); omega
  have hX3 : (x * 65536 + y * 256 + z).tmod (n : Int) = (X : Int) := by rw [Int.tmod_eq_emod_of_nonneg (by omega), hX]
  have hX4 := hX.symm
  clear hX
  go_wp2
  go_ret
  exact ⟨X, rfl, hX2, r3, q3⟩
end Go.Proofs.Ytncjagdnebpaaaa.Draw

/- Whether a number lies between two others: spec.l1In. No condition. -/
namespace Go.Proofs.Ytncjagdnebpaaaa.Zig
open Go.RowKit
def inB (n lo hi : Int) : Bool := decide (lo ≤ n) && decide (n ≤ hi)
theorem in_yes (n lo hi : Int) (w : World) (h1 : lo ≤ n) (h2 : n ≤ hi) : Calls Try.prog 31 #[.int .i64 n, .int .i64 lo, .int .i64 hi] w fun e w' => e = .returned (.bool true) ∧ w' = w := by
  go_enter Try.func31, Try.ntmps31
  go_wp2
  go_ret
  exact ⟨rfl, rfl⟩
theorem in_low (n lo hi : Int) (w : World) (h1 : n < lo) : Calls Try.prog 31 #[.int .i64 n, .int .i64 lo, .int .i64 hi] w fun e w' => e = .returned (.bool false) ∧ w' = w := by
  go_enter Try.func31, Try.ntmps31
  go_wp2
  go_ret
  exact ⟨rfl, rfl⟩
theorem in_high (n lo hi : Int) (w : World) (h0 : lo ≤ n) (h1 : hi < n) : Calls Try.prog 31 #[.int .i64 n, .int .i64 lo, .int .i64 hi] w fun e w' => e = .returned (.bool false) ∧ w' = w := by
  go_enter Try.func31, Try.ntmps31
  go_wp2
  go_ret
  exact ⟨ret_bool (by simpa using h1), rfl⟩
theorem in_any (n lo hi : Int) (w : World) : Calls Try.prog 31 #[.int .i64 n, .int .i64 lo, .int .i64 hi] w fun e w' => e = .returned (.bool (inB n lo hi)) ∧ w' = w := by
  unfold inB
  by_cases h1 : lo ≤ n
  · by_cases h2 : n ≤ hi
    · rw [decide_eq_true h1, decide_eq_true h2]; exact in_yes n lo hi w h1 h2
    · rw [decide_eq_false h2, Bool.and_false]; exact in_high n lo hi w h1 (by omega)
  · rw [decide_eq_false h1, Bool.false_and]; exact in_low n lo hi w (by omega)
end Go.Proofs.Ytncjagdnebpaaaa.Zig

/- Samples, as plain mathematics: when they are ok, what is cut of them, what both are together. No condition. -/
namespace Go.Proofs.Ytncjagdnebpaaaa.SampMath
abbrev S := Int × Int
def inR (t v : Int) : Bool := decide (0 ≤ t) && decide (t ≤ 9999) && (decide (0 ≤ v) && decide (v ≤ 2147483647))
def at' (zs : List S) (i : Nat) : S := zs.getD i (0, 0)
def stepOk (zs : List S) (i : Nat) : Bool := inR (at' zs i).1 (at' zs i).2 && (i == 0 || decide ((at' zs (i - 1)).1 < (at' zs i).1))
def okTo (zs : List S) (k : Nat) : Bool := (List.range k).all (stepOk zs)
def ok (zs : List S) : Bool := okTo zs zs.length

theorem inR_yes {t v : Int} (h1 : 0 ≤ t) (h2 : t ≤ 9999) (h3 : 0 ≤ v) (h4 : v ≤ 2147483647) : inR t v = true := by simp [inR, h1, h2, h3, h4]
theorem inR_iff {t v : Int} : inR t v = true ↔ 0 ≤ t ∧ t ≤ 9999 ∧ 0 ≤ v ∧ v ≤ 2147483647 := by simp [inR, and_assoc]
theorem inR_no {t v : Int} (h : t < 0 ∨ 9999 < t ∨ v < 0 ∨ 2147483647 < v) : inR t v = false := by
  rw [Bool.eq_false_iff]; intro e; rw [inR_iff] at e; omega
theorem okTo_zero (zs : List S) : okTo zs 0 = true := rfl
theorem okTo_succ (zs : List S) (k : Nat) : okTo zs (k + 1) = (okTo zs k && stepOk zs k) := by simp [okTo, List.range_succ]
theorem ok_of_bad {zs : List S} {k : Nat} (hk : k < zs.length) (h : stepOk zs k = false) : ok zs = false := by
  unfold ok okTo
  rw [List.all_eq_false]
  exact ⟨k, List.mem_range.2 hk, by simp [h]⟩
theorem stepOk_first {zs : List S} (h : inR (at' zs 0).1 (at' zs 0).2 = true) : stepOk zs 0 = true := by simp [stepOk, h]
theorem stepOk_next {zs : List S} {k : Nat} (h : inR (at' zs k).1 (at' zs k).2 = true) (h' : (at' zs (k - 1)).1 < (at' zs k).1) : stepOk zs k = true := by simp [stepOk, h, h']
theorem stepOk_range {zs : List S} {k : Nat} (h : inR (at' zs k).1 (at' zs k).2 = false) : stepOk zs k = false := by simp [stepOk, h]
theorem stepOk_late {zs : List S} {k : Nat} (hk : 0 < k) (h' : (at' zs k).1 ≤ (at' zs (k - 1)).1) : stepOk zs k = false := by
  have h0 : (k == 0) = false := by simp; omega
  simp [stepOk, h0]
  intro _
  exact h'
theorem ok_at {zs : List S} (h : ok zs = true) {k : Nat} (hk : k < zs.length) : stepOk zs k = true := by
  unfold ok okTo at h
  exact List.all_eq_true.1 h k (List.mem_range.2 hk)
theorem ok_range {zs : List S} (h : ok zs = true) {k : Nat} (hk : k < zs.length) : 0 ≤ (at' zs k).1 ∧ (at' zs k).1 ≤ 9999 ∧ 0 ≤ (at' zs k).2 ∧ (at' zs k).2 ≤ 2147483647 := by
  have := ok_at h hk
  unfold stepOk at this
  rw [Bool.and_eq_true] at this
  exact inR_iff.1 this.1
theorem ok_step {zs : List S} (h : ok zs = true) {k : Nat} (hk : k + 1 < zs.length) : (at' zs k).1 < (at' zs (k + 1)).1 := by
  have := ok_at h hk
  unfold stepOk at this
  rw [Bool.and_eq_true] at this
  simpa using this.2
theorem ok_lt {zs : List S} (h : ok zs = true) {i j : Nat} (hij : i < j) (hj : j < zs.length) : (at' zs i).1 < (at' zs j).1 := by
  induction j with
  | zero => omega
  | succ j ih =>
    have h1 := ok_step h hj
    by_cases e : i = j
    · subst e; exact h1
    · have := ih (by omega) (by omega); omega
/-- the cells of samples, one behind the other -/
theorem at_snoc (zs : List S) (k : Nat) (h : k < zs.length) : zs.take (k + 1) = zs.take k ++ [at' zs k] := by
  rw [List.take_succ_eq_append_getElem h]; simp [at', List.getD, h]
end Go.Proofs.Ytncjagdnebpaaaa.SampMath
