/- My own texts of one claim, laid together by program: In, SampMath. -/
import Derived.Test.YtogdllkbiibicaaGb12ef6a27c
/- Whether a number lies between two others: spec.l1In. No condition. -/
namespace Go.Proofs.Ytogdllkbiibicaa.Zig
open Go.RowKit
def inB (n lo hi : Int) : Bool := decide (lo ≤ n) && decide (n ≤ hi)
theorem in_yes (n lo hi : Int) (w : World) (h1 : lo ≤ n) (h2 : n ≤ hi) : Calls Try.prog 40 #[.int .i64 n, .int .i64 lo, .int .i64 hi] w fun e w' => e = .returned (.bool true) ∧ w' = w := by
  go_enter Try.func40, Try.ntmps40
  go_wp2
  go_ret
  exact ⟨rfl, rfl⟩
theorem in_low (n lo hi : Int) (w : World) (h1 : n < lo) : Calls Try.prog 40 #[.int .i64 n, .int .i64 lo, .int .i64 hi] w fun e w' => e = .returned (.bool false) ∧ w' = w := by
  go_enter Try.func40, Try.ntmps40
  go_wp2
  go_ret
  exact ⟨rfl, rfl⟩
theorem in_high (n lo hi : Int) (w : World) (h0 : lo ≤ n) (h1 : hi < n) : Calls Try.prog 40 #[.int .i64 n, .int .i64 lo, .int .i64 hi] w fun e w' => e = .returned (.bool false) ∧ w' = w := by
  go_enter Try.func40, Try.ntmps40
  go_wp2
  go_ret
  exact ⟨ret_bool (by simpa using h1), rfl⟩
theorem in_any (n lo hi : Int) (w : World) : Calls Try.prog 40 #[.int .i64 n, .int .i64 lo, .int .i64 hi] w fun e w' => e = .returned (.bool (inB n lo hi)) ∧ w' = w := by
  unfold inB
  by_cases h1 : lo ≤ n
  · by_cases h2 : n ≤ hi
    · rw [decide_eq_true h1, decide_eq_true h2]; exact in_yes n lo hi w h1 h2
    · rw [decide_eq_false h2, Bool.and_false]; exact in_high n lo hi w h1 (by omega)
  · rw [decide_eq_false h1, Bool.false_and]; exact in_low n lo hi w (by omega)
end Go.Proofs.Ytogdllkbiibicaa.Zig

/- Samples, as plain mathematics: when they are ok, what is cut of them, what both are together. No condition. -/
namespace Go.Proofs.Ytogdllkbiibicaa.SampMath
abbrev S := Int × Int
def inR (t v : Int) : Bool := decide (0 ≤ t) && decide (t ≤ 9999) && (decide (0 ≤ v) && decide (v ≤ 2147483647))
def at' (zs : List S) (i : Nat) : S := zs.getD i (0, 0)
def stepOk (zs : List S) (i : Nat) : Bool := inR (at' zs i).1 (at' zs i).2 && (i == 0 || decide ((at' zs (i - 1)).1 < (at' zs i).1))
def okTo (zs : List S) (k : Nat) : Bool := (List.range k).all (stepOk zs)
def ok (zs : List S) : Bool := okTo zs zs.length

theorem inR_yes {t v : Int} (h1 : 0 ≤ t) (h2 : t ≤ 9999) (h3 : 0 ≤ v) (h4 : v ≤ 2147483647) : inR t v = true := by simp [inR, h1, h2, h3, h4]
theorem inR_iff {t v : Int} : inR t v = true ↔ 0 ≤ t ∧ t ≤ 9999 ∧ 0 ≤ v ∧ v ≤ 2147483647 := by simp [inR, and_assoc]
theorem inR_no {t v : Int} (h : t < 0 ∨ 9999 < t ∨ v < 0 ∨ 2147483647 < v) : inR t v = false := by
  rw [Bool.eq_false_iff]; intro e; rw [inR_iff] at e; omega
theorem okTo_zero (zs : List S) : okTo zs 0 = true := rfl
theorem okTo_succ (zs : List S) (k : Nat) : okTo zs (k + 1) = (okTo zs k && stepOk zs k) := by simp [okTo, List.range_succ]
theorem ok_of_bad {zs : List S} {k : Nat} (hk : k < zs.length) (h : stepOk zs k = false) : ok zs = false := by
  unfold ok okTo
  rw [List.all_eq_false]
  exact ⟨k, List.mem_range.2 hk, by simp [h]⟩
theorem stepOk_first {zs : List S} (h : inR (at' zs 0).1 (at' zs 0).2 = true) : stepOk zs 0 = true := by simp [stepOk, h]
theorem stepOk_next {zs : List S} {k : Nat} (h : inR (at' zs k).1 (at' zs k).2 = true) (h' : (at' zs (k - 1)).1 < (at' zs k).1) : stepOk zs k = true := by simp [stepOk, h, h']
theorem stepOk_range {zs : List S} {k : Nat} (h : inR (at' zs k).1 (at' zs k).2 = false) : stepOk zs k = false := by simp [stepOk, h]
theorem stepOk_late {zs : List S} {k : Nat} (hk : 0 < k) (h' : (at' zs k).1 ≤ (at' zs (k - 1)).1) : stepOk zs k = false := by
  have h0 : (k == 0) = false := by simp; omega
  simp [stepOk, h0]
  intro _
  exact h'
theorem ok_at {zs : List S} (h : ok zs = true) {k : Nat} (hk : k < zs.length) : stepOk zs k = true := by
  unfold ok okTo at h
  exact List.all_eq_true.1 h k (List.mem_range.2 hk)
theorem ok_range {zs : List S} (h : ok zs = true) {k : Nat} (hk : k < zs.length) : 0 ≤ (at' zs k).1 ∧ (at' zs k).1 ≤ 9999 ∧ 0 ≤ (at' zs k).2 ∧ (at' zs k).2 ≤ 2147483647 := by
  have := ok_at h hk
  unfold stepOk at this
  rw [Bool.and_eq_true] at this
  exact inR_iff.1 this.1
theorem ok_step {zs : List S} (h : ok zs = true) {k : Nat} (hk : k + 1 < zs.length) : (at' zs k).1 < (at' zs (k + 1)).1 := by
  have := ok_at h hk
  unfold stepOk at this
  rw [Bool.and_eq_true] at this
  simpa using this.2
theorem ok_lt {zs : List S} (h : ok zs = true) {i j : Nat} (hij : i < j) (hj : j < zs.length) : (at' zs i).1 < (at' zs j).1 := by
  induction j with
  | zero => omega
  | succ j ih =>
    have h1 := ok_step h hj
    by_cases e : i = j
    · subst e; exact h1
    · have := ih (by omega) (by omega); omega
/-- the cells of samples, one behind the other -/
theorem at_snoc (zs : List S) (k : Nat) (h : k < zs.length) : zs.take (k + 1) = zs.take k ++ [at' zs k] := by
  rw [List.take_succ_eq_append_getElem h]; simp [at', List.getD, h]
end Go.Proofs.Ytogdllkbiibicaa.SampMath
