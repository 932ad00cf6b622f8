/- My own texts of one claim, laid together by program: SamOk, WinMath. -/
import Derived.Test.YtogdllkbiibicaaG85f97fcd5f
import Derived.Test.YtogdllkbiibicaaG81f535c845
import Derived.Test.YtogdllkbiibicaaGcb61fec047
/- SamplesOk, of the program and of the model, at slices of samples whose address is open. -/
namespace Go.Proofs.Ytogdllkbiibicaa.Sam
open Go.RowKit Rw
set_option linter.unusedVariables false
attribute [local go_sem ↓] Go.wp_at_zero Go.wp_at_succ
theorem reads_of {w : World} {b off : Nat} {zs : List E} (hc : ∀ (j : Nat) u, (flat zs)[j]? = some u → w.cell? ⟨b, off + j, none⟩ = some u) : Samp.Reads w b off zs := fun i hi =>
  ⟨hc (i * 2) _ (flat_at zs i hi).1, hc (i * 2 + 1) _ (flat_at zs i hi).2⟩
theorem impl_ok_zero (a : Option Addr) (cap : Nat) (w : World) : Calls Try.prog 38 #[.slice a 0 cap] w fun e w' => e = .returned (.bool (SampMath.ok [])) ∧ Below w.heap.size w w' := by
  go_enter Try.func38, Try.ntmps38
  go_wp2
  refine wp_loop_rounds 1 ?_
  rw [rounds_succ]
  go_wp2
  go_ret
  exact ⟨rfl, Below.refl _ _⟩
theorem spec_ok_zero (a : Option Addr) (cap : Nat) (w : World) : Calls Try.prog 36 #[.slice a 0 cap] w fun e w' => e = .returned (.bool (SampMath.ok [])) ∧ Below w.heap.size w w' := by
  go_enter Try.func36, Try.ntmps36
  go_wp2
  refine wp_loop_rounds 1 ?_
  rw [rounds_succ]
  go_wp2
  go_ret
  exact ⟨rfl, Below.refl _ _⟩
theorem impl_ok {w : World} {v : Value} {zs : List E} (h : Is w v zs) : Calls Try.prog 38 #[v] w fun e w' => e = .returned (.bool (SampMath.ok zs)) ∧ Below w.heap.size w w' := by
  obtain ⟨-, a, cap, rfl, hc, hm, -, hr⟩ := h
  by_cases h0 : zs.length = 0
  · obtain rfl : zs = [] := List.eq_nil_of_length_eq_zero h0
    exact impl_ok_zero a cap w
  · obtain ⟨b, off, rfl, hl, hcells⟩ := hr (by omega)
    exact Samp.impl_ok_some b off cap zs w hc hm hl (reads_of hcells)
theorem l2ok {w : World} {v : Value} {zs : List E} (h : Is w v zs) : Calls Try.prog 36 #[v] w fun e w' => e = .returned (.bool (SampMath.ok zs)) ∧ Below w.heap.size w w' := by
  obtain ⟨-, a, cap, rfl, hc, hm, -, hr⟩ := h
  by_cases h0 : zs.length = 0
  · obtain rfl : zs = [] := List.eq_nil_of_length_eq_zero h0
    exact spec_ok_zero a cap w
  · obtain ⟨b, off, rfl, hl, hcells⟩ := hr (by omega)
    exact Samp.spec_ok_some b off cap zs w hc hm hl (reads_of hcells)
end Go.Proofs.Ytogdllkbiibicaa.Sam

/- Whiles, as plain mathematics: by how much samples rose, samples made less. No condition. -/
namespace Go.Proofs.Ytogdllkbiibicaa.SampMath
theorem ok_ge {zs : List S} (h : ok zs = true) : ∀ k, k < zs.length → (k : Int) ≤ (at' zs k).1 := by
  intro k hk
  induction k with
  | zero => exact (ok_range h hk).1
  | succ k ih =>
    have h1 := ih (by omega)
    have h2 := ok_step h hk
    omega
theorem ok_len {zs : List S} (h : ok zs = true) : zs.length ≤ 10000 := by
  by_cases h0 : zs.length = 0
  · omega
  · have h1 := ok_ge h (zs.length - 1) (by omega)
    have h2 := (ok_range h (k := zs.length - 1) (by omega)).2.1
    omega
/-- by how much the number at a place rose -/
def up (zs : List S) (i : Nat) : Int := if (at' zs (i - 1)).2 ≤ (at' zs i).2 then (at' zs i).2 - (at' zs (i - 1)).2 else (at' zs i).2
/-- from the place 1 on up to the place k -/
def upTo (zs : List S) : Nat → Int
  | 0 => 0
  | k + 1 => if k = 0 then 0 else upTo zs k + up zs k
theorem upTo_one (zs : List S) : upTo zs 1 = 0 := rfl
theorem upTo_succ (zs : List S) (k : Nat) (h : 0 < k) : upTo zs (k + 1) = upTo zs k + up zs k := by
  show (if k = 0 then 0 else upTo zs k + up zs k) = _
  rw [if_neg (by omega)]
def rises (zs : List S) : Int := if ok zs = true then upTo zs zs.length else 0
theorem up_range {zs : List S} (h : ok zs = true) {i : Nat} (h1 : 0 < i) (h2 : i < zs.length) : 0 ≤ up zs i ∧ up zs i ≤ 2147483647 := by
  have a := ok_range h h2
  have b := ok_range h (k := i - 1) (by omega)
  unfold up
  split <;> omega
theorem upTo_range {zs : List S} (h : ok zs = true) : ∀ k, k ≤ zs.length → 0 ≤ upTo zs k ∧ upTo zs k ≤ 2147483647 * (k : Int) := by
  intro k
  induction k with
  | zero => intro _; exact ⟨Int.le_refl _, by show (0 : Int) ≤ _; omega⟩
  | succ k ih =>
    intro hk
    by_cases h0 : k = 0
    · subst h0; rw [upTo_one]; omega
    · have a := ih (by omega)
      have b := up_range h (i := k) (by omega) (by omega)
      rw [upTo_succ zs k (by omega)]
      omega
theorem up_yes {zs : List S} {i : Nat} (h : (at' zs (i - 1)).2 ≤ (at' zs i).2) : up zs i = (at' zs i).2 - (at' zs (i - 1)).2 := if_pos h
theorem up_no {zs : List S} {i : Nat} (h : ¬ (at' zs (i - 1)).2 ≤ (at' zs i).2) : up zs i = (at' zs i).2 := if_neg h
/-- whether the sample at a place is the last of its while -/
def lastW (zs : List S) (st : Int) (k : Nat) : Bool := decide (k + 1 = zs.length) || decide ((at' zs (k + 1)).1 / st ≠ (at' zs k).1 / st)
def thinTo (zs : List S) (st : Int) : Nat → List S
  | 0 => []
  | k + 1 => thinTo zs st k ++ if lastW zs st k = true then [at' zs k] else []
def thinB (st : Int) : Bool := decide (1 ≤ st) && decide (st ≤ 9999)
def thin (zs : List S) (st : Int) : List S := if ok zs = true ∧ thinB st = true then thinTo zs st zs.length else []
theorem thinTo_le (zs : List S) (st : Int) : ∀ k, (thinTo zs st k).length ≤ k := by
  intro k
  induction k with
  | zero => exact Nat.le_refl _
  | succ k ih => rw [thinTo, List.length_append]; split <;> simp <;> omega
theorem thinTo_yes {zs : List S} {st : Int} {k : Nat} (h : lastW zs st k = true) : thinTo zs st (k + 1) = thinTo zs st k ++ [at' zs k] := by rw [thinTo, h]; rfl
theorem thinTo_no {zs : List S} {st : Int} {k : Nat} (h : lastW zs st k = false) : thinTo zs st (k + 1) = thinTo zs st k := by rw [thinTo, h]; simp
theorem lastW_end {zs : List S} {st : Int} {k : Nat} (h : k + 1 = zs.length) : lastW zs st k = true := by unfold lastW; rw [decide_eq_true h]; rfl
theorem lastW_far {zs : List S} {st : Int} {k : Nat} (h : (at' zs (k + 1)).1 / st ≠ (at' zs k).1 / st) : lastW zs st k = true := by unfold lastW; rw [decide_eq_true h, Bool.or_true]
theorem lastW_near {zs : List S} {st : Int} {k : Nat} (h : k + 1 ≠ zs.length) (h' : (at' zs (k + 1)).1 / st = (at' zs k).1 / st) : lastW zs st k = false := by
  unfold lastW; rw [decide_eq_false h, decide_eq_false (by simpa using h')]; rfl
theorem thin_le (zs : List S) (st : Int) : (thin zs st).length ≤ zs.length := by
  unfold thin
  split
  · exact thinTo_le _ _ _
  · simp
/-- what stands there behind so many samples, the last of them being still open -/
def foldTo (zs : List S) (st : Int) : Nat → List S
  | 0 => []
  | k + 1 => thinTo zs st k ++ [at' zs k]
theorem foldTo_len (zs : List S) (st : Int) (k : Nat) : (foldTo zs st k).length ≤ k := by
  cases k with
  | zero => exact Nat.le_refl _
  | succ k => have := thinTo_le zs st k; rw [foldTo, List.length_append]; simp; omega
theorem foldTo_end (zs : List S) (st : Int) : foldTo zs st zs.length = thinTo zs st zs.length := by
  cases h : zs.length with
  | zero => rfl
  | succ k => rw [foldTo, thinTo_yes (lastW_end (by omega))]
end Go.Proofs.Ytogdllkbiibicaa.SampMath
