/- What samples come to while by while, as plain mathematics. No condition. -/
import Derived.Test.YtogdllkbiibicaaCutMath
import Derived.Test.YtogdllkbiibicaaWinMath
namespace Go.Proofs.Ytogdllkbiibicaa.WinM
open SampMath Samp
set_option linter.unusedVariables false
abbrev W6 := Int × Int × Int × Int × Int × Int
def winOf (b : Int) (v : Int) : W6 := (b, 1, v, v, v, v)
def upd (a : W6) (v : Int) : W6 := (a.1, a.2.1 + 1, a.2.2.1 + v, if v < a.2.2.2.1 then v else a.2.2.2.1, if a.2.2.2.2.1 < v then v else a.2.2.2.2.1, v)
def winTo (b : Int) (g : List S) : Nat → W6
  | 0 => (b, 0, 0, (at' g 0).2, (at' g 0).2, 0)
  | k + 1 => upd (winTo b g k) (at' g k).2
theorem winTo_one (b : Int) (g : List S) : winTo b g 1 = winOf b (at' g 0).2 := by
  show upd (winTo b g 0) (at' g 0).2 = _
  simp [upd, winTo, winOf]
theorem winTo_from (b : Int) (g : List S) (k : Nat) : (winTo b g k).1 = b := by
  induction k with
  | zero => rfl
  | succ k ih => exact ih
theorem winTo_count (b : Int) (g : List S) (k : Nat) : (winTo b g k).2.1 = k := by
  induction k with
  | zero => rfl
  | succ k ih => show (winTo b g k).2.1 + 1 = _; rw [ih]; omega
theorem winTo_sum {b : Int} {g : List S} (h : ∀ i, i < g.length → 0 ≤ (at' g i).2 ∧ (at' g i).2 ≤ 2147483647) : ∀ k, k ≤ g.length → 0 ≤ (winTo b g k).2.2.1 ∧ (winTo b g k).2.2.1 ≤ 2147483647 * (k : Int) := by
  intro k
  induction k with
  | zero => intro _; exact ⟨Int.le_refl _, by show (0 : Int) ≤ _; omega⟩
  | succ k ih =>
    intro hk
    have a := ih (by omega)
    have c := h k (by omega)
    show 0 ≤ (winTo b g k).2.2.1 + (at' g k).2 ∧ (winTo b g k).2.2.1 + (at' g k).2 ≤ _
    omega
theorem winTo_low {b : Int} {g : List S} (h : ∀ i, i < g.length → 0 ≤ (at' g i).2 ∧ (at' g i).2 ≤ 2147483647) (h0 : 0 < g.length) : ∀ k, k ≤ g.length → 0 ≤ (winTo b g k).2.2.2.1 ∧ (winTo b g k).2.2.2.1 ≤ 2147483647 ∧ 0 ≤ (winTo b g k).2.2.2.2.1 ∧ (winTo b g k).2.2.2.2.1 ≤ 2147483647 := by
  intro k
  induction k with
  | zero => intro _; have := h 0 h0; exact ⟨this.1, this.2, this.1, this.2⟩
  | succ k ih =>
    intro hk
    have a := ih (by omega)
    have c := h k (by omega)
    show 0 ≤ (if (at' g k).2 < (winTo b g k).2.2.2.1 then (at' g k).2 else (winTo b g k).2.2.2.1) ∧ (if (at' g k).2 < (winTo b g k).2.2.2.1 then (at' g k).2 else (winTo b g k).2.2.2.1) ≤ 2147483647 ∧ 0 ≤ (if (winTo b g k).2.2.2.2.1 < (at' g k).2 then (at' g k).2 else (winTo b g k).2.2.2.2.1) ∧ (if (winTo b g k).2.2.2.2.1 < (at' g k).2 then (at' g k).2 else (winTo b g k).2.2.2.2.1) ≤ 2147483647
    split <;> split <;> omega
/-- what is cut up to a time, and from it on, is what is cut -/
theorem cut_parts {zs : List S} (h : ok zs = true) {f m e : Int} (h1 : f ≤ m) (h2 : m ≤ e) : cutL zs f m ++ cutL zs m e = cutL zs f e := by
  have hs := ((ok_iff zs).1 h).2
  have hp : (cutL zs f e).Pairwise (fun a b => a.1 < b.1) := hs.sublist List.filter_sublist
  have := filter_parts (cutL zs f e) m hp
  rw [← this]
  unfold cutL
  rw [List.filter_filter, List.filter_filter]
  congr 1
  · refine List.filter_congr fun x _ => ?_
    simp only [inT]
    by_cases a : f ≤ x.1 <;> by_cases b : x.1 < m <;> by_cases c : x.1 < e <;> simp [a, b, c] <;> omega
  · refine List.filter_congr fun x _ => ?_
    simp only [inT]
    by_cases a : f ≤ x.1 <;> by_cases b : m ≤ x.1 <;> by_cases c : x.1 < e <;> simp [a, b, c] <;> omega
/-- one while, if it has samples -/
def oneW (b : Int) (g : List S) : List W6 := if g = [] then [] else [winTo b g g.length]
theorem oneW_mem {b : Int} {g : List S} {x : W6} (h : x ∈ oneW b g) : x.1 = b := by
  unfold oneW at h
  split at h
  · cases h
  · simp only [List.mem_singleton] at h
    rw [h, winTo_from]
theorem oneW_len (b : Int) (g : List S) : (oneW b g).length ≤ 1 := by unfold oneW; split <;> simp
/-- whiles from f on, so many of them -/
def winsTo (zs : List S) (f t st : Int) : Nat → List W6
  | 0 => []
  | j + 1 => winsTo zs f t st j ++ oneW (f + j * st) (cutL zs (f + j * st) (if t < f + j * st + st then t else f + j * st + st))
theorem winsTo_from (zs : List S) {f t st : Int} (h : 0 < st) : ∀ j, ∀ x ∈ winsTo zs f t st j, x.1 < f + j * st := by
  intro j
  induction j with
  | zero => intro x hx; cases hx
  | succ j ih =>
    intro x hx
    have e : ((j + 1 : Nat) : Int) * st = j * st + st := by rw [Int.natCast_add, Int.add_mul]; simp
    rw [winsTo, List.mem_append] at hx
    rcases hx with hx | hx
    · have := ih x hx; rw [e]; omega
    · have := oneW_mem hx; rw [e]; omega
theorem winsTo_len (zs : List S) (f t st : Int) : ∀ j, (winsTo zs f t st j).length ≤ j := by
  intro j
  induction j with
  | zero => exact Nat.le_refl _
  | succ j ih => rw [winsTo, List.length_append]; have := oneW_len (f + j * st) (cutL zs (f + j * st) (if t < f + j * st + st then t else f + j * st + st)); omega
/-- when the while of a time begins -/
def beg (f st T : Int) : Int := T - (T - f) % st
theorem beg_in {f st T b : Int} {j : Nat} (h0 : 0 < st) (hb : b = f + j * st) (h1 : b ≤ T) (h2 : T < b + st) : beg f st T = b := by
  unfold beg
  have e : (T - f) % st = T - b := by
    have : T - f = (T - b) + st * j := by rw [hb, Int.mul_comm st]; omega
    rw [this, Int.add_mul_emod_self_left, Int.emod_eq_of_lt (by omega) (by omega)]
  omega
def timesB (f t : Int) : Bool := decide (0 ≤ f) && decide (f ≤ 9999) && decide (f ≤ t) && decide (t ≤ 10000)
end Go.Proofs.Ytogdllkbiibicaa.WinM
