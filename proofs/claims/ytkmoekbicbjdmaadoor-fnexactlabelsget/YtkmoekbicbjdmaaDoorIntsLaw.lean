/- What the laws' own helpers do with slices of ints: they are copied, held against each other, marked and looked at again; ListOk of the model. -/
import Derived.Test.YtkmoekbicbjdmaaDoorInts
namespace Go.Proofs.YtkmoekbicbjdmaaDoor.Ints
open Go.RowKit ListMath Rw
set_option linter.unusedVariables false
attribute [local go_sem ↓] Go.wp_at_zero Go.wp_at_succ
theorem is_of_own {w : World} {base : Nat} {v : Value} {zs : List Int} (h : w.ownsRow base 3 1 v zs.length (flat zs)) : Is w v zs := lies_of_own h
theorem row_is {w : World} {a : Option Addr} {len cap : Nat} {z : List Int} (h : IsRow .i64 w a len cap z) : (z.take len).length = len ∧ Is w (.slice a len cap) (z.take len) := by
  rcases h with ⟨rfl, rfl, rfl, rfl⟩ | ⟨x, rfl, h1, h2, h3, h4, _⟩
  · exact ⟨rfl, rfl, none, 0, rfl, Nat.le_refl _, Nat.zero_le _, fun _ => rfl, fun h => by simp at h⟩
  · have hl : (z.take len).length = len := by simp; omega
    refine ⟨hl, by rw [flat_length]; omega, some x, cap, by rw [hl], by omega, h2, fun e => (by cases e), fun h0 => ?_⟩
    obtain ⟨b, off, spot⟩ := x
    have c0 := h4 0 (by omega)
    have hspot : spot = none := by simpa [Addr.add] using World.cell?_spot c0
    subst hspot
    refine ⟨b, off, rfl, World.block_lt_of_cell? w ⟨b, _, none⟩ c0, fun j u hj => ?_⟩
    have hj' := (List.getElem?_eq_some_iff.1 hj).1
    rw [flat_length, hl] at hj'
    rw [flat_get _ j (by omega)] at hj
    have e : at' (z.take len) j = z.getD j 0 := by simp [at', List.getD, hj']
    rw [← hj, e, ← Go.WideShapes.add_plain]
    exact h4 j (by omega)
theorem set_one (A : List Value) (u0 x : Value) (B : List Value) (k : Nat) (h : A.length = k) : (A ++ u0 :: B).set k x = A ++ [x] ++ B := by
  subst h
  rw [List.set_append_right _ _ (Nat.le_refl _), Nat.sub_self, List.set_cons_zero]
  simp
theorem split_one (r : List Value) (n : Nat) (h : r.length = n + 1) : ∃ u0 B, r = u0 :: B ∧ B.length = n := by
  match r, h with
  | u0 :: B, h => exact ⟨u0, B, rfl, by simpa using h⟩
def marks (k0 : Int) (n : Nat) : List Int := (List.range n).map fun i : Nat => k0 + (i : Int)
theorem marks_length (k0 : Int) (n : Nat) : (marks k0 n).length = n := by simp [marks]
theorem marks_succ (k0 : Int) (n : Nat) : marks k0 (n + 1) = marks k0 n ++ [k0 + (n : Int)] := by simp [marks, List.range_succ]
theorem marks_at (k0 : Int) (n i : Nat) (h : i < n) : at' (marks k0 n) i = k0 + (i : Int) := by simp [marks, at', List.getD, h]
theorem own_marks {base : Nat} {v : Value} {n : Nat} {k0 : Int} {w : World} (h : w.ownsRow base 3 1 v n (flat (marks k0 n))) : Is w v (marks k0 n) := is_of_own (by rw [marks_length]; exact h)
end Go.Proofs.YtkmoekbicbjdmaaDoor.Ints
