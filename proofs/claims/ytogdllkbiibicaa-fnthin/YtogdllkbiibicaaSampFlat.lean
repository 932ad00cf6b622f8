/- Samples as cells, one behind the other. No condition. -/
import Derived.Test.YtogdllkbiibicaaSamp2
import Derived.Test.YtogdllkbiibicaaRw
namespace Go.Proofs.Ytogdllkbiibicaa.Samp
open Go.RowKit SampMath Rw
set_option linter.unusedVariables false
/-- the cells of samples, one behind the other -/
def flat (zs : List S) : List Value := zs.flatMap fun x => [.int .i64 x.1, .int .i64 x.2]
theorem flat_nil : flat [] = [] := rfl
theorem flat_append (a b : List S) : flat (a ++ b) = flat a ++ flat b := by simp [flat]
theorem flat_one (x : S) : flat [x] = [.int .i64 x.1, .int .i64 x.2] := rfl
theorem flat_length (zs : List S) : (flat zs).length = zs.length * 2 := by
  induction zs with
  | nil => rfl
  | cons x zs ih => show (Value.int .i64 x.1 :: Value.int .i64 x.2 :: flat zs).length = _; simp only [List.length_cons, ih]; omega
theorem flat_get : ∀ (zs : List S) (i : Nat), i < zs.length → (flat zs)[i * 2]? = some (.int .i64 (at' zs i).1) ∧ (flat zs)[i * 2 + 1]? = some (.int .i64 (at' zs i).2)
  | x :: zs, 0, _ => ⟨rfl, rfl⟩
  | x :: zs, i + 1, h => by
    have := flat_get zs i (by simpa using h)
    have e1 : (i + 1) * 2 = i * 2 + 1 + 1 := by omega
    show (Value.int .i64 x.1 :: Value.int .i64 x.2 :: flat zs)[(i + 1) * 2]? = _ ∧ (Value.int .i64 x.1 :: Value.int .i64 x.2 :: flat zs)[(i + 1) * 2 + 1]? = _
    rw [e1]
    simpa [at', List.getD] using this
theorem flat_oneCell (zs : List S) : ∀ u ∈ flat zs, u.oneCell' = true := by
  intro u hu
  obtain ⟨x, _, hx⟩ := List.mem_flatMap.1 hu
  simp only [List.mem_cons, List.not_mem_nil, or_false] at hx
  rcases hx with rfl | rfl <;> rfl
/-- a row of the call's own that holds samples -/
theorem smp_of_own {w : World} {base : Nat} {v : Value} {zs : List S} (h : w.ownsRow base 41 2 v zs.length (flat zs)) : Smp w v zs := by
  rcases h.2 with ⟨h1, h2⟩ | ⟨g, cap, cur, rfl, hb, hg, h3, h4, h5, h6⟩
  · exact .inl ⟨h1, List.eq_nil_of_length_eq_zero h2⟩
  · have hlt : g < w.heap.size := by
      rcases Nat.lt_or_ge g w.heap.size with hl | hl
      · exact hl
      · rw [Array.getElem?_eq_none hl] at hg; cases hg
    refine .inr ⟨g, 0, cap, rfl, h3, h4, hlt, fun i hi => ?_⟩
    have c0 := h.cellAt (i * 2) (by omega)
    have c1 := h.cellAt (i * 2 + 1) (by omega)
    rw [(flat_get zs i hi).1] at c0
    rw [(flat_get zs i hi).2] at c1
    exact ⟨by rw [Nat.zero_add]; exact c0, by rw [Nat.zero_add]; exact c1⟩
theorem pairs_at {w : World} {a : Option Addr} {len cap : Nat} {z : List S} (h : IsPairs w a len cap z) :
    len ≤ cap ∧ cap ≤ maxLen ∧ (z.take len).length = len ∧ (len = 0 ∨ ∃ b off, a = some ⟨b, off, none⟩ ∧ b < w.heap.size ∧ Reads w b off (z.take len)) := by
  rcases h with ⟨rfl, rfl, rfl, rfl⟩ | ⟨x, rfl, h1, h2, h3, h4, _⟩
  · exact ⟨Nat.le_refl _, Nat.zero_le _, rfl, .inl rfl⟩
  · refine ⟨h1, h2, by simp; omega, ?_⟩
    by_cases h0 : len = 0
    · exact .inl h0
    · right
      obtain ⟨b, off, spot⟩ := x
      have c0 := (h4 0 (by omega)).1
      have hspot : spot = none := by simpa [Addr.add] using World.cell?_spot c0
      subst hspot
      refine ⟨b, off, rfl, World.block_lt_of_cell? w ⟨b, _, none⟩ c0, fun i hi => ?_⟩
      have hi' : i < len := by simp at hi; omega
      have e : at' (z.take len) i = z.getD i (0, 0) := by simp [at', List.getD, hi']
      rw [e, ← Go.WideShapes.add_plain, show off + i * 2 + 1 = off + (i * 2 + 1) from rfl, ← Go.WideShapes.add_plain]
      exact h4 i (by omega)
theorem set_two (A : List Value) (u0 u1 x y : Value) (B : List Value) (k : Nat) (h : A.length = k) : ((A ++ u0 :: u1 :: B).set k x).set (k + 1) y = A ++ [x, y] ++ B := by
  subst h
  rw [List.set_append_right _ _ (Nat.le_refl _), Nat.sub_self, List.set_cons_zero, List.set_append_right _ _ (by omega), show A.length + 1 - A.length = 1 from by omega]
  simp
theorem split_two (r : List Value) (n : Nat) (h : r.length = (n + 1) * 2) : ∃ u0 u1 B, r = u0 :: u1 :: B ∧ B.length = n * 2 := by
  match r, h with
  | u0 :: u1 :: B, h => exact ⟨u0, u1, B, rfl, by simp only [List.length_cons] at h; omega⟩
  | [_], h => simp at h; omega
  | [], h => simp at h
end Go.Proofs.Ytogdllkbiibicaa.Samp
