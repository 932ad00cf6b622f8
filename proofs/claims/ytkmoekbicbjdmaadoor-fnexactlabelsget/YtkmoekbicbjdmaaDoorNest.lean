/- Slices whose elements hold slices: small things that serve every such type. No condition. -/
import Derived.Test.YtkmoekbicbjdmaaDoorFlat
import Derived.ChangeArms
namespace Go.Proofs.YtkmoekbicbjdmaaDoor.Rw
open Go.RowKit Go.ChangeShapes Go.WideShapes
theorem choose_list {α β : Type} [Inhabited α] [Inhabited β] {P : α → β → Prop} : ∀ (cs : List α), (∀ c ∈ cs, ∃ x, P c x) → ∃ zs : List β, zs.length = cs.length ∧ ∀ i, i < cs.length → P (cs.getD i default) (zs.getD i default)
  | [], _ => ⟨[], rfl, fun i h => by cases h⟩
  | c :: cs, h => by
    obtain ⟨x, hx⟩ := h c (by simp)
    obtain ⟨zs, hl, hz⟩ := choose_list cs (fun d hd => h d (by simp [hd]))
    refine ⟨x :: zs, by simp [hl], fun i hi => ?_⟩
    cases i with
    | zero => simpa using hx
    | succ i =>
      have := hz i (by simpa using hi)
      simpa using this
/-- a slice that came in, by its one cell -/
theorem slice_cell {H : Type} {enc : TypeId × Value → H} {W : World} {t e : TypeId} {n : Nat} {c : Value} {y : DataW H × List MemPlace} (ht : Tryd.prog.underlying t = some (.slice e))
    (h : DataW.trod enc Tryd.prog W 0 (fun _ => true) true n t [c] = some y) : ∃ a l k, c = .slice a l k ∧ DataW.Trod enc Tryd.prog W 0 (fun _ => true) true t (.slice a l k) y.1 y.2 := by
  rcases Go.Deep.open_slice ht h with ⟨hcs, _⟩ | ⟨x, l, k, m, n', D, Pl, hcs, _⟩
  · simp only [List.cons.injEq, and_true] at hcs
    subst hcs
    exact ⟨none, 0, 0, rfl, n, h⟩
  · simp only [List.cons.injEq, and_true] at hcs
    subst hcs
    exact ⟨some x, l, k, rfl, n, h⟩
theorem Lies.form {w : World} {v : Value} {n size : Nat} {xs : List Value} (h : Lies w v n size xs) : ∃ a cap, v = .slice a n cap ∧ n ≤ cap ∧ cap ≤ maxLen := by
  obtain ⟨_, a, cap, h1, h2, h3, _⟩ := h
  exact ⟨a, cap, h1, h2, h3⟩
end Go.Proofs.YtkmoekbicbjdmaaDoor.Rw
