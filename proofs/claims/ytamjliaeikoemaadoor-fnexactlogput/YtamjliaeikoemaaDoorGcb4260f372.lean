/- My own texts of one claim, laid together by program: RowTo, RowEq, RowTiny, TabLaw. -/
import Derived.Test.YtamjliaeikoemaaDoorG57b88db0fb
import Derived.Test.YtamjliaeikoemaaDoorG76042ef715
/- The laws' copies of slices of impl.Row. -/
namespace Go.Proofs.YtamjliaeikoemaaDoor.Row
open Go.RowKit Rw
set_option linter.unusedVariables false
attribute [local go_sem ↓] Go.wp_at_zero Go.wp_at_succ
theorem set_e (A : List Value) (u0 u1 x0 x1 : Value) (L : List Value) (k : Nat) (h : A.length = k) : (((A ++ u0 :: u1 :: L).set k x0).set (k + 1) x1) = A ++ [x0, x1] ++ L := by
  subst h
  simp [List.set_append_right]
theorem split_e (r : List Value) (n : Nat) (h : r.length = (n + 1) * 2) : ∃ u0 u1 L, r = u0 :: u1 :: L ∧ L.length = n * 2 := by
  match r, h with
  | u0 :: u1 :: L, h => exact ⟨u0, u1, L, rfl, by simp only [List.length_cons] at h; omega⟩
  | [], h => simp at h <;> omega
  | [_], h => simp at h <;> omega
end Go.Proofs.YtamjliaeikoemaaDoor.Row

/- Whether slices are the same: of impl.Row. -/
namespace Go.Proofs.YtamjliaeikoemaaDoor.Row
open Go.RowKit Rw
set_option linter.unusedVariables false
attribute [local go_sem ↓] Go.wp_at_zero Go.wp_at_succ
end Go.Proofs.YtamjliaeikoemaaDoor.Row

/- What is counted is small enough to be copied. No condition. -/
namespace Go.Proofs.YtamjliaeikoemaaDoor.Row
open Go.RowKit Rw
theorem tiny_of {zs : List E} (h : tot zs ≤ 1048576) : zs.length ≤ 2097152 ∧ ∀ x ∈ zs, tiny x := by
  refine ⟨by have := tot_len zs; omega, fun x hx => ?_⟩
  obtain ⟨i, hi, rfl⟩ := List.getElem_of_mem hx
  have h1 := tot_at zs i hi
  rw [at_get zs i hi] at h1
  have h2 := Lab.tot_len (zs[i]).1
  unfold szOf Sam.tot at h1
  exact ⟨by omega, by omega⟩
end Go.Proofs.YtamjliaeikoemaaDoor.Row

/- What the laws' own helpers do with impl.Table: it is copied, held against another, and counted. -/
namespace Go.Proofs.YtamjliaeikoemaaDoor.Tab
open Go.RowKit Rw
set_option linter.unusedVariables false
attribute [local go_sem ↓] Go.wp_at_zero Go.wp_at_succ
abbrev E := List Row.E × Int × Int
abbrev C := Value × Value × Value
def Elem (w : World) (c : C) (x : E) : Prop := Row.Is w (c.1) (x.1) ∧ c.2.1 = .int .i64 (x.2.1) ∧ c.2.2 = .int .i64 (x.2.2)
theorem Elem.below {w w' : World} {c : C} {x : E} (h : Elem w c x) (hb : Below w.heap.size w w') : Elem w' c x := ⟨(h.1).below hb, h.2.1, h.2.2⟩
def good (x : E) : Prop := ((x.1).length ≤ maxLen ∧ ∀ y ∈ x.1, Row.good y) ∧ (Lit.int .i64 (x.2.1)).wf = true ∧ (Lit.int .i64 (x.2.2)).wf = true
def tiny (x : E) : Prop := ((x.1).length ≤ 2097152 ∧ ∀ y ∈ x.1, Row.tiny y)
def tot (x : E) : Nat := Row.tot (x.1)
end Go.Proofs.YtamjliaeikoemaaDoor.Tab
