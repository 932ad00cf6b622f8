/- ListBoth, ListEither, ListLess of the program; l4Has, ListBoth and ListLess of the model. -/
import Derived.Test.YtkmoekbicbjdmaaDoorIntsMerge
namespace Go.Proofs.YtkmoekbicbjdmaaDoor.Ints
open Go.RowKit ListMath Rw
set_option linter.unusedVariables false
attribute [local go_sem ↓] Go.wp_at_zero Go.wp_at_succ
abbrev Gives (f : Nat) (k : Bool → Bool → Bool) : Prop := ∀ {w : World} {v u : Value} {zs ys : List Int}, Is w v zs → Is w u ys → zs.length ≤ 4194304 → ys.length ≤ 4194304 →
    Calls Tryd.prog f #[v, u] w fun e w' => ∃ r, e = .returned r ∧ w'.ownsRow w.heap.size 3 1 r (res k zs ys).length (flat (res k zs ys)) ∧ Below w.heap.size w w'
theorem has_succ (zs : List Int) (x : Int) (k : Nat) (hk : k < zs.length) (h : has (zs.take k) x = false) (hx : at' zs k ≠ x) : has (zs.take (k + 1)) x = false := by
  rw [at_snoc zs k hk]
  simp only [has_iff, decide_eq_false_iff_not, List.mem_append, List.mem_singleton, not_or] at h ⊢
  exact ⟨h, fun e => hx e.symm⟩
theorem has_hit (zs : List Int) (x : Int) (k : Nat) (hk : k < zs.length) (hx : at' zs k = x) : has zs x = true := by
  simp only [has_iff, decide_eq_true_eq]
  have e : at' zs k = zs[k] := by simp [at', List.getD, hk]
  rw [← hx, e]
  exact List.getElem_mem hk
theorem filter_snoc (zs : List Int) (f : Int → Bool) (k : Nat) (h : k < zs.length) : (zs.take (k + 1)).filter f = (zs.take k).filter f ++ one (f (at' zs k)) (at' zs k) := by
  rw [at_snoc zs k h, List.filter_append]
  cases hh : f (at' zs k) <;> simp [hh, one]
theorem filter_take_le (zs : List Int) (f : Int → Bool) (k : Nat) : ((zs.take k).filter f).length ≤ k := by
  have h1 := List.length_filter_le f (zs.take k)
  have h2 := List.length_take_le k zs
  omega
end Go.Proofs.YtkmoekbicbjdmaaDoor.Ints
