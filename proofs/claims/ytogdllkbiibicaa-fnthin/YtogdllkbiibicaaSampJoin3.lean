/- SamplesJoin of the program and of the model answer the same, at every two slices of samples. -/
import Derived.Test.YtogdllkbiibicaaSampJoin2
namespace Go.Proofs.Ytogdllkbiibicaa.Samp
open Go.RowKit SampMath Rw
set_option linter.unusedVariables false
theorem impl_bad1 (v u : Value) (w : World) (h : Hid (Calls Try.prog 38 #[v] w fun e w' => e = .returned (.bool false) ∧ Below w.heap.size w w')) :
    Calls Try.prog 30 #[v, u] w fun e w' => e = .returned (.tuple #[.slice none 0 0, .bool false]) ∧ Below w.heap.size w w' := by
  go_enter Try.func30, Try.ntmps30
  go_wp2_with fail
  refine (unhide h).mono ?_
  rintro e w1 ⟨rfl, b1⟩
  go_wp2
  go_ret2
  exact ⟨rfl, b1⟩
theorem impl_bad2 (v u : Value) (w : World) (h : Hid (Calls Try.prog 38 #[v] w fun e w' => e = .returned (.bool true) ∧ Below w.heap.size w w')) (h2 : Hid (∀ W, Below w.heap.size w W → Calls Try.prog 38 #[u] W fun e w' => e = .returned (.bool false) ∧ Below W.heap.size W w')) :
    Calls Try.prog 30 #[v, u] w fun e w' => e = .returned (.tuple #[.slice none 0 0, .bool false]) ∧ Below w.heap.size w w' := by
  go_enter Try.func30, Try.ntmps30
  go_wp2_with fail
  refine (unhide h).mono ?_
  rintro e w1 ⟨rfl, b1⟩
  go_wp2_with fail
  refine (unhide h2 _ b1).mono ?_
  rintro e w2 ⟨rfl, b2⟩
  go_wp2
  go_ret2
  exact ⟨rfl, b1.trans (b2.mono b1.size)⟩
theorem join_of_ok {zs ys : List S} (h1 : ok zs = true) (h2 : ok ys = true) : (join zs ys).1 = (merge zs ys).getD [] ∧ (join zs ys).2 = (merge zs ys).isSome := by
  unfold join
  rw [if_pos ⟨h1, h2⟩]
  cases merge zs ys <;> exact ⟨rfl, rfl⟩
/-- what SamplesJoin leaves: its answer, in memory of its own -/
def Joined (w : World) (zs ys : List S) (e : Ending) (w' : World) : Prop :=
  ∃ x, e = .returned (.tuple #[x, .bool (join zs ys).2]) ∧ w'.ownsRow w.heap.size 41 2 x (join zs ys).1.length (flat (join zs ys).1) ∧ Below w.heap.size w w'
theorem impl_join {w : World} {v u : Value} {zs ys : List S} (h : Smp w v zs) (h' : Smp w u ys) (hn : zs.length ≤ 4194304) (hm : ys.length ≤ 4194304) : Calls Try.prog 30 #[v, u] w (Joined w zs ys) := by
  have k1 := impl_ok h
  have k2 := fun W (hb : Below w.heap.size w W) => impl_ok (h'.below hb)
  cases o1 : ok zs
  · rw [o1] at k1
    refine (impl_bad1 v u w k1).mono ?_
    rintro e w' ⟨rfl, hb⟩
    refine ⟨.slice none 0 0, ?_, ?_, hb⟩
    · rw [join_bad (.inl o1)]
    · rw [join_bad (.inl o1)]; exact World.ownsRow_nil _ _ _ _
  · rw [o1] at k1
    cases o2 : ok ys
    · rw [o2] at k2
      refine (impl_bad2 v u w k1 k2).mono ?_
      rintro e w' ⟨rfl, hb⟩
      refine ⟨.slice none 0 0, ?_, ?_, hb⟩
      · rw [join_bad (.inr o2)]
      · rw [join_bad (.inr o2)]; exact World.ownsRow_nil _ _ _ _
    · rw [o2] at k2
      have ho := join_of_ok o1 o2
      obtain ⟨a, n, cap, rfl, hv⟩ := view_of h
      obtain ⟨a', m, cap', rfl, hu⟩ := view_of h'
      refine (impl_merge a a' n m cap cap' zs ys w hv hu (by rw [← hv.1]; exact hn) (by rw [← hu.1]; exact hm) k1 k2).mono ?_
      rintro e w' ⟨x, rfl, ox, hb⟩
      exact ⟨x, by rw [ho.2], by rw [ho.1]; exact ox, hb⟩
end Go.Proofs.Ytogdllkbiibicaa.Samp
