/- SamplesJoin of the program and of the model answer the same, at every two slices of samples. -/
import Derived.Test.YtdkenakgppdabaaSampJoin2
namespace Go.Proofs.Ytdkenakgppdabaa.Samp
open Go.RowKit SampMath Rw
set_option linter.unusedVariables false
theorem impl_bad1 (v u : Value) (w : World) (h : Hid (Calls Try.prog 14 #[v] w fun e w' => e = .returned (.bool false) ∧ Below w.heap.size w w')) :
    Calls Try.prog 11 #[v, u] w fun e w' => e = .returned (.tuple #[.slice none 0 0, .bool false]) ∧ Below w.heap.size w w' := by
  go_enter Try.func11, Try.ntmps11
  go_wp2_with fail
  refine (unhide h).mono ?_
  rintro e w1 ⟨rfl, b1⟩
  go_wp2
  go_ret2
  exact ⟨rfl, b1⟩
theorem impl_bad2 (v u : Value) (w : World) (h : Hid (Calls Try.prog 14 #[v] w fun e w' => e = .returned (.bool true) ∧ Below w.heap.size w w')) (h2 : Hid (∀ W, Below w.heap.size w W → Calls Try.prog 14 #[u] W fun e w' => e = .returned (.bool false) ∧ Below W.heap.size W w')) :
    Calls Try.prog 11 #[v, u] w fun e w' => e = .returned (.tuple #[.slice none 0 0, .bool false]) ∧ Below w.heap.size w w' := by
  go_enter Try.func11, Try.ntmps11
  go_wp2_with fail
  refine (unhide h).mono ?_
  rintro e w1 ⟨rfl, b1⟩
  go_wp2_with fail
  refine (unhide h2 _ b1).mono ?_
  rintro e w2 ⟨rfl, b2⟩
  go_wp2
  go_ret2
  exact ⟨rfl, b1.trans (b2.mono b1.size)⟩
theorem spec_bad1 (v u : Value) (w : World) (h : Hid (Calls Try.prog 37 #[v] w fun e w' => e = .returned (.bool false) ∧ Below w.heap.size w w')) :
    Calls Try.prog 12 #[v, u] w fun e w' => ∃ x, e = .returned (.tuple #[x, .bool false]) ∧ w'.ownsRow w.heap.size 31 2 x 0 [] ∧ Below w.heap.size w w' := by
  go_enter Try.func12, Try.ntmps12
  go_wp2_with fail
  refine (unhide h).mono ?_
  rintro e w1 ⟨rfl, b1⟩
  go_wp2
  go_ret2
  exact ⟨.slice (some ⟨w1.heap.size, 0, none⟩) 0 0, rfl, own_empty b1.size, b1.alloc b1.size _⟩
theorem spec_bad2 (v u : Value) (w : World) (h : Hid (Calls Try.prog 37 #[v] w fun e w' => e = .returned (.bool true) ∧ Below w.heap.size w w')) (h2 : Hid (∀ W, Below w.heap.size w W → Calls Try.prog 37 #[u] W fun e w' => e = .returned (.bool false) ∧ Below W.heap.size W w')) :
    Calls Try.prog 12 #[v, u] w fun e w' => ∃ x, e = .returned (.tuple #[x, .bool false]) ∧ w'.ownsRow w.heap.size 31 2 x 0 [] ∧ Below w.heap.size w w' := by
  go_enter Try.func12, Try.ntmps12
  go_wp2_with fail
  refine (unhide h).mono ?_
  rintro e w1 ⟨rfl, b1⟩
  go_wp2_with fail
  refine (unhide h2 _ b1).mono ?_
  rintro e w2 ⟨rfl, b2⟩
  have c2 := b1.trans (b2.mono b1.size)
  go_wp2
  go_ret2
  exact ⟨.slice (some ⟨w2.heap.size, 0, none⟩) 0 0, rfl, own_empty c2.size, c2.alloc c2.size _⟩
theorem spec_good (a a' : Option Addr) (n m cap cap' : Nat) (zs ys : List S) (w : World) (hv : View w a n cap zs) (hu : View w a' m cap' ys) (hn : n ≤ 4194304) (hm : m ≤ 4194304) (h : Hid (Calls Try.prog 37 #[.slice a n cap] w fun e w' => e = .returned (.bool true) ∧ Below w.heap.size w w')) (h2 : Hid (∀ W, Below w.heap.size w W → Calls Try.prog 37 #[.slice a' m cap'] W fun e w' => e = .returned (.bool true) ∧ Below W.heap.size W w')) :
    Calls Try.prog 12 #[.slice a n cap, .slice a' m cap'] w fun e w' => ∃ x, e = .returned (.tuple #[x, .bool (merge zs ys).isSome]) ∧ w'.ownsRow w.heap.size 31 2 x ((merge zs ys).getD []).length (flat ((merge zs ys).getD [])) ∧ Below w.heap.size w w' := by
  have HV := hide hv
  have HU := hide hu
  clear hv hu
  go_enter Try.func12, Try.ntmps12
  go_wp2_with fail
  refine (unhide h).mono ?_
  rintro e w1 ⟨rfl, b1⟩
  go_wp2_with fail
  refine (unhide h2 _ b1).mono ?_
  rintro e w2 ⟨rfl, b2⟩
  have c2 := b1.trans (b2.mono b1.size)
  clear b1 b2
  go_wp2_with fail
  refine (l2join a a' n m cap cap' zs ys w2 ((unhide HV).below c2) ((unhide HU).below c2) hn hm).mono ?_
  rintro e w3 ⟨x, rfl, ox, b3⟩
  go_wp2
  go_ret2
  exact ⟨x, rfl, own_mono ox c2.size, c2.trans (b3.mono c2.size)⟩
theorem join_of_ok {zs ys : List S} (h1 : ok zs = true) (h2 : ok ys = true) : (join zs ys).1 = (merge zs ys).getD [] ∧ (join zs ys).2 = (merge zs ys).isSome := by
  unfold join
  rw [if_pos ⟨h1, h2⟩]
  cases merge zs ys <;> exact ⟨rfl, rfl⟩
/-- what SamplesJoin leaves: its answer, in memory of its own -/
def Joined (w : World) (zs ys : List S) (e : Ending) (w' : World) : Prop :=
  ∃ x, e = .returned (.tuple #[x, .bool (join zs ys).2]) ∧ w'.ownsRow w.heap.size 31 2 x (join zs ys).1.length (flat (join zs ys).1) ∧ Below w.heap.size w w'
theorem impl_join {w : World} {v u : Value} {zs ys : List S} (h : Smp w v zs) (h' : Smp w u ys) (hn : zs.length ≤ 4194304) (hm : ys.length ≤ 4194304) : Calls Try.prog 11 #[v, u] w (Joined w zs ys) := by
  have k1 := impl_ok h
  have k2 := fun W (hb : Below w.heap.size w W) => impl_ok (h'.below hb)
  cases o1 : ok zs
  · rw [o1] at k1
    refine (impl_bad1 v u w k1).mono ?_
    rintro e w' ⟨rfl, hb⟩
    refine ⟨.slice none 0 0, ?_, ?_, hb⟩
    · rw [join_bad (.inl o1)]
    · rw [join_bad (.inl o1)]; exact World.ownsRow_nil _ _ _ _
  · rw [o1] at k1
    cases o2 : ok ys
    · rw [o2] at k2
      refine (impl_bad2 v u w k1 k2).mono ?_
      rintro e w' ⟨rfl, hb⟩
      refine ⟨.slice none 0 0, ?_, ?_, hb⟩
      · rw [join_bad (.inr o2)]
      · rw [join_bad (.inr o2)]; exact World.ownsRow_nil _ _ _ _
    · rw [o2] at k2
      have ho := join_of_ok o1 o2
      obtain ⟨a, n, cap, rfl, hv⟩ := view_of h
      obtain ⟨a', m, cap', rfl, hu⟩ := view_of h'
      refine (impl_merge a a' n m cap cap' zs ys w hv hu (by rw [← hv.1]; exact hn) (by rw [← hu.1]; exact hm) k1 k2).mono ?_
      rintro e w' ⟨x, rfl, ox, hb⟩
      exact ⟨x, by rw [ho.2], by rw [ho.1]; exact ox, hb⟩
theorem spec_join {w : World} {v u : Value} {zs ys : List S} (h : Smp w v zs) (h' : Smp w u ys) (hn : zs.length ≤ 4194304) (hm : ys.length ≤ 4194304) : Calls Try.prog 12 #[v, u] w (Joined w zs ys) := by
  have k1 := l2ok h
  have k2 := fun W (hb : Below w.heap.size w W) => l2ok (h'.below hb)
  cases o1 : ok zs
  · rw [o1] at k1
    refine (spec_bad1 v u w k1).mono ?_
    rintro e w' ⟨x, rfl, ox, hb⟩
    refine ⟨x, ?_, ?_, hb⟩
    · rw [join_bad (.inl o1)]
    · rw [join_bad (.inl o1)]; exact ox
  · rw [o1] at k1
    cases o2 : ok ys
    · rw [o2] at k2
      refine (spec_bad2 v u w k1 k2).mono ?_
      rintro e w' ⟨x, rfl, ox, hb⟩
      refine ⟨x, ?_, ?_, hb⟩
      · rw [join_bad (.inr o2)]
      · rw [join_bad (.inr o2)]; exact ox
    · rw [o2] at k2
      have ho := join_of_ok o1 o2
      obtain ⟨a, n, cap, rfl, hv⟩ := view_of h
      obtain ⟨a', m, cap', rfl, hu⟩ := view_of h'
      refine (spec_good a a' n m cap cap' zs ys w hv hu (by rw [← hv.1]; exact hn) (by rw [← hu.1]; exact hm) k1 k2).mono ?_
      rintro e w' ⟨x, rfl, ox, hb⟩
      exact ⟨x, by rw [ho.2], by rw [ho.1]; exact ox, hb⟩
end Go.Proofs.Ytdkenakgppdabaa.Samp
