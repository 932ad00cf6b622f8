/- One face for what the laws' helpers do with slices of slices of labels. -/
import Derived.Test.YtfccibbgjjajjaaLssMark
namespace Go.Proofs.Ytfccibbgjjajjaa.Lss
open Go.RowKit Rw
theorem Own.form {lo hi : Nat} {w : World} {v : Value} {zs : List E} (h : Own lo hi w v zs) : ∃ a l q, v = .slice a l q := by
  obtain ⟨cs, -, h2, -⟩ := h
  obtain ⟨-, a, q, e, -⟩ := lies_of_own h2
  exact ⟨a, _, q, e⟩
theorem eqX {v u : Value} {zs : List E} {w : World} (h : Is w v zs) (h' : Is w u zs) : Calls Try.prog 14 #[v, u] w fun e w' => e = .returned (.bool true) ∧ Below w.heap.size w w' := eq_any h h'
theorem toX {w : World} {v : Value} {zs : List E} (h : Is w v zs) (ht : tot zs ≤ 1048576) : Calls Try.prog 11 #[v] w fun e w' => ∃ v', e = .returned v' ∧ Own w.heap.size w'.heap.size w' v' zs ∧ Below w.heap.size w w' := by
  refine (to_any h (tiny_of ht).1 (tiny_of ht).2).mono ?_
  rintro e w' ⟨rfl, o, b⟩
  exact ⟨_, rfl, o, b⟩
theorem markA {lo hi : Nat} {v : Value} {zs : List E} {w : World} (k0 : Nat) (hk1 : 1 ≤ k0) (hk2 : k0 ≤ 100000000) (ht : tot zs ≤ 1048576) (h : Own lo hi w v zs) :
    Calls Try.prog 15 #[v, .int .i64 k0] w fun e w' => ∃ k : Nat, e = .returned (.int .i64 k) ∧ 1 ≤ k ∧ k ≤ k0 + 4194304 ∧ Zone lo hi w w' := by
  refine (mark_any k0 hk1 hk2 ht h).mono ?_
  rintro e w' ⟨k, rfl, h1, h2, z⟩
  exact ⟨k, rfl, h1, by omega, z⟩
end Go.Proofs.Ytfccibbgjjajjaa.Lss
