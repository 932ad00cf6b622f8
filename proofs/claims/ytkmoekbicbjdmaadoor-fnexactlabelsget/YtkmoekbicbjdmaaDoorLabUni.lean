/- One face for what the laws' helpers do with slices of impl.Label. -/
import Derived.Test.YtkmoekbicbjdmaaDoorLabMark
namespace Go.Proofs.YtkmoekbicbjdmaaDoor.Lab
open Go.RowKit Rw
set_option linter.unusedVariables false
/-- a row of its own, in a block from lo on, ahead of hi -/
def Own (lo hi : Nat) (w : World) (v : Value) (zs : List E) : Prop := w.ownsRow lo 47 2 v zs.length (flat zs) ∧ (∀ k, v.ownBlock = some k → k < hi) ∧ hi ≤ w.heap.size
theorem Own.is {lo hi : Nat} {w : World} {v : Value} {zs : List E} (h : Own lo hi w v zs) : Is w v zs := is_of_own h.1
theorem Own.below {lo hi : Nat} {w w' : World} {v : Value} {zs : List E} (h : Own lo hi w v zs) (hb : Below w.heap.size w w') : Own lo hi w' v zs := ⟨own_below h.1 hb, h.2.1, Nat.le_trans h.2.2 hb.size⟩
theorem Own.zone {lo hi a b : Nat} {w w' : World} {v : Value} {zs : List E} (h : Own lo hi w v zs) (hz : Zone a b w w') (ho : hi ≤ a ∨ b ≤ lo) : Own lo hi w' v zs :=
  ⟨hz.own h.1 (fun k hk => by have := h.2.1 k hk; have := own_ge h.1 k hk; omega), h.2.1, Nat.le_trans h.2.2 hz.size⟩
theorem Own.form {lo hi : Nat} {w : World} {v : Value} {zs : List E} (h : Own lo hi w v zs) : ∃ a l q, v = .slice a l q := by
  obtain ⟨-, a, q, e, -⟩ := lies_of_own h.1
  exact ⟨a, _, q, e⟩
theorem Own.of {lo : Nat} {w : World} {v : Value} {zs : List E} (h : w.ownsRow lo 47 2 v zs.length (flat zs)) : Own lo w.heap.size w v zs := ⟨h, own_block_lt h, Nat.le_refl _⟩
theorem eqX {v u : Value} {zs : List E} {w : World} (h : Is w v zs) (h' : Is w u zs) : Calls Tryd.prog 25 #[v, u] w fun e w' => e = .returned (.bool true) ∧ Below w.heap.size w w' := eq_any h h'
theorem markA {lo hi : Nat} {v : Value} {zs : List E} {w : World} (k0 : Nat) (hk1 : 1 ≤ k0) (hk2 : k0 ≤ 100000000) (ht : tot zs ≤ 1048576) (h : Own lo hi w v zs) :
    Calls Tryd.prog 26 #[v, .int .i64 k0] w fun e w' => ∃ k : Nat, e = .returned (.int .i64 k) ∧ 1 ≤ k ∧ k ≤ k0 + 4194304 ∧ Zone lo hi w w' := by
  have hl := tot_len zs
  refine (mark_any k0 hk1 (by omega) (by omega) h.1 (lo := lo) (hi := hi) (fun k hk => ⟨own_ge h.1 k hk, h.2.1 k hk⟩)).mono ?_
  rintro e w' ⟨rfl, -, z⟩
  exact ⟨_, rfl, by omega, by omega, z⟩
def cnt (zs : List E) : Nat := 2 * zs.length
def mk (k0 : Nat) (zs : List E) : List E := marks k0 zs.length
theorem mk_length (k0 : Nat) (zs : List E) : (mk k0 zs).length = zs.length := marks_length _ _
theorem markX {lo hi : Nat} {v : Value} {zs : List E} {w : World} (k0 : Nat) (hk1 : 1 ≤ k0) (hk2 : k0 ≤ 100000000) (hc : zs.length ≤ 2097152) (h : Own lo hi w v zs) :
    Calls Tryd.prog 26 #[v, .int .i64 k0] w fun e w' => ∃ k : Nat, e = .returned (.int .i64 k) ∧ k = k0 + cnt zs ∧ Own lo hi w' v (mk k0 zs) ∧ Zone lo hi w w' := by
  refine (mark_any k0 hk1 (by omega) (by omega) h.1 (lo := lo) (hi := hi) (fun k hk => ⟨own_ge h.1 k hk, h.2.1 k hk⟩)).mono ?_
  rintro e w' ⟨rfl, o, z⟩
  exact ⟨_, rfl, rfl, ⟨by rw [mk_length]; exact o, h.2.1, Nat.le_trans h.2.2 z.size⟩, z⟩
theorem heldX {v : Value} {zs : List E} {w : World} (k0 : Nat) (hk1 : 1 ≤ k0) (hk2 : k0 ≤ 100000000) (hc : zs.length ≤ 2097152) (h : Is w v (mk k0 zs)) :
    Calls Tryd.prog 27 #[v, .int .i64 k0] w fun e w' => ∃ k : Nat, e = .returned (.int .i64 k) ∧ k = k0 + cnt zs ∧ Below w.heap.size w w' := by
  refine (held_any k0 hk1 (by omega) (by omega) h).mono ?_
  rintro e w' ⟨rfl, b⟩
  exact ⟨_, rfl, rfl, b⟩
end Go.Proofs.YtkmoekbicbjdmaaDoor.Lab
