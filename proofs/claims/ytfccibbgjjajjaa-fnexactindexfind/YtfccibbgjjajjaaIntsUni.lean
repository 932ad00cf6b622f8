/- One face for what the laws' helpers do with slices of ints. -/
import Derived.Test.YtfccibbgjjajjaaIntsLaw
import Derived.Test.YtfccibbgjjajjaaZone
namespace Go.Proofs.Ytfccibbgjjajjaa.Ints
open Go.RowKit Rw ListMath
set_option linter.unusedVariables false
/-- a row of its own, in a block from lo on, ahead of hi -/
def Own (lo hi : Nat) (w : World) (v : Value) (zs : List Int) : Prop := w.ownsRow lo 3 1 v zs.length (flat zs) ∧ (∀ k, v.ownBlock = some k → k < hi) ∧ hi ≤ w.heap.size
theorem Own.is {lo hi : Nat} {w : World} {v : Value} {zs : List Int} (h : Own lo hi w v zs) : Is w v zs := is_of_own h.1
theorem Own.below {lo hi : Nat} {w w' : World} {v : Value} {zs : List Int} (h : Own lo hi w v zs) (hb : Below w.heap.size w w') : Own lo hi w' v zs := ⟨own_below h.1 hb, h.2.1, Nat.le_trans h.2.2 hb.size⟩
theorem Own.zone {lo hi a b : Nat} {w w' : World} {v : Value} {zs : List Int} (h : Own lo hi w v zs) (hz : Zone a b w w') (ho : hi ≤ a ∨ b ≤ lo) : Own lo hi w' v zs :=
  ⟨hz.own h.1 (fun k hk => by have := h.2.1 k hk; have := own_ge h.1 k hk; omega), h.2.1, Nat.le_trans h.2.2 hz.size⟩
theorem Own.form {lo hi : Nat} {w : World} {v : Value} {zs : List Int} (h : Own lo hi w v zs) : ∃ a l q, v = .slice a l q := by
  obtain ⟨-, a, q, e, -⟩ := lies_of_own h.1
  exact ⟨a, _, q, e⟩
theorem Own.of {lo : Nat} {w : World} {v : Value} {zs : List Int} (h : w.ownsRow lo 3 1 v zs.length (flat zs)) : Own lo w.heap.size w v zs := ⟨h, own_block_lt h, Nat.le_refl _⟩
theorem eqX {v u : Value} {zs : List Int} {w : World} (h : Is w v zs) (h' : Is w u zs) : Calls Try.prog 22 #[v, u] w fun e w' => e = .returned (.bool true) ∧ Below w.heap.size w w' := eq_any h h'
def cnt (zs : List Int) : Nat := zs.length
def mk (k0 : Nat) (zs : List Int) : List Int := marks k0 zs.length
theorem mk_length (k0 : Nat) (zs : List Int) : (mk k0 zs).length = zs.length := marks_length _ _
theorem markX {lo hi : Nat} {v : Value} {zs : List Int} {w : World} (k0 : Nat) (hk1 : 1 ≤ k0) (hk2 : k0 ≤ 100000000) (hc : zs.length ≤ 2097152) (h : Own lo hi w v zs) :
    Calls Try.prog 25 #[v, .int .i64 k0] w fun e w' => ∃ k : Nat, e = .returned (.int .i64 k) ∧ k = k0 + cnt zs ∧ Own lo hi w' v (mk k0 zs) ∧ Zone lo hi w w' := by
  have hf := h.1
  rcases h.1.2 with ⟨h1, h2⟩ | ⟨g, cap, cur, h1, h2, hg, _⟩
  · subst h1
    obtain rfl : zs = [] := List.eq_nil_of_length_eq_zero h2
    refine (mark_nil k0 w).mono ?_
    rintro e w' ⟨rfl, rfl⟩
    exact ⟨k0, rfl, rfl, h, Zone.refl _ _ _⟩
  · subst h1
    refine (mark_some lo g zs.length cap zs k0 w (by omega) (by omega) (by omega) rfl hf).mono ?_
    rintro e w' ⟨rfl, ho, hon⟩
    have h3 := own_ge hf g rfl
    have h4 := h.2.1 g rfl
    have hz := Zone.of_only hon h3 h4
    exact ⟨k0 + zs.length, ret_int (by omega), rfl, ⟨by rw [mk_length]; exact ho, h.2.1, Nat.le_trans h.2.2 hz.size⟩, hz⟩
theorem heldX {v : Value} {zs : List Int} {w : World} (k0 : Nat) (hk1 : 1 ≤ k0) (hk2 : k0 ≤ 100000000) (hc : zs.length ≤ 2097152) (h : Is w v (mk k0 zs)) :
    Calls Try.prog 26 #[v, .int .i64 k0] w fun e w' => ∃ k : Nat, e = .returned (.int .i64 k) ∧ k = k0 + cnt zs ∧ Below w.heap.size w w' := by
  refine (held_any k0 (by omega) (by omega) (by omega) h).mono ?_
  rintro e w' ⟨rfl, rfl⟩
  exact ⟨k0 + zs.length, ret_int (by omega), rfl, Below.refl _ _⟩
end Go.Proofs.Ytfccibbgjjajjaa.Ints
