/- LabelsCmp's order: turned round it is its opposite, only the same stand at 0, and it goes on from one to the next. No condition. -/
import Derived.Test.YtkmoekbicbjdmaaDoorCmpMath
namespace Go.Proofs.YtkmoekbicbjdmaaDoor.Lab
open Go.RowKit Rw
set_option linter.unusedVariables false
/-- an order that is told by a number -/
structure Ord {α : Type} (f : α → α → Int) : Prop where
  anti : ∀ a b, f b a = - f a b
  zero : ∀ a b, f a b = 0 → a = b
  trans : ∀ a b c, f a b ≤ 0 → f b c ≤ 0 → f a c ≤ 0
theorem Ord.self {α : Type} {f : α → α → Int} (h : Ord f) (a : α) : f a a = 0 := by have := h.anti a a; omega
/-- one order, and behind it another -/
theorem Ord.lex {α β γ : Type} {f : α → α → Int} {g : β → β → Int} (hf : Ord f) (hg : Ord g) (p : γ → α) (q : γ → β) (hpq : ∀ x y, p x = p y → q x = q y → x = y) : Ord (fun x y : γ => if f (p x) (p y) ≠ 0 then f (p x) (p y) else g (q x) (q y)) := by
  refine ⟨fun a b => ?_, fun a b => ?_, fun a b c => ?_⟩
  · have h1 := hf.anti (p a) (p b)
    have h2 := hg.anti (q a) (q b)
    by_cases h : f (p a) (p b) = 0
    · simp only [h1, h, h2, Int.neg_zero, ne_eq, not_true_eq_false, if_false]
    · have : ¬ - f (p a) (p b) = 0 := by omega
      simp only [h1, ne_eq, this, h, not_false_eq_true, if_true]
  · intro h0
    by_cases h : f (p a) (p b) = 0
    · simp only [h, ne_eq, not_true_eq_false, if_false] at h0
      exact hpq a b (hf.zero _ _ h) (hg.zero _ _ h0)
    · simp only [ne_eq, h, not_false_eq_true, if_true] at h0
  · intro h1 h2
    have tr := hf.trans (p a) (p b) (p c)
    by_cases e1 : f (p a) (p b) = 0
    · have E1 := hf.zero _ _ e1
      simp only [e1, ne_eq, not_true_eq_false, if_false] at h1
      rw [← E1] at h2
      by_cases e2 : f (p a) (p c) = 0
      · simp only [e2, ne_eq, not_true_eq_false, if_false] at h2 ⊢
        exact hg.trans _ _ _ h1 h2
      · simp only [ne_eq, e2, not_false_eq_true, if_true] at h2 ⊢
        exact h2
    · simp only [ne_eq, e1, not_false_eq_true, if_true] at h1
      by_cases e2 : f (p b) (p c) = 0
      · have E2 := hf.zero _ _ e2
        rw [← E2]
        simp only [ne_eq, e1, not_false_eq_true, if_true]
        exact h1
      · simp only [ne_eq, e2, not_false_eq_true, if_true] at h2
        have h3 := tr h1 h2
        by_cases e3 : f (p a) (p c) = 0
        · have E3 := hf.zero _ _ e3
          have := hf.anti (p a) (p b)
          rw [E3] at this
          have := hf.anti (p b) (p c)
          rw [E3] at e1 h1
          omega
        · simp only [ne_eq, e3, not_false_eq_true, if_true]
          exact h3
theorem u8_lt {x y : UInt8} : x < y ↔ x.toNat < y.toNat := UInt8.lt_iff_toNat_lt
theorem cb_anti : ∀ a b : List UInt8, Lib.compareBytes b a = - Lib.compareBytes a b
  | [], [] => by simp [Lib.compareBytes]
  | [], y :: b => by simp [Lib.compareBytes]
  | x :: a, [] => by simp [Lib.compareBytes]
  | x :: a, y :: b => by
    rw [Lib.compareBytes, Lib.compareBytes, cb_anti a b]
    by_cases h1 : x < y
    · have h2 : ¬ y < x := by rw [u8_lt] at *; omega
      simp [h1, h2]
    · by_cases h2 : y < x
      · simp [h1, h2]
      · simp [h1, h2]
theorem cb_zero : ∀ a b : List UInt8, Lib.compareBytes a b = 0 → a = b
  | [], [] => fun _ => rfl
  | [], y :: b => by simp [Lib.compareBytes]
  | x :: a, [] => by simp [Lib.compareBytes]
  | x :: a, y :: b => by
    rw [Lib.compareBytes]
    by_cases h1 : x < y
    · simp [h1]
    · by_cases h2 : y < x
      · simp [h1, h2]
      · have e : x = y := by rw [u8_lt] at *; exact UInt8.toNat_inj.1 (by omega)
        simp only [h1, h2, if_false]
        intro h
        rw [e, cb_zero a b h]
theorem cb_trans : ∀ a b c : List UInt8, Lib.compareBytes a b ≤ 0 → Lib.compareBytes b c ≤ 0 → Lib.compareBytes a c ≤ 0
  | [], _, [] => by simp [Lib.compareBytes]
  | [], _, _ :: _ => by simp [Lib.compareBytes]
  | _ :: _, [], _ => by simp [Lib.compareBytes]
  | _ :: _, _ :: _, [] => by simp [Lib.compareBytes]
  | x :: a, y :: b, z :: c => by
    have ih := cb_trans a b c
    rw [Lib.compareBytes, Lib.compareBytes, Lib.compareBytes]
    by_cases h1 : x < y
    · by_cases h3 : y < z
      · have : x < z := by rw [u8_lt] at *; omega
        simp [this]
      · by_cases h4 : z < y
        · simp [h3, h4]
        · have : x < z := by rw [u8_lt] at *; omega
          simp [this]
    · by_cases h2 : y < x
      · simp [h1, h2]
      · by_cases h3 : y < z
        · have : x < z := by rw [u8_lt] at *; omega
          simp [this]
        · by_cases h4 : z < y
          · simp [h3, h4]
          · have h5 : ¬ x < z := by rw [u8_lt] at *; omega
            have h6 : ¬ z < x := by rw [u8_lt] at *; omega
            simp only [h1, h2, h3, h4, h5, h6, if_false]
            exact ih
theorem ordS : Ord cmpS := ⟨fun a b => cb_anti _ _, fun a b h => Go.WideShapes.bytes_inj (cb_zero _ _ h), fun a b c => cb_trans _ _ _⟩
theorem ordE : Ord cmpE := ordS.lex ordS (fun x : E => x.1) (fun x : E => x.2) (fun x y h1 h2 => Prod.ext h1 h2)
theorem l_anti : ∀ a b : List E, cmpL b a = - cmpL a b
  | [], [] => by simp [cmpL]
  | [], y :: b => by simp [cmpL]
  | x :: a, [] => by simp [cmpL]
  | x :: a, y :: b => by
    rw [cmpL, cmpL, l_anti a b, ordE.anti x y]
    by_cases h : cmpE x y = 0
    · simp [h]
    · have : ¬ - cmpE x y = 0 := by omega
      simp only [ne_eq, this, h, not_false_eq_true, if_true]
theorem l_zero : ∀ a b : List E, cmpL a b = 0 → a = b
  | [], [] => fun _ => rfl
  | [], y :: b => by simp [cmpL]
  | x :: a, [] => by simp [cmpL]
  | x :: a, y :: b => by
    rw [cmpL]
    by_cases h : cmpE x y = 0
    · simp only [h, ne_eq, not_true_eq_false, if_false]
      intro h'
      rw [ordE.zero _ _ h, l_zero a b h']
    · simp only [ne_eq, h, not_false_eq_true, if_true]
      intro h'
      exact h'.elim
theorem l_trans : ∀ a b c : List E, cmpL a b ≤ 0 → cmpL b c ≤ 0 → cmpL a c ≤ 0
  | [], _, [] => by simp [cmpL]
  | [], _, _ :: _ => by simp [cmpL]
  | _ :: _, [], _ => by simp [cmpL]
  | _ :: _, _ :: _, [] => by simp [cmpL]
  | x :: a, y :: b, z :: c => by
    have ih := l_trans a b c
    rw [cmpL, cmpL, cmpL]
    intro h1 h2
    have tr := ordE.trans x y z
    by_cases e1 : cmpE x y = 0
    · have E1 := ordE.zero _ _ e1
      simp only [e1, ne_eq, not_true_eq_false, if_false] at h1
      rw [← E1] at h2
      by_cases e2 : cmpE x z = 0
      · simp only [e2, ne_eq, not_true_eq_false, if_false] at h2 ⊢
        exact ih h1 h2
      · simp only [ne_eq, e2, not_false_eq_true, if_true] at h2 ⊢
        exact h2
    · simp only [ne_eq, e1, not_false_eq_true, if_true] at h1
      by_cases e2 : cmpE y z = 0
      · have E2 := ordE.zero _ _ e2
        rw [← E2]
        simp only [ne_eq, e1, not_false_eq_true, if_true]
        exact h1
      · simp only [ne_eq, e2, not_false_eq_true, if_true] at h2
        have h3 := tr h1 h2
        by_cases e3 : cmpE x z = 0
        · have E3 := ordE.zero _ _ e3
          rw [E3] at e1 h1
          have := ordE.anti y z
          omega
        · simp only [ne_eq, e3, not_false_eq_true, if_true]
          exact h3
theorem ordL : Ord cmpL := ⟨l_anti, l_zero, l_trans⟩
/-- what LabelsCmp answers, turned round -/
theorem cmp_anti (a b : List E) : cmp b a = - cmp a b := by
  unfold cmp
  by_cases h : ok a = true ∧ ok b = true
  · rw [if_pos h, if_pos ⟨h.2, h.1⟩]; exact l_anti a b
  · rw [if_neg h, if_neg (fun h' => h ⟨h'.2, h'.1⟩)]; rfl
end Go.Proofs.YtkmoekbicbjdmaaDoor.Lab
