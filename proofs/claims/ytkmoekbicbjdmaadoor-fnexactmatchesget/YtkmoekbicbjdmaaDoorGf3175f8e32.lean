/- My own texts of one claim, laid together by program: CmpMath, CmpOrd, StrMath, StrLaw. -/
import Derived.Test.YtkmoekbicbjdmaaDoorGeeb769b86e
import Derived.Lib.Bytealg
import Derived.Test.YtkmoekbicbjdmaaDoorGcd34e07ed4
/- How texts and labels stand to each other, as plain mathematics. No condition. -/
namespace Go.Proofs.YtkmoekbicbjdmaaDoor.Lab
open Go.RowKit Rw
theorem less_irrefl : ∀ a : List UInt8, Op.bytesLess a a = false
  | [] => rfl
  | x :: a => by unfold Op.bytesLess; rw [less_irrefl a]; simp
theorem cmp_less : ∀ a b : List UInt8, Lib.compareBytes a b = if Op.bytesLess a b = true then -1 else if a = b then 0 else 1
  | [], [] => by simp [Lib.compareBytes, Op.bytesLess]
  | [], y :: b => by simp [Lib.compareBytes, Op.bytesLess]
  | x :: a, [] => by simp [Lib.compareBytes, Op.bytesLess]
  | x :: a, y :: b => by
    rw [Lib.compareBytes, Op.bytesLess, cmp_less a b]
    by_cases h1 : x < y
    · simp [h1]
    · by_cases h2 : y < x
      · have hne : x ≠ y := fun e => by subst e; exact h1 h2
        simp [h1, h2, hne]
      · have e : x = y := by
          have a1 : ¬ x.toNat < y.toNat := fun h => h1 (UInt8.lt_iff_toNat_lt.2 h)
          have a2 : ¬ y.toNat < x.toNat := fun h => h2 (UInt8.lt_iff_toNat_lt.2 h)
          exact UInt8.toNat_inj.1 (by omega)
        subst e
        simp [h1]
def cmpS (a b : ByteArray) : Int := Lib.compareBytes a.data.toList b.data.toList
theorem cmpS_eq (a b : ByteArray) : cmpS a b = if ltS a b = true then -1 else if a.toList = b.toList then 0 else 1 := by
  unfold cmpS ltS
  rw [ByteArray.toList_eq, ByteArray.toList_eq]
  exact cmp_less _ _
theorem cmpS_range (a b : ByteArray) : -1 ≤ cmpS a b ∧ cmpS a b ≤ 1 := by
  rw [cmpS_eq]; split
  · omega
  · split <;> omega
def cmpE (x y : E) : Int := if cmpS x.1 y.1 ≠ 0 then cmpS x.1 y.1 else cmpS x.2 y.2
theorem cmpE_range (x y : E) : -1 ≤ cmpE x y ∧ cmpE x y ≤ 1 := by
  unfold cmpE; split
  · exact cmpS_range _ _
  · exact cmpS_range _ _
def cmpL : List E → List E → Int
  | [], [] => 0
  | [], _ :: _ => -1
  | _ :: _, [] => 1
  | x :: a, y :: b => if cmpE x y ≠ 0 then cmpE x y else cmpL a b
theorem cmpL_range : ∀ a b : List E, -1 ≤ cmpL a b ∧ cmpL a b ≤ 1
  | [], [] => by simp [cmpL]
  | [], _ :: _ => by simp [cmpL]
  | _ :: _, [] => by simp [cmpL]
  | x :: a, y :: b => by
    rw [cmpL]; split
    · exact cmpE_range x y
    · exact cmpL_range a b
theorem drop_at (zs : List E) (i : Nat) (h : i < zs.length) : zs.drop i = at' zs i :: zs.drop (i + 1) := by
  rw [List.drop_eq_getElem_cons h, at_get zs i h]
/-- what the loops keep -/
def CLeft (a b : List E) (i : Nat) : Prop := cmpL a b = cmpL (a.drop i) (b.drop i)
theorem left_start (a b : List E) : CLeft a b 0 := by simp [CLeft]
theorem left_next {a b : List E} {i : Nat} (h : CLeft a b i) (hi : i < a.length) (hj : i < b.length) (he : cmpE (at' a i) (at' b i) = 0) : CLeft a b (i + 1) := by
  unfold CLeft at *
  rw [h, drop_at a i hi, drop_at b i hj, cmpL, if_neg (by simp [he])]
theorem left_stop {a b : List E} {i : Nat} (h : CLeft a b i) (hi : i < a.length) (hj : i < b.length) (he : cmpE (at' a i) (at' b i) ≠ 0) : cmpL a b = cmpE (at' a i) (at' b i) := by
  unfold CLeft at *
  rw [h, drop_at a i hi, drop_at b i hj, cmpL, if_pos he]
theorem left_long {a b : List E} {i : Nat} (h : CLeft a b i) (hi : i < a.length) (hj : b.length ≤ i) : cmpL a b = 1 := by
  unfold CLeft at *
  rw [h, drop_at a i hi, List.drop_eq_nil_of_le hj, cmpL]
theorem left_short {a b : List E} {i : Nat} (h : CLeft a b i) (hi : a.length ≤ i) (hj : i < b.length) : cmpL a b = -1 := by
  unfold CLeft at *
  rw [h, drop_at b i hj, List.drop_eq_nil_of_le hi, cmpL]
theorem left_same {a b : List E} {i : Nat} (h : CLeft a b i) (hi : a.length ≤ i) (hj : b.length ≤ i) : cmpL a b = 0 := by
  unfold CLeft at *
  rw [h, List.drop_eq_nil_of_le hj, List.drop_eq_nil_of_le hi, cmpL]
/-- what LabelsCmp answers -/
def cmp (a b : List E) : Int := if ok a = true ∧ ok b = true then cmpL a b else 0
theorem cmp_bad {a b : List E} (h : ok a = false ∨ ok b = false) : cmp a b = 0 := by
  unfold cmp; rw [if_neg]; rintro ⟨h1, h2⟩; rcases h with h | h <;> simp_all
theorem cmp_ok {a b : List E} (h1 : ok a = true) (h2 : ok b = true) : cmp a b = cmpL a b := by unfold cmp; rw [if_pos ⟨h1, h2⟩]
end Go.Proofs.YtkmoekbicbjdmaaDoor.Lab

/- LabelsCmp's order: turned round it is its opposite, only the same stand at 0, and it goes on from one to the next. No condition. -/
namespace Go.Proofs.YtkmoekbicbjdmaaDoor.Lab
open Go.RowKit Rw
set_option linter.unusedVariables false
/-- an order that is told by a number -/
structure Ord {α : Type} (f : α → α → Int) : Prop where
  anti : ∀ a b, f b a = - f a b
  zero : ∀ a b, f a b = 0 → a = b
  trans : ∀ a b c, f a b ≤ 0 → f b c ≤ 0 → f a c ≤ 0
theorem Ord.self {α : Type} {f : α → α → Int} (h : Ord f) (a : α) : f a a = 0 := by have := h.anti a a; omega
/-- one order, and behind it another -/
theorem Ord.lex {α β γ : Type} {f : α → α → Int} {g : β → β → Int} (hf : Ord f) (hg : Ord g) (p : γ → α) (q : γ → β) (hpq : ∀ x y, p x = p y → q x = q y → x = y) : Ord (fun x y : γ => if f (p x) (p y) ≠ 0 then f (p x) (p y) else g (q x) (q y)) := by
  refine ⟨fun a b => ?_, fun a b => ?_, fun a b c => ?_⟩
  · have h1 := hf.anti (p a) (p b)
    have h2 := hg.anti (q a) (q b)
    by_cases h : f (p a) (p b) = 0
    · simp only [h1, h, h2, Int.neg_zero, ne_eq, not_true_eq_false, if_false]
    · have : ¬ - f (p a) (p b) = 0 := by omega
      simp only [h1, ne_eq, this, h, not_false_eq_true, if_true]
  · intro h0
    by_cases h : f (p a) (p b) = 0
    · simp only [h, ne_eq, not_true_eq_false, if_false] at h0
      exact hpq a b (hf.zero _ _ h) (hg.zero _ _ h0)
    · simp only [ne_eq, h, not_false_eq_true, if_true] at h0
  · intro h1 h2
    have tr := hf.trans (p a) (p b) (p c)
    by_cases e1 : f (p a) (p b) = 0
    · have E1 := hf.zero _ _ e1
      simp only [e1, ne_eq, not_true_eq_false, if_false] at h1
      rw [← E1] at h2
      by_cases e2 : f (p a) (p c) = 0
      · simp only [e2, ne_eq, not_true_eq_false, if_false] at h2 ⊢
        exact hg.trans _ _ _ h1 h2
      · simp only [ne_eq, e2, not_false_eq_true, if_true] at h2 ⊢
        exact h2
    · simp only [ne_eq, e1, not_false_eq_true, if_true] at h1
      by_cases e2 : f (p b) (p c) = 0
      · have E2 := hf.zero _ _ e2
        rw [← E2]
        simp only [ne_eq, e1, not_false_eq_true, if_true]
        exact h1
      · simp only [ne_eq, e2, not_false_eq_true, if_true] at h2
        have h3 := tr h1 h2
        by_cases e3 : f (p a) (p c) = 0
        · have E3 := hf.zero _ _ e3
          have := hf.anti (p a) (p b)
          rw [E3] at this
          have := hf.anti (p b) (p c)
          rw [E3] at e1 h1
          omega
        · simp only [ne_eq, e3, not_false_eq_true, if_true]
          exact h3
theorem u8_lt {x y : UInt8} : x < y ↔ x.toNat < y.toNat := UInt8.lt_iff_toNat_lt
theorem cb_anti : ∀ a b : List UInt8, Lib.compareBytes b a = - Lib.compareBytes a b
  | [], [] => by simp [Lib.compareBytes]
  | [], y :: b => by simp [Lib.compareBytes]
  | x :: a, [] => by simp [Lib.compareBytes]
  | x :: a, y :: b => by
    rw [Lib.compareBytes, Lib.compareBytes, cb_anti a b]
    by_cases h1 : x < y
    · have h2 : ¬ y < x := by rw [u8_lt] at *; omega
      simp [h1, h2]
    · by_cases h2 : y < x
      · simp [h1, h2]
      · simp [h1, h2]
theorem cb_zero : ∀ a b : List UInt8, Lib.compareBytes a b = 0 → a = b
  | [], [] => fun _ => rfl
  | [], y :: b => by simp [Lib.compareBytes]
  | x :: a, [] => by simp [Lib.compareBytes]
  | x :: a, y :: b => by
    rw [Lib.compareBytes]
    by_cases h1 : x < y
    · simp [h1]
    · by_cases h2 : y < x
      · simp [h1, h2]
      · have e : x = y := by rw [u8_lt] at *; exact UInt8.toNat_inj.1 (by omega)
        simp only [h1, h2, if_false]
        intro h
        rw [e, cb_zero a b h]
theorem cb_trans : ∀ a b c : List UInt8, Lib.compareBytes a b ≤ 0 → Lib.compareBytes b c ≤ 0 → Lib.compareBytes a c ≤ 0
  | [], _, [] => by simp [Lib.compareBytes]
  | [], _, _ :: _ => by simp [Lib.compareBytes]
  | _ :: _, [], _ => by simp [Lib.compareBytes]
  | _ :: _, _ :: _, [] => by simp [Lib.compareBytes]
  | x :: a, y :: b, z :: c => by
    have ih := cb_trans a b c
    rw [Lib.compareBytes, Lib.compareBytes, Lib.compareBytes]
    by_cases h1 : x < y
    · by_cases h3 : y < z
      · have : x < z := by rw [u8_lt] at *; omega
        simp [this]
      · by_cases h4 : z < y
        · simp [h3, h4]
        · have : x < z := by rw [u8_lt] at *; omega
          simp [this]
    · by_cases h2 : y < x
      · simp [h1, h2]
      · by_cases h3 : y < z
        · have : x < z := by rw [u8_lt] at *; omega
          simp [this]
        · by_cases h4 : z < y
          · simp [h3, h4]
          · have h5 : ¬ x < z := by rw [u8_lt] at *; omega
            have h6 : ¬ z < x := by rw [u8_lt] at *; omega
            simp only [h1, h2, h3, h4, h5, h6, if_false]
            exact ih
theorem ordS : Ord cmpS := ⟨fun a b => cb_anti _ _, fun a b h => Go.WideShapes.bytes_inj (cb_zero _ _ h), fun a b c => cb_trans _ _ _⟩
theorem ordE : Ord cmpE := ordS.lex ordS (fun x : E => x.1) (fun x : E => x.2) (fun x y h1 h2 => Prod.ext h1 h2)
theorem l_anti : ∀ a b : List E, cmpL b a = - cmpL a b
  | [], [] => by simp [cmpL]
  | [], y :: b => by simp [cmpL]
  | x :: a, [] => by simp [cmpL]
  | x :: a, y :: b => by
    rw [cmpL, cmpL, l_anti a b, ordE.anti x y]
    by_cases h : cmpE x y = 0
    · simp [h]
    · have : ¬ - cmpE x y = 0 := by omega
      simp only [ne_eq, this, h, not_false_eq_true, if_true]
theorem l_zero : ∀ a b : List E, cmpL a b = 0 → a = b
  | [], [] => fun _ => rfl
  | [], y :: b => by simp [cmpL]
  | x :: a, [] => by simp [cmpL]
  | x :: a, y :: b => by
    rw [cmpL]
    by_cases h : cmpE x y = 0
    · simp only [h, ne_eq, not_true_eq_false, if_false]
      intro h'
      rw [ordE.zero _ _ h, l_zero a b h']
    · simp only [ne_eq, h, not_false_eq_true, if_true]
      intro h'
      exact h'.elim
theorem l_trans : ∀ a b c : List E, cmpL a b ≤ 0 → cmpL b c ≤ 0 → cmpL a c ≤ 0
  | [], _, [] => by simp [cmpL]
  | [], _, _ :: _ => by simp [cmpL]
  | _ :: _, [], _ => by simp [cmpL]
  | _ :: _, _ :: _, [] => by simp [cmpL]
  | x :: a, y :: b, z :: c => by
    have ih := l_trans a b c
    rw [cmpL, cmpL, cmpL]
    intro h1 h2
    have tr := ordE.trans x y z
    by_cases e1 : cmpE x y = 0
    · have E1 := ordE.zero _ _ e1
      simp only [e1, ne_eq, not_true_eq_false, if_false] at h1
      rw [← E1] at h2
      by_cases e2 : cmpE x z = 0
      · simp only [e2, ne_eq, not_true_eq_false, if_false] at h2 ⊢
        exact ih h1 h2
      · simp only [ne_eq, e2, not_false_eq_true, if_true] at h2 ⊢
        exact h2
    · simp only [ne_eq, e1, not_false_eq_true, if_true] at h1
      by_cases e2 : cmpE y z = 0
      · have E2 := ordE.zero _ _ e2
        rw [← E2]
        simp only [ne_eq, e1, not_false_eq_true, if_true]
        exact h1
      · simp only [ne_eq, e2, not_false_eq_true, if_true] at h2
        have h3 := tr h1 h2
        by_cases e3 : cmpE x z = 0
        · have E3 := ordE.zero _ _ e3
          rw [E3] at e1 h1
          have := ordE.anti y z
          omega
        · simp only [ne_eq, e3, not_false_eq_true, if_true]
          exact h3
theorem ordL : Ord cmpL := ⟨l_anti, l_zero, l_trans⟩
/-- what LabelsCmp answers, turned round -/
theorem cmp_anti (a b : List E) : cmp b a = - cmp a b := by
  unfold cmp
  by_cases h : ok a = true ∧ ok b = true
  · rw [if_pos h, if_pos ⟨h.2, h.1⟩]; exact l_anti a b
  · rw [if_neg h, if_neg (fun h' => h ⟨h'.2, h'.1⟩)]; rfl
end Go.Proofs.YtkmoekbicbjdmaaDoor.Lab

/- Ascending lists of texts: the generic loop's answer, and how a text is put among others. No condition. -/
namespace Go.Proofs.YtkmoekbicbjdmaaDoor.StrMath
open Go.RowKit Lab
abbrev lt (a b : ByteArray) : Prop := ltS a b = true
theorem cmp_lt {a b : ByteArray} : cmpS a b < 0 ↔ lt a b := by
  rw [cmpS_eq]
  unfold lt
  by_cases h : ltS a b = true
  · rw [if_pos h]; exact ⟨fun _ => h, fun _ => by omega⟩
  · rw [if_neg h]
    refine ⟨fun h1 => ?_, fun h1 => absurd h1 h⟩
    split at h1 <;> omega
theorem lt_irrefl (a : ByteArray) : ¬ lt a a := fun h => by have := cmp_lt.2 h; rw [ordS.self] at this; omega
theorem lt_asymm {a b : ByteArray} (h : lt a b) : ¬ lt b a := fun h' => by have h1 := cmp_lt.2 h; have h2 := cmp_lt.2 h'; have := ordS.anti a b; omega
theorem lt_trans {a b c : ByteArray} (h : lt a b) (h' : lt b c) : lt a c := by
  have h1 := cmp_lt.2 h
  have h2 := cmp_lt.2 h'
  apply cmp_lt.1
  have h3 := ordS.trans a b c (by omega) (by omega)
  rcases Int.lt_or_eq_of_le h3 with h4 | h4
  · exact h4
  · have e := ordS.zero a c h4
    subst e
    have := ordS.anti a b
    omega
theorem lt_trichotomy (a b : ByteArray) : lt a b ∨ a = b ∨ lt b a := by
  rcases Int.lt_trichotomy (cmpS a b) 0 with h | h | h
  · exact .inl (cmp_lt.1 h)
  · exact .inr (.inl (ordS.zero a b h))
  · refine .inr (.inr (cmp_lt.1 ?_))
    have := ordS.anti a b
    omega
def at' (zs : List ByteArray) (i : Nat) : ByteArray := zs.getD i default
theorem drop_at (zs : List ByteArray) (i : Nat) (h : i < zs.length) : zs.drop i = at' zs i :: zs.drop (i + 1) := by
  rw [List.drop_eq_getElem_cons h]; simp [at', List.getD, h]
def one (b : Bool) (x : ByteArray) : List ByteArray := if b = true then [x] else []
/-- what the generic loop makes of two lists -/
def merge (k : Bool → Bool → Bool) : List ByteArray → List ByteArray → List ByteArray
  | [], [] => []
  | x :: a, [] => one (k true false) x ++ merge k a []
  | [], y :: b => one (k false true) y ++ merge k [] b
  | x :: a, y :: b =>
    if ltS x y = true then one (k true false) x ++ merge k a (y :: b)
    else if ltS y x = true then one (k false true) y ++ merge k (x :: a) b
    else one (k true true) y ++ merge k a b
def MLeft (k : Bool → Bool → Bool) (a b L : List ByteArray) (i j : Nat) : Prop := merge k a b = L ++ merge k (a.drop i) (b.drop j)
theorem left_start (k : Bool → Bool → Bool) (a b : List ByteArray) : MLeft k a b [] 0 0 := by simp [MLeft]
theorem left_first {k : Bool → Bool → Bool} {a b L : List ByteArray} {i j : Nat} (h : MLeft k a b L i j) (hi : i < a.length) (hj : j < b.length) (hlt : lt (at' a i) (at' b j)) : MLeft k a b (L ++ one (k true false) (at' a i)) (i + 1) j := by
  unfold MLeft at *
  rw [h, drop_at a i hi, drop_at b j hj, merge, if_pos hlt, List.append_assoc]
theorem left_second {k : Bool → Bool → Bool} {a b L : List ByteArray} {i j : Nat} (h : MLeft k a b L i j) (hi : i < a.length) (hj : j < b.length) (hlt : lt (at' b j) (at' a i)) : MLeft k a b (L ++ one (k false true) (at' b j)) i (j + 1) := by
  unfold MLeft at *
  rw [h, drop_at a i hi, drop_at b j hj, merge, if_neg (lt_asymm hlt), if_pos hlt, List.append_assoc]
theorem left_both {k : Bool → Bool → Bool} {a b L : List ByteArray} {i j : Nat} (h : MLeft k a b L i j) (hi : i < a.length) (hj : j < b.length) (he : at' a i = at' b j) : MLeft k a b (L ++ one (k true true) (at' b j)) (i + 1) (j + 1) := by
  unfold MLeft at *
  rw [h, drop_at a i hi, drop_at b j hj, he, merge, if_neg (lt_irrefl _), if_neg (lt_irrefl _), List.append_assoc]
theorem left_a {k : Bool → Bool → Bool} {a b L : List ByteArray} {i j : Nat} (h : MLeft k a b L i j) (hi : i < a.length) (hj : b.length ≤ j) : MLeft k a b (L ++ one (k true false) (at' a i)) (i + 1) j := by
  unfold MLeft at *
  rw [h, drop_at a i hi, List.drop_eq_nil_of_le hj, merge, List.append_assoc]
theorem left_b {k : Bool → Bool → Bool} {a b L : List ByteArray} {i j : Nat} (h : MLeft k a b L i j) (hi : a.length ≤ i) (hj : j < b.length) : MLeft k a b (L ++ one (k false true) (at' b j)) i (j + 1) := by
  unfold MLeft at *
  rw [h, drop_at b j hj, List.drop_eq_nil_of_le hi, merge, List.append_assoc]
theorem left_end {k : Bool → Bool → Bool} {a b L : List ByteArray} {i j : Nat} (h : MLeft k a b L i j) (hi : a.length ≤ i) (hj : b.length ≤ j) : merge k a b = L := by
  unfold MLeft at h
  rw [h, List.drop_eq_nil_of_le hi, List.drop_eq_nil_of_le hj, merge, List.append_nil]
def either (a b : Bool) : Bool := a || b
/-- a text among others, once -/
def put : List ByteArray → ByteArray → List ByteArray
  | [], n => [n]
  | x :: l, n => if ltS x n = true then x :: put l n else if x = n then x :: l else n :: x :: l
theorem merge_nil (l : List ByteArray) : merge either l [] = l := by
  induction l with
  | nil => rw [merge]
  | cons x l ih => rw [merge, ih]; rfl
theorem merge_one (l : List ByteArray) (n : ByteArray) : merge either l [n] = put l n := by
  induction l with
  | nil => rw [merge, merge, put]; rfl
  | cons x l ih =>
    rw [merge, put]
    rcases lt_trichotomy x n with h | h | h
    · rw [if_pos h, if_pos h, ih]; rfl
    · subst h
      rw [if_neg (lt_irrefl _), if_neg (lt_irrefl _), if_neg (lt_irrefl _), if_pos rfl, merge_nil]; rfl
    · rw [if_neg (lt_asymm h), if_pos h, if_neg (lt_asymm h), if_neg (fun e => by subst e; exact lt_irrefl _ h), merge_nil]; rfl
theorem put_len (l : List ByteArray) (n : ByteArray) : (put l n).length ≤ l.length + 1 := by
  induction l with
  | nil => simp [put]
  | cons x l ih =>
    unfold put
    split
    · simp; exact ih
    · split <;> simp
theorem mem_put {l : List ByteArray} {n z : ByteArray} (h : z ∈ put l n) : z ∈ l ∨ z = n := by
  induction l with
  | nil => simp [put] at h; exact .inr h
  | cons x l ih =>
    unfold put at h
    split at h
    · rcases List.mem_cons.1 h with e | e
      · exact .inl (by rw [e]; simp)
      · rcases ih e with g | g
        · exact .inl (List.mem_cons_of_mem _ g)
        · exact .inr g
    · split at h
      · exact .inl h
      · rcases List.mem_cons.1 h with e | e
        · exact .inr e
        · exact .inl e
end Go.Proofs.YtkmoekbicbjdmaaDoor.StrMath

/- Slices of texts: what lies in them, what the laws' helpers do with them. -/
namespace Go.Proofs.YtkmoekbicbjdmaaDoor.Str
open Go.RowKit Rw
set_option linter.unusedVariables false
attribute [local go_sem ↓] Go.wp_at_zero Go.wp_at_succ
abbrev E := ByteArray
def fl (x : E) : List Value := [.string x]
theorem flk (x : E) : (fl x).length = 1 := rfl
abbrev at' (zs : List E) (i : Nat) : E := StrMath.at' zs i
abbrev flat (zs : List E) : List Value := flatOf fl zs
abbrev Is (w : World) (v : Value) (zs : List E) : Prop := Lies w v zs.length 1 (flat zs)
theorem flat_length (zs : List E) : (flat zs).length = zs.length := by rw [flatOf_length flk, Nat.mul_one]
theorem flat_oneCell (zs : List E) : ∀ u ∈ flat zs, u.oneCell' = true := by
  intro u hu
  obtain ⟨x, _, hx⟩ := List.mem_flatMap.1 hu
  simp only [fl, List.mem_cons, List.not_mem_nil, or_false] at hx
  rw [hx]; rfl
theorem at_get (zs : List E) (i : Nat) (h : i < zs.length) : at' zs i = zs[i] := by simp [at', StrMath.at', List.getD, h]
theorem at_snoc (zs : List E) (i : Nat) (h : i < zs.length) : zs.take (i + 1) = zs.take i ++ [at' zs i] := by rw [List.take_succ_eq_append_getElem h, at_get zs i h]
theorem flat_at (zs : List E) (i : Nat) (h : i < zs.length) : (flat zs)[i]? = some (.string (at' zs i)) := by
  rw [at_get zs i h]
  have := flatOf_get flk zs i 0 h (by omega)
  rw [Nat.mul_one, Nat.add_zero] at this
  exact this
theorem flat_append (a b : List E) : flat (a ++ b) = flat a ++ flat b := flatOf_append _ _ _
theorem is_of_own {w : World} {base : Nat} {v : Value} {zs : List E} (h : w.ownsRow base 9 1 v zs.length (flat zs)) : Is w v zs := lies_of_own h
theorem info_e : (Tryd.prog.info? 9).map (fun i => (i.zero, i.size, i.bytes)) = some (some (.string ByteArray.empty), 1, 16) := by kernel_rfl
theorem set_e (A : List Value) (u0 x0 : Value) (L : List Value) (k : Nat) (h : A.length = k) : (A ++ u0 :: L).set k x0 = A ++ [x0] ++ L := by
  subst h
  simp [List.set_append_right]
theorem split_e (r : List Value) (n : Nat) (h : r.length = n + 1) : ∃ u0 L, r = u0 :: L ∧ L.length = n := by
  match r, h with
  | u0 :: L, h => exact ⟨u0, L, rfl, by simpa using h⟩
  | [], h => simp at h
end Go.Proofs.YtkmoekbicbjdmaaDoor.Str
