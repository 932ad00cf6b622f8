/- My own texts of one claim, laid together by program: CmpOrd, StrMath, StrLaw, StrMerge. -/
import Derived.Test.YtncjagdnebpaaaaG4680891d3a
import Derived.Shelf.Abstract
/- LabelsCmp's order: turned round it is its opposite, only the same stand at 0, and it goes on from one to the next. No condition. -/
namespace Go.Proofs.Ytncjagdnebpaaaa.Lab
open Go.RowKit Rw
set_option linter.unusedVariables false
/-- an order that is told by a number -/
structure Ord {α : Type} (f : α → α → Int) : Prop where
  anti : ∀ a b, f b a = - f a b
  zero : ∀ a b, f a b = 0 → a = b
  trans : ∀ a b c, f a b ≤ 0 → f b c ≤ 0 → f a c ≤ 0
theorem Ord.self {α : Type} {f : α → α → Int} (h : Ord f) (a : α) : f a a = 0 := by have := h.anti a a; omega
/-- one order, and behind it another -/
theorem Ord.lex {α β γ : Type} {f : α → α → Int} {g : β → β → Int} (hf : Ord f) (hg : Ord g) (p : γ → α) (q : γ → β) (hpq : ∀ x y, p x = p y → q x = q y → x = y) : Ord (fun x y : γ => if f (p x) (p y) ≠ 0 then f (p x) (p y) else g (q x) (q y)) := by
  refine ⟨fun a b => ?_, fun a b => ?_, fun a b c => ?_⟩
  · have h1 := hf.anti (p a) (p b)
    have h2 := hg.anti (q a) (q b)
    by_cases h : f (p a) (p b) = 0
    · simp only [h1, h, h2, Int.neg_zero, ne_eq, not_true_eq_false, if_false]
    · have : ¬ - f (p a) (p b) = 0 := by omega
      simp only [h1, ne_eq, this, h, not_false_eq_true, if_true]
  · intro h0
    by_cases h : f (p a) (p b) = 0
    · simp only [h, ne_eq, not_true_eq_false, if_false] at h0
      exact hpq a b (hf.zero _ _ h) (hg.zero _ _ h0)
    · simp only [ne_eq, h, not_false_eq_true, if_true] at h0
  · intro h1 h2
    have tr := hf.trans (p a) (p b) (p c)
    by_cases e1 : f (p a) (p b) = 0
    · have E1 := hf.zero _ _ e1
      simp only [e1, ne_eq, not_true_eq_false, if_false] at h1
      rw [← E1] at h2
      by_cases e2 : f (p a) (p c) = 0
      · simp only [e2, ne_eq, not_true_eq_false, if_false] at h2 ⊢
        exact hg.trans _ _ _ h1 h2
      · simp only [ne_eq, e2, not_false_eq_true, if_true] at h2 ⊢
        exact h2
    · simp only [ne_eq, e1, not_false_eq_true, if_true] at h1
      by_cases e2 : f (p b) (p c) = 0
      · have E2 := hf.zero _ _ e2
        rw [← E2]
        simp only [ne_eq, e1, not_false_eq_true, if_true]
        exact h1
      · simp only [ne_eq, e2, not_false_eq_true, if_true] at h2
        have h3 := tr h1 h2
        by_cases e3 : f (p a) (p c) = 0
        · have E3 := hf.zero _ _ e3
          have := hf.anti (p a) (p b)
          rw [E3] at this
          have := hf.anti (p b) (p c)
          rw [E3] at e1 h1
          omega
        · simp only [ne_eq, e3, not_false_eq_true, if_true]
          exact h3
theorem u8_lt {x y : UInt8} : x < y ↔ x.toNat < y.toNat := UInt8.lt_iff_toNat_lt
theorem cb_anti : ∀ a b : List UInt8, Lib.compareBytes b a = - Lib.compareBytes a b
  | [], [] => by simp [Lib.compareBytes]
  | [], y :: b => by simp [Lib.compareBytes]
  | x :: a, [] => by simp [Lib.compareBytes]
  | x :: a, y :: b => by
    rw [Lib.compareBytes, Lib.compareBytes, cb_anti a b]
    by_cases h1 : x < y
    · have h2 : ¬ y < x := by rw [u8_lt] at *; omega
      simp [h1, h2]
    · by_cases h2 : y < x
      · simp [h1, h2]
      · simp [h1, h2]
theorem cb_zero : ∀ a b : List UInt8, Lib.compareBytes a b = 0 → a = b
  | [], [] => fun _ => rfl
  | [], y :: b => by simp [Lib.compareBytes]
  | x :: a, [] => by simp [Lib.compareBytes]
  | x :: a, y :: b => by
    rw [Lib.compareBytes]
    by_cases h1 : x < y
    · simp [h1]
    · by_cases h2 : y < x
      · simp [h1, h2]
      · have e : x = y := by rw [u8_lt] at *; exact UInt8.toNat_inj.1 (by omega)
        simp only [h1, h2, if_false]
        intro h
        rw [e, cb_zero a b h]
theorem cb_trans : ∀ a b c : List UInt8, Lib.compareBytes a b ≤ 0 → Lib.compareBytes b c ≤ 0 → Lib.compareBytes a c ≤ 0
  | [], _, [] => by simp [Lib.compareBytes]
  | [], _, _ :: _ => by simp [Lib.compareBytes]
  | _ :: _, [], _ => by simp [Lib.compareBytes]
  | _ :: _, _ :: _, [] => by simp [Lib.compareBytes]
  | x :: a, y :: b, z :: c => by
    have ih := cb_trans a b c
    rw [Lib.compareBytes, Lib.compareBytes, Lib.compareBytes]
    by_cases h1 : x < y
    · by_cases h3 : y < z
      · have : x < z := by rw [u8_lt] at *; omega
        simp [this]
      · by_cases h4 : z < y
        · simp [h3, h4]
        · have : x < z := by rw [u8_lt] at *; omega
          simp [this]
    · by_cases h2 : y < x
      · simp [h1, h2]
      · by_cases h3 : y < z
        · have : x < z := by rw [u8_lt] at *; omega
          simp [this]
        · by_cases h4 : z < y
          · simp [h3, h4]
          · have h5 : ¬ x < z := by rw [u8_lt] at *; omega
            have h6 : ¬ z < x := by rw [u8_lt] at *; omega
            simp only [h1, h2, h3, h4, h5, h6, if_false]
            exact ih
theorem ordS : Ord cmpS := ⟨fun a b => cb_anti _ _, fun a b h => Go.WideShapes.bytes_inj (cb_zero _ _ h), fun a b c => cb_trans _ _ _⟩
theorem ordE : Ord cmpE := ordS.lex ordS (fun x : E => x.1) (fun x : E => x.2) (fun x y h1 h2 => Prod.ext h1 h2)
theorem l_anti : ∀ a b : List E, cmpL b a = - cmpL a b
  | [], [] => by simp [cmpL]
  | [], y :: b => by simp [cmpL]
  | x :: a, [] => by simp [cmpL]
  | x :: a, y :: b => by
    rw [cmpL, cmpL, l_anti a b, ordE.anti x y]
    by_cases h : cmpE x y = 0
    · simp [h]
    · have : ¬ - cmpE x y = 0 := by omega
      simp only [ne_eq, this, h, not_false_eq_true, if_true]
theorem l_zero : ∀ a b : List E, cmpL a b = 0 → a = b
  | [], [] => fun _ => rfl
  | [], y :: b => by simp [cmpL]
  | x :: a, [] => by simp [cmpL]
  | x :: a, y :: b => by
    rw [cmpL]
    by_cases h : cmpE x y = 0
    · simp only [h, ne_eq, not_true_eq_false, if_false]
      intro h'
      rw [ordE.zero _ _ h, l_zero a b h']
    · simp only [ne_eq, h, not_false_eq_true, if_true]
      intro h'
      exact h'.elim
theorem l_trans : ∀ a b c : List E, cmpL a b ≤ 0 → cmpL b c ≤ 0 → cmpL a c ≤ 0
  | [], _, [] => by simp [cmpL]
  | [], _, _ :: _ => by simp [cmpL]
  | _ :: _, [], _ => by simp [cmpL]
  | _ :: _, _ :: _, [] => by simp [cmpL]
  | x :: a, y :: b, z :: c => by
    have ih := l_trans a b c
    rw [cmpL, cmpL, cmpL]
    intro h1 h2
    have tr := ordE.trans x y z
    by_cases e1 : cmpE x y = 0
    · have E1 := ordE.zero _ _ e1
      simp only [e1, ne_eq, not_true_eq_false, if_false] at h1
      rw [← E1] at h2
      by_cases e2 : cmpE x z = 0
      · simp only [e2, ne_eq, not_true_eq_false, if_false] at h2 ⊢
        exact ih h1 h2
      · simp only [ne_eq, e2, not_false_eq_true, if_true] at h2 ⊢
        exact h2
    · simp only [ne_eq, e1, not_false_eq_true, if_true] at h1
      by_cases e2 : cmpE y z = 0
      · have E2 := ordE.zero _ _ e2
        rw [← E2]
        simp only [ne_eq, e1, not_false_eq_true, if_true]
        exact h1
      · simp only [ne_eq, e2, not_false_eq_true, if_true] at h2
        have h3 := tr h1 h2
        by_cases e3 : cmpE x z = 0
        · have E3 := ordE.zero _ _ e3
          rw [E3] at e1 h1
          have := ordE.anti y z
          omega
        · simp only [ne_eq, e3, not_false_eq_true, if_true]
          exact h3
theorem ordL : Ord cmpL := ⟨l_anti, l_zero, l_trans⟩
/-- what LabelsCmp answers, turned round -/
theorem cmp_anti (a b : List E) : cmp b a = - cmp a b := by
  unfold cmp
  by_cases h : ok a = true ∧ ok b = true
  · rw [if_pos h, if_pos ⟨h.2, h.1⟩]; exact l_anti a b
  · rw [if_neg h, if_neg (fun h' => h ⟨h'.2, h'.1⟩)]; rfl
end Go.Proofs.Ytncjagdnebpaaaa.Lab

/- Ascending lists of texts: the generic loop's answer, and how a text is put among others. No condition. -/
namespace Go.Proofs.Ytncjagdnebpaaaa.StrMath
open Go.RowKit Lab
abbrev lt (a b : ByteArray) : Prop := ltS a b = true
theorem cmp_lt {a b : ByteArray} : cmpS a b < 0 ↔ lt a b := by
  rw [cmpS_eq]
  unfold lt
  by_cases h : ltS a b = true
  · rw [if_pos h]; exact ⟨fun _ => h, fun _ => by omega⟩
  · rw [if_neg h]
    refine ⟨fun h1 => ?_, fun h1 => absurd h1 h⟩
    split at h1 <;> omega
theorem lt_irrefl (a : ByteArray) : ¬ lt a a := fun h => by have := cmp_lt.2 h; rw [ordS.self] at this; omega
theorem lt_asymm {a b : ByteArray} (h : lt a b) : ¬ lt b a := fun h' => by have h1 := cmp_lt.2 h; have h2 := cmp_lt.2 h'; have := ordS.anti a b; omega
theorem lt_trans {a b c : ByteArray} (h : lt a b) (h' : lt b c) : lt a c := by
  have h1 := cmp_lt.2 h
  have h2 := cmp_lt.2 h'
  apply cmp_lt.1
  have h3 := ordS.trans a b c (by omega) (by omega)
  rcases Int.lt_or_eq_of_le h3 with h4 | h4
  · exact h4
  · have e := ordS.zero a c h4
    subst e
    have := ordS.anti a b
    omega
theorem lt_trichotomy (a b : ByteArray) : lt a b ∨ a = b ∨ lt b a := by
  rcases Int.lt_trichotomy (cmpS a b) 0 with h | h | h
  · exact .inl (cmp_lt.1 h)
  · exact .inr (.inl (ordS.zero a b h))
  · refine .inr (.inr (cmp_lt.1 ?_))
    have := ordS.anti a b
    omega
def at' (zs : List ByteArray) (i : Nat) : ByteArray := zs.getD i default
theorem drop_at (zs : List ByteArray) (i : Nat) (h : i < zs.length) : zs.drop i = at' zs i :: zs.drop (i + 1) := by
  rw [List.drop_eq_getElem_cons h]; simp [at', List.getD, h]
def one (b : Bool) (x : ByteArray) : List ByteArray := if b = true then [x] else []
/-- what the generic loop makes of two lists -/
def merge (k : Bool → Bool → Bool) : List ByteArray → List ByteArray → List ByteArray
  | [], [] => []
  | x :: a, [] => one (k true false) x ++ merge k a []
  | [], y :: b => one (k false true) y ++ merge k [] b
  | x :: a, y :: b =>
    if ltS x y = true then one (k true false) x ++ merge k a (y :: b)
    else if ltS y x = true then one (k false true) y ++ merge k (x :: a) b
    else one (k true true) y ++ merge k a b
def MLeft (k : Bool → Bool → Bool) (a b L : List ByteArray) (i j : Nat) : Prop := merge k a b = L ++ merge k (a.drop i) (b.drop j)
theorem left_start (k : Bool → Bool → Bool) (a b : List ByteArray) : MLeft k a b [] 0 0 := by simp [MLeft]
theorem left_first {k : Bool → Bool → Bool} {a b L : List ByteArray} {i j : Nat} (h : MLeft k a b L i j) (hi : i < a.length) (hj : j < b.length) (hlt : lt (at' a i) (at' b j)) : MLeft k a b (L ++ one (k true false) (at' a i)) (i + 1) j := by
  unfold MLeft at *
  rw [h, drop_at a i hi, drop_at b j hj, merge, if_pos hlt, List.append_assoc]
theorem left_second {k : Bool → Bool → Bool} {a b L : List ByteArray} {i j : Nat} (h : MLeft k a b L i j) (hi : i < a.length) (hj : j < b.length) (hlt : lt (at' b j) (at' a i)) : MLeft k a b (L ++ one (k false true) (at' b j)) i (j + 1) := by
  unfold MLeft at *
  rw [h, drop_at a i hi, drop_at b j hj, merge, if_neg (lt_asymm hlt), if_pos hlt, List.append_assoc]
theorem left_both {k : Bool → Bool → Bool} {a b L : List ByteArray} {i j : Nat} (h : MLeft k a b L i j) (hi : i < a.length) (hj : j < b.length) (he : at' a i = at' b j) : MLeft k a b (L ++ one (k true true) (at' b j)) (i + 1) (j + 1) := by
  unfold MLeft at *
  rw [h, drop_at a i hi, drop_at b j hj, he, merge, if_neg (lt_irrefl _), if_neg (lt_irrefl _), List.append_assoc]
theorem left_a {k : Bool → Bool → Bool} {a b L : List ByteArray} {i j : Nat} (h : MLeft k a b L i j) (hi : i < a.length) (hj : b.length ≤ j) : MLeft k a b (L ++ one (k true false) (at' a i)) (i + 1) j := by
  unfold MLeft at *
  rw [h, drop_at a i hi, List.drop_eq_nil_of_le hj, merge, List.append_assoc]
theorem left_b {k : Bool → Bool → Bool} {a b L : List ByteArray} {i j : Nat} (h : MLeft k a b L i j) (hi : a.length ≤ i) (hj : j < b.length) : MLeft k a b (L ++ one (k false true) (at' b j)) i (j + 1) := by
  unfold MLeft at *
  rw [h, drop_at b j hj, List.drop_eq_nil_of_le hi, merge, List.append_assoc]
theorem left_end {k : Bool → Bool → Bool} {a b L : List ByteArray} {i j : Nat} (h : MLeft k a b L i j) (hi : a.length ≤ i) (hj : b.length ≤ j) : merge k a b = L := by
  unfold MLeft at h
  rw [h, List.drop_eq_nil_of_le hi, List.drop_eq_nil_of_le hj, merge, List.append_nil]
def either (a b : Bool) : Bool := a || b
/-- a text among others, once -/
def put : List ByteArray → ByteArray → List ByteArray
  | [], n => [n]
  | x :: l, n => if ltS x n = true then x :: put l n else if x = n then x :: l else n :: x :: l
theorem merge_nil (l : List ByteArray) : merge either l [] = l := by
  induction l with
  | nil => rw [merge]
  | cons x l ih => rw [merge, ih]; rfl
theorem merge_one (l : List ByteArray) (n : ByteArray) : merge either l [n] = put l n := by
  induction l with
  | nil => rw [merge, merge, put]; rfl
  | cons x l ih =>
    rw [merge, put]
    rcases lt_trichotomy x n with h | h | h
    · rw [if_pos h, if_pos h, ih]; rfl
    · subst h
      rw [if_neg (lt_irrefl _), if_neg (lt_irrefl _), if_neg (lt_irrefl _), if_pos rfl, merge_nil]; rfl
    · rw [if_neg (lt_asymm h), if_pos h, if_neg (lt_asymm h), if_neg (fun e => by subst e; exact lt_irrefl _ h), merge_nil]; rfl
theorem put_len (l : List ByteArray) (n : ByteArray) : (put l n).length ≤ l.length + 1 := by
  induction l with
  | nil => simp [put]
  | cons x l ih =>
    unfold put
    split
    · simp; exact ih
    · split <;> simp
theorem mem_put {l : List ByteArray} {n z : ByteArray} (h : z ∈ put l n) : z ∈ l ∨ z = n := by
  induction l with
  | nil => simp [put] at h; exact .inr h
  | cons x l ih =>
    unfold put at h
    split at h
    · rcases List.mem_cons.1 h with e | e
      · exact .inl (by rw [e]; simp)
      · rcases ih e with g | g
        · exact .inl (List.mem_cons_of_mem _ g)
        · exact .inr g
    · split at h
      · exact .inl h
      · rcases List.mem_cons.1 h with e | e
        · exact .inr e
        · exact .inl e
end Go.Proofs.Ytncjagdnebpaaaa.StrMath

/- Slices of texts: what lies in them, what the laws' helpers do with them. -/
namespace Go.Proofs.Ytncjagdnebpaaaa.Str
open Go.RowKit Rw
set_option linter.unusedVariables false
attribute [local go_sem ↓] Go.wp_at_zero Go.wp_at_succ
abbrev E := ByteArray
def fl (x : E) : List Value := [.string x]
theorem flk (x : E) : (fl x).length = 1 := rfl
abbrev at' (zs : List E) (i : Nat) : E := StrMath.at' zs i
abbrev flat (zs : List E) : List Value := flatOf fl zs
abbrev Is (w : World) (v : Value) (zs : List E) : Prop := Lies w v zs.length 1 (flat zs)
theorem flat_length (zs : List E) : (flat zs).length = zs.length := by rw [flatOf_length flk, Nat.mul_one]
theorem flat_oneCell (zs : List E) : ∀ u ∈ flat zs, u.oneCell' = true := by
  intro u hu
  obtain ⟨x, _, hx⟩ := List.mem_flatMap.1 hu
  simp only [fl, List.mem_cons, List.not_mem_nil, or_false] at hx
  rw [hx]; rfl
theorem at_get (zs : List E) (i : Nat) (h : i < zs.length) : at' zs i = zs[i] := by simp [at', StrMath.at', List.getD, h]
theorem at_snoc (zs : List E) (i : Nat) (h : i < zs.length) : zs.take (i + 1) = zs.take i ++ [at' zs i] := by rw [List.take_succ_eq_append_getElem h, at_get zs i h]
theorem flat_at (zs : List E) (i : Nat) (h : i < zs.length) : (flat zs)[i]? = some (.string (at' zs i)) := by
  rw [at_get zs i h]
  have := flatOf_get flk zs i 0 h (by omega)
  rw [Nat.mul_one, Nat.add_zero] at this
  exact this
theorem flat_append (a b : List E) : flat (a ++ b) = flat a ++ flat b := flatOf_append _ _ _
theorem is_of_own {w : World} {base : Nat} {v : Value} {zs : List E} (h : w.ownsRow base 9 1 v zs.length (flat zs)) : Is w v zs := lies_of_own h
theorem info_e : (Try.prog.info? 9).map (fun i => (i.zero, i.size, i.bytes)) = some (some (.string ByteArray.empty), 1, 16) := by kernel_rfl
theorem set_e (A : List Value) (u0 x0 : Value) (L : List Value) (k : Nat) (h : A.length = k) : (A ++ u0 :: L).set k x0 = A ++ [x0] ++ L := by
  subst h
  simp [List.set_append_right]
theorem split_e (r : List Value) (n : Nat) (h : r.length = n + 1) : ∃ u0 L, r = u0 :: L ∧ L.length = n := by
  match r, h with
  | u0 :: L, h => exact ⟨u0, L, rfl, by simpa using h⟩
  | [], h => simp at h
end Go.Proofs.Ytncjagdnebpaaaa.Str

/- The generic loop that goes along two lists of texts at once: what it answers, whatever it keeps. -/
namespace Go.Proofs.Ytncjagdnebpaaaa.Str
open Go.RowKit Rw StrMath
set_option linter.unusedVariables false
attribute [local go_sem ↓] Go.wp_at_zero Go.wp_at_succ
theorem run_leq (a b : ByteArray) (W : World) : (binOp .leq 9 (.string a) (.string b)).run Try.prog W = .ok (.bool (Lab.ltS a b || (a.toList == b.toList))) W := rfl
theorem leq_yes {a b : ByteArray} (h : lt a b ∨ a = b) (W : World) : (binOp .leq 9 (.string a) (.string b)).run Try.prog W = .ok (.bool true) W := by
  rw [run_leq]
  rcases h with h | h
  · rw [show Lab.ltS a b = true from h]; rfl
  · subst h; rw [show (a.toList == a.toList) = true from beq_self_eq_true _, Bool.or_true]
theorem leq_no {a b : ByteArray} (h : lt b a) (W : World) : (binOp .leq 9 (.string a) (.string b)).run Try.prog W = .ok (.bool false) W := by
  rw [run_leq]
  have h1 : Lab.ltS a b = false := by have := lt_asymm h; simpa [lt] using this
  have h2 : (a.toList == b.toList) = false := by
    apply Bool.eq_false_iff.2
    intro e
    have e' : a.toList = b.toList := by simpa using e
    rw [ByteArray.toList_eq, ByteArray.toList_eq] at e'
    have : a = b := Go.WideShapes.bytes_inj e'
    subst this
    exact lt_irrefl _ h
  rw [h1, h2]; rfl
def slen : Value → Nat
  | .slice _ n _ => n
  | _ => 0
theorem size_str : (sizeOf (Try.prog.elem 65)).run Try.prog = fun w => .ok 1 w := by kernel_rfl
theorem tail_ok {w : World} {a : Option Addr} {N cap : Nat} {xs : List Value} (h : Lies w (.slice a N cap) N 1 xs) (h0 : 0 < N) :
    ∃ R, (∀ W, (Instr.slice 65 (.slice a N cap) (some (.int .i64 1)) none none).run Try.prog W = .ok R W) ∧ Lies w R (N - 1) 1 (xs.drop 1) := by
  have hc : N ≤ cap := by obtain ⟨-, a', cap', h1, h2, -⟩ := h; simp only [Value.slice.injEq, true_and] at h1; omega
  refine ⟨_, fun W => ?_, cut_lies h (i := 1) (by omega)⟩
  have e := run_slice_l (P := Try.prog) W 65 a N cap (by kernel_rfl) .i64 (1 : Int) (by omega) (by omega)
  rw [e]
  show ((sizeOf (Try.prog.elem 65)).run Try.prog W).andThen _ = _
  rw [size_str]
  rfl
theorem flat_tail (zs : List E) (i : Nat) : (flat (zs.drop i)).drop 1 = flat (zs.drop (i + 1)) := by
  have := flatOf_drop flk (zs.drop i) 1
  rw [List.drop_drop, Nat.one_mul] at this
  exact this.symm
theorem head_cell {w : World} {a : Option Addr} {N cap i : Nat} {zs : List E} (h : Lies w (.slice a N cap) N 1 (flat (zs.drop i))) (h0 : 0 < N) :
    ∃ b off, a = some ⟨b, off, none⟩ ∧ b < w.heap.size ∧ w.cell? ⟨b, off, none⟩ = some (.string (StrMath.at' zs i)) := by
  obtain ⟨hl, a', cap', h1, -, -, -, hr⟩ := h
  simp only [Value.slice.injEq, true_and] at h1
  obtain ⟨rfl, rfl⟩ := h1
  obtain ⟨b, off, e, hb, hc⟩ := hr h0
  refine ⟨b, off, e, hb, ?_⟩
  rw [flat_length, List.length_drop] at hl
  have := hc 0 (.string (StrMath.at' zs i)) (by rw [drop_at zs i (by omega)]; rfl)
  simpa using this
theorem cls_cell {wr W : World} {b o : Nat} {u : Value} (hW : Below wr.heap.size wr W) (hb : b < wr.heap.size) (h : wr.cell? ⟨b, o, none⟩ = some u) : ∀ x : Cls W.heap.size W, x.val.cell? ⟨b, o, none⟩ = some u := fun x => by
  rw [x.cell (by have := hW.size; omega)]
  exact (hW.cell (p := ⟨b, o, none⟩) hb).trans h
set_option maxRecDepth 100000 in
set_option maxHeartbeats 4000000 in
theorem merge_any {w : World} {v u : Value} {zs ys : List E} (k : Bool → Bool → Bool) (g : Nat) (eg : ∀ args w, (callFunc g args).run Try.prog w = .ok (.enter g args) w)
    (HK : Hid (∀ p q W, Calls Try.prog g #[.bool p, .bool q] W fun e w' => e = .returned (.bool (k p q)) ∧ w' = W)) (h : Is w v zs) (h' : Is w u ys) (hn : zs.length ≤ 4194304) (hm : ys.length ≤ 4194304) :
    Calls Try.prog 63 #[v, u, .func (.func g) #[] #[]] w fun e w' => ∃ r, e = .returned r ∧ w'.ownsRow w.heap.size 9 1 r (merge k zs ys).length (flat (merge k zs ys)) ∧ Below w.heap.size w w' := by
  obtain ⟨i0, hi, hz0, hz1, hz2⟩ := info_parts info_e
  go_enter Try.func63, Try.ntmps63
  go_wp2_with fail
  go_loopw [0, 1, 7] (fun av bv ov wr => ∃ (i j N M : Nat) (L : List E), N + i = zs.length ∧ M + j = ys.length ∧ L.length ≤ i + j ∧ Lies w av N 1 (flat (zs.drop i)) ∧ Lies w bv M 1 (flat (ys.drop j)) ∧ MLeft k zs ys L i j ∧ wr.ownsRow w.heap.size 9 1 ov L.length (flat L) ∧ Below w.heap.size w wr) (fun av bv _ _ => slen av + slen bv)
  case atStart => exact ⟨0, 0, _, _, [], rfl, rfl, Nat.zero_le _, h, h', left_start k zs ys, World.ownsRow_nil _ _ _ _, Below.refl _ _⟩
  case round =>
    clear h h'
    obtain ⟨i, j, N, M, L, hN, hM, hL, ha, hb, hleft, hown, hbel⟩ := hrel
    obtain ⟨-, a, cap, rfl, hc, hcm, -, -⟩ := id ha
    obtain ⟨-, a', cap', rfl, hc', hcm', -, -⟩ := id hb
    unfold maxLen at hcm hcm'
    have hsz := hbel.size
    have HL := hide hleft
    have HN := hide hN
    have HM := hide hM
    have hNb : N ≤ 4194304 := by omega
    have hMb : M ≤ 4194304 := by omega
    have hLb : L.length ≤ 8388608 := by omega
    have HLL := hide hL
    clear hleft hN hM hL hn hm
    rcases Nat.eq_zero_or_pos N with h0 | h0
    · rcases Nat.eq_zero_or_pos M with h1 | h1
      · subst h0 h1
        go_wp2_with fail
        go_ret
        exact ⟨_, rfl, by rw [left_end (unhide HL) (by have := unhide HN; omega) (by have := unhide HM; omega)]; exact hown, hbel⟩
      · subst h0
        obtain ⟨b', off', rfl, hbl', hy⟩ := head_cell hb h1
        obtain ⟨Y, hY⟩ : ∃ Y, Y = StrMath.at' ys j := ⟨_, rfl⟩
        rw [← hY] at hy
        replace hy := (hbel.cell (p := ⟨b', off', none⟩) hbl').trans hy
        have hbl1' : b' < wr.heap.size := by omega
        have HY := hide hY
        clear hY
        obtain ⟨R', hR', hRl'⟩ := tail_ok hb h1
        have hM0 : (0 : Int) < (M : Int) := by omega
        have hM1 : ((M : Int) == 0) = false := by simp; omega
        have hb0 := Below.refl wr.heap.size wr
        have hne3 := cls_nonempty wr.heap.size wr
        go_wp2_with fail
        refine region_cls (by kernel_rfl) (by kernel_rfl) ?_
        repeat (go_big_quiet_step (fail))
        refine wpQuiet_nil ?_
        rintro w3 ⟨⟨_, q3⟩, rfl⟩
        have b3 := hb0.trans (q3.mono hb0.size)
        clear q3 hne3
        have hne4 := cls_nonempty w3.heap.size w3
        go_wp2_with fail
        refine region_cls (by kernel_rfl) (by kernel_rfl) ?_
        repeat (go_big_quiet_step (fail))
        refine wpQuiet_nil ?_
        rintro w4 ⟨⟨_, q4⟩, rfl⟩
        have b4 := b3.trans (q4.mono b3.size)
        clear q4 hne4
        have qy9 := cls_cell b4 hbl1' hy
        have hne9 := cls_nonempty w4.heap.size w4
        go_wp2_with fail
        refine region_cls (by kernel_rfl) (by kernel_rfl) ?_
        repeat (go_big_quiet_step (fail))
        refine wpQuiet_nil ?_
        rintro w9 ⟨⟨_, q9⟩, rfl⟩
        have b9 := b4.trans (q9.mono b4.size)
        clear q9 hne9 qy9
        have OW := hide (own_below hown b9)
        have RL := hide ha
        have RL' := hide hRl'
        have BB := hbel.trans (b9.mono hsz)
        have ML := hide (left_b (unhide HL) (by have := unhide HN; omega) (by have := unhide HM; omega))
        rw [← unhide HY] at ML
        have RE := hide (show Lies w _ 0 1 (flat (zs.drop i)) from by have := unhide RL; exact this)
        have RE' := hide (show Lies w R' (M - 1) 1 (flat (ys.drop (j + 1))) from by have := unhide RL'; rw [flat_tail] at this; exact this)
        obtain ⟨aR', cR', hRf'⟩ : ∃ a c, R' = .slice a (M - 1) c := by obtain ⟨-, a, c, e, -⟩ := hRl'; exact ⟨a, c, e⟩
        have HRf' := hide (show slen R' = M - 1 by rw [hRf']; rfl)
        clear hRf' hRl'
        clear RL RL' hown hb0 ha hb hbel
        have hsb := BB.size
        cases hkk : k false true
        · have HKK := hide hkk
          have ML' := hide (show MLeft k zs ys L i (j + 1) by have := unhide ML; rw [unhide HKK] at this; simpa [one] using this)
          clear hkk ML
          go_wp2_with (go_at_fn g; refine (unhide HK _ _ _).mono ?_; rintro e w' ⟨rfl, hw'⟩; subst hw'; rw [unhide HKK])
          go_roundw
          case rel => exact ⟨i, (j + 1), 0, (M - 1), L, by have := unhide HN; omega, by have := unhide HM; omega, by have := unhide HLL; omega, unhide RE, unhide RE', unhide ML', unhide OW, BB⟩
          case measure => show 0 + slen R' < 0 + M; rw [unhide HRf']; omega
        · have HKK := hide hkk
          have ML' := hide (show MLeft k zs ys (L ++ [Y]) i (j + 1) by have := unhide ML; rw [unhide HKK] at this; simpa [one] using this)
          clear hkk ML
          go_wp2_with (first | (go_at_fn g; refine (unhide HK _ _ _).mono ?_; rintro e w' ⟨rfl, hw'⟩; subst hw'; rw [unhide HKK]) | (at_builtin; refine app_wp _ rfl _ _ _ rfl w.heap.size 9 i0 _ 1 16 Try.underlying65 hi hz0 hz1 hz2 rfl (by omega) _ L.length _ rfl ((unhide OW).alloc _) _ 1 [.string Y] rfl (lies_new rfl rfl (by unfold maxLen; omega)) (by simp [Value.oneCell']) (by unfold maxLen; omega) (by omega) (by simp; omega) ?_; intro vn wn on gn an))
          have R9 := below_grown (BB.alloc hsb _) (by simp; omega) gn (own_ge (unhide OW))
          have R2 : wn.ownsRow w.heap.size 9 1 vn (L ++ [Y]).length (flat (L ++ [Y])) := by rw [flat_append, List.length_append]; exact on
          clear on gn an
          go_wp2_with fail
          go_roundw
          case rel => exact ⟨i, (j + 1), 0, (M - 1), L ++ [Y], by have := unhide HN; omega, by have := unhide HM; omega, by have := unhide HLL; rw [List.length_append]; simp only [List.length_cons, List.length_nil]; omega, unhide RE, unhide RE', unhide ML', R2, R9⟩
          case measure => show 0 + slen R' < 0 + M; rw [unhide HRf']; omega
    · rcases Nat.eq_zero_or_pos M with h1 | h1
      · subst h1
        obtain ⟨b, off, rfl, hbl, hx⟩ := head_cell ha h0
        obtain ⟨X, hX⟩ : ∃ X, X = StrMath.at' zs i := ⟨_, rfl⟩
        rw [← hX] at hx
        replace hx := (hbel.cell (p := ⟨b, off, none⟩) hbl).trans hx
        have hbl1 : b < wr.heap.size := by omega
        have HX := hide hX
        clear hX
        obtain ⟨R, hR, hRl⟩ := tail_ok ha h0
        have hN0 : (0 : Int) < (N : Int) := by omega
        have hN1 : ((N : Int) == 0) = false := by simp; omega
        have hb0 := Below.refl wr.heap.size wr
        have hne3 := cls_nonempty wr.heap.size wr
        go_wp2_with fail
        refine region_cls (by kernel_rfl) (by kernel_rfl) ?_
        repeat (go_big_quiet_step (fail))
        refine wpQuiet_nil ?_
        rintro w3 ⟨⟨_, q3⟩, rfl⟩
        have b3 := hb0.trans (q3.mono hb0.size)
        clear q3 hne3
        have hne4 := cls_nonempty w3.heap.size w3
        go_wp2_with fail
        refine region_cls (by kernel_rfl) (by kernel_rfl) ?_
        repeat (go_big_quiet_step (fail))
        refine wpQuiet_nil ?_
        rintro w4 ⟨⟨_, q4⟩, rfl⟩
        have b4 := b3.trans (q4.mono b3.size)
        clear q4 hne4
        have qx7 := cls_cell b4 hbl1 hx
        have hne7 := cls_nonempty w4.heap.size w4
        go_wp2_with fail
        refine region_cls (by kernel_rfl) (by kernel_rfl) ?_
        repeat (go_big_quiet_step (fail))
        refine wpQuiet_nil ?_
        rintro w7 ⟨⟨_, q7⟩, rfl⟩
        have b7 := b4.trans (q7.mono b4.size)
        clear q7 hne7 qx7
        have OW := hide (own_below hown b7)
        have RL := hide hRl
        have RL' := hide hb
        have BB := hbel.trans (b7.mono hsz)
        have ML := hide (left_a (unhide HL) (by have := unhide HN; omega) (by have := unhide HM; omega))
        rw [← unhide HX] at ML
        have RE := hide (show Lies w R (N - 1) 1 (flat (zs.drop (i + 1))) from by have := unhide RL; rw [flat_tail] at this; exact this)
        have RE' := hide (show Lies w _ 0 1 (flat (ys.drop j)) from by have := unhide RL'; exact this)
        obtain ⟨aR, cR, hRf⟩ : ∃ a c, R = .slice a (N - 1) c := by obtain ⟨-, a, c, e, -⟩ := hRl; exact ⟨a, c, e⟩
        have HRf := hide (show slen R = N - 1 by rw [hRf]; rfl)
        clear hRf hRl
        clear RL RL' hown hb0 ha hb hbel
        have hsb := BB.size
        cases hkk : k true false
        · have HKK := hide hkk
          have ML' := hide (show MLeft k zs ys L (i + 1) j by have := unhide ML; rw [unhide HKK] at this; simpa [one] using this)
          clear hkk ML
          go_wp2_with (go_at_fn g; refine (unhide HK _ _ _).mono ?_; rintro e w' ⟨rfl, hw'⟩; subst hw'; rw [unhide HKK])
          go_roundw
          case rel => exact ⟨(i + 1), j, (N - 1), 0, L, by have := unhide HN; omega, by have := unhide HM; omega, by have := unhide HLL; omega, unhide RE, unhide RE', unhide ML', unhide OW, BB⟩
          case measure => show slen R + 0 < N + 0; rw [unhide HRf]; omega
        · have HKK := hide hkk
          have ML' := hide (show MLeft k zs ys (L ++ [X]) (i + 1) j by have := unhide ML; rw [unhide HKK] at this; simpa [one] using this)
          clear hkk ML
          go_wp2_with (first | (go_at_fn g; refine (unhide HK _ _ _).mono ?_; rintro e w' ⟨rfl, hw'⟩; subst hw'; rw [unhide HKK]) | (at_builtin; refine app_wp _ rfl _ _ _ rfl w.heap.size 9 i0 _ 1 16 Try.underlying65 hi hz0 hz1 hz2 rfl (by omega) _ L.length _ rfl ((unhide OW).alloc _) _ 1 [.string X] rfl (lies_new rfl rfl (by unfold maxLen; omega)) (by simp [Value.oneCell']) (by unfold maxLen; omega) (by omega) (by simp; omega) ?_; intro vn wn on gn an))
          have R9 := below_grown (BB.alloc hsb _) (by simp; omega) gn (own_ge (unhide OW))
          have R2 : wn.ownsRow w.heap.size 9 1 vn (L ++ [X]).length (flat (L ++ [X])) := by rw [flat_append, List.length_append]; exact on
          clear on gn an
          go_wp2_with fail
          go_roundw
          case rel => exact ⟨(i + 1), j, (N - 1), 0, L ++ [X], by have := unhide HN; omega, by have := unhide HM; omega, by have := unhide HLL; rw [List.length_append]; simp only [List.length_cons, List.length_nil]; omega, unhide RE, unhide RE', unhide ML', R2, R9⟩
          case measure => show slen R + 0 < N + 0; rw [unhide HRf]; omega
      · obtain ⟨b, off, rfl, hbl, hx⟩ := head_cell ha h0
        obtain ⟨b', off', rfl, hbl', hy⟩ := head_cell hb h1
        obtain ⟨X, hX⟩ : ∃ X, X = StrMath.at' zs i := ⟨_, rfl⟩
        obtain ⟨Y, hY⟩ : ∃ Y, Y = StrMath.at' ys j := ⟨_, rfl⟩
        rw [← hX] at hx
        rw [← hY] at hy
        replace hx := (hbel.cell (p := ⟨b, off, none⟩) hbl).trans hx
        replace hy := (hbel.cell (p := ⟨b', off', none⟩) hbl').trans hy
        have hbl1 : b < wr.heap.size := by omega
        have hbl1' : b' < wr.heap.size := by omega
        have HX := hide hX
        have HY := hide hY
        clear hX hY
        rcases lt_trichotomy X Y with hlt | heq | hgt
        · obtain ⟨R, hR, hRl⟩ := tail_ok ha h0
          have hN0 : (0 : Int) < (N : Int) := by omega
          have hN1 : ((N : Int) == 0) = false := by simp; omega
          have hM0 : (0 : Int) < (M : Int) := by omega
          have hM1 : ((M : Int) == 0) = false := by simp; omega
          have d1 : ∀ W, (binOp .leq 9 (.string X) (.string Y)).run Try.prog W = .ok (.bool true) W := fun W => leq_yes (.inl hlt) W
          have d2 : ∀ W, (binOp .leq 9 (.string Y) (.string X)).run Try.prog W = .ok (.bool false) W := fun W => leq_no hlt W
          have hb0 := Below.refl wr.heap.size wr
          have qx3 := cls_cell hb0 hbl1 hx
          have qy3 := cls_cell hb0 hbl1' hy
          have hne3 := cls_nonempty wr.heap.size wr
          go_wp2_with fail
          refine region_cls (by kernel_rfl) (by kernel_rfl) ?_
          repeat (go_big_quiet_step (fail))
          refine wpQuiet_nil ?_
          rintro w3 ⟨⟨_, q3⟩, rfl⟩
          have b3 := hb0.trans (q3.mono hb0.size)
          clear q3 hne3 qx3 qy3
          have qx4 := cls_cell b3 hbl1 hx
          have qy4 := cls_cell b3 hbl1' hy
          have hne4 := cls_nonempty w3.heap.size w3
          go_wp2_with fail
          refine region_cls (by kernel_rfl) (by kernel_rfl) ?_
          repeat (go_big_quiet_step (fail))
          refine wpQuiet_nil ?_
          rintro w4 ⟨⟨_, q4⟩, rfl⟩
          have b4 := b3.trans (q4.mono b3.size)
          clear q4 hne4 qx4 qy4
          have qx7 := cls_cell b4 hbl1 hx
          have hne7 := cls_nonempty w4.heap.size w4
          go_wp2_with fail
          refine region_cls (by kernel_rfl) (by kernel_rfl) ?_
          repeat (go_big_quiet_step (fail))
          refine wpQuiet_nil ?_
          rintro w7 ⟨⟨_, q7⟩, rfl⟩
          have b7 := b4.trans (q7.mono b4.size)
          clear q7 hne7 qx7
          have OW := hide (own_below hown b7)
          have RL := hide hRl
          have RL' := hide hb
          have BB := hbel.trans (b7.mono hsz)
          have ML := hide (left_first (unhide HL) (by have := unhide HN; omega) (by have := unhide HM; omega) (by rw [← unhide HX, ← unhide HY]; exact hlt))
          rw [← unhide HX] at ML
          have RE := hide (show Lies w R (N - 1) 1 (flat (zs.drop (i + 1))) from by have := unhide RL; rw [flat_tail] at this; exact this)
          have RE' := hide (show Lies w _ M 1 (flat (ys.drop j)) from by have := unhide RL'; exact this)
          obtain ⟨aR, cR, hRf⟩ : ∃ a c, R = .slice a (N - 1) c := by obtain ⟨-, a, c, e, -⟩ := hRl; exact ⟨a, c, e⟩
          have HRf := hide (show slen R = N - 1 by rw [hRf]; rfl)
          clear hRf hRl
          clear RL RL' hown hb0 ha hb hbel
          have hsb := BB.size
          cases hkk : k true false
          · have HKK := hide hkk
            have ML' := hide (show MLeft k zs ys L (i + 1) j by have := unhide ML; rw [unhide HKK] at this; simpa [one] using this)
            clear hkk ML
            go_wp2_with (go_at_fn g; refine (unhide HK _ _ _).mono ?_; rintro e w' ⟨rfl, hw'⟩; subst hw'; rw [unhide HKK])
            go_roundw
            case rel => exact ⟨(i + 1), j, (N - 1), M, L, by have := unhide HN; omega, by have := unhide HM; omega, by have := unhide HLL; omega, unhide RE, unhide RE', unhide ML', unhide OW, BB⟩
            case measure => show slen R + M < N + M; rw [unhide HRf]; omega
          · have HKK := hide hkk
            have ML' := hide (show MLeft k zs ys (L ++ [X]) (i + 1) j by have := unhide ML; rw [unhide HKK] at this; simpa [one] using this)
            clear hkk ML
            go_wp2_with (first | (go_at_fn g; refine (unhide HK _ _ _).mono ?_; rintro e w' ⟨rfl, hw'⟩; subst hw'; rw [unhide HKK]) | (at_builtin; refine app_wp _ rfl _ _ _ rfl w.heap.size 9 i0 _ 1 16 Try.underlying65 hi hz0 hz1 hz2 rfl (by omega) _ L.length _ rfl ((unhide OW).alloc _) _ 1 [.string X] rfl (lies_new rfl rfl (by unfold maxLen; omega)) (by simp [Value.oneCell']) (by unfold maxLen; omega) (by omega) (by simp; omega) ?_; intro vn wn on gn an))
            have R9 := below_grown (BB.alloc hsb _) (by simp; omega) gn (own_ge (unhide OW))
            have R2 : wn.ownsRow w.heap.size 9 1 vn (L ++ [X]).length (flat (L ++ [X])) := by rw [flat_append, List.length_append]; exact on
            clear on gn an
            go_wp2_with fail
            go_roundw
            case rel => exact ⟨(i + 1), j, (N - 1), M, L ++ [X], by have := unhide HN; omega, by have := unhide HM; omega, by have := unhide HLL; rw [List.length_append]; simp only [List.length_cons, List.length_nil]; omega, unhide RE, unhide RE', unhide ML', R2, R9⟩
            case measure => show slen R + M < N + M; rw [unhide HRf]; omega
        · obtain ⟨R, hR, hRl⟩ := tail_ok ha h0
          obtain ⟨R', hR', hRl'⟩ := tail_ok hb h1
          have hN0 : (0 : Int) < (N : Int) := by omega
          have hN1 : ((N : Int) == 0) = false := by simp; omega
          have hM0 : (0 : Int) < (M : Int) := by omega
          have hM1 : ((M : Int) == 0) = false := by simp; omega
          have d1 : ∀ W, (binOp .leq 9 (.string X) (.string Y)).run Try.prog W = .ok (.bool true) W := fun W => leq_yes (.inr heq) W
          have d2 : ∀ W, (binOp .leq 9 (.string Y) (.string X)).run Try.prog W = .ok (.bool true) W := fun W => leq_yes (.inr heq.symm) W
          have HEQ := hide heq
          clear heq
          have hb0 := Below.refl wr.heap.size wr
          have qx3 := cls_cell hb0 hbl1 hx
          have qy3 := cls_cell hb0 hbl1' hy
          have hne3 := cls_nonempty wr.heap.size wr
          go_wp2_with fail
          refine region_cls (by kernel_rfl) (by kernel_rfl) ?_
          repeat (go_big_quiet_step (fail))
          refine wpQuiet_nil ?_
          rintro w3 ⟨⟨_, q3⟩, rfl⟩
          have b3 := hb0.trans (q3.mono hb0.size)
          clear q3 hne3 qx3 qy3
          have qx4 := cls_cell b3 hbl1 hx
          have qy4 := cls_cell b3 hbl1' hy
          have hne4 := cls_nonempty w3.heap.size w3
          go_wp2_with fail
          refine region_cls (by kernel_rfl) (by kernel_rfl) ?_
          repeat (go_big_quiet_step (fail))
          refine wpQuiet_nil ?_
          rintro w4 ⟨⟨_, q4⟩, rfl⟩
          have b4 := b3.trans (q4.mono b3.size)
          clear q4 hne4 qx4 qy4
          have qx7 := cls_cell b4 hbl1 hx
          have hne7 := cls_nonempty w4.heap.size w4
          go_wp2_with fail
          refine region_cls (by kernel_rfl) (by kernel_rfl) ?_
          repeat (go_big_quiet_step (fail))
          refine wpQuiet_nil ?_
          rintro w7 ⟨⟨_, q7⟩, rfl⟩
          have b7 := b4.trans (q7.mono b4.size)
          clear q7 hne7 qx7
          have qy9 := cls_cell b7 hbl1' hy
          have hne9 := cls_nonempty w7.heap.size w7
          go_wp2_with fail
          refine region_cls (by kernel_rfl) (by kernel_rfl) ?_
          repeat (go_big_quiet_step (fail))
          refine wpQuiet_nil ?_
          rintro w9 ⟨⟨_, q9⟩, rfl⟩
          have b9 := b7.trans (q9.mono b7.size)
          clear q9 hne9 qy9
          have OW := hide (own_below hown b9)
          have RL := hide hRl
          have RL' := hide hRl'
          have BB := hbel.trans (b9.mono hsz)
          have ML := hide (left_both (unhide HL) (by have := unhide HN; omega) (by have := unhide HM; omega) (by rw [← unhide HX, ← unhide HY]; exact unhide HEQ))
          rw [← unhide HY] at ML
          have RE := hide (show Lies w R (N - 1) 1 (flat (zs.drop (i + 1))) from by have := unhide RL; rw [flat_tail] at this; exact this)
          have RE' := hide (show Lies w R' (M - 1) 1 (flat (ys.drop (j + 1))) from by have := unhide RL'; rw [flat_tail] at this; exact this)
          obtain ⟨aR, cR, hRf⟩ : ∃ a c, R = .slice a (N - 1) c := by obtain ⟨-, a, c, e, -⟩ := hRl; exact ⟨a, c, e⟩
          have HRf := hide (show slen R = N - 1 by rw [hRf]; rfl)
          clear hRf hRl
          obtain ⟨aR', cR', hRf'⟩ : ∃ a c, R' = .slice a (M - 1) c := by obtain ⟨-, a, c, e, -⟩ := hRl'; exact ⟨a, c, e⟩
          have HRf' := hide (show slen R' = M - 1 by rw [hRf']; rfl)
          clear hRf' hRl'
          clear RL RL' hown hb0 ha hb hbel
          have hsb := BB.size
          cases hkk : k true true
          · have HKK := hide hkk
            have ML' := hide (show MLeft k zs ys L (i + 1) (j + 1) by have := unhide ML; rw [unhide HKK] at this; simpa [one] using this)
            clear hkk ML
            go_wp2_with (go_at_fn g; refine (unhide HK _ _ _).mono ?_; rintro e w' ⟨rfl, hw'⟩; subst hw'; rw [unhide HKK])
            go_roundw
            case rel => exact ⟨(i + 1), (j + 1), (N - 1), (M - 1), L, by have := unhide HN; omega, by have := unhide HM; omega, by have := unhide HLL; omega, unhide RE, unhide RE', unhide ML', unhide OW, BB⟩
            case measure => show slen R + slen R' < N + M; rw [unhide HRf, unhide HRf']; omega
          · have HKK := hide hkk
            have ML' := hide (show MLeft k zs ys (L ++ [Y]) (i + 1) (j + 1) by have := unhide ML; rw [unhide HKK] at this; simpa [one] using this)
            clear hkk ML
            go_wp2_with (first | (go_at_fn g; refine (unhide HK _ _ _).mono ?_; rintro e w' ⟨rfl, hw'⟩; subst hw'; rw [unhide HKK]) | (at_builtin; refine app_wp _ rfl _ _ _ rfl w.heap.size 9 i0 _ 1 16 Try.underlying65 hi hz0 hz1 hz2 rfl (by omega) _ L.length _ rfl ((unhide OW).alloc _) _ 1 [.string Y] rfl (lies_new rfl rfl (by unfold maxLen; omega)) (by simp [Value.oneCell']) (by unfold maxLen; omega) (by omega) (by simp; omega) ?_; intro vn wn on gn an))
            have R9 := below_grown (BB.alloc hsb _) (by simp; omega) gn (own_ge (unhide OW))
            have R2 : wn.ownsRow w.heap.size 9 1 vn (L ++ [Y]).length (flat (L ++ [Y])) := by rw [flat_append, List.length_append]; exact on
            clear on gn an
            go_wp2_with fail
            go_roundw
            case rel => exact ⟨(i + 1), (j + 1), (N - 1), (M - 1), L ++ [Y], by have := unhide HN; omega, by have := unhide HM; omega, by have := unhide HLL; rw [List.length_append]; simp only [List.length_cons, List.length_nil]; omega, unhide RE, unhide RE', unhide ML', R2, R9⟩
            case measure => show slen R + slen R' < N + M; rw [unhide HRf, unhide HRf']; omega
        · obtain ⟨R', hR', hRl'⟩ := tail_ok hb h1
          have hN0 : (0 : Int) < (N : Int) := by omega
          have hN1 : ((N : Int) == 0) = false := by simp; omega
          have hM0 : (0 : Int) < (M : Int) := by omega
          have hM1 : ((M : Int) == 0) = false := by simp; omega
          have d1 : ∀ W, (binOp .leq 9 (.string X) (.string Y)).run Try.prog W = .ok (.bool false) W := fun W => leq_no hgt W
          have d2 : ∀ W, (binOp .leq 9 (.string Y) (.string X)).run Try.prog W = .ok (.bool true) W := fun W => leq_yes (.inl hgt) W
          have hb0 := Below.refl wr.heap.size wr
          have qx3 := cls_cell hb0 hbl1 hx
          have qy3 := cls_cell hb0 hbl1' hy
          have hne3 := cls_nonempty wr.heap.size wr
          go_wp2_with fail
          refine region_cls (by kernel_rfl) (by kernel_rfl) ?_
          repeat (go_big_quiet_step (fail))
          refine wpQuiet_nil ?_
          rintro w3 ⟨⟨_, q3⟩, rfl⟩
          have b3 := hb0.trans (q3.mono hb0.size)
          clear q3 hne3 qx3 qy3
          have qx4 := cls_cell b3 hbl1 hx
          have qy4 := cls_cell b3 hbl1' hy
          have hne4 := cls_nonempty w3.heap.size w3
          go_wp2_with fail
          refine region_cls (by kernel_rfl) (by kernel_rfl) ?_
          repeat (go_big_quiet_step (fail))
          refine wpQuiet_nil ?_
          rintro w4 ⟨⟨_, q4⟩, rfl⟩
          have b4 := b3.trans (q4.mono b3.size)
          clear q4 hne4 qx4 qy4
          have qy9 := cls_cell b4 hbl1' hy
          have hne9 := cls_nonempty w4.heap.size w4
          go_wp2_with fail
          refine region_cls (by kernel_rfl) (by kernel_rfl) ?_
          repeat (go_big_quiet_step (fail))
          refine wpQuiet_nil ?_
          rintro w9 ⟨⟨_, q9⟩, rfl⟩
          have b9 := b4.trans (q9.mono b4.size)
          clear q9 hne9 qy9
          have OW := hide (own_below hown b9)
          have RL := hide ha
          have RL' := hide hRl'
          have BB := hbel.trans (b9.mono hsz)
          have ML := hide (left_second (unhide HL) (by have := unhide HN; omega) (by have := unhide HM; omega) (by rw [← unhide HX, ← unhide HY]; exact hgt))
          rw [← unhide HY] at ML
          have RE := hide (show Lies w _ N 1 (flat (zs.drop i)) from by have := unhide RL; exact this)
          have RE' := hide (show Lies w R' (M - 1) 1 (flat (ys.drop (j + 1))) from by have := unhide RL'; rw [flat_tail] at this; exact this)
          obtain ⟨aR', cR', hRf'⟩ : ∃ a c, R' = .slice a (M - 1) c := by obtain ⟨-, a, c, e, -⟩ := hRl'; exact ⟨a, c, e⟩
          have HRf' := hide (show slen R' = M - 1 by rw [hRf']; rfl)
          clear hRf' hRl'
          clear RL RL' hown hb0 ha hb hbel
          have hsb := BB.size
          cases hkk : k false true
          · have HKK := hide hkk
            have ML' := hide (show MLeft k zs ys L i (j + 1) by have := unhide ML; rw [unhide HKK] at this; simpa [one] using this)
            clear hkk ML
            go_wp2_with (go_at_fn g; refine (unhide HK _ _ _).mono ?_; rintro e w' ⟨rfl, hw'⟩; subst hw'; rw [unhide HKK])
            go_roundw
            case rel => exact ⟨i, (j + 1), N, (M - 1), L, by have := unhide HN; omega, by have := unhide HM; omega, by have := unhide HLL; omega, unhide RE, unhide RE', unhide ML', unhide OW, BB⟩
            case measure => show N + slen R' < N + M; rw [unhide HRf']; omega
          · have HKK := hide hkk
            have ML' := hide (show MLeft k zs ys (L ++ [Y]) i (j + 1) by have := unhide ML; rw [unhide HKK] at this; simpa [one] using this)
            clear hkk ML
            go_wp2_with (first | (go_at_fn g; refine (unhide HK _ _ _).mono ?_; rintro e w' ⟨rfl, hw'⟩; subst hw'; rw [unhide HKK]) | (at_builtin; refine app_wp _ rfl _ _ _ rfl w.heap.size 9 i0 _ 1 16 Try.underlying65 hi hz0 hz1 hz2 rfl (by omega) _ L.length _ rfl ((unhide OW).alloc _) _ 1 [.string Y] rfl (lies_new rfl rfl (by unfold maxLen; omega)) (by simp [Value.oneCell']) (by unfold maxLen; omega) (by omega) (by simp; omega) ?_; intro vn wn on gn an))
            have R9 := below_grown (BB.alloc hsb _) (by simp; omega) gn (own_ge (unhide OW))
            have R2 : wn.ownsRow w.heap.size 9 1 vn (L ++ [Y]).length (flat (L ++ [Y])) := by rw [flat_append, List.length_append]; exact on
            clear on gn an
            go_wp2_with fail
            go_roundw
            case rel => exact ⟨i, (j + 1), N, (M - 1), L ++ [Y], by have := unhide HN; omega, by have := unhide HM; omega, by have := unhide HLL; rw [List.length_append]; simp only [List.length_cons, List.length_nil]; omega, unhide RE, unhide RE', unhide ML', R2, R9⟩
            case measure => show N + slen R' < N + M; rw [unhide HRf']; omega
theorem inEither_any (p q : Bool) (W : World) : Calls Try.prog 64 #[.bool p, .bool q] W fun e w' => e = .returned (.bool (StrMath.either p q)) ∧ w' = W := by
  cases p <;> cases q <;> (go_enter Try.func64, Try.ntmps64; go_wp2; go_ret; exact ⟨rfl, rfl⟩)
/-- a text is put among others -/
theorem put_any {w : World} {v u : Value} {zs : List E} {n : E} (h : Is w v zs) (h' : Is w u [n]) (hn : zs.length ≤ 4194304) :
    Calls Try.prog 63 #[v, u, .func (.func 64) #[] #[]] w fun e w' => ∃ r, e = .returned r ∧ w'.ownsRow w.heap.size 9 1 r (StrMath.put zs n).length (flat (StrMath.put zs n)) ∧ Below w.heap.size w w' := by
  have := merge_any StrMath.either 64 (fun _ _ => by kernel_rfl) (hide inEither_any) h h' hn (by simp)
  rwa [StrMath.merge_one] at this
end Go.Proofs.Ytncjagdnebpaaaa.Str
