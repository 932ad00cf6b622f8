/- Ascending lists of texts: the generic loop's answer, and how a text is put among others. No condition. -/
import Derived.Test.YtkmoekbicbjdmaaDoorCmpOrd
namespace Go.Proofs.YtkmoekbicbjdmaaDoor.StrMath
open Go.RowKit Lab
abbrev lt (a b : ByteArray) : Prop := ltS a b = true
theorem cmp_lt {a b : ByteArray} : cmpS a b < 0 ↔ lt a b := by
  rw [cmpS_eq]
  unfold lt
  by_cases h : ltS a b = true
  · rw [if_pos h]; exact ⟨fun _ => h, fun _ => by omega⟩
  · rw [if_neg h]
    refine ⟨fun h1 => ?_, fun h1 => absurd h1 h⟩
    split at h1 <;> omega
theorem lt_irrefl (a : ByteArray) : ¬ lt a a := fun h => by have := cmp_lt.2 h; rw [ordS.self] at this; omega
theorem lt_asymm {a b : ByteArray} (h : lt a b) : ¬ lt b a := fun h' => by have h1 := cmp_lt.2 h; have h2 := cmp_lt.2 h'; have := ordS.anti a b; omega
theorem lt_trans {a b c : ByteArray} (h : lt a b) (h' : lt b c) : lt a c := by
  have h1 := cmp_lt.2 h
  have h2 := cmp_lt.2 h'
  apply cmp_lt.1
  have h3 := ordS.trans a b c (by omega) (by omega)
  rcases Int.lt_or_eq_of_le h3 with h4 | h4
  · exact h4
  · have e := ordS.zero a c h4
    subst e
    have := ordS.anti a b
    omega
theorem lt_trichotomy (a b : ByteArray) : lt a b ∨ a = b ∨ lt b a := by
  rcases Int.lt_trichotomy (cmpS a b) 0 with h | h | h
  · exact .inl (cmp_lt.1 h)
  · exact .inr (.inl (ordS.zero a b h))
  · refine .inr (.inr (cmp_lt.1 ?_))
    have := ordS.anti a b
    omega
def at' (zs : List ByteArray) (i : Nat) : ByteArray := zs.getD i default
theorem drop_at (zs : List ByteArray) (i : Nat) (h : i < zs.length) : zs.drop i = at' zs i :: zs.drop (i + 1) := by
  rw [List.drop_eq_getElem_cons h]; simp [at', List.getD, h]
def one (b : Bool) (x : ByteArray) : List ByteArray := if b = true then [x] else []
/-- what the generic loop makes of two lists -/
def merge (k : Bool → Bool → Bool) : List ByteArray → List ByteArray → List ByteArray
  | [], [] => []
  | x :: a, [] => one (k true false) x ++ merge k a []
  | [], y :: b => one (k false true) y ++ merge k [] b
  | x :: a, y :: b =>
    if ltS x y = true then one (k true false) x ++ merge k a (y :: b)
    else if ltS y x = true then one (k false true) y ++ merge k (x :: a) b
    else one (k true true) y ++ merge k a b
def MLeft (k : Bool → Bool → Bool) (a b L : List ByteArray) (i j : Nat) : Prop := merge k a b = L ++ merge k (a.drop i) (b.drop j)
theorem left_start (k : Bool → Bool → Bool) (a b : List ByteArray) : MLeft k a b [] 0 0 := by simp [MLeft]
theorem left_first {k : Bool → Bool → Bool} {a b L : List ByteArray} {i j : Nat} (h : MLeft k a b L i j) (hi : i < a.length) (hj : j < b.length) (hlt : lt (at' a i) (at' b j)) : MLeft k a b (L ++ one (k true false) (at' a i)) (i + 1) j := by
  unfold MLeft at *
  rw [h, drop_at a i hi, drop_at b j hj, merge, if_pos hlt, List.append_assoc]
theorem left_second {k : Bool → Bool → Bool} {a b L : List ByteArray} {i j : Nat} (h : MLeft k a b L i j) (hi : i < a.length) (hj : j < b.length) (hlt : lt (at' b j) (at' a i)) : MLeft k a b (L ++ one (k false true) (at' b j)) i (j + 1) := by
  unfold MLeft at *
  rw [h, drop_at a i hi, drop_at b j hj, merge, if_neg (lt_asymm hlt), if_pos hlt, List.append_assoc]
theorem left_both {k : Bool → Bool → Bool} {a b L : List ByteArray} {i j : Nat} (h : MLeft k a b L i j) (hi : i < a.length) (hj : j < b.length) (he : at' a i = at' b j) : MLeft k a b (L ++ one (k true true) (at' b j)) (i + 1) (j + 1) := by
  unfold MLeft at *
  rw [h, drop_at a i hi, drop_at b j hj, he, merge, if_neg (lt_irrefl _), if_neg (lt_irrefl _), List.append_assoc]
theorem left_a {k : Bool → Bool → Bool} {a b L : List ByteArray} {i j : Nat} (h : MLeft k a b L i j) (hi : i < a.length) (hj : b.length ≤ j) : MLeft k a b (L ++ one (k true false) (at' a i)) (i + 1) j := by
  unfold MLeft at *
  rw [h, drop_at a i hi, List.drop_eq_nil_of_le hj, merge, List.append_assoc]
theorem left_b {k : Bool → Bool → Bool} {a b L : List ByteArray} {i j : Nat} (h : MLeft k a b L i j) (hi : a.length ≤ i) (hj : j < b.length) : MLeft k a b (L ++ one (k false true) (at' b j)) i (j + 1) := by
  unfold MLeft at *
  rw [h, drop_at b j hj, List.drop_eq_nil_of_le hi, merge, List.append_assoc]
theorem left_end {k : Bool → Bool → Bool} {a b L : List ByteArray} {i j : Nat} (h : MLeft k a b L i j) (hi : a.length ≤ i) (hj : b.length ≤ j) : merge k a b = L := by
  unfold MLeft at h
  rw [h, List.drop_eq_nil_of_le hi, List.drop_eq_nil_of_le hj, merge, List.append_nil]
def either (a b : Bool) : Bool := a || b
/-- a text among others, once -/
def put : List ByteArray → ByteArray → List ByteArray
  | [], n => [n]
  | x :: l, n => if ltS x n = true then x :: put l n else if x = n then x :: l else n :: x :: l
theorem merge_nil (l : List ByteArray) : merge either l [] = l := by
  induction l with
  | nil => rw [merge]
  | cons x l ih => rw [merge, ih]; rfl
theorem merge_one (l : List ByteArray) (n : ByteArray) : merge either l [n] = put l n := by
  induction l with
  | nil => rw [merge, merge, put]; rfl
  | cons x l ih =>
    rw [merge, put]
    rcases lt_trichotomy x n with h | h | h
    · rw [if_pos h, if_pos h, ih]; rfl
    · subst h
      rw [if_neg (lt_irrefl _), if_neg (lt_irrefl _), if_neg (lt_irrefl _), if_pos rfl, merge_nil]; rfl
    · rw [if_neg (lt_asymm h), if_pos h, if_neg (lt_asymm h), if_neg (fun e => by subst e; exact lt_irrefl _ h), merge_nil]; rfl
theorem put_len (l : List ByteArray) (n : ByteArray) : (put l n).length ≤ l.length + 1 := by
  induction l with
  | nil => simp [put]
  | cons x l ih =>
    unfold put
    split
    · simp; exact ih
    · split <;> simp
theorem mem_put {l : List ByteArray} {n z : ByteArray} (h : z ∈ put l n) : z ∈ l ∨ z = n := by
  induction l with
  | nil => simp [put] at h; exact .inr h
  | cons x l ih =>
    unfold put at h
    split at h
    · rcases List.mem_cons.1 h with e | e
      · exact .inl (by rw [e]; simp)
      · rcases ih e with g | g
        · exact .inl (List.mem_cons_of_mem _ g)
        · exact .inr g
    · split at h
      · exact .inl h
      · rcases List.mem_cons.1 h with e | e
        · exact .inr e
        · exact .inl e
end Go.Proofs.YtkmoekbicbjdmaaDoor.StrMath
