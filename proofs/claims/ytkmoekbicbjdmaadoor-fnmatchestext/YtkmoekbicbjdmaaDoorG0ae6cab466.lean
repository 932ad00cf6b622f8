/- My own texts of one claim, laid together by program: StrMath, StrLaw, StrMerge, StrPut. -/
import Derived.Test.YtkmoekbicbjdmaaDoorG6d921683cd
import Derived.Shelf.Abstract
import Derived.Test.YtkmoekbicbjdmaaDoorShelf
import Derived.Deep.RegionLaw
/- Ascending lists of texts: the generic loop's answer, and how a text is put among others. No condition. -/
namespace Go.Proofs.YtkmoekbicbjdmaaDoor.StrMath
open Go.RowKit Lab
abbrev lt (a b : ByteArray) : Prop := ltS a b = true
theorem cmp_lt {a b : ByteArray} : cmpS a b < 0 ↔ lt a b := by
  rw [cmpS_eq]
  unfold lt
  by_cases h : ltS a b = true
  · rw [if_pos h]; exact ⟨fun _ => h, fun _ => by omega⟩
  · rw [if_neg h]
    refine ⟨fun h1 => ?_, fun h1 => absurd h1 h⟩
    split at h1 <;> omega
theorem lt_irrefl (a : ByteArray) : ¬ lt a a := fun h => by have := cmp_lt.2 h; rw [ordS.self] at this; omega
theorem lt_asymm {a b : ByteArray} (h : lt a b) : ¬ lt b a := fun h' => by have h1 := cmp_lt.2 h; have h2 := cmp_lt.2 h'; have := ordS.anti a b; omega
theorem lt_trans {a b c : ByteArray} (h : lt a b) (h' : lt b c) : lt a c := by
  have h1 := cmp_lt.2 h
  have h2 := cmp_lt.2 h'
  apply cmp_lt.1
  have h3 := ordS.trans a b c (by omega) (by omega)
  rcases Int.lt_or_eq_of_le h3 with h4 | h4
  · exact h4
  · have e := ordS.zero a c h4
    subst e
    have := ordS.anti a b
    omega
theorem lt_trichotomy (a b : ByteArray) : lt a b ∨ a = b ∨ lt b a := by
  rcases Int.lt_trichotomy (cmpS a b) 0 with h | h | h
  · exact .inl (cmp_lt.1 h)
  · exact .inr (.inl (ordS.zero a b h))
  · refine .inr (.inr (cmp_lt.1 ?_))
    have := ordS.anti a b
    omega
def at' (zs : List ByteArray) (i : Nat) : ByteArray := zs.getD i default
theorem drop_at (zs : List ByteArray) (i : Nat) (h : i < zs.length) : zs.drop i = at' zs i :: zs.drop (i + 1) := by
  rw [List.drop_eq_getElem_cons h]; simp [at', List.getD, h]
def one (b : Bool) (x : ByteArray) : List ByteArray := if b = true then [x] else []
/-- what the generic loop makes of two lists -/
def merge (k : Bool → Bool → Bool) : List ByteArray → List ByteArray → List ByteArray
  | [], [] => []
  | x :: a, [] => one (k true false) x ++ merge k a []
  | [], y :: b => one (k false true) y ++ merge k [] b
  | x :: a, y :: b =>
    if ltS x y = true then one (k true false) x ++ merge k a (y :: b)
    else if ltS y x = true then one (k false true) y ++ merge k (x :: a) b
    else one (k true true) y ++ merge k a b
def MLeft (k : Bool → Bool → Bool) (a b L : List ByteArray) (i j : Nat) : Prop := merge k a b = L ++ merge k (a.drop i) (b.drop j)
theorem left_start (k : Bool → Bool → Bool) (a b : List ByteArray) : MLeft k a b [] 0 0 := by simp [MLeft]
theorem left_first {k : Bool → Bool → Bool} {a b L : List ByteArray} {i j : Nat} (h : MLeft k a b L i j) (hi : i < a.length) (hj : j < b.length) (hlt : lt (at' a i) (at' b j)) : MLeft k a b (L ++ one (k true false) (at' a i)) (i + 1) j := by
  unfold MLeft at *
  rw [h, drop_at a i hi, drop_at b j hj, merge, if_pos hlt, List.append_assoc]
theorem left_second {k : Bool → Bool → Bool} {a b L : List ByteArray} {i j : Nat} (h : MLeft k a b L i j) (hi : i < a.length) (hj : j < b.length) (hlt : lt (at' b j) (at' a i)) : MLeft k a b (L ++ one (k false true) (at' b j)) i (j + 1) := by
  unfold MLeft at *
  rw [h, drop_at a i hi, drop_at b j hj, merge, if_neg (lt_asymm hlt), if_pos hlt, List.append_assoc]
theorem left_both {k : Bool → Bool → Bool} {a b L : List ByteArray} {i j : Nat} (h : MLeft k a b L i j) (hi : i < a.length) (hj : j < b.length) (he : at' a i = at' b j) : MLeft k a b (L ++ one (k true true) (at' b j)) (i + 1) (j + 1) := by
  unfold MLeft at *
  rw [h, drop_at a i hi, drop_at b j hj, he, merge, if_neg (lt_irrefl _), if_neg (lt_irrefl _), List.append_assoc]
theorem left_a {k : Bool → Bool → Bool} {a b L : List ByteArray} {i j : Nat} (h : MLeft k a b L i j) (hi : i < a.length) (hj : b.length ≤ j) : MLeft k a b (L ++ one (k true false) (at' a i)) (i + 1) j := by
  unfold MLeft at *
  rw [h, drop_at a i hi, List.drop_eq_nil_of_le hj, merge, List.append_assoc]
theorem left_b {k : Bool → Bool → Bool} {a b L : List ByteArray} {i j : Nat} (h : MLeft k a b L i j) (hi : a.length ≤ i) (hj : j < b.length) : MLeft k a b (L ++ one (k false true) (at' b j)) i (j + 1) := by
  unfold MLeft at *
  rw [h, drop_at b j hj, List.drop_eq_nil_of_le hi, merge, List.append_assoc]
theorem left_end {k : Bool → Bool → Bool} {a b L : List ByteArray} {i j : Nat} (h : MLeft k a b L i j) (hi : a.length ≤ i) (hj : b.length ≤ j) : merge k a b = L := by
  unfold MLeft at h
  rw [h, List.drop_eq_nil_of_le hi, List.drop_eq_nil_of_le hj, merge, List.append_nil]
def either (a b : Bool) : Bool := a || b
/-- a text among others, once -/
def put : List ByteArray → ByteArray → List ByteArray
  | [], n => [n]
  | x :: l, n => if ltS x n = true then x :: put l n else if x = n then x :: l else n :: x :: l
theorem merge_nil (l : List ByteArray) : merge either l [] = l := by
  induction l with
  | nil => rw [merge]
  | cons x l ih => rw [merge, ih]; rfl
theorem merge_one (l : List ByteArray) (n : ByteArray) : merge either l [n] = put l n := by
  induction l with
  | nil => rw [merge, merge, put]; rfl
  | cons x l ih =>
    rw [merge, put]
    rcases lt_trichotomy x n with h | h | h
    · rw [if_pos h, if_pos h, ih]; rfl
    · subst h
      rw [if_neg (lt_irrefl _), if_neg (lt_irrefl _), if_neg (lt_irrefl _), if_pos rfl, merge_nil]; rfl
    · rw [if_neg (lt_asymm h), if_pos h, if_neg (lt_asymm h), if_neg (fun e => by subst e; exact lt_irrefl _ h), merge_nil]; rfl
theorem put_len (l : List ByteArray) (n : ByteArray) : (put l n).length ≤ l.length + 1 := by
  induction l with
  | nil => simp [put]
  | cons x l ih =>
    unfold put
    split
    · simp; exact ih
    · split <;> simp
theorem mem_put {l : List ByteArray} {n z : ByteArray} (h : z ∈ put l n) : z ∈ l ∨ z = n := by
  induction l with
  | nil => simp [put] at h; exact .inr h
  | cons x l ih =>
    unfold put at h
    split at h
    · rcases List.mem_cons.1 h with e | e
      · exact .inl (by rw [e]; simp)
      · rcases ih e with g | g
        · exact .inl (List.mem_cons_of_mem _ g)
        · exact .inr g
    · split at h
      · exact .inl h
      · rcases List.mem_cons.1 h with e | e
        · exact .inr e
        · exact .inl e
end Go.Proofs.YtkmoekbicbjdmaaDoor.StrMath

/- Slices of texts: what lies in them, what the laws' helpers do with them. -/
namespace Go.Proofs.YtkmoekbicbjdmaaDoor.Str
open Go.RowKit Rw
set_option linter.unusedVariables false
attribute [local go_sem ↓] Go.wp_at_zero Go.wp_at_succ
abbrev E := ByteArray
def fl (x : E) : List Value := [.string x]
theorem flk (x : E) : (fl x).length = 1 := rfl
abbrev at' (zs : List E) (i : Nat) : E := StrMath.at' zs i
abbrev flat (zs : List E) : List Value := flatOf fl zs
abbrev Is (w : World) (v : Value) (zs : List E) : Prop := Lies w v zs.length 1 (flat zs)
theorem flat_length (zs : List E) : (flat zs).length = zs.length := by rw [flatOf_length flk, Nat.mul_one]
theorem flat_oneCell (zs : List E) : ∀ u ∈ flat zs, u.oneCell' = true := by
  intro u hu
  obtain ⟨x, _, hx⟩ := List.mem_flatMap.1 hu
  simp only [fl, List.mem_cons, List.not_mem_nil, or_false] at hx
  rw [hx]; rfl
theorem at_get (zs : List E) (i : Nat) (h : i < zs.length) : at' zs i = zs[i] := by simp [at', StrMath.at', List.getD, h]
theorem at_snoc (zs : List E) (i : Nat) (h : i < zs.length) : zs.take (i + 1) = zs.take i ++ [at' zs i] := by rw [List.take_succ_eq_append_getElem h, at_get zs i h]
theorem flat_at (zs : List E) (i : Nat) (h : i < zs.length) : (flat zs)[i]? = some (.string (at' zs i)) := by
  rw [at_get zs i h]
  have := flatOf_get flk zs i 0 h (by omega)
  rw [Nat.mul_one, Nat.add_zero] at this
  exact this
theorem flat_append (a b : List E) : flat (a ++ b) = flat a ++ flat b := flatOf_append _ _ _
theorem is_of_own {w : World} {base : Nat} {v : Value} {zs : List E} (h : w.ownsRow base 9 1 v zs.length (flat zs)) : Is w v zs := lies_of_own h
theorem info_e : (Tryd.prog.info? 9).map (fun i => (i.zero, i.size, i.bytes)) = some (some (.string ByteArray.empty), 1, 16) := by kernel_rfl
theorem set_e (A : List Value) (u0 x0 : Value) (L : List Value) (k : Nat) (h : A.length = k) : (A ++ u0 :: L).set k x0 = A ++ [x0] ++ L := by
  subst h
  simp [List.set_append_right]
theorem split_e (r : List Value) (n : Nat) (h : r.length = n + 1) : ∃ u0 L, r = u0 :: L ∧ L.length = n := by
  match r, h with
  | u0 :: L, h => exact ⟨u0, L, rfl, by simpa using h⟩
  | [], h => simp at h
end Go.Proofs.YtkmoekbicbjdmaaDoor.Str

/- The generic loop that goes along two lists of texts at once: what it answers, whatever it keeps. -/
namespace Go.Proofs.YtkmoekbicbjdmaaDoor.Str
open Go.RowKit Rw StrMath
set_option linter.unusedVariables false
attribute [local go_sem ↓] Go.wp_at_zero Go.wp_at_succ
theorem run_leq (a b : ByteArray) (W : World) : (binOp .leq 9 (.string a) (.string b)).run Tryd.prog W = .ok (.bool (Lab.ltS a b || (a.toList == b.toList))) W := rfl
theorem leq_yes {a b : ByteArray} (h : lt a b ∨ a = b) (W : World) : (binOp .leq 9 (.string a) (.string b)).run Tryd.prog W = .ok (.bool true) W := by
  rw [run_leq]
  rcases h with h | h
  · rw [show Lab.ltS a b = true from h]; rfl
  · subst h; rw [show (a.toList == a.toList) = true from beq_self_eq_true _, Bool.or_true]
theorem leq_no {a b : ByteArray} (h : lt b a) (W : World) : (binOp .leq 9 (.string a) (.string b)).run Tryd.prog W = .ok (.bool false) W := by
  rw [run_leq]
  have h1 : Lab.ltS a b = false := by have := lt_asymm h; simpa [lt] using this
  have h2 : (a.toList == b.toList) = false := by
    apply Bool.eq_false_iff.2
    intro e
    have e' : a.toList = b.toList := by simpa using e
    rw [ByteArray.toList_eq, ByteArray.toList_eq] at e'
    have : a = b := Go.WideShapes.bytes_inj e'
    subst this
    exact lt_irrefl _ h
  rw [h1, h2]; rfl
def slen : Value → Nat
  | .slice _ n _ => n
  | _ => 0
theorem size_str : (sizeOf (Tryd.prog.elem 45)).run Tryd.prog = fun w => .ok 1 w := by kernel_rfl
theorem tail_ok {w : World} {a : Option Addr} {N cap : Nat} {xs : List Value} (h : Lies w (.slice a N cap) N 1 xs) (h0 : 0 < N) :
    ∃ R, (∀ W, (Instr.slice 45 (.slice a N cap) (some (.int .i64 1)) none none).run Tryd.prog W = .ok R W) ∧ Lies w R (N - 1) 1 (xs.drop 1) := by
  have hc : N ≤ cap := by obtain ⟨-, a', cap', h1, h2, -⟩ := h; simp only [Value.slice.injEq, true_and] at h1; omega
  refine ⟨_, fun W => ?_, cut_lies h (i := 1) (by omega)⟩
  have e := run_slice_l (P := Tryd.prog) W 45 a N cap (by kernel_rfl) .i64 (1 : Int) (by omega) (by omega)
  rw [e]
  show ((sizeOf (Tryd.prog.elem 45)).run Tryd.prog W).andThen _ = _
  rw [size_str]
  rfl
theorem flat_tail (zs : List E) (i : Nat) : (flat (zs.drop i)).drop 1 = flat (zs.drop (i + 1)) := by
  have := flatOf_drop flk (zs.drop i) 1
  rw [List.drop_drop, Nat.one_mul] at this
  exact this.symm
theorem head_cell {w : World} {a : Option Addr} {N cap i : Nat} {zs : List E} (h : Lies w (.slice a N cap) N 1 (flat (zs.drop i))) (h0 : 0 < N) :
    ∃ b off, a = some ⟨b, off, none⟩ ∧ b < w.heap.size ∧ w.cell? ⟨b, off, none⟩ = some (.string (StrMath.at' zs i)) := by
  obtain ⟨hl, a', cap', h1, -, -, -, hr⟩ := h
  simp only [Value.slice.injEq, true_and] at h1
  obtain ⟨rfl, rfl⟩ := h1
  obtain ⟨b, off, e, hb, hc⟩ := hr h0
  refine ⟨b, off, e, hb, ?_⟩
  rw [flat_length, List.length_drop] at hl
  have := hc 0 (.string (StrMath.at' zs i)) (by rw [drop_at zs i (by omega)]; rfl)
  simpa using this
theorem cls_cell {wr W : World} {b o : Nat} {u : Value} (hW : Below wr.heap.size wr W) (hb : b < wr.heap.size) (h : wr.cell? ⟨b, o, none⟩ = some u) : ∀ x : Cls W.heap.size W, x.val.cell? ⟨b, o, none⟩ = some u := fun x => by
  rw [x.cell (by have := hW.size; omega)]
  exact (hW.cell (p := ⟨b, o, none⟩) hb).trans h
end Go.Proofs.YtkmoekbicbjdmaaDoor.Str

/- l4Word of the model; strings.Clone. -/
namespace Go.Proofs.YtkmoekbicbjdmaaDoor.StrMath
theorem put_there : ∀ (l : List ByteArray) (x : ByteArray) (k : Nat), k < l.length → (∀ j, j < k → lt (at' l j) x) → at' l k = x → put l x = l
  | [], x, k, h, _, _ => by simp at h
  | y :: l, x, 0, _, _, h => by
    have e : y = x := h
    subst e
    unfold put
    rw [if_neg (lt_irrefl _), if_pos rfl]
  | y :: l, x, k + 1, h, h1, h2 => by
    have hy : lt y x := h1 0 (by omega)
    have ih := put_there l x k (by simpa using h) (fun j hj => by have := h1 (j + 1) (by omega); simpa [at', List.getD] using this) (by simpa [at', List.getD] using h2)
    unfold put
    rw [if_pos hy, ih]
theorem put_new : ∀ (l : List ByteArray) (x : ByteArray) (k : Nat), k ≤ l.length → (∀ j, j < k → lt (at' l j) x) → (k < l.length → ¬ lt (at' l k) x ∧ at' l k ≠ x) → put l x = l.take k ++ x :: l.drop k
  | [], x, k, h, _, _ => by simp at h; subst h; rfl
  | y :: l, x, 0, _, _, h => by
    have e := h (by simp)
    have e1 : ¬ lt y x := e.1
    have e2 : y ≠ x := e.2
    unfold put
    rw [if_neg e1, if_neg e2]
    rfl
  | y :: l, x, k + 1, h, h1, h2 => by
    have hy : lt y x := h1 0 (by omega)
    have ih := put_new l x k (by simpa using h) (fun j hj => by have := h1 (j + 1) (by omega); simpa [at', List.getD] using this) (fun hk => by have := h2 (by simpa using hk); simpa [at', List.getD] using this)
    unfold put
    rw [if_pos hy, ih]
    rfl
end Go.Proofs.YtkmoekbicbjdmaaDoor.StrMath
namespace Go.Proofs.YtkmoekbicbjdmaaDoor.Str
open Go.RowKit Rw StrMath
set_option linter.unusedVariables false
attribute [local go_sem ↓] Go.wp_at_zero Go.wp_at_succ
theorem run_lss (a b : ByteArray) (W : World) : (binOp .lss 9 (.string a) (.string b)).run Tryd.prog W = .ok (.bool (Lab.ltS a b)) W := rfl
theorem lss_yes {a b : ByteArray} (h : lt a b) : ∀ W, (binOp .lss 9 (.string a) (.string b)).run Tryd.prog W = .ok (.bool true) W := fun W => by rw [run_lss, show Lab.ltS a b = true from h]
theorem lss_no {a b : ByteArray} (h : ¬ lt a b) : ∀ W, (binOp .lss 9 (.string a) (.string b)).run Tryd.prog W = .ok (.bool false) W := fun W => by rw [run_lss, show Lab.ltS a b = false by simpa [lt] using h]
theorem beq_no {a b : ByteArray} (h : a ≠ b) : (a.toList == b.toList) = false := by
  apply Bool.eq_false_iff.2
  intro e
  have e' : a.toList = b.toList := by simpa using e
  rw [ByteArray.toList_eq, ByteArray.toList_eq] at e'
  exact h (Go.WideShapes.bytes_inj e')
theorem eql_no {a b : ByteArray} (h : a ≠ b) : ∀ W, (binOp .eql 9 (.string a) (.string b)).run Tryd.prog W = .ok (.bool false) W := fun W => by
  rw [show (binOp .eql 9 (.string a) (.string b)).run Tryd.prog W = .ok (.bool (a.toList == b.toList)) W from rfl, beq_no h]
theorem neq_yes {a b : ByteArray} (h : a ≠ b) : ∀ W, (binOp .neq 9 (.string a) (.string b)).run Tryd.prog W = .ok (.bool true) W := fun W => by
  rw [show (binOp .neq 9 (.string a) (.string b)).run Tryd.prog W = .ok (.bool !(a.toList == b.toList)) W from rfl, beq_no h]; rfl
theorem flat_put (l : List E) (k : Nat) (x : E) : flat (l.take k ++ x :: l.drop k) = [] ++ (flat l).take k ++ [.string x] ++ (flat l).drop k := by
  unfold flat
  rw [flatOf_append, flatOf_cons, flatOf_take flk, flatOf_drop flk, Nat.mul_one]
  simp [fl]
theorem clone_any (s : ByteArray) (w : World) (h : s.size ≤ 281474976710656) : Calls Tryd.prog 65 #[.string s] w fun e w' => e = .returned (.string s) ∧ Below w.heap.size w w' := by
  have H := hide (Tryd.stringslite_Clone s w h)
  go_enter Tryd.func65, Tryd.ntmps65
  go_wp2_with fail
  refine (unhide H).mono ?_
  rintro e w1 ⟨rfl, b⟩
  go_wp2_with fail
  go_ret
  exact ⟨rfl, b⟩
theorem own_empty' {w : World} {base B : Nat} {e : TypeId} {size : Nat} (hb : base ≤ w.heap.size) (hB : B = w.heap.size) : (w.alloc (.cells #[] e)).ownsRow base e size (.slice (some ⟨B, 0, none⟩) 0 0) 0 [] := by
  subst hB; exact own_empty hb
theorem head_ok {w : World} {a : Option Addr} {N cap k : Nat} {xs : List Value} (h : Lies w (.slice a N cap) N 1 xs) (h0 : k ≤ N) :
    ∃ R, (∀ W, (Instr.slice 45 (.slice a N cap) none (some (.int .i64 (k : Int))) none).run Tryd.prog W = .ok R W) ∧ Lies w R k 1 (xs.take k) := by
  have hc : N ≤ cap := by obtain ⟨-, a', cap', h1, h2, -⟩ := h; simp only [Value.slice.injEq, true_and] at h1; omega
  have h1 := take_lies (k := k) (cut_lies h (i := 0) (by omega)) (by omega)
  rw [Nat.zero_mul, List.drop_zero, Nat.mul_one] at h1
  refine ⟨_, fun W => ?_, h1⟩
  have e := run_slice_h (P := Tryd.prog) W 45 a N cap (by kernel_rfl) .i64 (k : Int) (by omega) (by omega)
  rw [e]
  show ((sizeOf (Tryd.prog.elem 45)).run Tryd.prog W).andThen _ = _
  rw [size_str]
  simp [sliced]
theorem rest_ok {w : World} {a : Option Addr} {N cap k : Nat} {xs : List Value} (h : Lies w (.slice a N cap) N 1 xs) (h0 : k ≤ N) :
    ∃ R, (∀ W, (Instr.slice 45 (.slice a N cap) (some (.int .i64 (k : Int))) none none).run Tryd.prog W = .ok R W) ∧ Lies w R (N - k) 1 (xs.drop k) := by
  have hc : N ≤ cap := by obtain ⟨-, a', cap', h1, h2, -⟩ := h; simp only [Value.slice.injEq, true_and] at h1; omega
  refine ⟨_, fun W => ?_, by have := cut_lies h (i := k) (by omega); rw [Nat.mul_one] at this; exact this⟩
  have e := run_slice_l (P := Tryd.prog) W 45 a N cap (by kernel_rfl) .i64 (k : Int) (by omega) (by omega)
  rw [e]
  show ((sizeOf (Tryd.prog.elem 45)).run Tryd.prog W).andThen _ = _
  rw [size_str]
  simp [sliced]
end Go.Proofs.YtkmoekbicbjdmaaDoor.Str
