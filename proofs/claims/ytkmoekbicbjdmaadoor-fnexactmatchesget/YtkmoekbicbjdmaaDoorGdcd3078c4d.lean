/- My own texts of one claim, laid together by program: StrMerge, StrPut, KeyMath, RowKey. -/
import Derived.Test.YtkmoekbicbjdmaaDoorGf3175f8e32
import Derived.Shelf.Abstract
import Derived.Test.YtkmoekbicbjdmaaDoorShelf
import Derived.Deep.RegionLaw
import Derived.Test.YtkmoekbicbjdmaaDoorGacf6adc661
import Derived.Test.YtkmoekbicbjdmaaDoorG0d305fe6f9
import Derived.Test.YtkmoekbicbjdmaaDoorGeeb769b86e
/- The generic loop that goes along two lists of texts at once: what it answers, whatever it keeps. -/
namespace Go.Proofs.YtkmoekbicbjdmaaDoor.Str
open Go.RowKit Rw StrMath
set_option linter.unusedVariables false
attribute [local go_sem ↓] Go.wp_at_zero Go.wp_at_succ
theorem run_leq (a b : ByteArray) (W : World) : (binOp .leq 9 (.string a) (.string b)).run Tryd.prog W = .ok (.bool (Lab.ltS a b || (a.toList == b.toList))) W := rfl
theorem leq_yes {a b : ByteArray} (h : lt a b ∨ a = b) (W : World) : (binOp .leq 9 (.string a) (.string b)).run Tryd.prog W = .ok (.bool true) W := by
  rw [run_leq]
  rcases h with h | h
  · rw [show Lab.ltS a b = true from h]; rfl
  · subst h; rw [show (a.toList == a.toList) = true from beq_self_eq_true _, Bool.or_true]
theorem leq_no {a b : ByteArray} (h : lt b a) (W : World) : (binOp .leq 9 (.string a) (.string b)).run Tryd.prog W = .ok (.bool false) W := by
  rw [run_leq]
  have h1 : Lab.ltS a b = false := by have := lt_asymm h; simpa [lt] using this
  have h2 : (a.toList == b.toList) = false := by
    apply Bool.eq_false_iff.2
    intro e
    have e' : a.toList = b.toList := by simpa using e
    rw [ByteArray.toList_eq, ByteArray.toList_eq] at e'
    have : a = b := Go.WideShapes.bytes_inj e'
    subst this
    exact lt_irrefl _ h
  rw [h1, h2]; rfl
def slen : Value → Nat
  | .slice _ n _ => n
  | _ => 0
theorem size_str : (sizeOf (Tryd.prog.elem 45)).run Tryd.prog = fun w => .ok 1 w := by kernel_rfl
theorem tail_ok {w : World} {a : Option Addr} {N cap : Nat} {xs : List Value} (h : Lies w (.slice a N cap) N 1 xs) (h0 : 0 < N) :
    ∃ R, (∀ W, (Instr.slice 45 (.slice a N cap) (some (.int .i64 1)) none none).run Tryd.prog W = .ok R W) ∧ Lies w R (N - 1) 1 (xs.drop 1) := by
  have hc : N ≤ cap := by obtain ⟨-, a', cap', h1, h2, -⟩ := h; simp only [Value.slice.injEq, true_and] at h1; omega
  refine ⟨_, fun W => ?_, cut_lies h (i := 1) (by omega)⟩
  have e := run_slice_l (P := Tryd.prog) W 45 a N cap (by kernel_rfl) .i64 (1 : Int) (by omega) (by omega)
  rw [e]
  show ((sizeOf (Tryd.prog.elem 45)).run Tryd.prog W).andThen _ = _
  rw [size_str]
  rfl
theorem flat_tail (zs : List E) (i : Nat) : (flat (zs.drop i)).drop 1 = flat (zs.drop (i + 1)) := by
  have := flatOf_drop flk (zs.drop i) 1
  rw [List.drop_drop, Nat.one_mul] at this
  exact this.symm
theorem head_cell {w : World} {a : Option Addr} {N cap i : Nat} {zs : List E} (h : Lies w (.slice a N cap) N 1 (flat (zs.drop i))) (h0 : 0 < N) :
    ∃ b off, a = some ⟨b, off, none⟩ ∧ b < w.heap.size ∧ w.cell? ⟨b, off, none⟩ = some (.string (StrMath.at' zs i)) := by
  obtain ⟨hl, a', cap', h1, -, -, -, hr⟩ := h
  simp only [Value.slice.injEq, true_and] at h1
  obtain ⟨rfl, rfl⟩ := h1
  obtain ⟨b, off, e, hb, hc⟩ := hr h0
  refine ⟨b, off, e, hb, ?_⟩
  rw [flat_length, List.length_drop] at hl
  have := hc 0 (.string (StrMath.at' zs i)) (by rw [drop_at zs i (by omega)]; rfl)
  simpa using this
theorem cls_cell {wr W : World} {b o : Nat} {u : Value} (hW : Below wr.heap.size wr W) (hb : b < wr.heap.size) (h : wr.cell? ⟨b, o, none⟩ = some u) : ∀ x : Cls W.heap.size W, x.val.cell? ⟨b, o, none⟩ = some u := fun x => by
  rw [x.cell (by have := hW.size; omega)]
  exact (hW.cell (p := ⟨b, o, none⟩) hb).trans h
end Go.Proofs.YtkmoekbicbjdmaaDoor.Str

/- l4Word of the model; strings.Clone. -/
namespace Go.Proofs.YtkmoekbicbjdmaaDoor.StrMath
theorem put_there : ∀ (l : List ByteArray) (x : ByteArray) (k : Nat), k < l.length → (∀ j, j < k → lt (at' l j) x) → at' l k = x → put l x = l
  | [], x, k, h, _, _ => by simp at h
  | y :: l, x, 0, _, _, h => by
    have e : y = x := h
    subst e
    unfold put
    rw [if_neg (lt_irrefl _), if_pos rfl]
  | y :: l, x, k + 1, h, h1, h2 => by
    have hy : lt y x := h1 0 (by omega)
    have ih := put_there l x k (by simpa using h) (fun j hj => by have := h1 (j + 1) (by omega); simpa [at', List.getD] using this) (by simpa [at', List.getD] using h2)
    unfold put
    rw [if_pos hy, ih]
theorem put_new : ∀ (l : List ByteArray) (x : ByteArray) (k : Nat), k ≤ l.length → (∀ j, j < k → lt (at' l j) x) → (k < l.length → ¬ lt (at' l k) x ∧ at' l k ≠ x) → put l x = l.take k ++ x :: l.drop k
  | [], x, k, h, _, _ => by simp at h; subst h; rfl
  | y :: l, x, 0, _, _, h => by
    have e := h (by simp)
    have e1 : ¬ lt y x := e.1
    have e2 : y ≠ x := e.2
    unfold put
    rw [if_neg e1, if_neg e2]
    rfl
  | y :: l, x, k + 1, h, h1, h2 => by
    have hy : lt y x := h1 0 (by omega)
    have ih := put_new l x k (by simpa using h) (fun j hj => by have := h1 (j + 1) (by omega); simpa [at', List.getD] using this) (fun hk => by have := h2 (by simpa using hk); simpa [at', List.getD] using this)
    unfold put
    rw [if_pos hy, ih]
    rfl
end Go.Proofs.YtkmoekbicbjdmaaDoor.StrMath
namespace Go.Proofs.YtkmoekbicbjdmaaDoor.Str
open Go.RowKit Rw StrMath
set_option linter.unusedVariables false
attribute [local go_sem ↓] Go.wp_at_zero Go.wp_at_succ
theorem run_lss (a b : ByteArray) (W : World) : (binOp .lss 9 (.string a) (.string b)).run Tryd.prog W = .ok (.bool (Lab.ltS a b)) W := rfl
theorem lss_yes {a b : ByteArray} (h : lt a b) : ∀ W, (binOp .lss 9 (.string a) (.string b)).run Tryd.prog W = .ok (.bool true) W := fun W => by rw [run_lss, show Lab.ltS a b = true from h]
theorem lss_no {a b : ByteArray} (h : ¬ lt a b) : ∀ W, (binOp .lss 9 (.string a) (.string b)).run Tryd.prog W = .ok (.bool false) W := fun W => by rw [run_lss, show Lab.ltS a b = false by simpa [lt] using h]
theorem beq_no {a b : ByteArray} (h : a ≠ b) : (a.toList == b.toList) = false := by
  apply Bool.eq_false_iff.2
  intro e
  have e' : a.toList = b.toList := by simpa using e
  rw [ByteArray.toList_eq, ByteArray.toList_eq] at e'
  exact h (Go.WideShapes.bytes_inj e')
theorem eql_no {a b : ByteArray} (h : a ≠ b) : ∀ W, (binOp .eql 9 (.string a) (.string b)).run Tryd.prog W = .ok (.bool false) W := fun W => by
  rw [show (binOp .eql 9 (.string a) (.string b)).run Tryd.prog W = .ok (.bool (a.toList == b.toList)) W from rfl, beq_no h]
theorem neq_yes {a b : ByteArray} (h : a ≠ b) : ∀ W, (binOp .neq 9 (.string a) (.string b)).run Tryd.prog W = .ok (.bool true) W := fun W => by
  rw [show (binOp .neq 9 (.string a) (.string b)).run Tryd.prog W = .ok (.bool !(a.toList == b.toList)) W from rfl, beq_no h]; rfl
theorem flat_put (l : List E) (k : Nat) (x : E) : flat (l.take k ++ x :: l.drop k) = [] ++ (flat l).take k ++ [.string x] ++ (flat l).drop k := by
  unfold flat
  rw [flatOf_append, flatOf_cons, flatOf_take flk, flatOf_drop flk, Nat.mul_one]
  simp [fl]
theorem clone_any (s : ByteArray) (w : World) (h : s.size ≤ 281474976710656) : Calls Tryd.prog 65 #[.string s] w fun e w' => e = .returned (.string s) ∧ Below w.heap.size w w' := by
  have H := hide (Tryd.stringslite_Clone s w h)
  go_enter Tryd.func65, Tryd.ntmps65
  go_wp2_with fail
  refine (unhide H).mono ?_
  rintro e w1 ⟨rfl, b⟩
  go_wp2_with fail
  go_ret
  exact ⟨rfl, b⟩
theorem own_empty' {w : World} {base B : Nat} {e : TypeId} {size : Nat} (hb : base ≤ w.heap.size) (hB : B = w.heap.size) : (w.alloc (.cells #[] e)).ownsRow base e size (.slice (some ⟨B, 0, none⟩) 0 0) 0 [] := by
  subst hB; exact own_empty hb
theorem head_ok {w : World} {a : Option Addr} {N cap k : Nat} {xs : List Value} (h : Lies w (.slice a N cap) N 1 xs) (h0 : k ≤ N) :
    ∃ R, (∀ W, (Instr.slice 45 (.slice a N cap) none (some (.int .i64 (k : Int))) none).run Tryd.prog W = .ok R W) ∧ Lies w R k 1 (xs.take k) := by
  have hc : N ≤ cap := by obtain ⟨-, a', cap', h1, h2, -⟩ := h; simp only [Value.slice.injEq, true_and] at h1; omega
  have h1 := take_lies (k := k) (cut_lies h (i := 0) (by omega)) (by omega)
  rw [Nat.zero_mul, List.drop_zero, Nat.mul_one] at h1
  refine ⟨_, fun W => ?_, h1⟩
  have e := run_slice_h (P := Tryd.prog) W 45 a N cap (by kernel_rfl) .i64 (k : Int) (by omega) (by omega)
  rw [e]
  show ((sizeOf (Tryd.prog.elem 45)).run Tryd.prog W).andThen _ = _
  rw [size_str]
  simp [sliced]
theorem rest_ok {w : World} {a : Option Addr} {N cap k : Nat} {xs : List Value} (h : Lies w (.slice a N cap) N 1 xs) (h0 : k ≤ N) :
    ∃ R, (∀ W, (Instr.slice 45 (.slice a N cap) (some (.int .i64 (k : Int))) none none).run Tryd.prog W = .ok R W) ∧ Lies w R (N - k) 1 (xs.drop k) := by
  have hc : N ≤ cap := by obtain ⟨-, a', cap', h1, h2, -⟩ := h; simp only [Value.slice.injEq, true_and] at h1; omega
  refine ⟨_, fun W => ?_, by have := cut_lies h (i := k) (by omega); rw [Nat.mul_one] at this; exact this⟩
  have e := run_slice_l (P := Tryd.prog) W 45 a N cap (by kernel_rfl) .i64 (k : Int) (by omega) (by omega)
  rw [e]
  show ((sizeOf (Tryd.prog.elem 45)).run Tryd.prog W).andThen _ = _
  rw [size_str]
  simp [sliced]
end Go.Proofs.YtkmoekbicbjdmaaDoor.Str

/- The text of labels without its last bracket: such texts are ordered as the labels are. No condition but that labels are ok. -/
namespace Go.Proofs.YtkmoekbicbjdmaaDoor.Lab
open Go.RowKit Rw
/-- nothing, or a byte below the letters ahead -/
def Sep (s : List UInt8) : Prop := s = [] ∨ ∃ c r, s = c :: r ∧ c.toNat < 97
def letL (l : List UInt8) : Prop := ∀ c ∈ l, 97 ≤ c.toNat
theorem less_cons (a b : UInt8) (x y : List UInt8) : Op.bytesLess (a :: x) (b :: y) = (decide (a < b) || (a == b && Op.bytesLess x y)) := rfl
theorem less_nil (x : List UInt8) : Op.bytesLess x [] = false := by cases x <;> rfl
theorem nil_less (b : UInt8) (y : List UInt8) : Op.bytesLess [] (b :: y) = true := rfl
/-- letters ahead of what is no letter: the letters decide, and where they are the same what is behind -/
theorem less_sep : ∀ (x y s t : List UInt8), letL x → letL y → Sep s → Sep t → Op.bytesLess (x ++ s) (y ++ t) = if x = y then Op.bytesLess s t else Op.bytesLess x y
  | [], [], s, t, _, _, _, _ => by simp
  | [], b :: y, s, t, _, hy, hs, _ => by
    rw [if_neg (by simp), nil_less, List.nil_append, List.cons_append]
    rcases hs with rfl | ⟨c, r, rfl, hc⟩
    · rfl
    · have hb := hy b (List.mem_cons_self ..)
      rw [less_cons]
      have : decide (c < b) = true := decide_eq_true (u8_lt.2 (by omega))
      rw [this]; rfl
  | a :: x, [], s, t, hx, _, _, ht => by
    rw [if_neg (by simp), less_nil, List.nil_append, List.cons_append]
    rcases ht with rfl | ⟨c, r, rfl, hc⟩
    · exact less_nil _
    · have ha := hx a (List.mem_cons_self ..)
      rw [less_cons]
      have h1 : decide (a < c) = false := decide_eq_false (fun h => by have := u8_lt.1 h; omega)
      have h2 : (a == c) = false := by
        apply beq_eq_false_iff_ne.2
        intro e
        rw [e] at ha
        omega
      rw [h1, h2]; rfl
  | a :: x, b :: y, s, t, hx, hy, hs, ht => by
    have ih := less_sep x y s t (fun c hc => hx c (List.mem_cons_of_mem _ hc)) (fun c hc => hy c (List.mem_cons_of_mem _ hc)) hs ht
    rw [List.cons_append, List.cons_append, less_cons, ih]
    by_cases e : a = b
    · subst e
      have h0 : decide (a < a) = false := decide_eq_false (fun h => by have := u8_lt.1 h; omega)
      rw [h0, beq_self_eq_true]
      by_cases e2 : x = y
      · subst e2; simp
      · rw [if_neg e2, if_neg (by simp [e2]), less_cons, h0, beq_self_eq_true]
    · rw [if_neg (show ¬ (a :: x = b :: y) from fun h => e (List.cons.inj h).1), less_cons]
      have h2 : (a == b) = false := beq_eq_false_iff_ne.2 e
      rw [h2, Bool.false_and, Bool.false_and]
/-- labels as bytes, one behind the other -/
def tailB : List E → List UInt8
  | [] => []
  | x :: zs => 44 :: (x.1.data.toList ++ (61 :: (x.2.data.toList ++ tailB zs)))
def bodyB : List E → List UInt8
  | [] => []
  | x :: zs => x.1.data.toList ++ (61 :: (x.2.data.toList ++ tailB zs))
theorem sep_tail (zs : List E) : Sep (tailB zs) := by
  cases zs with
  | nil => exact .inl rfl
  | cons x zs => exact .inr ⟨44, _, rfl, by decide⟩
theorem sep_eq (l : List UInt8) : Sep (61 :: l) := .inr ⟨61, _, rfl, by decide⟩
def lettered (zs : List E) : Prop := ∀ x ∈ zs, letL x.1.data.toList ∧ letL x.2.data.toList
theorem eq_iff_data {a b : ByteArray} : a.data.toList = b.data.toList ↔ a = b := ⟨fun h => Go.WideShapes.bytes_inj h, fun h => by rw [h]⟩
theorem less_iff (a b : ByteArray) : (Op.bytesLess a.data.toList b.data.toList = true) ↔ cmpS a b = -1 := by
  unfold cmpS
  rw [cmp_less]
  by_cases h : Op.bytesLess a.data.toList b.data.toList = true
  · simp [h]
  · rw [if_neg h]
    refine ⟨fun h' => absurd h' h, fun h' => ?_⟩
    split at h' <;> omega
theorem body_cons (x y : E) (a b : List E) (hx : letL x.1.data.toList ∧ letL x.2.data.toList) (hy : letL y.1.data.toList ∧ letL y.2.data.toList) :
    Op.bytesLess (bodyB (x :: a)) (bodyB (y :: b)) = if x.1 = y.1 then (if x.2 = y.2 then Op.bytesLess (tailB a) (tailB b) else Op.bytesLess x.2.data.toList y.2.data.toList) else Op.bytesLess x.1.data.toList y.1.data.toList := by
  show Op.bytesLess (x.1.data.toList ++ (61 :: (x.2.data.toList ++ tailB a))) (y.1.data.toList ++ (61 :: (y.2.data.toList ++ tailB b))) = _
  rw [less_sep _ _ _ _ hx.1 hy.1 (sep_eq _) (sep_eq _)]
  by_cases e : x.1 = y.1
  · rw [if_pos (by rw [e]), if_pos e, less_cons]
    have h0 : decide ((61 : UInt8) < 61) = false := by decide
    rw [h0, beq_self_eq_true, less_sep _ _ _ _ hx.2 hy.2 (sep_tail a) (sep_tail b)]
    by_cases e2 : x.2 = y.2
    · rw [if_pos (by rw [e2]), if_pos e2]; simp
    · rw [if_neg (fun h => e2 (eq_iff_data.1 h)), if_neg e2]; simp
  · rw [if_neg (fun h => e (eq_iff_data.1 h)), if_neg e]
theorem tail_cons (x y : E) (a b : List E) : Op.bytesLess (tailB (x :: a)) (tailB (y :: b)) = Op.bytesLess (bodyB (x :: a)) (bodyB (y :: b)) := by
  show Op.bytesLess (44 :: _) (44 :: _) = _
  rw [less_cons]
  have h0 : decide ((44 : UInt8) < 44) = false := by decide
  rw [h0, beq_self_eq_true]
  simp [bodyB]
theorem body_cmp (x y : E) (a b : List E) (hx : letL x.1.data.toList ∧ letL x.2.data.toList) (hy : letL y.1.data.toList ∧ letL y.2.data.toList) (ht : Op.bytesLess (tailB a) (tailB b) = true ↔ cmpL a b = -1) :
    Op.bytesLess (bodyB (x :: a)) (bodyB (y :: b)) = true ↔ cmpL (x :: a) (y :: b) = -1 := by
  rw [body_cons x y a b hx hy]
  show _ ↔ (if cmpE x y ≠ 0 then cmpE x y else cmpL a b) = -1
  by_cases e : x.1 = y.1
  · have e0 : cmpS x.1 y.1 = 0 := by rw [e]; exact ordS.self _
    rw [if_pos e]
    have ee : cmpE x y = cmpS x.2 y.2 := by unfold cmpE; rw [if_neg (by simp [e0])]
    by_cases e2 : x.2 = y.2
    · have e3 : cmpS x.2 y.2 = 0 := by rw [e2]; exact ordS.self _
      rw [if_pos e2, ee, e3, if_neg (by simp)]
      exact ht
    · have e3 : cmpS x.2 y.2 ≠ 0 := fun h => e2 (ordS.zero _ _ h)
      rw [if_neg e2, ee, if_pos e3]
      exact less_iff _ _
  · have e0 : cmpS x.1 y.1 ≠ 0 := fun h => e (ordS.zero _ _ h)
    have ee : cmpE x y = cmpS x.1 y.1 := by unfold cmpE; rw [if_pos e0]
    rw [if_neg e, ee, if_pos e0]
    exact less_iff _ _
theorem tail_cmp : ∀ a b : List E, lettered a → lettered b → (Op.bytesLess (tailB a) (tailB b) = true ↔ cmpL a b = -1)
  | [], [], _, _ => by simp [tailB, cmpL, less_nil]
  | [], y :: b, _, _ => by simp [tailB, cmpL, nil_less]
  | x :: a, [], _, _ => by simp [tailB, cmpL, less_nil]
  | x :: a, y :: b, ha, hb => by
    rw [tail_cons]
    exact body_cmp x y a b (ha x (List.mem_cons_self ..)) (hb y (List.mem_cons_self ..)) (tail_cmp a b (fun z hz => ha z (List.mem_cons_of_mem _ hz)) (fun z hz => hb z (List.mem_cons_of_mem _ hz)))
def keyL (zs : List E) : List UInt8 := 123 :: bodyB zs
/-- keys are ordered as labels are -/
theorem key_cmp : ∀ a b : List E, lettered a → lettered b → a ≠ [] → b ≠ [] → (Op.bytesLess (keyL a) (keyL b) = true ↔ cmpL a b = -1)
  | [], _, _, _, h, _ => absurd rfl h
  | x :: a, [], _, _, _, h => absurd rfl h
  | x :: a, y :: b, ha, hb, _, _ => by
    have h0 : decide ((123 : UInt8) < 123) = false := by decide
    unfold keyL
    rw [less_cons, h0, beq_self_eq_true]
    simp only [Bool.false_or, Bool.true_and]
    exact body_cmp x y a b (ha x (List.mem_cons_self ..)) (hb y (List.mem_cons_self ..)) (tail_cmp a b (fun z hz => ha z (List.mem_cons_of_mem _ hz)) (fun z hz => hb z (List.mem_cons_of_mem _ hz)))
theorem letters_letL {s : ByteArray} (h : letters s = true) : letL s.data.toList := by
  intro c hc
  have := List.all_eq_true.1 h c hc
  unfold letter at this
  simp only [Bool.and_eq_true, decide_eq_true_eq] at this
  exact this.1
theorem ok_lettered {zs : List E} (h : ok zs = true) : lettered zs ∧ zs ≠ [] := by
  unfold ok at h
  simp only [Bool.and_eq_true, decide_eq_true_eq] at h
  refine ⟨fun x hx => ?_, fun e => by rw [e] at h; simp at h⟩
  obtain ⟨k, hk, rfl⟩ := List.getElem_of_mem hx
  have hs := List.all_eq_true.1 (show (List.range zs.length).all (stepOk zs) = true from h.2) k (List.mem_range.2 hk)
  unfold stepOk nameB wordB at hs
  simp only [Bool.and_eq_true, at_get zs k hk] at hs
  exact ⟨letters_letL hs.1.1.1.2, letters_letL hs.1.1.2.2⟩
/-- the key as it comes of the parts -/
theorem join_body : ∀ zs : List E, PutMath.joinB (zs.map fun x => x.1 ++ ⟨#[61]⟩ ++ x.2) = bodyB zs
  | [] => rfl
  | x :: zs => by
    have ht : ∀ l : List E, Lib.joinTail [44] ((l.map fun x => x.1 ++ ⟨#[61]⟩ ++ x.2).map (·.data.toList)) = tailB l := by
      intro l
      induction l with
      | nil => rfl
      | cons y l ih =>
        have e : Lib.joinTail [44] (((y :: l).map fun x => x.1 ++ ⟨#[61]⟩ ++ x.2).map (·.data.toList)) = [44] ++ (y.1 ++ ⟨#[61]⟩ ++ y.2 : ByteArray).data.toList ++ Lib.joinTail [44] ((l.map fun x => x.1 ++ ⟨#[61]⟩ ++ x.2).map (·.data.toList)) := by simp [Lib.joinTail]
        rw [e, ih, PutMath.app_toList, PutMath.app_toList]
        simp [tailB]
    unfold PutMath.joinB
    rw [List.map_cons, List.map_cons, Lib.join_cons, ht, PutMath.app_toList, PutMath.app_toList]
    simp [bodyB]
end Go.Proofs.YtkmoekbicbjdmaaDoor.Lab

/- A copy of labels, and the key of a row: the program's labelsCopy and rowKey. -/
namespace Go.Proofs.YtkmoekbicbjdmaaDoor.Lab
open Go.RowKit Rw PutMath
set_option linter.unusedVariables false
attribute [local go_sem ↓] Go.wp_at_zero Go.wp_at_succ
set_option maxRecDepth 100000 in
set_option maxHeartbeats 4000000 in
theorem copy_any {w : World} {v : Value} {zs : List E} (h : Is w v zs) (hsm : small zs) : Calls Tryd.prog 36 #[v] w fun e w' => ∃ r, e = .returned r ∧ w'.ownsRow w.heap.size 47 2 r zs.length (flat zs) ∧ Below w.heap.size w w' := by
  obtain ⟨i0, hi, hz0, hz1, hz2⟩ := info_parts info_e
  have hlen := hsm.1
  have hg := hsm.2
  obtain ⟨-, a, cap, rfl, hc, hm, -, hr⟩ := h
  unfold maxLen at hm
  obtain ⟨n, hn⟩ : ∃ n, n = zs.length := ⟨_, rfl⟩
  rw [← hn] at hc hr hlen ⊢
  have HN := hide hn
  have HG := hide hg
  clear hn hg
  go_enter Tryd.func36, Tryd.ntmps36
  go_wp2_with fail
  go_loopw [3, 8] (fun pv i wr => ∃ (k : Nat) (pa : Option Addr) (pc : Nat), k ≤ n ∧ i = .int .i64 k ∧ pv = .slice pa k pc ∧ wr.ownsRow w.heap.size 47 2 pv k (flat (zs.take k)) ∧ Below w.heap.size w wr) (fun _ i _ => n - (intOf i).toNat)
  case atStart => exact ⟨0, none, 0, Nat.zero_le _, rfl, rfl, World.ownsRow_nil _ _ _ _, Below.refl _ _⟩
  case round =>
    obtain ⟨k, pa, pc, hk, rfl, rfl, hown, hbel⟩ := hrel
    have hsz := hbel.size
    have hk0 : (0 : Int) ≤ (k : Int) := Int.natCast_nonneg _
    by_cases hlt : k < n
    · obtain ⟨b, off, rfl, hl, hcells⟩ := hr (by omega)
      have fa := flat_at zs k (by have := unhide HN; omega)
      have gd := unhide HG (at' zs k) (by rw [at_get zs k (by have := unhide HN; omega)]; exact List.getElem_mem _)
      have HPS := hide (show flat (zs.take (k + 1)) = flat (zs.take k) ++ fl (at' zs k) by rw [at_snoc zs k (by have := unhide HN; omega)]; unfold flat; rw [flatOf_append, flatOf_one])
      obtain ⟨A, B, hX⟩ : ∃ A B, (A, B) = at' zs k := ⟨_, _, rfl⟩
      rw [← hX] at fa gd HPS
      simp only at gd
      simp only [fl] at HPS
      have hc0 : wr.cell? ⟨b, off + k * 2, none⟩ = some (.string A) := (hbel.cell (p := ⟨b, _, none⟩) hl).trans (hcells (k * 2) _ fa.1)
      have hc1 : wr.cell? ⟨b, off + k * 2 + 1, none⟩ = some (.string B) := (hbel.cell (p := ⟨b, _, none⟩) hl).trans (hcells (k * 2 + 1) _ fa.2)
      have HA := hide (fun W => Str.clone_any A W (by omega))
      have HB := hide (fun W => Str.clone_any B W (by omega))
      clear hX fa gd
      have hk1 : (k : Int) < (n : Int) := by omega
      have hmx : 1 ≤ maxLen := by unfold maxLen; omega
      obtain ⟨W, hW⟩ : ∃ W, W = wr.alloc (.cells #[.string A, .string B] 47) := ⟨_, rfl⟩
      have bW : Below wr.heap.size wr W := by rw [hW]; exact (Below.refl _ _).alloc (Nat.le_refl _) _
      have zW : wr.heap.size < W.heap.size := by rw [hW]; simp
      have S6 : (fun w' : World => w'.cell? ⟨wr.heap.size, 0, none⟩ = some (.string A) ∧ w'.cell? ⟨wr.heap.size, 1, none⟩ = some (.string B)) W.drew := by rw [hW]; exact ⟨by simp, by simp⟩
      have oW : W.drew.ownsRow w.heap.size 47 2 (.slice pa k pc) k (flat (zs.take k)) := World.ownsRow.drew (own_below hown bW)
      have hbW : Below w.heap.size w W.drew := (hbel.trans (bW.mono hsz)).drew
      have hob := fun e => Nat.lt_irrefl _ (own_block_lt hown wr.heap.size (Eq.symm e))
      clear bW
      go_wp2_with fail
      rw [← hW]
      clear hW
      go_region_held3 (fun w' => w'.cell? ⟨wr.heap.size, 0, none⟩ = some (.string A) ∧ w'.cell? ⟨wr.heap.size, 1, none⟩ = some (.string B)) (first | exact S6 | exact S7 | exact S8 | exact S9 _ | exact S10) ((first | (go_at_call_of 65 A; refine (unhide HA _).mono ?_; rintro e w7 ⟨rfl, b7⟩; have z7 := b7.size; simp only [World.size_drew] at z7; have S7 : (fun w' : World => w'.cell? ⟨wr.heap.size, 0, none⟩ = some (.string A) ∧ w'.cell? ⟨wr.heap.size, 1, none⟩ = some (.string B)) w7 := ⟨(b7.cell (p := ⟨_, _, none⟩) (by first | (simp; done) | (simp; omega) | omega)).trans S6.1, (b7.cell (p := ⟨_, _, none⟩) (by first | (simp; done) | (simp; omega) | omega)).trans S6.2⟩) | (go_at_call_of 65 B; refine (unhide HB _).mono ?_; rintro e w8 ⟨rfl, b8⟩; have z8 := b8.size; have S8 : (fun w' : World => w'.cell? ⟨wr.heap.size, 0, none⟩ = some (.string A) ∧ w'.cell? ⟨wr.heap.size, 1, none⟩ = some (.string B)) w8 := ⟨(b8.cell (p := ⟨_, _, none⟩) (by first | (simp; done) | (simp; omega) | omega)).trans S7.1, (b8.cell (p := ⟨_, _, none⟩) (by first | (simp; done) | (simp; omega) | omega)).trans S7.2⟩; have S9 : ∀ o, (fun w' : World => w'.cell? ⟨wr.heap.size, 0, none⟩ = some (.string A) ∧ w'.cell? ⟨wr.heap.size, 1, none⟩ = some (.string B)) (w8.alloc o) := fun o => ⟨(((Below.refl _ _).alloc (Nat.le_refl _) _).cell (p := ⟨_, _, none⟩) (by first | (simp; done) | (simp; omega) | omega)).trans S8.1, (((Below.refl _ _).alloc (Nat.le_refl _) _).cell (p := ⟨_, _, none⟩) (by first | (simp; done) | (simp; omega) | omega)).trans S8.2⟩) | (refine app_step _ (by rfl) _ _ _ (by rfl) w.heap.size 47 i0 _ 2 32 Tryd.underlying23 hi hz0 hz1 hz2 rfl (by omega) _ k _ (by rfl) (World.ownsRow.alloc (own_below (own_below oW b7) b8) _) _ 1 [.string A, .string B] (by rfl) (lies_new (w := w8) (by simp) rfl hmx) (by simp [Value.oneCell']) (by unfold maxLen; omega) (by omega) (by simp <;> omega) ?_; intro vn wn on gn an; have S10 : (fun w' : World => w'.cell? ⟨wr.heap.size, 0, none⟩ = some (.string A) ∧ w'.cell? ⟨wr.heap.size, 1, none⟩ = some (.string B)) wn := ⟨by rw [gn.cell_far _ (by simp <;> omega) hob]; exact (S9 _).1, by rw [gn.cell_far _ (by simp <;> omega) hob]; exact (S9 _).2⟩)))
      have hb8 : Below w.heap.size w w8 := (hbW.trans (b7.mono hbW.size)).trans (b8.mono (by omega))
      have R9 : Below w.heap.size w wn := below_grown (hb8.alloc (by omega) _) (by simp <;> omega) gn (own_ge hown)
      have R2 := hide (show wn.ownsRow w.heap.size 47 2 vn (k + 1) (flat (zs.take (k + 1))) by rw [unhide HPS]; exact on)
      obtain ⟨an', cn, hvn⟩ : ∃ a c, vn = .slice a (k + 1) c := by obtain ⟨-, a, c, e, -⟩ := lies_of_own on; exact ⟨a, c, e⟩
      have HV := hide hvn
      clear on gn an hown hvn hob S6 S7 S8 S9 S10 oW hbW b7 b8 hb8
      go_wp2_with fail
      go_roundw
      case rel => exact ⟨k + 1, an', cn, by omega, by go_num, unhide HV, unhide R2, R9⟩
      case measure => simp [intOf]; omega
    · obtain rfl : k = n := by omega
      rw [List.take_of_length_le (by have := unhide HN; omega)] at hown
      go_wp2
      go_ret
      exact ⟨_, rfl, hown, hbel⟩
/-- the key of a row -/
def keyOf (zs : List E) : ByteArray := ⟨(keyL zs).toArray⟩
theorem trim_key {zs : List E} (h : ok zs = true) : (⟨(Lib.trimSuffix (put zs).data.toList [125]).toArray⟩ : ByteArray) = keyOf zs := by
  have e : (put zs).data.toList = keyL zs ++ [125] := by
    unfold put
    rw [if_pos h]
    unfold wrap keyL
    rw [of_toList]
    unfold parts
    rw [show List.map partOf zs = zs.map (fun x => x.1 ++ ⟨#[61]⟩ ++ x.2) from rfl, join_body]
  unfold keyOf
  rw [e]
  congr 2
  simp [Lib.trimSuffix, Lib.hasSuffix]
end Go.Proofs.YtkmoekbicbjdmaaDoor.Lab
