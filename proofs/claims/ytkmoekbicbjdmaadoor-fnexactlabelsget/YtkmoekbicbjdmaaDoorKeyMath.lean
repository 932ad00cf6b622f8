/- The text of labels without its last bracket: such texts are ordered as the labels are. No condition but that labels are ok. -/
import Derived.Test.YtkmoekbicbjdmaaDoorCmpOrd
import Derived.Test.YtkmoekbicbjdmaaDoorPutMath
namespace Go.Proofs.YtkmoekbicbjdmaaDoor.Lab
open Go.RowKit Rw
/-- nothing, or a byte below the letters ahead -/
def Sep (s : List UInt8) : Prop := s = [] ∨ ∃ c r, s = c :: r ∧ c.toNat < 97
def letL (l : List UInt8) : Prop := ∀ c ∈ l, 97 ≤ c.toNat
theorem less_cons (a b : UInt8) (x y : List UInt8) : Op.bytesLess (a :: x) (b :: y) = (decide (a < b) || (a == b && Op.bytesLess x y)) := rfl
theorem less_nil (x : List UInt8) : Op.bytesLess x [] = false := by cases x <;> rfl
theorem nil_less (b : UInt8) (y : List UInt8) : Op.bytesLess [] (b :: y) = true := rfl
/-- letters ahead of what is no letter: the letters decide, and where they are the same what is behind -/
theorem less_sep : ∀ (x y s t : List UInt8), letL x → letL y → Sep s → Sep t → Op.bytesLess (x ++ s) (y ++ t) = if x = y then Op.bytesLess s t else Op.bytesLess x y
  | [], [], s, t, _, _, _, _ => by simp
  | [], b :: y, s, t, _, hy, hs, _ => by
    rw [if_neg (by simp), nil_less, List.nil_append, List.cons_append]
    rcases hs with rfl | ⟨c, r, rfl, hc⟩
    · rfl
    · have hb := hy b (List.mem_cons_self ..)
      rw [less_cons]
      have : decide (c < b) = true := decide_eq_true (u8_lt.2 (by omega))
      rw [this]; rfl
  | a :: x, [], s, t, hx, _, _, ht => by
    rw [if_neg (by simp), less_nil, List.nil_append, List.cons_append]
    rcases ht with rfl | ⟨c, r, rfl, hc⟩
    · exact less_nil _
    · have ha := hx a (List.mem_cons_self ..)
      rw [less_cons]
      have h1 : decide (a < c) = false := decide_eq_false (fun h => by have := u8_lt.1 h; omega)
      have h2 : (a == c) = false := by
        apply beq_eq_false_iff_ne.2
        intro e
        rw [e] at ha
        omega
      rw [h1, h2]; rfl
  | a :: x, b :: y, s, t, hx, hy, hs, ht => by
    have ih := less_sep x y s t (fun c hc => hx c (List.mem_cons_of_mem _ hc)) (fun c hc => hy c (List.mem_cons_of_mem _ hc)) hs ht
    rw [List.cons_append, List.cons_append, less_cons, ih]
    by_cases e : a = b
    · subst e
      have h0 : decide (a < a) = false := decide_eq_false (fun h => by have := u8_lt.1 h; omega)
      rw [h0, beq_self_eq_true]
      by_cases e2 : x = y
      · subst e2; simp
      · rw [if_neg e2, if_neg (by simp [e2]), less_cons, h0, beq_self_eq_true]
    · rw [if_neg (show ¬ (a :: x = b :: y) from fun h => e (List.cons.inj h).1), less_cons]
      have h2 : (a == b) = false := beq_eq_false_iff_ne.2 e
      rw [h2, Bool.false_and, Bool.false_and]
/-- labels as bytes, one behind the other -/
def tailB : List E → List UInt8
  | [] => []
  | x :: zs => 44 :: (x.1.data.toList ++ (61 :: (x.2.data.toList ++ tailB zs)))
def bodyB : List E → List UInt8
  | [] => []
  | x :: zs => x.1.data.toList ++ (61 :: (x.2.data.toList ++ tailB zs))
theorem sep_tail (zs : List E) : Sep (tailB zs) := by
  cases zs with
  | nil => exact .inl rfl
  | cons x zs => exact .inr ⟨44, _, rfl, by decide⟩
theorem sep_eq (l : List UInt8) : Sep (61 :: l) := .inr ⟨61, _, rfl, by decide⟩
def lettered (zs : List E) : Prop := ∀ x ∈ zs, letL x.1.data.toList ∧ letL x.2.data.toList
theorem eq_iff_data {a b : ByteArray} : a.data.toList = b.data.toList ↔ a = b := ⟨fun h => Go.WideShapes.bytes_inj h, fun h => by rw [h]⟩
theorem less_iff (a b : ByteArray) : (Op.bytesLess a.data.toList b.data.toList = true) ↔ cmpS a b = -1 := by
  unfold cmpS
  rw [cmp_less]
  by_cases h : Op.bytesLess a.data.toList b.data.toList = true
  · simp [h]
  · rw [if_neg h]
    refine ⟨fun h' => absurd h' h, fun h' => ?_⟩
    split at h' <;> omega
theorem body_cons (x y : E) (a b : List E) (hx : letL x.1.data.toList ∧ letL x.2.data.toList) (hy : letL y.1.data.toList ∧ letL y.2.data.toList) :
    Op.bytesLess (bodyB (x :: a)) (bodyB (y :: b)) = if x.1 = y.1 then (if x.2 = y.2 then Op.bytesLess (tailB a) (tailB b) else Op.bytesLess x.2.data.toList y.2.data.toList) else Op.bytesLess x.1.data.toList y.1.data.toList := by
  show Op.bytesLess (x.1.data.toList ++ (61 :: (x.2.data.toList ++ tailB a))) (y.1.data.toList ++ (61 :: (y.2.data.toList ++ tailB b))) = _
  rw [less_sep _ _ _ _ hx.1 hy.1 (sep_eq _) (sep_eq _)]
  by_cases e : x.1 = y.1
  · rw [if_pos (by rw [e]), if_pos e, less_cons]
    have h0 : decide ((61 : UInt8) < 61) = false := by decide
    rw [h0, beq_self_eq_true, less_sep _ _ _ _ hx.2 hy.2 (sep_tail a) (sep_tail b)]
    by_cases e2 : x.2 = y.2
    · rw [if_pos (by rw [e2]), if_pos e2]; simp
    · rw [if_neg (fun h => e2 (eq_iff_data.1 h)), if_neg e2]; simp
  · rw [if_neg (fun h => e (eq_iff_data.1 h)), if_neg e]
theorem tail_cons (x y : E) (a b : List E) : Op.bytesLess (tailB (x :: a)) (tailB (y :: b)) = Op.bytesLess (bodyB (x :: a)) (bodyB (y :: b)) := by
  show Op.bytesLess (44 :: _) (44 :: _) = _
  rw [less_cons]
  have h0 : decide ((44 : UInt8) < 44) = false := by decide
  rw [h0, beq_self_eq_true]
  simp [bodyB]
theorem body_cmp (x y : E) (a b : List E) (hx : letL x.1.data.toList ∧ letL x.2.data.toList) (hy : letL y.1.data.toList ∧ letL y.2.data.toList) (ht : Op.bytesLess (tailB a) (tailB b) = true ↔ cmpL a b = -1) :
    Op.bytesLess (bodyB (x :: a)) (bodyB (y :: b)) = true ↔ cmpL (x :: a) (y :: b) = -1 := by
  rw [body_cons x y a b hx hy]
  show _ ↔ (if cmpE x y ≠ 0 then cmpE x y else cmpL a b) = -1
  by_cases e : x.1 = y.1
  · have e0 : cmpS x.1 y.1 = 0 := by rw [e]; exact ordS.self _
    rw [if_pos e]
    have ee : cmpE x y = cmpS x.2 y.2 := by unfold cmpE; rw [if_neg (by simp [e0])]
    by_cases e2 : x.2 = y.2
    · have e3 : cmpS x.2 y.2 = 0 := by rw [e2]; exact ordS.self _
      rw [if_pos e2, ee, e3, if_neg (by simp)]
      exact ht
    · have e3 : cmpS x.2 y.2 ≠ 0 := fun h => e2 (ordS.zero _ _ h)
      rw [if_neg e2, ee, if_pos e3]
      exact less_iff _ _
  · have e0 : cmpS x.1 y.1 ≠ 0 := fun h => e (ordS.zero _ _ h)
    have ee : cmpE x y = cmpS x.1 y.1 := by unfold cmpE; rw [if_pos e0]
    rw [if_neg e, ee, if_pos e0]
    exact less_iff _ _
theorem tail_cmp : ∀ a b : List E, lettered a → lettered b → (Op.bytesLess (tailB a) (tailB b) = true ↔ cmpL a b = -1)
  | [], [], _, _ => by simp [tailB, cmpL, less_nil]
  | [], y :: b, _, _ => by simp [tailB, cmpL, nil_less]
  | x :: a, [], _, _ => by simp [tailB, cmpL, less_nil]
  | x :: a, y :: b, ha, hb => by
    rw [tail_cons]
    exact body_cmp x y a b (ha x (List.mem_cons_self ..)) (hb y (List.mem_cons_self ..)) (tail_cmp a b (fun z hz => ha z (List.mem_cons_of_mem _ hz)) (fun z hz => hb z (List.mem_cons_of_mem _ hz)))
def keyL (zs : List E) : List UInt8 := 123 :: bodyB zs
/-- keys are ordered as labels are -/
theorem key_cmp : ∀ a b : List E, lettered a → lettered b → a ≠ [] → b ≠ [] → (Op.bytesLess (keyL a) (keyL b) = true ↔ cmpL a b = -1)
  | [], _, _, _, h, _ => absurd rfl h
  | x :: a, [], _, _, _, h => absurd rfl h
  | x :: a, y :: b, ha, hb, _, _ => by
    have h0 : decide ((123 : UInt8) < 123) = false := by decide
    unfold keyL
    rw [less_cons, h0, beq_self_eq_true]
    simp only [Bool.false_or, Bool.true_and]
    exact body_cmp x y a b (ha x (List.mem_cons_self ..)) (hb y (List.mem_cons_self ..)) (tail_cmp a b (fun z hz => ha z (List.mem_cons_of_mem _ hz)) (fun z hz => hb z (List.mem_cons_of_mem _ hz)))
theorem letters_letL {s : ByteArray} (h : letters s = true) : letL s.data.toList := by
  intro c hc
  have := List.all_eq_true.1 h c hc
  unfold letter at this
  simp only [Bool.and_eq_true, decide_eq_true_eq] at this
  exact this.1
theorem ok_lettered {zs : List E} (h : ok zs = true) : lettered zs ∧ zs ≠ [] := by
  unfold ok at h
  simp only [Bool.and_eq_true, decide_eq_true_eq] at h
  refine ⟨fun x hx => ?_, fun e => by rw [e] at h; simp at h⟩
  obtain ⟨k, hk, rfl⟩ := List.getElem_of_mem hx
  have hs := List.all_eq_true.1 (show (List.range zs.length).all (stepOk zs) = true from h.2) k (List.mem_range.2 hk)
  unfold stepOk nameB wordB at hs
  simp only [Bool.and_eq_true, at_get zs k hk] at hs
  exact ⟨letters_letL hs.1.1.1.2, letters_letL hs.1.1.2.2⟩
/-- the key as it comes of the parts -/
theorem join_body : ∀ zs : List E, PutMath.joinB (zs.map fun x => x.1 ++ ⟨#[61]⟩ ++ x.2) = bodyB zs
  | [] => rfl
  | x :: zs => by
    have ht : ∀ l : List E, Lib.joinTail [44] ((l.map fun x => x.1 ++ ⟨#[61]⟩ ++ x.2).map (·.data.toList)) = tailB l := by
      intro l
      induction l with
      | nil => rfl
      | cons y l ih =>
        have e : Lib.joinTail [44] (((y :: l).map fun x => x.1 ++ ⟨#[61]⟩ ++ x.2).map (·.data.toList)) = [44] ++ (y.1 ++ ⟨#[61]⟩ ++ y.2 : ByteArray).data.toList ++ Lib.joinTail [44] ((l.map fun x => x.1 ++ ⟨#[61]⟩ ++ x.2).map (·.data.toList)) := by simp [Lib.joinTail]
        rw [e, ih, PutMath.app_toList, PutMath.app_toList]
        simp [tailB]
    unfold PutMath.joinB
    rw [List.map_cons, List.map_cons, Lib.join_cons, ht, PutMath.app_toList, PutMath.app_toList]
    simp [bodyB]
end Go.Proofs.YtkmoekbicbjdmaaDoor.Lab
