/- My own texts of one claim, laid together by program: KeyMath, RowKey, LabGet, LetMath. -/
import Derived.Test.YtkmoekbicbjdmaaDoorG6d921683cd
import Derived.Test.YtkmoekbicbjdmaaDoorG5c89d1a104
import Derived.Test.YtkmoekbicbjdmaaDoorGc96daf04d6
import Derived.Test.YtkmoekbicbjdmaaDoorG0ae6cab466
import Derived.Test.YtkmoekbicbjdmaaDoorG2ede2d924a
import Derived.Test.YtkmoekbicbjdmaaDoorShelf
import Derived.WalkSmall
import Derived.Test.YtkmoekbicbjdmaaDoorG4d6b791a7c
import Derived.Lib.Strings
/- The text of labels without its last bracket: such texts are ordered as the labels are. No condition but that labels are ok. -/
namespace Go.Proofs.YtkmoekbicbjdmaaDoor.Lab
open Go.RowKit Rw
/-- nothing, or a byte below the letters ahead -/
def Sep (s : List UInt8) : Prop := s = [] ∨ ∃ c r, s = c :: r ∧ c.toNat < 97
def letL (l : List UInt8) : Prop := ∀ c ∈ l, 97 ≤ c.toNat
theorem less_cons (a b : UInt8) (x y : List UInt8) : Op.bytesLess (a :: x) (b :: y) = (decide (a < b) || (a == b && Op.bytesLess x y)) := rfl
theorem less_nil (x : List UInt8) : Op.bytesLess x [] = false := by cases x <;> rfl
theorem nil_less (b : UInt8) (y : List UInt8) : Op.bytesLess [] (b :: y) = true := rfl
/-- letters ahead of what is no letter: the letters decide, and where they are the same what is behind -/
theorem less_sep : ∀ (x y s t : List UInt8), letL x → letL y → Sep s → Sep t → Op.bytesLess (x ++ s) (y ++ t) = if x = y then Op.bytesLess s t else Op.bytesLess x y
  | [], [], s, t, _, _, _, _ => by simp
  | [], b :: y, s, t, _, hy, hs, _ => by
    rw [if_neg (by simp), nil_less, List.nil_append, List.cons_append]
    rcases hs with rfl | ⟨c, r, rfl, hc⟩
    · rfl
    · have hb := hy b (List.mem_cons_self ..)
      rw [less_cons]
      have : decide (c < b) = true := decide_eq_true (u8_lt.2 (by omega))
      rw [this]; rfl
  | a :: x, [], s, t, hx, _, _, ht => by
    rw [if_neg (by simp), less_nil, List.nil_append, List.cons_append]
    rcases ht with rfl | ⟨c, r, rfl, hc⟩
    · exact less_nil _
    · have ha := hx a (List.mem_cons_self ..)
      rw [less_cons]
      have h1 : decide (a < c) = false := decide_eq_false (fun h => by have := u8_lt.1 h; omega)
      have h2 : (a == c) = false := by
        apply beq_eq_false_iff_ne.2
        intro e
        rw [e] at ha
        omega
      rw [h1, h2]; rfl
  | a :: x, b :: y, s, t, hx, hy, hs, ht => by
    have ih := less_sep x y s t (fun c hc => hx c (List.mem_cons_of_mem _ hc)) (fun c hc => hy c (List.mem_cons_of_mem _ hc)) hs ht
    rw [List.cons_append, List.cons_append, less_cons, ih]
    by_cases e : a = b
    · subst e
      have h0 : decide (a < a) = false := decide_eq_false (fun h => by have := u8_lt.1 h; omega)
      rw [h0, beq_self_eq_true]
      by_cases e2 : x = y
      · subst e2; simp
      · rw [if_neg e2, if_neg (by simp [e2]), less_cons, h0, beq_self_eq_true]
    · rw [if_neg (show ¬ (a :: x = b :: y) from fun h => e (List.cons.inj h).1), less_cons]
      have h2 : (a == b) = false := beq_eq_false_iff_ne.2 e
      rw [h2, Bool.false_and, Bool.false_and]
/-- labels as bytes, one behind the other -/
def tailB : List E → List UInt8
  | [] => []
  | x :: zs => 44 :: (x.1.data.toList ++ (61 :: (x.2.data.toList ++ tailB zs)))
def bodyB : List E → List UInt8
  | [] => []
  | x :: zs => x.1.data.toList ++ (61 :: (x.2.data.toList ++ tailB zs))
theorem sep_tail (zs : List E) : Sep (tailB zs) := by
  cases zs with
  | nil => exact .inl rfl
  | cons x zs => exact .inr ⟨44, _, rfl, by decide⟩
theorem sep_eq (l : List UInt8) : Sep (61 :: l) := .inr ⟨61, _, rfl, by decide⟩
def lettered (zs : List E) : Prop := ∀ x ∈ zs, letL x.1.data.toList ∧ letL x.2.data.toList
theorem eq_iff_data {a b : ByteArray} : a.data.toList = b.data.toList ↔ a = b := ⟨fun h => Go.WideShapes.bytes_inj h, fun h => by rw [h]⟩
theorem less_iff (a b : ByteArray) : (Op.bytesLess a.data.toList b.data.toList = true) ↔ cmpS a b = -1 := by
  unfold cmpS
  rw [cmp_less]
  by_cases h : Op.bytesLess a.data.toList b.data.toList = true
  · simp [h]
  · rw [if_neg h]
    refine ⟨fun h' => absurd h' h, fun h' => ?_⟩
    split at h' <;> omega
theorem body_cons (x y : E) (a b : List E) (hx : letL x.1.data.toList ∧ letL x.2.data.toList) (hy : letL y.1.data.toList ∧ letL y.2.data.toList) :
    Op.bytesLess (bodyB (x :: a)) (bodyB (y :: b)) = if x.1 = y.1 then (if x.2 = y.2 then Op.bytesLess (tailB a) (tailB b) else Op.bytesLess x.2.data.toList y.2.data.toList) else Op.bytesLess x.1.data.toList y.1.data.toList := by
  show Op.bytesLess (x.1.data.toList ++ (61 :: (x.2.data.toList ++ tailB a))) (y.1.data.toList ++ (61 :: (y.2.data.toList ++ tailB b))) = _
  rw [less_sep _ _ _ _ hx.1 hy.1 (sep_eq _) (sep_eq _)]
  by_cases e : x.1 = y.1
  · rw [if_pos (by rw [e]), if_pos e, less_cons]
    have h0 : decide ((61 : UInt8) < 61) = false := by decide
    rw [h0, beq_self_eq_true, less_sep _ _ _ _ hx.2 hy.2 (sep_tail a) (sep_tail b)]
    by_cases e2 : x.2 = y.2
    · rw [if_pos (by rw [e2]), if_pos e2]; simp
    · rw [if_neg (fun h => e2 (eq_iff_data.1 h)), if_neg e2]; simp
  · rw [if_neg (fun h => e (eq_iff_data.1 h)), if_neg e]
theorem tail_cons (x y : E) (a b : List E) : Op.bytesLess (tailB (x :: a)) (tailB (y :: b)) = Op.bytesLess (bodyB (x :: a)) (bodyB (y :: b)) := by
  show Op.bytesLess (44 :: _) (44 :: _) = _
  rw [less_cons]
  have h0 : decide ((44 : UInt8) < 44) = false := by decide
  rw [h0, beq_self_eq_true]
  simp [bodyB]
theorem body_cmp (x y : E) (a b : List E) (hx : letL x.1.data.toList ∧ letL x.2.data.toList) (hy : letL y.1.data.toList ∧ letL y.2.data.toList) (ht : Op.bytesLess (tailB a) (tailB b) = true ↔ cmpL a b = -1) :
    Op.bytesLess (bodyB (x :: a)) (bodyB (y :: b)) = true ↔ cmpL (x :: a) (y :: b) = -1 := by
  rw [body_cons x y a b hx hy]
  show _ ↔ (if cmpE x y ≠ 0 then cmpE x y else cmpL a b) = -1
  by_cases e : x.1 = y.1
  · have e0 : cmpS x.1 y.1 = 0 := by rw [e]; exact ordS.self _
    rw [if_pos e]
    have ee : cmpE x y = cmpS x.2 y.2 := by unfold cmpE; rw [if_neg (by simp [e0])]
    by_cases e2 : x.2 = y.2
    · have e3 : cmpS x.2 y.2 = 0 := by rw [e2]; exact ordS.self _
      rw [if_pos e2, ee, e3, if_neg (by simp)]
      exact ht
    · have e3 : cmpS x.2 y.2 ≠ 0 := fun h => e2 (ordS.zero _ _ h)
      rw [if_neg e2, ee, if_pos e3]
      exact less_iff _ _
  · have e0 : cmpS x.1 y.1 ≠ 0 := fun h => e (ordS.zero _ _ h)
    have ee : cmpE x y = cmpS x.1 y.1 := by unfold cmpE; rw [if_pos e0]
    rw [if_neg e, ee, if_pos e0]
    exact less_iff _ _
theorem tail_cmp : ∀ a b : List E, lettered a → lettered b → (Op.bytesLess (tailB a) (tailB b) = true ↔ cmpL a b = -1)
  | [], [], _, _ => by simp [tailB, cmpL, less_nil]
  | [], y :: b, _, _ => by simp [tailB, cmpL, nil_less]
  | x :: a, [], _, _ => by simp [tailB, cmpL, less_nil]
  | x :: a, y :: b, ha, hb => by
    rw [tail_cons]
    exact body_cmp x y a b (ha x (List.mem_cons_self ..)) (hb y (List.mem_cons_self ..)) (tail_cmp a b (fun z hz => ha z (List.mem_cons_of_mem _ hz)) (fun z hz => hb z (List.mem_cons_of_mem _ hz)))
def keyL (zs : List E) : List UInt8 := 123 :: bodyB zs
/-- keys are ordered as labels are -/
theorem key_cmp : ∀ a b : List E, lettered a → lettered b → a ≠ [] → b ≠ [] → (Op.bytesLess (keyL a) (keyL b) = true ↔ cmpL a b = -1)
  | [], _, _, _, h, _ => absurd rfl h
  | x :: a, [], _, _, _, h => absurd rfl h
  | x :: a, y :: b, ha, hb, _, _ => by
    have h0 : decide ((123 : UInt8) < 123) = false := by decide
    unfold keyL
    rw [less_cons, h0, beq_self_eq_true]
    simp only [Bool.false_or, Bool.true_and]
    exact body_cmp x y a b (ha x (List.mem_cons_self ..)) (hb y (List.mem_cons_self ..)) (tail_cmp a b (fun z hz => ha z (List.mem_cons_of_mem _ hz)) (fun z hz => hb z (List.mem_cons_of_mem _ hz)))
theorem letters_letL {s : ByteArray} (h : letters s = true) : letL s.data.toList := by
  intro c hc
  have := List.all_eq_true.1 h c hc
  unfold letter at this
  simp only [Bool.and_eq_true, decide_eq_true_eq] at this
  exact this.1
theorem ok_lettered {zs : List E} (h : ok zs = true) : lettered zs ∧ zs ≠ [] := by
  unfold ok at h
  simp only [Bool.and_eq_true, decide_eq_true_eq] at h
  refine ⟨fun x hx => ?_, fun e => by rw [e] at h; simp at h⟩
  obtain ⟨k, hk, rfl⟩ := List.getElem_of_mem hx
  have hs := List.all_eq_true.1 (show (List.range zs.length).all (stepOk zs) = true from h.2) k (List.mem_range.2 hk)
  unfold stepOk nameB wordB at hs
  simp only [Bool.and_eq_true, at_get zs k hk] at hs
  exact ⟨letters_letL hs.1.1.1.2, letters_letL hs.1.1.2.2⟩
/-- the key as it comes of the parts -/
theorem join_body : ∀ zs : List E, PutMath.joinB (zs.map fun x => x.1 ++ ⟨#[61]⟩ ++ x.2) = bodyB zs
  | [] => rfl
  | x :: zs => by
    have ht : ∀ l : List E, Lib.joinTail [44] ((l.map fun x => x.1 ++ ⟨#[61]⟩ ++ x.2).map (·.data.toList)) = tailB l := by
      intro l
      induction l with
      | nil => rfl
      | cons y l ih =>
        have e : Lib.joinTail [44] (((y :: l).map fun x => x.1 ++ ⟨#[61]⟩ ++ x.2).map (·.data.toList)) = [44] ++ (y.1 ++ ⟨#[61]⟩ ++ y.2 : ByteArray).data.toList ++ Lib.joinTail [44] ((l.map fun x => x.1 ++ ⟨#[61]⟩ ++ x.2).map (·.data.toList)) := by simp [Lib.joinTail]
        rw [e, ih, PutMath.app_toList, PutMath.app_toList]
        simp [tailB]
    unfold PutMath.joinB
    rw [List.map_cons, List.map_cons, Lib.join_cons, ht, PutMath.app_toList, PutMath.app_toList]
    simp [bodyB]
end Go.Proofs.YtkmoekbicbjdmaaDoor.Lab

/- A copy of labels, and the key of a row: the program's labelsCopy and rowKey. -/
namespace Go.Proofs.YtkmoekbicbjdmaaDoor.Lab
open Go.RowKit Rw PutMath
set_option linter.unusedVariables false
attribute [local go_sem ↓] Go.wp_at_zero Go.wp_at_succ
set_option maxRecDepth 100000 in
set_option maxHeartbeats 4000000 in
theorem copy_any {w : World} {v : Value} {zs : List E} (h : Is w v zs) (hsm : small zs) : Calls Tryd.prog 36 #[v] w fun e w' => ∃ r, e = .returned r ∧ w'.ownsRow w.heap.size 47 2 r zs.length (flat zs) ∧ Below w.heap.size w w' := by
  obtain ⟨i0, hi, hz0, hz1, hz2⟩ := info_parts info_e
  have hlen := hsm.1
  have hg := hsm.2
  obtain ⟨-, a, cap, rfl, hc, hm, -, hr⟩ := h
  unfold maxLen at hm
  obtain ⟨n, hn⟩ : ∃ n, n = zs.length := ⟨_, rfl⟩
  rw [← hn] at hc hr hlen ⊢
  have HN := hide hn
  have HG := hide hg
  clear hn hg
  go_enter Tryd.func36, Tryd.ntmps36
  go_wp2_with fail
  go_loopw [3, 8] (fun pv i wr => ∃ (k : Nat) (pa : Option Addr) (pc : Nat), k ≤ n ∧ i = .int .i64 k ∧ pv = .slice pa k pc ∧ wr.ownsRow w.heap.size 47 2 pv k (flat (zs.take k)) ∧ Below w.heap.size w wr) (fun _ i _ => n - (intOf i).toNat)
  case atStart => exact ⟨0, none, 0, Nat.zero_le _, rfl, rfl, World.ownsRow_nil _ _ _ _, Below.refl _ _⟩
  case round =>
    obtain ⟨k, pa, pc, hk, rfl, rfl, hown, hbel⟩ := hrel
    have hsz := hbel.size
    have hk0 : (0 : Int) ≤ (k : Int) := Int.natCast_nonneg _
    by_cases hlt : k < n
    · obtain ⟨b, off, rfl, hl, hcells⟩ := hr (by omega)
      have fa := flat_at zs k (by have := unhide HN; omega)
      have gd := unhide HG (at' zs k) (by rw [at_get zs k (by have := unhide HN; omega)]; exact List.getElem_mem _)
      have HPS := hide (show flat (zs.take (k + 1)) = flat (zs.take k) ++ fl (at' zs k) by rw [at_snoc zs k (by have := unhide HN; omega)]; unfold flat; rw [flatOf_append, flatOf_one])
      obtain ⟨A, B, hX⟩ : ∃ A B, (A, B) = at' zs k := ⟨_, _, rfl⟩
      rw [← hX] at fa gd HPS
      simp only at gd
      simp only [fl] at HPS
      have hc0 : wr.cell? ⟨b, off + k * 2, none⟩ = some (.string A) := (hbel.cell (p := ⟨b, _, none⟩) hl).trans (hcells (k * 2) _ fa.1)
      have hc1 : wr.cell? ⟨b, off + k * 2 + 1, none⟩ = some (.string B) := (hbel.cell (p := ⟨b, _, none⟩) hl).trans (hcells (k * 2 + 1) _ fa.2)
      have HA := hide (fun W => Str.clone_any A W (by omega))
      have HB := hide (fun W => Str.clone_any B W (by omega))
      clear hX fa gd
      have hk1 : (k : Int) < (n : Int) := by omega
      have hmx : 1 ≤ maxLen := by unfold maxLen; omega
      obtain ⟨W, hW⟩ : ∃ W, W = wr.alloc (.cells #[.string A, .string B] 47) := ⟨_, rfl⟩
      have bW : Below wr.heap.size wr W := by rw [hW]; exact (Below.refl _ _).alloc (Nat.le_refl _) _
      have zW : wr.heap.size < W.heap.size := by rw [hW]; simp
      have S6 : (fun w' : World => w'.cell? ⟨wr.heap.size, 0, none⟩ = some (.string A) ∧ w'.cell? ⟨wr.heap.size, 1, none⟩ = some (.string B)) W.drew := by rw [hW]; exact ⟨by simp, by simp⟩
      have oW : W.drew.ownsRow w.heap.size 47 2 (.slice pa k pc) k (flat (zs.take k)) := World.ownsRow.drew (own_below hown bW)
      have hbW : Below w.heap.size w W.drew := (hbel.trans (bW.mono hsz)).drew
      have hob := fun e => Nat.lt_irrefl _ (own_block_lt hown wr.heap.size (Eq.symm e))
      clear bW
      go_wp2_with fail
      rw [← hW]
      clear hW
      go_region_held3 (fun w' => w'.cell? ⟨wr.heap.size, 0, none⟩ = some (.string A) ∧ w'.cell? ⟨wr.heap.size, 1, none⟩ = some (.string B)) (first | exact S6 | exact S7 | exact S8 | exact S9 _ | exact S10) ((first | (go_at_call_of 65 A; refine (unhide HA _).mono ?_; rintro e w7 ⟨rfl, b7⟩; have z7 := b7.size; simp only [World.size_drew] at z7; have S7 : (fun w' : World => w'.cell? ⟨wr.heap.size, 0, none⟩ = some (.string A) ∧ w'.cell? ⟨wr.heap.size, 1, none⟩ = some (.string B)) w7 := ⟨(b7.cell (p := ⟨_, _, none⟩) (by first | (simp; done) | (simp; omega) | omega)).trans S6.1, (b7.cell (p := ⟨_, _, none⟩) (by first | (simp; done) | (simp; omega) | omega)).trans S6.2⟩) | (go_at_call_of 65 B; refine (unhide HB _).mono ?_; rintro e w8 ⟨rfl, b8⟩; have z8 := b8.size; have S8 : (fun w' : World => w'.cell? ⟨wr.heap.size, 0, none⟩ = some (.string A) ∧ w'.cell? ⟨wr.heap.size, 1, none⟩ = some (.string B)) w8 := ⟨(b8.cell (p := ⟨_, _, none⟩) (by first | (simp; done) | (simp; omega) | omega)).trans S7.1, (b8.cell (p := ⟨_, _, none⟩) (by first | (simp; done) | (simp; omega) | omega)).trans S7.2⟩; have S9 : ∀ o, (fun w' : World => w'.cell? ⟨wr.heap.size, 0, none⟩ = some (.string A) ∧ w'.cell? ⟨wr.heap.size, 1, none⟩ = some (.string B)) (w8.alloc o) := fun o => ⟨(((Below.refl _ _).alloc (Nat.le_refl _) _).cell (p := ⟨_, _, none⟩) (by first | (simp; done) | (simp; omega) | omega)).trans S8.1, (((Below.refl _ _).alloc (Nat.le_refl _) _).cell (p := ⟨_, _, none⟩) (by first | (simp; done) | (simp; omega) | omega)).trans S8.2⟩) | (refine app_step _ (by rfl) _ _ _ (by rfl) w.heap.size 47 i0 _ 2 32 Tryd.underlying23 hi hz0 hz1 hz2 rfl (by omega) _ k _ (by rfl) (World.ownsRow.alloc (own_below (own_below oW b7) b8) _) _ 1 [.string A, .string B] (by rfl) (lies_new (w := w8) (by simp) rfl hmx) (by simp [Value.oneCell']) (by unfold maxLen; omega) (by omega) (by simp <;> omega) ?_; intro vn wn on gn an; have S10 : (fun w' : World => w'.cell? ⟨wr.heap.size, 0, none⟩ = some (.string A) ∧ w'.cell? ⟨wr.heap.size, 1, none⟩ = some (.string B)) wn := ⟨by rw [gn.cell_far _ (by simp <;> omega) hob]; exact (S9 _).1, by rw [gn.cell_far _ (by simp <;> omega) hob]; exact (S9 _).2⟩)))
      have hb8 : Below w.heap.size w w8 := (hbW.trans (b7.mono hbW.size)).trans (b8.mono (by omega))
      have R9 : Below w.heap.size w wn := below_grown (hb8.alloc (by omega) _) (by simp <;> omega) gn (own_ge hown)
      have R2 := hide (show wn.ownsRow w.heap.size 47 2 vn (k + 1) (flat (zs.take (k + 1))) by rw [unhide HPS]; exact on)
      obtain ⟨an', cn, hvn⟩ : ∃ a c, vn = .slice a (k + 1) c := by obtain ⟨-, a, c, e, -⟩ := lies_of_own on; exact ⟨a, c, e⟩
      have HV := hide hvn
      clear on gn an hown hvn hob S6 S7 S8 S9 S10 oW hbW b7 b8 hb8
      go_wp2_with fail
      go_roundw
      case rel => exact ⟨k + 1, an', cn, by omega, by go_num, unhide HV, unhide R2, R9⟩
      case measure => simp [intOf]; omega
    · obtain rfl : k = n := by omega
      rw [List.take_of_length_le (by have := unhide HN; omega)] at hown
      go_wp2
      go_ret
      exact ⟨_, rfl, hown, hbel⟩
/-- the key of a row -/
def keyOf (zs : List E) : ByteArray := ⟨(keyL zs).toArray⟩
theorem trim_key {zs : List E} (h : ok zs = true) : (⟨(Lib.trimSuffix (put zs).data.toList [125]).toArray⟩ : ByteArray) = keyOf zs := by
  have e : (put zs).data.toList = keyL zs ++ [125] := by
    unfold put
    rw [if_pos h]
    unfold wrap keyL
    rw [of_toList]
    unfold parts
    rw [show List.map partOf zs = zs.map (fun x => x.1 ++ ⟨#[61]⟩ ++ x.2) from rfl, join_body]
  unfold keyOf
  rw [e]
  congr 2
  simp [Lib.trimSuffix, Lib.hasSuffix]
end Go.Proofs.YtkmoekbicbjdmaaDoor.Lab

/- LabelsGet of the program, at every text. What it asks: internal/bytealg.MaxLen holds some int, as in every world of a started program. -/
namespace Go.Proofs.YtkmoekbicbjdmaaDoor.Lab
open Go.RowKit Rw PutMath CutText
set_option linter.unusedVariables false
attribute [local go_sem ↓] Go.wp_at_zero Go.wp_at_succ
/-- the library's variable holds some int -/
def Mx (w : World) : Prop := ∃ m, w.cell? ⟨0, 0, none⟩ = some (.int .i64 m)
theorem Mx.below {w w' : World} (h : Mx w) (hb : Below w.heap.size w w') : Mx w' := by
  obtain ⟨m, h⟩ := h
  exact ⟨m, (hb.cell (p := ⟨0, 0, none⟩) (World.block_lt_of_cell? _ _ h)).trans h⟩
theorem split_cut (s : ByteArray) (b : UInt8) : Lib.splitB ⟨#[b]⟩ 0 (Lib.countB s ⟨#[b]⟩) s = cutB b s := by
  have h1 := Lib.splitB_data ⟨#[b]⟩ 0 (Lib.countB s ⟨#[b]⟩) s
  have h2 : (Lib.splitB ⟨#[b]⟩ 0 (Lib.countB s ⟨#[b]⟩) s).map (·.data.toList) = cutL b s.data.toList := h1.trans (split_eq b _ s.data.toList (Nat.le_refl _))
  unfold cutB
  rw [← h2, List.map_map]
  conv => lhs; rw [← List.map_id (Lib.splitB ⟨#[b]⟩ 0 (Lib.countB s ⟨#[b]⟩) s)]
  exact List.map_congr_left (fun p _ => (list_ofL p).symm)
theorem split_any (s : ByteArray) (b : UInt8) (w : World) (hs : s.size ≤ 4194304) (hm : Mx w) :
    Calls Tryd.prog 63 #[.string s, .string ⟨#[b]⟩] w fun e w' => ∃ v, e = .returned v ∧ w'.ownsRow w.heap.size 9 1 v (cutB b s).length (flatS (cutB b s)) ∧ Below w.heap.size w w' := by
  obtain ⟨m, hm⟩ := hm
  have hl := Lib.splitB_all ⟨#[b]⟩ (show 1 ≤ (⟨#[b]⟩ : ByteArray).size from Nat.le_refl 1) 0 _ s rfl
  have c := Tryd.strings_Split s ⟨#[b]⟩ m w (by omega) hm (Nat.le_refl 1)
  rw [split_cut] at c hl
  have hc : (cutB b s).length ≤ s.size + 1 := by unfold cutB; rw [List.length_map]; have := cutL_len b s.data.toList; have hl2 : s.data.toList.length = s.size := Array.length_toList; omega
  rw [← hl] at c
  refine c.mono fun e w' ⟨h1, h2⟩ => ⟨_, h1, ?_, ?_⟩
  · rw [h2]
    have := Draw.own_new (w := w) (cs := ((cutB b s).map Value.string).toArray) (t := 9) (n := (cutB b s).length) (size := 1) (base := w.heap.size) rfl (by simp) (by unfold maxLen; omega) (Nat.le_refl _)
    simpa [flatS] using this
  · rw [h2]; exact (Below.refl _ _).alloc (Nat.le_refl _) _
theorem suf_no {r : List UInt8} {c : UInt8} (h : ∀ m, r ≠ m ++ [c]) : Lib.hasSuffix r [c] = false := by
  cases e : Lib.hasSuffix r [c]
  · rfl
  · exfalso
    unfold Lib.hasSuffix at e
    rw [List.isSuffixOf_iff_suffix] at e
    obtain ⟨t, ht⟩ := e
    exact h t ht.symm
theorem pre_no {l : List UInt8} {o : UInt8} (h : ∀ r, l ≠ o :: r) : Lib.hasPrefix l [o] = false := by
  cases e : Lib.hasPrefix l [o]
  · rfl
  · exfalso
    unfold Lib.hasPrefix at e
    rw [List.isPrefixOf_iff_prefix] at e
    obtain ⟨t, ht⟩ := e
    exact h t ht.symm
theorem pre_yes (o : UInt8) (r : List UInt8) : Lib.hasPrefix (o :: r) [o] = true := by simp [Lib.hasPrefix]
theorem suf_yes (c : UInt8) (m : List UInt8) : Lib.hasSuffix (m ++ [c]) [c] = true := by simp [Lib.hasSuffix]
def piecesOf (m : List UInt8) : List ByteArray := if m = [] then [] else (cutL 44 m).map ofL
/-- what stands between two brackets -/
def Within (s : ByteArray) (o c : UInt8) (w : World) (e : Ending) (w' : World) : Prop :=
  ((∀ r, s.data.toList ≠ o :: r ++ [c]) ∧ e = .returned (.tuple #[.slice none 0 0, .bool false]) ∧ w' = w) ∨
  (∃ m v, s.data.toList = o :: m ++ [c] ∧ e = .returned (.tuple #[v, .bool true]) ∧ w'.ownsRow w.heap.size 9 1 v (piecesOf m).length (flatS (piecesOf m)) ∧ Below w.heap.size w w')
set_option maxRecDepth 100000 in
set_option maxHeartbeats 4000000 in
theorem within_any (s : ByteArray) (o c : UInt8) (w : World) (hs : s.size ≤ 4194304) (hm : Mx w) :
    Calls Tryd.prog 34 #[.string s, .string ⟨#[o]⟩, .string ⟨#[c]⟩] w (Within s o c w) := by
  have HP := hide (fun W => Tryd.strings_CutPrefix s ⟨#[o]⟩ W)
  have HC := hide (fun (t : ByteArray) (ht : t.size ≤ 4194304) W => Tryd.strings_CutSuffix t ⟨#[c]⟩ W (by omega))
  have HS := hide (fun (t : ByteArray) (ht : t.size ≤ 4194304) => split_any t 44 w ht hm)
  have eo : (⟨#[o]⟩ : ByteArray).data.toList = [o] := rfl
  have ec : (⟨#[c]⟩ : ByteArray).data.toList = [c] := rfl
  rw [eo] at HP
  rw [ec] at HC
  clear hm eo ec
  have hsl : s.data.toList.length = s.size := Array.length_toList
  by_cases h1 : ∃ r, s.data.toList = o :: r
  · obtain ⟨r, hr⟩ := h1
    have e1 : (⟨(Lib.trimPrefix s.data.toList [o]).toArray⟩ : ByteArray) = ofL r := by
      unfold Lib.trimPrefix
      rw [hr, pre_yes]; rfl
    have e2 : Lib.hasPrefix s.data.toList [o] = true := by rw [hr, pre_yes]
    rw [e1, e2] at HP
    have hrs : (ofL r).size ≤ 4194304 := by
      have : (ofL r).size = r.length := size_of r
      rw [hr] at hsl
      simp at hsl
      omega
    have HC1 := hide (unhide HC (ofL r) hrs)
    rw [ofL_list] at HC1
    by_cases h2 : ∃ m, r = m ++ [c]
    · obtain ⟨m, rfl⟩ := h2
      have e3 : (⟨(Lib.trimSuffix (m ++ [c]) [c]).toArray⟩ : ByteArray) = ofL m := by
        unfold Lib.trimSuffix
        rw [suf_yes]; simp [ofL]
      rw [e3, suf_yes] at HC1
      have hms : (ofL m).size ≤ 4194304 := by
        have h3 : (ofL m).size = m.length := size_of m
        have h4 : (ofL (m ++ [c])).size = (m ++ [c]).length := size_of _
        simp at h4
        omega
      have HW := hide hr
      have HS1 := hide (unhide HS (ofL m) hms)
      clear e1 e2 e3 hr hrs HC HS hms hsl hs
      by_cases h3 : m = []
      · subst h3
        have hz : ofL [] = ⟨#[]⟩ := rfl
        rw [hz] at HC1
        go_enter Tryd.func34, Tryd.ntmps34
        go_wp2_with fail
        refine (unhide HP _).mono ?_
        rintro e w1 ⟨rfl, rfl⟩
        go_wp2_with fail
        refine (unhide HC1 _).mono ?_
        rintro e w2 ⟨rfl, rfl⟩
        go_wp2_with fail
        go_ret2
        exact .inr ⟨[], _, unhide HW, rfl, World.ownsRow_nil _ _ _ _, Below.refl _ _⟩
      · have hz0 : (ofL m).size ≠ 0 := by
          have : (ofL m).size = m.length := size_of m
          intro e
          exact h3 (List.eq_nil_of_length_eq_zero (by omega))
        have he := fun W => eql_empty hz0 W
        have he2 := not_empty hz0
        have HQ := hide (show cutB 44 (ofL m) = piecesOf m by unfold piecesOf cutB; rw [if_neg h3, ofL_list]; rfl)
        rw [unhide HQ] at HS1
        obtain ⟨T, hT⟩ : ∃ T, T = ofL m := ⟨_, rfl⟩
        rw [← hT] at HC1 HS1 he he2
        clear hT hz0 h3 HQ
        go_enter Tryd.func34, Tryd.ntmps34
        go_wp2_with fail
        refine (unhide HP _).mono ?_
        rintro e w1 ⟨rfl, rfl⟩
        go_wp2_with fail
        refine (unhide HC1 _).mono ?_
        rintro e w2 ⟨rfl, rfl⟩
        go_wp2_with fail
        refine (unhide HS1).mono ?_
        rintro e w3 ⟨v, rfl, ov, b3⟩
        have OV := hide ov
        clear ov
        go_wp2_with fail
        go_ret2
        exact .inr ⟨m, _, unhide HW, rfl, unhide OV, b3⟩
    · have e3 : Lib.hasSuffix r [c] = false := suf_no (fun m e => h2 ⟨m, e⟩)
      rw [e3] at HC1
      have HN := hide (show ∀ q, s.data.toList ≠ o :: q ++ [c] from fun q e => h2 ⟨q, by rw [hr] at e; simpa using e⟩)
      generalize (⟨(Lib.trimSuffix r [c]).toArray⟩ : ByteArray) = T at HC1
      clear e1 e2 e3 hr hrs HC HS h2 hsl hs
      go_enter Tryd.func34, Tryd.ntmps34
      go_wp2_with fail
      refine (unhide HP _).mono ?_
      rintro e w1 ⟨rfl, rfl⟩
      go_wp2_with fail
      refine (unhide HC1 _).mono ?_
      rintro e w2 ⟨rfl, rfl⟩
      go_wp2_with fail
      go_ret2
      exact .inl ⟨unhide HN, rfl, rfl⟩
  · have e2 : Lib.hasPrefix s.data.toList [o] = false := pre_no (fun r e => h1 ⟨r, e⟩)
    have e1 : (⟨(Lib.trimPrefix s.data.toList [o]).toArray⟩ : ByteArray) = s := by
      unfold Lib.trimPrefix
      rw [e2]; exact list_ofL s
    rw [e1, e2] at HP
    have HN := hide (show ∀ q, s.data.toList ≠ o :: q ++ [c] from fun q e => h1 ⟨q ++ [c], by rw [e]; rfl⟩)
    have HC1 := hide (unhide HC s hs)
    generalize (⟨(Lib.trimSuffix s.data.toList [c]).toArray⟩ : ByteArray) = T at HC1
    generalize Lib.hasSuffix s.data.toList [c] = B at HC1
    clear e1 e2 HC HS h1 hsl hs
    go_enter Tryd.func34, Tryd.ntmps34
    go_wp2_with fail
    refine (unhide HP _).mono ?_
    rintro e w1 ⟨rfl, rfl⟩
    go_wp2_with fail
    refine (unhide HC1 _).mono ?_
    rintro e w2 ⟨rfl, rfl⟩
    go_wp2_with fail
    go_ret2
    exact .inl ⟨unhide HN, rfl, rfl⟩
end Go.Proofs.YtkmoekbicbjdmaaDoor.Lab

/- What a match lets, as plain mathematics. No condition. -/
namespace Go.Proofs.YtkmoekbicbjdmaaDoor.Mat
open Go.RowKit Rw
def sameS (a b : ByteArray) : Bool := a.toList == b.toList
theorem sameS_iff {a b : ByteArray} : sameS a b = true ↔ a = b := by
  unfold sameS
  rw [beq_iff_eq, ByteArray.toList_eq, ByteArray.toList_eq]
  exact ⟨Go.WideShapes.bytes_inj, fun h => by rw [h]⟩
theorem sameS_self (a : ByteArray) : sameS a a = true := sameS_iff.2 rfl
theorem sameS_no {a b : ByteArray} : sameS a b = false ↔ a ≠ b := by
  cases h : sameS a b
  · simp only [true_iff]; intro e; rw [sameS_iff.2 e] at h; cases h
  · simp only [Bool.true_eq_false, false_iff, Decidable.not_not]; exact sameS_iff.1 h
def wordOf (ls : List Lab.E) (nm : ByteArray) : ByteArray := ((ls.find? fun x => sameS x.1 nm).map (·.2)).getD ByteArray.empty
theorem find_none (ls : List Lab.E) (nm : ByteArray) (k : Nat) (hk : k < ls.length) (h : (ls.take k).find? (fun x => sameS x.1 nm) = none) (hx : sameS (Lab.at' ls k).1 nm = false) : (ls.take (k + 1)).find? (fun x => sameS x.1 nm) = none := by
  rw [Lab.at_snoc ls k hk, List.find?_append, h]
  simp [hx]
theorem word_hit (ls : List Lab.E) (nm : ByteArray) (k : Nat) (hk : k < ls.length) (h : (ls.take k).find? (fun x => sameS x.1 nm) = none) (hx : sameS (Lab.at' ls k).1 nm = true) : wordOf ls nm = (Lab.at' ls k).2 := by
  unfold wordOf
  have e : ls = ls.take k ++ (Lab.at' ls k :: ls.drop (k + 1)) := by
    rw [Lab.at_get ls k hk, ← List.drop_eq_getElem_cons hk, List.take_append_drop]
  rw [e, List.find?_append, h, List.find?_cons]
  have e2 : Lab.at' (ls.take k ++ (Lab.at' ls k :: ls.drop (k + 1))) k = Lab.at' ls k := by rw [← e]
  simp [hx, e2]
theorem word_miss (ls : List Lab.E) (nm : ByteArray) (h : ls.find? (fun x => sameS x.1 nm) = none) : wordOf ls nm = ByteArray.empty := by unfold wordOf; rw [h]; rfl
theorem wordOf_size {ls : List Lab.E} (hg : ∀ x ∈ ls, Lab.good x) (nm : ByteArray) : (wordOf ls nm).size ≤ maxLen := by
  unfold wordOf
  cases h : ls.find? fun x => sameS x.1 nm with
  | none => simp
  | some x => exact (hg x (List.mem_of_find?_eq_some h)).2
def prefB (w p : ByteArray) : Bool := Lib.hasPrefix w.data.toList p.data.toList
def letB (m : E) (ls : List Lab.E) : Bool :=
  if m.1 = 1 then sameS (wordOf ls m.2.1) m.2.2 else if m.1 = 2 then !sameS (wordOf ls m.2.1) m.2.2 else if m.1 = 3 then prefB (wordOf ls m.2.1) m.2.2 else !prefB (wordOf ls m.2.1) m.2.2
def letsTo (zs : List E) (ls : List Lab.E) (k : Nat) : Bool := (zs.take k).all fun m => letB m ls
def lets (zs : List E) (ls : List Lab.E) : Bool := zs.all fun m => letB m ls
theorem letsTo_succ (zs : List E) (ls : List Lab.E) (k : Nat) (h : k < zs.length) : letsTo zs ls (k + 1) = (letsTo zs ls k && letB (at' zs k) ls) := by
  unfold letsTo; rw [at_snoc zs k h, List.all_append]; simp
theorem lets_no (zs : List E) (ls : List Lab.E) (k : Nat) (h : k < zs.length) (hb : letB (at' zs k) ls = false) : lets zs ls = false := by
  unfold lets; rw [List.all_eq_false]
  exact ⟨at' zs k, by rw [at_get zs k h]; exact List.getElem_mem _, by simp [hb]⟩
theorem lets_all (zs : List E) (ls : List Lab.E) (h : letsTo zs ls zs.length = true) : lets zs ls = true := by
  unfold letsTo at h; rwa [List.take_of_length_le (Nat.le_refl _)] at h
/-- what MatchesLet answers -/
def mlet (zs : List E) (ls : List Lab.E) : Bool := ok zs && Lab.ok ls && lets zs ls
theorem ok_kind {zs : List E} (h : ok zs = true) {k : Nat} (hk : k < zs.length) : 1 ≤ (at' zs k).1 ∧ (at' zs k).1 ≤ 4 := by
  unfold ok at h; rw [Bool.and_eq_true] at h
  have := h.1; unfold okTo at this
  have := List.all_eq_true.1 this k (List.mem_range.2 hk)
  unfold stepOk at this
  simp only [Bool.and_eq_true, decide_eq_true_eq] at this
  exact ⟨this.1.1.1, this.1.1.2⟩
/-- the model's own way to ask for a beginning -/
theorem prefB_eq (w p : ByteArray) : prefB w p = (decide (p.size ≤ w.size) && sameS (w.extract 0 p.size) p) := by
  have hw : w.data.toList.length = w.size := Array.length_toList
  have hp : p.data.toList.length = p.size := Array.length_toList
  unfold prefB Lib.hasPrefix
  rw [Bool.eq_iff_iff, Bool.and_eq_true, decide_eq_true_eq, sameS_iff]
  have ex : (w.extract 0 p.size).data.toList = w.data.toList.take p.size := by simp [ByteArray.data_extract]
  constructor
  · intro h
    have h := List.isPrefixOf_iff_prefix.1 h
    obtain ⟨t, ht⟩ := h
    have hl := congrArg List.length ht
    rw [List.length_append] at hl
    refine ⟨by omega, Go.WideShapes.bytes_inj ?_⟩
    rw [ex, ← ht, ← hp, List.take_left]
  · rintro ⟨h1, h2⟩
    refine List.isPrefixOf_iff_prefix.2 ⟨w.data.toList.drop p.size, ?_⟩
    have := congrArg (fun x : ByteArray => x.data.toList) h2
    simp only [ex] at this
    rw [← this, List.take_append_drop]
end Go.Proofs.YtkmoekbicbjdmaaDoor.Mat
