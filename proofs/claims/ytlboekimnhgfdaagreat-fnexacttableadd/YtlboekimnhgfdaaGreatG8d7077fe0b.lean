/- My own texts of one claim, laid together by program: KeyMath, RowKey, SMap, SampLaw. -/
import Derived.Test.YtlboekimnhgfdaaGreatG41a3f3c89c
import Derived.Test.YtlboekimnhgfdaaGreatGe77bb4e215
import Derived.Test.YtlboekimnhgfdaaGreatG4cfdd5d5f1
import Derived.Test.YtlboekimnhgfdaaGreatGb649170687
import Derived.Test.YtlboekimnhgfdaaGreatG5987eed685
import Derived.Maps.OwnSet
/- The text of labels without its last bracket: such texts are ordered as the labels are. No condition but that labels are ok. -/
namespace Go.Proofs.YtlboekimnhgfdaaGreat.Lab
open Go.RowKit Rw
/-- nothing, or a byte below the letters ahead -/
def Sep (s : List UInt8) : Prop := s = [] ∨ ∃ c r, s = c :: r ∧ c.toNat < 97
def letL (l : List UInt8) : Prop := ∀ c ∈ l, 97 ≤ c.toNat
theorem less_cons (a b : UInt8) (x y : List UInt8) : Op.bytesLess (a :: x) (b :: y) = (decide (a < b) || (a == b && Op.bytesLess x y)) := rfl
theorem less_nil (x : List UInt8) : Op.bytesLess x [] = false := by cases x <;> rfl
theorem nil_less (b : UInt8) (y : List UInt8) : Op.bytesLess [] (b :: y) = true := rfl
/-- letters ahead of what is no letter: the letters decide, and where they are the same what is behind -/
theorem less_sep : ∀ (x y s t : List UInt8), letL x → letL y → Sep s → Sep t → Op.bytesLess (x ++ s) (y ++ t) = if x = y then Op.bytesLess s t else Op.bytesLess x y
  | [], [], s, t, _, _, _, _ => by simp
  | [], b :: y, s, t, _, hy, hs, _ => by
    rw [if_neg (by simp), nil_less, List.nil_append, List.cons_append]
    rcases hs with rfl | ⟨c, r, rfl, hc⟩
    · rfl
    · have hb := hy b (List.mem_cons_self ..)
      rw [less_cons]
      have : decide (c < b) = true := decide_eq_true (u8_lt.2 (by omega))
      rw [this]; rfl
  | a :: x, [], s, t, hx, _, _, ht => by
    rw [if_neg (by simp), less_nil, List.nil_append, List.cons_append]
    rcases ht with rfl | ⟨c, r, rfl, hc⟩
    · exact less_nil _
    · have ha := hx a (List.mem_cons_self ..)
      rw [less_cons]
      have h1 : decide (a < c) = false := decide_eq_false (fun h => by have := u8_lt.1 h; omega)
      have h2 : (a == c) = false := by
        apply beq_eq_false_iff_ne.2
        intro e
        rw [e] at ha
        omega
      rw [h1, h2]; rfl
  | a :: x, b :: y, s, t, hx, hy, hs, ht => by
    have ih := less_sep x y s t (fun c hc => hx c (List.mem_cons_of_mem _ hc)) (fun c hc => hy c (List.mem_cons_of_mem _ hc)) hs ht
    rw [List.cons_append, List.cons_append, less_cons, ih]
    by_cases e : a = b
    · subst e
      have h0 : decide (a < a) = false := decide_eq_false (fun h => by have := u8_lt.1 h; omega)
      rw [h0, beq_self_eq_true]
      by_cases e2 : x = y
      · subst e2; simp
      · rw [if_neg e2, if_neg (by simp [e2]), less_cons, h0, beq_self_eq_true]
    · rw [if_neg (show ¬ (a :: x = b :: y) from fun h => e (List.cons.inj h).1), less_cons]
      have h2 : (a == b) = false := beq_eq_false_iff_ne.2 e
      rw [h2, Bool.false_and, Bool.false_and]
/-- labels as bytes, one behind the other -/
def tailB : List E → List UInt8
  | [] => []
  | x :: zs => 44 :: (x.1.data.toList ++ (61 :: (x.2.data.toList ++ tailB zs)))
def bodyB : List E → List UInt8
  | [] => []
  | x :: zs => x.1.data.toList ++ (61 :: (x.2.data.toList ++ tailB zs))
theorem sep_tail (zs : List E) : Sep (tailB zs) := by
  cases zs with
  | nil => exact .inl rfl
  | cons x zs => exact .inr ⟨44, _, rfl, by decide⟩
theorem sep_eq (l : List UInt8) : Sep (61 :: l) := .inr ⟨61, _, rfl, by decide⟩
def lettered (zs : List E) : Prop := ∀ x ∈ zs, letL x.1.data.toList ∧ letL x.2.data.toList
theorem eq_iff_data {a b : ByteArray} : a.data.toList = b.data.toList ↔ a = b := ⟨fun h => Go.WideShapes.bytes_inj h, fun h => by rw [h]⟩
theorem less_iff (a b : ByteArray) : (Op.bytesLess a.data.toList b.data.toList = true) ↔ cmpS a b = -1 := by
  unfold cmpS
  rw [cmp_less]
  by_cases h : Op.bytesLess a.data.toList b.data.toList = true
  · simp [h]
  · rw [if_neg h]
    refine ⟨fun h' => absurd h' h, fun h' => ?_⟩
    split at h' <;> omega
theorem body_cons (x y : E) (a b : List E) (hx : letL x.1.data.toList ∧ letL x.2.data.toList) (hy : letL y.1.data.toList ∧ letL y.2.data.toList) :
    Op.bytesLess (bodyB (x :: a)) (bodyB (y :: b)) = if x.1 = y.1 then (if x.2 = y.2 then Op.bytesLess (tailB a) (tailB b) else Op.bytesLess x.2.data.toList y.2.data.toList) else Op.bytesLess x.1.data.toList y.1.data.toList := by
  show Op.bytesLess (x.1.data.toList ++ (61 :: (x.2.data.toList ++ tailB a))) (y.1.data.toList ++ (61 :: (y.2.data.toList ++ tailB b))) = _
  rw [less_sep _ _ _ _ hx.1 hy.1 (sep_eq _) (sep_eq _)]
  by_cases e : x.1 = y.1
  · rw [if_pos (by rw [e]), if_pos e, less_cons]
    have h0 : decide ((61 : UInt8) < 61) = false := by decide
    rw [h0, beq_self_eq_true, less_sep _ _ _ _ hx.2 hy.2 (sep_tail a) (sep_tail b)]
    by_cases e2 : x.2 = y.2
    · rw [if_pos (by rw [e2]), if_pos e2]; simp
    · rw [if_neg (fun h => e2 (eq_iff_data.1 h)), if_neg e2]; simp
  · rw [if_neg (fun h => e (eq_iff_data.1 h)), if_neg e]
theorem tail_cons (x y : E) (a b : List E) : Op.bytesLess (tailB (x :: a)) (tailB (y :: b)) = Op.bytesLess (bodyB (x :: a)) (bodyB (y :: b)) := by
  show Op.bytesLess (44 :: _) (44 :: _) = _
  rw [less_cons]
  have h0 : decide ((44 : UInt8) < 44) = false := by decide
  rw [h0, beq_self_eq_true]
  simp [bodyB]
theorem body_cmp (x y : E) (a b : List E) (hx : letL x.1.data.toList ∧ letL x.2.data.toList) (hy : letL y.1.data.toList ∧ letL y.2.data.toList) (ht : Op.bytesLess (tailB a) (tailB b) = true ↔ cmpL a b = -1) :
    Op.bytesLess (bodyB (x :: a)) (bodyB (y :: b)) = true ↔ cmpL (x :: a) (y :: b) = -1 := by
  rw [body_cons x y a b hx hy]
  show _ ↔ (if cmpE x y ≠ 0 then cmpE x y else cmpL a b) = -1
  by_cases e : x.1 = y.1
  · have e0 : cmpS x.1 y.1 = 0 := by rw [e]; exact ordS.self _
    rw [if_pos e]
    have ee : cmpE x y = cmpS x.2 y.2 := by unfold cmpE; rw [if_neg (by simp [e0])]
    by_cases e2 : x.2 = y.2
    · have e3 : cmpS x.2 y.2 = 0 := by rw [e2]; exact ordS.self _
      rw [if_pos e2, ee, e3, if_neg (by simp)]
      exact ht
    · have e3 : cmpS x.2 y.2 ≠ 0 := fun h => e2 (ordS.zero _ _ h)
      rw [if_neg e2, ee, if_pos e3]
      exact less_iff _ _
  · have e0 : cmpS x.1 y.1 ≠ 0 := fun h => e (ordS.zero _ _ h)
    have ee : cmpE x y = cmpS x.1 y.1 := by unfold cmpE; rw [if_pos e0]
    rw [if_neg e, ee, if_pos e0]
    exact less_iff _ _
theorem tail_cmp : ∀ a b : List E, lettered a → lettered b → (Op.bytesLess (tailB a) (tailB b) = true ↔ cmpL a b = -1)
  | [], [], _, _ => by simp [tailB, cmpL, less_nil]
  | [], y :: b, _, _ => by simp [tailB, cmpL, nil_less]
  | x :: a, [], _, _ => by simp [tailB, cmpL, less_nil]
  | x :: a, y :: b, ha, hb => by
    rw [tail_cons]
    exact body_cmp x y a b (ha x (List.mem_cons_self ..)) (hb y (List.mem_cons_self ..)) (tail_cmp a b (fun z hz => ha z (List.mem_cons_of_mem _ hz)) (fun z hz => hb z (List.mem_cons_of_mem _ hz)))
def keyL (zs : List E) : List UInt8 := 123 :: bodyB zs
/-- keys are ordered as labels are -/
theorem key_cmp : ∀ a b : List E, lettered a → lettered b → a ≠ [] → b ≠ [] → (Op.bytesLess (keyL a) (keyL b) = true ↔ cmpL a b = -1)
  | [], _, _, _, h, _ => absurd rfl h
  | x :: a, [], _, _, _, h => absurd rfl h
  | x :: a, y :: b, ha, hb, _, _ => by
    have h0 : decide ((123 : UInt8) < 123) = false := by decide
    unfold keyL
    rw [less_cons, h0, beq_self_eq_true]
    simp only [Bool.false_or, Bool.true_and]
    exact body_cmp x y a b (ha x (List.mem_cons_self ..)) (hb y (List.mem_cons_self ..)) (tail_cmp a b (fun z hz => ha z (List.mem_cons_of_mem _ hz)) (fun z hz => hb z (List.mem_cons_of_mem _ hz)))
theorem letters_letL {s : ByteArray} (h : letters s = true) : letL s.data.toList := by
  intro c hc
  have := List.all_eq_true.1 h c hc
  unfold letter at this
  simp only [Bool.and_eq_true, decide_eq_true_eq] at this
  exact this.1
theorem ok_lettered {zs : List E} (h : ok zs = true) : lettered zs ∧ zs ≠ [] := by
  unfold ok at h
  simp only [Bool.and_eq_true, decide_eq_true_eq] at h
  refine ⟨fun x hx => ?_, fun e => by rw [e] at h; simp at h⟩
  obtain ⟨k, hk, rfl⟩ := List.getElem_of_mem hx
  have hs := List.all_eq_true.1 (show (List.range zs.length).all (stepOk zs) = true from h.2) k (List.mem_range.2 hk)
  unfold stepOk nameB wordB at hs
  simp only [Bool.and_eq_true, at_get zs k hk] at hs
  exact ⟨letters_letL hs.1.1.1.2, letters_letL hs.1.1.2.2⟩
/-- the key as it comes of the parts -/
theorem join_body : ∀ zs : List E, PutMath.joinB (zs.map fun x => x.1 ++ ⟨#[61]⟩ ++ x.2) = bodyB zs
  | [] => rfl
  | x :: zs => by
    have ht : ∀ l : List E, Lib.joinTail [44] ((l.map fun x => x.1 ++ ⟨#[61]⟩ ++ x.2).map (·.data.toList)) = tailB l := by
      intro l
      induction l with
      | nil => rfl
      | cons y l ih =>
        have e : Lib.joinTail [44] (((y :: l).map fun x => x.1 ++ ⟨#[61]⟩ ++ x.2).map (·.data.toList)) = [44] ++ (y.1 ++ ⟨#[61]⟩ ++ y.2 : ByteArray).data.toList ++ Lib.joinTail [44] ((l.map fun x => x.1 ++ ⟨#[61]⟩ ++ x.2).map (·.data.toList)) := by simp [Lib.joinTail]
        rw [e, ih, PutMath.app_toList, PutMath.app_toList]
        simp [tailB]
    unfold PutMath.joinB
    rw [List.map_cons, List.map_cons, Lib.join_cons, ht, PutMath.app_toList, PutMath.app_toList]
    simp [bodyB]
end Go.Proofs.YtlboekimnhgfdaaGreat.Lab

/- A copy of labels, and the key of a row: the program's labelsCopy and rowKey. -/
namespace Go.Proofs.YtlboekimnhgfdaaGreat.Lab
open Go.RowKit Rw PutMath
set_option linter.unusedVariables false
attribute [local go_sem ↓] Go.wp_at_zero Go.wp_at_succ
set_option maxRecDepth 100000 in
set_option maxHeartbeats 4000000 in
theorem copy_any {w : World} {v : Value} {zs : List E} (h : Is w v zs) (hsm : small zs) : Calls Tryz.prog 121 #[v] w fun e w' => ∃ r, e = .returned r ∧ w'.ownsRow w.heap.size 64 2 r zs.length (flat zs) ∧ Below w.heap.size w w' := by
  obtain ⟨i0, hi, hz0, hz1, hz2⟩ := info_parts info_e
  have hlen := hsm.1
  have hg := hsm.2
  obtain ⟨-, a, cap, rfl, hc, hm, -, hr⟩ := h
  unfold maxLen at hm
  obtain ⟨n, hn⟩ : ∃ n, n = zs.length := ⟨_, rfl⟩
  rw [← hn] at hc hr hlen ⊢
  have HN := hide hn
  have HG := hide hg
  clear hn hg
  go_enter Tryz.func121, Tryz.ntmps121
  go_wp2_with fail
  go_loopw [3, 8] (fun pv i wr => ∃ (k : Nat) (pa : Option Addr) (pc : Nat), k ≤ n ∧ i = .int .i64 k ∧ pv = .slice pa k pc ∧ wr.ownsRow w.heap.size 64 2 pv k (flat (zs.take k)) ∧ Below w.heap.size w wr) (fun _ i _ => n - (intOf i).toNat)
  case atStart => exact ⟨0, none, 0, Nat.zero_le _, rfl, rfl, World.ownsRow_nil _ _ _ _, Below.refl _ _⟩
  case round =>
    obtain ⟨k, pa, pc, hk, rfl, rfl, hown, hbel⟩ := hrel
    have hsz := hbel.size
    have hk0 : (0 : Int) ≤ (k : Int) := Int.natCast_nonneg _
    by_cases hlt : k < n
    · obtain ⟨b, off, rfl, hl, hcells⟩ := hr (by omega)
      have fa := flat_at zs k (by have := unhide HN; omega)
      have gd := unhide HG (at' zs k) (by rw [at_get zs k (by have := unhide HN; omega)]; exact List.getElem_mem _)
      have HPS := hide (show flat (zs.take (k + 1)) = flat (zs.take k) ++ fl (at' zs k) by rw [at_snoc zs k (by have := unhide HN; omega)]; unfold flat; rw [flatOf_append, flatOf_one])
      obtain ⟨A, B, hX⟩ : ∃ A B, (A, B) = at' zs k := ⟨_, _, rfl⟩
      rw [← hX] at fa gd HPS
      simp only at gd
      simp only [fl] at HPS
      have hc0 : wr.cell? ⟨b, off + k * 2, none⟩ = some (.string A) := (hbel.cell (p := ⟨b, _, none⟩) hl).trans (hcells (k * 2) _ fa.1)
      have hc1 : wr.cell? ⟨b, off + k * 2 + 1, none⟩ = some (.string B) := (hbel.cell (p := ⟨b, _, none⟩) hl).trans (hcells (k * 2 + 1) _ fa.2)
      have HA := hide (fun W => Str.clone_any A W (by omega))
      have HB := hide (fun W => Str.clone_any B W (by omega))
      clear hX fa gd
      have hk1 : (k : Int) < (n : Int) := by omega
      have hmx : 1 ≤ maxLen := by unfold maxLen; omega
      obtain ⟨W, hW⟩ : ∃ W, W = wr.alloc (.cells #[.string A, .string B] 64) := ⟨_, rfl⟩
      have bW : Below wr.heap.size wr W := by rw [hW]; exact (Below.refl _ _).alloc (Nat.le_refl _) _
      have zW : wr.heap.size < W.heap.size := by rw [hW]; simp
      have S6 : (fun w' : World => w'.cell? ⟨wr.heap.size, 0, none⟩ = some (.string A) ∧ w'.cell? ⟨wr.heap.size, 1, none⟩ = some (.string B)) W.drew := by rw [hW]; exact ⟨by simp, by simp⟩
      have oW : W.drew.ownsRow w.heap.size 64 2 (.slice pa k pc) k (flat (zs.take k)) := World.ownsRow.drew (own_below hown bW)
      have hbW : Below w.heap.size w W.drew := (hbel.trans (bW.mono hsz)).drew
      have hob := fun e => Nat.lt_irrefl _ (own_block_lt hown wr.heap.size (Eq.symm e))
      clear bW
      go_wp2_with fail
      rw [← hW]
      clear hW
      go_region_held3 (fun w' => w'.cell? ⟨wr.heap.size, 0, none⟩ = some (.string A) ∧ w'.cell? ⟨wr.heap.size, 1, none⟩ = some (.string B)) (first | exact S6 | exact S7 | exact S8 | exact S9 _ | exact S10) ((first | (go_at_call_of 148 A; refine (unhide HA _).mono ?_; rintro e w7 ⟨rfl, b7⟩; have z7 := b7.size; simp only [World.size_drew] at z7; have S7 : (fun w' : World => w'.cell? ⟨wr.heap.size, 0, none⟩ = some (.string A) ∧ w'.cell? ⟨wr.heap.size, 1, none⟩ = some (.string B)) w7 := ⟨(b7.cell (p := ⟨_, _, none⟩) (by first | (simp; done) | (simp; omega) | omega)).trans S6.1, (b7.cell (p := ⟨_, _, none⟩) (by first | (simp; done) | (simp; omega) | omega)).trans S6.2⟩) | (go_at_call_of 148 B; refine (unhide HB _).mono ?_; rintro e w8 ⟨rfl, b8⟩; have z8 := b8.size; have S8 : (fun w' : World => w'.cell? ⟨wr.heap.size, 0, none⟩ = some (.string A) ∧ w'.cell? ⟨wr.heap.size, 1, none⟩ = some (.string B)) w8 := ⟨(b8.cell (p := ⟨_, _, none⟩) (by first | (simp; done) | (simp; omega) | omega)).trans S7.1, (b8.cell (p := ⟨_, _, none⟩) (by first | (simp; done) | (simp; omega) | omega)).trans S7.2⟩; have S9 : ∀ o, (fun w' : World => w'.cell? ⟨wr.heap.size, 0, none⟩ = some (.string A) ∧ w'.cell? ⟨wr.heap.size, 1, none⟩ = some (.string B)) (w8.alloc o) := fun o => ⟨(((Below.refl _ _).alloc (Nat.le_refl _) _).cell (p := ⟨_, _, none⟩) (by first | (simp; done) | (simp; omega) | omega)).trans S8.1, (((Below.refl _ _).alloc (Nat.le_refl _) _).cell (p := ⟨_, _, none⟩) (by first | (simp; done) | (simp; omega) | omega)).trans S8.2⟩) | (refine app_step _ (by rfl) _ _ _ (by rfl) w.heap.size 64 i0 _ 2 32 Tryz.underlying60 hi hz0 hz1 hz2 rfl (by omega) _ k _ (by rfl) (World.ownsRow.alloc (own_below (own_below oW b7) b8) _) _ 1 [.string A, .string B] (by rfl) (lies_new (w := w8) (by simp) rfl hmx) (by simp [Value.oneCell']) (by unfold maxLen; omega) (by omega) (by simp <;> omega) ?_; intro vn wn on gn an; have S10 : (fun w' : World => w'.cell? ⟨wr.heap.size, 0, none⟩ = some (.string A) ∧ w'.cell? ⟨wr.heap.size, 1, none⟩ = some (.string B)) wn := ⟨by rw [gn.cell_far _ (by simp <;> omega) hob]; exact (S9 _).1, by rw [gn.cell_far _ (by simp <;> omega) hob]; exact (S9 _).2⟩)))
      have hb8 : Below w.heap.size w w8 := (hbW.trans (b7.mono hbW.size)).trans (b8.mono (by omega))
      have R9 : Below w.heap.size w wn := below_grown (hb8.alloc (by omega) _) (by simp <;> omega) gn (own_ge hown)
      have R2 := hide (show wn.ownsRow w.heap.size 64 2 vn (k + 1) (flat (zs.take (k + 1))) by rw [unhide HPS]; exact on)
      obtain ⟨an', cn, hvn⟩ : ∃ a c, vn = .slice a (k + 1) c := by obtain ⟨-, a, c, e, -⟩ := lies_of_own on; exact ⟨a, c, e⟩
      have HV := hide hvn
      clear on gn an hown hvn hob S6 S7 S8 S9 S10 oW hbW b7 b8 hb8
      go_wp2_with fail
      go_roundw
      case rel => exact ⟨k + 1, an', cn, by omega, by go_num, unhide HV, unhide R2, R9⟩
      case measure => simp [intOf]; omega
    · obtain rfl : k = n := by omega
      rw [List.take_of_length_le (by have := unhide HN; omega)] at hown
      go_wp2
      go_ret
      exact ⟨_, rfl, hown, hbel⟩
/-- the key of a row -/
def keyOf (zs : List E) : ByteArray := ⟨(keyL zs).toArray⟩
theorem trim_key {zs : List E} (h : ok zs = true) : (⟨(Lib.trimSuffix (put zs).data.toList [125]).toArray⟩ : ByteArray) = keyOf zs := by
  have e : (put zs).data.toList = keyL zs ++ [125] := by
    unfold put
    rw [if_pos h]
    unfold wrap keyL
    rw [of_toList]
    unfold parts
    rw [show List.map partOf zs = zs.map (fun x => x.1 ++ ⟨#[61]⟩ ++ x.2) from rfl, join_body]
  unfold keyOf
  rw [e]
  congr 2
  simp [Lib.trimSuffix, Lib.hasSuffix]
theorem rowKey_any {w : World} {v : Value} {zs : List E} (h : Is w v zs) (hg : ∀ x ∈ zs, good x) (ho : ok zs = true) : Calls Tryz.prog 133 #[v] w fun e w' => e = .returned (.string (keyOf zs)) ∧ Below w.heap.size w w' := by
  have H1 := hide (impl_put h hg)
  have hs : (put zs).size ≤ 2002002 := by
    unfold put
    rw [if_pos ho]
    unfold wrap
    rw [size_of]
    have := join_small (ok_small ho) zs.length
    rw [List.take_of_length_le (Nat.le_refl _)] at this
    simp only [List.length_append, List.length_cons, List.length_nil]
    omega
  have H2 := hide (fun W => Tryz.strings_TrimSuffix (put zs) ⟨#[125]⟩ W (by omega))
  rw [show (⟨#[125]⟩ : ByteArray).data.toList = [125] from rfl, trim_key ho] at H2
  clear h hg ho
  generalize put zs = P at H1 H2
  generalize keyOf zs = K at H2 ⊢
  go_enter Tryz.func133, Tryz.ntmps133
  go_wp2_with fail
  refine (unhide H1).mono ?_
  rintro e w1 ⟨rfl, b1⟩
  go_wp2_with fail
  refine (unhide H2 _).mono ?_
  rintro e w2 ⟨rfl, rfl⟩
  go_wp2_with fail
  go_ret
  exact ⟨rfl, b1⟩
end Go.Proofs.YtlboekimnhgfdaaGreat.Lab

/- A map from texts to rows that the call made itself: what it holds at each key, what a look-up finds, what a store turns. No condition. -/
namespace Go.Proofs.YtlboekimnhgfdaaGreat.SMap
open Go.RowKit Rw Go.Maps
/-- an element reads as itself -/
def rdV (v : Value) : Option (DataW Value × List MemPlace) := some (.held v, [])
def slit (s : ByteArray) : Lit := .string s.data.toList
theorem slit_inj {a b : ByteArray} (h : slit a = slit b) : a = b := by
  unfold slit at h
  exact Go.WideShapes.bytes_inj (Lit.string.inj h)
theorem slit_key (s : ByteArray) : WideAt.IsKeyLit (slit s) := by unfold slit; trivial
/-- block b is a map of at most n entries, that holds M -/
def MapIs (w : World) (b n : Nat) (M : ByteArray → Option Value) : Prop := ∃ D : DataW Value, w.ownsMap Tryz.prog 9 rdV b n D ∧ ∀ s, Maps.has D (slit s) = (M s).isSome ∧ ∀ v, M s = some v → ∀ z, D.atKey (slit s) z = .held v
theorem keyed : Keyed Tryz.prog 9 := string_keyed Tryz.underlying9
theorem made (w : World) : MapIs (w.alloc (.map #[] 0)) w.heap.size 0 (fun _ => none) := ⟨.map [], World.ownsMap_made w _ _ _, fun s => ⟨rfl, fun v h => by cases h⟩⟩
theorem MapIs.lt {w : World} {b n : Nat} {M : ByteArray → Option Value} (h : MapIs w b n M) : b < w.heap.size := by obtain ⟨D, h1, -⟩ := h; exact h1.lt
theorem MapIs.block {w w' : World} {b n : Nat} {M : ByteArray → Option Value} (h : MapIs w b n M) (hb : w'.heap[b]? = w.heap[b]?) : MapIs w' b n M := by
  obtain ⟨D, ⟨es, clock, h1, h2⟩, h3⟩ := h
  exact ⟨D, ⟨es, clock, by rw [hb]; exact h1, h2⟩, h3⟩
theorem MapIs.below {w w' : World} {b n : Nat} {M : ByteArray → Option Value} (h : MapIs w b n M) (hb : Below w.heap.size w w') : MapIs w' b n M := h.block (hb.block b h.lt)
theorem zeroRow (w : World) : (zeroValue 93).run Tryz.prog w = .ok (.agg #[.slice none 0 0, .slice none 0 0]) w := by kernel_rfl
/-- 'row, there := m[key]' -/
theorem MapIs.look_ok {w : World} {b n : Nat} {M : ByteArray → Option Value} (h : MapIs w b n M) {s : ByteArray} (hs : s.size ≤ maxLen) :
    (Instr.lookup 97 (.map (some b)) (.string s) true).run Tryz.prog w = .ok (.tuple #[(M s).getD (.agg #[.slice none 0 0, .slice none 0 0]), .bool (M s).isSome]) w := by
  obtain ⟨D, h1, h2⟩ := h
  obtain ⟨v, ps, hr, hv⟩ := h1.look_ok keyed Tryz.underlying97 (zeroRow w) (show rdV _ = some (.held _, []) from rfl) (Go.WideMaps.keyOf_string_mk Tryz.underlying9 hs)
  rw [hr]
  have hg := h2 s
  have e1 : Maps.has D (Lit.string s.data.toList) = (M s).isSome := hg.1
  rw [e1]
  have e2 : DataW.held v = D.atKey (slit s) (.held (.agg #[.slice none 0 0, .slice none 0 0])) := by simpa [rdV, slit] using congrArg (fun x => x.map Prod.fst) hv
  cases hM : M s with
  | none =>
    have h0 : Maps.has D (slit s) = false := by rw [hg.1, hM]; rfl
    rw [atKey_of_not_has h0] at e2
    rw [DataW.held.inj e2]; rfl
  | some u =>
    rw [hg.2 u hM] at e2
    rw [DataW.held.inj e2]; rfl
/-- 'm[key]' -/
theorem MapIs.look {w : World} {b n : Nat} {M : ByteArray → Option Value} (h : MapIs w b n M) {s : ByteArray} (hs : s.size ≤ maxLen) :
    (Instr.lookup 97 (.map (some b)) (.string s) false).run Tryz.prog w = .ok ((M s).getD (.agg #[.slice none 0 0, .slice none 0 0])) w := by
  obtain ⟨D, h1, h2⟩ := h
  obtain ⟨v, ps, hr, hv⟩ := h1.lookup keyed Tryz.underlying97 (zeroRow w) (show rdV _ = some (.held _, []) from rfl) (Go.WideMaps.keyOf_string_mk Tryz.underlying9 hs)
  rw [hr]
  have hg := h2 s
  have e2 : DataW.held v = D.atKey (slit s) (.held (.agg #[.slice none 0 0, .slice none 0 0])) := by simpa [rdV, slit] using congrArg (fun x => x.map Prod.fst) hv
  cases hM : M s with
  | none =>
    have h0 : Maps.has D (slit s) = false := by rw [hg.1, hM]; rfl
    rw [atKey_of_not_has h0] at e2
    rw [DataW.held.inj e2]; rfl
  | some u =>
    rw [hg.2 u hM] at e2
    rw [DataW.held.inj e2]; rfl
/-- 'm[key] = row' -/
theorem MapIs.store {w : World} {b n : Nat} {M : ByteArray → Option Value} (h : MapIs w b n M) {s : ByteArray} (hs : s.size ≤ maxLen) (hn : n < maxLen) (u : Value) :
    ∃ w', (Instr.mapUpdate 97 (.map (some b)) (.string s) u).run Tryz.prog w = .ok () w' ∧ MapIs w' b (n + 1) (fun t => if t = s then some u else M t) ∧ OnlyAt b w w' := by
  obtain ⟨D, h1, h2⟩ := h
  obtain ⟨w', hr, h3, h4⟩ := h1.store keyed Tryz.underlying97 hn (Go.WideMaps.keyOf_string_mk Tryz.underlying9 hs) (show rdV u = some (.held u, []) from rfl)
  have hsz : w'.heap.size = w.heap.size := by
    obtain ⟨es, clock, es', clock', -, rfl⟩ := h4
    simp [Go.ChangeMaps.setBlock]
  have hgr := h4.grown
  refine ⟨w', hr, ⟨_, h3, fun t => ?_⟩, ⟨hgr.os, hgr.tape, hgr.output, hsz, fun k hk => ?_⟩⟩
  · by_cases e : t = s
    · subst e
      refine ⟨by simp only [if_true]; exact has_put_same h1.isMap (slit_key t) _, fun v hv z => ?_⟩
      simp only [if_true] at hv
      cases hv
      exact atKey_put_same h1.isMap (slit_key t) _ z
    · have hne : slit t ≠ slit s := fun h => e (slit_inj h)
      refine ⟨by simp only [if_neg e]; exact (has_put_other hne _).trans (h2 t).1, fun v hv z => ?_⟩
      simp only [if_neg e] at hv
      exact (atKey_put_other hne _ z).trans ((h2 t).2 v hv z)
  · rcases Nat.lt_or_ge k w.heap.size with hl | hl
    · exact hgr.block k hl (fun e => hk (Option.some.inj e))
    · rw [Array.getElem?_eq_none hl, Array.getElem?_eq_none (by rw [hsz]; exact hl)]
end Go.Proofs.YtlboekimnhgfdaaGreat.SMap

/- What the laws' own helpers do with slices of samples: they are copied, held against each other, marked and looked at again. -/
namespace Go.Proofs.YtlboekimnhgfdaaGreat.Samp
open Go.RowKit SampMath Rw
set_option linter.unusedVariables false
attribute [local go_sem ↓] Go.wp_at_zero Go.wp_at_succ
theorem to_one (t v : Int) (w : World) : Calls Tryz.prog 147 #[.agg #[.int .i64 t, .int .i64 v]] w fun e w' => e = .returned (.agg #[.int .i64 t, .int .i64 v]) ∧ Below w.heap.size w w' := by
  go_enter Tryz.func147, Tryz.ntmps147
  go_wp2
  refine bodyPost_ret (v := .agg #[.int .i64 t, .int .i64 v]) (by simp [results, Tryz.results147, go_sem]) rfl ⟨rfl, ?_⟩
  exact (((Below.refl _ _).alloc (Nat.le_refl _) _).alloc (by simp) _).alloc (by simp; omega) _
set_option maxRecDepth 100000 in
set_option maxHeartbeats 1000000 in
theorem to_some (b off len cap : Nat) (zs : List S) (w : World) (hz : zs.length = len) (hc : len ≤ cap) (hm : cap ≤ maxLen) (hlen : len ≤ 2097152) (hbl : b < w.heap.size) (hr : Reads w b off zs) :
    Calls Tryz.prog 119 #[.slice (some ⟨b, off, none⟩) len cap] w fun e w' => e = .returned (.slice (some ⟨w.heap.size, 0, none⟩) len len) ∧
      w'.ownsRow w.heap.size 106 2 (.slice (some ⟨w.heap.size, 0, none⟩) len len) len (flat zs) ∧ Below w.heap.size w w' := by
  obtain ⟨i0, hi, hz0, hz1, hz2⟩ := info_parts info_sample
  unfold maxLen at hm
  go_enter Tryz.func119, Tryz.ntmps119
  go_wp2_with (at_make; refine wpList_make_full _ rfl _ _ _ rfl w.heap.size 106 i0 (.agg #[.int .i64 0, .int .i64 0]) 2 Tryz.underlying91 hi hz0 hz1 .i64 .i64 _ _ len rfl rfl rfl rfl (by rw [hz2]; omega) (by unfold maxLen; omega) (Nat.le_refl _) ?_; intro w1 hown1 hgrow1)
  go_loopw [4] (fun i wr => ∃ (k : Nat) (r : List Value), k ≤ len ∧ i = .int .i64 k ∧ r.length = (len - k) * 2 ∧ wr.ownsRow w.heap.size 106 2 (.slice (some ⟨w.heap.size, 0, none⟩) len len) len (flat (zs.take k) ++ r) ∧ Below w.heap.size w wr) (fun i _ => len - (intOf i).toNat)
  case atStart =>
    refine ⟨0, _, Nat.zero_le _, rfl, ?_, hown1, below_grown (Below.refl _ _) (Nat.le_refl _) hgrow1 (by simp)⟩
    have := hown1.1
    simpa using this
  case round =>
    obtain ⟨k, r, hk, rfl, hrl, hown, hbel⟩ := hrel
    have hsz := own_lt hown
    by_cases hlt : k < len
    · obtain ⟨u0, u1, B, rfl, hB⟩ := split_two r (len - k - 1) (by rw [hrl]; omega)
      have hc0 : wr.cell? ⟨b, off + k * 2, none⟩ = some (.int .i64 (at' zs k).1) := (hbel.cell (p := ⟨b, _, none⟩) hbl).trans (hr k (by omega)).1
      have hc1 : wr.cell? ⟨b, off + k * 2 + 1, none⟩ = some (.int .i64 (at' zs k).2) := (hbel.cell (p := ⟨b, _, none⟩) hbl).trans (hr k (by omega)).2
      have fl := flat_length (zs.take k)
      have tl : (zs.take k).length = k := by simp; omega
      have hd0 : wr.cell? ⟨w.heap.size, k * 2, none⟩ = some u0 := by rw [hown.cellAt (k * 2) (by omega)]; simp [fl, tl]
      have hd1 : wr.cell? ⟨w.heap.size, k * 2 + 1, none⟩ = some u1 := by rw [hown.cellAt (k * 2 + 1) (by omega)]; simp [fl, tl]
      have hf0 := hown.frozenAt (k * 2)
      have hf1 := hown.frozenAt (k * 2 + 1)
      have hk0 : (0 : Int) ≤ (k : Int) := Int.natCast_nonneg _
      have hk1 : (k : Int) < (len : Int) := by omega
      have HE := hide (show (flat (zs.take k)).length = k * 2 by rw [fl, tl])
      have HS := hide (at_snoc zs k (by omega))
      obtain ⟨T, hT⟩ : ∃ T, T = (at' zs k).1 := ⟨_, rfl⟩
      obtain ⟨V, hV⟩ : ∃ V, V = (at' zs k).2 := ⟨_, rfl⟩
      rw [← hT] at hc0
      rw [← hV] at hc1
      have HT := hide hT
      have HV := hide hV
      clear fl tl hT hV
      go_wp2_with (go_at_call 147; refine (to_one _ _ _).mono ?_; rintro e w2 ⟨rfl, hb2⟩; obtain ⟨bc, bf⟩ := bcell hb2)
      have o1 := ((own_below hown hb2).stored (k * 2) (.int .i64 T)).1
      have o2 := (o1.stored (k * 2 + 1) (.int .i64 V)).1
      rw [set_two _ _ _ _ _ _ _ (unhide HE)] at o2
      have e2 : flat (zs.take (k + 1)) = flat (zs.take k) ++ [.int .i64 T, .int .i64 V] := by rw [unhide HS, flat_append, flat_one, unhide HT, unhide HV]
      rw [← e2] at o2
      have R := ((hbel.trans (hb2.mono (by omega))).setCell (p := ⟨w.heap.size, k * 2, none⟩) (Nat.le_refl _) (.int .i64 T)).setCell (p := ⟨w.heap.size, k * 2 + 1, none⟩) (Nat.le_refl _) (.int .i64 V)
      clear o1 e2 hown bc bf hd0 hd1 hf0 hf1
      go_roundw
      case rel => exact ⟨k + 1, B, by omega, by go_num, by omega, o2, R⟩
      case measure => simp [intOf]; omega
    · obtain rfl : k = len := by omega
      obtain rfl : r = [] := List.eq_nil_of_length_eq_zero (by rw [hrl]; omega)
      rw [List.append_nil, List.take_of_length_le (by omega)] at hown
      go_wp2
      go_ret
      exact ⟨rfl, hown, hbel⟩
set_option maxHeartbeats 1000000 in
theorem to_zero (a : Option Addr) (cap : Nat) (w : World) :
    Calls Tryz.prog 119 #[.slice a 0 cap] w fun e w' => e = .returned (.slice (some ⟨w.heap.size, 0, none⟩) 0 0) ∧
      w'.ownsRow w.heap.size 106 2 (.slice (some ⟨w.heap.size, 0, none⟩) 0 0) 0 (flat []) ∧ Below w.heap.size w w' := by
  obtain ⟨i0, hi, hz0, hz1, hz2⟩ := info_parts info_sample
  go_enter Tryz.func119, Tryz.ntmps119
  go_wp2_with (at_make; refine wpList_make_full _ rfl _ _ _ rfl w.heap.size 106 i0 (.agg #[.int .i64 0, .int .i64 0]) 2 Tryz.underlying91 hi hz0 hz1 .i64 .i64 _ _ 0 rfl rfl rfl rfl (by omega) (by unfold maxLen; omega) (Nat.le_refl _) ?_; intro w1 hown1 hgrow1)
  refine wp_loop_rounds 1 ?_
  rw [rounds_succ]
  go_wp2
  go_ret
  have e0 : (madeCells (Value.agg #[Value.int IntKind.i64 0, Value.int IntKind.i64 0]).cells (0 * 2)).toList = flat [] := by simp [madeCells, flat]
  rw [e0] at hown1
  exact ⟨rfl, hown1, below_grown (Below.refl _ _) (Nat.le_refl _) hgrow1 (by simp)⟩
/-- a slice that came in, copied: new memory of the call's own -/
theorem to_any {a : Option Addr} {len cap : Nat} {z : List S} (w w0 : World) (h : IsPairs w0 a len cap z) (hlen : len ≤ 2097152) (hb : Below w0.heap.size w0 w) :
    Calls Tryz.prog 119 #[.slice a len cap] w fun e w' => e = .returned (.slice (some ⟨w.heap.size, 0, none⟩) len len) ∧
      w'.ownsRow w.heap.size 106 2 (.slice (some ⟨w.heap.size, 0, none⟩) len len) (z.take len).length (flat (z.take len)) ∧ Below w.heap.size w w' := by
  obtain ⟨h1, h2, h3, h4⟩ := pairs_at h
  rcases h4 with rfl | ⟨b, off, rfl, hbl, hr⟩
  · have e : z.take 0 = [] := rfl
    rw [e]
    exact to_zero a cap w
  · rw [h3]
    exact to_some b off len cap (z.take len) w h3 h1 h2 hlen (by have := hb.size; omega) (hr.below hb hbl)
theorem eq_one (t v : Int) (w : World) : Calls Tryz.prog 150 #[.agg #[.int .i64 t, .int .i64 v], .agg #[.int .i64 t, .int .i64 v]] w fun e w' => e = .returned (.bool true) ∧ Below w.heap.size w w' := by
  go_enter Tryz.func150, Tryz.ntmps150
  go_wp2
  go_ret
  exact ⟨rfl, ((Below.refl _ _).alloc (Nat.le_refl _) _).alloc (by simp) _⟩
theorem eq_zero (a a' : Option Addr) (c c' : Nat) (w : World) : Calls Tryz.prog 126 #[.slice a 0 c, .slice a' 0 c'] w fun e w' => e = .returned (.bool true) ∧ Below w.heap.size w w' := by
  go_enter Tryz.func126, Tryz.ntmps126
  go_wp2
  refine wp_loop_rounds 1 ?_
  rw [rounds_succ]
  go_wp2
  go_ret
  exact ⟨rfl, Below.refl _ _⟩
set_option maxRecDepth 100000 in
set_option maxHeartbeats 1000000 in
theorem eq_some (b off b' off' len cap cap' : Nat) (zs : List S) (w : World) (hz : zs.length = len) (h1 : len ≤ cap) (h2 : cap ≤ maxLen) (hbl : b < w.heap.size) (hr : Reads w b off zs) (h1' : len ≤ cap') (h2' : cap' ≤ maxLen) (hbl' : b' < w.heap.size) (hr' : Reads w b' off' zs) :
    Calls Tryz.prog 126 #[.slice (some ⟨b, off, none⟩) len cap, .slice (some ⟨b', off', none⟩) len cap'] w fun e w' => e = .returned (.bool true) ∧ Below w.heap.size w w' := by
  unfold maxLen at h2 h2'
  go_enter Tryz.func126, Tryz.ntmps126
  go_wp2
  go_loopw [5] (fun i wr => ∃ (k : Nat), k ≤ len ∧ i = .int .i64 k ∧ Below w.heap.size w wr) (fun i _ => len - (intOf i).toNat)
  case atStart => exact ⟨0, Nat.zero_le _, rfl, Below.refl _ _⟩
  case round =>
    obtain ⟨k, hk, rfl, hbel⟩ := hrel
    have hsz := hbel.size
    by_cases hlt : k < len
    · obtain ⟨T, hT⟩ : ∃ T, T = (at' zs k).1 := ⟨_, rfl⟩
      obtain ⟨V, hV⟩ : ∃ V, V = (at' zs k).2 := ⟨_, rfl⟩
      have hq0 : ∀ x : Cls wr.heap.size wr, x.val.cell? ⟨b, off + k * 2, none⟩ = some (.int .i64 T) := fun x => by rw [x.cell (by omega), hT]; exact (hbel.cell (p := ⟨b, _, none⟩) hbl).trans (hr k (by omega)).1
      have hq1 : ∀ x : Cls wr.heap.size wr, x.val.cell? ⟨b, off + k * 2 + 1, none⟩ = some (.int .i64 V) := fun x => by rw [x.cell (by omega), hV]; exact (hbel.cell (p := ⟨b, _, none⟩) hbl).trans (hr k (by omega)).2
      have hp0 : ∀ x : Cls wr.heap.size wr, x.val.cell? ⟨b', off' + k * 2, none⟩ = some (.int .i64 T) := fun x => by rw [x.cell (by omega), hT]; exact (hbel.cell (p := ⟨b', _, none⟩) hbl').trans (hr' k (by omega)).1
      have hp1 : ∀ x : Cls wr.heap.size wr, x.val.cell? ⟨b', off' + k * 2 + 1, none⟩ = some (.int .i64 V) := fun x => by rw [x.cell (by omega), hV]; exact (hbel.cell (p := ⟨b', _, none⟩) hbl').trans (hr' k (by omega)).2
      have hk0 : (0 : Int) ≤ (k : Int) := Int.natCast_nonneg _
      have hk1 : (k : Int) < (len : Int) := by omega
      clear hT hV
      have hne := cls_nonempty wr.heap.size wr
      go_wp2_with fail
      refine region_cls (by kernel_rfl) (by kernel_rfl) ?_
      repeat (go_big_quiet_step ((go_at_call 150; exact cls_call (Nat.le_refl _) (eq_one _ _ _))))
      refine wpQuiet_nil ?_
      rintro _ ⟨⟨wq, hq⟩, rfl⟩
      go_wp2
      go_roundw
      case rel => exact ⟨k + 1, by omega, by go_num, hbel.trans (hq.mono hsz)⟩
      case measure => simp [intOf]; omega
    · go_wp2
      go_ret
      exact ⟨rfl, hbel⟩
theorem eq_any {v u : Value} {zs : List S} {w : World} (h : Smp w v zs) (h' : Smp w u zs) : Calls Tryz.prog 126 #[v, u] w fun e w' => e = .returned (.bool true) ∧ Below w.heap.size w w' := by
  rcases h with ⟨rfl, rfl⟩ | ⟨b, off, cap, rfl, h2, h3, h4, h5⟩
  · rcases h' with ⟨rfl, _⟩ | ⟨b', off', cap', rfl, _, _, _, _⟩
    · exact eq_zero _ _ _ _ w
    · exact eq_zero _ _ _ _ w
  · rcases h' with ⟨rfl, rfl⟩ | ⟨b', off', cap', rfl, g2, g3, g4, g5⟩
    · exact eq_zero _ _ _ _ w
    · exact eq_some b off b' off' _ cap cap' zs w rfl h2 h3 h4 h5 g2 g3 g4 g5
/-- so many are left, or none -/
theorem sz_any (a : Option Addr) (len cap : Nat) (left : Int) (w : World) (h : len ≤ 9223372036854775807) (h1 : 0 ≤ left) (h2 : left ≤ 1048576) :
    Calls Tryz.prog 114 #[.slice a len cap, .int .i64 left] w fun e w' => e = .returned (.int .i64 (if left - len < 0 then -1 else left - len)) ∧ w' = w := by
  by_cases hl : left - len < 0
  · rw [if_pos hl]
    go_enter Tryz.func114, Tryz.ntmps114
    go_wp2
    go_ret
    exact ⟨rfl, rfl⟩
  · rw [if_neg hl]
    go_enter Tryz.func114, Tryz.ntmps114
    go_wp2
    go_ret
    exact ⟨rfl, rfl⟩
end Go.Proofs.YtlboekimnhgfdaaGreat.Samp
