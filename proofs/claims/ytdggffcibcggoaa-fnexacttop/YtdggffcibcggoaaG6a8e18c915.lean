/- My own texts of one claim, laid together by program: MarkText, StrMath. -/
import Derived.Test.YtdggffcibcggoaaG4f00e76f0e
import Derived.Laws.Concat
import Derived.Test.YtdggffcibcggoaaGb5fb0eedf8
/- The text of a mark, markText, at every number from 1 on. No condition but that the number is not too great. -/
namespace Go.Proofs.Ytdggffcibcggoaa.Mark
open Go.RowKit Rw
set_option linter.unusedVariables false
attribute [local go_sem ↓] Go.wp_at_zero Go.wp_at_succ
def digs : Nat → Nat → List UInt8
  | 0, _ => []
  | f + 1, k => if k = 0 then [] else digs f (k / 10) ++ [UInt8.ofNat (48 + k % 10)]
theorem digs_zero (f : Nat) : digs f 0 = [] := by cases f <;> simp [digs]
theorem digs_len : ∀ (f k : Nat), (digs f k).length ≤ f
  | 0, _ => by simp [digs]
  | f + 1, k => by
    unfold digs
    split
    · simp
    · have := digs_len f (k / 10)
      simp only [List.length_append, List.length_cons, List.length_nil]
      omega
def text (k : Nat) : ByteArray := ⟨(109 :: digs 20 k).toArray⟩
theorem digs_step (f k : Nat) (h : 0 < k) : digs (f + 1) k = digs f (k / 10) ++ [UInt8.ofNat (48 + k % 10)] := by
  conv => lhs; unfold digs
  rw [if_neg (by omega)]
/-- what a round meets, its numbers as letters -/
theorem round_facts (K : Nat) (h : 0 < K) : ∃ m c q : Nat, (K : Int).tmod 10 = (m : Int) ∧ (K : Int) % 10 = (m : Int) ∧ (48 : Int) + (m : Int) = (c : Int) ∧ IntKind.u8.wrap (c : Int) = (c : Int) ∧ (K : Int).tdiv 10 = (q : Int) ∧ (K : Int) / 10 = (q : Int) ∧ q < K ∧ c < 256 ∧
    Hid (∀ f, digs (f + 1) K = digs f q ++ [UInt8.ofNat c]) ∧ Hid (q = K / 10) := by
  refine ⟨K % 10, 48 + K % 10, K / 10, ?_, by omega, by omega, ?_, ?_, by omega, by omega, by omega, fun f => digs_step f K h, rfl⟩
  · rw [Int.tmod_eq_emod_of_nonneg (by omega)]; omega
  · rw [IntKind.wrap_u8']; omega
  · rw [Int.tdiv_eq_ediv_of_nonneg (by omega)]; omega
theorem conv_one (w : World) (c : Nat) (h : c < 256) : (convert 51 9 (.slice (some ⟨w.heap.size, 0, none⟩) 1 1)).run Try.prog (w.alloc (.cells #[.int .u8 (c : Int)] 5)) = .ok (.string ⟨#[UInt8.ofNat c]⟩) (w.alloc (.cells #[.int .u8 (c : Int)] 5)) := by
  have ho : (w.alloc (.cells #[.int .u8 (c : Int)] 5)).ownsRow 0 5 1 (.slice (some ⟨w.heap.size, 0, none⟩) 1 1) 1 ([UInt8.ofNat c].map byteV) := by
    refine ⟨rfl, .inr ⟨w.heap.size, 1, #[.int .u8 (c : Int)], rfl, Nat.zero_le _, heap_alloc_new w _, Nat.le_refl _, by unfold maxLen; omega, rfl, ?_⟩⟩
    have e : (UInt8.ofNat c).toNat = c := by simp; omega
    simp [byteV, e]
  exact conv_owned ho
set_option maxHeartbeats 1000000 in
theorem text_any (k : Nat) (h1 : 1 ≤ k) (h2 : k ≤ 1000000000000) (w : World) : Calls Try.prog 68 #[.int .i64 k] w fun e w' => e = .returned (.string (text k)) ∧ Below w.heap.size w w' := by
  have HD := hide (show text k = ⟨#[109]⟩ ++ ⟨(digs 20 k).toArray⟩ by apply ByteArray.ext; simp [text])
  have HL := hide (digs_len 20 k)
  obtain ⟨D, hD⟩ : ∃ D, D = digs 20 k := ⟨_, rfl⟩
  rw [← hD] at HD HL
  obtain ⟨R, hR⟩ : ∃ R, R = text k := ⟨_, rfl⟩
  rw [← hR] at HD ⊢
  have HR := hide hD
  clear hR hD
  go_enter Try.func68, Try.ntmps68
  go_wp2
  go_loopw [0, 3] (fun kv ov wr => ∃ (f K : Nat) (o : List UInt8), kv = .int .i64 K ∧ ov = .string ⟨o.toArray⟩ ∧ Hid (digs f K ++ o = D) ∧ Hid (K < 10 ^ f) ∧ f ≤ 20 ∧ K ≤ 1000000000000 ∧ o.length ≤ 20 - f ∧ Below w.heap.size w wr) (fun kv _ _ => (intOf kv).toNat)
  case atStart => exact ⟨20, k, [], rfl, rfl, hide (by rw [List.append_nil]; exact (unhide HR).symm), hide (by omega), by omega, h2, by simp, Below.refl _ _⟩
  case round =>
    obtain ⟨f, K, o, rfl, rfl, HI, HF, hf, hKm, ho, hbel⟩ := hrel
    have hsz := hbel.size
    by_cases hK : 0 < K
    · obtain ⟨m, c, q, t1, t2, t3, t4, t5, t6, hq, hc, HG, HQ⟩ := round_facts K hK
      have hK' : (0 : Int) < (K : Int) := by omega
      have hf1 : 0 < f := by
        rcases Nat.eq_zero_or_pos f with e | e
        · have := unhide HF; rw [e] at this; simp at this; omega
        · exact e
      obtain ⟨f, rfl⟩ : ∃ g, f = g + 1 := ⟨f - 1, by omega⟩
      have hcv := conv_one wr c hc
      have so : (⟨o.toArray⟩ : ByteArray).size = o.length := rfl
      have s1 : ∀ W, (Op.stringOp .add ⟨#[UInt8.ofNat c]⟩ ⟨o.toArray⟩).run Try.prog W = .ok (.string ⟨(UInt8.ofNat c :: o).toArray⟩) W := fun W => by
        rw [run_string_add_sum W _ _ (by rw [so]; show 1 + o.length ≤ _; omega)]
        congr 2
      have HI' := hide (show digs f q ++ (UInt8.ofNat c :: o) = D by have := unhide HI; rw [unhide HG f] at this; simpa using this)
      have HF' := hide (show q < 10 ^ f by have h := unhide HF; rw [Nat.pow_succ] at h; rw [unhide HQ]; exact Nat.div_lt_of_lt_mul (by omega))
      clear HI HF HG HQ so
      go_wp2
      go_roundw
      case rel => exact ⟨f, q, UInt8.ofNat c :: o, by go_num, rfl, HI', HF', by omega, by omega, by simp; omega, hbel.alloc hsz _⟩
      case measure => simp [intOf]; omega
    · obtain rfl : K = 0 := by omega
      have e0 : o = D := by have := unhide HI; rwa [digs_zero, List.nil_append] at this
      have s2 : ∀ W, (Op.stringOp .add ⟨#[109]⟩ ⟨o.toArray⟩).run Try.prog W = .ok (.string R) W := fun W => by
        rw [unhide HD, ← e0]
        exact run_string_add_sum W _ _ (by show 1 + o.length ≤ _; omega)
      clear e0 HI HF HD HL
      go_wp2
      go_ret
      exact ⟨rfl, hbel⟩
theorem text_at (k : Nat) (z : Int) (hz : z = (k : Int)) (h1 : 1 ≤ k) (h2 : k ≤ 1000000000000) (w : World) : Calls Try.prog 68 #[.int .i64 z] w fun e w' => e = .returned (.string (text k)) ∧ Below w.heap.size w w' := by
  subst hz
  exact text_any k h1 h2 w
end Go.Proofs.Ytdggffcibcggoaa.Mark

/- Ascending lists of texts: the generic loop's answer, and how a text is put among others. No condition. -/
namespace Go.Proofs.Ytdggffcibcggoaa.StrMath
open Go.RowKit Lab
abbrev lt (a b : ByteArray) : Prop := ltS a b = true
theorem cmp_lt {a b : ByteArray} : cmpS a b < 0 ↔ lt a b := by
  rw [cmpS_eq]
  unfold lt
  by_cases h : ltS a b = true
  · rw [if_pos h]; exact ⟨fun _ => h, fun _ => by omega⟩
  · rw [if_neg h]
    refine ⟨fun h1 => ?_, fun h1 => absurd h1 h⟩
    split at h1 <;> omega
theorem lt_irrefl (a : ByteArray) : ¬ lt a a := fun h => by have := cmp_lt.2 h; rw [ordS.self] at this; omega
theorem lt_asymm {a b : ByteArray} (h : lt a b) : ¬ lt b a := fun h' => by have h1 := cmp_lt.2 h; have h2 := cmp_lt.2 h'; have := ordS.anti a b; omega
theorem lt_trans {a b c : ByteArray} (h : lt a b) (h' : lt b c) : lt a c := by
  have h1 := cmp_lt.2 h
  have h2 := cmp_lt.2 h'
  apply cmp_lt.1
  have h3 := ordS.trans a b c (by omega) (by omega)
  rcases Int.lt_or_eq_of_le h3 with h4 | h4
  · exact h4
  · have e := ordS.zero a c h4
    subst e
    have := ordS.anti a b
    omega
theorem lt_trichotomy (a b : ByteArray) : lt a b ∨ a = b ∨ lt b a := by
  rcases Int.lt_trichotomy (cmpS a b) 0 with h | h | h
  · exact .inl (cmp_lt.1 h)
  · exact .inr (.inl (ordS.zero a b h))
  · refine .inr (.inr (cmp_lt.1 ?_))
    have := ordS.anti a b
    omega
def at' (zs : List ByteArray) (i : Nat) : ByteArray := zs.getD i default
theorem drop_at (zs : List ByteArray) (i : Nat) (h : i < zs.length) : zs.drop i = at' zs i :: zs.drop (i + 1) := by
  rw [List.drop_eq_getElem_cons h]; simp [at', List.getD, h]
def one (b : Bool) (x : ByteArray) : List ByteArray := if b = true then [x] else []
/-- what the generic loop makes of two lists -/
def merge (k : Bool → Bool → Bool) : List ByteArray → List ByteArray → List ByteArray
  | [], [] => []
  | x :: a, [] => one (k true false) x ++ merge k a []
  | [], y :: b => one (k false true) y ++ merge k [] b
  | x :: a, y :: b =>
    if ltS x y = true then one (k true false) x ++ merge k a (y :: b)
    else if ltS y x = true then one (k false true) y ++ merge k (x :: a) b
    else one (k true true) y ++ merge k a b
def MLeft (k : Bool → Bool → Bool) (a b L : List ByteArray) (i j : Nat) : Prop := merge k a b = L ++ merge k (a.drop i) (b.drop j)
theorem left_start (k : Bool → Bool → Bool) (a b : List ByteArray) : MLeft k a b [] 0 0 := by simp [MLeft]
theorem left_first {k : Bool → Bool → Bool} {a b L : List ByteArray} {i j : Nat} (h : MLeft k a b L i j) (hi : i < a.length) (hj : j < b.length) (hlt : lt (at' a i) (at' b j)) : MLeft k a b (L ++ one (k true false) (at' a i)) (i + 1) j := by
  unfold MLeft at *
  rw [h, drop_at a i hi, drop_at b j hj, merge, if_pos hlt, List.append_assoc]
theorem left_second {k : Bool → Bool → Bool} {a b L : List ByteArray} {i j : Nat} (h : MLeft k a b L i j) (hi : i < a.length) (hj : j < b.length) (hlt : lt (at' b j) (at' a i)) : MLeft k a b (L ++ one (k false true) (at' b j)) i (j + 1) := by
  unfold MLeft at *
  rw [h, drop_at a i hi, drop_at b j hj, merge, if_neg (lt_asymm hlt), if_pos hlt, List.append_assoc]
theorem left_both {k : Bool → Bool → Bool} {a b L : List ByteArray} {i j : Nat} (h : MLeft k a b L i j) (hi : i < a.length) (hj : j < b.length) (he : at' a i = at' b j) : MLeft k a b (L ++ one (k true true) (at' b j)) (i + 1) (j + 1) := by
  unfold MLeft at *
  rw [h, drop_at a i hi, drop_at b j hj, he, merge, if_neg (lt_irrefl _), if_neg (lt_irrefl _), List.append_assoc]
theorem left_a {k : Bool → Bool → Bool} {a b L : List ByteArray} {i j : Nat} (h : MLeft k a b L i j) (hi : i < a.length) (hj : b.length ≤ j) : MLeft k a b (L ++ one (k true false) (at' a i)) (i + 1) j := by
  unfold MLeft at *
  rw [h, drop_at a i hi, List.drop_eq_nil_of_le hj, merge, List.append_assoc]
theorem left_b {k : Bool → Bool → Bool} {a b L : List ByteArray} {i j : Nat} (h : MLeft k a b L i j) (hi : a.length ≤ i) (hj : j < b.length) : MLeft k a b (L ++ one (k false true) (at' b j)) i (j + 1) := by
  unfold MLeft at *
  rw [h, drop_at b j hj, List.drop_eq_nil_of_le hi, merge, List.append_assoc]
theorem left_end {k : Bool → Bool → Bool} {a b L : List ByteArray} {i j : Nat} (h : MLeft k a b L i j) (hi : a.length ≤ i) (hj : b.length ≤ j) : merge k a b = L := by
  unfold MLeft at h
  rw [h, List.drop_eq_nil_of_le hi, List.drop_eq_nil_of_le hj, merge, List.append_nil]
def either (a b : Bool) : Bool := a || b
/-- a text among others, once -/
def put : List ByteArray → ByteArray → List ByteArray
  | [], n => [n]
  | x :: l, n => if ltS x n = true then x :: put l n else if x = n then x :: l else n :: x :: l
theorem merge_nil (l : List ByteArray) : merge either l [] = l := by
  induction l with
  | nil => rw [merge]
  | cons x l ih => rw [merge, ih]; rfl
theorem merge_one (l : List ByteArray) (n : ByteArray) : merge either l [n] = put l n := by
  induction l with
  | nil => rw [merge, merge, put]; rfl
  | cons x l ih =>
    rw [merge, put]
    rcases lt_trichotomy x n with h | h | h
    · rw [if_pos h, if_pos h, ih]; rfl
    · subst h
      rw [if_neg (lt_irrefl _), if_neg (lt_irrefl _), if_neg (lt_irrefl _), if_pos rfl, merge_nil]; rfl
    · rw [if_neg (lt_asymm h), if_pos h, if_neg (lt_asymm h), if_neg (fun e => by subst e; exact lt_irrefl _ h), merge_nil]; rfl
theorem put_len (l : List ByteArray) (n : ByteArray) : (put l n).length ≤ l.length + 1 := by
  induction l with
  | nil => simp [put]
  | cons x l ih =>
    unfold put
    split
    · simp; exact ih
    · split <;> simp
theorem mem_put {l : List ByteArray} {n z : ByteArray} (h : z ∈ put l n) : z ∈ l ∨ z = n := by
  induction l with
  | nil => simp [put] at h; exact .inr h
  | cons x l ih =>
    unfold put at h
    split at h
    · rcases List.mem_cons.1 h with e | e
      · exact .inl (by rw [e]; simp)
      · rcases ih e with g | g
        · exact .inl (List.mem_cons_of_mem _ g)
        · exact .inr g
    · split at h
      · exact .inl h
      · rcases List.mem_cons.1 h with e | e
        · exact .inr e
        · exact .inl e
end Go.Proofs.Ytdggffcibcggoaa.StrMath
