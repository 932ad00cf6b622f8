/- Texts cut at a byte, as plain mathematics: what the library's Split and Cut come to, what is put together with a sign between is cut there again. No condition. -/
import Derived.Test.YtkmoekbicbjdmaaDoorPutMath
import Derived.Lib.Split
namespace Go.Proofs.YtkmoekbicbjdmaaDoor.CutText
open PutMath
set_option linter.unusedVariables false
/-- what stands ahead, put to the first piece -/
def pre (p : List UInt8) : List (List UInt8) → List (List UInt8)
  | [] => [p]
  | h :: t => (p ++ h) :: t
/-- a text cut at each byte b -/
def cutL (b : UInt8) : List UInt8 → List (List UInt8)
  | [] => [[]]
  | x :: l => if x = b then [] :: cutL b l else pre [x] (cutL b l)
theorem pre_ne (p : List UInt8) (L : List (List UInt8)) : pre p L ≠ [] := by cases L <;> simp [pre]
theorem cutL_ne (b : UInt8) (l : List UInt8) : cutL b l ≠ [] := by
  cases l with
  | nil => simp [cutL]
  | cons x l => unfold cutL; split; simp; exact pre_ne _ _
theorem pre_nil {L : List (List UInt8)} (h : L ≠ []) : pre [] L = L := by cases L with | nil => exact absurd rfl h | cons x L => rfl
theorem pre_pre (p q : List UInt8) (L : List (List UInt8)) : pre p (pre q L) = pre (p ++ q) L := by cases L <;> simp [pre]
theorem cutL_eq (b : UInt8) (l : List UInt8) : cutL b (b :: l) = [] :: cutL b l := by rw [cutL, if_pos rfl]
theorem cutL_ne' {b x : UInt8} (h : x ≠ b) (l : List UInt8) : cutL b (x :: l) = pre [x] (cutL b l) := by rw [cutL, if_neg h]
theorem cutL_app {b : UInt8} : ∀ {p : List UInt8} (r : List UInt8), b ∉ p → cutL b (p ++ r) = pre p (cutL b r)
  | [], r, _ => (pre_nil (cutL_ne b r)).symm
  | x :: p, r, h => by
    have h1 : x ≠ b := fun e => h (by rw [e]; exact List.mem_cons_self ..)
    have h2 : b ∉ p := fun e => h (List.mem_cons_of_mem _ e)
    rw [List.cons_append, cutL_ne' h1, cutL_app r h2, pre_pre]; rfl
theorem cutL_hit {b : UInt8} {p : List UInt8} (r : List UInt8) (h : b ∉ p) : cutL b (p ++ b :: r) = p :: cutL b r := by
  rw [cutL_app _ h, cutL_eq]; simp [pre]
theorem cutL_miss {b : UInt8} {p : List UInt8} (h : b ∉ p) : cutL b p = [p] := by
  have := cutL_app (b := b) (p := p) [] h
  rw [List.append_nil] at this
  rw [this]; simp [cutL, pre]
theorem cutL_len (b : UInt8) : ∀ l : List UInt8, (cutL b l).length ≤ l.length + 1
  | [] => by simp [cutL]
  | x :: l => by
    have := cutL_len b l
    unfold cutL
    split
    · simp; omega
    · cases h : cutL b l with
      | nil => simp [pre]
      | cons y L => rw [h] at this; simp [pre] at this ⊢; omega
/-- each piece is no longer than the text -/
theorem cutL_mem (b : UInt8) : ∀ (l : List UInt8), ∀ p ∈ cutL b l, p.length ≤ l.length
  | [], p, h => by simp [cutL] at h; simp [h]
  | x :: l, p, h => by
    have ih := cutL_mem b l
    unfold cutL at h
    split at h
    · rcases List.mem_cons.1 h with rfl | h
      · simp
      · have := ih p h; simp; omega
    · cases hL : cutL b l with
      | nil => rw [hL] at h; simp [pre] at h; simp [h]
      | cons y L =>
        rw [hL] at h ih
        simp only [pre, List.mem_cons] at h
        rcases h with rfl | h
        · have := ih y (List.mem_cons_self ..); simp; omega
        · have := ih p (List.mem_cons_of_mem _ h); simp; omega
/-- what is put together with a sign between is cut there again -/
theorem cutL_join {b : UInt8} : ∀ {L : List (List UInt8)}, L ≠ [] → (∀ p ∈ L, b ∉ p) → cutL b (Lib.join L [b]) = L
  | [], h, _ => absurd rfl h
  | [p], _, h => by rw [Lib.join_one]; exact cutL_miss (h p (List.mem_cons_self ..))
  | p :: q :: L, _, h => by
    have e : Lib.join (p :: q :: L) [b] = p ++ b :: Lib.join (q :: L) [b] := by simp [Lib.join_cons, Lib.joinTail]
    rw [e, cutL_hit _ (h p (List.mem_cons_self ..)), cutL_join (by simp) (fun z hz => h z (List.mem_cons_of_mem _ hz))]
theorem cutL_joinB {ps : List ByteArray} (h0 : ps ≠ []) (h : ∀ p ∈ ps, (44 : UInt8) ∉ p.data.toList) : cutL 44 (joinB ps) = ps.map (·.data.toList) := by
  unfold joinB
  refine cutL_join (by simpa using h0) (fun p hp => ?_)
  obtain ⟨x, hx, rfl⟩ := List.mem_map.1 hp
  exact h x hx
/-- where the library finds a byte -/
theorem occ_iff (s : List UInt8) (b : UInt8) (i : Nat) : Lib.occAt s [b] i = true ↔ s[i]? = some b := by
  unfold Lib.occAt
  have e : s.drop i = [] ∨ ∃ x r, s.drop i = x :: r ∧ s[i]? = some x := by
    cases h : s.drop i with
    | nil => exact .inl rfl
    | cons x r => exact .inr ⟨x, r, rfl, by have := congrArg List.head? h; rw [List.head?_drop] at this; simpa using this⟩
  rcases e with e | ⟨x, r, e, h⟩
  · rw [e]
    have : s[i]? = none := by rw [List.getElem?_eq_none]; exact List.drop_eq_nil_iff.1 e
    rw [this]; simp
  · rw [e, h]
    simp [List.isPrefixOf]
    exact eq_comm
theorem index_cases (s : List UInt8) (b : UInt8) : (Lib.index s [b] = -1 ∧ b ∉ s) ∨ ∃ p r, s = p ++ b :: r ∧ b ∉ p ∧ Lib.index s [b] = (p.length : Int) := by
  rcases Lib.index_spec s [b] with ⟨h, hn⟩ | ⟨i, h, hi, ho, hno⟩
  · refine .inl ⟨h, fun hb => ?_⟩
    obtain ⟨i, hi, e⟩ := List.getElem_of_mem hb
    have := hn i (by omega)
    have h2 := (occ_iff s b i).2 (by rw [List.getElem?_eq_getElem hi, e])
    rw [this] at h2; cases h2
  · have h3 := (occ_iff s b i).1 ho
    obtain ⟨hl, he⟩ := List.getElem?_eq_some_iff.1 h3
    refine .inr ⟨s.take i, s.drop (i + 1), ?_, fun hb => ?_, by rw [h, List.length_take]; omega⟩
    · rw [← he, List.getElem_cons_drop, List.take_append_drop]
    · obtain ⟨j, hj, e⟩ := List.getElem_of_mem hb
      rw [List.length_take] at hj
      rw [List.getElem_take] at e
      have h4 := (occ_iff s b j).2 (by rw [List.getElem?_eq_getElem (by omega), e])
      have h5 := hno j (by omega)
      rw [h5] at h4; cases h4
theorem split_eq (b : UInt8) : ∀ (n : Nat) (s : List UInt8), s.length ≤ n → Lib.splitK [b] 0 (Lib.count s [b]) s = cutL b s
  | 0, s, hn => by
    obtain rfl : s = [] := List.eq_nil_of_length_eq_zero (by omega)
    rcases index_cases [] b with ⟨h, hb⟩ | ⟨p, r, e, hb, h⟩
    · rw [Lib.count_miss h]; rfl
    · simp at e
  | n + 1, s, hn => by
    rcases index_cases s b with ⟨h, hb⟩ | ⟨p, r, rfl, hb, h⟩
    · rw [Lib.count_miss h, cutL_miss hb]; rfl
    · have hc := Lib.count_hit (s := p ++ b :: r) (sub := [b]) (i := p.length) (by simp) h
      have hd : (p ++ b :: r).drop (p.length + [b].length) = r := by
        rw [List.drop_append]; simp
      rw [hd] at hc
      rw [hc, Nat.add_comm, Lib.splitK, if_neg (by rw [h]; simp), h]
      have ht : ((p.length : Int)).toNat = p.length := rfl
      rw [ht, hd, cutL_hit _ hb, split_eq b n r (by simp at hn; omega)]
      simp
def cutB (b : UInt8) (s : ByteArray) : List ByteArray := (cutL b s.data.toList).map (fun l => ⟨l.toArray⟩)
end Go.Proofs.YtkmoekbicbjdmaaDoor.CutText
