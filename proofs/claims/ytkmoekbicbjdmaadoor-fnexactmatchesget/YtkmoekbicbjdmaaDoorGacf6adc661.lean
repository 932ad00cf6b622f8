/- My own texts of one claim, laid together by program: PutMath, CutText, Lab, LabOk. -/
import Derived.Test.YtkmoekbicbjdmaaDoorGeeb769b86e
import Derived.Lib.Join
import Derived.Lib.Split
import Derived.Test.YtkmoekbicbjdmaaDoorShelf
import Derived.Shelf.Abstract
/- Texts with a sign between, as plain mathematics. No condition. -/
namespace Go.Proofs.YtkmoekbicbjdmaaDoor.PutMath
def joinB (ps : List ByteArray) : List UInt8 := Lib.join (ps.map (·.data.toList)) [44]
theorem joinB_nil : joinB [] = [] := rfl
theorem joinTail_snoc (sep : List UInt8) (r : List (List UInt8)) (y : List UInt8) : Lib.joinTail sep (r ++ [y]) = Lib.joinTail sep r ++ (sep ++ y) := by simp [Lib.joinTail]
theorem joinB_snoc (ps : List ByteArray) (p : ByteArray) : joinB (ps ++ [p]) = (if ps.length = 0 then [] else joinB ps ++ [44]) ++ p.data.toList := by
  unfold joinB
  cases ps with
  | nil => simp [Lib.join_one]
  | cons x r => simp [Lib.join_cons, joinTail_snoc]
theorem joinB_len (ps : List ByteArray) (M : Nat) (h : ∀ p ∈ ps, p.size ≤ M) : (joinB ps).length ≤ ps.length * (M + 1) := by
  have t : ∀ (r : List ByteArray), (∀ p ∈ r, p.size ≤ M) → (Lib.joinTail [44] (r.map (·.data.toList))).length ≤ r.length * (M + 1) := by
    intro r
    induction r with
    | nil => intro _; simp [Lib.joinTail]
    | cons x r ih =>
      intro hr
      have h1 := ih (fun p hp => hr p (List.mem_cons_of_mem _ hp))
      have h2 := hr x (List.mem_cons_self ..)
      have hl : x.data.toList.length = x.size := Array.length_toList
      have e : Lib.joinTail [44] ((x :: r).map (·.data.toList)) = [44] ++ x.data.toList ++ Lib.joinTail [44] (r.map (·.data.toList)) := by simp [Lib.joinTail]
      have e2 : (x :: r).length * (M + 1) = r.length * (M + 1) + (M + 1) := by rw [List.length_cons, Nat.add_mul, Nat.one_mul]
      rw [e, e2, List.length_append, List.length_append, hl]
      simp only [List.length_cons, List.length_nil]
      omega
  unfold joinB
  cases ps with
  | nil => simp [Lib.join_nil]
  | cons x r =>
    have h1 := t r (fun p hp => h p (List.mem_cons_of_mem _ hp))
    have h2 := h x (List.mem_cons_self ..)
    have hl : x.data.toList.length = x.size := Array.length_toList
    rw [List.map_cons, Lib.join_cons, List.length_append, List.length_cons, Nat.add_mul, hl]
    omega
theorem app_toList (a b : ByteArray) : (a ++ b).data.toList = a.data.toList ++ b.data.toList := by simp [ByteArray.data_append]
theorem of_toList (l : List UInt8) : (⟨l.toArray⟩ : ByteArray).data.toList = l := by simp
theorem size_of (l : List UInt8) : (⟨l.toArray⟩ : ByteArray).size = l.length := by simp [ByteArray.size]
/-- open, what stands between, shut -/
def wrap (o s : UInt8) (ps : List ByteArray) : ByteArray := ⟨(o :: joinB ps ++ [s]).toArray⟩
/-- the text of the loop that puts one part behind the other -/
def out (o : UInt8) (ps : List ByteArray) : ByteArray := ⟨(o :: joinB ps).toArray⟩
theorem out_size (o : UInt8) (ps : List ByteArray) : (out o ps).size = (joinB ps).length + 1 := by rw [out, size_of, List.length_cons]
theorem wrap_join (o s : UInt8) (ps : List ByteArray) : (⟨#[o]⟩ ++ (⟨(joinB ps).toArray⟩ : ByteArray)) ++ ⟨#[s]⟩ = wrap o s ps := by
  apply Go.WideShapes.bytes_inj
  rw [app_toList, app_toList]
  simp [wrap]
theorem wrap_out (o s : UInt8) (ps : List ByteArray) : out o ps ++ ⟨#[s]⟩ = wrap o s ps := by
  apply Go.WideShapes.bytes_inj
  rw [app_toList]
  simp [wrap, out]
theorem out_first (o : UInt8) : out o [] = ⟨#[o]⟩ := by simp [out, joinB_nil]
theorem out_next (o : UInt8) (ps : List ByteArray) (p q : ByteArray) (h : (if ps.length = 0 then out o ps else out o ps ++ ⟨#[44]⟩) = q) : q ++ p = out o (ps ++ [p]) := by
  subst h
  apply Go.WideShapes.bytes_inj
  have e : (out o (ps ++ [p])).data.toList = o :: joinB (ps ++ [p]) := by unfold out; rw [of_toList]
  have e0 : (out o ps).data.toList = o :: joinB ps := by unfold out; rw [of_toList]
  rw [app_toList, e, joinB_snoc]
  by_cases h0 : ps.length = 0
  · obtain rfl : ps = [] := List.eq_nil_of_length_eq_zero h0
    simp [out, joinB_nil]
  · rw [if_neg h0, if_neg h0, app_toList, e0]
    simp
theorem app_assoc (a b c : ByteArray) : a ++ b ++ c = a ++ (b ++ c) := by
  apply Go.WideShapes.bytes_inj
  rw [app_toList, app_toList, app_toList, app_toList, List.append_assoc]
theorem app_size (a b : ByteArray) : (a ++ b).size = a.size + b.size := by
  have h : ∀ x : ByteArray, x.data.toList.length = x.size := fun x => Array.length_toList
  rw [← h, ← h a, ← h b, app_toList, List.length_append]
end Go.Proofs.YtkmoekbicbjdmaaDoor.PutMath

/- Texts cut at a byte, as plain mathematics: what the library's Split and Cut come to, what is put together with a sign between is cut there again. No condition. -/
namespace Go.Proofs.YtkmoekbicbjdmaaDoor.CutText
open PutMath
set_option linter.unusedVariables false
/-- what stands ahead, put to the first piece -/
def pre (p : List UInt8) : List (List UInt8) → List (List UInt8)
  | [] => [p]
  | h :: t => (p ++ h) :: t
/-- a text cut at each byte b -/
def cutL (b : UInt8) : List UInt8 → List (List UInt8)
  | [] => [[]]
  | x :: l => if x = b then [] :: cutL b l else pre [x] (cutL b l)
theorem pre_ne (p : List UInt8) (L : List (List UInt8)) : pre p L ≠ [] := by cases L <;> simp [pre]
theorem cutL_ne (b : UInt8) (l : List UInt8) : cutL b l ≠ [] := by
  cases l with
  | nil => simp [cutL]
  | cons x l => unfold cutL; split; simp; exact pre_ne _ _
theorem pre_nil {L : List (List UInt8)} (h : L ≠ []) : pre [] L = L := by cases L with | nil => exact absurd rfl h | cons x L => rfl
theorem pre_pre (p q : List UInt8) (L : List (List UInt8)) : pre p (pre q L) = pre (p ++ q) L := by cases L <;> simp [pre]
theorem cutL_eq (b : UInt8) (l : List UInt8) : cutL b (b :: l) = [] :: cutL b l := by rw [cutL, if_pos rfl]
theorem cutL_ne' {b x : UInt8} (h : x ≠ b) (l : List UInt8) : cutL b (x :: l) = pre [x] (cutL b l) := by rw [cutL, if_neg h]
theorem cutL_app {b : UInt8} : ∀ {p : List UInt8} (r : List UInt8), b ∉ p → cutL b (p ++ r) = pre p (cutL b r)
  | [], r, _ => (pre_nil (cutL_ne b r)).symm
  | x :: p, r, h => by
    have h1 : x ≠ b := fun e => h (by rw [e]; exact List.mem_cons_self ..)
    have h2 : b ∉ p := fun e => h (List.mem_cons_of_mem _ e)
    rw [List.cons_append, cutL_ne' h1, cutL_app r h2, pre_pre]; rfl
theorem cutL_hit {b : UInt8} {p : List UInt8} (r : List UInt8) (h : b ∉ p) : cutL b (p ++ b :: r) = p :: cutL b r := by
  rw [cutL_app _ h, cutL_eq]; simp [pre]
theorem cutL_miss {b : UInt8} {p : List UInt8} (h : b ∉ p) : cutL b p = [p] := by
  have := cutL_app (b := b) (p := p) [] h
  rw [List.append_nil] at this
  rw [this]; simp [cutL, pre]
theorem cutL_len (b : UInt8) : ∀ l : List UInt8, (cutL b l).length ≤ l.length + 1
  | [] => by simp [cutL]
  | x :: l => by
    have := cutL_len b l
    unfold cutL
    split
    · simp; omega
    · cases h : cutL b l with
      | nil => simp [pre]
      | cons y L => rw [h] at this; simp [pre] at this ⊢; omega
/-- each piece is no longer than the text -/
theorem cutL_mem (b : UInt8) : ∀ (l : List UInt8), ∀ p ∈ cutL b l, p.length ≤ l.length
  | [], p, h => by simp [cutL] at h; simp [h]
  | x :: l, p, h => by
    have ih := cutL_mem b l
    unfold cutL at h
    split at h
    · rcases List.mem_cons.1 h with rfl | h
      · simp
      · have := ih p h; simp; omega
    · cases hL : cutL b l with
      | nil => rw [hL] at h; simp [pre] at h; simp [h]
      | cons y L =>
        rw [hL] at h ih
        simp only [pre, List.mem_cons] at h
        rcases h with rfl | h
        · have := ih y (List.mem_cons_self ..); simp; omega
        · have := ih p (List.mem_cons_of_mem _ h); simp; omega
/-- what is put together with a sign between is cut there again -/
theorem cutL_join {b : UInt8} : ∀ {L : List (List UInt8)}, L ≠ [] → (∀ p ∈ L, b ∉ p) → cutL b (Lib.join L [b]) = L
  | [], h, _ => absurd rfl h
  | [p], _, h => by rw [Lib.join_one]; exact cutL_miss (h p (List.mem_cons_self ..))
  | p :: q :: L, _, h => by
    have e : Lib.join (p :: q :: L) [b] = p ++ b :: Lib.join (q :: L) [b] := by simp [Lib.join_cons, Lib.joinTail]
    rw [e, cutL_hit _ (h p (List.mem_cons_self ..)), cutL_join (by simp) (fun z hz => h z (List.mem_cons_of_mem _ hz))]
theorem cutL_joinB {ps : List ByteArray} (h0 : ps ≠ []) (h : ∀ p ∈ ps, (44 : UInt8) ∉ p.data.toList) : cutL 44 (joinB ps) = ps.map (·.data.toList) := by
  unfold joinB
  refine cutL_join (by simpa using h0) (fun p hp => ?_)
  obtain ⟨x, hx, rfl⟩ := List.mem_map.1 hp
  exact h x hx
/-- where the library finds a byte -/
theorem occ_iff (s : List UInt8) (b : UInt8) (i : Nat) : Lib.occAt s [b] i = true ↔ s[i]? = some b := by
  unfold Lib.occAt
  have e : s.drop i = [] ∨ ∃ x r, s.drop i = x :: r ∧ s[i]? = some x := by
    cases h : s.drop i with
    | nil => exact .inl rfl
    | cons x r => exact .inr ⟨x, r, rfl, by have := congrArg List.head? h; rw [List.head?_drop] at this; simpa using this⟩
  rcases e with e | ⟨x, r, e, h⟩
  · rw [e]
    have : s[i]? = none := by rw [List.getElem?_eq_none]; exact List.drop_eq_nil_iff.1 e
    rw [this]; simp
  · rw [e, h]
    simp [List.isPrefixOf]
    exact eq_comm
theorem index_cases (s : List UInt8) (b : UInt8) : (Lib.index s [b] = -1 ∧ b ∉ s) ∨ ∃ p r, s = p ++ b :: r ∧ b ∉ p ∧ Lib.index s [b] = (p.length : Int) := by
  rcases Lib.index_spec s [b] with ⟨h, hn⟩ | ⟨i, h, hi, ho, hno⟩
  · refine .inl ⟨h, fun hb => ?_⟩
    obtain ⟨i, hi, e⟩ := List.getElem_of_mem hb
    have := hn i (by omega)
    have h2 := (occ_iff s b i).2 (by rw [List.getElem?_eq_getElem hi, e])
    rw [this] at h2; cases h2
  · have h3 := (occ_iff s b i).1 ho
    obtain ⟨hl, he⟩ := List.getElem?_eq_some_iff.1 h3
    refine .inr ⟨s.take i, s.drop (i + 1), ?_, fun hb => ?_, by rw [h, List.length_take]; omega⟩
    · rw [← he, List.getElem_cons_drop, List.take_append_drop]
    · obtain ⟨j, hj, e⟩ := List.getElem_of_mem hb
      rw [List.length_take] at hj
      rw [List.getElem_take] at e
      have h4 := (occ_iff s b j).2 (by rw [List.getElem?_eq_getElem (by omega), e])
      have h5 := hno j (by omega)
      rw [h5] at h4; cases h4
theorem split_eq (b : UInt8) : ∀ (n : Nat) (s : List UInt8), s.length ≤ n → Lib.splitK [b] 0 (Lib.count s [b]) s = cutL b s
  | 0, s, hn => by
    obtain rfl : s = [] := List.eq_nil_of_length_eq_zero (by omega)
    rcases index_cases [] b with ⟨h, hb⟩ | ⟨p, r, e, hb, h⟩
    · rw [Lib.count_miss h]; rfl
    · simp at e
  | n + 1, s, hn => by
    rcases index_cases s b with ⟨h, hb⟩ | ⟨p, r, rfl, hb, h⟩
    · rw [Lib.count_miss h, cutL_miss hb]; rfl
    · have hc := Lib.count_hit (s := p ++ b :: r) (sub := [b]) (i := p.length) (by simp) h
      have hd : (p ++ b :: r).drop (p.length + [b].length) = r := by
        rw [List.drop_append]; simp
      rw [hd] at hc
      rw [hc, Nat.add_comm, Lib.splitK, if_neg (by rw [h]; simp), h]
      have ht : ((p.length : Int)).toNat = p.length := rfl
      rw [ht, hd, cutL_hit _ hb, split_eq b n r (by simp at hn; omega)]
      simp
def cutB (b : UInt8) (s : ByteArray) : List ByteArray := (cutL b s.data.toList).map (fun l => ⟨l.toArray⟩)
end Go.Proofs.YtkmoekbicbjdmaaDoor.CutText

/- Letters, names, words: of the program and of the model. -/
namespace Go.Proofs.YtkmoekbicbjdmaaDoor.Lab
open Go.RowKit Rw Go.Lib
set_option linter.unusedVariables false
attribute [local go_sem ↓] Go.wp_at_zero Go.wp_at_succ
theorem notLetter_runes (w : World) : PredAtRunes Tryd.prog 69 #[] notL w := fun W r hr _ => by
  unfold FnGives
  rcases (show r < 97 ∨ (97 ≤ r ∧ r ≤ 122) ∨ (97 ≤ r ∧ 122 < r) from by omega) with h | ⟨h, h'⟩ | ⟨h, h'⟩
  · have hn : notL r = true := by unfold notL; rw [decide_eq_true h]; rfl
    have z : (r : Int) < 97 := by omega
    rw [hn]
    clear hn
    go_enter Tryd.func69, Tryd.ntmps69
    go_wp2
    go_ret
    exact ⟨rfl, 0, rfl⟩
  · have hn : notL r = false := by unfold notL; rw [decide_eq_false (by omega), decide_eq_false (by omega)]; rfl
    have z : decide ((r : Int) < 97) = false := by simp; omega
    have z2 : decide ((122 : Int) < (r : Int)) = false := by simp; omega
    rw [hn]
    clear hn
    go_enter Tryd.func69, Tryd.ntmps69
    go_wp2
    go_ret
    exact ⟨by first | rfl | exact ret_bool (decide_eq_false (by omega)), 0, rfl⟩
  · have hn : notL r = true := by unfold notL; rw [decide_eq_true h', Bool.or_true]
    have z : decide ((r : Int) < 97) = false := by simp; omega
    have z2 : (122 : Int) < (r : Int) := by omega
    rw [hn]
    clear hn
    go_enter Tryd.func69, Tryd.ntmps69
    go_wp2
    go_ret
    exact ⟨by first | rfl | exact ret_bool (decide_eq_true (by omega)), 0, rfl⟩
theorem letters_any (s : ByteArray) (w : World) : Calls Tryd.prog 66 #[.string s] w fun e w' => e = .returned (.bool (letters s)) ∧ Below w.heap.size w w' := by
  have H := hide (Tryd.strings_IndexFunc_runes 69 #[] (enters_of Tryd.func69 (by kernel_rfl) rfl) notL s w (notLetter_runes w))
  have HI := hide (idx_letters s)
  go_enter Tryd.func66, Tryd.ntmps66
  go_wp2_with fail
  refine (unhide H).mono ?_
  rintro e w1 ⟨rfl, b1⟩
  go_wp2_with fail
  go_ret
  exact ⟨ret_bool (unhide HI), b1⟩
theorem name_any (s : ByteArray) (w : World) (hs : s.size ≤ maxLen) : Calls Tryd.prog 38 #[.string s] w fun e w' => e = .returned (.bool (nameB s)) ∧ Below w.heap.size w w' := by
  unfold maxLen at hs
  have H := hide (letters_any s w)
  by_cases h1 : 1 ≤ s.size
  · by_cases h2 : s.size ≤ 6
    · have HN := hide (show nameB s = letters s by unfold nameB; rw [decide_eq_true h1, decide_eq_true h2]; rfl)
      go_enter Tryd.func38, Tryd.ntmps38
      go_wp2_with fail
      refine (unhide H).mono ?_
      rintro e w1 ⟨rfl, b1⟩
      go_wp2_with fail
      go_ret
      exact ⟨ret_bool (unhide HN).symm, b1⟩
    · have HN := hide (show nameB s = false by unfold nameB; rw [decide_eq_false h2, Bool.and_false]; rfl)
      go_enter Tryd.func38, Tryd.ntmps38
      go_wp2_with fail
      go_ret
      exact ⟨ret_bool (unhide HN).symm, Below.refl _ _⟩
  · have HN := hide (show nameB s = false by unfold nameB; rw [decide_eq_false h1]; rfl)
    go_enter Tryd.func38, Tryd.ntmps38
    go_wp2_with fail
    go_ret
    exact ⟨ret_bool (unhide HN).symm, Below.refl _ _⟩
theorem word_any (s : ByteArray) (w : World) (hs : s.size ≤ maxLen) : Calls Tryd.prog 39 #[.string s] w fun e w' => e = .returned (.bool (wordB s)) ∧ Below w.heap.size w w' := by
  unfold maxLen at hs
  have H := hide (letters_any s w)
  by_cases h2 : s.size ≤ 8
  · have HN := hide (show wordB s = letters s by unfold wordB; rw [decide_eq_true h2]; rfl)
    go_enter Tryd.func39, Tryd.ntmps39
    go_wp2_with fail
    refine (unhide H).mono ?_
    rintro e w1 ⟨rfl, b1⟩
    go_wp2_with fail
    go_ret
    exact ⟨ret_bool (unhide HN).symm, b1⟩
  · have HN := hide (show wordB s = false by unfold wordB; rw [decide_eq_false h2]; rfl)
    go_enter Tryd.func39, Tryd.ntmps39
    go_wp2_with fail
    go_ret
    exact ⟨ret_bool (unhide HN).symm, Below.refl _ _⟩
theorem take_snoc (s : ByteArray) (k : Nat) (h : k < s.size) : s.data.toList.take (k + 1) = s.data.toList.take k ++ [s[k]] := by
  rw [List.take_succ_eq_append_getElem (by simpa using h)]; rfl
set_option maxHeartbeats 1000000 in
theorem l3Letters_any (s : ByteArray) (most : Int) (w : World) (hs : s.size ≤ maxLen) : Calls Tryd.prog 41 #[.string s, .int .i64 most] w fun e w' => e = .returned (.bool (letters s && decide ((s.size : Int) ≤ most))) ∧ w' = w := by
  unfold maxLen at hs
  go_enter Tryd.func41, Tryd.ntmps41
  go_wp2
  go_loop [5] (fun i => ∃ k : Nat, k ≤ s.size ∧ i = .int .i64 k ∧ (s.data.toList.take k).all letter = true) (fun i => s.size - (intOf i).toNat)
  case atStart => exact ⟨0, Nat.zero_le _, rfl, rfl⟩
  case round =>
    obtain ⟨k, hk, rfl, hall⟩ := hrel
    have HA := hide hall
    clear hall
    by_cases hlt : k < s.size
    · have HT := hide (take_snoc s k hlt)
      have HL := hide (show letter s[k] = (decide (97 ≤ s[k].toNat) && decide (s[k].toNat ≤ 122)) from rfl)
      by_cases h1 : (s[k].toNat : Int) < 97
      · have HF := hide (show letters s = false by
          have hl : letter s[k] = false := by rw [unhide HL, decide_eq_false (by omega)]; rfl
          unfold letters
          rw [List.all_eq_false]
          exact ⟨s[k], by have : s[k] = s.data.toList[k]'(by simpa using hlt) := rfl
                          rw [this]; exact List.getElem_mem _, by simp [hl]⟩)
        go_wp2
        go_ret
        exact ⟨ret_bool (by rw [unhide HF]; rfl), rfl⟩
      · by_cases h2 : 122 < (s[k].toNat : Int)
        · have HF := hide (show letters s = false by
            have hl : letter s[k] = false := by rw [unhide HL, decide_eq_false (show ¬ s[k].toNat ≤ 122 by omega), Bool.and_false]
            unfold letters
            rw [List.all_eq_false]
            exact ⟨s[k], by have : s[k] = s.data.toList[k]'(by simpa using hlt) := rfl
                            rw [this]; exact List.getElem_mem _, by simp [hl]⟩)
          go_wp2
          go_ret
          exact ⟨ret_bool (by rw [unhide HF]; rfl), rfl⟩
        · have HS := hide (show (s.data.toList.take (k + 1)).all letter = true by
            have hl : letter s[k] = true := by rw [unhide HL, decide_eq_true (show 97 ≤ s[k].toNat by omega), decide_eq_true (show s[k].toNat ≤ 122 by omega)]; rfl
            rw [unhide HT, List.all_append, unhide HA]
            simp [hl])
          go_wp2
          go_round
          case rel => exact ⟨k + 1, by omega, by go_num, unhide HS⟩
          case measure => simp [intOf]; omega
    · have HF := hide (show letters s = true by
        have := unhide HA
        rw [List.take_of_length_le (by simp; omega)] at this
        exact this)
      go_wp2
      go_ret
      exact ⟨ret_bool (by rw [unhide HF]; rfl), rfl⟩
theorem empty_iff (s : ByteArray) : (s = ByteArray.empty) ↔ s.size = 0 := by
  constructor
  · rintro rfl; rfl
  · intro h
    cases s with
    | mk d =>
      have : d = #[] := Array.eq_empty_of_size_eq_zero h
      rw [this]; rfl
end Go.Proofs.YtkmoekbicbjdmaaDoor.Lab

/- LabelsOk, of the program and of the model, at every slice of labels. -/
namespace Go.Proofs.YtkmoekbicbjdmaaDoor.Lab
open Go.RowKit Rw
set_option linter.unusedVariables false
attribute [local go_sem ↓] Go.wp_at_zero Go.wp_at_succ
theorem run_geq (a b : ByteArray) (W : World) : (binOp .geq 9 (.string a) (.string b)).run Tryd.prog W = .ok (.bool (!ltS a b)) W := rfl
theorem not_empty {s : ByteArray} (h : s.size ≠ 0) : s.toList.isEmpty = false := by
  rw [ByteArray.toList_eq]
  have hl : s.data.toList.length = s.size := Array.length_toList
  cases hc : s.data.toList with
  | nil => rw [hc] at hl; simp at hl; omega
  | cons a l => rfl
set_option maxHeartbeats 1000000 in
theorem l3Name_any (s : ByteArray) (w : World) (hs : s.size ≤ maxLen) : Calls Tryd.prog 40 #[.string s] w fun e w' => e = .returned (.bool (nameB s)) ∧ w' = w := by
  have H := hide (l3Letters_any s 6 w hs)
  unfold maxLen at hs
  cases hl : (letters s && decide ((s.size : Int) ≤ 6))
  · have HL := hide hl
    have HN := hide (show nameB s = false by
      unfold nameB
      rw [Bool.and_eq_false_iff] at hl
      rcases hl with h | h
      · rw [h, Bool.and_false]
      · have : decide (s.size ≤ 6) = false := decide_eq_false (by have := of_decide_eq_false h; omega)
        rw [this, Bool.and_false]; rfl)
    clear hl
    go_enter Tryd.func40, Tryd.ntmps40
    go_wp2_with fail
    refine (unhide H).mono ?_
    rintro e w1 ⟨rfl, hw⟩
    subst hw
    rw [unhide HL]
    go_wp2_with fail
    go_ret
    exact ⟨ret_bool (unhide HN).symm, rfl⟩
  · have HL := hide hl
    rw [Bool.and_eq_true] at hl
    obtain ⟨hl1, hl2⟩ := hl
    by_cases h0 : s.size = 0
    · have HN := hide (show nameB s = false by unfold nameB; rw [decide_eq_false (show ¬ 1 ≤ s.size by omega)]; rfl)
      obtain rfl := (empty_iff s).2 h0
      clear hl1 hl2 h0
      go_enter Tryd.func40, Tryd.ntmps40
      go_wp2_with fail
      refine (unhide H).mono ?_
      rintro e w1 ⟨rfl, hw⟩
      subst hw
      rw [unhide HL]
      go_wp2_with fail
      go_ret
      exact ⟨ret_bool (unhide HN).symm, rfl⟩
    · have HN := hide (show nameB s = true by
        unfold nameB; rw [decide_eq_true (show 1 ≤ s.size by omega), hl1, decide_eq_true (show s.size ≤ 6 by have := of_decide_eq_true hl2; omega)]; rfl)
      have hE := not_empty h0
      clear hl1 hl2
      go_enter Tryd.func40, Tryd.ntmps40
      go_wp2_with fail
      refine (unhide H).mono ?_
      rintro e w1 ⟨rfl, hw⟩
      subst hw
      rw [unhide HL]
      go_wp2_with fail
      go_ret
      exact ⟨ret_bool (unhide HN).symm, rfl⟩
set_option maxRecDepth 100000 in
set_option maxHeartbeats 4000000 in
theorem impl_ok {w : World} {v : Value} {zs : List E} (h : Is w v zs) (hg : ∀ x ∈ zs, good x) : Calls Tryd.prog 11 #[v] w fun e w' => e = .returned (.bool (ok zs)) ∧ Below w.heap.size w w' := by
  obtain ⟨-, a, cap, rfl, hc, hm, -, hr⟩ := h
  unfold maxLen at hm
  obtain ⟨n, hn⟩ : ∃ n, n = zs.length := ⟨_, rfl⟩
  rw [← hn] at hc hr ⊢
  have HN := hide hn
  have HG := hide hg
  clear hn hg
  by_cases h1 : n < 1
  · have HF := hide (ok_of_len (zs := zs) (by have := unhide HN; omega))
    go_enter Tryd.func11, Tryd.ntmps11
    go_wp2_with fail
    go_ret
    exact ⟨ret_bool (unhide HF).symm, Below.refl _ _⟩
  by_cases h4 : 4 < n
  · have HF := hide (ok_of_len (zs := zs) (by have := unhide HN; omega))
    go_enter Tryd.func11, Tryd.ntmps11
    go_wp2_with fail
    go_ret
    exact ⟨ret_bool (unhide HF).symm, Below.refl _ _⟩
  have hd1 : decide ((n : Int) < 1) = false := by simp; omega
  have hd4 : decide ((4 : Int) < (n : Int)) = false := by simp; omega
  go_enter Tryd.func11, Tryd.ntmps11
  go_wp2_with fail
  clear hd1 hd4
  go_loopw [15] (fun i wr => ∃ k : Nat, k ≤ n ∧ i = .int .i64 k ∧ okTo zs k = true ∧ Below w.heap.size w wr) (fun i _ => n - (intOf i).toNat)
  case atStart => exact ⟨0, Nat.zero_le _, rfl, rfl, Below.refl _ _⟩
  case round =>
    obtain ⟨k, hk, rfl, hok, hbel⟩ := hrel
    have HO := hide hok
    clear hok
    have hsz := hbel.size
    by_cases hlt : k < n
    · obtain ⟨b, off, rfl, hl, hcells⟩ := hr (by omega)
      have fa := flat_at zs k (by have := unhide HN; omega)
      have gd := unhide HG (at' zs k) (by rw [at_get zs k (by have := unhide HN; omega)]; exact List.getElem_mem _)
      obtain ⟨A, B, hX⟩ : ∃ A B, (A, B) = at' zs k := ⟨_, _, rfl⟩
      rw [← hX] at fa gd
      obtain ⟨gA, gB⟩ := gd
      have hc0 : wr.cell? ⟨b, off + k * 2, none⟩ = some (.string A) := (hbel.cell (p := ⟨b, _, none⟩) hl).trans (hcells (k * 2) _ fa.1)
      have hc1 : wr.cell? ⟨b, off + k * 2 + 1, none⟩ = some (.string B) := (hbel.cell (p := ⟨b, _, none⟩) hl).trans (hcells (k * 2 + 1) _ fa.2)
      have HX := hide hX
      clear hX fa
      have hk0 : (0 : Int) ≤ (k : Int) := Int.natCast_nonneg _
      have hk1 : (k : Int) < (n : Int) := by omega
      obtain ⟨W, hW⟩ : ∃ W, W = wr.alloc (.cells #[.string A, .string B] 47) := ⟨_, rfl⟩
      have hWb : Below w.heap.size w W := by rw [hW]; exact hbel.alloc hsz _
      have hW0 : W.cell? ⟨wr.heap.size, 0, none⟩ = some (.string A) := by rw [hW]; simp
      have hW1 : W.cell? ⟨wr.heap.size, 1, none⟩ = some (.string B) := by rw [hW]; simp
      have hWs : W.heap.size = wr.heap.size + 1 := by rw [hW]; simp
      have dW : Below wr.heap.size wr W := by rw [hW]; exact (Below.refl _ _).alloc (Nat.le_refl _) _
      have HWs := hide hWs
      have HW := hide hW
      clear hW hWs
      have hN := fun X => name_any A X gA
      have hWd := fun X => word_any B X gB
      have HNm := hide hN
      have HWd := hide hWd
      clear hN hWd gA gB
      go_wp2_with fail
      rw [← unhide HW]
      refine (unhide HNm W).mono ?_
      rintro e w1 ⟨rfl, b1⟩
      have hw1 : w1.cell? ⟨wr.heap.size, 1, none⟩ = some (.string B) := (b1.cell (p := ⟨_, _, none⟩) (by have := unhide HWs; show wr.heap.size < _; omega)).trans hW1
      have hw0 : w1.cell? ⟨wr.heap.size, 0, none⟩ = some (.string A) := (b1.cell (p := ⟨_, _, none⟩) (by have := unhide HWs; show wr.heap.size < _; omega)).trans hW0
      have c1 := hWb.trans (b1.mono hWb.size)
      cases hnm : nameB A
      · have HF := hide (ok_of_bad (zs := zs) (k := k) (by have := unhide HN; omega) (step_name (by rw [← unhide HX]; exact hnm)))
        clear hnm
        go_wp2_with fail
        go_ret
        exact ⟨ret_bool (unhide HF).symm, c1⟩
      have KN := hide hnm
      clear hnm
      go_wp2_with fail
      refine (unhide HWd w1).mono ?_
      rintro e w2 ⟨rfl, b2⟩
      have s1 := b1.size
      have hv1 : w2.cell? ⟨wr.heap.size, 1, none⟩ = some (.string B) := (b2.cell (p := ⟨_, _, none⟩) (by have := unhide HWs; show wr.heap.size < _; omega)).trans hw1
      have hv0 : w2.cell? ⟨wr.heap.size, 0, none⟩ = some (.string A) := (b2.cell (p := ⟨_, _, none⟩) (by have := unhide HWs; show wr.heap.size < _; omega)).trans hw0
      have c2 := c1.trans (b2.mono c1.size)
      have s2 := b2.size
      have d1 := dW.trans (b1.mono (by have := unhide HWs; omega))
      have d2 := d1.trans (b2.mono (by have := unhide HWs; omega))
      clear hW0 hW1 hw0 hw1 b1 b2
      cases hwd : wordB B
      · have HF := hide (ok_of_bad (zs := zs) (k := k) (by have := unhide HN; omega) (step_word (by rw [← unhide HX]; exact hwd)))
        clear hwd
        go_wp2_with fail
        go_ret
        exact ⟨ret_bool (unhide HF).symm, c2⟩
      have KW := hide hwd
      clear hwd
      by_cases hB0 : B.size = 0
      · have HF := hide (ok_of_bad (zs := zs) (k := k) (by have := unhide HN; omega) (step_empty (by rw [← unhide HX]; exact hB0)))
        obtain rfl := (empty_iff B).2 hB0
        go_wp2_with fail
        go_ret
        exact ⟨ret_bool (unhide HF).symm, c2⟩
      have hE := not_empty hB0
      by_cases hk00 : k = 0
      · have HS := hide (show okTo zs (k + 1) = true by rw [okTo_succ, unhide HO, step_yes (by rw [← unhide HX]; exact unhide KN) (by rw [← unhide HX]; exact unhide KW) (by rw [← unhide HX]; show 0 < B.size; omega) (.inl hk00)]; rfl)
        have hd : decide ((0 : Int) < (k : Int)) = false := by simp; omega
        have hd2 : decide (0 < k) = false := by simp; omega
        clear hk00
        have hne := cls_nonempty w2.heap.size w2
        go_wp2_with fail
        refine region_cls (by kernel_rfl) (by kernel_rfl) ?_
        repeat (go_big_quiet_step (fail))
        refine wpQuiet_nil ?_
        rintro wq ⟨⟨_, hq⟩, rfl⟩
        go_wp2
        go_roundw
        case rel => exact ⟨k + 1, by omega, by go_num, unhide HS, c2.trans (hq.mono c2.size)⟩
        case measure => simp [intOf]; omega
      · have hkp : 0 < k := by omega
        have hkp' : (0 : Int) < (k : Int) := by omega
        have fp := (flat_at zs (k - 1) (by have := unhide HN; omega)).1
        obtain ⟨P, hP⟩ : ∃ P, P = (at' zs (k - 1)).1 := ⟨_, rfl⟩
        rw [← hP] at fp
        have hqp : ∀ x : Cls w2.heap.size w2, x.val.cell? ⟨b, off + (k - 1) * 2, none⟩ = some (.string P) := fun x => by
          rw [x.cell (by have := d2.size; omega)]
          exact (d2.cell (p := ⟨b, _, none⟩) (show b < wr.heap.size by omega)).trans ((hbel.cell (p := ⟨b, _, none⟩) hl).trans (hcells ((k - 1) * 2) _ fp))
        have hq0 : ∀ x : Cls w2.heap.size w2, x.val.cell? ⟨wr.heap.size, 0, none⟩ = some (.string A) := fun x => by
          rw [x.cell (by have := unhide HWs; omega)]
          exact hv0
        have HP := hide hP
        clear hP fp
        have hne := cls_nonempty w2.heap.size w2
        cases hlt2 : ltS P A
        · have HF := hide (ok_of_bad (zs := zs) (k := k) (by have := unhide HN; omega) (step_late (by omega) (by rw [← unhide HX, ← unhide HP]; exact hlt2)))
          have hlt3 : ∀ W, (binOp .geq 9 (.string P) (.string A)).run Tryd.prog W = .ok (.bool true) W := fun W => by rw [run_geq, hlt2]; rfl
          clear hlt2
          go_wp2_with fail
          refine region_cls (by kernel_rfl) (by kernel_rfl) ?_
          repeat (go_big_quiet_step (fail))
          refine wpQuiet_nil ?_
          rintro wq ⟨⟨_, hq⟩, rfl⟩
          go_wp2
          go_ret
          exact ⟨ret_bool (unhide HF).symm, c2.trans (hq.mono c2.size)⟩
        · have HS := hide (show okTo zs (k + 1) = true by rw [okTo_succ, unhide HO, step_yes (by rw [← unhide HX]; exact unhide KN) (by rw [← unhide HX]; exact unhide KW) (by rw [← unhide HX]; show 0 < B.size; omega) (.inr (by rw [← unhide HX, ← unhide HP]; exact hlt2))]; rfl)
          have hlt3 : ∀ W, (binOp .geq 9 (.string P) (.string A)).run Tryd.prog W = .ok (.bool false) W := fun W => by rw [run_geq, hlt2]; rfl
          clear hlt2
          go_wp2_with fail
          refine region_cls (by kernel_rfl) (by kernel_rfl) ?_
          repeat (go_big_quiet_step (fail))
          refine wpQuiet_nil ?_
          rintro wq ⟨⟨_, hq⟩, rfl⟩
          go_wp2
          go_roundw
          case rel => exact ⟨k + 1, by omega, by go_num, unhide HS, c2.trans (hq.mono c2.size)⟩
          case measure => simp [intOf]; omega
    · have HF := hide (ok_all (zs := zs) (by have := unhide HN; omega) (by have := unhide HN; omega) (by rw [← unhide HN, show n = k from by omega]; exact unhide HO))
      go_wp2_with fail
      go_ret
      exact ⟨ret_bool (unhide HF).symm, hbel⟩
end Go.Proofs.YtkmoekbicbjdmaaDoor.Lab
