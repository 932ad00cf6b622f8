/- My own texts of one claim, laid together by program: TabMath, RecMath, PutMath, CutText. -/
import Derived.Test.YtamjliaeikoemaaDoorG57b88db0fb
import Derived.Test.YtamjliaeikoemaaDoorG9087951762
import Derived.Test.YtamjliaeikoemaaDoorG78c638bd78
import Derived.Test.YtamjliaeikoemaaDoorG41cde8b93c
import Derived.Lib.Join
import Derived.Lib.Split
/- Tables that are ok, as plain mathematics. No condition. -/
namespace Go.Proofs.YtamjliaeikoemaaDoor.Row
open Go.RowKit Rw
def inT (f t : Int) (x : Int × Int) : Bool := decide (f ≤ x.1) && decide (x.1 < t)
def within1 (l : List (Int × Int)) (f t : Int) : Bool := l.all (inT f t)
def within (zs : List E) (f t : Int) : Bool := zs.all fun x => within1 x.2 f t
theorem within_bad {zs : List E} {f t : Int} {j : Nat} (hj : j < zs.length) (h : within1 (at' zs j).2 f t = false) : within zs f t = false := by
  unfold within
  rw [List.all_eq_false]
  exact ⟨at' zs j, at_mem zs j hj, by rw [h]; simp⟩
theorem within1_bad {l : List (Int × Int)} {f t : Int} {k : Nat} (hk : k < l.length) (h : (Sam.at' l k).1 < f ∨ t ≤ (Sam.at' l k).1) : within1 l f t = false := by
  unfold within1
  rw [List.all_eq_false]
  refine ⟨Sam.at' l k, by rw [Sam.at_get l k hk]; exact List.getElem_mem _, ?_⟩
  unfold inT
  simp only [Bool.and_eq_true, decide_eq_true_eq]
  omega
theorem within1_snoc {l : List (Int × Int)} {f t : Int} {k : Nat} (hk : k < l.length) (h : within1 (l.take k) f t = true) (h1 : f ≤ (Sam.at' l k).1) (h2 : (Sam.at' l k).1 < t) : within1 (l.take (k + 1)) f t = true := by
  unfold within1 at *
  rw [Sam.at_snoc l k hk, List.all_append, h]
  simp [inT, h1, h2]
theorem within_snoc {zs : List E} {f t : Int} {j : Nat} (hj : j < zs.length) (h : within (zs.take j) f t = true) (h1 : within1 (at' zs j).2 f t = true) : within (zs.take (j + 1)) f t = true := by
  unfold within at *
  rw [at_snoc zs j hj, List.all_append, h]
  simp [h1]
/-- the latest time, and the earliest one, of rows that all have some -/
def lastOf (l : List (Int × Int)) : Int := (Sam.at' l (l.length - 1)).1
def firstOf (l : List (Int × Int)) : Int := (Sam.at' l 0).1
def lastR (zs : List E) : Int := zs.foldl (fun a x => if a < lastOf x.2 then lastOf x.2 else a) (-1)
def firstR (zs : List E) : Int := zs.foldl (fun a x => if firstOf x.2 < a then firstOf x.2 else a) 10000
theorem lastR_snoc (zs : List E) (j : Nat) (h : j < zs.length) : lastR (zs.take (j + 1)) = if lastR (zs.take j) < lastOf (at' zs j).2 then lastOf (at' zs j).2 else lastR (zs.take j) := by
  unfold lastR
  rw [at_snoc zs j h, List.foldl_append]
  rfl
theorem firstR_snoc (zs : List E) (j : Nat) (h : j < zs.length) : firstR (zs.take (j + 1)) = if firstOf (at' zs j).2 < firstR (zs.take j) then firstOf (at' zs j).2 else firstR (zs.take j) := by
  unfold firstR
  rw [at_snoc zs j h, List.foldl_append]
  rfl
theorem lastR_le (zs : List E) (H : Int) : ∀ n, n ≤ zs.length → (lastR (zs.take n) ≤ H ↔ -1 ≤ H ∧ ∀ j, j < n → lastOf (at' zs j).2 ≤ H)
  | 0, _ => by simp [lastR]
  | n + 1, hn => by
    rw [lastR_snoc zs n (by omega)]
    have ih := lastR_le zs H n (by omega)
    constructor
    · intro h
      have h1 : lastR (zs.take n) ≤ H ∧ lastOf (at' zs n).2 ≤ H := by split at h <;> constructor <;> omega
      have h2 := ih.1 h1.1
      refine ⟨h2.1, fun j hj => ?_⟩
      by_cases e : j = n
      · subst e; exact h1.2
      · exact h2.2 j (by omega)
    · intro h
      have h1 := ih.2 ⟨h.1, fun j hj => h.2 j (by omega)⟩
      have h2 := h.2 n (by omega)
      split <;> omega
theorem firstR_ge (zs : List E) (F : Int) : ∀ n, n ≤ zs.length → (F ≤ firstR (zs.take n) ↔ F ≤ 10000 ∧ ∀ j, j < n → F ≤ firstOf (at' zs j).2)
  | 0, _ => by simp [firstR]
  | n + 1, hn => by
    rw [firstR_snoc zs n (by omega)]
    have ih := firstR_ge zs F n (by omega)
    constructor
    · intro h
      have h1 : F ≤ firstR (zs.take n) ∧ F ≤ firstOf (at' zs n).2 := by split at h <;> constructor <;> omega
      have h2 := ih.1 h1.1
      refine ⟨h2.1, fun j hj => ?_⟩
      by_cases e : j = n
      · subst e; exact h1.2
      · exact h2.2 j (by omega)
    · intro h
      have h1 := ih.2 ⟨h.1, fun j hj => h.2 j (by omega)⟩
      have h2 := h.2 n (by omega)
      split <;> omega
theorem within1_iff {l : List (Int × Int)} (hok : SampMath.ok l = true) (h1 : 1 ≤ l.length) (F T : Int) : within1 l F T = true ↔ F ≤ firstOf l ∧ lastOf l < T := by
  unfold within1
  rw [List.all_eq_true]
  constructor
  · intro h
    have a := h (Sam.at' l 0) (by rw [Sam.at_get l 0 (by omega)]; exact List.getElem_mem _)
    have b := h (Sam.at' l (l.length - 1)) (by rw [Sam.at_get l (l.length - 1) (by omega)]; exact List.getElem_mem _)
    unfold inT at a b
    simp only [Bool.and_eq_true, decide_eq_true_eq] at a b
    exact ⟨a.1, b.2⟩
  · rintro ⟨ha, hb⟩ x hx
    obtain ⟨i, hi, rfl⟩ := List.getElem_of_mem hx
    have e : l[i] = SampMath.at' l i := by simp [SampMath.at', List.getD, hi]
    have f0 : firstOf l ≤ (SampMath.at' l i).1 := by
      show (SampMath.at' l 0).1 ≤ _
      rcases Nat.eq_zero_or_pos i with h | h
      · subst h; exact Int.le_refl _
      · exact Int.le_of_lt (SampMath.ok_lt hok h hi)
    have f1 : (SampMath.at' l i).1 ≤ lastOf l := by
      show _ ≤ (SampMath.at' l (l.length - 1)).1
      rcases Nat.lt_or_ge i (l.length - 1) with h | h
      · exact Int.le_of_lt (SampMath.ok_lt hok h (by omega))
      · have : i = l.length - 1 := by omega
        subst this; exact Int.le_refl _
    unfold inT
    simp only [Bool.and_eq_true, decide_eq_true_eq]
    rw [e]
    exact ⟨by omega, by omega⟩
theorem within_iff {zs : List E} (hok : ok zs = true) {H F : Int} (hH : -1 ≤ H) (hF : F ≤ 10000) : within zs F (H + 1) = true ↔ lastR zs ≤ H ∧ F ≤ firstR zs := by
  have e1 := lastR_le zs H zs.length (Nat.le_refl _)
  have e2 := firstR_ge zs F zs.length (Nat.le_refl _)
  rw [List.take_of_length_le (Nat.le_refl _)] at e1 e2
  rw [e1, e2]
  have hs := fun (j : Nat) (hj : j < zs.length) => step_is (ok_at hok hj)
  unfold within
  rw [List.all_eq_true]
  constructor
  · intro h
    have g : ∀ j, j < zs.length → F ≤ firstOf (at' zs j).2 ∧ lastOf (at' zs j).2 < H + 1 := fun j hj => (within1_iff (hs j hj).2.2.2 (hs j hj).2.1 F (H + 1)).1 (h _ (at_mem zs j hj))
    exact ⟨⟨hH, fun j hj => by have := (g j hj).2; omega⟩, hF, fun j hj => (g j hj).1⟩
  · rintro ⟨⟨_, h1⟩, _, h2⟩ x hx
    obtain ⟨j, hj, rfl⟩ := List.getElem_of_mem hx
    rw [← at_get zs j hj]
    exact (within1_iff (hs j hj).2.2.2 (hs j hj).2.1 F (H + 1)).2 ⟨h2 j hj, by have := h1 j hj; omega⟩
def floorB (F : Int) : Bool := decide (0 ≤ F) && decide (F ≤ 9999) && decide (F.tmod 100 = 0)
def tableB (zs : List E) (H F : Int) : Bool := decide (-1 ≤ H) && decide (H ≤ 9999) && floorB F && (decide (F = 0) || decide (F ≤ H)) && ok zs && within zs F (H + 1)
end Go.Proofs.YtamjliaeikoemaaDoor.Row

/- Records that are ok, as plain mathematics. No condition. -/
namespace Go.Proofs.YtamjliaeikoemaaDoor.Ent
open Go.RowKit Rw
def entB (x : E) : Bool := Lab.ok x.1 && SampMath.inR x.2.1 x.2.2
def batchB (zs : List E) : Bool := zs.all entB && (decide (1 ≤ zs.length) && decide (zs.length ≤ 6))
theorem all_snoc {zs : List E} {j : Nat} (hj : j < zs.length) (h : (zs.take j).all entB = true) (h1 : Lab.ok (at' zs j).1 = true) (h2 : SampMath.inR (at' zs j).2.1 (at' zs j).2.2 = true) : (zs.take (j + 1)).all entB = true := by
  rw [at_snoc zs j hj, List.all_append, h]
  simp [entB, h1, h2]
theorem all_bad {zs : List E} {j : Nat} (hj : j < zs.length) (h : Lab.ok (at' zs j).1 = false ∨ SampMath.inR (at' zs j).2.1 (at' zs j).2.2 = false) : batchB zs = false := by
  unfold batchB
  rw [Bool.and_eq_false_iff]
  left
  rw [List.all_eq_false]
  refine ⟨at' zs j, at_mem zs j hj, ?_⟩
  unfold entB
  rcases h with h | h <;> simp [h]
theorem batch_yes {zs : List E} (h : zs.all entB = true) (h1 : 1 ≤ zs.length) (h2 : zs.length ≤ 6) : batchB zs = true := by unfold batchB; rw [h, decide_eq_true h1, decide_eq_true h2]; rfl
theorem batch_no {zs : List E} (h : zs.length < 1 ∨ 6 < zs.length) : batchB zs = false := by
  unfold batchB
  rcases h with h | h
  · rw [decide_eq_false (show ¬ 1 ≤ zs.length by omega)]; simp
  · rw [decide_eq_false (show ¬ zs.length ≤ 6 by omega)]; simp
theorem sam_one (t v : Int) : SampMath.ok [(t, v)] = SampMath.inR t v := by simp [SampMath.ok, SampMath.okTo, SampMath.stepOk, SampMath.at', List.range_succ]
end Go.Proofs.YtamjliaeikoemaaDoor.Ent
namespace Go.Proofs.YtamjliaeikoemaaDoor.Rec
open Go.RowKit Rw
def timesB (f t : Int) : Bool := Zig.inB f 0 9999 && Zig.inB t f 10000
theorem times_yes {f t : Int} (h1 : 0 ≤ f) (h2 : f ≤ 9999) (h3 : f ≤ t) (h4 : t ≤ 10000) : timesB f t = true := by unfold timesB; rw [Samp.inB_true h1 h2, Samp.inB_true h3 h4]; rfl
theorem times_no {f t : Int} (h : f < 0 ∨ 9999 < f ∨ t < f ∨ 10000 < t) : timesB f t = false := by
  unfold timesB
  rcases h with h | h | h | h
  · rw [Samp.inB_false (.inl h)]; rfl
  · rw [Samp.inB_false (.inr h)]; rfl
  · rw [Samp.inB_false (n := t) (.inl h)]; simp
  · rw [Samp.inB_false (n := t) (.inr h)]; simp
def recB (x : E) : Bool :=
  (decide (x.1 = 1) && (Ent.batchB x.2.1 && decide (x.2.2.1.length = 0) && decide (x.2.2.2.1 = 0) && decide (x.2.2.2.2 = 0))) ||
  (decide (x.1 = 2) && (decide (x.2.1.length = 0) && Mat.ok x.2.2.1 && timesB x.2.2.2.1 x.2.2.2.2)) ||
  (decide (x.1 = 3) && (decide (x.2.1.length = 0) && decide (x.2.2.1.length = 0) && Row.floorB x.2.2.2.1 && decide (x.2.2.2.2 = 0)))
theorem rec_none {x : E} (h1 : ¬ x.1 = 1) (h2 : ¬ x.1 = 2) (h3 : ¬ x.1 = 3) : recB x = false := by unfold recB; rw [decide_eq_false h1, decide_eq_false h2, decide_eq_false h3]; rfl
theorem rec_add {x : E} (h : x.1 = 1) : recB x = (Ent.batchB x.2.1 && decide (x.2.2.1.length = 0) && decide (x.2.2.2.1 = 0) && decide (x.2.2.2.2 = 0)) := by unfold recB; rw [h]; simp
theorem rec_drop {x : E} (h : x.1 = 2) : recB x = (decide (x.2.1.length = 0) && Mat.ok x.2.2.1 && timesB x.2.2.2.1 x.2.2.2.2) := by unfold recB; rw [h]; simp
theorem rec_keep {x : E} (h : x.1 = 3) : recB x = (decide (x.2.1.length = 0) && decide (x.2.2.1.length = 0) && Row.floorB x.2.2.2.1 && decide (x.2.2.2.2 = 0)) := by unfold recB; rw [h]; simp
end Go.Proofs.YtamjliaeikoemaaDoor.Rec

/- Texts with a sign between, as plain mathematics. No condition. -/
namespace Go.Proofs.YtamjliaeikoemaaDoor.PutMath
def joinB (ps : List ByteArray) : List UInt8 := Lib.join (ps.map (·.data.toList)) [44]
theorem joinB_nil : joinB [] = [] := rfl
theorem joinTail_snoc (sep : List UInt8) (r : List (List UInt8)) (y : List UInt8) : Lib.joinTail sep (r ++ [y]) = Lib.joinTail sep r ++ (sep ++ y) := by simp [Lib.joinTail]
theorem joinB_snoc (ps : List ByteArray) (p : ByteArray) : joinB (ps ++ [p]) = (if ps.length = 0 then [] else joinB ps ++ [44]) ++ p.data.toList := by
  unfold joinB
  cases ps with
  | nil => simp [Lib.join_one]
  | cons x r => simp [Lib.join_cons, joinTail_snoc]
theorem joinB_len (ps : List ByteArray) (M : Nat) (h : ∀ p ∈ ps, p.size ≤ M) : (joinB ps).length ≤ ps.length * (M + 1) := by
  have t : ∀ (r : List ByteArray), (∀ p ∈ r, p.size ≤ M) → (Lib.joinTail [44] (r.map (·.data.toList))).length ≤ r.length * (M + 1) := by
    intro r
    induction r with
    | nil => intro _; simp [Lib.joinTail]
    | cons x r ih =>
      intro hr
      have h1 := ih (fun p hp => hr p (List.mem_cons_of_mem _ hp))
      have h2 := hr x (List.mem_cons_self ..)
      have hl : x.data.toList.length = x.size := Array.length_toList
      have e : Lib.joinTail [44] ((x :: r).map (·.data.toList)) = [44] ++ x.data.toList ++ Lib.joinTail [44] (r.map (·.data.toList)) := by simp [Lib.joinTail]
      have e2 : (x :: r).length * (M + 1) = r.length * (M + 1) + (M + 1) := by rw [List.length_cons, Nat.add_mul, Nat.one_mul]
      rw [e, e2, List.length_append, List.length_append, hl]
      simp only [List.length_cons, List.length_nil]
      omega
  unfold joinB
  cases ps with
  | nil => simp [Lib.join_nil]
  | cons x r =>
    have h1 := t r (fun p hp => h p (List.mem_cons_of_mem _ hp))
    have h2 := h x (List.mem_cons_self ..)
    have hl : x.data.toList.length = x.size := Array.length_toList
    rw [List.map_cons, Lib.join_cons, List.length_append, List.length_cons, Nat.add_mul, hl]
    omega
theorem app_toList (a b : ByteArray) : (a ++ b).data.toList = a.data.toList ++ b.data.toList := by simp [ByteArray.data_append]
theorem of_toList (l : List UInt8) : (⟨l.toArray⟩ : ByteArray).data.toList = l := by simp
theorem size_of (l : List UInt8) : (⟨l.toArray⟩ : ByteArray).size = l.length := by simp [ByteArray.size]
/-- open, what stands between, shut -/
def wrap (o s : UInt8) (ps : List ByteArray) : ByteArray := ⟨(o :: joinB ps ++ [s]).toArray⟩
/-- the text of the loop that puts one part behind the other -/
def out (o : UInt8) (ps : List ByteArray) : ByteArray := ⟨(o :: joinB ps).toArray⟩
theorem out_size (o : UInt8) (ps : List ByteArray) : (out o ps).size = (joinB ps).length + 1 := by rw [out, size_of, List.length_cons]
theorem wrap_join (o s : UInt8) (ps : List ByteArray) : (⟨#[o]⟩ ++ (⟨(joinB ps).toArray⟩ : ByteArray)) ++ ⟨#[s]⟩ = wrap o s ps := by
  apply Go.WideShapes.bytes_inj
  rw [app_toList, app_toList]
  simp [wrap]
theorem wrap_out (o s : UInt8) (ps : List ByteArray) : out o ps ++ ⟨#[s]⟩ = wrap o s ps := by
  apply Go.WideShapes.bytes_inj
  rw [app_toList]
  simp [wrap, out]
theorem out_first (o : UInt8) : out o [] = ⟨#[o]⟩ := by simp [out, joinB_nil]
theorem out_next (o : UInt8) (ps : List ByteArray) (p q : ByteArray) (h : (if ps.length = 0 then out o ps else out o ps ++ ⟨#[44]⟩) = q) : q ++ p = out o (ps ++ [p]) := by
  subst h
  apply Go.WideShapes.bytes_inj
  have e : (out o (ps ++ [p])).data.toList = o :: joinB (ps ++ [p]) := by unfold out; rw [of_toList]
  have e0 : (out o ps).data.toList = o :: joinB ps := by unfold out; rw [of_toList]
  rw [app_toList, e, joinB_snoc]
  by_cases h0 : ps.length = 0
  · obtain rfl : ps = [] := List.eq_nil_of_length_eq_zero h0
    simp [out, joinB_nil]
  · rw [if_neg h0, if_neg h0, app_toList, e0]
    simp
theorem app_assoc (a b c : ByteArray) : a ++ b ++ c = a ++ (b ++ c) := by
  apply Go.WideShapes.bytes_inj
  rw [app_toList, app_toList, app_toList, app_toList, List.append_assoc]
theorem app_size (a b : ByteArray) : (a ++ b).size = a.size + b.size := by
  have h : ∀ x : ByteArray, x.data.toList.length = x.size := fun x => Array.length_toList
  rw [← h, ← h a, ← h b, app_toList, List.length_append]
end Go.Proofs.YtamjliaeikoemaaDoor.PutMath

/- Texts cut at a byte, as plain mathematics: what the library's Split and Cut come to, what is put together with a sign between is cut there again. No condition. -/
namespace Go.Proofs.YtamjliaeikoemaaDoor.CutText
open PutMath
set_option linter.unusedVariables false
/-- what stands ahead, put to the first piece -/
def pre (p : List UInt8) : List (List UInt8) → List (List UInt8)
  | [] => [p]
  | h :: t => (p ++ h) :: t
/-- a text cut at each byte b -/
def cutL (b : UInt8) : List UInt8 → List (List UInt8)
  | [] => [[]]
  | x :: l => if x = b then [] :: cutL b l else pre [x] (cutL b l)
theorem pre_ne (p : List UInt8) (L : List (List UInt8)) : pre p L ≠ [] := by cases L <;> simp [pre]
theorem cutL_ne (b : UInt8) (l : List UInt8) : cutL b l ≠ [] := by
  cases l with
  | nil => simp [cutL]
  | cons x l => unfold cutL; split; simp; exact pre_ne _ _
theorem pre_nil {L : List (List UInt8)} (h : L ≠ []) : pre [] L = L := by cases L with | nil => exact absurd rfl h | cons x L => rfl
theorem pre_pre (p q : List UInt8) (L : List (List UInt8)) : pre p (pre q L) = pre (p ++ q) L := by cases L <;> simp [pre]
theorem cutL_eq (b : UInt8) (l : List UInt8) : cutL b (b :: l) = [] :: cutL b l := by rw [cutL, if_pos rfl]
theorem cutL_ne' {b x : UInt8} (h : x ≠ b) (l : List UInt8) : cutL b (x :: l) = pre [x] (cutL b l) := by rw [cutL, if_neg h]
theorem cutL_app {b : UInt8} : ∀ {p : List UInt8} (r : List UInt8), b ∉ p → cutL b (p ++ r) = pre p (cutL b r)
  | [], r, _ => (pre_nil (cutL_ne b r)).symm
  | x :: p, r, h => by
    have h1 : x ≠ b := fun e => h (by rw [e]; exact List.mem_cons_self ..)
    have h2 : b ∉ p := fun e => h (List.mem_cons_of_mem _ e)
    rw [List.cons_append, cutL_ne' h1, cutL_app r h2, pre_pre]; rfl
theorem cutL_hit {b : UInt8} {p : List UInt8} (r : List UInt8) (h : b ∉ p) : cutL b (p ++ b :: r) = p :: cutL b r := by
  rw [cutL_app _ h, cutL_eq]; simp [pre]
theorem cutL_miss {b : UInt8} {p : List UInt8} (h : b ∉ p) : cutL b p = [p] := by
  have := cutL_app (b := b) (p := p) [] h
  rw [List.append_nil] at this
  rw [this]; simp [cutL, pre]
theorem cutL_len (b : UInt8) : ∀ l : List UInt8, (cutL b l).length ≤ l.length + 1
  | [] => by simp [cutL]
  | x :: l => by
    have := cutL_len b l
    unfold cutL
    split
    · simp; omega
    · cases h : cutL b l with
      | nil => simp [pre]
      | cons y L => rw [h] at this; simp [pre] at this ⊢; omega
/-- each piece is no longer than the text -/
theorem cutL_mem (b : UInt8) : ∀ (l : List UInt8), ∀ p ∈ cutL b l, p.length ≤ l.length
  | [], p, h => by simp [cutL] at h; simp [h]
  | x :: l, p, h => by
    have ih := cutL_mem b l
    unfold cutL at h
    split at h
    · rcases List.mem_cons.1 h with rfl | h
      · simp
      · have := ih p h; simp; omega
    · cases hL : cutL b l with
      | nil => rw [hL] at h; simp [pre] at h; simp [h]
      | cons y L =>
        rw [hL] at h ih
        simp only [pre, List.mem_cons] at h
        rcases h with rfl | h
        · have := ih y (List.mem_cons_self ..); simp; omega
        · have := ih p (List.mem_cons_of_mem _ h); simp; omega
/-- what is put together with a sign between is cut there again -/
theorem cutL_join {b : UInt8} : ∀ {L : List (List UInt8)}, L ≠ [] → (∀ p ∈ L, b ∉ p) → cutL b (Lib.join L [b]) = L
  | [], h, _ => absurd rfl h
  | [p], _, h => by rw [Lib.join_one]; exact cutL_miss (h p (List.mem_cons_self ..))
  | p :: q :: L, _, h => by
    have e : Lib.join (p :: q :: L) [b] = p ++ b :: Lib.join (q :: L) [b] := by simp [Lib.join_cons, Lib.joinTail]
    rw [e, cutL_hit _ (h p (List.mem_cons_self ..)), cutL_join (by simp) (fun z hz => h z (List.mem_cons_of_mem _ hz))]
theorem cutL_joinB {ps : List ByteArray} (h0 : ps ≠ []) (h : ∀ p ∈ ps, (44 : UInt8) ∉ p.data.toList) : cutL 44 (joinB ps) = ps.map (·.data.toList) := by
  unfold joinB
  refine cutL_join (by simpa using h0) (fun p hp => ?_)
  obtain ⟨x, hx, rfl⟩ := List.mem_map.1 hp
  exact h x hx
/-- where the library finds a byte -/
theorem occ_iff (s : List UInt8) (b : UInt8) (i : Nat) : Lib.occAt s [b] i = true ↔ s[i]? = some b := by
  unfold Lib.occAt
  have e : s.drop i = [] ∨ ∃ x r, s.drop i = x :: r ∧ s[i]? = some x := by
    cases h : s.drop i with
    | nil => exact .inl rfl
    | cons x r => exact .inr ⟨x, r, rfl, by have := congrArg List.head? h; rw [List.head?_drop] at this; simpa using this⟩
  rcases e with e | ⟨x, r, e, h⟩
  · rw [e]
    have : s[i]? = none := by rw [List.getElem?_eq_none]; exact List.drop_eq_nil_iff.1 e
    rw [this]; simp
  · rw [e, h]
    simp [List.isPrefixOf]
    exact eq_comm
theorem index_cases (s : List UInt8) (b : UInt8) : (Lib.index s [b] = -1 ∧ b ∉ s) ∨ ∃ p r, s = p ++ b :: r ∧ b ∉ p ∧ Lib.index s [b] = (p.length : Int) := by
  rcases Lib.index_spec s [b] with ⟨h, hn⟩ | ⟨i, h, hi, ho, hno⟩
  · refine .inl ⟨h, fun hb => ?_⟩
    obtain ⟨i, hi, e⟩ := List.getElem_of_mem hb
    have := hn i (by omega)
    have h2 := (occ_iff s b i).2 (by rw [List.getElem?_eq_getElem hi, e])
    rw [this] at h2; cases h2
  · have h3 := (occ_iff s b i).1 ho
    obtain ⟨hl, he⟩ := List.getElem?_eq_some_iff.1 h3
    refine .inr ⟨s.take i, s.drop (i + 1), ?_, fun hb => ?_, by rw [h, List.length_take]; omega⟩
    · rw [← he, List.getElem_cons_drop, List.take_append_drop]
    · obtain ⟨j, hj, e⟩ := List.getElem_of_mem hb
      rw [List.length_take] at hj
      rw [List.getElem_take] at e
      have h4 := (occ_iff s b j).2 (by rw [List.getElem?_eq_getElem (by omega), e])
      have h5 := hno j (by omega)
      rw [h5] at h4; cases h4
theorem split_eq (b : UInt8) : ∀ (n : Nat) (s : List UInt8), s.length ≤ n → Lib.splitK [b] 0 (Lib.count s [b]) s = cutL b s
  | 0, s, hn => by
    obtain rfl : s = [] := List.eq_nil_of_length_eq_zero (by omega)
    rcases index_cases [] b with ⟨h, hb⟩ | ⟨p, r, e, hb, h⟩
    · rw [Lib.count_miss h]; rfl
    · simp at e
  | n + 1, s, hn => by
    rcases index_cases s b with ⟨h, hb⟩ | ⟨p, r, rfl, hb, h⟩
    · rw [Lib.count_miss h, cutL_miss hb]; rfl
    · have hc := Lib.count_hit (s := p ++ b :: r) (sub := [b]) (i := p.length) (by simp) h
      have hd : (p ++ b :: r).drop (p.length + [b].length) = r := by
        rw [List.drop_append]; simp
      rw [hd] at hc
      rw [hc, Nat.add_comm, Lib.splitK, if_neg (by rw [h]; simp), h]
      have ht : ((p.length : Int)).toNat = p.length := rfl
      rw [ht, hd, cutL_hit _ hb, split_eq b n r (by simp at hn; omega)]
      simp
def cutB (b : UInt8) (s : ByteArray) : List ByteArray := (cutL b s.data.toList).map (fun l => ⟨l.toArray⟩)
end Go.Proofs.YtamjliaeikoemaaDoor.CutText
