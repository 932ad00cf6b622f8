/- My own texts of one claim, laid together by program: SamLaw, RowLaw, CmpMath, RowMath. -/
import Derived.Test.YtamjliaeikoemaaDoorGdc7c71843d
import Derived.ChangeArms
import Derived.Test.YtamjliaeikoemaaDoorG9087951762
import Derived.Lib.Bytealg
import Derived.Test.YtamjliaeikoemaaDoorG41cde8b93c
/- What the laws' own helpers do with slices of impl.Sample: they are copied, held against each other, and counted. -/
namespace Go.Proofs.YtamjliaeikoemaaDoor.Sam
open Go.RowKit Rw
set_option linter.unusedVariables false
attribute [local go_sem ↓] Go.wp_at_zero Go.wp_at_succ
abbrev E := Int × Int
def fl (x : E) : List Value := [.int .i64 (x.1), .int .i64 (x.2)]
theorem flk (x : E) : (fl x).length = 2 := rfl
def at' (zs : List E) (i : Nat) : E := zs.getD i default
abbrev flat (zs : List E) : List Value := flatOf fl zs
abbrev Is (w : World) (v : Value) (zs : List E) : Prop := Lies w v zs.length 2 (flat zs)
theorem flat_length (zs : List E) : (flat zs).length = zs.length * 2 := flatOf_length flk zs
theorem flat_oneCell (zs : List E) : ∀ u ∈ flat zs, u.oneCell' = true := by
  intro u hu
  obtain ⟨x, _, hx⟩ := List.mem_flatMap.1 hu
  simp only [fl, List.mem_cons, List.not_mem_nil, or_false] at hx
  rcases hx with rfl | rfl <;> rfl
theorem at_get (zs : List E) (i : Nat) (h : i < zs.length) : at' zs i = zs[i] := by simp [at', List.getD, h]
theorem at_snoc (zs : List E) (i : Nat) (h : i < zs.length) : zs.take (i + 1) = zs.take i ++ [at' zs i] := by rw [List.take_succ_eq_append_getElem h, at_get zs i h]
theorem flat_at (zs : List E) (i : Nat) (h : i < zs.length) : (flat zs)[i * 2]? = some (.int .i64 ((at' zs i).1)) ∧ (flat zs)[i * 2 + 1]? = some (.int .i64 ((at' zs i).2)) := by
  rw [at_get zs i h]
  exact ⟨flatOf_get flk zs i 0 h (by omega), flatOf_get flk zs i 1 h (by omega)⟩
theorem is_of_own {w : World} {base : Nat} {v : Value} {zs : List E} (h : w.ownsRow base 90 2 v zs.length (flat zs)) : Is w v zs := lies_of_own h
theorem info_e : (Tryd.prog.info? 90).map (fun i => (i.zero, i.size, i.bytes)) = some (some (.agg #[.int .i64 0, .int .i64 0]), 2, 16) := by kernel_rfl
def good (x : E) : Prop := (Lit.int .i64 (x.1)).wf = true ∧ (Lit.int .i64 (x.2)).wf = true
theorem set_e (A : List Value) (u0 u1 x0 x1 : Value) (L : List Value) (k : Nat) (h : A.length = k) : (((A ++ u0 :: u1 :: L).set k x0).set (k + 1) x1) = A ++ [x0, x1] ++ L := by
  subst h
  simp [List.set_append_right]
theorem split_e (r : List Value) (n : Nat) (h : r.length = (n + 1) * 2) : ∃ u0 u1 L, r = u0 :: u1 :: L ∧ L.length = n * 2 := by
  match r, h with
  | u0 :: u1 :: L, h => exact ⟨u0, u1, L, rfl, by simp only [List.length_cons] at h; omega⟩
  | [], h => simp at h <;> omega
  | [_], h => simp at h <;> omega
def tot (zs : List E) : Nat := zs.length
end Go.Proofs.YtamjliaeikoemaaDoor.Sam

/- What the laws' own helpers do with slices of impl.Row, whose elements hold slices: they are copied, held against each other, and counted. -/
namespace Go.Proofs.YtamjliaeikoemaaDoor.Row
open Go.RowKit Rw
set_option linter.unusedVariables false
attribute [local go_sem ↓] Go.wp_at_zero Go.wp_at_succ
abbrev E := List Lab.E × List Sam.E
abbrev C := Value × Value
def cl (c : C) : List Value := [c.1, c.2]
theorem clk (c : C) : (cl c).length = 2 := rfl
def at' (zs : List E) (i : Nat) : E := zs.getD i default
def cat (cs : List C) (i : Nat) : C := cs.getD i default
theorem at_get (zs : List E) (i : Nat) (h : i < zs.length) : at' zs i = zs[i] := by simp [at', List.getD, h]
theorem at_snoc (zs : List E) (i : Nat) (h : i < zs.length) : zs.take (i + 1) = zs.take i ++ [at' zs i] := by rw [List.take_succ_eq_append_getElem h, at_get zs i h]
theorem at_mem (zs : List E) (i : Nat) (h : i < zs.length) : at' zs i ∈ zs := by rw [at_get zs i h]; exact List.getElem_mem _
theorem cat_get (zs : List C) (i : Nat) (h : i < zs.length) : cat zs i = zs[i] := by simp [cat, List.getD, h]
theorem cat_lt (zs : List C) (c : C) (i : Nat) (h : i < zs.length) : cat (zs ++ [c]) i = cat zs i := by simp [cat, List.getD, List.getElem?_append_left h]
theorem cat_last (zs : List C) (c : C) : cat (zs ++ [c]) zs.length = c := by simp [cat, List.getD]
def Elem (w : World) (c : C) (x : E) : Prop := Lab.Is w (c.1) (x.1) ∧ Sam.Is w (c.2) (x.2)
theorem Elem.below {w w' : World} {c : C} {x : E} (h : Elem w c x) (hb : Below w.heap.size w w') : Elem w' c x := ⟨(h.1).below hb, (h.2).below hb⟩
def far (B : Nat) (c : C) : Prop := (∀ k, (c.1).ownBlock = some k → B ≤ k) ∧ (∀ k, (c.2).ownBlock = some k → B ≤ k)
theorem far.mono {A B : Nat} {c : C} (hf : far B c) (h : A ≤ B) : far A c := ⟨fun k hk => Nat.le_trans h (hf.1 k hk), fun k hk => Nat.le_trans h (hf.2 k hk)⟩
theorem Elem.only {g : Nat} {w w' : World} {c : C} {x : E} (h : Elem w c x) (ho : OnlyAt g w w') (hf : far (g + 1) c) : Elem w' c x := ⟨ho.lies (h.1) (fun k hk => by have := hf.1 k hk; omega), ho.lies (h.2) (fun k hk => by have := hf.2 k hk; omega)⟩
def Is (w : World) (v : Value) (zs : List E) : Prop := ∃ cs : List C, cs.length = zs.length ∧ Lies w v zs.length 2 (flatOf cl cs) ∧ ∀ i, i < zs.length → Elem w (cat cs i) (at' zs i)
theorem Is.below {w w' : World} {v : Value} {zs : List E} (h : Is w v zs) (hb : Below w.heap.size w w') : Is w' v zs := by
  obtain ⟨cs, h1, h2, h3⟩ := h
  exact ⟨cs, h1, h2.below hb, fun i hi => (h3 i hi).below hb⟩
/-- the same, all of it in blocks from B on -/
def IsF (B : Nat) (w : World) (v : Value) (zs : List E) : Prop := ∃ cs : List C, cs.length = zs.length ∧ Lies w v zs.length 2 (flatOf cl cs) ∧ (∀ k, v.ownBlock = some k → B ≤ k) ∧ ∀ i, i < zs.length → Elem w (cat cs i) (at' zs i) ∧ far B (cat cs i)
theorem IsF.is {B : Nat} {w : World} {v : Value} {zs : List E} (h : IsF B w v zs) : Is w v zs := by
  obtain ⟨cs, h1, h2, h3, h4⟩ := h
  exact ⟨cs, h1, h2, fun i hi => (h4 i hi).1⟩
theorem IsF.below {B : Nat} {w w' : World} {v : Value} {zs : List E} (h : IsF B w v zs) (hb : Below w.heap.size w w') : IsF B w' v zs := by
  obtain ⟨cs, h1, h2, h3, h4⟩ := h
  exact ⟨cs, h1, h2.below hb, h3, fun i hi => ⟨(h4 i hi).1.below hb, (h4 i hi).2⟩⟩
theorem IsF.only {B g : Nat} {w w' : World} {v : Value} {zs : List E} (h : IsF B w v zs) (ho : OnlyAt g w w') (hg : g < B) : IsF B w' v zs := by
  obtain ⟨cs, h1, h2, h3, h4⟩ := h
  exact ⟨cs, h1, ho.lies h2 (fun k hk => by have := h3 k hk; omega), h3, fun i hi => ⟨(h4 i hi).1.only ho ((h4 i hi).2.mono hg), (h4 i hi).2⟩⟩
theorem IsF.mono {A B : Nat} {w : World} {v : Value} {zs : List E} (h : IsF B w v zs) (hA : A ≤ B) : IsF A w v zs := by
  obtain ⟨cs, h1, h2, h3, h4⟩ := h
  exact ⟨cs, h1, h2, fun k hk => Nat.le_trans hA (h3 k hk), fun i hi => ⟨(h4 i hi).1, (h4 i hi).2.mono hA⟩⟩
theorem flat_at (cs : List C) (i : Nat) (h : i < cs.length) : (flatOf cl cs)[i * 2]? = some ((cat cs i).1) ∧ (flatOf cl cs)[i * 2 + 1]? = some ((cat cs i).2) := by
  rw [cat_get cs i h]
  exact ⟨flatOf_get clk cs i 0 h (by omega), flatOf_get clk cs i 1 h (by omega)⟩
def good (x : E) : Prop := ((x.1).length ≤ maxLen ∧ ∀ y ∈ x.1, Lab.good y) ∧ ((x.2).length ≤ maxLen ∧ ∀ y ∈ x.2, Sam.good y)
def tiny (x : E) : Prop := (x.1).length ≤ 4194304 ∧ (x.2).length ≤ 4194304
end Go.Proofs.YtamjliaeikoemaaDoor.Row

/- How texts and labels stand to each other, as plain mathematics. No condition. -/
namespace Go.Proofs.YtamjliaeikoemaaDoor.Lab
open Go.RowKit Rw
theorem less_irrefl : ∀ a : List UInt8, Op.bytesLess a a = false
  | [] => rfl
  | x :: a => by unfold Op.bytesLess; rw [less_irrefl a]; simp
theorem cmp_less : ∀ a b : List UInt8, Lib.compareBytes a b = if Op.bytesLess a b = true then -1 else if a = b then 0 else 1
  | [], [] => by simp [Lib.compareBytes, Op.bytesLess]
  | [], y :: b => by simp [Lib.compareBytes, Op.bytesLess]
  | x :: a, [] => by simp [Lib.compareBytes, Op.bytesLess]
  | x :: a, y :: b => by
    rw [Lib.compareBytes, Op.bytesLess, cmp_less a b]
    by_cases h1 : x < y
    · simp [h1]
    · by_cases h2 : y < x
      · have hne : x ≠ y := fun e => by subst e; exact h1 h2
        simp [h1, h2, hne]
      · have e : x = y := by
          have a1 : ¬ x.toNat < y.toNat := fun h => h1 (UInt8.lt_iff_toNat_lt.2 h)
          have a2 : ¬ y.toNat < x.toNat := fun h => h2 (UInt8.lt_iff_toNat_lt.2 h)
          exact UInt8.toNat_inj.1 (by omega)
        subst e
        simp [h1]
def cmpS (a b : ByteArray) : Int := Lib.compareBytes a.data.toList b.data.toList
theorem cmpS_eq (a b : ByteArray) : cmpS a b = if ltS a b = true then -1 else if a.toList = b.toList then 0 else 1 := by
  unfold cmpS ltS
  rw [ByteArray.toList_eq, ByteArray.toList_eq]
  exact cmp_less _ _
theorem cmpS_range (a b : ByteArray) : -1 ≤ cmpS a b ∧ cmpS a b ≤ 1 := by
  rw [cmpS_eq]; split
  · omega
  · split <;> omega
def cmpE (x y : E) : Int := if cmpS x.1 y.1 ≠ 0 then cmpS x.1 y.1 else cmpS x.2 y.2
theorem cmpE_range (x y : E) : -1 ≤ cmpE x y ∧ cmpE x y ≤ 1 := by
  unfold cmpE; split
  · exact cmpS_range _ _
  · exact cmpS_range _ _
def cmpL : List E → List E → Int
  | [], [] => 0
  | [], _ :: _ => -1
  | _ :: _, [] => 1
  | x :: a, y :: b => if cmpE x y ≠ 0 then cmpE x y else cmpL a b
theorem cmpL_range : ∀ a b : List E, -1 ≤ cmpL a b ∧ cmpL a b ≤ 1
  | [], [] => by simp [cmpL]
  | [], _ :: _ => by simp [cmpL]
  | _ :: _, [] => by simp [cmpL]
  | x :: a, y :: b => by
    rw [cmpL]; split
    · exact cmpE_range x y
    · exact cmpL_range a b
theorem drop_at (zs : List E) (i : Nat) (h : i < zs.length) : zs.drop i = at' zs i :: zs.drop (i + 1) := by
  rw [List.drop_eq_getElem_cons h, at_get zs i h]
/-- what the loops keep -/
def CLeft (a b : List E) (i : Nat) : Prop := cmpL a b = cmpL (a.drop i) (b.drop i)
theorem left_start (a b : List E) : CLeft a b 0 := by simp [CLeft]
theorem left_next {a b : List E} {i : Nat} (h : CLeft a b i) (hi : i < a.length) (hj : i < b.length) (he : cmpE (at' a i) (at' b i) = 0) : CLeft a b (i + 1) := by
  unfold CLeft at *
  rw [h, drop_at a i hi, drop_at b i hj, cmpL, if_neg (by simp [he])]
theorem left_stop {a b : List E} {i : Nat} (h : CLeft a b i) (hi : i < a.length) (hj : i < b.length) (he : cmpE (at' a i) (at' b i) ≠ 0) : cmpL a b = cmpE (at' a i) (at' b i) := by
  unfold CLeft at *
  rw [h, drop_at a i hi, drop_at b i hj, cmpL, if_pos he]
theorem left_long {a b : List E} {i : Nat} (h : CLeft a b i) (hi : i < a.length) (hj : b.length ≤ i) : cmpL a b = 1 := by
  unfold CLeft at *
  rw [h, drop_at a i hi, List.drop_eq_nil_of_le hj, cmpL]
theorem left_short {a b : List E} {i : Nat} (h : CLeft a b i) (hi : a.length ≤ i) (hj : i < b.length) : cmpL a b = -1 := by
  unfold CLeft at *
  rw [h, drop_at b i hj, List.drop_eq_nil_of_le hi, cmpL]
theorem left_same {a b : List E} {i : Nat} (h : CLeft a b i) (hi : a.length ≤ i) (hj : b.length ≤ i) : cmpL a b = 0 := by
  unfold CLeft at *
  rw [h, List.drop_eq_nil_of_le hj, List.drop_eq_nil_of_le hi, cmpL]
/-- what LabelsCmp answers -/
def cmp (a b : List E) : Int := if ok a = true ∧ ok b = true then cmpL a b else 0
theorem cmp_bad {a b : List E} (h : ok a = false ∨ ok b = false) : cmp a b = 0 := by
  unfold cmp; rw [if_neg]; rintro ⟨h1, h2⟩; rcases h with h | h <;> simp_all
theorem cmp_ok {a b : List E} (h1 : ok a = true) (h2 : ok b = true) : cmp a b = cmpL a b := by unfold cmp; rw [if_pos ⟨h1, h2⟩]
end Go.Proofs.YtamjliaeikoemaaDoor.Lab

/- Rows that are ok, as plain mathematics. No condition. -/
namespace Go.Proofs.YtamjliaeikoemaaDoor.Row
open Go.RowKit Rw
def rowB (x : E) : Bool := Lab.ok x.1 && (decide (1 ≤ x.2.length) && decide (x.2.length ≤ 1000)) && SampMath.ok x.2
def stepOk (zs : List E) (i : Nat) : Bool := rowB (at' zs i) && (i == 0 || decide (Lab.cmpL (at' zs (i - 1)).1 (at' zs i).1 < 0))
def okTo (zs : List E) (k : Nat) : Bool := (List.range k).all (stepOk zs)
def ok (zs : List E) : Bool := okTo zs zs.length && decide (zs.length ≤ 10)
theorem okTo_succ (zs : List E) (k : Nat) : okTo zs (k + 1) = (okTo zs k && stepOk zs k) := by simp [okTo, List.range_succ]
theorem ok_of_bad {zs : List E} {k : Nat} (hk : k < zs.length) (h : stepOk zs k = false) : ok zs = false := by
  unfold ok okTo
  rw [Bool.and_eq_false_iff]
  left
  rw [List.all_eq_false]
  exact ⟨k, by simpa using hk, by simp [h]⟩
theorem ok_long {zs : List E} (h : 10 < zs.length) : ok zs = false := by unfold ok; rw [decide_eq_false (by omega), Bool.and_false]
theorem step_lab {zs : List E} {k : Nat} (h : Lab.ok (at' zs k).1 = false) : stepOk zs k = false := by unfold stepOk rowB; rw [h]; rfl
theorem step_len {zs : List E} {k : Nat} (h : (at' zs k).2.length < 1 ∨ 1000 < (at' zs k).2.length) : stepOk zs k = false := by
  unfold stepOk rowB
  rcases h with h | h
  · rw [decide_eq_false (show ¬ 1 ≤ (at' zs k).2.length by omega)]; simp
  · rw [decide_eq_false (show ¬ (at' zs k).2.length ≤ 1000 by omega)]; simp
theorem step_sam {zs : List E} {k : Nat} (h : SampMath.ok (at' zs k).2 = false) : stepOk zs k = false := by unfold stepOk rowB; rw [h]; simp
theorem step_cmp {zs : List E} {k : Nat} (h0 : 0 < k) (h : ¬ Lab.cmpL (at' zs (k - 1)).1 (at' zs k).1 < 0) : stepOk zs k = false := by
  unfold stepOk
  rw [decide_eq_false h, show (k == 0) = false from by simp; omega]; simp
theorem step_yes {zs : List E} {k : Nat} (h1 : Lab.ok (at' zs k).1 = true) (h2 : 1 ≤ (at' zs k).2.length) (h3 : (at' zs k).2.length ≤ 1000) (h4 : SampMath.ok (at' zs k).2 = true) (h5 : k = 0 ∨ Lab.cmpL (at' zs (k - 1)).1 (at' zs k).1 < 0) : stepOk zs k = true := by
  unfold stepOk rowB
  rw [h1, h4, decide_eq_true h2, decide_eq_true h3]
  rcases h5 with h | h
  · simp [h]
  · simp [h]
theorem okTo_at {zs : List E} {k : Nat} (h : okTo zs k = true) {i : Nat} (hi : i < k) : stepOk zs i = true := by
  unfold okTo at h
  rw [List.all_eq_true] at h
  exact h i (by simpa using hi)
theorem step_is {zs : List E} {k : Nat} (h : stepOk zs k = true) : Lab.ok (at' zs k).1 = true ∧ 1 ≤ (at' zs k).2.length ∧ (at' zs k).2.length ≤ 1000 ∧ SampMath.ok (at' zs k).2 = true := by
  unfold stepOk rowB at h
  simp only [Bool.and_eq_true, decide_eq_true_eq] at h
  exact ⟨h.1.1.1, h.1.1.2.1, h.1.1.2.2, h.1.2⟩
theorem ok_at {zs : List E} (h : ok zs = true) {i : Nat} (hi : i < zs.length) : stepOk zs i = true := by
  unfold ok at h
  rw [Bool.and_eq_true] at h
  exact okTo_at h.1 hi
theorem ok_len {zs : List E} (h : ok zs = true) : zs.length ≤ 10 := by
  unfold ok at h
  rw [Bool.and_eq_true] at h
  simpa using h.2
end Go.Proofs.YtamjliaeikoemaaDoor.Row
