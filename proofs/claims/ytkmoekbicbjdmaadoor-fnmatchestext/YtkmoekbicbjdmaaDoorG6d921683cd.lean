/- My own texts of one claim, laid together by program: Zone, MarkText, CmpMath, CmpOrd. -/
import Derived.Test.YtkmoekbicbjdmaaDoorG2ede2d924a
import Derived.Laws.Concat
import Derived.Test.YtkmoekbicbjdmaaDoorG5c89d1a104
import Derived.Lib.Bytealg
/- What a call leaves as it was, but for some blocks. No condition. -/
namespace Go.Proofs.YtkmoekbicbjdmaaDoor.Rw
open Go.RowKit
/-- all that was there is as it was, but for blocks from lo on, ahead of hi -/
structure Zone (lo hi : Nat) (w w' : World) : Prop where
  os : w'.os = w.os
  tape : w'.tape = w.tape
  output : w'.output = w.output
  size : w.heap.size ≤ w'.heap.size
  block : ∀ k, k < w.heap.size → (k < lo ∨ hi ≤ k) → w'.heap[k]? = w.heap[k]?
theorem Zone.refl (lo hi : Nat) (w : World) : Zone lo hi w w := ⟨rfl, rfl, rfl, Nat.le_refl _, fun _ _ _ => rfl⟩
theorem Zone.trans {lo hi : Nat} {a b c : World} (h : Zone lo hi a b) (h' : Zone lo hi b c) : Zone lo hi a c :=
  ⟨h'.os.trans h.os, h'.tape.trans h.tape, h'.output.trans h.output, Nat.le_trans h.size h'.size, fun k hk ho => (h'.block k (Nat.lt_of_lt_of_le hk h.size) ho).trans (h.block k hk ho)⟩
theorem Zone.of_below {lo hi : Nat} {w w' : World} (h : Below w.heap.size w w') : Zone lo hi w w' := ⟨h.os, h.tape, h.output, h.size, fun k hk _ => h.block k hk⟩
theorem Zone.mono {lo hi lo' hi' : Nat} {w w' : World} (h : Zone lo hi w w') (h1 : lo' ≤ lo) (h2 : hi ≤ hi') : Zone lo' hi' w w' := ⟨h.os, h.tape, h.output, h.size, fun k hk ho => h.block k hk (by omega)⟩
theorem Zone.below {lo hi B : Nat} {w w' : World} (h : Zone lo hi w w') (hB : B ≤ lo) (hs : B ≤ w.heap.size) : Below B w w' := ⟨h.os, h.tape, h.output, h.size, fun k hk => h.block k (by omega) (.inl (by omega))⟩
theorem Zone.of_only {g lo hi : Nat} {w w' : World} (h : OnlyAt g w w') (h1 : lo ≤ g) (h2 : g < hi) : Zone lo hi w w' := ⟨h.os, h.tape, h.output, Nat.le_of_eq h.size.symm, fun k _ ho => h.block k (by omega)⟩
theorem Zone.store {g lo hi : Nat} {w w' : World} (h : Zone lo hi w w') (h1 : lo ≤ g) (h2 : g < hi) (j : Nat) (u : Value) : Zone lo hi w (w'.setCell ⟨g, j, none⟩ u) := h.trans (Zone.of_only ((OnlyAt.refl g w').setCell j u) h1 h2)
/-- a slice that lies outside -/
def Out (lo hi : Nat) (v : Value) : Prop := ∀ k, v.ownBlock = some k → k < lo ∨ hi ≤ k
theorem Zone.lies {lo hi : Nat} {w w' : World} (h : Zone lo hi w w') {v : Value} {n size : Nat} {xs : List Value} (hs : Lies w v n size xs) (hv : Out lo hi v) : Lies w' v n size xs := by
  obtain ⟨h0, ad, cap, h1, h2, h3, h4, h5⟩ := hs
  refine ⟨h0, ad, cap, h1, h2, h3, h4, fun hn => ?_⟩
  obtain ⟨c, off, e, hl, hc⟩ := h5 hn
  exact ⟨c, off, e, Nat.lt_of_lt_of_le hl h.size, fun j u hj => (World.cell?_of_block (a := ⟨c, off + j, none⟩) (h.block c hl (hv c (by rw [h1, e]; rfl)))).trans (hc j u hj)⟩
theorem Zone.own {lo hi : Nat} {w w' : World} (h : Zone lo hi w w') {base n size : Nat} {e : TypeId} {v : Value} {xs : List Value} (ho : w.ownsRow base e size v n xs) (hv : Out lo hi v) : w'.ownsRow base e size v n xs := by
  refine ⟨ho.1, ?_⟩
  rcases ho.2 with h1 | ⟨c, cap, cur, h1, h2, h3, h4⟩
  · exact .inl h1
  · refine .inr ⟨c, cap, cur, h1, h2, ?_, h4⟩
    have hl : c < w.heap.size := by
      rcases Nat.lt_or_ge c w.heap.size with hl | hl
      · exact hl
      · rw [Array.getElem?_eq_none hl] at h3; cases h3
    rw [h.block c hl (hv c (by rw [h1]; rfl))]
    exact h3
/-- a row of the call's own lies from its base on, ahead of what the world has -/
theorem own_out {w : World} {base n size lo hi : Nat} {e : TypeId} {v : Value} {xs : List Value} (h : w.ownsRow base e size v n xs) (ho : hi ≤ base ∨ w.heap.size ≤ lo) : Out lo hi v := by
  intro k hk
  have h1 := own_ge h k hk
  have h2 := own_block_lt h k hk
  omega
/-- slices of which no two lie in one block -/
def Apart (cs : List Value) : Prop := ∀ i j, i < j → j < cs.length → ∀ k, (cs.getD i default).ownBlock = some k → (cs.getD j default).ownBlock ≠ some k
theorem Apart.nil : Apart [] := fun i j _ h => by cases h
theorem Apart.snoc {cs : List Value} {c : Value} (h : Apart cs) (hc : ∀ i, i < cs.length → ∀ k, (cs.getD i default).ownBlock = some k → c.ownBlock ≠ some k) : Apart (cs ++ [c]) := by
  intro i j hij hj k hk
  simp only [List.length_append, List.length_cons, List.length_nil] at hj
  have ei : (cs ++ [c]).getD i default = cs.getD i default := by simp [List.getD, List.getElem?_append_left (show i < cs.length by omega)]
  rw [ei] at hk
  by_cases hl : j < cs.length
  · rw [show (cs ++ [c]).getD j default = cs.getD j default by simp [List.getD, List.getElem?_append_left hl]]
    exact h i j hij hl k hk
  · obtain rfl : j = cs.length := by omega
    rw [show (cs ++ [c]).getD cs.length default = c by simp [List.getD]]
    exact hc i hij k hk
theorem Apart.ne {cs : List Value} (h : Apart cs) {i j : Nat} (hij : i ≠ j) (hi : i < cs.length) (hj : j < cs.length) : ∀ k, (cs.getD i default).ownBlock = some k → (cs.getD j default).ownBlock ≠ some k := by
  intro k hk
  rcases Nat.lt_or_gt_of_ne hij with hl | hl
  · exact h i j hl hj k hk
  · intro hk'
    exact h j i hl hi k hk' hk
theorem own_ne_type {w : World} {b1 b2 s1 s2 n1 n2 : Nat} {e1 e2 : TypeId} {v1 v2 : Value} {x1 x2 : List Value} (h1 : w.ownsRow b1 e1 s1 v1 n1 x1) (h2 : w.ownsRow b2 e2 s2 v2 n2 x2) (he : e1 ≠ e2) : ∀ k, v1.ownBlock = some k → v2.ownBlock ≠ some k := by
  intro k hk hk'
  rcases h1.2 with ⟨rfl, _⟩ | ⟨g, cap, cur, rfl, _, hg, _⟩
  · cases hk
  · rcases h2.2 with ⟨rfl, _⟩ | ⟨g', cap', cur', rfl, _, hg', _⟩
    · cases hk'
    · simp only [Value.ownBlock, Option.some.injEq] at hk hk'
      subst hk
      subst hk'
      rw [hg] at hg'
      simp only [Option.some.injEq, Obj.cells.injEq] at hg'
      exact he hg'.2.1
def loOf (v : Value) : Nat := match v.ownBlock with | some g => g | none => 0
def hiOf (v : Value) : Nat := match v.ownBlock with | some g => g + 1 | none => 0
theorem in_self (v : Value) : ∀ k, v.ownBlock = some k → loOf v ≤ k ∧ k < hiOf v := by
  intro k hk
  unfold loOf hiOf
  rw [hk]
  exact ⟨Nat.le_refl _, Nat.lt_succ_self _⟩
theorem out_of_ne {v u : Value} (h : ∀ k, v.ownBlock = some k → u.ownBlock ≠ some k) : Out (loOf v) (hiOf v) u := by
  intro k hk
  unfold loOf hiOf
  cases hv : v.ownBlock with
  | none => exact .inr (Nat.zero_le _)
  | some g =>
    have : g ≠ k := fun e => h g hv (by rw [e]; exact hk)
    simp only
    omega
theorem zone_in {v : Value} {lo hi : Nat} {w w' : World} (h : Zone (loOf v) (hiOf v) w w') (hin : ∀ k, v.ownBlock = some k → lo ≤ k ∧ k < hi) : Zone lo hi w w' := by
  unfold loOf hiOf at h
  cases hv : v.ownBlock with
  | none =>
    simp only [hv] at h
    exact ⟨h.os, h.tape, h.output, h.size, fun k hk _ => h.block k hk (.inr (Nat.zero_le _))⟩
  | some g =>
    simp only [hv] at h
    have := hin g hv
    exact h.mono (by omega) (by omega)
end Go.Proofs.YtkmoekbicbjdmaaDoor.Rw

/- The text of a mark, markText, at every number from 1 on. No condition but that the number is not too great. -/
namespace Go.Proofs.YtkmoekbicbjdmaaDoor.Mark
open Go.RowKit Rw
set_option linter.unusedVariables false
attribute [local go_sem ↓] Go.wp_at_zero Go.wp_at_succ
def digs : Nat → Nat → List UInt8
  | 0, _ => []
  | f + 1, k => if k = 0 then [] else digs f (k / 10) ++ [UInt8.ofNat (48 + k % 10)]
theorem digs_zero (f : Nat) : digs f 0 = [] := by cases f <;> simp [digs]
theorem digs_len : ∀ (f k : Nat), (digs f k).length ≤ f
  | 0, _ => by simp [digs]
  | f + 1, k => by
    unfold digs
    split
    · simp
    · have := digs_len f (k / 10)
      simp only [List.length_append, List.length_cons, List.length_nil]
      omega
def text (k : Nat) : ByteArray := ⟨(109 :: digs 20 k).toArray⟩
theorem digs_step (f k : Nat) (h : 0 < k) : digs (f + 1) k = digs f (k / 10) ++ [UInt8.ofNat (48 + k % 10)] := by
  conv => lhs; unfold digs
  rw [if_neg (by omega)]
/-- what a round meets, its numbers as letters -/
theorem round_facts (K : Nat) (h : 0 < K) : ∃ m c q : Nat, (K : Int).tmod 10 = (m : Int) ∧ (K : Int) % 10 = (m : Int) ∧ (48 : Int) + (m : Int) = (c : Int) ∧ IntKind.u8.wrap (c : Int) = (c : Int) ∧ (K : Int).tdiv 10 = (q : Int) ∧ (K : Int) / 10 = (q : Int) ∧ q < K ∧ c < 256 ∧
    Hid (∀ f, digs (f + 1) K = digs f q ++ [UInt8.ofNat c]) ∧ Hid (q = K / 10) := by
  refine ⟨K % 10, 48 + K % 10, K / 10, ?_, by omega, by omega, ?_, ?_, by omega, by omega, by omega, fun f => digs_step f K h, rfl⟩
  · rw [Int.tmod_eq_emod_of_nonneg (by omega)]; omega
  · rw [IntKind.wrap_u8']; omega
  · rw [Int.tdiv_eq_ediv_of_nonneg (by omega)]; omega
theorem conv_one (w : World) (c : Nat) (h : c < 256) : (convert 22 9 (.slice (some ⟨w.heap.size, 0, none⟩) 1 1)).run Tryd.prog (w.alloc (.cells #[.int .u8 (c : Int)] 5)) = .ok (.string ⟨#[UInt8.ofNat c]⟩) (w.alloc (.cells #[.int .u8 (c : Int)] 5)) := by
  have ho : (w.alloc (.cells #[.int .u8 (c : Int)] 5)).ownsRow 0 5 1 (.slice (some ⟨w.heap.size, 0, none⟩) 1 1) 1 ([UInt8.ofNat c].map byteV) := by
    refine ⟨rfl, .inr ⟨w.heap.size, 1, #[.int .u8 (c : Int)], rfl, Nat.zero_le _, heap_alloc_new w _, Nat.le_refl _, by unfold maxLen; omega, rfl, ?_⟩⟩
    have e : (UInt8.ofNat c).toNat = c := by simp; omega
    simp [byteV, e]
  exact conv_owned ho
set_option maxHeartbeats 1000000 in
theorem text_any (k : Nat) (h1 : 1 ≤ k) (h2 : k ≤ 1000000000000) (w : World) : Calls Tryd.prog 55 #[.int .i64 k] w fun e w' => e = .returned (.string (text k)) ∧ Below w.heap.size w w' := by
  have HD := hide (show text k = ⟨#[109]⟩ ++ ⟨(digs 20 k).toArray⟩ by apply ByteArray.ext; simp [text])
  have HL := hide (digs_len 20 k)
  obtain ⟨D, hD⟩ : ∃ D, D = digs 20 k := ⟨_, rfl⟩
  rw [← hD] at HD HL
  obtain ⟨R, hR⟩ : ∃ R, R = text k := ⟨_, rfl⟩
  rw [← hR] at HD ⊢
  have HR := hide hD
  clear hR hD
  go_enter Tryd.func55, Tryd.ntmps55
  go_wp2
  go_loopw [0, 3] (fun kv ov wr => ∃ (f K : Nat) (o : List UInt8), kv = .int .i64 K ∧ ov = .string ⟨o.toArray⟩ ∧ Hid (digs f K ++ o = D) ∧ Hid (K < 10 ^ f) ∧ f ≤ 20 ∧ K ≤ 1000000000000 ∧ o.length ≤ 20 - f ∧ Below w.heap.size w wr) (fun kv _ _ => (intOf kv).toNat)
  case atStart => exact ⟨20, k, [], rfl, rfl, hide (by rw [List.append_nil]; exact (unhide HR).symm), hide (by omega), by omega, h2, by simp, Below.refl _ _⟩
  case round =>
    obtain ⟨f, K, o, rfl, rfl, HI, HF, hf, hKm, ho, hbel⟩ := hrel
    have hsz := hbel.size
    by_cases hK : 0 < K
    · obtain ⟨m, c, q, t1, t2, t3, t4, t5, t6, hq, hc, HG, HQ⟩ := round_facts K hK
      have hK' : (0 : Int) < (K : Int) := by omega
      have hf1 : 0 < f := by
        rcases Nat.eq_zero_or_pos f with e | e
        · have := unhide HF; rw [e] at this; simp at this; omega
        · exact e
      obtain ⟨f, rfl⟩ : ∃ g, f = g + 1 := ⟨f - 1, by omega⟩
      have hcv := conv_one wr c hc
      have so : (⟨o.toArray⟩ : ByteArray).size = o.length := rfl
      have s1 : ∀ W, (Op.stringOp .add ⟨#[UInt8.ofNat c]⟩ ⟨o.toArray⟩).run Tryd.prog W = .ok (.string ⟨(UInt8.ofNat c :: o).toArray⟩) W := fun W => by
        rw [run_string_add_sum W _ _ (by rw [so]; show 1 + o.length ≤ _; omega)]
        congr 2
      have HI' := hide (show digs f q ++ (UInt8.ofNat c :: o) = D by have := unhide HI; rw [unhide HG f] at this; simpa using this)
      have HF' := hide (show q < 10 ^ f by have h := unhide HF; rw [Nat.pow_succ] at h; rw [unhide HQ]; exact Nat.div_lt_of_lt_mul (by omega))
      clear HI HF HG HQ so
      go_wp2
      go_roundw
      case rel => exact ⟨f, q, UInt8.ofNat c :: o, by go_num, rfl, HI', HF', by omega, by omega, by simp; omega, hbel.alloc hsz _⟩
      case measure => simp [intOf]; omega
    · obtain rfl : K = 0 := by omega
      have e0 : o = D := by have := unhide HI; rwa [digs_zero, List.nil_append] at this
      have s2 : ∀ W, (Op.stringOp .add ⟨#[109]⟩ ⟨o.toArray⟩).run Tryd.prog W = .ok (.string R) W := fun W => by
        rw [unhide HD, ← e0]
        exact run_string_add_sum W _ _ (by show 1 + o.length ≤ _; omega)
      clear e0 HI HF HD HL
      go_wp2
      go_ret
      exact ⟨rfl, hbel⟩
theorem text_at (k : Nat) (z : Int) (hz : z = (k : Int)) (h1 : 1 ≤ k) (h2 : k ≤ 1000000000000) (w : World) : Calls Tryd.prog 55 #[.int .i64 z] w fun e w' => e = .returned (.string (text k)) ∧ Below w.heap.size w w' := by
  subst hz
  exact text_any k h1 h2 w
end Go.Proofs.YtkmoekbicbjdmaaDoor.Mark

/- How texts and labels stand to each other, as plain mathematics. No condition. -/
namespace Go.Proofs.YtkmoekbicbjdmaaDoor.Lab
open Go.RowKit Rw
theorem less_irrefl : ∀ a : List UInt8, Op.bytesLess a a = false
  | [] => rfl
  | x :: a => by unfold Op.bytesLess; rw [less_irrefl a]; simp
theorem cmp_less : ∀ a b : List UInt8, Lib.compareBytes a b = if Op.bytesLess a b = true then -1 else if a = b then 0 else 1
  | [], [] => by simp [Lib.compareBytes, Op.bytesLess]
  | [], y :: b => by simp [Lib.compareBytes, Op.bytesLess]
  | x :: a, [] => by simp [Lib.compareBytes, Op.bytesLess]
  | x :: a, y :: b => by
    rw [Lib.compareBytes, Op.bytesLess, cmp_less a b]
    by_cases h1 : x < y
    · simp [h1]
    · by_cases h2 : y < x
      · have hne : x ≠ y := fun e => by subst e; exact h1 h2
        simp [h1, h2, hne]
      · have e : x = y := by
          have a1 : ¬ x.toNat < y.toNat := fun h => h1 (UInt8.lt_iff_toNat_lt.2 h)
          have a2 : ¬ y.toNat < x.toNat := fun h => h2 (UInt8.lt_iff_toNat_lt.2 h)
          exact UInt8.toNat_inj.1 (by omega)
        subst e
        simp [h1]
def cmpS (a b : ByteArray) : Int := Lib.compareBytes a.data.toList b.data.toList
theorem cmpS_eq (a b : ByteArray) : cmpS a b = if ltS a b = true then -1 else if a.toList = b.toList then 0 else 1 := by
  unfold cmpS ltS
  rw [ByteArray.toList_eq, ByteArray.toList_eq]
  exact cmp_less _ _
theorem cmpS_range (a b : ByteArray) : -1 ≤ cmpS a b ∧ cmpS a b ≤ 1 := by
  rw [cmpS_eq]; split
  · omega
  · split <;> omega
def cmpE (x y : E) : Int := if cmpS x.1 y.1 ≠ 0 then cmpS x.1 y.1 else cmpS x.2 y.2
theorem cmpE_range (x y : E) : -1 ≤ cmpE x y ∧ cmpE x y ≤ 1 := by
  unfold cmpE; split
  · exact cmpS_range _ _
  · exact cmpS_range _ _
def cmpL : List E → List E → Int
  | [], [] => 0
  | [], _ :: _ => -1
  | _ :: _, [] => 1
  | x :: a, y :: b => if cmpE x y ≠ 0 then cmpE x y else cmpL a b
theorem cmpL_range : ∀ a b : List E, -1 ≤ cmpL a b ∧ cmpL a b ≤ 1
  | [], [] => by simp [cmpL]
  | [], _ :: _ => by simp [cmpL]
  | _ :: _, [] => by simp [cmpL]
  | x :: a, y :: b => by
    rw [cmpL]; split
    · exact cmpE_range x y
    · exact cmpL_range a b
theorem drop_at (zs : List E) (i : Nat) (h : i < zs.length) : zs.drop i = at' zs i :: zs.drop (i + 1) := by
  rw [List.drop_eq_getElem_cons h, at_get zs i h]
/-- what the loops keep -/
def CLeft (a b : List E) (i : Nat) : Prop := cmpL a b = cmpL (a.drop i) (b.drop i)
theorem left_start (a b : List E) : CLeft a b 0 := by simp [CLeft]
theorem left_next {a b : List E} {i : Nat} (h : CLeft a b i) (hi : i < a.length) (hj : i < b.length) (he : cmpE (at' a i) (at' b i) = 0) : CLeft a b (i + 1) := by
  unfold CLeft at *
  rw [h, drop_at a i hi, drop_at b i hj, cmpL, if_neg (by simp [he])]
theorem left_stop {a b : List E} {i : Nat} (h : CLeft a b i) (hi : i < a.length) (hj : i < b.length) (he : cmpE (at' a i) (at' b i) ≠ 0) : cmpL a b = cmpE (at' a i) (at' b i) := by
  unfold CLeft at *
  rw [h, drop_at a i hi, drop_at b i hj, cmpL, if_pos he]
theorem left_long {a b : List E} {i : Nat} (h : CLeft a b i) (hi : i < a.length) (hj : b.length ≤ i) : cmpL a b = 1 := by
  unfold CLeft at *
  rw [h, drop_at a i hi, List.drop_eq_nil_of_le hj, cmpL]
theorem left_short {a b : List E} {i : Nat} (h : CLeft a b i) (hi : a.length ≤ i) (hj : i < b.length) : cmpL a b = -1 := by
  unfold CLeft at *
  rw [h, drop_at b i hj, List.drop_eq_nil_of_le hi, cmpL]
theorem left_same {a b : List E} {i : Nat} (h : CLeft a b i) (hi : a.length ≤ i) (hj : b.length ≤ i) : cmpL a b = 0 := by
  unfold CLeft at *
  rw [h, List.drop_eq_nil_of_le hj, List.drop_eq_nil_of_le hi, cmpL]
/-- what LabelsCmp answers -/
def cmp (a b : List E) : Int := if ok a = true ∧ ok b = true then cmpL a b else 0
theorem cmp_bad {a b : List E} (h : ok a = false ∨ ok b = false) : cmp a b = 0 := by
  unfold cmp; rw [if_neg]; rintro ⟨h1, h2⟩; rcases h with h | h <;> simp_all
theorem cmp_ok {a b : List E} (h1 : ok a = true) (h2 : ok b = true) : cmp a b = cmpL a b := by unfold cmp; rw [if_pos ⟨h1, h2⟩]
end Go.Proofs.YtkmoekbicbjdmaaDoor.Lab

/- LabelsCmp's order: turned round it is its opposite, only the same stand at 0, and it goes on from one to the next. No condition. -/
namespace Go.Proofs.YtkmoekbicbjdmaaDoor.Lab
open Go.RowKit Rw
set_option linter.unusedVariables false
/-- an order that is told by a number -/
structure Ord {α : Type} (f : α → α → Int) : Prop where
  anti : ∀ a b, f b a = - f a b
  zero : ∀ a b, f a b = 0 → a = b
  trans : ∀ a b c, f a b ≤ 0 → f b c ≤ 0 → f a c ≤ 0
theorem Ord.self {α : Type} {f : α → α → Int} (h : Ord f) (a : α) : f a a = 0 := by have := h.anti a a; omega
/-- one order, and behind it another -/
theorem Ord.lex {α β γ : Type} {f : α → α → Int} {g : β → β → Int} (hf : Ord f) (hg : Ord g) (p : γ → α) (q : γ → β) (hpq : ∀ x y, p x = p y → q x = q y → x = y) : Ord (fun x y : γ => if f (p x) (p y) ≠ 0 then f (p x) (p y) else g (q x) (q y)) := by
  refine ⟨fun a b => ?_, fun a b => ?_, fun a b c => ?_⟩
  · have h1 := hf.anti (p a) (p b)
    have h2 := hg.anti (q a) (q b)
    by_cases h : f (p a) (p b) = 0
    · simp only [h1, h, h2, Int.neg_zero, ne_eq, not_true_eq_false, if_false]
    · have : ¬ - f (p a) (p b) = 0 := by omega
      simp only [h1, ne_eq, this, h, not_false_eq_true, if_true]
  · intro h0
    by_cases h : f (p a) (p b) = 0
    · simp only [h, ne_eq, not_true_eq_false, if_false] at h0
      exact hpq a b (hf.zero _ _ h) (hg.zero _ _ h0)
    · simp only [ne_eq, h, not_false_eq_true, if_true] at h0
  · intro h1 h2
    have tr := hf.trans (p a) (p b) (p c)
    by_cases e1 : f (p a) (p b) = 0
    · have E1 := hf.zero _ _ e1
      simp only [e1, ne_eq, not_true_eq_false, if_false] at h1
      rw [← E1] at h2
      by_cases e2 : f (p a) (p c) = 0
      · simp only [e2, ne_eq, not_true_eq_false, if_false] at h2 ⊢
        exact hg.trans _ _ _ h1 h2
      · simp only [ne_eq, e2, not_false_eq_true, if_true] at h2 ⊢
        exact h2
    · simp only [ne_eq, e1, not_false_eq_true, if_true] at h1
      by_cases e2 : f (p b) (p c) = 0
      · have E2 := hf.zero _ _ e2
        rw [← E2]
        simp only [ne_eq, e1, not_false_eq_true, if_true]
        exact h1
      · simp only [ne_eq, e2, not_false_eq_true, if_true] at h2
        have h3 := tr h1 h2
        by_cases e3 : f (p a) (p c) = 0
        · have E3 := hf.zero _ _ e3
          have := hf.anti (p a) (p b)
          rw [E3] at this
          have := hf.anti (p b) (p c)
          rw [E3] at e1 h1
          omega
        · simp only [ne_eq, e3, not_false_eq_true, if_true]
          exact h3
theorem u8_lt {x y : UInt8} : x < y ↔ x.toNat < y.toNat := UInt8.lt_iff_toNat_lt
theorem cb_anti : ∀ a b : List UInt8, Lib.compareBytes b a = - Lib.compareBytes a b
  | [], [] => by simp [Lib.compareBytes]
  | [], y :: b => by simp [Lib.compareBytes]
  | x :: a, [] => by simp [Lib.compareBytes]
  | x :: a, y :: b => by
    rw [Lib.compareBytes, Lib.compareBytes, cb_anti a b]
    by_cases h1 : x < y
    · have h2 : ¬ y < x := by rw [u8_lt] at *; omega
      simp [h1, h2]
    · by_cases h2 : y < x
      · simp [h1, h2]
      · simp [h1, h2]
theorem cb_zero : ∀ a b : List UInt8, Lib.compareBytes a b = 0 → a = b
  | [], [] => fun _ => rfl
  | [], y :: b => by simp [Lib.compareBytes]
  | x :: a, [] => by simp [Lib.compareBytes]
  | x :: a, y :: b => by
    rw [Lib.compareBytes]
    by_cases h1 : x < y
    · simp [h1]
    · by_cases h2 : y < x
      · simp [h1, h2]
      · have e : x = y := by rw [u8_lt] at *; exact UInt8.toNat_inj.1 (by omega)
        simp only [h1, h2, if_false]
        intro h
        rw [e, cb_zero a b h]
theorem cb_trans : ∀ a b c : List UInt8, Lib.compareBytes a b ≤ 0 → Lib.compareBytes b c ≤ 0 → Lib.compareBytes a c ≤ 0
  | [], _, [] => by simp [Lib.compareBytes]
  | [], _, _ :: _ => by simp [Lib.compareBytes]
  | _ :: _, [], _ => by simp [Lib.compareBytes]
  | _ :: _, _ :: _, [] => by simp [Lib.compareBytes]
  | x :: a, y :: b, z :: c => by
    have ih := cb_trans a b c
    rw [Lib.compareBytes, Lib.compareBytes, Lib.compareBytes]
    by_cases h1 : x < y
    · by_cases h3 : y < z
      · have : x < z := by rw [u8_lt] at *; omega
        simp [this]
      · by_cases h4 : z < y
        · simp [h3, h4]
        · have : x < z := by rw [u8_lt] at *; omega
          simp [this]
    · by_cases h2 : y < x
      · simp [h1, h2]
      · by_cases h3 : y < z
        · have : x < z := by rw [u8_lt] at *; omega
          simp [this]
        · by_cases h4 : z < y
          · simp [h3, h4]
          · have h5 : ¬ x < z := by rw [u8_lt] at *; omega
            have h6 : ¬ z < x := by rw [u8_lt] at *; omega
            simp only [h1, h2, h3, h4, h5, h6, if_false]
            exact ih
theorem ordS : Ord cmpS := ⟨fun a b => cb_anti _ _, fun a b h => Go.WideShapes.bytes_inj (cb_zero _ _ h), fun a b c => cb_trans _ _ _⟩
theorem ordE : Ord cmpE := ordS.lex ordS (fun x : E => x.1) (fun x : E => x.2) (fun x y h1 h2 => Prod.ext h1 h2)
theorem l_anti : ∀ a b : List E, cmpL b a = - cmpL a b
  | [], [] => by simp [cmpL]
  | [], y :: b => by simp [cmpL]
  | x :: a, [] => by simp [cmpL]
  | x :: a, y :: b => by
    rw [cmpL, cmpL, l_anti a b, ordE.anti x y]
    by_cases h : cmpE x y = 0
    · simp [h]
    · have : ¬ - cmpE x y = 0 := by omega
      simp only [ne_eq, this, h, not_false_eq_true, if_true]
theorem l_zero : ∀ a b : List E, cmpL a b = 0 → a = b
  | [], [] => fun _ => rfl
  | [], y :: b => by simp [cmpL]
  | x :: a, [] => by simp [cmpL]
  | x :: a, y :: b => by
    rw [cmpL]
    by_cases h : cmpE x y = 0
    · simp only [h, ne_eq, not_true_eq_false, if_false]
      intro h'
      rw [ordE.zero _ _ h, l_zero a b h']
    · simp only [ne_eq, h, not_false_eq_true, if_true]
      intro h'
      exact h'.elim
theorem l_trans : ∀ a b c : List E, cmpL a b ≤ 0 → cmpL b c ≤ 0 → cmpL a c ≤ 0
  | [], _, [] => by simp [cmpL]
  | [], _, _ :: _ => by simp [cmpL]
  | _ :: _, [], _ => by simp [cmpL]
  | _ :: _, _ :: _, [] => by simp [cmpL]
  | x :: a, y :: b, z :: c => by
    have ih := l_trans a b c
    rw [cmpL, cmpL, cmpL]
    intro h1 h2
    have tr := ordE.trans x y z
    by_cases e1 : cmpE x y = 0
    · have E1 := ordE.zero _ _ e1
      simp only [e1, ne_eq, not_true_eq_false, if_false] at h1
      rw [← E1] at h2
      by_cases e2 : cmpE x z = 0
      · simp only [e2, ne_eq, not_true_eq_false, if_false] at h2 ⊢
        exact ih h1 h2
      · simp only [ne_eq, e2, not_false_eq_true, if_true] at h2 ⊢
        exact h2
    · simp only [ne_eq, e1, not_false_eq_true, if_true] at h1
      by_cases e2 : cmpE y z = 0
      · have E2 := ordE.zero _ _ e2
        rw [← E2]
        simp only [ne_eq, e1, not_false_eq_true, if_true]
        exact h1
      · simp only [ne_eq, e2, not_false_eq_true, if_true] at h2
        have h3 := tr h1 h2
        by_cases e3 : cmpE x z = 0
        · have E3 := ordE.zero _ _ e3
          rw [E3] at e1 h1
          have := ordE.anti y z
          omega
        · simp only [ne_eq, e3, not_false_eq_true, if_true]
          exact h3
theorem ordL : Ord cmpL := ⟨l_anti, l_zero, l_trans⟩
/-- what LabelsCmp answers, turned round -/
theorem cmp_anti (a b : List E) : cmp b a = - cmp a b := by
  unfold cmp
  by_cases h : ok a = true ∧ ok b = true
  · rw [if_pos h, if_pos ⟨h.2, h.1⟩]; exact l_anti a b
  · rw [if_neg h, if_neg (fun h' => h ⟨h'.2, h'.1⟩)]; rfl
end Go.Proofs.YtkmoekbicbjdmaaDoor.Lab
