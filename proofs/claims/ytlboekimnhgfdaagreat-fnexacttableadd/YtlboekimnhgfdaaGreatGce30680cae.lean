/- My own texts of one claim, laid together by program: AskMath, RowTopMath, WinMath, JoinMath2. -/
import Derived.Test.YtlboekimnhgfdaaGreatG5809efe2b5
import Derived.Test.YtlboekimnhgfdaaGreatGfd13fb5380
import Derived.Test.YtlboekimnhgfdaaGreatG41a3f3c89c
import Derived.Test.YtlboekimnhgfdaaGreatGced19cb9cc
import Derived.Test.YtlboekimnhgfdaaGreatGda3aa4dff4
/- Rows made of rows one by one: what is asked for, what is left. -/
namespace Go.Proofs.YtlboekimnhgfdaaGreat.Row
open Go.RowKit Rw
set_option linter.unusedVariables false
/-- rows with other samples, without those of which none is left -/
def outL (g : E → List Sam.E) (zs : List E) : List E := zs.flatMap fun x => if g x = [] then [] else [(x.1, g x)]
theorem outL_snoc (g : E → List Sam.E) (zs : List E) (k : Nat) (h : k < zs.length) : outL g (zs.take (k + 1)) = outL g (zs.take k) ++ if g (at' zs k) = [] then [] else [((at' zs k).1, g (at' zs k))] := by
  unfold outL
  rw [List.take_succ_eq_append_getElem h, List.flatMap_append, at_get zs k h]
  simp
theorem outL_mem {g : E → List Sam.E} {zs : List E} {k : Nat} (hk : k ≤ zs.length) {y : E} (h : y ∈ outL g (zs.take k)) : ∃ i, i < k ∧ y = ((at' zs i).1, g (at' zs i)) ∧ g (at' zs i) ≠ [] := by
  unfold outL at h
  obtain ⟨x, hx, hy⟩ := List.mem_flatMap.1 h
  obtain ⟨i, hi, rfl⟩ := List.getElem_of_mem hx
  rw [List.length_take] at hi
  have e : (zs.take k)[i] = at' zs i := by rw [List.getElem_take, at_get zs i (by omega)]
  rw [e] at hy
  split at hy
  · cases hy
  · rename_i hne
    exact ⟨i, by omega, by simpa using hy, hne⟩
theorem cmp_lt_trans {a b c : List Lab.E} (h1 : Lab.cmpL a b < 0) (h2 : Lab.cmpL b c < 0) : Lab.cmpL a c < 0 := by
  have h3 := Lab.ordL.trans a b c (by omega) (by omega)
  rcases Nat.lt_or_ge 0 0 with h | h
  · omega
  · by_cases e : Lab.cmpL a c = 0
    · have := Lab.ordL.zero _ _ e
      subst this
      have := Lab.ordL.anti a b
      omega
    · omega
theorem ok_cmp {zs : List E} (h : ok zs = true) : ∀ (j i : Nat), i < j → j < zs.length → Lab.cmpL (at' zs i).1 (at' zs j).1 < 0
  | 0, i, hij, _ => by omega
  | j + 1, i, hij, hj => by
    have hs := ok_at h hj
    unfold stepOk at hs
    rw [Bool.and_eq_true] at hs
    have h1 : Lab.cmpL (at' zs j).1 (at' zs (j + 1)).1 < 0 := by simpa using hs.2
    by_cases e : i = j
    · subst e; exact h1
    · exact cmp_lt_trans (ok_cmp h j i (by omega) (by omega)) h1
theorem key_lt {a b : List Lab.E} (ha : Lab.ok a = true) (hb : Lab.ok b = true) (h : Lab.cmpL a b < 0) : StrMath.lt (Lab.keyOf a) (Lab.keyOf b) := by
  show Lab.ltS _ _ = true
  unfold Lab.ltS
  rw [ByteArray.toList_eq, ByteArray.toList_eq]
  have h1 := Lab.ok_lettered ha
  have h2 := Lab.ok_lettered hb
  have := (Lab.key_cmp a b h1.1 h2.1 h1.2 h2.2).2 (by have := Lab.cmpL_range a b; omega)
  unfold Lab.keyOf
  simpa using this
theorem ok_keys {zs : List E} (h : ok zs = true) {i j : Nat} (hij : i < j) (hj : j < zs.length) : StrMath.lt (Lab.keyOf (at' zs i).1) (Lab.keyOf (at' zs j).1) :=
  key_lt (step_is (ok_at h (by omega))).1 (step_is (ok_at h hj)).1 (ok_cmp h j i hij hj)
/-- all rows of a list stand ahead of labels -/
def Ahead (L : List E) (ls : List Lab.E) : Prop := ∀ y ∈ L, StrMath.lt (Lab.keyOf y.1) (Lab.keyOf ls)
def Sorted (L : List E) : Prop := (L.map fun y => Lab.keyOf y.1).Pairwise StrMath.lt
theorem outL_ahead {g : E → List Sam.E} {zs : List E} (h : ok zs = true) {k : Nat} (hk : k < zs.length) : Ahead (outL g (zs.take k)) (at' zs k).1 := by
  intro y hy
  obtain ⟨i, hi, e, -⟩ := outL_mem (by omega) hy
  rw [e]
  exact ok_keys h hi hk
theorem Sorted.snoc {L : List E} {x : E} (h : Sorted L) (ha : Ahead L x.1) : Sorted (L ++ [x]) := by
  unfold Sorted at *
  rw [List.map_append, List.pairwise_append]
  refine ⟨h, by simp, fun a ha' b hb => ?_⟩
  obtain ⟨y, hy, rfl⟩ := List.mem_map.1 ha'
  simp only [List.map_cons, List.map_nil, List.mem_singleton] at hb
  subst hb
  exact ha y hy
theorem Sorted.nodup {L : List E} (h : Sorted L) : (L.map fun y => Lab.keyOf y.1).Nodup := List.Pairwise.imp (fun {a b} hab e => by subst e; exact StrMath.lt_irrefl _ hab) h
theorem put_end : ∀ (l : List ByteArray) (n : ByteArray), (∀ z ∈ l, StrMath.lt z n) → StrMath.put l n = l ++ [n]
  | [], n, _ => rfl
  | x :: l, n, h => by
    unfold StrMath.put
    rw [if_pos (h x (List.mem_cons_self ..)), put_end l n (fun z hz => h z (List.mem_cons_of_mem _ hz))]
    rfl
end Go.Proofs.YtlboekimnhgfdaaGreat.Row
namespace Go.Proofs.YtlboekimnhgfdaaGreat.RSet
open Go.RowKit Rw
/-- a set that has just these rows -/
def Built (lo B mb n : Nat) (w : World) (L : List Row.E) : Prop := ∃ M R, IsSet lo B mb n w (L.map fun y => Lab.keyOf y.1) M R ∧ (L.map fun y => Lab.keyOf y.1).map R = L
theorem Built.below {lo B mb n : Nat} {w w' : World} {L : List Row.E} (h : Built lo B mb n w L) (hb : Below w.heap.size w w') : Built lo B mb n w' L := by
  obtain ⟨M, R, h1, h2⟩ := h
  exact ⟨M, R, h1.below hb, h2⟩
theorem Built.ltB {lo B mb n : Nat} {w : World} {L : List Row.E} (h : Built lo B mb n w L) : B < w.heap.size ∧ mb < w.heap.size ∧ lo ≤ B ∧ lo ≤ mb := by
  obtain ⟨M, R, h1, h2⟩ := h
  exact ⟨h1.ltB, h1.map.lt, h1.loB, h1.loM⟩
theorem built_new {lo B mb n m sc : Nat} {sa : Option Addr} {w : World} {L : List Row.E} {lv : Value} {ls : List Lab.E} {zs : List Sam.E}
    (h : Built lo B mb n w L) (hL : L.length ≤ 1000) (hn : n ≤ 1000) (hA : Row.Ahead L ls) (hl : Lab.Is w lv ls) (hlg : ∀ x ∈ ls, Lab.good x) (hlo : Lab.ok ls = true) (hs : Samp.Smp w (.slice sa m sc) zs) (hm : zs.length = m) (hz : SampMath.ok zs = true) (h0 : 0 < m) (h1 : m ≤ 4194304) (hlow : lo ≤ w.heap.size) :
    Calls Tryz.prog 101 #[.pointer (some ⟨B, 0, none⟩), lv, .slice sa m sc] w fun e w' => e = .returned (.bool true) ∧ Built lo B mb (n + 1) w' (L ++ [(ls, zs)]) ∧ Two B mb w w' := by
  obtain ⟨M, R, hs1, hR⟩ := h
  have hlt : ∀ z ∈ L.map (fun y => Lab.keyOf y.1), StrMath.lt z (Lab.keyOf ls) := fun z hz' => by obtain ⟨y, hy, rfl⟩ := List.mem_map.1 hz'; exact hA y hy
  have hni : Lab.keyOf ls ∉ L.map (fun y => Lab.keyOf y.1) := fun hi => StrMath.lt_irrefl _ (hlt _ hi)
  have hN : M (Lab.keyOf ls) = none := by
    cases e : M (Lab.keyOf ls) with
    | none => rfl
    | some c => exact absurd ((hs1.has _).1 (by rw [e]; rfl)) hni
  refine (put_new hs1 hl hlg hlo hs hm hz h0 h1 (by rw [List.length_map]; exact hL) hn hN hlow).mono ?_
  rintro e w' ⟨c, rfl, hs2, ht⟩
  rw [Row.put_end _ _ hlt] at hs2
  refine ⟨rfl, ⟨_, _, by rw [List.map_append]; exact hs2, ?_⟩, ht⟩
  rw [List.map_append, List.map_append]
  congr 1
  · conv => rhs; rw [← hR]
    refine List.map_congr_left (fun k hk => ?_)
    rw [if_neg (fun e => hni (by rw [← e]; exact hk))]
  · simp
theorem built_last {lo B mb n m sc : Nat} {sa : Option Addr} {w : World} {L : List Row.E} {lv : Value} {ls : List Lab.E} {a zs J : List Sam.E}
    (h : Built lo B mb n w (L ++ [(ls, a)])) (hn : n ≤ 1000) (hA : Row.Ahead L ls) (hl : Lab.Is w lv ls) (hlg : ∀ x ∈ ls, Lab.good x) (hlo : Lab.ok ls = true) (hs : Samp.Smp w (.slice sa m sc) zs) (hm : zs.length = m) (hJ : SampMath.join a zs = (J, true)) (h0 : 0 < m) (h1 : m ≤ 4194304) (h2 : a.length ≤ 4194304) (hlow : lo ≤ w.heap.size) :
    Calls Tryz.prog 101 #[.pointer (some ⟨B, 0, none⟩), lv, .slice sa m sc] w fun e w' => e = .returned (.bool true) ∧ Built lo B mb (n + 1) w' (L ++ [(ls, J)]) ∧ Two B mb w w' := by
  obtain ⟨M, R, hs1, hR⟩ := h
  have hlt : ∀ z ∈ L.map (fun y => Lab.keyOf y.1), StrMath.lt z (Lab.keyOf ls) := fun z hz' => by obtain ⟨y, hy, rfl⟩ := List.mem_map.1 hz'; exact hA y hy
  have hni : Lab.keyOf ls ∉ L.map (fun y => Lab.keyOf y.1) := fun hi => StrMath.lt_irrefl _ (hlt _ hi)
  rw [List.map_append, List.map_append] at hR
  have hp := List.append_inj' hR (by simp)
  have hR1 := hp.1
  have hR2 : R (Lab.keyOf ls) = (ls, a) := by simpa using hp.2
  have hin : Lab.keyOf ls ∈ (L ++ [(ls, a)]).map (fun y => Lab.keyOf y.1) := by simp
  obtain ⟨c, hN⟩ : ∃ c, M (Lab.keyOf ls) = some c := Option.isSome_iff_exists.1 ((hs1.has _).2 hin)
  refine (put_old hs1 hl hlg hlo hs hm (by rw [hR2]; exact hJ) h0 h1 (by rw [hR2]; exact h2) hn hN hlow).mono ?_
  rintro e w' ⟨c, rfl, hs2, ht⟩
  refine ⟨rfl, ⟨_, _, by rw [List.map_append] at hs2 ⊢; exact hs2, ?_⟩, ht⟩
  rw [List.map_append, List.map_append]
  congr 1
  · conv => rhs; rw [← hR1]
    refine List.map_congr_left (fun k hk => ?_)
    rw [if_neg (fun e => hni (by rw [← e]; exact hk))]
  · simp [hR2]
theorem built_rows {lo B mb n : Nat} {w : World} {L : List Row.E} (h : Built lo B mb n w L) (hS : Row.Sorted L) (hL : L.length ≤ 1000) (hok : ∀ y ∈ L, Lab.ok y.1 = true) (hlow : lo ≤ w.heap.size) :
    Calls Tryz.prog 74 #[.pointer (some ⟨B, 0, none⟩)] w fun e w' => ∃ v, e = .returned v ∧ Row.Own lo w'.heap.size w' v L ∧ Below w.heap.size w w' := by
  obtain ⟨M, R, hs1, hR⟩ := h
  have := rows_any hs1 hS.nodup (fun k hk => by obtain ⟨y, hy, rfl⟩ := List.mem_map.1 hk; exact key_size (hok y hy)) (by rw [List.length_map]; exact hL) hlow
  rw [hR] at this
  exact this
end Go.Proofs.YtlboekimnhgfdaaGreat.RSet

/- The rows with the greatest last numbers, as plain mathematics. -/
namespace Go.Proofs.YtlboekimnhgfdaaGreat.Row
theorem cmp_lt {a b c : List Lab.E} (h1 : Lab.cmpL a b < 0) (h2 : Lab.cmpL b c < 0) : Lab.cmpL a c < 0 := by
  have t := Lab.ordL.trans a b c (by omega) (by omega)
  by_cases e : Lab.cmpL a c = 0
  · have := Lab.ordL.zero a c e
    subst this
    have := Lab.ordL.anti a b
    omega
  · omega
theorem ok_lt {zs : List E} (h : ok zs = true) {i j : Nat} (hij : i < j) (hj : j < zs.length) : Lab.cmpL (at' zs i).1 (at' zs j).1 < 0 := by
  induction j with
  | zero => omega
  | succ j ih =>
    have h1 := ok_at h hj
    unfold stepOk at h1
    simp only [Bool.and_eq_true, Bool.or_eq_true, Nat.add_sub_cancel, decide_eq_true_eq, beq_iff_eq] at h1
    have h2 : Lab.cmpL (at' zs j).1 (at' zs (j + 1)).1 < 0 := by
      rcases h1.2 with h | h
      · omega
      · exact h
    by_cases e : i = j
    · subst e; exact h2
    · exact cmp_lt (ih (by omega) (by omega)) h2
theorem ok_iff (zs : List E) : ok zs = true ↔ (∀ x ∈ zs, rowB x = true) ∧ zs.Pairwise (fun a b => Lab.cmpL a.1 b.1 < 0) ∧ zs.length ≤ 10 := by
  constructor
  · intro h
    refine ⟨fun x hx => ?_, ?_, ok_len h⟩
    · obtain ⟨i, hi, rfl⟩ := List.getElem_of_mem hx
      have := ok_at h hi
      unfold stepOk at this
      rw [Bool.and_eq_true] at this
      rw [← at_get zs i hi]
      exact this.1
    · rw [List.pairwise_iff_getElem]
      intro i j hi hj hij
      have := ok_lt h hij hj
      rwa [at_get zs i hi, at_get zs j hj] at this
  · rintro ⟨h1, h2, h3⟩
    unfold ok okTo
    rw [Bool.and_eq_true]
    refine ⟨List.all_eq_true.2 fun i hi => ?_, decide_eq_true h3⟩
    have hi := List.mem_range.1 hi
    unfold stepOk
    rw [Bool.and_eq_true]
    refine ⟨by rw [at_get zs i hi]; exact h1 _ (List.getElem_mem _), ?_⟩
    rcases Nat.eq_zero_or_pos i with h0 | h0
    · simp [h0]
    · rw [List.pairwise_iff_getElem] at h2
      have := h2 (i - 1) i (by omega) hi (by omega)
      rw [← at_get zs (i - 1) (by omega), ← at_get zs i hi] at this
      simp [this]
theorem ok_sub {zs ys : List E} (h : ok zs = true) (hs : ys.Sublist zs) : ok ys = true := by
  rw [ok_iff] at h ⊢
  exact ⟨fun x hx => h.1 x (hs.subset hx), h.2.1.sublist hs, Nat.le_trans hs.length_le h.2.2⟩
def lastV (x : E) : Int := (SampMath.at' x.2 (x.2.length - 1)).2
def ahead (zs : List E) (j i : Nat) : Bool := decide (lastV (at' zs i) < lastV (at' zs j)) || (decide (lastV (at' zs j) = lastV (at' zs i)) && decide (j < i))
def rankTo (zs : List E) (i : Nat) : Nat → Nat
  | 0 => 0
  | k + 1 => rankTo zs i k + if ahead zs k i = true then 1 else 0
theorem rankTo_le (zs : List E) (i k : Nat) : rankTo zs i k ≤ k := by
  induction k with
  | zero => exact Nat.le_refl _
  | succ k ih => rw [rankTo]; split <;> omega
def topTo (zs : List E) (most : Int) : Nat → List E
  | 0 => []
  | k + 1 => topTo zs most k ++ if (rankTo zs k zs.length : Int) < most then [at' zs k] else []
theorem topTo_sub (zs : List E) (most : Int) : ∀ k, k ≤ zs.length → (topTo zs most k).Sublist (zs.take k) := by
  intro k
  induction k with
  | zero => intro _; exact List.Sublist.refl _
  | succ k ih =>
    intro h
    rw [topTo, at_snoc zs k (by omega)]
    refine (ih (by omega)).append ?_
    split
    · exact List.Sublist.refl _
    · exact List.nil_sublist _
def top (most : Int) (zs : List E) : List E := if ok zs = true then topTo zs most zs.length else []
theorem top_sub (most : Int) (zs : List E) : (top most zs).Sublist zs := by
  unfold top
  split
  · have := topTo_sub zs most zs.length (Nat.le_refl _); rwa [List.take_length] at this
  · exact List.nil_sublist _
theorem topTo_ok {zs : List E} (most : Int) (h : ok zs = true) : ok (topTo zs most zs.length) = true := by
  have := topTo_sub zs most zs.length (Nat.le_refl _)
  rw [List.take_length] at this
  exact ok_sub h this
theorem topTo_le (zs : List E) (most : Int) (k : Nat) : (topTo zs most k).length ≤ k := by
  induction k with
  | zero => exact Nat.le_refl _
  | succ k ih => rw [topTo, List.length_append]; split <;> simp <;> omega
theorem topTo_yes {zs : List E} {most : Int} {k : Nat} (h : (rankTo zs k zs.length : Int) < most) : topTo zs most (k + 1) = topTo zs most k ++ [at' zs k] := by rw [topTo, if_pos h]
theorem topTo_no {zs : List E} {most : Int} {k : Nat} (h : ¬ (rankTo zs k zs.length : Int) < most) : topTo zs most (k + 1) = topTo zs most k := by rw [topTo, if_neg h, List.append_nil]
theorem rank_yes {zs : List E} {i k : Nat} (h : ahead zs k i = true) : rankTo zs i (k + 1) = rankTo zs i k + 1 := by rw [rankTo, if_pos h]
theorem rank_no {zs : List E} {i k : Nat} (h : ahead zs k i = false) : rankTo zs i (k + 1) = rankTo zs i k := by rw [rankTo, h]; rfl
end Go.Proofs.YtlboekimnhgfdaaGreat.Row

/- Whiles, as plain mathematics: by how much samples rose, samples made less. No condition. -/
namespace Go.Proofs.YtlboekimnhgfdaaGreat.SampMath
theorem ok_ge {zs : List S} (h : ok zs = true) : ∀ k, k < zs.length → (k : Int) ≤ (at' zs k).1 := by
  intro k hk
  induction k with
  | zero => exact (ok_range h hk).1
  | succ k ih =>
    have h1 := ih (by omega)
    have h2 := ok_step h hk
    omega
theorem ok_len {zs : List S} (h : ok zs = true) : zs.length ≤ 10000 := by
  by_cases h0 : zs.length = 0
  · omega
  · have h1 := ok_ge h (zs.length - 1) (by omega)
    have h2 := (ok_range h (k := zs.length - 1) (by omega)).2.1
    omega
/-- by how much the number at a place rose -/
def up (zs : List S) (i : Nat) : Int := if (at' zs (i - 1)).2 ≤ (at' zs i).2 then (at' zs i).2 - (at' zs (i - 1)).2 else (at' zs i).2
/-- from the place 1 on up to the place k -/
def upTo (zs : List S) : Nat → Int
  | 0 => 0
  | k + 1 => if k = 0 then 0 else upTo zs k + up zs k
theorem upTo_one (zs : List S) : upTo zs 1 = 0 := rfl
theorem upTo_succ (zs : List S) (k : Nat) (h : 0 < k) : upTo zs (k + 1) = upTo zs k + up zs k := by
  show (if k = 0 then 0 else upTo zs k + up zs k) = _
  rw [if_neg (by omega)]
def rises (zs : List S) : Int := if ok zs = true then upTo zs zs.length else 0
theorem up_range {zs : List S} (h : ok zs = true) {i : Nat} (h1 : 0 < i) (h2 : i < zs.length) : 0 ≤ up zs i ∧ up zs i ≤ 2147483647 := by
  have a := ok_range h h2
  have b := ok_range h (k := i - 1) (by omega)
  unfold up
  split <;> omega
theorem upTo_range {zs : List S} (h : ok zs = true) : ∀ k, k ≤ zs.length → 0 ≤ upTo zs k ∧ upTo zs k ≤ 2147483647 * (k : Int) := by
  intro k
  induction k with
  | zero => intro _; exact ⟨Int.le_refl _, by show (0 : Int) ≤ _; omega⟩
  | succ k ih =>
    intro hk
    by_cases h0 : k = 0
    · subst h0; rw [upTo_one]; omega
    · have a := ih (by omega)
      have b := up_range h (i := k) (by omega) (by omega)
      rw [upTo_succ zs k (by omega)]
      omega
theorem up_yes {zs : List S} {i : Nat} (h : (at' zs (i - 1)).2 ≤ (at' zs i).2) : up zs i = (at' zs i).2 - (at' zs (i - 1)).2 := if_pos h
theorem up_no {zs : List S} {i : Nat} (h : ¬ (at' zs (i - 1)).2 ≤ (at' zs i).2) : up zs i = (at' zs i).2 := if_neg h
/-- whether the sample at a place is the last of its while -/
def lastW (zs : List S) (st : Int) (k : Nat) : Bool := decide (k + 1 = zs.length) || decide ((at' zs (k + 1)).1 / st ≠ (at' zs k).1 / st)
def thinTo (zs : List S) (st : Int) : Nat → List S
  | 0 => []
  | k + 1 => thinTo zs st k ++ if lastW zs st k = true then [at' zs k] else []
def thinB (st : Int) : Bool := decide (1 ≤ st) && decide (st ≤ 9999)
def thin (zs : List S) (st : Int) : List S := if ok zs = true ∧ thinB st = true then thinTo zs st zs.length else []
theorem thinTo_le (zs : List S) (st : Int) : ∀ k, (thinTo zs st k).length ≤ k := by
  intro k
  induction k with
  | zero => exact Nat.le_refl _
  | succ k ih => rw [thinTo, List.length_append]; split <;> simp <;> omega
theorem thinTo_yes {zs : List S} {st : Int} {k : Nat} (h : lastW zs st k = true) : thinTo zs st (k + 1) = thinTo zs st k ++ [at' zs k] := by rw [thinTo, h]; rfl
theorem thinTo_no {zs : List S} {st : Int} {k : Nat} (h : lastW zs st k = false) : thinTo zs st (k + 1) = thinTo zs st k := by rw [thinTo, h]; simp
theorem lastW_end {zs : List S} {st : Int} {k : Nat} (h : k + 1 = zs.length) : lastW zs st k = true := by unfold lastW; rw [decide_eq_true h]; rfl
theorem lastW_far {zs : List S} {st : Int} {k : Nat} (h : (at' zs (k + 1)).1 / st ≠ (at' zs k).1 / st) : lastW zs st k = true := by unfold lastW; rw [decide_eq_true h, Bool.or_true]
theorem lastW_near {zs : List S} {st : Int} {k : Nat} (h : k + 1 ≠ zs.length) (h' : (at' zs (k + 1)).1 / st = (at' zs k).1 / st) : lastW zs st k = false := by
  unfold lastW; rw [decide_eq_false h, decide_eq_false (by simpa using h')]; rfl
theorem thin_le (zs : List S) (st : Int) : (thin zs st).length ≤ zs.length := by
  unfold thin
  split
  · exact thinTo_le _ _ _
  · simp
/-- what stands there behind so many samples, the last of them being still open -/
def foldTo (zs : List S) (st : Int) : Nat → List S
  | 0 => []
  | k + 1 => thinTo zs st k ++ [at' zs k]
theorem foldTo_len (zs : List S) (st : Int) (k : Nat) : (foldTo zs st k).length ≤ k := by
  cases k with
  | zero => exact Nat.le_refl _
  | succ k => have := thinTo_le zs st k; rw [foldTo, List.length_append]; simp; omega
theorem foldTo_end (zs : List S) (st : Int) : foldTo zs st zs.length = thinTo zs st zs.length := by
  cases h : zs.length with
  | zero => rfl
  | succ k => rw [foldTo, thinTo_yes (lastW_end (by omega))]
end Go.Proofs.YtlboekimnhgfdaaGreat.SampMath

/- It does not matter which samples are first; with themselves they are the same. No condition. -/
namespace Go.Proofs.YtlboekimnhgfdaaGreat.SampMath
theorem merge_comm (a : List S) : ∀ b : List S, merge a b = merge b a := by
  induction a with
  | nil => intro b; rw [merge_nil, merge_nil_right]
  | cons x a iha =>
    intro b
    induction b with
    | nil => rw [merge_nil, merge_nil_right]
    | cons y b ihb =>
      rw [merge, merge]
      by_cases h1 : x.1 < y.1
      · have h2 : ¬ y.1 < x.1 := by omega
        rw [if_pos h1, if_neg h2, if_pos h1, iha]
      · rw [if_neg h1]
        by_cases h2 : y.1 < x.1
        · rw [if_pos h2, if_pos h2, ihb]
        · rw [if_neg h2, if_neg h2, if_neg h1]
          by_cases h3 : x.2 = y.2
          · have e : x = y := Prod.ext (by omega) h3
            rw [if_pos h3, if_pos h3.symm, iha, e]
          · rw [if_neg h3, if_neg (fun h => h3 h.symm)]
theorem merge_self (a : List S) : merge a a = some a := by
  induction a with
  | nil => rw [merge_nil]
  | cons x a ih =>
    rw [merge, if_neg (by omega), if_neg (by omega), if_pos rfl, ih]
    rfl
theorem join_comm (a b : List S) : join a b = join b a := by
  unfold join
  rw [merge_comm a b]
  by_cases h : ok a = true ∧ ok b = true
  · rw [if_pos h, if_pos ⟨h.2, h.1⟩]
  · rw [if_neg h, if_neg (fun h' => h ⟨h'.2, h'.1⟩)]
theorem join_self {a : List S} (h : ok a = true) : join a a = (a, true) := join_some h h (merge_self a)
end Go.Proofs.YtlboekimnhgfdaaGreat.SampMath
