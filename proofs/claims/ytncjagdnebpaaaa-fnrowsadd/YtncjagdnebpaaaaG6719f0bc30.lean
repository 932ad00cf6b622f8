/- My own texts of one claim, laid together by program: LetMath, AskMath, SamOk, LabCmp. -/
import Derived.Test.YtncjagdnebpaaaaG4464f45ed3
import Derived.Lib.Strings
import Derived.Test.YtncjagdnebpaaaaG240cb4c68c
import Derived.Test.YtncjagdnebpaaaaG5e89bfada3
import Derived.Test.YtncjagdnebpaaaaG228b1de602
import Derived.Test.YtncjagdnebpaaaaG4680891d3a
import Derived.Test.YtncjagdnebpaaaaG0b5a214c69
import Derived.Deep.RegionWith
/- What a match lets, as plain mathematics. No condition. -/
namespace Go.Proofs.Ytncjagdnebpaaaa.Mat
open Go.RowKit Rw
def sameS (a b : ByteArray) : Bool := a.toList == b.toList
theorem sameS_iff {a b : ByteArray} : sameS a b = true ↔ a = b := by
  unfold sameS
  rw [beq_iff_eq, ByteArray.toList_eq, ByteArray.toList_eq]
  exact ⟨Go.WideShapes.bytes_inj, fun h => by rw [h]⟩
theorem sameS_self (a : ByteArray) : sameS a a = true := sameS_iff.2 rfl
theorem sameS_no {a b : ByteArray} : sameS a b = false ↔ a ≠ b := by
  cases h : sameS a b
  · simp only [true_iff]; intro e; rw [sameS_iff.2 e] at h; cases h
  · simp only [Bool.true_eq_false, false_iff, Decidable.not_not]; exact sameS_iff.1 h
def wordOf (ls : List Lab.E) (nm : ByteArray) : ByteArray := ((ls.find? fun x => sameS x.1 nm).map (·.2)).getD ByteArray.empty
theorem find_none (ls : List Lab.E) (nm : ByteArray) (k : Nat) (hk : k < ls.length) (h : (ls.take k).find? (fun x => sameS x.1 nm) = none) (hx : sameS (Lab.at' ls k).1 nm = false) : (ls.take (k + 1)).find? (fun x => sameS x.1 nm) = none := by
  rw [Lab.at_snoc ls k hk, List.find?_append, h]
  simp [hx]
theorem word_hit (ls : List Lab.E) (nm : ByteArray) (k : Nat) (hk : k < ls.length) (h : (ls.take k).find? (fun x => sameS x.1 nm) = none) (hx : sameS (Lab.at' ls k).1 nm = true) : wordOf ls nm = (Lab.at' ls k).2 := by
  unfold wordOf
  have e : ls = ls.take k ++ (Lab.at' ls k :: ls.drop (k + 1)) := by
    rw [Lab.at_get ls k hk, ← List.drop_eq_getElem_cons hk, List.take_append_drop]
  rw [e, List.find?_append, h, List.find?_cons]
  have e2 : Lab.at' (ls.take k ++ (Lab.at' ls k :: ls.drop (k + 1))) k = Lab.at' ls k := by rw [← e]
  simp [hx, e2]
theorem word_miss (ls : List Lab.E) (nm : ByteArray) (h : ls.find? (fun x => sameS x.1 nm) = none) : wordOf ls nm = ByteArray.empty := by unfold wordOf; rw [h]; rfl
theorem wordOf_size {ls : List Lab.E} (hg : ∀ x ∈ ls, Lab.good x) (nm : ByteArray) : (wordOf ls nm).size ≤ maxLen := by
  unfold wordOf
  cases h : ls.find? fun x => sameS x.1 nm with
  | none => simp
  | some x => exact (hg x (List.mem_of_find?_eq_some h)).2
def prefB (w p : ByteArray) : Bool := Lib.hasPrefix w.data.toList p.data.toList
def letB (m : E) (ls : List Lab.E) : Bool :=
  if m.1 = 1 then sameS (wordOf ls m.2.1) m.2.2 else if m.1 = 2 then !sameS (wordOf ls m.2.1) m.2.2 else if m.1 = 3 then prefB (wordOf ls m.2.1) m.2.2 else !prefB (wordOf ls m.2.1) m.2.2
def letsTo (zs : List E) (ls : List Lab.E) (k : Nat) : Bool := (zs.take k).all fun m => letB m ls
def lets (zs : List E) (ls : List Lab.E) : Bool := zs.all fun m => letB m ls
theorem letsTo_succ (zs : List E) (ls : List Lab.E) (k : Nat) (h : k < zs.length) : letsTo zs ls (k + 1) = (letsTo zs ls k && letB (at' zs k) ls) := by
  unfold letsTo; rw [at_snoc zs k h, List.all_append]; simp
theorem lets_no (zs : List E) (ls : List Lab.E) (k : Nat) (h : k < zs.length) (hb : letB (at' zs k) ls = false) : lets zs ls = false := by
  unfold lets; rw [List.all_eq_false]
  exact ⟨at' zs k, by rw [at_get zs k h]; exact List.getElem_mem _, by simp [hb]⟩
theorem lets_all (zs : List E) (ls : List Lab.E) (h : letsTo zs ls zs.length = true) : lets zs ls = true := by
  unfold letsTo at h; rwa [List.take_of_length_le (Nat.le_refl _)] at h
/-- what MatchesLet answers -/
def mlet (zs : List E) (ls : List Lab.E) : Bool := ok zs && Lab.ok ls && lets zs ls
theorem ok_kind {zs : List E} (h : ok zs = true) {k : Nat} (hk : k < zs.length) : 1 ≤ (at' zs k).1 ∧ (at' zs k).1 ≤ 4 := by
  unfold ok at h; rw [Bool.and_eq_true] at h
  have := h.1; unfold okTo at this
  have := List.all_eq_true.1 this k (List.mem_range.2 hk)
  unfold stepOk at this
  simp only [Bool.and_eq_true, decide_eq_true_eq] at this
  exact ⟨this.1.1.1, this.1.1.2⟩
/-- the model's own way to ask for a beginning -/
theorem prefB_eq (w p : ByteArray) : prefB w p = (decide (p.size ≤ w.size) && sameS (w.extract 0 p.size) p) := by
  have hw : w.data.toList.length = w.size := Array.length_toList
  have hp : p.data.toList.length = p.size := Array.length_toList
  unfold prefB Lib.hasPrefix
  rw [Bool.eq_iff_iff, Bool.and_eq_true, decide_eq_true_eq, sameS_iff]
  have ex : (w.extract 0 p.size).data.toList = w.data.toList.take p.size := by simp [ByteArray.data_extract]
  constructor
  · intro h
    have h := List.isPrefixOf_iff_prefix.1 h
    obtain ⟨t, ht⟩ := h
    have hl := congrArg List.length ht
    rw [List.length_append] at hl
    refine ⟨by omega, Go.WideShapes.bytes_inj ?_⟩
    rw [ex, ← ht, ← hp, List.take_left]
  · rintro ⟨h1, h2⟩
    refine List.isPrefixOf_iff_prefix.2 ⟨w.data.toList.drop p.size, ?_⟩
    have := congrArg (fun x : ByteArray => x.data.toList) h2
    simp only [ex] at this
    rw [← this, List.take_append_drop]
end Go.Proofs.Ytncjagdnebpaaaa.Mat

/- Rows made of rows one by one: what is asked for, what is left. -/
namespace Go.Proofs.Ytncjagdnebpaaaa.Row
open Go.RowKit Rw
set_option linter.unusedVariables false
/-- rows with other samples, without those of which none is left -/
def outL (g : E → List Sam.E) (zs : List E) : List E := zs.flatMap fun x => if g x = [] then [] else [(x.1, g x)]
theorem outL_snoc (g : E → List Sam.E) (zs : List E) (k : Nat) (h : k < zs.length) : outL g (zs.take (k + 1)) = outL g (zs.take k) ++ if g (at' zs k) = [] then [] else [((at' zs k).1, g (at' zs k))] := by
  unfold outL
  rw [List.take_succ_eq_append_getElem h, List.flatMap_append, at_get zs k h]
  simp
theorem outL_mem {g : E → List Sam.E} {zs : List E} {k : Nat} (hk : k ≤ zs.length) {y : E} (h : y ∈ outL g (zs.take k)) : ∃ i, i < k ∧ y = ((at' zs i).1, g (at' zs i)) ∧ g (at' zs i) ≠ [] := by
  unfold outL at h
  obtain ⟨x, hx, hy⟩ := List.mem_flatMap.1 h
  obtain ⟨i, hi, rfl⟩ := List.getElem_of_mem hx
  rw [List.length_take] at hi
  have e : (zs.take k)[i] = at' zs i := by rw [List.getElem_take, at_get zs i (by omega)]
  rw [e] at hy
  split at hy
  · cases hy
  · rename_i hne
    exact ⟨i, by omega, by simpa using hy, hne⟩
theorem cmp_lt_trans {a b c : List Lab.E} (h1 : Lab.cmpL a b < 0) (h2 : Lab.cmpL b c < 0) : Lab.cmpL a c < 0 := by
  have h3 := Lab.ordL.trans a b c (by omega) (by omega)
  rcases Nat.lt_or_ge 0 0 with h | h
  · omega
  · by_cases e : Lab.cmpL a c = 0
    · have := Lab.ordL.zero _ _ e
      subst this
      have := Lab.ordL.anti a b
      omega
    · omega
theorem ok_cmp {zs : List E} (h : ok zs = true) : ∀ (j i : Nat), i < j → j < zs.length → Lab.cmpL (at' zs i).1 (at' zs j).1 < 0
  | 0, i, hij, _ => by omega
  | j + 1, i, hij, hj => by
    have hs := ok_at h hj
    unfold stepOk at hs
    rw [Bool.and_eq_true] at hs
    have h1 : Lab.cmpL (at' zs j).1 (at' zs (j + 1)).1 < 0 := by simpa using hs.2
    by_cases e : i = j
    · subst e; exact h1
    · exact cmp_lt_trans (ok_cmp h j i (by omega) (by omega)) h1
theorem key_lt {a b : List Lab.E} (ha : Lab.ok a = true) (hb : Lab.ok b = true) (h : Lab.cmpL a b < 0) : StrMath.lt (Lab.keyOf a) (Lab.keyOf b) := by
  show Lab.ltS _ _ = true
  unfold Lab.ltS
  rw [ByteArray.toList_eq, ByteArray.toList_eq]
  have h1 := Lab.ok_lettered ha
  have h2 := Lab.ok_lettered hb
  have := (Lab.key_cmp a b h1.1 h2.1 h1.2 h2.2).2 (by have := Lab.cmpL_range a b; omega)
  unfold Lab.keyOf
  simpa using this
theorem ok_keys {zs : List E} (h : ok zs = true) {i j : Nat} (hij : i < j) (hj : j < zs.length) : StrMath.lt (Lab.keyOf (at' zs i).1) (Lab.keyOf (at' zs j).1) :=
  key_lt (step_is (ok_at h (by omega))).1 (step_is (ok_at h hj)).1 (ok_cmp h j i hij hj)
/-- all rows of a list stand ahead of labels -/
def Ahead (L : List E) (ls : List Lab.E) : Prop := ∀ y ∈ L, StrMath.lt (Lab.keyOf y.1) (Lab.keyOf ls)
def Sorted (L : List E) : Prop := (L.map fun y => Lab.keyOf y.1).Pairwise StrMath.lt
theorem outL_ahead {g : E → List Sam.E} {zs : List E} (h : ok zs = true) {k : Nat} (hk : k < zs.length) : Ahead (outL g (zs.take k)) (at' zs k).1 := by
  intro y hy
  obtain ⟨i, hi, e, -⟩ := outL_mem (by omega) hy
  rw [e]
  exact ok_keys h hi hk
theorem Sorted.snoc {L : List E} {x : E} (h : Sorted L) (ha : Ahead L x.1) : Sorted (L ++ [x]) := by
  unfold Sorted at *
  rw [List.map_append, List.pairwise_append]
  refine ⟨h, by simp, fun a ha' b hb => ?_⟩
  obtain ⟨y, hy, rfl⟩ := List.mem_map.1 ha'
  simp only [List.map_cons, List.map_nil, List.mem_singleton] at hb
  subst hb
  exact ha y hy
theorem Sorted.nodup {L : List E} (h : Sorted L) : (L.map fun y => Lab.keyOf y.1).Nodup := List.Pairwise.imp (fun {a b} hab e => by subst e; exact StrMath.lt_irrefl _ hab) h
theorem put_end : ∀ (l : List ByteArray) (n : ByteArray), (∀ z ∈ l, StrMath.lt z n) → StrMath.put l n = l ++ [n]
  | [], n, _ => rfl
  | x :: l, n, h => by
    unfold StrMath.put
    rw [if_pos (h x (List.mem_cons_self ..)), put_end l n (fun z hz => h z (List.mem_cons_of_mem _ hz))]
    rfl
end Go.Proofs.Ytncjagdnebpaaaa.Row
namespace Go.Proofs.Ytncjagdnebpaaaa.RSet
open Go.RowKit Rw
/-- a set that has just these rows -/
def Built (lo B mb n : Nat) (w : World) (L : List Row.E) : Prop := ∃ M R, IsSet lo B mb n w (L.map fun y => Lab.keyOf y.1) M R ∧ (L.map fun y => Lab.keyOf y.1).map R = L
theorem Built.below {lo B mb n : Nat} {w w' : World} {L : List Row.E} (h : Built lo B mb n w L) (hb : Below w.heap.size w w') : Built lo B mb n w' L := by
  obtain ⟨M, R, h1, h2⟩ := h
  exact ⟨M, R, h1.below hb, h2⟩
theorem Built.ltB {lo B mb n : Nat} {w : World} {L : List Row.E} (h : Built lo B mb n w L) : B < w.heap.size ∧ mb < w.heap.size ∧ lo ≤ B ∧ lo ≤ mb := by
  obtain ⟨M, R, h1, h2⟩ := h
  exact ⟨h1.ltB, h1.map.lt, h1.loB, h1.loM⟩
theorem built_new {lo B mb n m sc : Nat} {sa : Option Addr} {w : World} {L : List Row.E} {lv : Value} {ls : List Lab.E} {zs : List Sam.E}
    (h : Built lo B mb n w L) (hL : L.length ≤ 1000) (hn : n ≤ 1000) (hA : Row.Ahead L ls) (hl : Lab.Is w lv ls) (hlg : ∀ x ∈ ls, Lab.good x) (hlo : Lab.ok ls = true) (hs : Samp.Smp w (.slice sa m sc) zs) (hm : zs.length = m) (hz : SampMath.ok zs = true) (h0 : 0 < m) (h1 : m ≤ 4194304) (hlow : lo ≤ w.heap.size) :
    Calls Try.prog 55 #[.pointer (some ⟨B, 0, none⟩), lv, .slice sa m sc] w fun e w' => e = .returned (.bool true) ∧ Built lo B mb (n + 1) w' (L ++ [(ls, zs)]) ∧ Two B mb w w' := by
  obtain ⟨M, R, hs1, hR⟩ := h
  have hlt : ∀ z ∈ L.map (fun y => Lab.keyOf y.1), StrMath.lt z (Lab.keyOf ls) := fun z hz' => by obtain ⟨y, hy, rfl⟩ := List.mem_map.1 hz'; exact hA y hy
  have hni : Lab.keyOf ls ∉ L.map (fun y => Lab.keyOf y.1) := fun hi => StrMath.lt_irrefl _ (hlt _ hi)
  have hN : M (Lab.keyOf ls) = none := by
    cases e : M (Lab.keyOf ls) with
    | none => rfl
    | some c => exact absurd ((hs1.has _).1 (by rw [e]; rfl)) hni
  refine (put_new hs1 hl hlg hlo hs hm hz h0 h1 (by rw [List.length_map]; exact hL) hn hN hlow).mono ?_
  rintro e w' ⟨c, rfl, hs2, ht⟩
  rw [Row.put_end _ _ hlt] at hs2
  refine ⟨rfl, ⟨_, _, by rw [List.map_append]; exact hs2, ?_⟩, ht⟩
  rw [List.map_append, List.map_append]
  congr 1
  · conv => rhs; rw [← hR]
    refine List.map_congr_left (fun k hk => ?_)
    rw [if_neg (fun e => hni (by rw [← e]; exact hk))]
  · simp
theorem built_last {lo B mb n m sc : Nat} {sa : Option Addr} {w : World} {L : List Row.E} {lv : Value} {ls : List Lab.E} {a zs J : List Sam.E}
    (h : Built lo B mb n w (L ++ [(ls, a)])) (hn : n ≤ 1000) (hA : Row.Ahead L ls) (hl : Lab.Is w lv ls) (hlg : ∀ x ∈ ls, Lab.good x) (hlo : Lab.ok ls = true) (hs : Samp.Smp w (.slice sa m sc) zs) (hm : zs.length = m) (hJ : SampMath.join a zs = (J, true)) (h0 : 0 < m) (h1 : m ≤ 4194304) (h2 : a.length ≤ 4194304) (hlow : lo ≤ w.heap.size) :
    Calls Try.prog 55 #[.pointer (some ⟨B, 0, none⟩), lv, .slice sa m sc] w fun e w' => e = .returned (.bool true) ∧ Built lo B mb (n + 1) w' (L ++ [(ls, J)]) ∧ Two B mb w w' := by
  obtain ⟨M, R, hs1, hR⟩ := h
  have hlt : ∀ z ∈ L.map (fun y => Lab.keyOf y.1), StrMath.lt z (Lab.keyOf ls) := fun z hz' => by obtain ⟨y, hy, rfl⟩ := List.mem_map.1 hz'; exact hA y hy
  have hni : Lab.keyOf ls ∉ L.map (fun y => Lab.keyOf y.1) := fun hi => StrMath.lt_irrefl _ (hlt _ hi)
  rw [List.map_append, List.map_append] at hR
  have hp := List.append_inj' hR (by simp)
  have hR1 := hp.1
  have hR2 : R (Lab.keyOf ls) = (ls, a) := by simpa using hp.2
  have hin : Lab.keyOf ls ∈ (L ++ [(ls, a)]).map (fun y => Lab.keyOf y.1) := by simp
  obtain ⟨c, hN⟩ : ∃ c, M (Lab.keyOf ls) = some c := Option.isSome_iff_exists.1 ((hs1.has _).2 hin)
  refine (put_old hs1 hl hlg hlo hs hm (by rw [hR2]; exact hJ) h0 h1 (by rw [hR2]; exact h2) hn hN hlow).mono ?_
  rintro e w' ⟨c, rfl, hs2, ht⟩
  refine ⟨rfl, ⟨_, _, by rw [List.map_append] at hs2 ⊢; exact hs2, ?_⟩, ht⟩
  rw [List.map_append, List.map_append]
  congr 1
  · conv => rhs; rw [← hR1]
    refine List.map_congr_left (fun k hk => ?_)
    rw [if_neg (fun e => hni (by rw [← e]; exact hk))]
  · simp [hR2]
theorem built_rows {lo B mb n : Nat} {w : World} {L : List Row.E} (h : Built lo B mb n w L) (hS : Row.Sorted L) (hL : L.length ≤ 1000) (hok : ∀ y ∈ L, Lab.ok y.1 = true) (hlow : lo ≤ w.heap.size) :
    Calls Try.prog 43 #[.pointer (some ⟨B, 0, none⟩)] w fun e w' => ∃ v, e = .returned v ∧ Row.Own lo w'.heap.size w' v L ∧ Below w.heap.size w w' := by
  obtain ⟨M, R, hs1, hR⟩ := h
  have := rows_any hs1 hS.nodup (fun k hk => by obtain ⟨y, hy, rfl⟩ := List.mem_map.1 hk; exact key_size (hok y hy)) (by rw [List.length_map]; exact hL) hlow
  rw [hR] at this
  exact this
end Go.Proofs.Ytncjagdnebpaaaa.RSet

/- SamplesOk, of the program and of the model, at slices of samples whose address is open. -/
namespace Go.Proofs.Ytncjagdnebpaaaa.Sam
open Go.RowKit Rw
set_option linter.unusedVariables false
attribute [local go_sem ↓] Go.wp_at_zero Go.wp_at_succ
theorem reads_of {w : World} {b off : Nat} {zs : List E} (hc : ∀ (j : Nat) u, (flat zs)[j]? = some u → w.cell? ⟨b, off + j, none⟩ = some u) : Samp.Reads w b off zs := fun i hi =>
  ⟨hc (i * 2) _ (flat_at zs i hi).1, hc (i * 2 + 1) _ (flat_at zs i hi).2⟩
theorem impl_ok_zero (a : Option Addr) (cap : Nat) (w : World) : Calls Try.prog 30 #[.slice a 0 cap] w fun e w' => e = .returned (.bool (SampMath.ok [])) ∧ Below w.heap.size w w' := by
  go_enter Try.func30, Try.ntmps30
  go_wp2
  refine wp_loop_rounds 1 ?_
  rw [rounds_succ]
  go_wp2
  go_ret
  exact ⟨rfl, Below.refl _ _⟩
theorem spec_ok_zero (a : Option Addr) (cap : Nat) (w : World) : Calls Try.prog 24 #[.slice a 0 cap] w fun e w' => e = .returned (.bool (SampMath.ok [])) ∧ Below w.heap.size w w' := by
  go_enter Try.func24, Try.ntmps24
  go_wp2
  refine wp_loop_rounds 1 ?_
  rw [rounds_succ]
  go_wp2
  go_ret
  exact ⟨rfl, Below.refl _ _⟩
theorem impl_ok {w : World} {v : Value} {zs : List E} (h : Is w v zs) : Calls Try.prog 30 #[v] w fun e w' => e = .returned (.bool (SampMath.ok zs)) ∧ Below w.heap.size w w' := by
  obtain ⟨-, a, cap, rfl, hc, hm, -, hr⟩ := h
  by_cases h0 : zs.length = 0
  · obtain rfl : zs = [] := List.eq_nil_of_length_eq_zero h0
    exact impl_ok_zero a cap w
  · obtain ⟨b, off, rfl, hl, hcells⟩ := hr (by omega)
    exact Samp.impl_ok_some b off cap zs w hc hm hl (reads_of hcells)
theorem l2ok {w : World} {v : Value} {zs : List E} (h : Is w v zs) : Calls Try.prog 24 #[v] w fun e w' => e = .returned (.bool (SampMath.ok zs)) ∧ Below w.heap.size w w' := by
  obtain ⟨-, a, cap, rfl, hc, hm, -, hr⟩ := h
  by_cases h0 : zs.length = 0
  · obtain rfl : zs = [] := List.eq_nil_of_length_eq_zero h0
    exact spec_ok_zero a cap w
  · obtain ⟨b, off, rfl, hl, hcells⟩ := hr (by omega)
    exact Samp.spec_ok_some b off cap zs w hc hm hl (reads_of hcells)
end Go.Proofs.Ytncjagdnebpaaaa.Sam

/- LabelsCmp of the program, at every two slices of labels. -/
namespace Go.Proofs.Ytncjagdnebpaaaa.Lab
open Go.RowKit Rw
set_option linter.unusedVariables false
attribute [local go_sem ↓] Go.wp_at_zero Go.wp_at_succ
theorem new_cell {W : World} {cs : Array Value} {t : TypeId} {B o : Nat} {u : Value} (hB : B = W.heap.size) (h : cs[o]? = some u) : (W.alloc (.cells cs t)).cell? ⟨B, o, none⟩ = some u := by
  subst hB
  rw [cell_of_row (W.alloc (.cells cs t)) W.heap.size o cs t _ (heap_alloc_new W _)]
  exact h
set_option maxHeartbeats 1000000 in
theorem or_any (g cap : Nat) (x y : Int) (w : World) (h0 : w.cell? ⟨g, 0, none⟩ = some (.int .i64 x)) (h1 : w.cell? ⟨g, 1, none⟩ = some (.int .i64 y)) :
    Calls Try.prog 57 #[.slice (some ⟨g, 0, none⟩) 2 cap] w fun e w' => e = .returned (.int .i64 (if x ≠ 0 then x else y)) ∧ w' = w := by
  obtain ⟨R, hR⟩ : ∃ R, R = if x ≠ 0 then x else y := ⟨_, rfl⟩
  rw [← hR]
  have HR := hide hR
  clear hR
  go_enter Try.func57, Try.ntmps57
  go_wp2
  go_loop [8] (fun i => ∃ k : Nat, k ≤ 2 ∧ i = .int .i64 k ∧ (0 < k → x = 0) ∧ (1 < k → y = 0)) (fun i => 2 - (intOf i).toNat)
  case atStart => exact ⟨0, by omega, rfl, fun h => by omega, fun h => by omega⟩
  case round =>
    obtain ⟨k, hk, rfl, ha, hb⟩ := hrel
    rcases (show k = 0 ∨ k = 1 ∨ k = 2 from by omega) with rfl | rfl | rfl
    · by_cases hx : x = 0
      · subst hx
        go_wp2
        go_round
        case rel => exact ⟨1, by omega, rfl, fun _ => by first | rfl | trivial, fun h => by omega⟩
        case measure => simp [intOf]
      · have hxb : (x == 0) = false := by simpa using hx
        have hxn : (x != 0) = true := by simpa using hx
        have HRx := hide (show R = x by rw [unhide HR, if_pos hx])
        go_wp2
        go_ret
        exact ⟨ret_int (unhide HRx).symm, rfl⟩
    · have hx := ha (by omega)
      have HRy := hide (show R = y by rw [unhide HR, if_neg (by simp [hx])])
      clear ha hb
      by_cases hy : y = 0
      · subst hy
        have HX := hide hx
        clear hx
        go_wp2
        go_round
        case rel => exact ⟨2, by omega, rfl, fun _ => unhide HX, fun _ => by first | rfl | trivial⟩
        case measure => simp [intOf]
      · have hyb : (y == 0) = false := by simpa using hy
        have hyn : (y != 0) = true := by simpa using hy
        clear hx
        go_wp2
        go_ret
        exact ⟨ret_int (unhide HRy).symm, rfl⟩
    · have hx := ha (by omega)
      have hy := hb (by omega)
      have HRz := hide (show R = 0 by rw [unhide HR, if_neg (by simp [hx]), hy])
      clear ha hb hx hy
      go_wp2
      go_ret
      exact ⟨ret_int (unhide HRz).symm, rfl⟩
theorem or_is (g cap : Nat) (x y R : Int) (w : World) (hR : R = if x ≠ 0 then x else y) (h0 : w.cell? ⟨g, 0, none⟩ = some (.int .i64 x)) (h1 : w.cell? ⟨g, 1, none⟩ = some (.int .i64 y)) :
    Calls Try.prog 57 #[.slice (some ⟨g, 0, none⟩) 2 cap] w fun e w' => e = .returned (.int .i64 R) ∧ w' = w := by rw [hR]; exact or_any g cap x y w h0 h1
set_option maxRecDepth 100000 in
set_option maxHeartbeats 4000000 in
theorem labelCmp_any (A B C D : ByteArray) (w : World) : Calls Try.prog 51 #[.agg #[.string A, .string B], .agg #[.string C, .string D]] w fun e w' => e = .returned (.int .i64 (cmpE (A, B) (C, D))) ∧ Below w.heap.size w w' := by
  have H1 := hide (fun W => show Calls Try.prog 58 #[.string A, .string C] W fun e w' => e = .returned (.int .i64 (cmpS A C)) ∧ w' = W from Try.strings_Compare A C W)
  have H2 := hide (fun W => show Calls Try.prog 58 #[.string B, .string D] W fun e w' => e = .returned (.int .i64 (cmpS B D)) ∧ w' = W from Try.strings_Compare B D W)
  have HE := hide (show cmpE (A, B) (C, D) = if cmpS A C ≠ 0 then cmpS A C else cmpS B D from rfl)
  generalize cmpE (A, B) (C, D) = R at HE
  generalize cmpS A C = X at H1 HE
  generalize cmpS B D = Y at H2 HE
  go_enter Try.func51, Try.ntmps51
  go_wp2_with fail
  go_region_with (first
    | (go_at_call_of 58 (A); refine (unhide H1 _).mono ?_; rintro e w1 ⟨rfl, hw1⟩; subst hw1)
    | (go_at_call_of 58 (B); refine (unhide H2 _).mono ?_; rintro e w1 ⟨rfl, hw1⟩; subst hw1)
    | (go_at_call 57; refine (or_is _ _ X Y R _ (unhide HE) (by simp; exact new_cell (by simp) rfl) (by simp; exact new_cell (by simp) rfl)).mono ?_; rintro e w1 ⟨rfl, hw1⟩; subst hw1))
  all_goals
    go_wp2_with fail
    go_ret
    exact ⟨rfl, ((((Below.refl _ _).alloc (Nat.le_refl _) _).alloc (by simp) _).alloc (by simp; omega) _).drew⟩
end Go.Proofs.Ytncjagdnebpaaaa.Lab
