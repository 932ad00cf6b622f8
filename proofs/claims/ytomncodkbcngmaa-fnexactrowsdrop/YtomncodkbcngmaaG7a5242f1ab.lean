/- My own texts of one claim, laid together by program: AskMath, SamOk. -/
import Derived.Test.YtomncodkbcngmaaGe27424f87d
import Derived.Test.YtomncodkbcngmaaG6d612dcafe
import Derived.Test.YtomncodkbcngmaaG23e26312ee
import Derived.Test.YtomncodkbcngmaaG1ada146648
import Derived.Test.YtomncodkbcngmaaGa05a9f4689
/- Rows made of rows one by one: what is asked for, what is left. -/
namespace Go.Proofs.Ytomncodkbcngmaa.Row
open Go.RowKit Rw
set_option linter.unusedVariables false
/-- rows with other samples, without those of which none is left -/
def outL (g : E → List Sam.E) (zs : List E) : List E := zs.flatMap fun x => if g x = [] then [] else [(x.1, g x)]
theorem outL_snoc (g : E → List Sam.E) (zs : List E) (k : Nat) (h : k < zs.length) : outL g (zs.take (k + 1)) = outL g (zs.take k) ++ if g (at' zs k) = [] then [] else [((at' zs k).1, g (at' zs k))] := by
  unfold outL
  rw [List.take_succ_eq_append_getElem h, List.flatMap_append, at_get zs k h]
  simp
theorem outL_mem {g : E → List Sam.E} {zs : List E} {k : Nat} (hk : k ≤ zs.length) {y : E} (h : y ∈ outL g (zs.take k)) : ∃ i, i < k ∧ y = ((at' zs i).1, g (at' zs i)) ∧ g (at' zs i) ≠ [] := by
  unfold outL at h
  obtain ⟨x, hx, hy⟩ := List.mem_flatMap.1 h
  obtain ⟨i, hi, rfl⟩ := List.getElem_of_mem hx
  rw [List.length_take] at hi
  have e : (zs.take k)[i] = at' zs i := by rw [List.getElem_take, at_get zs i (by omega)]
  rw [e] at hy
  split at hy
  · cases hy
  · rename_i hne
    exact ⟨i, by omega, by simpa using hy, hne⟩
theorem cmp_lt_trans {a b c : List Lab.E} (h1 : Lab.cmpL a b < 0) (h2 : Lab.cmpL b c < 0) : Lab.cmpL a c < 0 := by
  have h3 := Lab.ordL.trans a b c (by omega) (by omega)
  rcases Nat.lt_or_ge 0 0 with h | h
  · omega
  · by_cases e : Lab.cmpL a c = 0
    · have := Lab.ordL.zero _ _ e
      subst this
      have := Lab.ordL.anti a b
      omega
    · omega
theorem ok_cmp {zs : List E} (h : ok zs = true) : ∀ (j i : Nat), i < j → j < zs.length → Lab.cmpL (at' zs i).1 (at' zs j).1 < 0
  | 0, i, hij, _ => by omega
  | j + 1, i, hij, hj => by
    have hs := ok_at h hj
    unfold stepOk at hs
    rw [Bool.and_eq_true] at hs
    have h1 : Lab.cmpL (at' zs j).1 (at' zs (j + 1)).1 < 0 := by simpa using hs.2
    by_cases e : i = j
    · subst e; exact h1
    · exact cmp_lt_trans (ok_cmp h j i (by omega) (by omega)) h1
theorem key_lt {a b : List Lab.E} (ha : Lab.ok a = true) (hb : Lab.ok b = true) (h : Lab.cmpL a b < 0) : StrMath.lt (Lab.keyOf a) (Lab.keyOf b) := by
  show Lab.ltS _ _ = true
  unfold Lab.ltS
  rw [ByteArray.toList_eq, ByteArray.toList_eq]
  have h1 := Lab.ok_lettered ha
  have h2 := Lab.ok_lettered hb
  have := (Lab.key_cmp a b h1.1 h2.1 h1.2 h2.2).2 (by have := Lab.cmpL_range a b; omega)
  unfold Lab.keyOf
  simpa using this
theorem ok_keys {zs : List E} (h : ok zs = true) {i j : Nat} (hij : i < j) (hj : j < zs.length) : StrMath.lt (Lab.keyOf (at' zs i).1) (Lab.keyOf (at' zs j).1) :=
  key_lt (step_is (ok_at h (by omega))).1 (step_is (ok_at h hj)).1 (ok_cmp h j i hij hj)
/-- all rows of a list stand ahead of labels -/
def Ahead (L : List E) (ls : List Lab.E) : Prop := ∀ y ∈ L, StrMath.lt (Lab.keyOf y.1) (Lab.keyOf ls)
def Sorted (L : List E) : Prop := (L.map fun y => Lab.keyOf y.1).Pairwise StrMath.lt
theorem outL_ahead {g : E → List Sam.E} {zs : List E} (h : ok zs = true) {k : Nat} (hk : k < zs.length) : Ahead (outL g (zs.take k)) (at' zs k).1 := by
  intro y hy
  obtain ⟨i, hi, e, -⟩ := outL_mem (by omega) hy
  rw [e]
  exact ok_keys h hi hk
theorem Sorted.snoc {L : List E} {x : E} (h : Sorted L) (ha : Ahead L x.1) : Sorted (L ++ [x]) := by
  unfold Sorted at *
  rw [List.map_append, List.pairwise_append]
  refine ⟨h, by simp, fun a ha' b hb => ?_⟩
  obtain ⟨y, hy, rfl⟩ := List.mem_map.1 ha'
  simp only [List.map_cons, List.map_nil, List.mem_singleton] at hb
  subst hb
  exact ha y hy
theorem Sorted.nodup {L : List E} (h : Sorted L) : (L.map fun y => Lab.keyOf y.1).Nodup := List.Pairwise.imp (fun {a b} hab e => by subst e; exact StrMath.lt_irrefl _ hab) h
theorem put_end : ∀ (l : List ByteArray) (n : ByteArray), (∀ z ∈ l, StrMath.lt z n) → StrMath.put l n = l ++ [n]
  | [], n, _ => rfl
  | x :: l, n, h => by
    unfold StrMath.put
    rw [if_pos (h x (List.mem_cons_self ..)), put_end l n (fun z hz => h z (List.mem_cons_of_mem _ hz))]
    rfl
end Go.Proofs.Ytomncodkbcngmaa.Row
namespace Go.Proofs.Ytomncodkbcngmaa.RSet
open Go.RowKit Rw
/-- a set that has just these rows -/
def Built (lo B mb n : Nat) (w : World) (L : List Row.E) : Prop := ∃ M R, IsSet lo B mb n w (L.map fun y => Lab.keyOf y.1) M R ∧ (L.map fun y => Lab.keyOf y.1).map R = L
theorem Built.below {lo B mb n : Nat} {w w' : World} {L : List Row.E} (h : Built lo B mb n w L) (hb : Below w.heap.size w w') : Built lo B mb n w' L := by
  obtain ⟨M, R, h1, h2⟩ := h
  exact ⟨M, R, h1.below hb, h2⟩
theorem Built.ltB {lo B mb n : Nat} {w : World} {L : List Row.E} (h : Built lo B mb n w L) : B < w.heap.size ∧ mb < w.heap.size ∧ lo ≤ B ∧ lo ≤ mb := by
  obtain ⟨M, R, h1, h2⟩ := h
  exact ⟨h1.ltB, h1.map.lt, h1.loB, h1.loM⟩
theorem built_new {lo B mb n m sc : Nat} {sa : Option Addr} {w : World} {L : List Row.E} {lv : Value} {ls : List Lab.E} {zs : List Sam.E}
    (h : Built lo B mb n w L) (hL : L.length ≤ 1000) (hn : n ≤ 1000) (hA : Row.Ahead L ls) (hl : Lab.Is w lv ls) (hlg : ∀ x ∈ ls, Lab.good x) (hlo : Lab.ok ls = true) (hs : Samp.Smp w (.slice sa m sc) zs) (hm : zs.length = m) (hz : SampMath.ok zs = true) (h0 : 0 < m) (h1 : m ≤ 4194304) (hlow : lo ≤ w.heap.size) :
    Calls Try.prog 45 #[.pointer (some ⟨B, 0, none⟩), lv, .slice sa m sc] w fun e w' => e = .returned (.bool true) ∧ Built lo B mb (n + 1) w' (L ++ [(ls, zs)]) ∧ Two B mb w w' := by
  obtain ⟨M, R, hs1, hR⟩ := h
  have hlt : ∀ z ∈ L.map (fun y => Lab.keyOf y.1), StrMath.lt z (Lab.keyOf ls) := fun z hz' => by obtain ⟨y, hy, rfl⟩ := List.mem_map.1 hz'; exact hA y hy
  have hni : Lab.keyOf ls ∉ L.map (fun y => Lab.keyOf y.1) := fun hi => StrMath.lt_irrefl _ (hlt _ hi)
  have hN : M (Lab.keyOf ls) = none := by
    cases e : M (Lab.keyOf ls) with
    | none => rfl
    | some c => exact absurd ((hs1.has _).1 (by rw [e]; rfl)) hni
  refine (put_new hs1 hl hlg hlo hs hm hz h0 h1 (by rw [List.length_map]; exact hL) hn hN hlow).mono ?_
  rintro e w' ⟨c, rfl, hs2, ht⟩
  rw [Row.put_end _ _ hlt] at hs2
  refine ⟨rfl, ⟨_, _, by rw [List.map_append]; exact hs2, ?_⟩, ht⟩
  rw [List.map_append, List.map_append]
  congr 1
  · conv => rhs; rw [← hR]
    refine List.map_congr_left (fun k hk => ?_)
    rw [if_neg (fun e => hni (by rw [← e]; exact hk))]
  · simp
theorem built_last {lo B mb n m sc : Nat} {sa : Option Addr} {w : World} {L : List Row.E} {lv : Value} {ls : List Lab.E} {a zs J : List Sam.E}
    (h : Built lo B mb n w (L ++ [(ls, a)])) (hn : n ≤ 1000) (hA : Row.Ahead L ls) (hl : Lab.Is w lv ls) (hlg : ∀ x ∈ ls, Lab.good x) (hlo : Lab.ok ls = true) (hs : Samp.Smp w (.slice sa m sc) zs) (hm : zs.length = m) (hJ : SampMath.join a zs = (J, true)) (h0 : 0 < m) (h1 : m ≤ 4194304) (h2 : a.length ≤ 4194304) (hlow : lo ≤ w.heap.size) :
    Calls Try.prog 45 #[.pointer (some ⟨B, 0, none⟩), lv, .slice sa m sc] w fun e w' => e = .returned (.bool true) ∧ Built lo B mb (n + 1) w' (L ++ [(ls, J)]) ∧ Two B mb w w' := by
  obtain ⟨M, R, hs1, hR⟩ := h
  have hlt : ∀ z ∈ L.map (fun y => Lab.keyOf y.1), StrMath.lt z (Lab.keyOf ls) := fun z hz' => by obtain ⟨y, hy, rfl⟩ := List.mem_map.1 hz'; exact hA y hy
  have hni : Lab.keyOf ls ∉ L.map (fun y => Lab.keyOf y.1) := fun hi => StrMath.lt_irrefl _ (hlt _ hi)
  rw [List.map_append, List.map_append] at hR
  have hp := List.append_inj' hR (by simp)
  have hR1 := hp.1
  have hR2 : R (Lab.keyOf ls) = (ls, a) := by simpa using hp.2
  have hin : Lab.keyOf ls ∈ (L ++ [(ls, a)]).map (fun y => Lab.keyOf y.1) := by simp
  obtain ⟨c, hN⟩ : ∃ c, M (Lab.keyOf ls) = some c := Option.isSome_iff_exists.1 ((hs1.has _).2 hin)
  refine (put_old hs1 hl hlg hlo hs hm (by rw [hR2]; exact hJ) h0 h1 (by rw [hR2]; exact h2) hn hN hlow).mono ?_
  rintro e w' ⟨c, rfl, hs2, ht⟩
  refine ⟨rfl, ⟨_, _, by rw [List.map_append] at hs2 ⊢; exact hs2, ?_⟩, ht⟩
  rw [List.map_append, List.map_append]
  congr 1
  · conv => rhs; rw [← hR1]
    refine List.map_congr_left (fun k hk => ?_)
    rw [if_neg (fun e => hni (by rw [← e]; exact hk))]
  · simp [hR2]
theorem built_rows {lo B mb n : Nat} {w : World} {L : List Row.E} (h : Built lo B mb n w L) (hS : Row.Sorted L) (hL : L.length ≤ 1000) (hok : ∀ y ∈ L, Lab.ok y.1 = true) (hlow : lo ≤ w.heap.size) :
    Calls Try.prog 47 #[.pointer (some ⟨B, 0, none⟩)] w fun e w' => ∃ v, e = .returned v ∧ Row.Own lo w'.heap.size w' v L ∧ Below w.heap.size w w' := by
  obtain ⟨M, R, hs1, hR⟩ := h
  have := rows_any hs1 hS.nodup (fun k hk => by obtain ⟨y, hy, rfl⟩ := List.mem_map.1 hk; exact key_size (hok y hy)) (by rw [List.length_map]; exact hL) hlow
  rw [hR] at this
  exact this
end Go.Proofs.Ytomncodkbcngmaa.RSet

/- SamplesOk, of the program and of the model, at slices of samples whose address is open. -/
namespace Go.Proofs.Ytomncodkbcngmaa.Sam
open Go.RowKit Rw
set_option linter.unusedVariables false
attribute [local go_sem ↓] Go.wp_at_zero Go.wp_at_succ
theorem reads_of {w : World} {b off : Nat} {zs : List E} (hc : ∀ (j : Nat) u, (flat zs)[j]? = some u → w.cell? ⟨b, off + j, none⟩ = some u) : Samp.Reads w b off zs := fun i hi =>
  ⟨hc (i * 2) _ (flat_at zs i hi).1, hc (i * 2 + 1) _ (flat_at zs i hi).2⟩
theorem impl_ok_zero (a : Option Addr) (cap : Nat) (w : World) : Calls Try.prog 81 #[.slice a 0 cap] w fun e w' => e = .returned (.bool (SampMath.ok [])) ∧ Below w.heap.size w w' := by
  go_enter Try.func81, Try.ntmps81
  go_wp2
  refine wp_loop_rounds 1 ?_
  rw [rounds_succ]
  go_wp2
  go_ret
  exact ⟨rfl, Below.refl _ _⟩
theorem spec_ok_zero (a : Option Addr) (cap : Nat) (w : World) : Calls Try.prog 60 #[.slice a 0 cap] w fun e w' => e = .returned (.bool (SampMath.ok [])) ∧ Below w.heap.size w w' := by
  go_enter Try.func60, Try.ntmps60
  go_wp2
  refine wp_loop_rounds 1 ?_
  rw [rounds_succ]
  go_wp2
  go_ret
  exact ⟨rfl, Below.refl _ _⟩
theorem impl_ok {w : World} {v : Value} {zs : List E} (h : Is w v zs) : Calls Try.prog 81 #[v] w fun e w' => e = .returned (.bool (SampMath.ok zs)) ∧ Below w.heap.size w w' := by
  obtain ⟨-, a, cap, rfl, hc, hm, -, hr⟩ := h
  by_cases h0 : zs.length = 0
  · obtain rfl : zs = [] := List.eq_nil_of_length_eq_zero h0
    exact impl_ok_zero a cap w
  · obtain ⟨b, off, rfl, hl, hcells⟩ := hr (by omega)
    exact Samp.impl_ok_some b off cap zs w hc hm hl (reads_of hcells)
theorem l2ok {w : World} {v : Value} {zs : List E} (h : Is w v zs) : Calls Try.prog 60 #[v] w fun e w' => e = .returned (.bool (SampMath.ok zs)) ∧ Below w.heap.size w w' := by
  obtain ⟨-, a, cap, rfl, hc, hm, -, hr⟩ := h
  by_cases h0 : zs.length = 0
  · obtain rfl : zs = [] := List.eq_nil_of_length_eq_zero h0
    exact spec_ok_zero a cap w
  · obtain ⟨b, off, rfl, hl, hcells⟩ := hr (by omega)
    exact Samp.spec_ok_some b off cap zs w hc hm hl (reads_of hcells)
end Go.Proofs.Ytomncodkbcngmaa.Sam
