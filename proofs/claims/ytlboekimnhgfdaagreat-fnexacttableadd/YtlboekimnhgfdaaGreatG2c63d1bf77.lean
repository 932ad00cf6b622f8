/- My own texts of one claim, laid together by program: WinMath2, AskMath2, DropMath, AlCount. -/
import Derived.Test.YtlboekimnhgfdaaGreatGce30680cae
import Derived.Test.YtlboekimnhgfdaaGreatGfd13fb5380
import Derived.Test.YtlboekimnhgfdaaGreatG32ba85294a
import Derived.Test.YtlboekimnhgfdaaGreatGb4760d3d53
import Derived.Test.YtlboekimnhgfdaaGreatG32b7cddec7
import Derived.Test.YtlboekimnhgfdaaGreatGd17d87ff78
/- By how much samples rose, in two parts. No condition. -/
namespace Go.Proofs.YtlboekimnhgfdaaGreat.SampMath
theorem ok_sub {zs ys : List S} (h : ok zs = true) (hs : ys.Sublist zs) : ok ys = true := by
  rw [Samp.ok_iff] at h ⊢
  exact ⟨fun z hz => h.1 z (hs.subset hz), h.2.sublist hs⟩
theorem at_take {zs : List S} {k i : Nat} (h : i < k) : at' (zs.take k) i = at' zs i := by
  simp [at', List.getD, h]
theorem at_drop (zs : List S) (k i : Nat) : at' (zs.drop k) i = at' zs (k + i) := by
  simp [at', List.getD, List.getElem?_drop]
theorem up_take {zs : List S} {k i : Nat} (h : i < k) : up (zs.take k) i = up zs i := by
  unfold up; rw [at_take h, at_take (by omega)]
theorem upTo_take {zs : List S} {k : Nat} : ∀ j, j ≤ k → upTo (zs.take k) j = upTo zs j := by
  intro j
  induction j with
  | zero => intro _; rfl
  | succ j ih =>
    intro h
    by_cases h0 : j = 0
    · subst h0; rfl
    · rw [upTo_succ _ _ (by omega), upTo_succ _ _ (by omega), ih (by omega), up_take (by omega)]
theorem up_drop (zs : List S) (m i : Nat) (h : 0 < i) : up (zs.drop m) i = up zs (m + i) := by
  unfold up; rw [at_drop, at_drop, show m + (i - 1) = m + i - 1 by omega]
theorem upTo_drop (zs : List S) (m : Nat) : ∀ j, upTo (zs.drop m) (j + 1) = upTo zs (m + j + 1) - upTo zs (m + 1) := by
  intro j
  induction j with
  | zero => rw [upTo_one]; simp
  | succ j ih => rw [upTo_succ _ _ (by omega), ih, up_drop _ _ _ (by omega), show m + (j + 1) + 1 = (m + j + 1) + 1 by omega, upTo_succ zs (m + j + 1) (by omega), show m + (j + 1) = m + j + 1 by omega]; omega
theorem rises_ok {zs : List S} (h : ok zs = true) : rises zs = upTo zs zs.length := by unfold rises; rw [h]; rfl
theorem rises_parts {zs : List S} (h : ok zs = true) {k : Nat} (h1 : 1 ≤ k) (h2 : k < zs.length) : rises zs = rises (zs.take k) + rises (zs.drop (k - 1)) := by
  rw [rises_ok h, rises_ok (ok_sub h (List.take_sublist _ _)), rises_ok (ok_sub h (List.drop_sublist _ _))]
  rw [List.length_take, List.length_drop, Nat.min_eq_left (by omega), upTo_take k (Nat.le_refl _)]
  obtain ⟨j, hj⟩ : ∃ j, zs.length - (k - 1) = j + 1 := ⟨zs.length - (k - 1) - 1, by omega⟩
  rw [hj, upTo_drop, show k - 1 + j + 1 = zs.length by omega, show k - 1 + 1 = k by omega]
  omega
theorem rises_range {zs : List S} (h : ok zs = true) : 0 ≤ rises zs ∧ rises zs ≤ 21474836470000 := by
  rw [rises_ok h]
  have := upTo_range h zs.length (Nat.le_refl _)
  have := ok_len h
  omega
theorem upTo_ends {zs : List S} (h : ok zs = true) : ∀ j, j < zs.length → (at' zs j).2 - (at' zs 0).2 ≤ upTo zs (j + 1) := by
  intro j
  induction j with
  | zero => intro _; rw [upTo_one]; omega
  | succ j ih =>
    intro hj
    have a := ih (by omega)
    have b := ok_range h hj
    have c := ok_range h (k := j) (by omega)
    rw [upTo_succ zs (j + 1) (by omega)]
    unfold up
    rw [Nat.add_sub_cancel]
    split <;> omega
theorem rises_ends {zs : List S} (h : ok zs = true) (h0 : 0 < zs.length) : (at' zs (zs.length - 1)).2 - (at' zs 0).2 ≤ rises zs := by
  rw [rises_ok h]
  have := upTo_ends h (zs.length - 1) (by omega)
  rwa [show zs.length - 1 + 1 = zs.length by omega] at this
end Go.Proofs.YtlboekimnhgfdaaGreat.SampMath

/- What is asked for twice is asked for once. -/
namespace Go.Proofs.YtlboekimnhgfdaaGreat.Row
open Go.RowKit Rw
set_option linter.unusedVariables false
theorem outL_cons (g : E → List Sam.E) (x : E) (L : List E) : outL g (x :: L) = (if g x = [] then [] else [(x.1, g x)]) ++ outL g L := by unfold outL; rw [List.flatMap_cons]
theorem outL_in {g : E → List Sam.E} {L : List E} {y : E} (h : y ∈ outL g L) : ∃ x ∈ L, y = (x.1, g x) ∧ g x ≠ [] := by
  unfold outL at h
  obtain ⟨x, hx, hy⟩ := List.mem_flatMap.1 h
  split at hy
  · cases hy
  · rename_i hne; exact ⟨x, hx, by simpa using hy, hne⟩
theorem outL_fine {g : E → List Sam.E} : ∀ {L : List E}, Fine L → (∀ x ∈ L, SampMath.ok (g x) = true) → Fine (outL g L)
  | [], h, _ => by unfold outL; exact fine_nil
  | x :: L, h, hg => by
    have ih := outL_fine (fine_tail h) (fun y hy => hg y (List.mem_cons_of_mem _ hy))
    rw [outL_cons]
    split
    · exact ih
    · rename_i hne
      refine ⟨fun y hy => ?_, fun y hy => ?_, List.pairwise_cons.2 ⟨fun y hy => ?_, ih.up⟩⟩
      · rcases List.mem_cons.1 hy with rfl | hy
        · exact h.lab x (List.mem_cons_self ..)
        · exact ih.lab y hy
      · rcases List.mem_cons.1 hy with rfl | hy
        · exact ⟨hg x (List.mem_cons_self ..), hne⟩
        · exact ih.sam y hy
      · obtain ⟨z, hz, e, -⟩ := outL_in (show y ∈ outL g L from hy)
        rw [e]
        exact (List.pairwise_cons.1 h.up).1 z hz
theorem outL_okay {g : E → List Sam.E} {L : List E} (h : ok L = true) (hg : ∀ x ∈ L, SampMath.ok (g x) = true ∧ (g x).length ≤ 1000) : ok (outL g L) = true := by
  rw [ok_of (outL_fine (fine_ok h) (fun x hx => (hg x hx).1))]
  unfold sized
  rw [Bool.and_eq_true]
  refine ⟨decide_eq_true (by have := outL_len g L; have := ok_len h; omega), List.all_eq_true.2 fun y hy => decide_eq_true ?_⟩
  obtain ⟨x, hx, e, -⟩ := outL_in hy
  rw [e]
  exact (hg x hx).2
theorem outL_same {g g' : E → List Sam.E} : ∀ {L : List E}, (∀ x ∈ L, g' x = g x) → outL g' L = outL g L
  | [], _ => rfl
  | x :: L, h => by rw [outL_cons, outL_cons, h x (List.mem_cons_self ..), outL_same (fun y hy => h y (List.mem_cons_of_mem _ hy))]
theorem outL_id {g : E → List Sam.E} : ∀ {L : List E}, (∀ x ∈ L, g x = x.2 ∧ x.2 ≠ []) → outL g L = L
  | [], _ => rfl
  | x :: L, h => by
    have hx := h x (List.mem_cons_self ..)
    rw [outL_cons, hx.1, if_neg hx.2, outL_id (fun y hy => h y (List.mem_cons_of_mem _ hy))]; rfl
theorem row_bounds {L : List E} (h : ok L = true) {x : E} (hx : x ∈ L) : x.2.length ≤ 1000 := by
  obtain ⟨i, hi, rfl⟩ := List.getElem_of_mem hx
  have hst := step_is (ok_at h hi)
  rw [at_get L i hi] at hst
  exact hst.2.2.1
theorem cut_ok {x : E} (f t : Int) (h : SampMath.ok x.2 = true) : SampMath.ok (Samp.cutL x.2 f t) = true := SampMath.ok_sub h List.filter_sublist
theorem ask_ok {ms : List Mat.E} (f t : Int) {L : List E} (h : ok L = true) : ok (ask ms f t L) = true := by
  unfold ask
  rw [if_pos h]
  refine outL_okay h fun x hx => ?_
  unfold askG
  split
  · exact ⟨cut_ok f t ((fine_ok h).sam x hx).1, Nat.le_trans (List.length_filter_le _ _) (row_bounds h hx)⟩
  · exact ⟨rfl, by simp⟩
theorem cut_cut (zs : List Sam.E) (f t : Int) : Samp.cutL (Samp.cutL zs f t) f t = Samp.cutL zs f t := by
  unfold Samp.cutL
  rw [List.filter_filter]
  congr 1
  funext x
  simp
theorem ask_in {ms : List Mat.E} {f t : Int} {L : List E} (h : ok L = true) {y : E} (hy : y ∈ ask ms f t L) : Mat.mlet ms y.1 = true ∧ y.2 ≠ [] ∧ Samp.cutL y.2 f t = y.2 := by
  unfold ask at hy
  rw [if_pos h] at hy
  obtain ⟨x, hx, rfl, hne⟩ := outL_in hy
  unfold askG at hne
  split at hne
  · rename_i hm
    have e : askG ms f t x = Samp.cutL x.2 f t := by unfold askG; rw [if_pos hm]
    refine ⟨hm, ?_, ?_⟩
    · show askG ms f t x ≠ []
      rw [e]; exact hne
    · show Samp.cutL (askG ms f t x) f t = askG ms f t x
      rw [e, cut_cut]
  · exact absurd rfl hne
theorem ask_ask {ms : List Mat.E} (f t : Int) {L : List E} (h : ok L = true) : ask ms f t (ask ms f t L) = ask ms f t L := by
  have e : ask ms f t (ask ms f t L) = outL (askG ms f t) (ask ms f t L) := if_pos (ask_ok f t h)
  rw [e]
  refine outL_id fun x hx => ?_
  have := ask_in h hx
  refine ⟨?_, this.2.1⟩
  unfold askG
  rw [if_pos this.1, this.2.2]
theorem inR_all {zs : List Sam.E} (h : SampMath.ok zs = true) : Samp.cutL zs 0 10000 = zs := by
  unfold Samp.cutL
  rw [List.filter_eq_self]
  intro x hx
  obtain ⟨i, hi, rfl⟩ := List.getElem_of_mem hx
  have := SampMath.ok_range h hi
  have e : SampMath.at' zs i = zs[i] := by simp [SampMath.at', List.getD, hi]
  rw [e] at this
  unfold Samp.inT
  simp
  omega
theorem ask_all {L : List E} (h : ok L = true) : ask [] 0 10000 L = L := by
  unfold ask
  rw [if_pos h]
  have hf := fine_ok h
  refine outL_id fun x hx => ⟨?_, (hf.sam x hx).2⟩
  unfold askG
  have hm : Mat.mlet [] x.1 = true := by unfold Mat.mlet; rw [hf.lab x hx]; rfl
  rw [if_pos hm, inR_all (hf.sam x hx).1]
theorem cut_ends {y : E} {f t : Int} (h : Samp.cutL y.2 f t = y.2) {i : Nat} (hi : i < y.2.length) : f ≤ (SampMath.at' y.2 i).1 ∧ (SampMath.at' y.2 i).1 < t := by
  have e : SampMath.at' y.2 i = y.2[i] := by simp [SampMath.at', List.getD, hi]
  have hm : y.2[i] ∈ Samp.cutL y.2 f t := by rw [h]; exact List.getElem_mem hi
  have := (List.mem_filter.1 hm).2
  unfold Samp.inT at this
  rw [e]
  simpa using this
end Go.Proofs.YtlboekimnhgfdaaGreat.Row

/- What is left of a row: the mathematics; samples put to a row whether it is there or not. -/
namespace Go.Proofs.YtlboekimnhgfdaaGreat.Samp
open SampMath
set_option linter.unusedVariables false
theorem merge_cons_lt {x : S} {A B : List S} (h : ∀ y ∈ B, x.1 < y.1) : merge (x :: A) B = (merge A B).map (x :: ·) := by
  cases B with
  | nil => rw [merge_nil_right, merge_nil_right]; rfl
  | cons y B => rw [merge, if_pos (h y (List.mem_cons_self ..))]
theorem merge_lt_cons {x : S} {A B : List S} (h : ∀ y ∈ A, x.1 < y.1) : merge A (x :: B) = (merge A B).map (x :: ·) := by
  cases A with
  | nil => rw [merge_nil, merge_nil]; rfl
  | cons y A =>
    have := h y (List.mem_cons_self ..)
    rw [merge, if_neg (by omega), if_pos this]
/-- parts of samples, whatever they have in common, are together what either has -/
theorem merge_filter : ∀ (xs : List S) (p q : S → Bool), xs.Pairwise (fun a b => a.1 < b.1) → merge (xs.filter p) (xs.filter q) = some (xs.filter fun z => p z || q z)
  | [], p, q, _ => by simp [merge_nil]
  | x :: xs, p, q, h => by
    obtain ⟨h1, h2⟩ := List.pairwise_cons.1 h
    have ih := merge_filter xs p q h2
    have hp : ∀ y ∈ xs.filter p, x.1 < y.1 := fun y hy => h1 y (List.mem_filter.1 hy).1
    have hq : ∀ y ∈ xs.filter q, x.1 < y.1 := fun y hy => h1 y (List.mem_filter.1 hy).1
    cases ep : p x <;> cases eq : q x
    · rw [List.filter_cons_of_neg (by simp [ep]), List.filter_cons_of_neg (by simp [eq]), List.filter_cons_of_neg (by simp [ep, eq])]
      exact ih
    · rw [List.filter_cons_of_neg (by simp [ep]), List.filter_cons_of_pos eq, List.filter_cons_of_pos (by simp [eq]), merge_lt_cons hp, ih]
      rfl
    · rw [List.filter_cons_of_pos ep, List.filter_cons_of_neg (by simp [eq]), List.filter_cons_of_pos (by simp [ep]), merge_cons_lt hq, ih]
      rfl
    · rw [List.filter_cons_of_pos ep, List.filter_cons_of_pos eq, List.filter_cons_of_pos (by simp [ep]), merge, if_neg (by omega), if_neg (by omega), if_pos rfl, ih]
      rfl
/-- what is ahead of a time, or from another one on -/
def sides (xs : List S) (f t : Int) : List S := xs.filter fun z => inT 0 f z || inT t 10000 z
theorem join_cuts {xs : List S} (h : ok xs = true) (f t : Int) : join (cutL xs 0 f) (cutL xs t 10000) = (sides xs f t, true) :=
  join_some (ok_filter h _) (ok_filter h _) (merge_filter xs _ _ ((ok_iff xs).1 h).2)
theorem sides_apart {xs : List S} (h : ok xs = true) {f t : Int} (hft : f < t) : sides xs f t = cutL xs 0 f ++ cutL xs t 10000 := by
  have h1 := merge_filter xs (inT 0 f) (inT t 10000) ((ok_iff xs).1 h).2
  have h2 := merge_apart (cutL xs 0 f) (cutL xs t 10000) (fun x hx y hy => by
    have hx' := (List.mem_filter.1 hx).2
    have hy' := (List.mem_filter.1 hy).2
    unfold inT at hx' hy'
    simp only [Bool.and_eq_true, decide_eq_true_eq] at hx' hy'
    omega)
  unfold cutL at h2 ⊢
  rw [h1] at h2
  exact Option.some.inj h2
theorem sides_all {xs : List S} (h : ok xs = true) {f t : Int} (hft : t ≤ f) : sides xs f t = xs := by
  unfold sides
  rw [List.filter_eq_self]
  intro z hz
  have := ((ok_iff xs).1 h).1 z hz
  rw [inR_iff] at this
  unfold inT
  simp only [Bool.or_eq_true, Bool.and_eq_true, decide_eq_true_eq]
  omega
end Go.Proofs.YtlboekimnhgfdaaGreat.Samp
namespace Go.Proofs.YtlboekimnhgfdaaGreat.Row
open Go.RowKit Rw
def dropG (ms : List Mat.E) (f t : Int) (x : E) : List Sam.E := if Mat.mlet ms x.1 = true then Samp.sides x.2 f t else x.2
def drop (ms : List Mat.E) (f t : Int) (zs : List E) : List E := if ok zs = true ∧ Mat.ok ms = true then outL (dropG ms f t) zs else []
/-- rows, and behind them one, if it has samples -/
def st (L : List E) (ls : List Lab.E) (a : List Sam.E) : List E := if a = [] then L else L ++ [(ls, a)]
end Go.Proofs.YtlboekimnhgfdaaGreat.Row
namespace Go.Proofs.YtlboekimnhgfdaaGreat.RSet
open Go.RowKit Rw
/-- samples put to the last row, whether it is there or not -/
theorem put_st {lo B mb n m sc : Nat} {sa : Option Addr} {w : World} {L : List Row.E} {lv : Value} {ls : List Lab.E} {a D J : List Sam.E}
    (h : Built lo B mb n w (Row.st L ls a)) (hL : L.length ≤ 1000) (hn : n ≤ 1000) (hA : Row.Ahead L ls) (hl : Lab.Is w lv ls) (hlg : ∀ x ∈ ls, Lab.good x) (hlo : Lab.ok ls = true) (hs : Samp.Smp w (.slice sa m sc) D) (hm : D.length = m) (ha : SampMath.ok a = true) (hD : SampMath.ok D = true) (hJ : SampMath.join a D = (J, true)) (h1 : m ≤ 4194304) (h2 : a.length ≤ 4194304) (hlow : lo ≤ w.heap.size) :
    Calls Tryz.prog 101 #[.pointer (some ⟨B, 0, none⟩), lv, .slice sa m sc] w fun e w' => e = .returned (.bool true) ∧ (∃ n', n' ≤ n + 1 ∧ Built lo B mb n' w' (Row.st L ls J)) ∧ Two B mb w w' := by
  by_cases h0 : m = 0
  · subst h0
    obtain rfl : D = [] := List.eq_nil_of_length_eq_zero hm
    have : J = a := by
      have e : SampMath.join a [] = (a, true) := SampMath.join_some ha rfl (SampMath.merge_nil_right a)
      rw [e] at hJ
      exact (Prod.mk.inj hJ).1.symm
    subst this
    refine (put_none _ _ _ _).mono ?_
    rintro e w' ⟨rfl, rfl⟩
    exact ⟨rfl, ⟨n, by omega, h⟩, Two.refl _ _ _⟩
  · have hDn : D ≠ [] := fun e => h0 (by rw [← hm, e]; rfl)
    by_cases e : a = []
    · subst e
      have : J = D := by rw [join_first hD] at hJ; exact (Prod.mk.inj hJ).1.symm
      subst this
      have hst : Row.st L ls [] = L := if_pos rfl
      rw [hst] at h
      refine (built_new h hL hn hA hl hlg hlo hs hm hD (by omega) h1 hlow).mono ?_
      rintro e w' ⟨rfl, hb, ht⟩
      exact ⟨rfl, ⟨n + 1, by omega, by rw [show Row.st L ls J = L ++ [(ls, J)] from if_neg hDn]; exact hb⟩, ht⟩
    · have hst : Row.st L ls a = L ++ [(ls, a)] := if_neg e
      rw [hst] at h
      have hJn : J ≠ [] := by
        intro e2
        subst e2
        obtain ⟨x, a', rfl⟩ : ∃ x a', a = x :: a' := by cases a with | nil => exact absurd rfl e | cons x a' => exact ⟨x, a', rfl⟩
        obtain ⟨y, D', rfl⟩ : ∃ y D', D = y :: D' := by cases D with | nil => exact absurd rfl hDn | cons y D' => exact ⟨y, D', rfl⟩
        unfold SampMath.join at hJ
        rw [if_pos ⟨ha, hD⟩, SampMath.merge] at hJ
        split at hJ
        · rename_i L' he
          obtain rfl := (Prod.mk.inj hJ).1
          split at he
          · cases hh : SampMath.merge a' (y :: D') <;> rw [hh] at he <;> simp at he
          · split at he
            · cases hh : SampMath.merge (x :: a') D' <;> rw [hh] at he <;> simp at he
            · split at he
              · cases hh : SampMath.merge a' D' <;> rw [hh] at he <;> simp at he
              · cases he
        · simp at hJ
      refine (built_last h hn hA hl hlg hlo hs hm hJ (by omega) h1 h2 hlow).mono ?_
      rintro e w' ⟨rfl, hb, ht⟩
      exact ⟨rfl, ⟨n + 1, by omega, by rw [show Row.st L ls J = L ++ [(ls, J)] from if_neg hJn]; exact hb⟩, ht⟩
end Go.Proofs.YtlboekimnhgfdaaGreat.RSet

/- How many samples there are in rows. -/
namespace Go.Proofs.YtlboekimnhgfdaaGreat.Row
open Go.RowKit Rw
set_option linter.unusedVariables false
attribute [local go_sem ↓] Go.wp_at_zero Go.wp_at_succ
def cntS (zs : List E) : Nat := (zs.map fun x => x.2.length).sum
theorem cntS_cons (x : E) (zs : List E) : cntS (x :: zs) = x.2.length + cntS zs := by simp [cntS]
theorem cntS_snoc (zs : List E) (k : Nat) (h : k < zs.length) : cntS (zs.take (k + 1)) = cntS (zs.take k) + (at' zs k).2.length := by
  unfold cntS
  rw [List.take_succ_eq_append_getElem h, List.map_append, List.sum_append, at_get zs k h]
  simp
theorem cntS_le {zs : List E} (h : ∀ x ∈ zs, x.2.length ≤ 1000) : cntS zs ≤ zs.length * 1000 := by
  induction zs with
  | nil => simp [cntS]
  | cons x zs ih =>
    have h1 := h x (List.mem_cons_self ..)
    have h2 := ih (fun y hy => h y (List.mem_cons_of_mem _ hy))
    rw [cntS_cons, List.length_cons, Nat.succ_mul]
    omega
set_option maxRecDepth 100000 in
set_option maxHeartbeats 4000000 in
theorem al_count {v : Value} {zs : List E} {w : World} (h : Is w v zs) (hl : zs.length ≤ 1000) (hx : ∀ x ∈ zs, x.2.length ≤ 1000) : Calls Tryz.prog 29 #[v] w fun e w' => e = .returned (.int .i64 (cntS zs : Int)) ∧ Below w.heap.size w w' := by
  obtain ⟨cs, hcs, hL, hE⟩ := h
  have HE := hide hE
  have HX := hide hx
  obtain ⟨-, a, cap, rfl, hc, hm, -, hr⟩ := hL
  unfold maxLen at hm
  obtain ⟨n, hn⟩ : ∃ n, n = zs.length := ⟨_, rfl⟩
  rw [← hn] at hc hr hcs hl ⊢
  have HN := hide hn
  have HC := hide hcs
  clear hn hE hcs hx
  go_enter Tryz.func29, Tryz.ntmps29
  go_wp2
  go_loopw [3, 4] (fun cv i wr => ∃ (j c : Nat), j ≤ n ∧ i = .int .i64 j ∧ cv = .int .i64 (c : Int) ∧ Hid (c = cntS (zs.take j)) ∧ Below w.heap.size w wr) (fun _ i _ => n - (intOf i).toNat)
  case atStart => exact ⟨0, 0, Nat.zero_le _, rfl, rfl, rfl, Below.refl _ _⟩
  case round =>
    obtain ⟨j, c, hj, rfl, rfl, HCt, hbel⟩ := hrel
    have hsz := hbel.size
    by_cases hlt : j < n
    · obtain ⟨b, off, rfl, hl', hcells⟩ := hr (by omega)
      have hjz : j < zs.length := by rw [← unhide HN]; exact hlt
      have fa := flat_at cs j (by have := unhide HC; omega)
      have hE1 := (unhide HE j hjz).2
      have hc1 : wr.cell? ⟨b, off + j * 2 + 1, none⟩ = some (cat cs j).2 := (hbel.cell (p := ⟨b, _, none⟩) hl').trans (hcells (j * 2 + 1) _ fa.2)
      obtain ⟨-, p1, q1, f1, -⟩ := hE1
      rw [f1] at hc1
      have hlen := unhide HX _ (at_mem zs j hjz)
      have hsn := cntS_snoc zs j hjz
      have hct := unhide HCt
      have hb := cntS_le (zs := zs.take j) (fun x hx => unhide HX x (List.mem_of_mem_take hx))
      rw [List.length_take] at hb
      have hcb : c ≤ 1000000 := by
        have h1 : min j zs.length ≤ 1000 := by omega
        have h2 : min j zs.length * 1000 ≤ 1000 * 1000 := Nat.mul_le_mul_right _ h1
        omega
      obtain ⟨m, hm'⟩ : ∃ m, m = (at' zs j).2.length := ⟨_, rfl⟩
      rw [← hm'] at hc1 hlen hsn
      have HS := hide (show c + m = cntS (zs.take (j + 1)) by omega)
      have hk0 : (0 : Int) ≤ (j : Int) := Int.natCast_nonneg _
      have hk1 : (j : Int) < (n : Int) := by omega
      clear fa f1 hsn hct hb hm'
      go_wp2_with fail
      go_roundw
      case rel => exact ⟨j + 1, c + m, by omega, by go_num, by go_num, HS, hbel⟩
      case measure => simp [intOf]; omega
    · obtain rfl : j = n := by omega
      have HS := hide (show c = cntS zs by have := unhide HCt; rwa [List.take_of_length_le (by have := unhide HN; omega)] at this)
      clear HCt
      go_wp2
      go_ret
      exact ⟨ret_int (congrArg (fun n : Nat => (n : Int)) (unhide HS)), hbel⟩
end Go.Proofs.YtlboekimnhgfdaaGreat.Row
