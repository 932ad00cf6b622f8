/- My own texts of one claim, laid together by program: AskMath2, DropMath, LabEq, AlLab. -/
import Derived.Test.YtncjagdnebpaaaaGe17f946c16
import Derived.Test.YtncjagdnebpaaaaG00539b006e
import Derived.Test.YtncjagdnebpaaaaG2a52908472
import Derived.Test.YtncjagdnebpaaaaG3907c7d8cb
import Derived.Test.YtncjagdnebpaaaaGffb30f2161
import Derived.Laws.StructEq
import Derived.Test.YtncjagdnebpaaaaGba66025d16
import Derived.Test.YtncjagdnebpaaaaG31fbfc5a42
import Derived.Test.YtncjagdnebpaaaaG6afbf05d6a
/- What is asked for twice is asked for once. -/
namespace Go.Proofs.Ytncjagdnebpaaaa.Row
open Go.RowKit Rw
set_option linter.unusedVariables false
theorem outL_cons (g : E → List Sam.E) (x : E) (L : List E) : outL g (x :: L) = (if g x = [] then [] else [(x.1, g x)]) ++ outL g L := by unfold outL; rw [List.flatMap_cons]
theorem outL_in {g : E → List Sam.E} {L : List E} {y : E} (h : y ∈ outL g L) : ∃ x ∈ L, y = (x.1, g x) ∧ g x ≠ [] := by
  unfold outL at h
  obtain ⟨x, hx, hy⟩ := List.mem_flatMap.1 h
  split at hy
  · cases hy
  · rename_i hne; exact ⟨x, hx, by simpa using hy, hne⟩
theorem outL_fine {g : E → List Sam.E} : ∀ {L : List E}, Fine L → (∀ x ∈ L, SampMath.ok (g x) = true) → Fine (outL g L)
  | [], h, _ => by unfold outL; exact fine_nil
  | x :: L, h, hg => by
    have ih := outL_fine (fine_tail h) (fun y hy => hg y (List.mem_cons_of_mem _ hy))
    rw [outL_cons]
    split
    · exact ih
    · rename_i hne
      refine ⟨fun y hy => ?_, fun y hy => ?_, List.pairwise_cons.2 ⟨fun y hy => ?_, ih.up⟩⟩
      · rcases List.mem_cons.1 hy with rfl | hy
        · exact h.lab x (List.mem_cons_self ..)
        · exact ih.lab y hy
      · rcases List.mem_cons.1 hy with rfl | hy
        · exact ⟨hg x (List.mem_cons_self ..), hne⟩
        · exact ih.sam y hy
      · obtain ⟨z, hz, e, -⟩ := outL_in (show y ∈ outL g L from hy)
        rw [e]
        exact (List.pairwise_cons.1 h.up).1 z hz
theorem outL_okay {g : E → List Sam.E} {L : List E} (h : ok L = true) (hg : ∀ x ∈ L, SampMath.ok (g x) = true ∧ (g x).length ≤ 1000) : ok (outL g L) = true := by
  rw [ok_of (outL_fine (fine_ok h) (fun x hx => (hg x hx).1))]
  unfold sized
  rw [Bool.and_eq_true]
  refine ⟨decide_eq_true (by have := outL_len g L; have := ok_len h; omega), List.all_eq_true.2 fun y hy => decide_eq_true ?_⟩
  obtain ⟨x, hx, e, -⟩ := outL_in hy
  rw [e]
  exact (hg x hx).2
theorem outL_same {g g' : E → List Sam.E} : ∀ {L : List E}, (∀ x ∈ L, g' x = g x) → outL g' L = outL g L
  | [], _ => rfl
  | x :: L, h => by rw [outL_cons, outL_cons, h x (List.mem_cons_self ..), outL_same (fun y hy => h y (List.mem_cons_of_mem _ hy))]
theorem outL_id {g : E → List Sam.E} : ∀ {L : List E}, (∀ x ∈ L, g x = x.2 ∧ x.2 ≠ []) → outL g L = L
  | [], _ => rfl
  | x :: L, h => by
    have hx := h x (List.mem_cons_self ..)
    rw [outL_cons, hx.1, if_neg hx.2, outL_id (fun y hy => h y (List.mem_cons_of_mem _ hy))]; rfl
theorem row_bounds {L : List E} (h : ok L = true) {x : E} (hx : x ∈ L) : x.2.length ≤ 1000 := by
  obtain ⟨i, hi, rfl⟩ := List.getElem_of_mem hx
  have hst := step_is (ok_at h hi)
  rw [at_get L i hi] at hst
  exact hst.2.2.1
theorem cut_ok {x : E} (f t : Int) (h : SampMath.ok x.2 = true) : SampMath.ok (Samp.cutL x.2 f t) = true := SampMath.ok_sub h List.filter_sublist
theorem ask_ok {ms : List Mat.E} (f t : Int) {L : List E} (h : ok L = true) : ok (ask ms f t L) = true := by
  unfold ask
  rw [if_pos h]
  refine outL_okay h fun x hx => ?_
  unfold askG
  split
  · exact ⟨cut_ok f t ((fine_ok h).sam x hx).1, Nat.le_trans (List.length_filter_le _ _) (row_bounds h hx)⟩
  · exact ⟨rfl, by simp⟩
theorem cut_cut (zs : List Sam.E) (f t : Int) : Samp.cutL (Samp.cutL zs f t) f t = Samp.cutL zs f t := by
  unfold Samp.cutL
  rw [List.filter_filter]
  congr 1
  funext x
  simp
theorem ask_in {ms : List Mat.E} {f t : Int} {L : List E} (h : ok L = true) {y : E} (hy : y ∈ ask ms f t L) : Mat.mlet ms y.1 = true ∧ y.2 ≠ [] ∧ Samp.cutL y.2 f t = y.2 := by
  unfold ask at hy
  rw [if_pos h] at hy
  obtain ⟨x, hx, rfl, hne⟩ := outL_in hy
  unfold askG at hne
  split at hne
  · rename_i hm
    have e : askG ms f t x = Samp.cutL x.2 f t := by unfold askG; rw [if_pos hm]
    refine ⟨hm, ?_, ?_⟩
    · show askG ms f t x ≠ []
      rw [e]; exact hne
    · show Samp.cutL (askG ms f t x) f t = askG ms f t x
      rw [e, cut_cut]
  · exact absurd rfl hne
theorem ask_ask {ms : List Mat.E} (f t : Int) {L : List E} (h : ok L = true) : ask ms f t (ask ms f t L) = ask ms f t L := by
  have e : ask ms f t (ask ms f t L) = outL (askG ms f t) (ask ms f t L) := if_pos (ask_ok f t h)
  rw [e]
  refine outL_id fun x hx => ?_
  have := ask_in h hx
  refine ⟨?_, this.2.1⟩
  unfold askG
  rw [if_pos this.1, this.2.2]
theorem inR_all {zs : List Sam.E} (h : SampMath.ok zs = true) : Samp.cutL zs 0 10000 = zs := by
  unfold Samp.cutL
  rw [List.filter_eq_self]
  intro x hx
  obtain ⟨i, hi, rfl⟩ := List.getElem_of_mem hx
  have := SampMath.ok_range h hi
  have e : SampMath.at' zs i = zs[i] := by simp [SampMath.at', List.getD, hi]
  rw [e] at this
  unfold Samp.inT
  simp
  omega
theorem ask_all {L : List E} (h : ok L = true) : ask [] 0 10000 L = L := by
  unfold ask
  rw [if_pos h]
  have hf := fine_ok h
  refine outL_id fun x hx => ⟨?_, (hf.sam x hx).2⟩
  unfold askG
  have hm : Mat.mlet [] x.1 = true := by unfold Mat.mlet; rw [hf.lab x hx]; rfl
  rw [if_pos hm, inR_all (hf.sam x hx).1]
theorem cut_ends {y : E} {f t : Int} (h : Samp.cutL y.2 f t = y.2) {i : Nat} (hi : i < y.2.length) : f ≤ (SampMath.at' y.2 i).1 ∧ (SampMath.at' y.2 i).1 < t := by
  have e : SampMath.at' y.2 i = y.2[i] := by simp [SampMath.at', List.getD, hi]
  have hm : y.2[i] ∈ Samp.cutL y.2 f t := by rw [h]; exact List.getElem_mem hi
  have := (List.mem_filter.1 hm).2
  unfold Samp.inT at this
  rw [e]
  simpa using this
end Go.Proofs.Ytncjagdnebpaaaa.Row

/- What is left of a row: the mathematics; samples put to a row whether it is there or not. -/
namespace Go.Proofs.Ytncjagdnebpaaaa.Samp
open SampMath
set_option linter.unusedVariables false
theorem merge_cons_lt {x : S} {A B : List S} (h : ∀ y ∈ B, x.1 < y.1) : merge (x :: A) B = (merge A B).map (x :: ·) := by
  cases B with
  | nil => rw [merge_nil_right, merge_nil_right]; rfl
  | cons y B => rw [merge, if_pos (h y (List.mem_cons_self ..))]
theorem merge_lt_cons {x : S} {A B : List S} (h : ∀ y ∈ A, x.1 < y.1) : merge A (x :: B) = (merge A B).map (x :: ·) := by
  cases A with
  | nil => rw [merge_nil, merge_nil]; rfl
  | cons y A =>
    have := h y (List.mem_cons_self ..)
    rw [merge, if_neg (by omega), if_pos this]
/-- parts of samples, whatever they have in common, are together what either has -/
theorem merge_filter : ∀ (xs : List S) (p q : S → Bool), xs.Pairwise (fun a b => a.1 < b.1) → merge (xs.filter p) (xs.filter q) = some (xs.filter fun z => p z || q z)
  | [], p, q, _ => by simp [merge_nil]
  | x :: xs, p, q, h => by
    obtain ⟨h1, h2⟩ := List.pairwise_cons.1 h
    have ih := merge_filter xs p q h2
    have hp : ∀ y ∈ xs.filter p, x.1 < y.1 := fun y hy => h1 y (List.mem_filter.1 hy).1
    have hq : ∀ y ∈ xs.filter q, x.1 < y.1 := fun y hy => h1 y (List.mem_filter.1 hy).1
    cases ep : p x <;> cases eq : q x
    · rw [List.filter_cons_of_neg (by simp [ep]), List.filter_cons_of_neg (by simp [eq]), List.filter_cons_of_neg (by simp [ep, eq])]
      exact ih
    · rw [List.filter_cons_of_neg (by simp [ep]), List.filter_cons_of_pos eq, List.filter_cons_of_pos (by simp [eq]), merge_lt_cons hp, ih]
      rfl
    · rw [List.filter_cons_of_pos ep, List.filter_cons_of_neg (by simp [eq]), List.filter_cons_of_pos (by simp [ep]), merge_cons_lt hq, ih]
      rfl
    · rw [List.filter_cons_of_pos ep, List.filter_cons_of_pos eq, List.filter_cons_of_pos (by simp [ep]), merge, if_neg (by omega), if_neg (by omega), if_pos rfl, ih]
      rfl
/-- what is ahead of a time, or from another one on -/
def sides (xs : List S) (f t : Int) : List S := xs.filter fun z => inT 0 f z || inT t 10000 z
theorem join_cuts {xs : List S} (h : ok xs = true) (f t : Int) : join (cutL xs 0 f) (cutL xs t 10000) = (sides xs f t, true) :=
  join_some (ok_filter h _) (ok_filter h _) (merge_filter xs _ _ ((ok_iff xs).1 h).2)
theorem sides_apart {xs : List S} (h : ok xs = true) {f t : Int} (hft : f < t) : sides xs f t = cutL xs 0 f ++ cutL xs t 10000 := by
  have h1 := merge_filter xs (inT 0 f) (inT t 10000) ((ok_iff xs).1 h).2
  have h2 := merge_apart (cutL xs 0 f) (cutL xs t 10000) (fun x hx y hy => by
    have hx' := (List.mem_filter.1 hx).2
    have hy' := (List.mem_filter.1 hy).2
    unfold inT at hx' hy'
    simp only [Bool.and_eq_true, decide_eq_true_eq] at hx' hy'
    omega)
  unfold cutL at h2 ⊢
  rw [h1] at h2
  exact Option.some.inj h2
theorem sides_all {xs : List S} (h : ok xs = true) {f t : Int} (hft : t ≤ f) : sides xs f t = xs := by
  unfold sides
  rw [List.filter_eq_self]
  intro z hz
  have := ((ok_iff xs).1 h).1 z hz
  rw [inR_iff] at this
  unfold inT
  simp only [Bool.or_eq_true, Bool.and_eq_true, decide_eq_true_eq]
  omega
end Go.Proofs.Ytncjagdnebpaaaa.Samp
namespace Go.Proofs.Ytncjagdnebpaaaa.Row
open Go.RowKit Rw
def dropG (ms : List Mat.E) (f t : Int) (x : E) : List Sam.E := if Mat.mlet ms x.1 = true then Samp.sides x.2 f t else x.2
def drop (ms : List Mat.E) (f t : Int) (zs : List E) : List E := if ok zs = true ∧ Mat.ok ms = true then outL (dropG ms f t) zs else []
/-- rows, and behind them one, if it has samples -/
def st (L : List E) (ls : List Lab.E) (a : List Sam.E) : List E := if a = [] then L else L ++ [(ls, a)]
end Go.Proofs.Ytncjagdnebpaaaa.Row
namespace Go.Proofs.Ytncjagdnebpaaaa.RSet
open Go.RowKit Rw
/-- samples put to the last row, whether it is there or not -/
theorem put_st {lo B mb n m sc : Nat} {sa : Option Addr} {w : World} {L : List Row.E} {lv : Value} {ls : List Lab.E} {a D J : List Sam.E}
    (h : Built lo B mb n w (Row.st L ls a)) (hL : L.length ≤ 1000) (hn : n ≤ 1000) (hA : Row.Ahead L ls) (hl : Lab.Is w lv ls) (hlg : ∀ x ∈ ls, Lab.good x) (hlo : Lab.ok ls = true) (hs : Samp.Smp w (.slice sa m sc) D) (hm : D.length = m) (ha : SampMath.ok a = true) (hD : SampMath.ok D = true) (hJ : SampMath.join a D = (J, true)) (h1 : m ≤ 4194304) (h2 : a.length ≤ 4194304) (hlow : lo ≤ w.heap.size) :
    Calls Try.prog 55 #[.pointer (some ⟨B, 0, none⟩), lv, .slice sa m sc] w fun e w' => e = .returned (.bool true) ∧ (∃ n', n' ≤ n + 1 ∧ Built lo B mb n' w' (Row.st L ls J)) ∧ Two B mb w w' := by
  by_cases h0 : m = 0
  · subst h0
    obtain rfl : D = [] := List.eq_nil_of_length_eq_zero hm
    have : J = a := by
      have e : SampMath.join a [] = (a, true) := SampMath.join_some ha rfl (SampMath.merge_nil_right a)
      rw [e] at hJ
      exact (Prod.mk.inj hJ).1.symm
    subst this
    refine (put_none _ _ _ _).mono ?_
    rintro e w' ⟨rfl, rfl⟩
    exact ⟨rfl, ⟨n, by omega, h⟩, Two.refl _ _ _⟩
  · have hDn : D ≠ [] := fun e => h0 (by rw [← hm, e]; rfl)
    by_cases e : a = []
    · subst e
      have : J = D := by rw [join_first hD] at hJ; exact (Prod.mk.inj hJ).1.symm
      subst this
      have hst : Row.st L ls [] = L := if_pos rfl
      rw [hst] at h
      refine (built_new h hL hn hA hl hlg hlo hs hm hD (by omega) h1 hlow).mono ?_
      rintro e w' ⟨rfl, hb, ht⟩
      exact ⟨rfl, ⟨n + 1, by omega, by rw [show Row.st L ls J = L ++ [(ls, J)] from if_neg hDn]; exact hb⟩, ht⟩
    · have hst : Row.st L ls a = L ++ [(ls, a)] := if_neg e
      rw [hst] at h
      have hJn : J ≠ [] := by
        intro e2
        subst e2
        obtain ⟨x, a', rfl⟩ : ∃ x a', a = x :: a' := by cases a with | nil => exact absurd rfl e | cons x a' => exact ⟨x, a', rfl⟩
        obtain ⟨y, D', rfl⟩ : ∃ y D', D = y :: D' := by cases D with | nil => exact absurd rfl hDn | cons y D' => exact ⟨y, D', rfl⟩
        unfold SampMath.join at hJ
        rw [if_pos ⟨ha, hD⟩, SampMath.merge] at hJ
        split at hJ
        · rename_i L' he
          obtain rfl := (Prod.mk.inj hJ).1
          split at he
          · cases hh : SampMath.merge a' (y :: D') <;> rw [hh] at he <;> simp at he
          · split at he
            · cases hh : SampMath.merge (x :: a') D' <;> rw [hh] at he <;> simp at he
            · split at he
              · cases hh : SampMath.merge a' D' <;> rw [hh] at he <;> simp at he
              · cases he
        · simp at hJ
      refine (built_last h hn hA hl hlg hlo hs hm hJ (by omega) h1 h2 hlow).mono ?_
      rintro e w' ⟨rfl, hb, ht⟩
      exact ⟨rfl, ⟨n + 1, by omega, by rw [show Row.st L ls J = L ++ [(ls, J)] from if_neg hJn]; exact hb⟩, ht⟩
end Go.Proofs.Ytncjagdnebpaaaa.RSet

/- Whether a label is another. -/
namespace Go.Proofs.Ytncjagdnebpaaaa.Lab
open Go.RowKit Rw
set_option linter.unusedVariables false
attribute [local go_sem ↓] Go.wp_at_zero Go.wp_at_succ
theorem eqLab (A B C D : ByteArray) (w : World) : (Op.equalIn 10000 47 (.agg #[.string A, .string B]) (.agg #[.string C, .string D])).run Try.prog w = .ok (A.toList == C.toList && B.toList == D.toList) w := by
  have u3 := Try.underlying9
  have a3 := Try.isAgg9
  have z3 := Try.sizeOf9
  have hS : Try.prog.underlying 47 = some (.struct (Try.prog.fieldsOf 47)) := by kernel_rfl
  have hp : Try.prog.stoodInHeld 47 = false := by kernel_rfl
  rw [show (10000 : Nat) = 9999 + 1 from rfl, run_equalIn_agg w 9999 47 _ _ hS hp]
  simp only [Program.fieldsOf, Try.underlying47]
  go_simp
  cases h1 : (A.toList == C.toList) <;> cases h2 : (B.toList == D.toList) <;> simp_all
theorem run_neL (A B C D : ByteArray) (R : Bool) (h : R = !(A.toList == C.toList && B.toList == D.toList)) (W : World) : (binOp .neq 47 (.agg #[.string A, .string B]) (.agg #[.string C, .string D])).run Try.prog W = .ok (.bool R) W := by
  rw [run_neq_struct, eqLab, h]; rfl
end Go.Proofs.Ytncjagdnebpaaaa.Lab

/- Labels are drawn twice; whether labels are the same. -/
namespace Go.Proofs.Ytncjagdnebpaaaa.Lab
open Go.RowKit Rw Draw
set_option linter.unusedVariables false
attribute [local go_sem ↓] Go.wp_at_zero Go.wp_at_succ
set_option maxRecDepth 100000 in
set_option maxHeartbeats 2000000 in
theorem al_any {v u : Value} {zs ys : List E} {w : World} (h : Is w v zs) (h' : Is w u ys) : Calls Try.prog 27 #[v, u] w fun e w' => ∃ R : Bool, e = .returned (.bool R) ∧ (R = true ↔ zs = ys) ∧ Below w.heap.size w w' := by
  obtain ⟨-, a, cap, rfl, hc, hm, -, hr⟩ := h
  obtain ⟨-, a', cap', rfl, hc', hm', -, hr'⟩ := h'
  unfold maxLen at hm hm'
  by_cases hll : zs.length = ys.length
  · obtain ⟨n, hn⟩ : ∃ n, n = zs.length := ⟨_, rfl⟩
    rw [← hll] at hc' hr' ⊢
    rw [← hn] at hc hr hc' hr' ⊢
    have HN := hide hn
    have HM := hide (hn.trans hll)
    clear hn hll
    go_enter Try.func27, Try.ntmps27
    go_wp2_with fail
    go_loopw [5] (fun i wr => ∃ (k : Nat), k ≤ n ∧ i = .int .i64 k ∧ zs.take k = ys.take k ∧ Below w.heap.size w wr) (fun i _ => n - (intOf i).toNat)
    case atStart => exact ⟨0, Nat.zero_le _, rfl, by simp, Below.refl _ _⟩
    case round =>
      obtain ⟨k, hk, rfl, hT, hbel⟩ := hrel
      have HT := hide hT
      clear hT
      have hsz := hbel.size
      by_cases hlt : k < n
      · obtain ⟨b, off, rfl, hl, hcells⟩ := hr (by omega)
        obtain ⟨b', off', rfl, hl', hcells'⟩ := hr' (by omega)
        have hkz : k < zs.length := by have := unhide HN; omega
        have hky : k < ys.length := by have := unhide HM; omega
        have s1 := at_snoc zs k hkz
        have s2 := at_snoc ys k hky
        obtain ⟨A, B, hX⟩ : ∃ A B, (A, B) = at' zs k := ⟨_, _, rfl⟩
        obtain ⟨C, D, hY⟩ : ∃ C D, (C, D) = at' ys k := ⟨_, _, rfl⟩
        have fa := ag hkz A B hX
        have fb := ag hky C D hY
        rw [← hX] at s1
        rw [← hY] at s2
        have hq0 : ∀ x : Cls wr.heap.size wr, x.val.cell? ⟨b, off + k * 2, none⟩ = some (.string A) := fun x => by rw [x.cell (by omega)]; exact (hbel.cell (p := ⟨b, _, none⟩) hl).trans (hcells (k * 2) _ fa.1)
        have hq1 : ∀ x : Cls wr.heap.size wr, x.val.cell? ⟨b, off + k * 2 + 1, none⟩ = some (.string B) := fun x => by rw [x.cell (by omega)]; exact (hbel.cell (p := ⟨b, _, none⟩) hl).trans (hcells (k * 2 + 1) _ fa.2)
        have hp0 : ∀ x : Cls wr.heap.size wr, x.val.cell? ⟨b', off' + k * 2, none⟩ = some (.string C) := fun x => by rw [x.cell (by omega)]; exact (hbel.cell (p := ⟨b', _, none⟩) hl').trans (hcells' (k * 2) _ fb.1)
        have hp1 : ∀ x : Cls wr.heap.size wr, x.val.cell? ⟨b', off' + k * 2 + 1, none⟩ = some (.string D) := fun x => by rw [x.cell (by omega)]; exact (hbel.cell (p := ⟨b', _, none⟩) hl').trans (hcells' (k * 2 + 1) _ fb.2)
        have hk0 : (0 : Int) ≤ (k : Int) := Int.natCast_nonneg _
        have hk1 : (k : Int) < (n : Int) := by omega
        have S := hide (And.intro s1 s2)
        clear s1 s2 hX hY fa fb hcells hcells' hr hr'
        have hne := cls_nonempty wr.heap.size wr
        by_cases he : A = C ∧ B = D
        · have hs : ∀ W, (binOp .neq 47 (.agg #[.string A, .string B]) (.agg #[.string C, .string D])).run Try.prog W = .ok (.bool false) W := fun W => run_neL A B C D false (by rw [he.1, he.2]; simp) W
          have HE := hide he
          clear he
          go_wp2_with fail
          refine region_cls (by kernel_rfl) (by kernel_rfl) ?_
          repeat (go_big_quiet_step ((fail)))
          refine wpQuiet_nil ?_
          rintro wq ⟨⟨_, hq⟩, rfl⟩
          have H7 := hide (show zs.take (k + 1) = ys.take (k + 1) by rw [(unhide S).1, (unhide S).2, unhide HT, (unhide HE).1, (unhide HE).2])
          go_wp2_with fail
          go_roundw
          case rel => exact ⟨k + 1, by omega, by go_num, unhide H7, hbel.trans (hq.mono hsz)⟩
          case measure => simp [intOf]; omega
        · have hs : ∀ W, (binOp .neq 47 (.agg #[.string A, .string B]) (.agg #[.string C, .string D])).run Try.prog W = .ok (.bool true) W := fun W => run_neL A B C D true (by
            rw [ByteArray.toList_eq, ByteArray.toList_eq, ByteArray.toList_eq, ByteArray.toList_eq]
            cases h1 : (A.data.toList == C.data.toList)
            · rfl
            · cases h2 : (B.data.toList == D.data.toList)
              · rfl
              · exact absurd ⟨Go.WideShapes.bytes_inj (beq_iff_eq.1 h1), Go.WideShapes.bytes_inj (beq_iff_eq.1 h2)⟩ he) W
          have HE := hide (show ¬ zs = ys from fun e => he (by
            have h1 := (unhide S).1
            have h2 := (unhide S).2
            rw [e, h2] at h1
            have := List.append_cancel_left h1
            simp only [List.cons.injEq, Prod.mk.injEq, and_true] at this
            exact ⟨this.1.symm, this.2.symm⟩))
          clear he
          go_wp2_with fail
          refine region_cls (by kernel_rfl) (by kernel_rfl) ?_
          repeat (go_big_quiet_step ((fail)))
          refine wpQuiet_nil ?_
          rintro wq ⟨⟨_, hq⟩, rfl⟩
          go_wp2_with fail
          go_ret
          exact ⟨false, rfl, ⟨fun h => (by cases h), fun h => absurd h (unhide HE)⟩, hbel.trans (hq.mono hsz)⟩
      · have hkf : decide ((k : Int) < (n : Int)) = false := by simp; omega
        have H7 := hide (show zs = ys by
          have := unhide HT
          rwa [List.take_of_length_le (by have := unhide HN; omega), List.take_of_length_le (by have := unhide HM; omega)] at this)
        go_wp2_with fail
        go_ret
        exact ⟨true, rfl, ⟨fun _ => unhide H7, fun _ => rfl⟩, hbel⟩
  · have hne : ((zs.length : Int) != (ys.length : Int)) = true := by simp; omega
    have HE := hide (show ¬ zs = ys from fun e => hll (by rw [e]))
    go_enter Try.func27, Try.ntmps27
    go_wp2_with fail
    go_ret
    exact ⟨false, rfl, ⟨fun h => (by cases h), fun h => absurd h (unhide HE)⟩, Below.refl _ _⟩
end Go.Proofs.Ytncjagdnebpaaaa.Lab
