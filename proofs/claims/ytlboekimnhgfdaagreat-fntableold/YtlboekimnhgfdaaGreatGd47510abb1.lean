/- My own texts of one claim, laid together by program: AskMath, Let, Let2, RowAsk. -/
import Derived.Test.YtlboekimnhgfdaaGreatG60f458fe67
import Derived.Test.YtlboekimnhgfdaaGreatG5cddafb44b
import Derived.Test.YtlboekimnhgfdaaGreatGe28bc76aa9
import Derived.Test.YtlboekimnhgfdaaGreatG7c8bd49666
/- Rows made of rows one by one: what is asked for, what is left. -/
namespace Go.Proofs.YtlboekimnhgfdaaGreat.Row
open Go.RowKit Rw
set_option linter.unusedVariables false
/-- rows with other samples, without those of which none is left -/
def outL (g : E → List Sam.E) (zs : List E) : List E := zs.flatMap fun x => if g x = [] then [] else [(x.1, g x)]
theorem outL_snoc (g : E → List Sam.E) (zs : List E) (k : Nat) (h : k < zs.length) : outL g (zs.take (k + 1)) = outL g (zs.take k) ++ if g (at' zs k) = [] then [] else [((at' zs k).1, g (at' zs k))] := by
  unfold outL
  rw [List.take_succ_eq_append_getElem h, List.flatMap_append, at_get zs k h]
  simp
theorem outL_mem {g : E → List Sam.E} {zs : List E} {k : Nat} (hk : k ≤ zs.length) {y : E} (h : y ∈ outL g (zs.take k)) : ∃ i, i < k ∧ y = ((at' zs i).1, g (at' zs i)) ∧ g (at' zs i) ≠ [] := by
  unfold outL at h
  obtain ⟨x, hx, hy⟩ := List.mem_flatMap.1 h
  obtain ⟨i, hi, rfl⟩ := List.getElem_of_mem hx
  rw [List.length_take] at hi
  have e : (zs.take k)[i] = at' zs i := by rw [List.getElem_take, at_get zs i (by omega)]
  rw [e] at hy
  split at hy
  · cases hy
  · rename_i hne
    exact ⟨i, by omega, by simpa using hy, hne⟩
theorem cmp_lt_trans {a b c : List Lab.E} (h1 : Lab.cmpL a b < 0) (h2 : Lab.cmpL b c < 0) : Lab.cmpL a c < 0 := by
  have h3 := Lab.ordL.trans a b c (by omega) (by omega)
  rcases Nat.lt_or_ge 0 0 with h | h
  · omega
  · by_cases e : Lab.cmpL a c = 0
    · have := Lab.ordL.zero _ _ e
      subst this
      have := Lab.ordL.anti a b
      omega
    · omega
theorem ok_cmp {zs : List E} (h : ok zs = true) : ∀ (j i : Nat), i < j → j < zs.length → Lab.cmpL (at' zs i).1 (at' zs j).1 < 0
  | 0, i, hij, _ => by omega
  | j + 1, i, hij, hj => by
    have hs := ok_at h hj
    unfold stepOk at hs
    rw [Bool.and_eq_true] at hs
    have h1 : Lab.cmpL (at' zs j).1 (at' zs (j + 1)).1 < 0 := by simpa using hs.2
    by_cases e : i = j
    · subst e; exact h1
    · exact cmp_lt_trans (ok_cmp h j i (by omega) (by omega)) h1
theorem key_lt {a b : List Lab.E} (ha : Lab.ok a = true) (hb : Lab.ok b = true) (h : Lab.cmpL a b < 0) : StrMath.lt (Lab.keyOf a) (Lab.keyOf b) := by
  show Lab.ltS _ _ = true
  unfold Lab.ltS
  rw [ByteArray.toList_eq, ByteArray.toList_eq]
  have h1 := Lab.ok_lettered ha
  have h2 := Lab.ok_lettered hb
  have := (Lab.key_cmp a b h1.1 h2.1 h1.2 h2.2).2 (by have := Lab.cmpL_range a b; omega)
  unfold Lab.keyOf
  simpa using this
theorem ok_keys {zs : List E} (h : ok zs = true) {i j : Nat} (hij : i < j) (hj : j < zs.length) : StrMath.lt (Lab.keyOf (at' zs i).1) (Lab.keyOf (at' zs j).1) :=
  key_lt (step_is (ok_at h (by omega))).1 (step_is (ok_at h hj)).1 (ok_cmp h j i hij hj)
/-- all rows of a list stand ahead of labels -/
def Ahead (L : List E) (ls : List Lab.E) : Prop := ∀ y ∈ L, StrMath.lt (Lab.keyOf y.1) (Lab.keyOf ls)
def Sorted (L : List E) : Prop := (L.map fun y => Lab.keyOf y.1).Pairwise StrMath.lt
theorem outL_ahead {g : E → List Sam.E} {zs : List E} (h : ok zs = true) {k : Nat} (hk : k < zs.length) : Ahead (outL g (zs.take k)) (at' zs k).1 := by
  intro y hy
  obtain ⟨i, hi, e, -⟩ := outL_mem (by omega) hy
  rw [e]
  exact ok_keys h hi hk
theorem Sorted.snoc {L : List E} {x : E} (h : Sorted L) (ha : Ahead L x.1) : Sorted (L ++ [x]) := by
  unfold Sorted at *
  rw [List.map_append, List.pairwise_append]
  refine ⟨h, by simp, fun a ha' b hb => ?_⟩
  obtain ⟨y, hy, rfl⟩ := List.mem_map.1 ha'
  simp only [List.map_cons, List.map_nil, List.mem_singleton] at hb
  subst hb
  exact ha y hy
theorem Sorted.nodup {L : List E} (h : Sorted L) : (L.map fun y => Lab.keyOf y.1).Nodup := List.Pairwise.imp (fun {a b} hab e => by subst e; exact StrMath.lt_irrefl _ hab) h
theorem put_end : ∀ (l : List ByteArray) (n : ByteArray), (∀ z ∈ l, StrMath.lt z n) → StrMath.put l n = l ++ [n]
  | [], n, _ => rfl
  | x :: l, n, h => by
    unfold StrMath.put
    rw [if_pos (h x (List.mem_cons_self ..)), put_end l n (fun z hz => h z (List.mem_cons_of_mem _ hz))]
    rfl
end Go.Proofs.YtlboekimnhgfdaaGreat.Row
namespace Go.Proofs.YtlboekimnhgfdaaGreat.RSet
open Go.RowKit Rw
/-- a set that has just these rows -/
def Built (lo B mb n : Nat) (w : World) (L : List Row.E) : Prop := ∃ M R, IsSet lo B mb n w (L.map fun y => Lab.keyOf y.1) M R ∧ (L.map fun y => Lab.keyOf y.1).map R = L
theorem Built.below {lo B mb n : Nat} {w w' : World} {L : List Row.E} (h : Built lo B mb n w L) (hb : Below w.heap.size w w') : Built lo B mb n w' L := by
  obtain ⟨M, R, h1, h2⟩ := h
  exact ⟨M, R, h1.below hb, h2⟩
theorem Built.ltB {lo B mb n : Nat} {w : World} {L : List Row.E} (h : Built lo B mb n w L) : B < w.heap.size ∧ mb < w.heap.size ∧ lo ≤ B ∧ lo ≤ mb := by
  obtain ⟨M, R, h1, h2⟩ := h
  exact ⟨h1.ltB, h1.map.lt, h1.loB, h1.loM⟩
theorem built_new {lo B mb n m sc : Nat} {sa : Option Addr} {w : World} {L : List Row.E} {lv : Value} {ls : List Lab.E} {zs : List Sam.E}
    (h : Built lo B mb n w L) (hL : L.length ≤ 1000) (hn : n ≤ 1000) (hA : Row.Ahead L ls) (hl : Lab.Is w lv ls) (hlg : ∀ x ∈ ls, Lab.good x) (hlo : Lab.ok ls = true) (hs : Samp.Smp w (.slice sa m sc) zs) (hm : zs.length = m) (hz : SampMath.ok zs = true) (h0 : 0 < m) (h1 : m ≤ 4194304) (hlow : lo ≤ w.heap.size) :
    Calls Tryz.prog 101 #[.pointer (some ⟨B, 0, none⟩), lv, .slice sa m sc] w fun e w' => e = .returned (.bool true) ∧ Built lo B mb (n + 1) w' (L ++ [(ls, zs)]) ∧ Two B mb w w' := by
  obtain ⟨M, R, hs1, hR⟩ := h
  have hlt : ∀ z ∈ L.map (fun y => Lab.keyOf y.1), StrMath.lt z (Lab.keyOf ls) := fun z hz' => by obtain ⟨y, hy, rfl⟩ := List.mem_map.1 hz'; exact hA y hy
  have hni : Lab.keyOf ls ∉ L.map (fun y => Lab.keyOf y.1) := fun hi => StrMath.lt_irrefl _ (hlt _ hi)
  have hN : M (Lab.keyOf ls) = none := by
    cases e : M (Lab.keyOf ls) with
    | none => rfl
    | some c => exact absurd ((hs1.has _).1 (by rw [e]; rfl)) hni
  refine (put_new hs1 hl hlg hlo hs hm hz h0 h1 (by rw [List.length_map]; exact hL) hn hN hlow).mono ?_
  rintro e w' ⟨c, rfl, hs2, ht⟩
  rw [Row.put_end _ _ hlt] at hs2
  refine ⟨rfl, ⟨_, _, by rw [List.map_append]; exact hs2, ?_⟩, ht⟩
  rw [List.map_append, List.map_append]
  congr 1
  · conv => rhs; rw [← hR]
    refine List.map_congr_left (fun k hk => ?_)
    rw [if_neg (fun e => hni (by rw [← e]; exact hk))]
  · simp
theorem built_last {lo B mb n m sc : Nat} {sa : Option Addr} {w : World} {L : List Row.E} {lv : Value} {ls : List Lab.E} {a zs J : List Sam.E}
    (h : Built lo B mb n w (L ++ [(ls, a)])) (hn : n ≤ 1000) (hA : Row.Ahead L ls) (hl : Lab.Is w lv ls) (hlg : ∀ x ∈ ls, Lab.good x) (hlo : Lab.ok ls = true) (hs : Samp.Smp w (.slice sa m sc) zs) (hm : zs.length = m) (hJ : SampMath.join a zs = (J, true)) (h0 : 0 < m) (h1 : m ≤ 4194304) (h2 : a.length ≤ 4194304) (hlow : lo ≤ w.heap.size) :
    Calls Tryz.prog 101 #[.pointer (some ⟨B, 0, none⟩), lv, .slice sa m sc] w fun e w' => e = .returned (.bool true) ∧ Built lo B mb (n + 1) w' (L ++ [(ls, J)]) ∧ Two B mb w w' := by
  obtain ⟨M, R, hs1, hR⟩ := h
  have hlt : ∀ z ∈ L.map (fun y => Lab.keyOf y.1), StrMath.lt z (Lab.keyOf ls) := fun z hz' => by obtain ⟨y, hy, rfl⟩ := List.mem_map.1 hz'; exact hA y hy
  have hni : Lab.keyOf ls ∉ L.map (fun y => Lab.keyOf y.1) := fun hi => StrMath.lt_irrefl _ (hlt _ hi)
  rw [List.map_append, List.map_append] at hR
  have hp := List.append_inj' hR (by simp)
  have hR1 := hp.1
  have hR2 : R (Lab.keyOf ls) = (ls, a) := by simpa using hp.2
  have hin : Lab.keyOf ls ∈ (L ++ [(ls, a)]).map (fun y => Lab.keyOf y.1) := by simp
  obtain ⟨c, hN⟩ : ∃ c, M (Lab.keyOf ls) = some c := Option.isSome_iff_exists.1 ((hs1.has _).2 hin)
  refine (put_old hs1 hl hlg hlo hs hm (by rw [hR2]; exact hJ) h0 h1 (by rw [hR2]; exact h2) hn hN hlow).mono ?_
  rintro e w' ⟨c, rfl, hs2, ht⟩
  refine ⟨rfl, ⟨_, _, by rw [List.map_append] at hs2 ⊢; exact hs2, ?_⟩, ht⟩
  rw [List.map_append, List.map_append]
  congr 1
  · conv => rhs; rw [← hR1]
    refine List.map_congr_left (fun k hk => ?_)
    rw [if_neg (fun e => hni (by rw [← e]; exact hk))]
  · simp [hR2]
theorem built_rows {lo B mb n : Nat} {w : World} {L : List Row.E} (h : Built lo B mb n w L) (hS : Row.Sorted L) (hL : L.length ≤ 1000) (hok : ∀ y ∈ L, Lab.ok y.1 = true) (hlow : lo ≤ w.heap.size) :
    Calls Tryz.prog 74 #[.pointer (some ⟨B, 0, none⟩)] w fun e w' => ∃ v, e = .returned v ∧ Row.Own lo w'.heap.size w' v L ∧ Below w.heap.size w w' := by
  obtain ⟨M, R, hs1, hR⟩ := h
  have := rows_any hs1 hS.nodup (fun k hk => by obtain ⟨y, hy, rfl⟩ := List.mem_map.1 hk; exact key_size (hok y hy)) (by rw [List.length_map]; exact hL) hlow
  rw [hR] at this
  exact this
end Go.Proofs.YtlboekimnhgfdaaGreat.RSet

/- The word under a name; what a rule lets; MatchesLet of the program. -/
namespace Go.Proofs.YtlboekimnhgfdaaGreat.Mat
open Go.RowKit Rw
set_option linter.unusedVariables false
attribute [local go_sem ↓] Go.wp_at_zero Go.wp_at_succ
theorem run_eqS (a b : ByteArray) (W : World) : (binOp .eql 9 (.string a) (.string b)).run Tryz.prog W = .ok (.bool (sameS a b)) W := rfl
set_option maxRecDepth 100000 in
set_option maxHeartbeats 2000000 in
theorem wordUnder_any {w : World} {v : Value} {ls : List Lab.E} (nm : ByteArray) (h : Lab.Is w v ls) :
    Calls Tryz.prog 132 #[v, .string nm] w fun e w' => e = .returned (.string (wordOf ls nm)) ∧ Below w.heap.size w w' := by
  obtain ⟨-, a, cap, rfl, hc, hm, -, hr⟩ := h
  unfold maxLen at hm
  obtain ⟨n, hn⟩ : ∃ n, n = ls.length := ⟨_, rfl⟩
  rw [← hn] at hc hr ⊢
  have HN := hide hn
  clear hn
  obtain ⟨R, hR⟩ : ∃ R, R = wordOf ls nm := ⟨_, rfl⟩
  rw [← hR]
  have HR := hide hR
  clear hR
  go_enter Tryz.func132, Tryz.ntmps132
  go_wp2_with fail
  go_loopw [9] (fun i wr => ∃ k : Nat, k ≤ n ∧ i = .int .i64 k ∧ (ls.take k).find? (fun x => sameS x.1 nm) = none ∧ Below w.heap.size w wr) (fun i _ => n - (intOf i).toNat)
  case atStart => exact ⟨0, Nat.zero_le _, rfl, rfl, Below.refl _ _⟩
  case round =>
    obtain ⟨k, hk, rfl, hno, hbel⟩ := hrel
    have HO := hide hno
    clear hno
    have hsz := hbel.size
    by_cases hlt : k < n
    · obtain ⟨b, off, rfl, hl, hcells⟩ := hr (by omega)
      have fa := Lab.flat_at ls k (by have := unhide HN; omega)
      obtain ⟨A, B, hX⟩ : ∃ A B, (A, B) = Lab.at' ls k := ⟨_, _, rfl⟩
      rw [← hX] at fa
      have hc0 : wr.cell? ⟨b, off + k * 2, none⟩ = some (.string A) := (hbel.cell (p := ⟨b, _, none⟩) hl).trans (hcells (k * 2) _ fa.1)
      have hc1 : wr.cell? ⟨b, off + k * 2 + 1, none⟩ = some (.string B) := (hbel.cell (p := ⟨b, _, none⟩) hl).trans (hcells (k * 2 + 1) _ fa.2)
      have HX := hide hX
      clear hX fa
      have hk0 : (0 : Int) ≤ (k : Int) := Int.natCast_nonneg _
      have hk1 : (k : Int) < (n : Int) := by omega
      cases hs : sameS A nm
      · have HF := hide (find_none ls nm k (by have := unhide HN; omega) (unhide HO) (by rw [← unhide HX]; exact hs))
        have l1 : (A.toList == nm.toList) = false := hs
        clear hs
        go_wp2_with fail
        go_roundw
        case rel => exact ⟨k + 1, by omega, by go_num, unhide HF, hbel.alloc hsz _⟩
        case measure => simp [intOf]; omega
      · have HF := hide (show R = B by rw [unhide HR, word_hit ls nm k (by have := unhide HN; omega) (unhide HO) (by rw [← unhide HX]; exact hs), ← unhide HX])
        have e := sameS_iff.1 hs
        subst e
        clear hs
        go_wp2_with fail
        go_ret
        exact ⟨ret_string (unhide HF).symm, hbel.alloc hsz _⟩
    · have HF := hide (show R = ByteArray.empty by
        rw [unhide HR]
        have := unhide HO
        rw [List.take_of_length_le (by have := unhide HN; omega)] at this
        exact word_miss ls nm this)
      have hkf : decide ((k : Int) < (n : Int)) = false := by simp; omega
      go_wp2_with fail
      go_ret
      exact ⟨ret_string (unhide HF).symm, hbel⟩
set_option maxRecDepth 100000 in
set_option maxHeartbeats 2000000 in
theorem l3Word_any {w : World} {v : Value} {ls : List Lab.E} (nm : ByteArray) (h : Lab.Is w v ls) :
    Calls Tryz.prog 156 #[v, .string nm] w fun e w' => e = .returned (.string (wordOf ls nm)) ∧ w' = w := by
  obtain ⟨-, a, cap, rfl, hc, hm, -, hr⟩ := h
  unfold maxLen at hm
  obtain ⟨n, hn⟩ : ∃ n, n = ls.length := ⟨_, rfl⟩
  rw [← hn] at hc hr ⊢
  have HN := hide hn
  clear hn
  obtain ⟨R, hR⟩ : ∃ R, R = wordOf ls nm := ⟨_, rfl⟩
  rw [← hR]
  have HR := hide hR
  clear hR
  go_enter Tryz.func156, Tryz.ntmps156
  go_wp2_with fail
  go_loop [5] (fun i => ∃ k : Nat, k ≤ n ∧ i = .int .i64 k ∧ (ls.take k).find? (fun x => sameS x.1 nm) = none) (fun i => n - (intOf i).toNat)
  case atStart => exact ⟨0, Nat.zero_le _, rfl, rfl⟩
  case round =>
    obtain ⟨k, hk, rfl, hno⟩ := hrel
    have HO := hide hno
    clear hno
    by_cases hlt : k < n
    · obtain ⟨b, off, rfl, hl, hcells⟩ := hr (by omega)
      have fa := Lab.flat_at ls k (by have := unhide HN; omega)
      obtain ⟨A, B, hX⟩ : ∃ A B, (A, B) = Lab.at' ls k := ⟨_, _, rfl⟩
      rw [← hX] at fa
      have hc0 : w.cell? ⟨b, off + k * 2, none⟩ = some (.string A) := hcells (k * 2) _ fa.1
      have hc1 : w.cell? ⟨b, off + k * 2 + 1, none⟩ = some (.string B) := hcells (k * 2 + 1) _ fa.2
      have HX := hide hX
      clear hX fa
      have hk0 : (0 : Int) ≤ (k : Int) := Int.natCast_nonneg _
      have hk1 : (k : Int) < (n : Int) := by omega
      cases hs : sameS A nm
      · have HF := hide (find_none ls nm k (by have := unhide HN; omega) (unhide HO) (by rw [← unhide HX]; exact hs))
        have l1 : (A.toList == nm.toList) = false := hs
        clear hs
        go_wp2_with fail
        go_round
        case rel => exact ⟨k + 1, by omega, by go_num, unhide HF⟩
        case measure => simp [intOf]; omega
      · have HF := hide (show R = B by rw [unhide HR, word_hit ls nm k (by have := unhide HN; omega) (unhide HO) (by rw [← unhide HX]; exact hs), ← unhide HX])
        have e := sameS_iff.1 hs
        subst e
        clear hs
        go_wp2_with fail
        go_ret
        exact ⟨ret_string (unhide HF).symm, rfl⟩
    · have HF := hide (show R = ByteArray.empty by
        rw [unhide HR]
        have := unhide HO
        rw [List.take_of_length_le (by have := unhide HN; omega)] at this
        exact word_miss ls nm this)
      have hkf : decide ((k : Int) < (n : Int)) = false := by simp; omega
      go_wp2_with fail
      go_ret
      exact ⟨ret_string (unhide HF).symm, rfl⟩
theorem is_lets (r x : ByteArray) (q : Bool) (h : sameS x r = q) (w : World) : Calls Tryz.prog 189 #[.string r, .string x] w fun e w' => e = .returned (.bool q) ∧ w' = w := by
  have HH := hide h
  go_enter Tryz.func189, Tryz.ntmps189
  go_wp2
  go_ret
  exact ⟨ret_bool (unhide HH), rfl⟩
theorem not_lets (r x : ByteArray) (q : Bool) (h : sameS x r = q) (w : World) : Calls Tryz.prog 190 #[.string r, .string x] w fun e w' => e = .returned (.bool (!q)) ∧ w' = w := by
  have HH := hide h
  go_enter Tryz.func190, Tryz.ntmps190
  go_wp2
  go_ret
  exact ⟨ret_bool (by rw [← unhide HH]; rfl), rfl⟩
theorem begin_lets (r x : ByteArray) (q : Bool) (h : prefB x r = q) (w : World) : Calls Tryz.prog 191 #[.string r, .string x] w fun e w' => e = .returned (.bool q) ∧ w' = w := by
  have H := hide (show Calls Tryz.prog 192 #[.string x, .string r] w fun e w' => e = .returned (.bool q) ∧ w' = w from by rw [← h]; exact Tryz.strings_HasPrefix x r w)
  go_enter Tryz.func191, Tryz.ntmps191
  go_wp2_with fail
  refine (unhide H).mono ?_
  rintro e w1 ⟨rfl, hw⟩
  subst hw
  go_wp2_with fail
  go_ret
  exact ⟨rfl, rfl⟩
theorem never_lets (r x : ByteArray) (q : Bool) (h : prefB x r = q) (w : World) : Calls Tryz.prog 194 #[.string r, .string x] w fun e w' => e = .returned (.bool (!q)) ∧ w' = w := by
  have H := hide (show Calls Tryz.prog 192 #[.string x, .string r] w fun e w' => e = .returned (.bool q) ∧ w' = w from by rw [← h]; exact Tryz.strings_HasPrefix x r w)
  go_enter Tryz.func194, Tryz.ntmps194
  go_wp2_with fail
  refine (unhide H).mono ?_
  rintro e w1 ⟨rfl, hw⟩
  subst hw
  go_wp2_with fail
  go_ret
  exact ⟨rfl, rfl⟩
end Go.Proofs.YtlboekimnhgfdaaGreat.Mat

/- MatchesLet of the program, at every slice of matches and of labels. -/
namespace Go.Proofs.YtlboekimnhgfdaaGreat.Mat
open Go.RowKit Rw
set_option linter.unusedVariables false
attribute [local go_sem ↓] Go.wp_at_zero Go.wp_at_succ
set_option maxRecDepth 100000 in
set_option maxHeartbeats 2000000 in
theorem impl_let {w : World} {v u : Value} {zs : List E} {ls : List Lab.E} (h : Is w v zs) (h' : Lab.Is w u ls) (hg : ∀ x ∈ zs, good x) (hg' : ∀ x ∈ ls, Lab.good x) (hz : zs.length ≤ maxLen) :
    Calls Tryz.prog 100 #[v, u] w fun e w' => e = .returned (.bool (mlet zs ls)) ∧ Below w.heap.size w w' := by
  have H1 := hide (impl_ok h hg hz)
  have H2 := hide (fun W (hb : Below w.heap.size w W) => Lab.impl_ok (h'.below hb) hg')
  have HU := hide (fun nm W (hb : Below w.heap.size w W) => wordUnder_any nm (h'.below hb))
  obtain ⟨au, cu, eu⟩ : ∃ a c, u = .slice a ls.length c := by obtain ⟨-, a, c, e, -⟩ := h'; exact ⟨a, c, e⟩
  subst eu
  clear h' hg'
  cases ho : ok zs
  · have HR := hide (show mlet zs ls = false by unfold mlet; rw [ho]; rfl)
    rw [ho] at H1
    clear ho
    go_enter Tryz.func100, Tryz.ntmps100
    go_wp2_with fail
    refine (unhide H1).mono ?_
    rintro e w1 ⟨rfl, b1⟩
    go_wp2_with fail
    go_ret
    exact ⟨ret_bool (unhide HR).symm, b1⟩
  rw [ho] at H1
  cases ho' : Lab.ok ls
  · have HR := hide (show mlet zs ls = false by unfold mlet; rw [ho', Bool.and_false]; rfl)
    rw [ho'] at H2
    clear ho ho'
    go_enter Tryz.func100, Tryz.ntmps100
    go_wp2_with fail
    refine (unhide H1).mono ?_
    rintro e w1 ⟨rfl, b1⟩
    go_wp2_with fail
    refine (unhide H2 _ b1).mono ?_
    rintro e w2 ⟨rfl, b2⟩
    have c2 := b1.trans (b2.mono b1.size)
    go_wp2_with fail
    go_ret
    exact ⟨ret_bool (unhide HR).symm, c2⟩
  rw [ho'] at H2
  have HML := hide (show mlet zs ls = lets zs ls by unfold mlet; rw [ho, ho']; rfl)
  have HOK := hide ho
  clear ho ho' hg
  obtain ⟨-, a, cap, rfl, hc, hm, -, hr⟩ := h
  unfold maxLen at hm hz
  obtain ⟨n, hn⟩ : ∃ n, n = zs.length := ⟨_, rfl⟩
  rw [← hn] at hc hr hz H1 ⊢
  have HN := hide hn
  clear hn
  obtain ⟨R, hR⟩ : ∃ R, R = mlet zs ls := ⟨_, rfl⟩
  rw [← hR]
  rw [← hR] at HML
  clear hR
  go_enter Tryz.func100, Tryz.ntmps100
  go_wp2_with fail
  refine (unhide H1).mono ?_
  rintro e w1 ⟨rfl, b1⟩
  go_wp2_with fail
  refine (unhide H2 _ b1).mono ?_
  rintro e w2 ⟨rfl, b2⟩
  have c2 := b1.trans (b2.mono b1.size)
  clear b1 b2 H1 H2
  go_wp2_with fail
  go_loopw [17] (fun i wr => ∃ k : Nat, k ≤ n ∧ i = .int .i64 k ∧ letsTo zs ls k = true ∧ Below w.heap.size w wr) (fun i _ => n - (intOf i).toNat)
  case atStart => exact ⟨0, Nat.zero_le _, rfl, rfl, c2⟩
  case round =>
    clear c2
    obtain ⟨k, hk, rfl, hok, hbel⟩ := hrel
    have HO := hide hok
    clear hok
    have hsz := hbel.size
    by_cases hlt : k < n
    · obtain ⟨b, off, rfl, hl, hcells⟩ := hr (by omega)
      have fa := flat_at zs k (by have := unhide HN; omega)
      have hkd := ok_kind (unhide HOK) (k := k) (by have := unhide HN; omega)
      obtain ⟨KK, A, B, hX⟩ : ∃ K A B, (K, A, B) = at' zs k := ⟨_, _, _, rfl⟩
      rw [← hX] at fa hkd
      have hc0 : wr.cell? ⟨b, off + k * 3, none⟩ = some (.int .i64 KK) := (hbel.cell (p := ⟨b, _, none⟩) hl).trans (hcells (k * 3) _ fa.1)
      have hc1 : wr.cell? ⟨b, off + k * 3 + 1, none⟩ = some (.string A) := (hbel.cell (p := ⟨b, _, none⟩) hl).trans (hcells (k * 3 + 1) _ fa.2.1)
      have hc2 : wr.cell? ⟨b, off + k * 3 + 2, none⟩ = some (.string B) := (hbel.cell (p := ⟨b, _, none⟩) hl).trans (hcells (k * 3 + 2) _ fa.2.2)
      have HX := hide hX
      clear hX fa
      have hk0 : (0 : Int) ≤ (k : Int) := Int.natCast_nonneg _
      have hk1 : (k : Int) < (n : Int) := by omega
      obtain ⟨W, hW⟩ : ∃ W, W = wr.alloc (.cells #[.int .i64 KK, .string A, .string B] 86) := ⟨_, rfl⟩
      have hWb : Below w.heap.size w W := by rw [hW]; exact hbel.alloc hsz _
      have hWs : W.heap.size = wr.heap.size + 1 := by rw [hW]; simp
      have q0 : ∀ x : Cls W.heap.size W, x.val.cell? ⟨wr.heap.size, 0, none⟩ = some (.int .i64 KK) := fun x => by rw [x.cell (by omega), hW]; simp
      have q1 : ∀ x : Cls W.heap.size W, x.val.cell? ⟨wr.heap.size, 1, none⟩ = some (.string A) := fun x => by rw [x.cell (by omega), hW]; simp
      have q2 : ∀ x : Cls W.heap.size W, x.val.cell? ⟨wr.heap.size, 2, none⟩ = some (.string B) := fun x => by rw [x.cell (by omega), hW]; simp
      have HWs := hide hWs
      have HW := hide hW
      clear hW hWs
      have hne := cls_nonempty W.heap.size W
      have HWu := hide (fun (x : Cls W.heap.size W) => unhide HU A x.val (hWb.trans (x.isBelow.mono hWb.size)))
      have HLB := hide (show letB (at' zs k) ls = letB (KK, A, B) ls by rw [← unhide HX])
      obtain ⟨X, hXw⟩ : ∃ X, X = wordOf ls A := ⟨_, rfl⟩
      rw [← hXw] at HWu
      have HXW := hide hXw
      clear hXw
      rcases (show KK = 1 ∨ KK = 2 ∨ KK = 3 ∨ KK = 4 from by have := hkd.1; have := hkd.2; simp only at *; omega) with rfl | rfl | rfl | rfl
      · have HRu := hide (fun X => show Calls Tryz.prog 97 #[.int .i64 1, .string B] X fun e w' => e = .returned (.iface 157 (.string B)) ∧ w' = X from ruleOf_yes 1 B X (by omega) (by omega))
        have hna : ∀ W, (nilAhead 315 157 (.string B) "loop.example/almanack/impl.lets").run Tryz.prog W = .ok (some false) W := fun W => rfl
        have hme : ∀ W, (method 315 157 (.string B) "loop.example/almanack/impl.lets").run Tryz.prog W = .ok (189, .string B) W := fun W => rfl
        clear hkd
        cases hq : sameS X B
        · have HLt := hide (fun W => show Calls Tryz.prog 189 #[.string B, .string X] W fun e w' => e = .returned (.bool false) ∧ w' = W from is_lets B X false hq W)
          have HQ := hide (show letB (at' zs k) ls = false by rw [unhide HLB]; unfold letB; simp only [← unhide HXW]; rw [hq]; rfl)
          have HF := hide (show R = false by rw [unhide HML]; exact lets_no zs ls k (by have := unhide HN; omega) (unhide HQ))
          clear hq
          go_wp2_with fail
          rw [← unhide HW]
          refine region_cls (by kernel_rfl) (by kernel_rfl) ?_
          repeat (go_big_quiet_step ((first | (go_at_call 97; exact cls_same (unhide HRu _)) | (go_at_call 132; exact cls_call (Nat.le_refl _) (unhide HWu _)) | (go_at_call 189; exact cls_same (unhide HLt _)))))
          refine wpQuiet_nil ?_
          rintro wq ⟨⟨_, hq⟩, rfl⟩
          have cq := hWb.trans (hq.mono hWb.size)
          go_wp2
          go_ret
          exact ⟨ret_bool (unhide HF).symm, cq⟩
        · have HLt := hide (fun W => show Calls Tryz.prog 189 #[.string B, .string X] W fun e w' => e = .returned (.bool true) ∧ w' = W from is_lets B X true hq W)
          have HQ := hide (show letB (at' zs k) ls = true by rw [unhide HLB]; unfold letB; simp only [← unhide HXW]; rw [hq]; rfl)
          have HS := hide (show letsTo zs ls (k + 1) = true by rw [letsTo_succ zs ls k (by have := unhide HN; omega), unhide HO, unhide HQ]; rfl)
          clear hq
          go_wp2_with fail
          rw [← unhide HW]
          refine region_cls (by kernel_rfl) (by kernel_rfl) ?_
          repeat (go_big_quiet_step ((first | (go_at_call 97; exact cls_same (unhide HRu _)) | (go_at_call 132; exact cls_call (Nat.le_refl _) (unhide HWu _)) | (go_at_call 189; exact cls_same (unhide HLt _)))))
          refine wpQuiet_nil ?_
          rintro wq ⟨⟨_, hq⟩, rfl⟩
          have cq := hWb.trans (hq.mono hWb.size)
          go_wp2
          go_roundw
          case rel => exact ⟨k + 1, by omega, by go_num, unhide HS, cq⟩
          case measure => simp [intOf]; omega
      · have HRu := hide (fun X => show Calls Tryz.prog 97 #[.int .i64 2, .string B] X fun e w' => e = .returned (.iface 158 (.string B)) ∧ w' = X from ruleOf_yes 2 B X (by omega) (by omega))
        have hna : ∀ W, (nilAhead 315 158 (.string B) "loop.example/almanack/impl.lets").run Tryz.prog W = .ok (some false) W := fun W => rfl
        have hme : ∀ W, (method 315 158 (.string B) "loop.example/almanack/impl.lets").run Tryz.prog W = .ok (190, .string B) W := fun W => rfl
        clear hkd
        cases hq : sameS X B
        · have HLt := hide (fun W => show Calls Tryz.prog 190 #[.string B, .string X] W fun e w' => e = .returned (.bool true) ∧ w' = W from not_lets B X false hq W)
          have HQ := hide (show letB (at' zs k) ls = true by rw [unhide HLB]; unfold letB; simp only [← unhide HXW]; rw [hq]; rfl)
          have HS := hide (show letsTo zs ls (k + 1) = true by rw [letsTo_succ zs ls k (by have := unhide HN; omega), unhide HO, unhide HQ]; rfl)
          clear hq
          go_wp2_with fail
          rw [← unhide HW]
          refine region_cls (by kernel_rfl) (by kernel_rfl) ?_
          repeat (go_big_quiet_step ((first | (go_at_call 97; exact cls_same (unhide HRu _)) | (go_at_call 132; exact cls_call (Nat.le_refl _) (unhide HWu _)) | (go_at_call 190; exact cls_same (unhide HLt _)))))
          refine wpQuiet_nil ?_
          rintro wq ⟨⟨_, hq⟩, rfl⟩
          have cq := hWb.trans (hq.mono hWb.size)
          go_wp2
          go_roundw
          case rel => exact ⟨k + 1, by omega, by go_num, unhide HS, cq⟩
          case measure => simp [intOf]; omega
        · have HLt := hide (fun W => show Calls Tryz.prog 190 #[.string B, .string X] W fun e w' => e = .returned (.bool false) ∧ w' = W from not_lets B X true hq W)
          have HQ := hide (show letB (at' zs k) ls = false by rw [unhide HLB]; unfold letB; simp only [← unhide HXW]; rw [hq]; rfl)
          have HF := hide (show R = false by rw [unhide HML]; exact lets_no zs ls k (by have := unhide HN; omega) (unhide HQ))
          clear hq
          go_wp2_with fail
          rw [← unhide HW]
          refine region_cls (by kernel_rfl) (by kernel_rfl) ?_
          repeat (go_big_quiet_step ((first | (go_at_call 97; exact cls_same (unhide HRu _)) | (go_at_call 132; exact cls_call (Nat.le_refl _) (unhide HWu _)) | (go_at_call 190; exact cls_same (unhide HLt _)))))
          refine wpQuiet_nil ?_
          rintro wq ⟨⟨_, hq⟩, rfl⟩
          have cq := hWb.trans (hq.mono hWb.size)
          go_wp2
          go_ret
          exact ⟨ret_bool (unhide HF).symm, cq⟩
      · have HRu := hide (fun X => show Calls Tryz.prog 97 #[.int .i64 3, .string B] X fun e w' => e = .returned (.iface 159 (.string B)) ∧ w' = X from ruleOf_yes 3 B X (by omega) (by omega))
        have hna : ∀ W, (nilAhead 315 159 (.string B) "loop.example/almanack/impl.lets").run Tryz.prog W = .ok (some false) W := fun W => rfl
        have hme : ∀ W, (method 315 159 (.string B) "loop.example/almanack/impl.lets").run Tryz.prog W = .ok (191, .string B) W := fun W => rfl
        clear hkd
        cases hq : prefB X B
        · have HLt := hide (fun W => show Calls Tryz.prog 191 #[.string B, .string X] W fun e w' => e = .returned (.bool false) ∧ w' = W from begin_lets B X false hq W)
          have HQ := hide (show letB (at' zs k) ls = false by rw [unhide HLB]; unfold letB; simp only [← unhide HXW]; rw [hq]; rfl)
          have HF := hide (show R = false by rw [unhide HML]; exact lets_no zs ls k (by have := unhide HN; omega) (unhide HQ))
          clear hq
          go_wp2_with fail
          rw [← unhide HW]
          refine region_cls (by kernel_rfl) (by kernel_rfl) ?_
          repeat (go_big_quiet_step ((first | (go_at_call 97; exact cls_same (unhide HRu _)) | (go_at_call 132; exact cls_call (Nat.le_refl _) (unhide HWu _)) | (go_at_call 191; exact cls_same (unhide HLt _)))))
          refine wpQuiet_nil ?_
          rintro wq ⟨⟨_, hq⟩, rfl⟩
          have cq := hWb.trans (hq.mono hWb.size)
          go_wp2
          go_ret
          exact ⟨ret_bool (unhide HF).symm, cq⟩
        · have HLt := hide (fun W => show Calls Tryz.prog 191 #[.string B, .string X] W fun e w' => e = .returned (.bool true) ∧ w' = W from begin_lets B X true hq W)
          have HQ := hide (show letB (at' zs k) ls = true by rw [unhide HLB]; unfold letB; simp only [← unhide HXW]; rw [hq]; rfl)
          have HS := hide (show letsTo zs ls (k + 1) = true by rw [letsTo_succ zs ls k (by have := unhide HN; omega), unhide HO, unhide HQ]; rfl)
          clear hq
          go_wp2_with fail
          rw [← unhide HW]
          refine region_cls (by kernel_rfl) (by kernel_rfl) ?_
          repeat (go_big_quiet_step ((first | (go_at_call 97; exact cls_same (unhide HRu _)) | (go_at_call 132; exact cls_call (Nat.le_refl _) (unhide HWu _)) | (go_at_call 191; exact cls_same (unhide HLt _)))))
          refine wpQuiet_nil ?_
          rintro wq ⟨⟨_, hq⟩, rfl⟩
          have cq := hWb.trans (hq.mono hWb.size)
          go_wp2
          go_roundw
          case rel => exact ⟨k + 1, by omega, by go_num, unhide HS, cq⟩
          case measure => simp [intOf]; omega
      · have HRu := hide (fun X => show Calls Tryz.prog 97 #[.int .i64 4, .string B] X fun e w' => e = .returned (.iface 160 (.string B)) ∧ w' = X from ruleOf_yes 4 B X (by omega) (by omega))
        have hna : ∀ W, (nilAhead 315 160 (.string B) "loop.example/almanack/impl.lets").run Tryz.prog W = .ok (some false) W := fun W => rfl
        have hme : ∀ W, (method 315 160 (.string B) "loop.example/almanack/impl.lets").run Tryz.prog W = .ok (194, .string B) W := fun W => rfl
        clear hkd
        cases hq : prefB X B
        · have HLt := hide (fun W => show Calls Tryz.prog 194 #[.string B, .string X] W fun e w' => e = .returned (.bool true) ∧ w' = W from never_lets B X false hq W)
          have HQ := hide (show letB (at' zs k) ls = true by rw [unhide HLB]; unfold letB; simp only [← unhide HXW]; rw [hq]; rfl)
          have HS := hide (show letsTo zs ls (k + 1) = true by rw [letsTo_succ zs ls k (by have := unhide HN; omega), unhide HO, unhide HQ]; rfl)
          clear hq
          go_wp2_with fail
          rw [← unhide HW]
          refine region_cls (by kernel_rfl) (by kernel_rfl) ?_
          repeat (go_big_quiet_step ((first | (go_at_call 97; exact cls_same (unhide HRu _)) | (go_at_call 132; exact cls_call (Nat.le_refl _) (unhide HWu _)) | (go_at_call 194; exact cls_same (unhide HLt _)))))
          refine wpQuiet_nil ?_
          rintro wq ⟨⟨_, hq⟩, rfl⟩
          have cq := hWb.trans (hq.mono hWb.size)
          go_wp2
          go_roundw
          case rel => exact ⟨k + 1, by omega, by go_num, unhide HS, cq⟩
          case measure => simp [intOf]; omega
        · have HLt := hide (fun W => show Calls Tryz.prog 194 #[.string B, .string X] W fun e w' => e = .returned (.bool false) ∧ w' = W from never_lets B X true hq W)
          have HQ := hide (show letB (at' zs k) ls = false by rw [unhide HLB]; unfold letB; simp only [← unhide HXW]; rw [hq]; rfl)
          have HF := hide (show R = false by rw [unhide HML]; exact lets_no zs ls k (by have := unhide HN; omega) (unhide HQ))
          clear hq
          go_wp2_with fail
          rw [← unhide HW]
          refine region_cls (by kernel_rfl) (by kernel_rfl) ?_
          repeat (go_big_quiet_step ((first | (go_at_call 97; exact cls_same (unhide HRu _)) | (go_at_call 132; exact cls_call (Nat.le_refl _) (unhide HWu _)) | (go_at_call 194; exact cls_same (unhide HLt _)))))
          refine wpQuiet_nil ?_
          rintro wq ⟨⟨_, hq⟩, rfl⟩
          have cq := hWb.trans (hq.mono hWb.size)
          go_wp2
          go_ret
          exact ⟨ret_bool (unhide HF).symm, cq⟩
    · have HF := hide (show R = true by rw [unhide HML]; exact lets_all zs ls (by rw [← unhide HN, show n = k from by omega]; exact unhide HO))
      go_wp2_with fail
      go_ret
      exact ⟨ret_bool (unhide HF).symm, hbel⟩
end Go.Proofs.YtlboekimnhgfdaaGreat.Mat

/- RowsAsk of the program. -/
namespace Go.Proofs.YtlboekimnhgfdaaGreat.Row
open Go.RowKit Rw
set_option linter.unusedVariables false
attribute [local go_sem ↓] Go.wp_at_zero Go.wp_at_succ
def askG (ms : List Mat.E) (f t : Int) (x : E) : List Sam.E := if Mat.mlet ms x.1 = true then Samp.cutL x.2 f t else []
def ask (ms : List Mat.E) (f t : Int) (zs : List E) : List E := if ok zs = true then outL (askG ms f t) zs else []
theorem own_nil (lo : Nat) (w : World) : Own lo w.heap.size w (.slice none 0 0) [] := ⟨[], rfl, World.ownsRow_nil _ _ _ _, fun k hk => (by cases hk), Nat.le_refl _, fun i j _ h => absurd h (Nat.not_lt_zero _), fun i j _ h => absurd h (Nat.not_lt_zero _), fun i h => absurd h (Nat.not_lt_zero _)⟩
theorem outL_len (g : E → List Sam.E) (zs : List E) : (outL g zs).length ≤ zs.length := by
  unfold outL
  induction zs with
  | nil => simp
  | cons x zs ih =>
    rw [List.flatMap_cons, List.length_append, List.length_cons]
    split
    · rw [List.length_nil]; omega
    · rw [List.length_cons, List.length_nil]; omega
theorem outL_sorted {g : E → List Sam.E} {zs : List E} (h : ok zs = true) : ∀ k, k ≤ zs.length → Sorted (outL g (zs.take k))
  | 0, _ => by simp [outL, Sorted]
  | k + 1, hk => by
    rw [outL_snoc g zs k (by omega)]
    split
    · rw [List.append_nil]; exact outL_sorted h k (by omega)
    · exact (outL_sorted h k (by omega)).snoc (outL_ahead h (by omega))
theorem outL_ok {g : E → List Sam.E} {zs : List E} (h : ok zs = true) {k : Nat} (hk : k ≤ zs.length) : ∀ y ∈ outL g (zs.take k), Lab.ok y.1 = true := by
  intro y hy
  obtain ⟨i, hi, e, -⟩ := outL_mem hk hy
  rw [e]
  exact (step_is (ok_at h (by omega))).1
theorem smp_of_lies {w : World} {v : Value} {zs : List Sam.E} (h : Sam.Is w v zs) (h0 : zs ≠ []) : Samp.Smp w v zs := by
  obtain ⟨-, a, cap, rfl, hc, hm, -, hr⟩ := h
  obtain ⟨b, off, rfl, hl, hcells⟩ := hr (List.length_pos_iff.2 h0)
  exact .inr ⟨b, off, cap, rfl, hc, hm, hl, Sam.reads_of hcells⟩
set_option maxRecDepth 100000 in
set_option maxHeartbeats 8000000 in
theorem impl_ask {w : World} {v u : Value} {zs : List E} {ms : List Mat.E} (f t : Int) (h : Is w v zs) (hm : Mat.Is w u ms) (hg : ∀ x ∈ zs, good x) (hlen : zs.length ≤ maxLen) (hmg : ∀ x ∈ ms, Mat.good x) (hml : ms.length ≤ maxLen) :
    Calls Tryz.prog 65 #[v, u, .int .i64 f, .int .i64 t] w fun e w' => ∃ r, e = .returned r ∧ Own w.heap.size w'.heap.size w' r (ask ms f t zs) ∧ Below w.heap.size w w' := by
  have HO := hide (impl_ok h hg hlen)
  obtain ⟨au, nu, cu, eu⟩ : ∃ a n c, u = .slice a n c := by obtain ⟨-, a, c, e, -⟩ := hm; exact ⟨a, _, c, e⟩
  subst eu
  cases hok : ok zs
  · have HR := hide (show ask ms f t zs = [] by unfold ask; rw [hok]; rfl)
    rw [hok] at HO
    clear h hm hg hmg hok
    go_enter Tryz.func65, Tryz.ntmps65
    go_wp2_with fail
    refine (unhide HO).mono ?_
    rintro e w1 ⟨rfl, b1⟩
    go_wp2_with fail
    go_ret
    exact ⟨_, rfl, by rw [unhide HR]; have := own_nil w.heap.size w1; exact this, b1⟩
  have HR := hide (show ask ms f t zs = outL (askG ms f t) zs by unfold ask; rw [hok]; rfl)
  rw [hok] at HO
  have HOK := hide hok
  have hn10 := ok_len hok
  have HLet := hide (fun W (hb : Below w.heap.size w W) (lv : Value) (ls : List Lab.E) (hl : Lab.Is W lv ls) (hlg : ∀ x ∈ ls, Lab.good x) => Mat.impl_let (hm.below hb) hl hmg hlg hml)
  obtain ⟨cs, hcs, hL, hE⟩ := h
  have HE := hide hE
  have HG := hide hg
  obtain ⟨-, a, cap, rfl, hc, hmx, -, hr⟩ := hL
  unfold maxLen at hmx
  obtain ⟨l, hl⟩ : ∃ l, l = zs.length := ⟨_, rfl⟩
  rw [← hl] at hc hr hcs hn10 HO ⊢
  have HN := hide hl
  have HC := hide hcs
  clear hl hE hcs hg hm hmg hok hlen hml
  go_enter Tryz.func65, Tryz.ntmps65
  go_wp2_with fail
  refine (unhide HO).mono ?_
  rintro e w1 ⟨rfl, b1⟩
  go_wp2_with fail
  refine (RSet.new_any w1).mono ?_
  rintro e w2 ⟨mb, rfl, hmb, hM2, b2⟩
  have z1 := b1.size
  have z2 := b2.size
  go_wp2_with fail
  obtain ⟨wa, hwa⟩ : ∃ wa, wa = w2.alloc (.cells #[.slice none 0 0, .map (some mb)] 99) := ⟨_, rfl⟩
  rw [← hwa]
  have ba : Below w2.heap.size w2 wa := by rw [hwa]; exact (Below.refl _ _).alloc (Nat.le_refl _) _
  have za : wa.heap.size = w2.heap.size + 1 := by rw [hwa]; simp
  have bwa : Below w.heap.size w wa := (b1.trans (b2.mono z1)).trans (ba.mono (by omega))
  have hmlt := hM2.lt
  have hB0 : RSet.Built w.heap.size w2.heap.size mb 0 wa (outL (askG ms f t) (zs.take 0)) := ⟨fun _ => none, fun _ => ([], []), ⟨by omega, by omega, by omega, by omega, ⟨.slice none 0 0, by rw [hwa]; simp [go_sem], World.ownsRow_nil _ _ _ _, fun k hk => by cases hk⟩, by rw [hwa]; simp [go_sem], by rw [hwa]; simp [go_sem], hM2.below ba, fun k => by simp [outL], fun k c hc => (by cases hc), fun k k' c c' _ hc => (by cases hc)⟩, by simp [outL]⟩
  have HB0 := hide hB0
  have hmlt' : mb < wa.heap.size := by omega
  have hlows : w.heap.size ≤ w2.heap.size := by omega
  have hlowm : w.heap.size ≤ mb := by omega
  generalize hBB : w2.heap.size = B at *
  have hBl : B < wa.heap.size := by omega
  have HBm := hide (show B ≠ mb by omega)
  clear hwa hB0 ba hM2 hBB b1 b2 HO
  go_loopw [18] (fun i wr => ∃ (k n : Nat), k ≤ l ∧ i = .int .i64 k ∧ n ≤ k ∧ Hid (RSet.Built w.heap.size B mb n wr (outL (askG ms f t) (zs.take k))) ∧ RSet.Two B mb wa wr) (fun i _ => l - (intOf i).toNat)
  case atStart => exact ⟨0, 0, Nat.zero_le _, rfl, Nat.le_refl _, HB0, RSet.Two.refl _ _ _⟩
  case round =>
    obtain ⟨k, n, hk, rfl, hnk, HB, h2⟩ := hrel
    have hsz := h2.size
    have hbel : Below w.heap.size w wr := bwa.trans (h2.below hlows hlowm (by omega))
    by_cases hlt : k < l
    · obtain ⟨b, off, rfl, hbl, hcells⟩ := hr (by omega)
      have fa := flat_at cs k (by have := unhide HC; omega)
      have hc0 : wr.cell? ⟨b, off + k * 2, none⟩ = some (cat cs k).1 := (hbel.cell (p := ⟨b, _, none⟩) hbl).trans (hcells (k * 2) _ fa.1)
      have hc1 : wr.cell? ⟨b, off + k * 2 + 1, none⟩ = some (cat cs k).2 := (hbel.cell (p := ⟨b, _, none⟩) hbl).trans (hcells (k * 2 + 1) _ fa.2)
      have hkz : k < zs.length := by have := unhide HN; omega
      have hEk := unhide HE k hkz
      have hgk := unhide HG (at' zs k) (at_mem zs k hkz)
      have hst := step_is (ok_at (unhide HOK) hkz)
      have hsn := outL_snoc (askG ms f t) zs k hkz
      have hah := outL_ahead (g := askG ms f t) (unhide HOK) hkz
      have hol := outL_len (askG ms f t) (zs.take k)
      rw [List.length_take] at hol
      obtain ⟨⟨ls, xs⟩, hX⟩ : ∃ x, x = at' zs k := ⟨_, rfl⟩
      rw [← hX] at hEk hgk hst hsn hah
      simp only at hst hah
      obtain ⟨c0, c1, hY⟩ : ∃ c0 c1, (c0, c1) = cat cs k := ⟨_, _, rfl⟩
      rw [← hY] at hc0 hc1 hEk
      have hE1 : Lab.Is w c0 ls := hEk.1
      have hE2 : Sam.Is w c1 xs := hEk.2
      obtain ⟨-, a0, q0, e0, -⟩ := hE1
      obtain ⟨-, a1, q1, e1, -⟩ := hE2
      have hE1 : Lab.Is w c0 ls := hEk.1
      have hE2 : Sam.Is w c1 xs := hEk.2
      clear fa hEk hX hY
      have hxne : xs ≠ [] := fun e => by rw [e] at hst; simp at hst
      have hk0 : (0 : Int) ≤ (k : Int) := Int.natCast_nonneg _
      have hk1 : (k : Int) < (l : Int) := by omega
      have hWf : ∀ o, Below wr.heap.size wr (wr.alloc o) := fun o => (Below.refl _ _).alloc (Nat.le_refl _) _
      cases hlet : Mat.mlet ms ls
      · have hg0 : askG ms f t (ls, xs) = [] := by unfold askG; rw [hlet]; rfl
        rw [hg0, if_pos rfl, List.append_nil] at hsn
        have HB' := hide (fun W (hb : Below wr.heap.size wr W) => show RSet.Built w.heap.size B mb n W (outL (askG ms f t) (zs.take (k + 1))) by rw [hsn]; exact (unhide HB).below hb)
        have HL := hide (fun W (hb : Below w.heap.size w W) => unhide HLet W hb c0 ls (hE1.below hb) hgk.1.2)
        rw [hlet] at HL
        clear hlet hgk hst hsn hah hg0 hE1 hE2
        subst e0 e1
        go_wp2_with fail
        obtain ⟨W, hW⟩ : ∃ W, W = wr.alloc (.cells #[.slice a0 ls.length q0, .slice a1 xs.length q1] 93) := ⟨_, rfl⟩
        rw [← hW]
        have bW : Below wr.heap.size wr W := by rw [hW]; exact hWf _
        clear hW
        refine (unhide HL W (hbel.trans (bW.mono (by omega)))).mono ?_
        rintro e w3 ⟨rfl, b3⟩
        have b4 := bW.trans (b3.mono bW.size)
        have HB2 := hide (unhide HB' w3 b4)
        clear HB' HL
        go_wp2_with fail
        go_roundw
        case rel => exact ⟨k + 1, n, by omega, by go_num, by omega, HB2, h2.trans (RSet.Two.of_below b4)⟩
        case measure => simp [intOf]; omega
      · have hgG : askG ms f t (ls, xs) = Samp.cutL xs f t := by unfold askG; rw [hlet]; rfl
        rw [hgG] at hsn
        have HL := hide (fun W (hb : Below w.heap.size w W) => unhide HLet W hb c0 ls (hE1.below hb) hgk.1.2)
        rw [hlet] at HL
        have hce : Samp.cut xs f t = Samp.cutL xs f t := by unfold Samp.cut; rw [hst.2.2.2]; rfl
        have HCut := hide (fun W (hb : Below w.heap.size w W) => Samp.impl_cut f t (smp_of_lies (hE2.below hb) hxne) (by omega))
        rw [hce] at HCut
        have hcok : SampMath.ok (Samp.cutL xs f t) = true := Samp.ok_filter hst.2.2.2 _
        have hcl : (Samp.cutL xs f t).length ≤ 1000 := Nat.le_trans (List.length_filter_le _ _) hst.2.2.1
        have hob : wr.heap.size ≠ B ∧ wr.heap.size ≠ mb := ⟨by omega, by omega⟩
        have HG1 := hide hgk.1.2
        have HO1 := hide hst.1
        have HE1 := hide hE1
        have HAh := hide hah
        have HLen := hide hol
        have HCok := hide (And.intro hcok hcl)
        have HSn := hide hsn
        clear hlet hgk hst hgG hsn hah hE1 hE2 hcok hcl hce hol hxne
        obtain ⟨D, hD⟩ : ∃ D, D = Samp.cutL xs f t := ⟨_, rfl⟩
        rw [← hD] at HCut HCok HSn
        clear hD
        obtain ⟨m, hm⟩ : ∃ m, m = D.length := ⟨_, rfl⟩
        rw [← hm] at HCut
        have HM := hide hm
        clear hm
        subst e0 e1
        go_wp2_with fail
        obtain ⟨W, hW⟩ : ∃ W, W = wr.alloc (.cells #[.slice a0 ls.length q0, .slice a1 xs.length q1] 93) := ⟨_, rfl⟩
        rw [← hW]
        have bW : Below wr.heap.size wr W := by rw [hW]; exact hWf _
        have zW : W.heap.size = wr.heap.size + 1 := by rw [hW]; simp
        have y0 : W.cell? ⟨wr.heap.size, 0, none⟩ = some (.slice a0 ls.length q0) := by rw [hW]; simp [go_sem]
        have y1 : W.cell? ⟨wr.heap.size, 1, none⟩ = some (.slice a1 xs.length q1) := by rw [hW]; simp [go_sem]
        clear hW
        refine (unhide HL W (hbel.trans (bW.mono (by omega)))).mono ?_
        rintro e w3 ⟨rfl, b3⟩
        have z3 := b3.size
        have b4 := bW.trans (b3.mono bW.size)
        have b5 : Below wr.heap.size wr w3.drew := b4.drew
        have S6 : (fun W : World => W.cell? ⟨wr.heap.size, 0, none⟩ = some (.slice a0 ls.length q0) ∧ W.cell? ⟨wr.heap.size, 1, none⟩ = some (.slice a1 xs.length q1)) w3.drew := ⟨by simpa using (b3.cell (p := ⟨wr.heap.size, 0, none⟩) (by show wr.heap.size < _; omega)).trans y0, by simpa using (b3.cell (p := ⟨wr.heap.size, 1, none⟩) (by show wr.heap.size < _; omega)).trans y1⟩
        have HC6 := hide (unhide HCut w3.drew (hbel.trans (b5.mono (by omega))))
        clear HL HCut y0 y1 b3 bW
        by_cases h0 : m = 0
        · subst h0
          have hDn : D = [] := List.eq_nil_of_length_eq_zero (unhide HM).symm
          have HB2 := hide (fun W (hb : Below wr.heap.size wr W) => show RSet.Built w.heap.size B mb n W (outL (askG ms f t) (zs.take (k + 1))) by rw [unhide HSn, if_pos hDn, List.append_nil]; exact (unhide HB).below hb)
          clear hDn HB
          go_wp2_with fail
          go_region_held3 (fun W => W.cell? ⟨wr.heap.size, 0, none⟩ = some (.slice a0 ls.length q0) ∧ W.cell? ⟨wr.heap.size, 1, none⟩ = some (.slice a1 xs.length q1)) (first | exact S6 | exact S7) ((first | (go_at_call 102; refine (unhide HC6).mono ?_; rintro e w7 ⟨cv, rfl, oc, b7⟩; obtain ⟨ca, cq, rfl⟩ : ∃ a q, cv = .slice a 0 q := (by obtain ⟨-, a, q, e, -⟩ := lies_of_own oc; exact ⟨a, q, e⟩); have S7 : (fun W : World => W.cell? ⟨wr.heap.size, 0, none⟩ = some (.slice a0 ls.length q0) ∧ W.cell? ⟨wr.heap.size, 1, none⟩ = some (.slice a1 xs.length q1)) w7 := ⟨(b7.cell (p := ⟨_, _, none⟩) (by show wr.heap.size < _; simp; omega)).trans S6.1, (b7.cell (p := ⟨_, _, none⟩) (by show wr.heap.size < _; simp; omega)).trans S6.2⟩) | (go_at_call 101; refine (RSet.put_none _ _ _ _).mono ?_; rintro e w8 ⟨rfl, hw8⟩; subst hw8)))
          have b8 := b5.trans (b7.mono b5.size)
          have HB3 := hide (unhide HB2 _ b8)
          clear S6 S7 HC6 HB2 oc b7
          go_wp2_with fail
          go_roundw
          case rel => exact ⟨k + 1, n, by omega, by go_num, by omega, HB3, h2.trans (RSet.Two.of_below b8)⟩
          case measure => simp [intOf]; omega
        · have HPut := hide (fun (W : World) (hb : Below wr.heap.size wr W) (ca : Option Addr) (cq : Nat) (hs : Samp.Smp W (.slice ca m cq) D) => RSet.built_new ((unhide HB).below hb) (by have := unhide HLen; omega) (by omega) (unhide HAh) ((unhide HE1).below (hbel.trans (hb.mono (by omega)))) (unhide HG1) (unhide HO1) hs (unhide HM).symm (unhide HCok).1 (by omega) (by have := (unhide HCok).2; have := unhide HM; omega) (by have := hb.size; omega))
          have HSn2 := hide (show outL (askG ms f t) (zs.take (k + 1)) = outL (askG ms f t) (zs.take k) ++ [(ls, D)] by rw [unhide HSn, if_neg (fun e => h0 (by rw [unhide HM, e]; rfl))])
          clear HB
          go_wp2_with fail
          go_region_held3 (fun W => W.cell? ⟨wr.heap.size, 0, none⟩ = some (.slice a0 ls.length q0) ∧ W.cell? ⟨wr.heap.size, 1, none⟩ = some (.slice a1 xs.length q1)) (first | exact S6 | exact S7 | exact S8) ((first | (go_at_call 102; refine (unhide HC6).mono ?_; rintro e w7 ⟨cv, rfl, oc, b7⟩; obtain ⟨ca, cq, rfl⟩ : ∃ a q, cv = .slice a m q := (by obtain ⟨-, a, q, e, -⟩ := lies_of_own oc; exact ⟨a, q, e⟩); have z7 := b7.size; simp only [World.size_drew] at z7; have S7 : (fun W : World => W.cell? ⟨wr.heap.size, 0, none⟩ = some (.slice a0 ls.length q0) ∧ W.cell? ⟨wr.heap.size, 1, none⟩ = some (.slice a1 xs.length q1)) w7 := ⟨(b7.cell (p := ⟨_, _, none⟩) (by show wr.heap.size < _; simp; omega)).trans S6.1, (b7.cell (p := ⟨_, _, none⟩) (by show wr.heap.size < _; simp; omega)).trans S6.2⟩) | (go_at_call 101; refine (unhide HPut _ (b5.trans (b7.mono b5.size)) ca cq (Samp.smp_of_own (by rw [← unhide HM]; exact oc))).mono ?_; rintro e w8 ⟨rfl, hB8, t8⟩; have S8 : (fun W : World => W.cell? ⟨wr.heap.size, 0, none⟩ = some (.slice a0 ls.length q0) ∧ W.cell? ⟨wr.heap.size, 1, none⟩ = some (.slice a1 xs.length q1)) w8 := ⟨(t8.cell (by omega) hob.1 hob.2).trans S7.1, (t8.cell (by omega) hob.1 hob.2).trans S7.2⟩)))
          have b8 := b5.trans (b7.mono b5.size)
          have HB3 := hide (show RSet.Built w.heap.size B mb (n + 1) w8 (outL (askG ms f t) (zs.take (k + 1))) by rw [unhide HSn2]; exact hB8)
          have t9 := (h2.trans (RSet.Two.of_below b8)).trans t8
          clear S6 S7 S8 HC6 HPut oc b7 t8 hB8
          go_wp2_with fail
          go_roundw
          case rel => exact ⟨k + 1, n + 1, by omega, by go_num, by omega, HB3, t9⟩
          case measure => simp [intOf]; omega
    · obtain rfl : k = l := by omega
      have hkz : k = zs.length := unhide HN
      have HRw := hide (RSet.built_rows (unhide HB) (outL_sorted (unhide HOK) k (by omega)) (by have := outL_len (askG ms f t) (zs.take k); rw [List.length_take] at this; omega) (outL_ok (unhide HOK) (by omega)) (by omega))
      have HT := hide (show outL (askG ms f t) (zs.take k) = ask ms f t zs by rw [unhide HR, List.take_of_length_le (by omega)])
      rw [unhide HT] at HRw
      clear hkz HB
      go_wp2_with fail
      refine (unhide HRw).mono ?_
      rintro e w9 ⟨r, rfl, ho, b9⟩
      have hb9 := hbel.trans (b9.mono (by omega))
      have HO9 := hide ho
      clear ho b9 HRw
      go_wp2_with fail
      go_ret
      exact ⟨r, rfl, unhide HO9, hb9⟩
end Go.Proofs.YtlboekimnhgfdaaGreat.Row
