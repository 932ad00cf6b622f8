/- My own texts of one claim, laid together by program: RowAt, AskCnt, TopCnt, RowAdd. -/
import Derived.Test.YtlboekimnhgfdaaGreatG7e0030f2cd
import Derived.Test.YtlboekimnhgfdaaGreatG7c8bd49666
import Derived.Test.YtlboekimnhgfdaaGreatG4d8bebc498
import Derived.Test.YtlboekimnhgfdaaGreatGd47510abb1
import Derived.Test.YtlboekimnhgfdaaGreatG64716018ab
import Derived.Test.YtlboekimnhgfdaaGreatGd75299acc4
import Derived.Test.YtlboekimnhgfdaaGreatG817021f609
import Derived.Test.YtlboekimnhgfdaaGreatG60f458fe67
/- Where labels come among rows: the model's l5At. -/
namespace Go.Proofs.YtlboekimnhgfdaaGreat.Row
open Go.RowKit Rw
set_option linter.unusedVariables false
attribute [local go_sem ↓] Go.wp_at_zero Go.wp_at_succ
/-- the first place whose labels do not stand ahead -/
def place : List E → List Lab.E → Nat
  | [], _ => 0
  | y :: L, ls => if Lab.cmpL y.1 ls < 0 then place L ls + 1 else 0
def there (L : List E) (ls : List Lab.E) : Bool := decide (place L ls < L.length) && decide (Lab.cmpL (at' L (place L ls)).1 ls = 0)
theorem place_le : ∀ (L : List E) (ls : List Lab.E), place L ls ≤ L.length
  | [], _ => Nat.le_refl _
  | y :: L, ls => by
    rw [place]
    split
    · have := place_le L ls; simp only [List.length_cons]; omega
    · exact Nat.zero_le _
theorem place_lt : ∀ (L : List E) (ls : List Lab.E) (i : Nat), i < place L ls → Lab.cmpL (at' L i).1 ls < 0
  | [], _, i, h => by simp [place] at h
  | y :: L, ls, i, h => by
    rw [place] at h
    split at h
    · rename_i hc
      cases i with
      | zero => exact hc
      | succ i => exact place_lt L ls i (by omega)
    · omega
theorem place_stop : ∀ (L : List E) (ls : List Lab.E), place L ls = L.length ∨ ¬ Lab.cmpL (at' L (place L ls)).1 ls < 0
  | [], _ => .inl rfl
  | y :: L, ls => by
    rw [place]
    split
    · rcases place_stop L ls with h | h
      · left; simp only [List.length_cons]; omega
      · right; exact h
    · rename_i hc; right; exact hc
theorem place_is {L : List E} {ls : List Lab.E} {k : Nat} (hk : k ≤ L.length) (h1 : ∀ i, i < k → Lab.cmpL (at' L i).1 ls < 0) (h2 : k = L.length ∨ ¬ Lab.cmpL (at' L k).1 ls < 0) : place L ls = k := by
  rcases Nat.lt_trichotomy (place L ls) k with h | h | h
  · rcases place_stop L ls with e | e
    · omega
    · exact absurd (h1 _ h) e
  · exact h
  · rcases h2 with e | e
    · have := place_le L ls; omega
    · exact absurd (place_lt L ls k h) e
theorem ins_place (L : List E) (x : E) : ins L x = if there L x.1 = true then (jn (at' L (place L x.1)) x.2).map (fun y => L.take (place L x.1) ++ y :: L.drop (place L x.1 + 1)) else some (L.take (place L x.1) ++ x :: L.drop (place L x.1)) := by
  rw [ins_at (place L x.1) (place_le _ _) (place_lt _ _) (place_stop _ _)]
  unfold there
  simp only [Bool.and_eq_true, decide_eq_true_eq]
set_option maxRecDepth 100000 in
set_option maxHeartbeats 4000000 in
theorem l5at {w : World} {v u : Value} {zs : List E} {ls : List Lab.E} (h : Is w v zs) (h' : Lab.Is w u ls) (hlen : zs.length ≤ 1000) :
    Calls Tryz.prog 145 #[v, u] w fun e w' => e = .returned (.tuple #[.int .i64 (place zs ls : Int), .bool (there zs ls)]) ∧ Below w.heap.size w w' := by
  obtain ⟨cs, hcs, hL, hE⟩ := h
  have HE := hide hE
  have HU := hide h'
  obtain ⟨-, au, qu, eu, -⟩ := h'
  obtain ⟨-, a, cap, rfl, hc, hmx, -, hr⟩ := hL
  unfold maxLen at hmx
  obtain ⟨l, hl⟩ : ∃ l, l = zs.length := ⟨_, rfl⟩
  rw [← hl] at hc hr hcs hlen ⊢
  have HN := hide hl
  have HC := hide hcs
  clear hl hE hcs
  go_enter Tryz.func145, Tryz.ntmps145
  go_wp2_with fail
  go_loopw [6] (fun i wr => ∃ k : Nat, k ≤ l ∧ i = .int .i64 k ∧ Hid (∀ i, i < k → Lab.cmpL (at' zs i).1 ls < 0) ∧ Below w.heap.size w wr) (fun i _ => l - (intOf i).toNat)
  case atStart => exact ⟨0, Nat.zero_le _, rfl, fun i h => absurd h (Nat.not_lt_zero _), Below.refl _ _⟩
  case round =>
    obtain ⟨k, hk, rfl, HP, hbel⟩ := hrel
    have hsz := hbel.size
    have hk0 : (0 : Int) ≤ (k : Int) := Int.natCast_nonneg _
    by_cases hlt : k < l
    · obtain ⟨b, off, rfl, hbl, hcells⟩ := hr (by omega)
      have fa := flat_at cs k (by have := unhide HC; omega)
      have hkz : k < zs.length := by have := unhide HN; omega
      have hEk := unhide HE k hkz
      have hc0 : wr.cell? ⟨b, off + k * 2, none⟩ = some (cat cs k).1 := (hbel.cell (p := ⟨b, _, none⟩) hbl).trans (hcells (k * 2) _ fa.1)
      obtain ⟨c0, hY⟩ : ∃ c0, c0 = (cat cs k).1 := ⟨_, rfl⟩
      rw [← hY] at hc0
      have hE1 : Lab.Is w c0 (at' zs k).1 := by rw [hY]; exact hEk.1
      have HCm := hide (fun W (hb : Below w.heap.size w W) => Lab.l3Cmp_any (hE1.below hb) ((unhide HU).below hb))
      obtain ⟨-, a0, q0, e0, -⟩ := hE1
      generalize (at' zs k).1.length = ll at e0
      have hrng := Lab.cmpL_range (at' zs k).1 ls
      have HNext := hide (fun (h : Lab.cmpL (at' zs k).1 ls < 0) => show ∀ i, i < k + 1 → Lab.cmpL (at' zs i).1 ls < 0 from fun i hi => by rcases Nat.lt_or_eq_of_le (Nat.le_of_lt_succ hi) with h' | h'; exact unhide HP i h'; rw [h']; exact h)
      have HStop := hide (fun (h : ¬ Lab.cmpL (at' zs k).1 ls < 0) => show place zs ls = k ∧ there zs ls = decide (Lab.cmpL (at' zs k).1 ls = 0) from by
        have e := place_is (by omega) (unhide HP) (.inr h)
        refine ⟨e, ?_⟩
        unfold there
        rw [e, decide_eq_true hkz, Bool.true_and])
      obtain ⟨C, hC⟩ : ∃ C, C = Lab.cmpL (at' zs k).1 ls := ⟨_, rfl⟩
      rw [← hC] at HCm HNext HStop hrng
      clear fa hEk hY hC
      subst e0 eu
      have hk1 : (k : Int) < (l : Int) := by omega
      go_wp2_with fail
      refine (unhide HCm wr hbel).mono ?_
      rintro e w1 ⟨rfl, b1⟩
      have R1 := hbel.trans (b1.mono hsz)
      by_cases hneg : C < 0
      · have HNx := hide (unhide HNext hneg)
        clear HNext HStop HCm hc0
        go_wp2_with fail
        go_roundw
        case rel => exact ⟨k + 1, by omega, by go_num, HNx, R1⟩
        case measure => simp [intOf]; omega
      · have HSt := hide (unhide HStop (by omega))
        have hc1 : w1.cell? ⟨b, off + k * 2, none⟩ = some (.slice a0 ll q0) := (b1.cell (p := ⟨b, _, none⟩) (by show b < _; omega)).trans hc0
        clear HNext HStop hc0
        go_wp2_with fail
        refine (unhide HCm w1 R1).mono ?_
        rintro e w2 ⟨rfl, b2⟩
        have R2 := R1.trans (b2.mono R1.size)
        clear HCm hc1
        go_wp2_with fail
        go_ret2
        exact ⟨by rw [(unhide HSt).1, (unhide HSt).2]; rfl, R2⟩
    · obtain rfl : k = l := by omega
      have HSt := hide (show place zs ls = k ∧ there zs ls = false by
        have e := place_is (L := zs) (ls := ls) (k := k) (by have := unhide HN; omega) (unhide HP) (.inl (unhide HN))
        refine ⟨e, ?_⟩
        unfold there
        rw [e, decide_eq_false (by have := unhide HN; omega), Bool.false_and])
      have hd : decide (k < k) = false := by simp
      go_wp2_with fail
      go_ret2
      exact ⟨by rw [(unhide HSt).1, (unhide HSt).2]; rfl, hbel⟩
end Go.Proofs.YtlboekimnhgfdaaGreat.Row

/- How much there is at most in what is asked for. -/
namespace Go.Proofs.YtlboekimnhgfdaaGreat.Row
open Go.RowKit Rw
theorem cnt_le (L : List E) (M : Nat) (h : ∀ y ∈ L, cntE y ≤ M) : cnt L ≤ L.length * M := by
  unfold cnt cntTo
  rw [List.take_of_length_le (Nat.le_refl _)]
  induction L with
  | nil => simp
  | cons x L ih =>
    have h1 := h x (List.mem_cons_self ..)
    have h2 := ih (fun y hy => h y (List.mem_cons_of_mem _ hy))
    rw [List.map_cons, List.sum_cons, List.length_cons, Nat.succ_mul]
    omega
theorem outL_cnt {g : E → List Sam.E} {zs : List E} (h : ok zs = true) (hg : ∀ i, i < zs.length → (g (at' zs i)).length ≤ 2000) : cnt (outL g zs) ≤ 2097152 ∧ (outL g zs).length ≤ 2097152 := by
  have hl := outL_len g zs
  have h10 := ok_len h
  have h1 := cnt_le (outL g zs) 6000 (fun y hy => by
    rw [← List.take_of_length_le (Nat.le_refl zs.length)] at hy
    obtain ⟨i, hi, e, -⟩ := outL_mem (Nat.le_refl _) hy
    have hs := (Lab.ok_small (step_is (ok_at h hi)).1).1
    have := hg i hi
    rw [e]
    unfold cntE
    simp only
    omega)
  have h2 : (outL g zs).length * 6000 ≤ 10 * 6000 := Nat.mul_le_mul_right _ (by omega)
  omega
theorem ask_cnt (ms : List Mat.E) (f t : Int) (zs : List E) : cnt (ask ms f t zs) ≤ 2097152 ∧ (ask ms f t zs).length ≤ 2097152 := by
  unfold ask
  cases ho : ok zs
  · simp [cnt, cntTo]
  · simp only [if_true]
    refine outL_cnt ho (fun i hi => ?_)
    have := (step_is (ok_at ho hi)).2.2.1
    unfold askG
    split
    · exact Nat.le_trans (List.length_filter_le _ _) (by omega)
    · simp
end Go.Proofs.YtlboekimnhgfdaaGreat.Row

/- How much there is at most in the rows with the greatest last numbers. -/
namespace Go.Proofs.YtlboekimnhgfdaaGreat.Row
open Go.RowKit Rw
theorem ok_cnt {zs : List E} (h : ok zs = true) : cnt zs ≤ 2097152 ∧ zs.length ≤ 2097152 := by
  have h10 := ok_len h
  have h1 := cnt_le zs 6000 (fun y hy => by
    obtain ⟨i, hi, rfl⟩ := List.getElem_of_mem hy
    rw [← at_get zs i hi]
    have hst := step_is (ok_at h hi)
    have hs := (Lab.ok_small hst.1).1
    have := hst.2.2.1
    unfold cntE
    omega)
  have h2 : zs.length * 6000 ≤ 10 * 6000 := Nat.mul_le_mul_right _ (by omega)
  omega
theorem top_cnt (most : Int) (zs : List E) : cnt (top most zs) ≤ 2097152 ∧ (top most zs).length ≤ 2097152 := by
  cases ho : ok zs
  · have : top most zs = [] := by unfold top; rw [ho]; rfl
    rw [this]; simp [cnt, cntTo]
  · exact ok_cnt (ok_sub ho (top_sub most zs))
end Go.Proofs.YtlboekimnhgfdaaGreat.Row

/- A row more among rows: the model's l5Add. -/
namespace Go.Proofs.YtlboekimnhgfdaaGreat.Row
open Go.RowKit Rw
set_option linter.unusedVariables false
attribute [local go_sem ↓] Go.wp_at_zero Go.wp_at_succ
/-! ### the size of what is made -/
theorem sized_mid {A D : List E} {x : E} (h : sized (A ++ D) = true) : sized (A ++ x :: D) = (decide ((A ++ D).length + 1 ≤ 10) && decide (x.2.length ≤ 1000)) := by
  unfold sized at h ⊢
  simp only [Bool.and_eq_true, decide_eq_true_eq, List.all_append, List.length_append] at h
  simp only [List.length_append, List.length_cons, List.all_append, List.all_cons, h.2.1, h.2.2, Bool.true_and, Bool.and_true]
  congr 2
theorem sized_same {A D : List E} {x y : E} (h : sized (A ++ x :: D) = true) : sized (A ++ y :: D) = decide (y.2.length ≤ 1000) := by
  unfold sized at h ⊢
  simp only [Bool.and_eq_true, decide_eq_true_eq, List.all_append, List.length_append, List.length_cons, List.all_cons] at h
  simp only [List.length_append, List.length_cons, List.all_append, List.all_cons, h.2.1, h.2.2.2, Bool.true_and, Bool.and_true]
  rw [decide_eq_true h.1, Bool.true_and]
theorem add_new {zs : List E} {x : E} (hok : ok zs = true) (h : there zs x.1 = false) : add zs x = if (decide (zs.length + 1 ≤ 10) && decide (x.2.length ≤ 1000)) = true then some (zs.take (place zs x.1) ++ x :: zs.drop (place zs x.1)) else none := by
  have hs := sized_of_ok hok
  unfold add
  rw [ins_place, h, if_neg (by simp), Option.bind_some]
  have e := sized_mid (A := zs.take (place zs x.1)) (D := zs.drop (place zs x.1)) (x := x) (by rw [List.take_append_drop]; exact hs)
  rw [List.take_append_drop] at e
  rw [e]
theorem take_at_drop {zs : List E} {k : Nat} (hk : k < zs.length) : zs = zs.take k ++ at' zs k :: zs.drop (k + 1) := by
  rw [at_get zs k hk, ← List.drop_eq_getElem_cons hk, List.take_append_drop]
theorem set_is {zs : List E} {k : Nat} (y : E) (hk : k < zs.length) : zs.set k y = zs.take k ++ y :: zs.drop (k + 1) := by
  rw [List.set_eq_take_append_cons_drop, if_pos hk]
theorem add_old {zs : List E} {x : E} (hok : ok zs = true) (h : there zs x.1 = true) : add zs x = if ((SampMath.join (at' zs (place zs x.1)).2 x.2).2 && decide ((SampMath.join (at' zs (place zs x.1)).2 x.2).1.length ≤ 1000)) = true then some (zs.set (place zs x.1) ((at' zs (place zs x.1)).1, (SampMath.join (at' zs (place zs x.1)).2 x.2).1)) else none := by
  have hs := sized_of_ok hok
  have hk : place zs x.1 < zs.length := by unfold there at h; simp only [Bool.and_eq_true, decide_eq_true_eq] at h; exact h.1
  unfold add
  rw [ins_place, h, if_pos rfl, set_is _ hk]
  generalize place zs x.1 = k at hk
  unfold jn
  cases hj : (SampMath.join (at' zs k).2 x.2).2
  · simp
  · simp only [if_true, Option.map_some, Option.bind_some, Bool.true_and]
    rw [sized_same (A := zs.take k) (D := zs.drop (k + 1)) (x := at' zs k) (by rw [← take_at_drop hk]; exact hs)]
/-! ### cells of rows, one more, one turned -/
theorem cat_mid (cs : List C) (c : C) (k i : Nat) (hk : k ≤ cs.length) (hi : i ≤ cs.length) : cat (cs.take k ++ c :: cs.drop k) i = if i < k then cat cs i else if i = k then c else cat cs (i - 1) := by
  have hl : (cs.take k).length = k := by rw [List.length_take]; omega
  unfold cat List.getD
  by_cases h1 : i < k
  · rw [if_pos h1, List.getElem?_append_left (by omega), List.getElem?_take, if_pos h1]
  · rw [if_neg h1, List.getElem?_append_right (by omega), hl]
    by_cases h2 : i = k
    · rw [if_pos h2, h2, Nat.sub_self]; rfl
    · rw [if_neg h2, show i - k = (i - k - 1) + 1 by omega, List.getElem?_cons_succ, List.getElem?_drop, show k + (i - k - 1) = i - 1 by omega]
theorem at_mid (cs : List E) (c : E) (k i : Nat) (hk : k ≤ cs.length) (hi : i ≤ cs.length) : at' (cs.take k ++ c :: cs.drop k) i = if i < k then at' cs i else if i = k then c else at' cs (i - 1) := by
  have hl : (cs.take k).length = k := by rw [List.length_take]; omega
  unfold at' List.getD
  by_cases h1 : i < k
  · rw [if_pos h1, List.getElem?_append_left (by omega), List.getElem?_take, if_pos h1]
  · rw [if_neg h1, List.getElem?_append_right (by omega), hl]
    by_cases h2 : i = k
    · rw [if_pos h2, h2, Nat.sub_self]; rfl
    · rw [if_neg h2, show i - k = (i - k - 1) + 1 by omega, List.getElem?_cons_succ, List.getElem?_drop, show k + (i - k - 1) = i - 1 by omega]
theorem apart_mid {n k : Nat} {cs : List C} {c : C} (hd : cs.length = n) (hk : k ≤ n) (p : C → Value) (h : ApartF n (fun i => p (cat cs i))) (hc : ∀ i, i < n → ∀ b, (p (cat cs i)).ownBlock = some b → (p c).ownBlock ≠ some b) : ApartF (n + 1) (fun i => p (cat (cs.take k ++ c :: cs.drop k) i)) := by
  subst hd
  intro i j hij hj b hb
  simp only at hb ⊢
  rw [cat_mid _ _ _ _ hk (by omega)] at hb ⊢
  by_cases j1 : j < k
  · rw [if_pos (by omega)] at hb
    rw [if_pos j1]
    exact h i j hij (by omega) b hb
  · rw [if_neg j1]
    by_cases j2 : j = k
    · rw [if_pos j2]
      rw [if_pos (by omega)] at hb
      exact hc i (by omega) b hb
    · rw [if_neg j2]
      by_cases i1 : i < k
      · rw [if_pos i1] at hb
        exact h i (j - 1) (by omega) (by omega) b hb
      · rw [if_neg i1] at hb
        by_cases i2 : i = k
        · rw [if_pos i2] at hb
          intro hb'
          exact hc (j - 1) (by omega) b hb' hb
        · rw [if_neg i2] at hb
          exact h (i - 1) (j - 1) (by omega) (by omega) b hb
theorem flat_mid (cs : List C) (c : C) (k : Nat) : flatOf cl (cs.take k ++ c :: cs.drop k) = flatOf cl (cs.take k) ++ [c.1, c.2] ++ flatOf cl (cs.drop k) := by
  rw [flatOf_append, flatOf_cons]
  show _ ++ ([c.1, c.2] ++ _) = _
  rw [List.append_assoc]
theorem own_mid {lo k : Nat} {wn : World} {vn : Value} {L : List E} {cs : List C} {x : E} {c : C} (hk : k ≤ L.length) (h1 : cs.length = L.length) (h5 : ApartF L.length (fun i => (cat cs i).1)) (h6 : ApartF L.length (fun i => (cat cs i).2))
    (h7 : ∀ i, i < L.length → wn.ownsRow lo 64 2 (cat cs i).1 (at' L i).1.length (Lab.flat (at' L i).1) ∧ wn.ownsRow lo 106 2 (cat cs i).2 (at' L i).2.length (Sam.flat (at' L i).2))
    (on : wn.ownsRow lo 93 2 vn (L.length + 1) (flatOf cl (cs.take k) ++ [c.1, c.2] ++ flatOf cl (cs.drop k))) (hl : wn.ownsRow lo 64 2 c.1 x.1.length (Lab.flat x.1)) (hx : wn.ownsRow lo 106 2 c.2 x.2.length (Sam.flat x.2))
    (nl : ∀ i, i < L.length → ∀ b, (cat cs i).1.ownBlock = some b → c.1.ownBlock ≠ some b) (nx : ∀ i, i < L.length → ∀ b, (cat cs i).2.ownBlock = some b → c.2.ownBlock ≠ some b) : Own lo wn.heap.size wn vn (L.take k ++ x :: L.drop k) := by
  have hlen : (L.take k ++ x :: L.drop k).length = L.length + 1 := by simp; omega
  refine ⟨cs.take k ++ c :: cs.drop k, by rw [hlen]; simp; omega, by rw [hlen, flat_mid]; exact on, own_block_lt on, Nat.le_refl _, by rw [hlen]; exact apart_mid h1 hk (·.1) h5 nl, by rw [hlen]; exact apart_mid h1 hk (·.2) h6 nx, fun i hi => ?_⟩
  rw [hlen] at hi
  rw [cat_mid _ _ _ _ (by omega) (by omega), at_mid _ _ _ _ hk (by omega)]
  by_cases i1 : i < k
  · rw [if_pos i1, if_pos i1]
    have := h7 i (by omega)
    exact ⟨this, own_block_lt this.1, own_block_lt this.2⟩
  · rw [if_neg i1, if_neg i1]
    by_cases i2 : i = k
    · rw [if_pos i2, if_pos i2]
      exact ⟨⟨hl, hx⟩, own_block_lt hl, own_block_lt hx⟩
    · rw [if_neg i2, if_neg i2]
      have := h7 (i - 1) (by omega)
      exact ⟨this, own_block_lt this.1, own_block_lt this.2⟩
theorem cat_set (cs : List C) (c : C) (k i : Nat) (hk : k < cs.length) : cat (cs.set k c) i = if i = k then c else cat cs i := by
  unfold cat List.getD
  rw [List.getElem?_set]
  by_cases h : k = i
  · rw [if_pos h, if_pos h.symm, if_pos hk]; rfl
  · rw [if_neg h, if_neg (fun e => h e.symm)]
theorem at_set (cs : List E) (c : E) (k i : Nat) (hk : k < cs.length) : at' (cs.set k c) i = if i = k then c else at' cs i := by
  unfold at' List.getD
  rw [List.getElem?_set]
  by_cases h : k = i
  · rw [if_pos h, if_pos h.symm, if_pos hk]; rfl
  · rw [if_neg h, if_neg (fun e => h e.symm)]
theorem flat_set2 (cs : List C) (k : Nat) (hk : k < cs.length) (u : Value) : flatOf cl (cs.set k ((cat cs k).1, u)) = (flatOf cl cs).set (k * 2 + 1) u := by
  apply List.ext_getElem?
  intro j
  rw [List.getElem?_set]
  rcases Nat.lt_or_ge j (cs.length * 2) with hj | hj
  · obtain ⟨i, c, rfl, hc⟩ : ∃ i c, j = i * 2 + c ∧ c < 2 := ⟨j / 2, j % 2, by omega, by omega⟩
    have f1 := flat_at (cs.set k ((cat cs k).1, u)) i (by rw [List.length_set]; omega)
    have f2 := flat_at cs i (by omega)
    rw [cat_set _ _ _ _ hk] at f1
    have hfl : (flatOf cl cs).length = cs.length * 2 := flatOf_length clk cs
    rcases (show c = 0 ∨ c = 1 by omega) with rfl | rfl
    · rw [Nat.add_zero, if_neg (by omega), f1.1, f2.1]
      by_cases e : i = k
      · rw [if_pos e, e]
      · rw [if_neg e]
    · by_cases e : i = k
      · subst e
        rw [if_pos rfl] at f1
        rw [f1.2, if_pos rfl, if_pos (by omega)]
      · rw [if_neg e] at f1
        rw [f1.2, if_neg (by omega), f2.2]
  · rw [List.getElem?_eq_none (by rw [flatOf_length clk, List.length_set]; omega), if_neg (by omega), List.getElem?_eq_none (by rw [flatOf_length clk]; omega)]
theorem own_set {lo hi g q k : Nat} {w : World} {L : List E} {J : List Sam.E} {xv : Value} (h : Own lo hi w (.slice (some ⟨g, 0, none⟩) L.length q) L) (hk : k < L.length) (hx : w.ownsRow lo 106 2 xv J.length (Sam.flat J)) (hf : ∀ b, xv.ownBlock = some b → hi ≤ b) :
    Own lo w.heap.size (w.setCell ⟨g, k * 2 + 1, none⟩ xv) (.slice (some ⟨g, 0, none⟩) L.length q) (L.set k ((at' L k).1, J)) := by
  obtain ⟨cs, h1, h2, h3, h4, h5, h6, h7⟩ := h
  have hst := (h2.stored (k * 2 + 1) xv).1
  have ho := (OnlyAt.refl g w).setCell (k * 2 + 1) xv
  have hxl := own_block_lt hx
  have keepL : ∀ {n v} {xs : List Value}, w.ownsRow lo 64 2 v n xs → (w.setCell ⟨g, k * 2 + 1, none⟩ xv).ownsRow lo 64 2 v n xs := fun h => ho.own h (fun b hb e => own_ne_type h h2 (by decide) b hb (by rw [e]; rfl))
  have keepS : ∀ {n v} {xs : List Value}, w.ownsRow lo 106 2 v n xs → (w.setCell ⟨g, k * 2 + 1, none⟩ xv).ownsRow lo 106 2 v n xs := fun h => ho.own h (fun b hb e => own_ne_type h h2 (by decide) b hb (by rw [e]; rfl))
  refine ⟨cs.set k ((cat cs k).1, xv), by simp [h1], ?_, fun b hb => by have := h3 b hb; omega, by rw [ho.size]; exact Nat.le_refl _, ?_, ?_, fun i hi => ?_⟩
  · rw [List.length_set, flat_set2 cs k (by omega)]
    exact hst
  · rw [List.length_set]
    intro i j hij hj b hb
    simp only at hb ⊢
    rw [cat_set _ _ _ _ (by omega)] at hb ⊢
    have hb' : (cat cs i).1.ownBlock = some b := by
      by_cases e : i = k
      · subst e; rwa [if_pos rfl] at hb
      · rwa [if_neg e] at hb
    have := h5 i j hij hj b hb'
    by_cases e : j = k
    · subst e; rwa [if_pos rfl]
    · rwa [if_neg e]
  · rw [List.length_set]
    intro i j hij hj b hb
    simp only at hb ⊢
    rw [cat_set _ _ _ _ (by omega)] at hb ⊢
    by_cases e : i = k
    · rw [if_pos e] at hb
      rw [if_neg (by omega)]
      intro hb'
      have h8 := hf b hb
      have h9 := (h7 j hj).2.2 b hb'
      omega
    · rw [if_neg e] at hb
      by_cases e' : j = k
      · rw [if_pos e']
        intro hb'
        have h8 := hf b hb'
        have h9 := (h7 i (by omega)).2.2 b hb
        omega
      · rw [if_neg e']
        exact h6 i j hij hj b hb
  · rw [List.length_set] at hi
    rw [cat_set _ _ _ _ (by omega), at_set _ _ _ _ hk]
    have h8 := h7 i hi
    by_cases e : i = k
    · subst e
      rw [if_pos rfl, if_pos rfl]
      exact ⟨⟨keepL h8.1.1, keepS hx⟩, fun b hb => by have := h8.2.1 b hb; omega, hxl⟩
    · rw [if_neg e, if_neg e]
      exact ⟨⟨keepL h8.1.1, keepS h8.1.2⟩, fun b hb => by have := h8.2.1 b hb; omega, fun b hb => by have := h8.2.2 b hb; omega⟩
theorem view_of_is {w : World} {v : Value} {zs : List Sam.E} (h : Sam.Is w v zs) : ∃ a n cap, v = .slice a n cap ∧ Samp.View w a n cap zs := by
  obtain ⟨-, a, cap, rfl, h2, h3, h4, h5⟩ := h
  exact ⟨a, _, cap, rfl, rfl, h2, h3, h4, fun h0 => by obtain ⟨b, off, e, hl, hc⟩ := h5 h0; exact ⟨b, off, e, hl, Sam.reads_of hc⟩⟩
end Go.Proofs.YtlboekimnhgfdaaGreat.Row
