/- My own texts of one claim, laid together by program: RowMark, PutMath, LabPut. -/
import Derived.Test.YtdggffcibcggoaaGreatG8bf1fc786d
import Derived.Test.YtdggffcibcggoaaGreatG150e0ddd49
import Derived.Lib.Join
import Derived.Test.YtdggffcibcggoaaGreatGdb1f33ea09
import Derived.Laws.Concat
/- What the laws' own helpers do to mark rows, and to see that the marks are held. -/
namespace Go.Proofs.YtdggffcibcggoaaGreat.Row
open Go.RowKit Rw
set_option linter.unusedVariables false
attribute [local go_sem ↓] Go.wp_at_zero Go.wp_at_succ
def cntE (x : E) : Nat := 2 * x.1.length + 2 * x.2.length
def cntTo (zs : List E) (i : Nat) : Nat := ((zs.take i).map cntE).sum
def cnt (zs : List E) : Nat := cntTo zs zs.length
theorem cntTo_succ (zs : List E) (j : Nat) (h : j < zs.length) : cntTo zs (j + 1) = cntTo zs j + cntE (at' zs j) := by
  unfold cntTo
  rw [List.take_succ_eq_append_getElem h, List.map_append, List.sum_append, at_get zs j h]
  simp
theorem cntTo_mono (zs : List E) : ∀ (i j : Nat), i ≤ j → j ≤ zs.length → cntTo zs i ≤ cntTo zs j
  | i, 0, h, _ => by obtain rfl : i = 0 := by omega
                     exact Nat.le_refl _
  | i, j + 1, h, hl => by
    by_cases e : i = j + 1
    · subst e; exact Nat.le_refl _
    · have h1 := cntTo_mono zs i j (by omega) (by omega)
      rw [cntTo_succ zs j (by omega)]
      omega
theorem cntTo_le (zs : List E) (j : Nat) (h : j < zs.length) : cntTo zs j + cntE (at' zs j) ≤ cnt zs := by
  rw [← cntTo_succ zs j h]
  exact cntTo_mono zs _ _ (by omega) (Nat.le_refl _)
def mkAt (k0 : Nat) (zs : List E) (i : Nat) : E := (Lab.marks (k0 + cntTo zs i) (at' zs i).1.length, Sam.marks (k0 + cntTo zs i + 2 * (at' zs i).1.length) (at' zs i).2.length)
def mk (k0 : Nat) (zs : List E) : List E := (List.range zs.length).map (mkAt k0 zs)
theorem mk_length (k0 : Nat) (zs : List E) : (mk k0 zs).length = zs.length := by simp [mk]
theorem mk_at (k0 : Nat) (zs : List E) (i : Nat) (h : i < zs.length) : at' (mk k0 zs) i = mkAt k0 zs i := by
  rw [at_get _ _ (by rw [mk_length]; exact h)]
  simp [mk]
/-- what row i holds when j rows are marked -/
def cur (k0 : Nat) (zs : List E) (j i : Nat) : E := if i < j then mkAt k0 zs i else at' zs i
set_option maxRecDepth 100000 in
set_option maxHeartbeats 4000000 in
theorem mark_some {lo hi g n cap : Nat} {zs : List E} {w : World} (k0 : Nat) (hk1 : 1 ≤ k0) (hk2 : k0 ≤ 100000000) (hn : zs.length = n) (ht : cnt zs ≤ 2097152) (hnb : n ≤ 2097152) (h : Own lo hi w (.slice (some ⟨g, 0, none⟩) n cap) zs) :
    Calls Tryz.prog 43 #[.slice (some ⟨g, 0, none⟩) n cap, .int .i64 k0] w fun e w' => ∃ k : Nat, e = .returned (.int .i64 k) ∧ k = k0 + cnt zs ∧ Own lo hi w' (.slice (some ⟨g, 0, none⟩) n cap) (mk k0 zs) ∧ Zone lo hi w w' := by
  obtain ⟨cs, h1, h2, h3, h4, h5, h6, h7⟩ := h
  rw [hn] at h1 h2 h5 h6 h7
  have HN := hide hn
  have HI := hide (fun i (hi' : i < n) => (h7 i hi').2)
  have HR := hide (show ∀ i, i < n → w.ownsRow lo 120 2 (cat cs i).1 (cur k0 zs 0 i).1.length (Lab.flat (cur k0 zs 0 i).1) ∧ w.ownsRow lo 133 2 (cat cs i).2 (cur k0 zs 0 i).2.length (Sam.flat (cur k0 zs 0 i).2) from fun i hi' => by rw [show cur k0 zs 0 i = at' zs i from if_neg (by omega)]; exact (h7 i hi').1)
  have HA1 := hide h5
  have HA2 := hide h6
  have HC := hide h1
  have HTT := hide ht
  have H34 := hide (And.intro h3 h4)
  clear h5 h6 h7 h1 hn ht h3 h4
  go_enter Tryz.func43, Tryz.ntmps43
  go_wp2
  go_loopw [1, 5] (fun kv i wr => ∃ (j q : Nat), j ≤ n ∧ i = .int .i64 j ∧ kv = .int .i64 q ∧ Hid (q = k0 + cntTo zs j) ∧ wr.ownsRow lo 88 2 (.slice (some ⟨g, 0, none⟩) n cap) n (flatOf cl cs) ∧ Hid (∀ i, i < n → wr.ownsRow lo 120 2 (cat cs i).1 (cur k0 zs j i).1.length (Lab.flat (cur k0 zs j i).1) ∧ wr.ownsRow lo 133 2 (cat cs i).2 (cur k0 zs j i).2.length (Sam.flat (cur k0 zs j i).2)) ∧ Zone lo hi w wr) (fun _ i _ => n - (intOf i).toNat)
  case atStart => exact ⟨0, k0, Nat.zero_le _, rfl, rfl, hide (by simp [cntTo]), h2, HR, Zone.refl _ _ _⟩
  case round =>
    clear HR h2
    obtain ⟨j, q, hj, rfl, rfl, HQ, ho, HR, hzn⟩ := hrel
    by_cases hlt : j < n
    · have fa := flat_at cs j (by have := unhide HC; omega)
      have hc0 : wr.cell? ⟨g, j * 2, none⟩ = some (cat cs j).1 := by rw [ho.cellAt (j * 2) (by omega)]; exact fa.1
      have hc1 : wr.cell? ⟨g, j * 2 + 1, none⟩ = some (cat cs j).2 := by rw [ho.cellAt (j * 2 + 1) (by omega)]; exact fa.2
      have h0 : (0 : Int) ≤ (j : Int) := Int.natCast_nonneg _
      have h1 : (j : Int) < (n : Int) := by omega
      have hq := unhide HQ
      have hle := cntTo_le zs j (by have := unhide HN; omega)
      unfold cntE at hle
      have hxo := unhide HR j hlt
      rw [show cur k0 zs j j = at' zs j from if_neg (Nat.lt_irrefl _)] at hxo
      have HM := hide (Lab.mark_any q (by omega) (by have := unhide HTT; omega) (by have := unhide HTT; omega) hxo.1 (in_self (cat cs j).1))
      -- behind the labels' marks
      have HR1 := hide (fun (w' : World) (hw : Zone (loOf (cat cs j).1) (hiOf (cat cs j).1) wr w') (hy : w'.ownsRow lo 120 2 (cat cs j).1 (at' zs j).1.length (Lab.flat (Lab.marks q (at' zs j).1.length))) =>
        (show w'.ownsRow lo 88 2 (.slice (some ⟨g, 0, none⟩) n cap) n (flatOf cl cs) ∧ w'.ownsRow lo 133 2 (cat cs j).2 (at' zs j).2.length (Sam.flat (at' zs j).2) ∧ (∀ i, i < n → i ≠ j → w'.ownsRow lo 120 2 (cat cs i).1 (cur k0 zs j i).1.length (Lab.flat (cur k0 zs j i).1) ∧ w'.ownsRow lo 133 2 (cat cs i).2 (cur k0 zs j i).2.length (Sam.flat (cur k0 zs j i).2)) ∧ Zone lo hi w w' from
          ⟨hw.own ho (out_of_ne (own_ne_type hxo.1 ho (by decide))), hw.own hxo.2 (out_of_ne (own_ne_type hxo.1 hxo.2 (by decide))),
           fun i hi' hij => ⟨hw.own (unhide HR i hi').1 (out_of_ne ((unhide HA1).ne (fun e => hij e.symm) hlt hi')), hw.own (unhide HR i hi').2 (out_of_ne (own_ne_type hxo.1 (unhide HR i hi').2 (by decide)))⟩,
           hzn.trans (zone_in hw (fun k hk => ⟨own_ge hxo.1 k hk, (unhide HI j hlt).1 k hk⟩))⟩))
      have HLb := hide (show 1 ≤ q ∧ q + 2 * (at' zs j).1.length ≤ 500000000000 ∧ (at' zs j).2.length ≤ 8388608 ∧ q + 2 * (at' zs j).1.length + 2 * (at' zs j).2.length = k0 + cntTo zs (j + 1) from ⟨by omega, by have := unhide HTT; omega, by have := unhide HTT; omega, by rw [cntTo_succ zs j (by have := unhide HN; omega)]; unfold cntE; omega⟩)
      have HMk := hide (show mkAt k0 zs j = (Lab.marks q (at' zs j).1.length, Sam.marks (q + 2 * (at' zs j).1.length) (at' zs j).2.length) by unfold mkAt; rw [hq])
      clear fa hle hxo ho HR hzn
      obtain ⟨c0, hX0⟩ : ∃ c0, c0 = (cat cs j).1 := ⟨_, rfl⟩
      obtain ⟨c1, hX1⟩ : ∃ c1, c1 = (cat cs j).2 := ⟨_, rfl⟩
      rw [← hX0] at hc0 HM HR1
      rw [← hX1] at hc1 HR1
      have HX0 := hide hX0
      have HX1 := hide hX1
      clear hX0 hX1
      obtain ⟨l0, hl0⟩ : ∃ l, l = (at' zs j).1.length := ⟨_, rfl⟩
      rw [← hl0] at HM HLb HMk HR1
      have HL0 := hide hl0
      clear hl0 hq
      go_wp2_with fail
      refine (unhide HM).mono ?_
      rintro e w2 ⟨rfl, o2, z2⟩
      obtain ⟨r1, r2, r3, r4⟩ := unhide HR1 w2 z2 o2
      have hcc : w2.cell? ⟨g, j * 2 + 1, none⟩ = some c1 := by rw [r1.cellAt (j * 2 + 1) (by omega), unhide HX1]; exact (flat_at cs j (by have := unhide HC; omega)).2
      clear HR1 HM z2
      have HS := hide (Sam.mark_any (q + 2 * l0) (by have := unhide HLb; omega) (unhide HLb).2.1 (unhide HLb).2.2.1 r2 (in_self c1))
      have HR2 := hide (fun (w' : World) (hw : Zone (loOf c1) (hiOf c1) w2 w') (hy : w'.ownsRow lo 133 2 c1 (at' zs j).2.length (Sam.flat (Sam.marks (q + 2 * l0) (at' zs j).2.length))) =>
        (show w'.ownsRow lo 88 2 (.slice (some ⟨g, 0, none⟩) n cap) n (flatOf cl cs) ∧ (∀ i, i < n → w'.ownsRow lo 120 2 (cat cs i).1 (cur k0 zs (j + 1) i).1.length (Lab.flat (cur k0 zs (j + 1) i).1) ∧ w'.ownsRow lo 133 2 (cat cs i).2 (cur k0 zs (j + 1) i).2.length (Sam.flat (cur k0 zs (j + 1) i).2)) ∧ Zone lo hi w w' from
          ⟨hw.own r1 (out_of_ne (own_ne_type r2 r1 (by decide))),
           fun i hi' => by
             by_cases hij : i = j
             · subst hij
               rw [show cur k0 zs (i + 1) i = mkAt k0 zs i from if_pos (Nat.lt_succ_self i), unhide HMk]
               simp only [Lab.marks_length, Sam.marks_length]
               rw [← unhide HX0, ← unhide HX1]
               exact ⟨hw.own o2 (out_of_ne (own_ne_type r2 o2 (by decide))), hy⟩
             · rw [show cur k0 zs (j + 1) i = cur k0 zs j i by unfold cur; by_cases h : i < j <;> simp [h] <;> omega]
               refine ⟨hw.own (r3 i hi' hij).1 (out_of_ne (own_ne_type r2 (r3 i hi' hij).1 (by decide))), hw.own (r3 i hi' hij).2 (out_of_ne ?_)⟩
               rw [unhide HX1]
               exact (unhide HA2).ne (fun e => hij e.symm) hlt hi',
           r4.trans (zone_in hw (fun k hk => ⟨own_ge r2 k hk, (unhide HI j hlt).2 k (by rw [← unhide HX1]; exact hk)⟩))⟩))
      clear r1 r2 r3 r4 o2
      obtain ⟨l1, hl1⟩ : ∃ l, l = (at' zs j).2.length := ⟨_, rfl⟩
      rw [← hl1] at HS HLb HR2
      clear hl1
      obtain ⟨q1, hq1⟩ : ∃ q1, q1 = q + 2 * l0 := ⟨_, rfl⟩
      rw [← hq1] at HS HLb HR2
      rw [← hq1]
      clear hq1
      go_wp2_with fail
      refine (unhide HS).mono ?_
      rintro e w3 ⟨rfl, o3, z3⟩
      have RR := hide (unhide HR2 w3 z3 o3)
      clear HR2 HS o3 z3
      obtain ⟨q2, hq2⟩ : ∃ q2, q2 = q1 + 2 * l1 := ⟨_, rfl⟩
      rw [← hq2]
      have HQ2 := hide (show q2 = k0 + cntTo zs (j + 1) by rw [hq2]; exact (unhide HLb).2.2.2)
      clear hq2 HLb HQ
      go_wp2_with fail
      go_roundw
      case rel => exact ⟨j + 1, q2, by omega, by go_num, rfl, HQ2, (unhide RR).1, hide (unhide RR).2.1, (unhide RR).2.2⟩
      case measure => simp [intOf]; omega
    · obtain rfl : j = n := by omega
      have hq := unhide HQ
      have HF := hide (show Own lo hi wr (.slice (some ⟨g, 0, none⟩) j cap) (mk k0 zs) from ⟨cs, by rw [mk_length]; have := unhide HC; have := unhide HN; omega, by rw [mk_length, unhide HN]; exact ho, (unhide H34).1, Nat.le_trans (unhide H34).2 hzn.size, by rw [mk_length, unhide HN]; exact unhide HA1, by rw [mk_length, unhide HN]; exact unhide HA2, fun i hi' => by
        rw [mk_length] at hi'
        have hin : i < j := by have := unhide HN; omega
        rw [mk_at k0 zs i hi']
        have := unhide HR i hin
        rw [show cur k0 zs j i = mkAt k0 zs i from if_pos hin] at this
        exact ⟨this, unhide HI i hin⟩⟩)
      have HQ' := hide (show q = k0 + cnt zs by rw [hq]; unfold cnt; rw [unhide HN])
      clear hq HQ ho HR
      go_wp2
      go_ret
      exact ⟨q, rfl, unhide HQ', unhide HF, hzn⟩
theorem mark_nil (k0 : Int) (w : World) : Calls Tryz.prog 43 #[.slice none 0 0, .int .i64 k0] w fun e w' => e = .returned (.int .i64 k0) ∧ w' = w := by
  go_enter Tryz.func43, Tryz.ntmps43
  go_wp2
  refine wp_loop_rounds 1 ?_
  rw [rounds_succ]
  go_wp2
  go_ret
  exact ⟨rfl, rfl⟩
theorem len_cnt {zs : List E} (h : tot zs ≤ 1048576) : zs.length ≤ 2097152 := (tiny_of h).1
theorem markX {lo hi : Nat} {v : Value} {zs : List E} {w : World} (k0 : Nat) (hk1 : 1 ≤ k0) (hk2 : k0 ≤ 100000000) (hc : cnt zs ≤ 2097152 ∧ zs.length ≤ 2097152) (h : Own lo hi w v zs) :
    Calls Tryz.prog 43 #[v, .int .i64 k0] w fun e w' => ∃ k : Nat, e = .returned (.int .i64 k) ∧ k = k0 + cnt zs ∧ Own lo hi w' v (mk k0 zs) ∧ Zone lo hi w w' := by
  have hf := h
  obtain ⟨cs, hl, h2, -⟩ := h
  rcases h2.2 with ⟨h1, hz⟩ | ⟨g, cap, cur, h1, -⟩
  · subst h1
    obtain rfl : zs = [] := List.eq_nil_of_length_eq_zero hz
    refine (mark_nil k0 w).mono ?_
    rintro e w' ⟨rfl, rfl⟩
    exact ⟨k0, rfl, by simp [cnt, cntTo], hf, Zone.refl _ _ _⟩
  · subst h1
    exact mark_some k0 hk1 hk2 rfl hc.1 hc.2 hf
set_option maxRecDepth 100000 in
set_option maxHeartbeats 4000000 in
theorem heldX {v : Value} {zs : List E} {w : World} (k0 : Nat) (hk1 : 1 ≤ k0) (hk2 : k0 ≤ 100000000) (hc : cnt zs ≤ 2097152 ∧ zs.length ≤ 2097152) (h : Is w v (mk k0 zs)) :
    Calls Tryz.prog 44 #[v, .int .i64 k0] w fun e w' => ∃ k : Nat, e = .returned (.int .i64 k) ∧ k = k0 + cnt zs ∧ Below w.heap.size w w' := by
  obtain ⟨cs, hcs, hL, hE⟩ := h
  rw [mk_length] at hcs hL hE
  have HE := hide hE
  obtain ⟨-, a, cap, rfl, hcp, hm, -, hr⟩ := hL
  unfold maxLen at hm
  obtain ⟨n, hn⟩ : ∃ n, n = zs.length := ⟨_, rfl⟩
  rw [← hn] at hcp hr hcs ⊢
  have HN := hide hn
  have HC := hide hcs
  have HTT := hide hc
  clear hn hE hcs hc
  go_enter Tryz.func44, Tryz.ntmps44
  go_wp2_with fail
  go_loopw [1, 5] (fun kv i wr => ∃ (j q : Nat), j ≤ n ∧ i = .int .i64 j ∧ kv = .int .i64 q ∧ Hid (q = k0 + cntTo zs j) ∧ Below w.heap.size w wr) (fun _ i _ => n - (intOf i).toNat)
  case atStart => exact ⟨0, k0, Nat.zero_le _, rfl, rfl, hide (by simp [cntTo]), Below.refl _ _⟩
  case round =>
    obtain ⟨j, q, hj, rfl, rfl, HQ, hbel⟩ := hrel
    have hsz := hbel.size
    by_cases hlt : j < n
    · obtain ⟨b, off, rfl, hl, hcells⟩ := hr (by omega)
      have fa := flat_at cs j (by have := unhide HC; omega)
      have hc0 : wr.cell? ⟨b, off + j * 2, none⟩ = some (cat cs j).1 := (hbel.cell (p := ⟨b, _, none⟩) hl).trans (hcells (j * 2) _ fa.1)
      have hc1 : wr.cell? ⟨b, off + j * 2 + 1, none⟩ = some (cat cs j).2 := (hbel.cell (p := ⟨b, _, none⟩) hl).trans (hcells (j * 2 + 1) _ fa.2)
      have h0 : (0 : Int) ≤ (j : Int) := Int.natCast_nonneg _
      have h1 : (j : Int) < (n : Int) := by omega
      have hq := unhide HQ
      have hle := cntTo_le zs j (by have := unhide HN; omega)
      unfold cntE at hle
      have hEj := (unhide HE j (by have := unhide HN; omega)).below hbel
      rw [mk_at k0 zs j (by have := unhide HN; omega)] at hEj
      have HMk : mkAt k0 zs j = (Lab.marks q (at' zs j).1.length, Sam.marks (q + 2 * (at' zs j).1.length) (at' zs j).2.length) := by unfold mkAt; rw [hq]
      rw [HMk] at hEj
      have HM := hide (Lab.held_any q (by omega) (by have := unhide HTT; omega) (by have := unhide HTT; omega) hEj.1)
      have HS := hide (fun W (hb : Below wr.heap.size wr W) => Sam.held_any (q + 2 * (at' zs j).1.length) (by omega) (by have := unhide HTT; omega) (by have := unhide HTT; omega) (hEj.2.below hb))
      have HLb := hide (show q + 2 * (at' zs j).1.length + 2 * (at' zs j).2.length = k0 + cntTo zs (j + 1) by rw [cntTo_succ zs j (by have := unhide HN; omega)]; unfold cntE; omega)
      clear fa hle hEj HMk
      obtain ⟨c0, hX0⟩ : ∃ c0, c0 = (cat cs j).1 := ⟨_, rfl⟩
      obtain ⟨c1, hX1⟩ : ∃ c1, c1 = (cat cs j).2 := ⟨_, rfl⟩
      rw [← hX0] at hc0 HM
      rw [← hX1] at hc1 HS
      clear hX0 hX1
      obtain ⟨l0, hl0⟩ : ∃ l, l = (at' zs j).1.length := ⟨_, rfl⟩
      rw [← hl0] at HM HLb HS
      clear hl0 hq
      obtain ⟨l1, hl1⟩ : ∃ l, l = (at' zs j).2.length := ⟨_, rfl⟩
      rw [← hl1] at HS HLb
      clear hl1
      obtain ⟨q1, hq1⟩ : ∃ q1, q1 = q + 2 * l0 := ⟨_, rfl⟩
      rw [← hq1] at HS HLb HM
      clear hq1
      go_wp2_with fail
      refine (unhide HM).mono ?_
      rintro e w2 ⟨rfl, b2⟩
      have hcc : w2.cell? ⟨b, off + j * 2 + 1, none⟩ = some c1 := (b2.cell (p := ⟨b, off + j * 2 + 1, none⟩) (by show b < _; omega)).trans hc1
      have hbel2 := hbel.trans (b2.mono hsz)
      have HS2 := hide (unhide HS w2 b2)
      have hqn : decide ((q1 : Int) < 0) = false := by simp
      obtain ⟨q2, hq2⟩ : ∃ q2, q2 = q1 + 2 * l1 := ⟨_, rfl⟩
      rw [← hq2] at HS2 HLb
      clear hq2 HM HS b2
      go_wp2_with fail
      refine (unhide HS2).mono ?_
      rintro e w3 ⟨rfl, b3⟩
      have hbel3 := hbel2.trans (b3.mono hbel2.size)
      have hqn2 : decide ((q2 : Int) < 0) = false := by simp
      clear HS2 b3 HQ
      go_wp2_with fail
      go_roundw
      case rel => exact ⟨j + 1, q2, by omega, by go_num, rfl, HLb, hbel3⟩
      case measure => simp [intOf]; omega
    · obtain rfl : j = n := by omega
      have HQ' := hide (show q = k0 + cnt zs by rw [unhide HQ]; unfold cnt; rw [unhide HN])
      clear HQ
      go_wp2
      go_ret
      exact ⟨q, rfl, unhide HQ', hbel⟩
theorem cnt_tot (zs : List E) : ∀ j, j ≤ zs.length → cntTo zs j ≤ 2 * totTo zs j
  | 0, _ => by simp [cntTo]
  | j + 1, h => by
    have := cnt_tot zs j (by omega)
    rw [cntTo_succ zs j (by omega), totTo_succ zs j (by omega)]
    have h1 := Lab.tot_len (at' zs j).1
    have h2 : (at' zs j).2.length ≤ Sam.tot (at' zs j).2 := Nat.le_refl _
    unfold cntE szOf
    omega
theorem markA {lo hi : Nat} {v : Value} {zs : List E} {w : World} (k0 : Nat) (hk1 : 1 ≤ k0) (hk2 : k0 ≤ 100000000) (ht : tot zs ≤ 1048576) (h : Own lo hi w v zs) :
    Calls Tryz.prog 43 #[v, .int .i64 k0] w fun e w' => ∃ k : Nat, e = .returned (.int .i64 k) ∧ 1 ≤ k ∧ k ≤ k0 + 4194304 ∧ Zone lo hi w w' := by
  have hc : cnt zs ≤ 2097152 := by have := cnt_tot zs zs.length (Nat.le_refl _); rw [totTo_all] at this; unfold cnt; omega
  refine (markX k0 hk1 hk2 ⟨hc, (tiny_of ht).1⟩ h).mono ?_
  rintro e w' ⟨k, rfl, h1, -, z⟩
  exact ⟨k, rfl, by omega, by omega, z⟩
end Go.Proofs.YtdggffcibcggoaaGreat.Row

/- Texts with a sign between, as plain mathematics. No condition. -/
namespace Go.Proofs.YtdggffcibcggoaaGreat.PutMath
def joinB (ps : List ByteArray) : List UInt8 := Lib.join (ps.map (·.data.toList)) [44]
theorem joinB_nil : joinB [] = [] := rfl
theorem joinTail_snoc (sep : List UInt8) (r : List (List UInt8)) (y : List UInt8) : Lib.joinTail sep (r ++ [y]) = Lib.joinTail sep r ++ (sep ++ y) := by simp [Lib.joinTail]
theorem joinB_snoc (ps : List ByteArray) (p : ByteArray) : joinB (ps ++ [p]) = (if ps.length = 0 then [] else joinB ps ++ [44]) ++ p.data.toList := by
  unfold joinB
  cases ps with
  | nil => simp [Lib.join_one]
  | cons x r => simp [Lib.join_cons, joinTail_snoc]
theorem joinB_len (ps : List ByteArray) (M : Nat) (h : ∀ p ∈ ps, p.size ≤ M) : (joinB ps).length ≤ ps.length * (M + 1) := by
  have t : ∀ (r : List ByteArray), (∀ p ∈ r, p.size ≤ M) → (Lib.joinTail [44] (r.map (·.data.toList))).length ≤ r.length * (M + 1) := by
    intro r
    induction r with
    | nil => intro _; simp [Lib.joinTail]
    | cons x r ih =>
      intro hr
      have h1 := ih (fun p hp => hr p (List.mem_cons_of_mem _ hp))
      have h2 := hr x (List.mem_cons_self ..)
      have hl : x.data.toList.length = x.size := Array.length_toList
      have e : Lib.joinTail [44] ((x :: r).map (·.data.toList)) = [44] ++ x.data.toList ++ Lib.joinTail [44] (r.map (·.data.toList)) := by simp [Lib.joinTail]
      have e2 : (x :: r).length * (M + 1) = r.length * (M + 1) + (M + 1) := by rw [List.length_cons, Nat.add_mul, Nat.one_mul]
      rw [e, e2, List.length_append, List.length_append, hl]
      simp only [List.length_cons, List.length_nil]
      omega
  unfold joinB
  cases ps with
  | nil => simp [Lib.join_nil]
  | cons x r =>
    have h1 := t r (fun p hp => h p (List.mem_cons_of_mem _ hp))
    have h2 := h x (List.mem_cons_self ..)
    have hl : x.data.toList.length = x.size := Array.length_toList
    rw [List.map_cons, Lib.join_cons, List.length_append, List.length_cons, Nat.add_mul, hl]
    omega
theorem app_toList (a b : ByteArray) : (a ++ b).data.toList = a.data.toList ++ b.data.toList := by simp [ByteArray.data_append]
theorem of_toList (l : List UInt8) : (⟨l.toArray⟩ : ByteArray).data.toList = l := by simp
theorem size_of (l : List UInt8) : (⟨l.toArray⟩ : ByteArray).size = l.length := by simp [ByteArray.size]
/-- open, what stands between, shut -/
def wrap (o s : UInt8) (ps : List ByteArray) : ByteArray := ⟨(o :: joinB ps ++ [s]).toArray⟩
/-- the text of the loop that puts one part behind the other -/
def out (o : UInt8) (ps : List ByteArray) : ByteArray := ⟨(o :: joinB ps).toArray⟩
theorem out_size (o : UInt8) (ps : List ByteArray) : (out o ps).size = (joinB ps).length + 1 := by rw [out, size_of, List.length_cons]
theorem wrap_join (o s : UInt8) (ps : List ByteArray) : (⟨#[o]⟩ ++ (⟨(joinB ps).toArray⟩ : ByteArray)) ++ ⟨#[s]⟩ = wrap o s ps := by
  apply Go.WideShapes.bytes_inj
  rw [app_toList, app_toList]
  simp [wrap]
theorem wrap_out (o s : UInt8) (ps : List ByteArray) : out o ps ++ ⟨#[s]⟩ = wrap o s ps := by
  apply Go.WideShapes.bytes_inj
  rw [app_toList]
  simp [wrap, out]
theorem out_first (o : UInt8) : out o [] = ⟨#[o]⟩ := by simp [out, joinB_nil]
theorem out_next (o : UInt8) (ps : List ByteArray) (p q : ByteArray) (h : (if ps.length = 0 then out o ps else out o ps ++ ⟨#[44]⟩) = q) : q ++ p = out o (ps ++ [p]) := by
  subst h
  apply Go.WideShapes.bytes_inj
  have e : (out o (ps ++ [p])).data.toList = o :: joinB (ps ++ [p]) := by unfold out; rw [of_toList]
  have e0 : (out o ps).data.toList = o :: joinB ps := by unfold out; rw [of_toList]
  rw [app_toList, e, joinB_snoc]
  by_cases h0 : ps.length = 0
  · obtain rfl : ps = [] := List.eq_nil_of_length_eq_zero h0
    simp [out, joinB_nil]
  · rw [if_neg h0, if_neg h0, app_toList, e0]
    simp
theorem app_assoc (a b c : ByteArray) : a ++ b ++ c = a ++ (b ++ c) := by
  apply Go.WideShapes.bytes_inj
  rw [app_toList, app_toList, app_toList, app_toList, List.append_assoc]
theorem app_size (a b : ByteArray) : (a ++ b).size = a.size + b.size := by
  have h : ∀ x : ByteArray, x.data.toList.length = x.size := fun x => Array.length_toList
  rw [← h, ← h a, ← h b, app_toList, List.length_append]
end Go.Proofs.YtdggffcibcggoaaGreat.PutMath

/- LabelsPut, of the program and of the model, at every slice of labels. -/
namespace Go.Proofs.YtdggffcibcggoaaGreat.Lab
open Go.RowKit Rw PutMath
set_option linter.unusedVariables false
attribute [local go_sem ↓] Go.wp_at_zero Go.wp_at_succ
theorem info_str : (Tryz.prog.info? 9).map (fun i => (i.zero, i.size, i.bytes)) = some (some (.string ByteArray.empty), 1, 16) := by kernel_rfl
def partOf (x : E) : ByteArray := x.1 ++ ⟨#[61]⟩ ++ x.2
def parts (zs : List E) : List ByteArray := zs.map partOf
theorem parts_snoc (zs : List E) (k : Nat) (h : k < zs.length) : parts (zs.take (k + 1)) = parts (zs.take k) ++ [partOf (at' zs k)] := by unfold parts; rw [at_snoc zs k h, List.map_append]; rfl
theorem parts_length (zs : List E) : (parts zs).length = zs.length := by simp [parts]
/-- none is too great -/
def small (zs : List E) : Prop := zs.length ≤ 1000 ∧ ∀ x ∈ zs, x.1.size ≤ 1000 ∧ x.2.size ≤ 1000
theorem part_size {zs : List E} (h : small zs) (k : Nat) : ∀ p ∈ parts (zs.take k), p.size ≤ 2001 := by
  intro p hp
  obtain ⟨x, hx, rfl⟩ := List.mem_map.1 hp
  have := h.2 x (List.mem_of_mem_take hx)
  unfold partOf
  rw [app_size, app_size]
  have e : (⟨#[61]⟩ : ByteArray).size = 1 := rfl
  omega
theorem join_small {zs : List E} (h : small zs) (k : Nat) : (joinB (parts (zs.take k))).length ≤ 2002000 := by
  have h1 := joinB_len (parts (zs.take k)) 2001 (part_size h k)
  rw [parts_length] at h1
  have h2 : (zs.take k).length ≤ 1000 := by have := List.length_take_le k zs; have := h.1; simp; omega
  have := Nat.mul_le_mul_right 2002 h2
  omega
theorem ok_small {zs : List E} (h : ok zs = true) : small zs := by
  unfold ok at h
  simp only [Bool.and_eq_true, decide_eq_true_eq] at h
  refine ⟨by omega, fun x hx => ?_⟩
  obtain ⟨k, hk, rfl⟩ := List.getElem_of_mem hx
  have hs := List.all_eq_true.1 (show (List.range zs.length).all (stepOk zs) = true from h.2) k (List.mem_range.2 hk)
  rw [← at_get zs k hk]
  unfold stepOk nameB wordB at hs
  simp only [Bool.and_eq_true, decide_eq_true_eq] at hs
  exact ⟨by have := hs.1.1.1.1.2; omega, by have := hs.1.1.2.1; omega⟩
def put (zs : List E) : ByteArray := if ok zs = true then wrap 123 125 (parts zs) else ByteArray.empty
def flatS (l : List ByteArray) : List Value := l.map Value.string
theorem flatS_append (a b : List ByteArray) : flatS (a ++ b) = flatS a ++ flatS b := by simp [flatS]
set_option maxRecDepth 100000 in
set_option maxHeartbeats 4000000 in
theorem impl_put {w : World} {v : Value} {zs : List E} (h : Is w v zs) (hg : ∀ x ∈ zs, good x) : Calls Tryz.prog 141 #[v] w fun e w' => e = .returned (.string (put zs)) ∧ Below w.heap.size w w' := by
  obtain ⟨i0, hi, hz0, hz1, hz2⟩ := info_parts info_str
  have H1 := hide (impl_ok h hg)
  cases ho : ok zs
  · have HR := hide (show put zs = ByteArray.empty by unfold put; rw [ho]; rfl)
    rw [ho] at H1
    clear ho h hg
    go_enter Tryz.func141, Tryz.ntmps141
    go_wp2_with fail
    refine (unhide H1).mono ?_
    rintro e w1 ⟨rfl, b1⟩
    go_wp2_with fail
    go_ret
    exact ⟨ret_string (unhide HR).symm, b1⟩
  have HR := hide (show put zs = wrap 123 125 (parts zs) by unfold put; rw [ho]; rfl)
  have hsm := ok_small ho
  have hn1 : 1 ≤ zs.length := by unfold ok at ho; simp only [Bool.and_eq_true, decide_eq_true_eq] at ho; exact ho.1.1
  rw [ho] at H1
  clear ho hg
  obtain ⟨-, a, cap, rfl, hc, hm, -, hr⟩ := h
  unfold maxLen at hm
  obtain ⟨n, hn⟩ : ∃ n, n = zs.length := ⟨_, rfl⟩
  have hn2 : n ≤ 1000 := by rw [hn]; exact hsm.1
  rw [← hn] at hc hr hn1 H1 ⊢
  have HN := hide hn
  have HSM := hide hsm
  clear hn hsm
  obtain ⟨R, hR⟩ : ∃ R, R = put zs := ⟨_, rfl⟩
  rw [← hR] at HR ⊢
  clear hR
  go_enter Tryz.func141, Tryz.ntmps141
  go_wp2_with fail
  refine (unhide H1).mono ?_
  rintro e w1 ⟨rfl, b1⟩
  go_wp2_with fail
  go_loopw [3, 11] (fun pv i wr => ∃ k : Nat, k ≤ n ∧ i = .int .i64 k ∧ wr.ownsRow w.heap.size 9 1 pv k (flatS (parts (zs.take k))) ∧ Below w.heap.size w wr) (fun _ i _ => n - (intOf i).toNat)
  case atStart => exact ⟨0, Nat.zero_le _, rfl, World.ownsRow_nil _ _ _ _, b1⟩
  case round =>
    clear b1 H1
    obtain ⟨k, hk, rfl, hown, hbel⟩ := hrel
    have hsz := hbel.size
    have hk0 : (0 : Int) ≤ (k : Int) := Int.natCast_nonneg _
    by_cases hlt : k < n
    · obtain ⟨b, off, rfl, hl, hcells⟩ := hr (by omega)
      have fa := flat_at zs k (by have := unhide HN; omega)
      have gd := (unhide HSM).2 (at' zs k) (by rw [at_get zs k (by have := unhide HN; omega)]; exact List.getElem_mem _)
      have HPS := parts_snoc zs k (by have := unhide HN; omega)
      obtain ⟨A, B, hX⟩ : ∃ A B, (A, B) = at' zs k := ⟨_, _, rfl⟩
      rw [← hX] at fa gd HPS
      simp only at gd
      have hc0 : wr.cell? ⟨b, off + k * 2, none⟩ = some (.string A) := (hbel.cell (p := ⟨b, _, none⟩) hl).trans (hcells (k * 2) _ fa.1)
      have hc1 : wr.cell? ⟨b, off + k * 2 + 1, none⟩ = some (.string B) := (hbel.cell (p := ⟨b, _, none⟩) hl).trans (hcells (k * 2 + 1) _ fa.2)
      have e61 : (⟨#[61]⟩ : ByteArray).size = 1 := rfl
      have HQ := hide (show partOf (A, B) = A ++ ⟨#[61]⟩ ++ B from rfl)
      have s1 : ∀ W, (Op.stringOp .add A ⟨#[61]⟩).run Tryz.prog W = .ok (.string (A ++ ⟨#[61]⟩)) W := fun W => run_string_add_sum W _ _ (by rw [e61]; omega)
      have s2 : ∀ W, (Op.stringOp .add (A ++ ⟨#[61]⟩) B).run Tryz.prog W = .ok (.string (A ++ ⟨#[61]⟩ ++ B)) W := fun W => run_string_add_sum W _ _ (by rw [app_size, e61]; omega)
      rw [← unhide HQ] at s2
      generalize A ++ ⟨#[61]⟩ = P1 at s1 s2
      have HPS' := hide HPS
      generalize partOf (A, B) = P2 at s2 HPS'
      clear hX fa gd HPS HQ e61
      have hk1 : (k : Int) < (n : Int) := by omega
      go_wp2_with (at_builtin; refine app_wp _ rfl _ _ _ rfl w.heap.size 9 i0 _ 1 16 Tryz.underlying91 hi hz0 hz1 hz2 rfl (by omega) _ k _ rfl ((hown.alloc _).alloc _) _ 1 [.string P2] rfl (lies_new (by simp) rfl (by unfold maxLen; omega)) (by simp [Value.oneCell']) (by unfold maxLen; omega) (by omega) (by simp; omega) ?_; intro vn wn on gn an)
      have R9 : Below w.heap.size w wn := below_grown ((hbel.alloc hsz _).alloc (by simp; omega) _) (by simp; omega) gn (own_ge hown)
      have R2 := hide (show wn.ownsRow w.heap.size 9 1 vn (k + 1) (flatS (parts (zs.take (k + 1)))) by rw [unhide HPS', flatS_append]; exact on)
      clear on gn an hown
      go_wp2_with fail
      go_roundw
      case rel => exact ⟨k + 1, by omega, by go_num, unhide R2, R9⟩
      case measure => simp [intOf]; omega
    · obtain rfl : k = n := by omega
      have hkf : decide ((k : Int) < (k : Int)) = false := by simp
      rw [List.take_of_length_le (by have := unhide HN; omega)] at hown
      obtain ⟨g, cp, rfl, hgb, hgl⟩ := hown.form (by omega)
      have JS := join_small (unhide HSM) k
      rw [List.take_of_length_le (by have := unhide HN; omega)] at JS
      have HL : (parts zs).length = k := by rw [parts_length]; exact (unhide HN).symm
      have hcp : k ≤ cp := by obtain ⟨-, a', c', e, h2, -⟩ := lies_of_own hown; simp only [Value.slice.injEq, true_and] at e; omega
      have HJ := hide (Tryz.strings_Join g 0 cp (parts zs) ⟨#[44]⟩ wr (fun j x hj => by
        have hj' := (List.getElem?_eq_some_iff.1 hj).1
        rw [Nat.zero_add, hown.cellAt j (by omega)]
        simp [flatS, hj]) hgl (by omega) (by omega) (by show (joinB (parts zs)).length ≤ _; omega))
      rw [HL] at HJ
      have e1 : (⟨#[123]⟩ : ByteArray).size = 1 := rfl
      have e2 : (⟨#[125]⟩ : ByteArray).size = 1 := rfl
      have HW := hide (wrap_join 123 125 (parts zs))
      have sJ := size_of (joinB (parts zs))
      have HJ2 := hide (show Calls Tryz.prog 156 #[.slice (some ⟨g, 0, none⟩) k cp, .string ⟨#[44]⟩] wr fun e w' => e = .returned (.string ⟨(joinB (parts zs)).toArray⟩) ∧ Below wr.heap.size wr w' from unhide HJ)
      have s1 : ∀ W, (Op.stringOp .add ⟨#[123]⟩ ⟨(joinB (parts zs)).toArray⟩).run Tryz.prog W = .ok (.string (⟨#[123]⟩ ++ ⟨(joinB (parts zs)).toArray⟩)) W := fun W => run_string_add_sum W _ _ (by rw [e1, sJ]; omega)
      have s2 : ∀ W, (Op.stringOp .add (⟨#[123]⟩ ++ ⟨(joinB (parts zs)).toArray⟩) ⟨#[125]⟩).run Tryz.prog W = .ok (.string (⟨#[123]⟩ ++ ⟨(joinB (parts zs)).toArray⟩ ++ ⟨#[125]⟩)) W := fun W => run_string_add_sum W _ _ (by rw [app_size, e1, e2, sJ]; omega)
      rw [unhide HW, ← unhide HR] at s2
      clear HJ HL hown JS sJ e1 e2 HW
      generalize (⟨(joinB (parts zs)).toArray⟩ : ByteArray) = J at HJ2 s1 s2
      generalize (⟨#[123]⟩ : ByteArray) ++ J = P1 at s1 s2
      go_wp2_with fail
      refine (unhide HJ2).mono ?_
      rintro e w5 ⟨rfl, b5⟩
      have c5 := hbel.trans (b5.mono hsz)
      go_wp2_with fail
      go_ret
      exact ⟨rfl, c5⟩
end Go.Proofs.YtdggffcibcggoaaGreat.Lab
