/- My own texts of one claim, laid together by program: RowMark, MatMark. -/
import Derived.Test.YtomncodkbcngmaaGf3dc792d5e
import Derived.Test.YtomncodkbcngmaaG6d612dcafe
import Derived.Test.YtomncodkbcngmaaG94548590d7
/- What the laws' own helpers do to mark rows, and to see that the marks are held. -/
namespace Go.Proofs.Ytomncodkbcngmaa.Row
open Go.RowKit Rw
set_option linter.unusedVariables false
attribute [local go_sem ↓] Go.wp_at_zero Go.wp_at_succ
def cntE (x : E) : Nat := 2 * x.1.length + 2 * x.2.length
def cntTo (zs : List E) (i : Nat) : Nat := ((zs.take i).map cntE).sum
def cnt (zs : List E) : Nat := cntTo zs zs.length
theorem cntTo_succ (zs : List E) (j : Nat) (h : j < zs.length) : cntTo zs (j + 1) = cntTo zs j + cntE (at' zs j) := by
  unfold cntTo
  rw [List.take_succ_eq_append_getElem h, List.map_append, List.sum_append, at_get zs j h]
  simp
theorem cntTo_mono (zs : List E) : ∀ (i j : Nat), i ≤ j → j ≤ zs.length → cntTo zs i ≤ cntTo zs j
  | i, 0, h, _ => by obtain rfl : i = 0 := by omega
                     exact Nat.le_refl _
  | i, j + 1, h, hl => by
    by_cases e : i = j + 1
    · subst e; exact Nat.le_refl _
    · have h1 := cntTo_mono zs i j (by omega) (by omega)
      rw [cntTo_succ zs j (by omega)]
      omega
theorem cntTo_le (zs : List E) (j : Nat) (h : j < zs.length) : cntTo zs j + cntE (at' zs j) ≤ cnt zs := by
  rw [← cntTo_succ zs j h]
  exact cntTo_mono zs _ _ (by omega) (Nat.le_refl _)
def mkAt (k0 : Nat) (zs : List E) (i : Nat) : E := (Lab.marks (k0 + cntTo zs i) (at' zs i).1.length, Sam.marks (k0 + cntTo zs i + 2 * (at' zs i).1.length) (at' zs i).2.length)
def mk (k0 : Nat) (zs : List E) : List E := (List.range zs.length).map (mkAt k0 zs)
theorem mk_length (k0 : Nat) (zs : List E) : (mk k0 zs).length = zs.length := by simp [mk]
theorem mk_at (k0 : Nat) (zs : List E) (i : Nat) (h : i < zs.length) : at' (mk k0 zs) i = mkAt k0 zs i := by
  rw [at_get _ _ (by rw [mk_length]; exact h)]
  simp [mk]
/-- what row i holds when j rows are marked -/
def cur (k0 : Nat) (zs : List E) (j i : Nat) : E := if i < j then mkAt k0 zs i else at' zs i
set_option maxRecDepth 100000 in
set_option maxHeartbeats 4000000 in
theorem mark_some {lo hi g n cap : Nat} {zs : List E} {w : World} (k0 : Nat) (hk1 : 1 ≤ k0) (hk2 : k0 ≤ 100000000) (hn : zs.length = n) (ht : cnt zs ≤ 2097152) (hnb : n ≤ 2097152) (h : Own lo hi w (.slice (some ⟨g, 0, none⟩) n cap) zs) :
    Calls Try.prog 16 #[.slice (some ⟨g, 0, none⟩) n cap, .int .i64 k0] w fun e w' => ∃ k : Nat, e = .returned (.int .i64 k) ∧ k = k0 + cnt zs ∧ Own lo hi w' (.slice (some ⟨g, 0, none⟩) n cap) (mk k0 zs) ∧ Zone lo hi w w' := by
  obtain ⟨cs, h1, h2, h3, h4, h5, h6, h7⟩ := h
  rw [hn] at h1 h2 h5 h6 h7
  have HN := hide hn
  have HI := hide (fun i (hi' : i < n) => (h7 i hi').2)
  have HR := hide (show ∀ i, i < n → w.ownsRow lo 91 2 (cat cs i).1 (cur k0 zs 0 i).1.length (Lab.flat (cur k0 zs 0 i).1) ∧ w.ownsRow lo 46 2 (cat cs i).2 (cur k0 zs 0 i).2.length (Sam.flat (cur k0 zs 0 i).2) from fun i hi' => by rw [show cur k0 zs 0 i = at' zs i from if_neg (by omega)]; exact (h7 i hi').1)
  have HA1 := hide h5
  have HA2 := hide h6
  have HC := hide h1
  have HTT := hide ht
  have H34 := hide (And.intro h3 h4)
  clear h5 h6 h7 h1 hn ht h3 h4
  go_enter Try.func16, Try.ntmps16
  go_wp2
  go_loopw [1, 5] (fun kv i wr => ∃ (j q : Nat), j ≤ n ∧ i = .int .i64 j ∧ kv = .int .i64 q ∧ Hid (q = k0 + cntTo zs j) ∧ wr.ownsRow lo 67 2 (.slice (some ⟨g, 0, none⟩) n cap) n (flatOf cl cs) ∧ Hid (∀ i, i < n → wr.ownsRow lo 91 2 (cat cs i).1 (cur k0 zs j i).1.length (Lab.flat (cur k0 zs j i).1) ∧ wr.ownsRow lo 46 2 (cat cs i).2 (cur k0 zs j i).2.length (Sam.flat (cur k0 zs j i).2)) ∧ Zone lo hi w wr) (fun _ i _ => n - (intOf i).toNat)
  case atStart => exact ⟨0, k0, Nat.zero_le _, rfl, rfl, hide (by simp [cntTo]), h2, HR, Zone.refl _ _ _⟩
  case round =>
    clear HR h2
    obtain ⟨j, q, hj, rfl, rfl, HQ, ho, HR, hzn⟩ := hrel
    by_cases hlt : j < n
    · have fa := flat_at cs j (by have := unhide HC; omega)
      have hc0 : wr.cell? ⟨g, j * 2, none⟩ = some (cat cs j).1 := by rw [ho.cellAt (j * 2) (by omega)]; exact fa.1
      have hc1 : wr.cell? ⟨g, j * 2 + 1, none⟩ = some (cat cs j).2 := by rw [ho.cellAt (j * 2 + 1) (by omega)]; exact fa.2
      have h0 : (0 : Int) ≤ (j : Int) := Int.natCast_nonneg _
      have h1 : (j : Int) < (n : Int) := by omega
      have hq := unhide HQ
      have hle := cntTo_le zs j (by have := unhide HN; omega)
      unfold cntE at hle
      have hxo := unhide HR j hlt
      rw [show cur k0 zs j j = at' zs j from if_neg (Nat.lt_irrefl _)] at hxo
      have HM := hide (Lab.mark_any q (by omega) (by have := unhide HTT; omega) (by have := unhide HTT; omega) hxo.1 (in_self (cat cs j).1))
      -- behind the labels' marks
      have HR1 := hide (fun (w' : World) (hw : Zone (loOf (cat cs j).1) (hiOf (cat cs j).1) wr w') (hy : w'.ownsRow lo 91 2 (cat cs j).1 (at' zs j).1.length (Lab.flat (Lab.marks q (at' zs j).1.length))) =>
        (show w'.ownsRow lo 67 2 (.slice (some ⟨g, 0, none⟩) n cap) n (flatOf cl cs) ∧ w'.ownsRow lo 46 2 (cat cs j).2 (at' zs j).2.length (Sam.flat (at' zs j).2) ∧ (∀ i, i < n → i ≠ j → w'.ownsRow lo 91 2 (cat cs i).1 (cur k0 zs j i).1.length (Lab.flat (cur k0 zs j i).1) ∧ w'.ownsRow lo 46 2 (cat cs i).2 (cur k0 zs j i).2.length (Sam.flat (cur k0 zs j i).2)) ∧ Zone lo hi w w' from
          ⟨hw.own ho (out_of_ne (own_ne_type hxo.1 ho (by decide))), hw.own hxo.2 (out_of_ne (own_ne_type hxo.1 hxo.2 (by decide))),
           fun i hi' hij => ⟨hw.own (unhide HR i hi').1 (out_of_ne ((unhide HA1).ne (fun e => hij e.symm) hlt hi')), hw.own (unhide HR i hi').2 (out_of_ne (own_ne_type hxo.1 (unhide HR i hi').2 (by decide)))⟩,
           hzn.trans (zone_in hw (fun k hk => ⟨own_ge hxo.1 k hk, (unhide HI j hlt).1 k hk⟩))⟩))
      have HLb := hide (show 1 ≤ q ∧ q + 2 * (at' zs j).1.length ≤ 500000000000 ∧ (at' zs j).2.length ≤ 8388608 ∧ q + 2 * (at' zs j).1.length + 2 * (at' zs j).2.length = k0 + cntTo zs (j + 1) from ⟨by omega, by have := unhide HTT; omega, by have := unhide HTT; omega, by rw [cntTo_succ zs j (by have := unhide HN; omega)]; unfold cntE; omega⟩)
      have HMk := hide (show mkAt k0 zs j = (Lab.marks q (at' zs j).1.length, Sam.marks (q + 2 * (at' zs j).1.length) (at' zs j).2.length) by unfold mkAt; rw [hq])
      clear fa hle hxo ho HR hzn
      obtain ⟨c0, hX0⟩ : ∃ c0, c0 = (cat cs j).1 := ⟨_, rfl⟩
      obtain ⟨c1, hX1⟩ : ∃ c1, c1 = (cat cs j).2 := ⟨_, rfl⟩
      rw [← hX0] at hc0 HM HR1
      rw [← hX1] at hc1 HR1
      have HX0 := hide hX0
      have HX1 := hide hX1
      clear hX0 hX1
      obtain ⟨l0, hl0⟩ : ∃ l, l = (at' zs j).1.length := ⟨_, rfl⟩
      rw [← hl0] at HM HLb HMk HR1
      have HL0 := hide hl0
      clear hl0 hq
      go_wp2_with fail
      refine (unhide HM).mono ?_
      rintro e w2 ⟨rfl, o2, z2⟩
      obtain ⟨r1, r2, r3, r4⟩ := unhide HR1 w2 z2 o2
      have hcc : w2.cell? ⟨g, j * 2 + 1, none⟩ = some c1 := by rw [r1.cellAt (j * 2 + 1) (by omega), unhide HX1]; exact (flat_at cs j (by have := unhide HC; omega)).2
      clear HR1 HM z2
      have HS := hide (Sam.mark_any (q + 2 * l0) (by have := unhide HLb; omega) (unhide HLb).2.1 (unhide HLb).2.2.1 r2 (in_self c1))
      have HR2 := hide (fun (w' : World) (hw : Zone (loOf c1) (hiOf c1) w2 w') (hy : w'.ownsRow lo 46 2 c1 (at' zs j).2.length (Sam.flat (Sam.marks (q + 2 * l0) (at' zs j).2.length))) =>
        (show w'.ownsRow lo 67 2 (.slice (some ⟨g, 0, none⟩) n cap) n (flatOf cl cs) ∧ (∀ i, i < n → w'.ownsRow lo 91 2 (cat cs i).1 (cur k0 zs (j + 1) i).1.length (Lab.flat (cur k0 zs (j + 1) i).1) ∧ w'.ownsRow lo 46 2 (cat cs i).2 (cur k0 zs (j + 1) i).2.length (Sam.flat (cur k0 zs (j + 1) i).2)) ∧ Zone lo hi w w' from
          ⟨hw.own r1 (out_of_ne (own_ne_type r2 r1 (by decide))),
           fun i hi' => by
             by_cases hij : i = j
             · subst hij
               rw [show cur k0 zs (i + 1) i = mkAt k0 zs i from if_pos (Nat.lt_succ_self i), unhide HMk]
               simp only [Lab.marks_length, Sam.marks_length]
               rw [← unhide HX0, ← unhide HX1]
               exact ⟨hw.own o2 (out_of_ne (own_ne_type r2 o2 (by decide))), hy⟩
             · rw [show cur k0 zs (j + 1) i = cur k0 zs j i by unfold cur; by_cases h : i < j <;> simp [h] <;> omega]
               refine ⟨hw.own (r3 i hi' hij).1 (out_of_ne (own_ne_type r2 (r3 i hi' hij).1 (by decide))), hw.own (r3 i hi' hij).2 (out_of_ne ?_)⟩
               rw [unhide HX1]
               exact (unhide HA2).ne (fun e => hij e.symm) hlt hi',
           r4.trans (zone_in hw (fun k hk => ⟨own_ge r2 k hk, (unhide HI j hlt).2 k (by rw [← unhide HX1]; exact hk)⟩))⟩))
      clear r1 r2 r3 r4 o2
      obtain ⟨l1, hl1⟩ : ∃ l, l = (at' zs j).2.length := ⟨_, rfl⟩
      rw [← hl1] at HS HLb HR2
      clear hl1
      obtain ⟨q1, hq1⟩ : ∃ q1, q1 = q + 2 * l0 := ⟨_, rfl⟩
      rw [← hq1] at HS HLb HR2
      rw [← hq1]
      clear hq1
      go_wp2_with fail
      refine (unhide HS).mono ?_
      rintro e w3 ⟨rfl, o3, z3⟩
      have RR := hide (unhide HR2 w3 z3 o3)
      clear HR2 HS o3 z3
      obtain ⟨q2, hq2⟩ : ∃ q2, q2 = q1 + 2 * l1 := ⟨_, rfl⟩
      rw [← hq2]
      have HQ2 := hide (show q2 = k0 + cntTo zs (j + 1) by rw [hq2]; exact (unhide HLb).2.2.2)
      clear hq2 HLb HQ
      go_wp2_with fail
      go_roundw
      case rel => exact ⟨j + 1, q2, by omega, by go_num, rfl, HQ2, (unhide RR).1, hide (unhide RR).2.1, (unhide RR).2.2⟩
      case measure => simp [intOf]; omega
    · obtain rfl : j = n := by omega
      have hq := unhide HQ
      have HF := hide (show Own lo hi wr (.slice (some ⟨g, 0, none⟩) j cap) (mk k0 zs) from ⟨cs, by rw [mk_length]; have := unhide HC; have := unhide HN; omega, by rw [mk_length, unhide HN]; exact ho, (unhide H34).1, Nat.le_trans (unhide H34).2 hzn.size, by rw [mk_length, unhide HN]; exact unhide HA1, by rw [mk_length, unhide HN]; exact unhide HA2, fun i hi' => by
        rw [mk_length] at hi'
        have hin : i < j := by have := unhide HN; omega
        rw [mk_at k0 zs i hi']
        have := unhide HR i hin
        rw [show cur k0 zs j i = mkAt k0 zs i from if_pos hin] at this
        exact ⟨this, unhide HI i hin⟩⟩)
      have HQ' := hide (show q = k0 + cnt zs by rw [hq]; unfold cnt; rw [unhide HN])
      clear hq HQ ho HR
      go_wp2
      go_ret
      exact ⟨q, rfl, unhide HQ', unhide HF, hzn⟩
theorem mark_nil (k0 : Int) (w : World) : Calls Try.prog 16 #[.slice none 0 0, .int .i64 k0] w fun e w' => e = .returned (.int .i64 k0) ∧ w' = w := by
  go_enter Try.func16, Try.ntmps16
  go_wp2
  refine wp_loop_rounds 1 ?_
  rw [rounds_succ]
  go_wp2
  go_ret
  exact ⟨rfl, rfl⟩
theorem len_cnt {zs : List E} (h : tot zs ≤ 1048576) : zs.length ≤ 2097152 := (tiny_of h).1
theorem markX {lo hi : Nat} {v : Value} {zs : List E} {w : World} (k0 : Nat) (hk1 : 1 ≤ k0) (hk2 : k0 ≤ 100000000) (hc : cnt zs ≤ 2097152 ∧ zs.length ≤ 2097152) (h : Own lo hi w v zs) :
    Calls Try.prog 16 #[v, .int .i64 k0] w fun e w' => ∃ k : Nat, e = .returned (.int .i64 k) ∧ k = k0 + cnt zs ∧ Own lo hi w' v (mk k0 zs) ∧ Zone lo hi w w' := by
  have hf := h
  obtain ⟨cs, hl, h2, -⟩ := h
  rcases h2.2 with ⟨h1, hz⟩ | ⟨g, cap, cur, h1, -⟩
  · subst h1
    obtain rfl : zs = [] := List.eq_nil_of_length_eq_zero hz
    refine (mark_nil k0 w).mono ?_
    rintro e w' ⟨rfl, rfl⟩
    exact ⟨k0, rfl, by simp [cnt, cntTo], hf, Zone.refl _ _ _⟩
  · subst h1
    exact mark_some k0 hk1 hk2 rfl hc.1 hc.2 hf
set_option maxRecDepth 100000 in
set_option maxHeartbeats 4000000 in
theorem heldX {v : Value} {zs : List E} {w : World} (k0 : Nat) (hk1 : 1 ≤ k0) (hk2 : k0 ≤ 100000000) (hc : cnt zs ≤ 2097152 ∧ zs.length ≤ 2097152) (h : Is w v (mk k0 zs)) :
    Calls Try.prog 18 #[v, .int .i64 k0] w fun e w' => ∃ k : Nat, e = .returned (.int .i64 k) ∧ k = k0 + cnt zs ∧ Below w.heap.size w w' := by
  obtain ⟨cs, hcs, hL, hE⟩ := h
  rw [mk_length] at hcs hL hE
  have HE := hide hE
  obtain ⟨-, a, cap, rfl, hcp, hm, -, hr⟩ := hL
  unfold maxLen at hm
  obtain ⟨n, hn⟩ : ∃ n, n = zs.length := ⟨_, rfl⟩
  rw [← hn] at hcp hr hcs ⊢
  have HN := hide hn
  have HC := hide hcs
  have HTT := hide hc
  clear hn hE hcs hc
  go_enter Try.func18, Try.ntmps18
  go_wp2_with fail
  go_loopw [1, 5] (fun kv i wr => ∃ (j q : Nat), j ≤ n ∧ i = .int .i64 j ∧ kv = .int .i64 q ∧ Hid (q = k0 + cntTo zs j) ∧ Below w.heap.size w wr) (fun _ i _ => n - (intOf i).toNat)
  case atStart => exact ⟨0, k0, Nat.zero_le _, rfl, rfl, hide (by simp [cntTo]), Below.refl _ _⟩
  case round =>
    obtain ⟨j, q, hj, rfl, rfl, HQ, hbel⟩ := hrel
    have hsz := hbel.size
    by_cases hlt : j < n
    · obtain ⟨b, off, rfl, hl, hcells⟩ := hr (by omega)
      have fa := flat_at cs j (by have := unhide HC; omega)
      have hc0 : wr.cell? ⟨b, off + j * 2, none⟩ = some (cat cs j).1 := (hbel.cell (p := ⟨b, _, none⟩) hl).trans (hcells (j * 2) _ fa.1)
      have hc1 : wr.cell? ⟨b, off + j * 2 + 1, none⟩ = some (cat cs j).2 := (hbel.cell (p := ⟨b, _, none⟩) hl).trans (hcells (j * 2 + 1) _ fa.2)
      have h0 : (0 : Int) ≤ (j : Int) := Int.natCast_nonneg _
      have h1 : (j : Int) < (n : Int) := by omega
      have hq := unhide HQ
      have hle := cntTo_le zs j (by have := unhide HN; omega)
      unfold cntE at hle
      have hEj := (unhide HE j (by have := unhide HN; omega)).below hbel
      rw [mk_at k0 zs j (by have := unhide HN; omega)] at hEj
      have HMk : mkAt k0 zs j = (Lab.marks q (at' zs j).1.length, Sam.marks (q + 2 * (at' zs j).1.length) (at' zs j).2.length) := by unfold mkAt; rw [hq]
      rw [HMk] at hEj
      have HM := hide (Lab.held_any q (by omega) (by have := unhide HTT; omega) (by have := unhide HTT; omega) hEj.1)
      have HS := hide (fun W (hb : Below wr.heap.size wr W) => Sam.held_any (q + 2 * (at' zs j).1.length) (by omega) (by have := unhide HTT; omega) (by have := unhide HTT; omega) (hEj.2.below hb))
      have HLb := hide (show q + 2 * (at' zs j).1.length + 2 * (at' zs j).2.length = k0 + cntTo zs (j + 1) by rw [cntTo_succ zs j (by have := unhide HN; omega)]; unfold cntE; omega)
      clear fa hle hEj HMk
      obtain ⟨c0, hX0⟩ : ∃ c0, c0 = (cat cs j).1 := ⟨_, rfl⟩
      obtain ⟨c1, hX1⟩ : ∃ c1, c1 = (cat cs j).2 := ⟨_, rfl⟩
      rw [← hX0] at hc0 HM
      rw [← hX1] at hc1 HS
      clear hX0 hX1
      obtain ⟨l0, hl0⟩ : ∃ l, l = (at' zs j).1.length := ⟨_, rfl⟩
      rw [← hl0] at HM HLb HS
      clear hl0 hq
      obtain ⟨l1, hl1⟩ : ∃ l, l = (at' zs j).2.length := ⟨_, rfl⟩
      rw [← hl1] at HS HLb
      clear hl1
      obtain ⟨q1, hq1⟩ : ∃ q1, q1 = q + 2 * l0 := ⟨_, rfl⟩
      rw [← hq1] at HS HLb HM
      clear hq1
      go_wp2_with fail
      refine (unhide HM).mono ?_
      rintro e w2 ⟨rfl, b2⟩
      have hcc : w2.cell? ⟨b, off + j * 2 + 1, none⟩ = some c1 := (b2.cell (p := ⟨b, off + j * 2 + 1, none⟩) (by show b < _; omega)).trans hc1
      have hbel2 := hbel.trans (b2.mono hsz)
      have HS2 := hide (unhide HS w2 b2)
      have hqn : decide ((q1 : Int) < 0) = false := by simp
      obtain ⟨q2, hq2⟩ : ∃ q2, q2 = q1 + 2 * l1 := ⟨_, rfl⟩
      rw [← hq2] at HS2 HLb
      clear hq2 HM HS b2
      go_wp2_with fail
      refine (unhide HS2).mono ?_
      rintro e w3 ⟨rfl, b3⟩
      have hbel3 := hbel2.trans (b3.mono hbel2.size)
      have hqn2 : decide ((q2 : Int) < 0) = false := by simp
      clear HS2 b3 HQ
      go_wp2_with fail
      go_roundw
      case rel => exact ⟨j + 1, q2, by omega, by go_num, rfl, HLb, hbel3⟩
      case measure => simp [intOf]; omega
    · obtain rfl : j = n := by omega
      have HQ' := hide (show q = k0 + cnt zs by rw [unhide HQ]; unfold cnt; rw [unhide HN])
      clear HQ
      go_wp2
      go_ret
      exact ⟨q, rfl, unhide HQ', hbel⟩
theorem cnt_tot (zs : List E) : ∀ j, j ≤ zs.length → cntTo zs j ≤ 2 * totTo zs j
  | 0, _ => by simp [cntTo]
  | j + 1, h => by
    have := cnt_tot zs j (by omega)
    rw [cntTo_succ zs j (by omega), totTo_succ zs j (by omega)]
    have h1 := Lab.tot_len (at' zs j).1
    have h2 : (at' zs j).2.length ≤ Sam.tot (at' zs j).2 := Nat.le_refl _
    unfold cntE szOf
    omega
theorem markA {lo hi : Nat} {v : Value} {zs : List E} {w : World} (k0 : Nat) (hk1 : 1 ≤ k0) (hk2 : k0 ≤ 100000000) (ht : tot zs ≤ 1048576) (h : Own lo hi w v zs) :
    Calls Try.prog 16 #[v, .int .i64 k0] w fun e w' => ∃ k : Nat, e = .returned (.int .i64 k) ∧ 1 ≤ k ∧ k ≤ k0 + 4194304 ∧ Zone lo hi w w' := by
  have hc : cnt zs ≤ 2097152 := by have := cnt_tot zs zs.length (Nat.le_refl _); rw [totTo_all] at this; unfold cnt; omega
  refine (markX k0 hk1 hk2 ⟨hc, (tiny_of ht).1⟩ h).mono ?_
  rintro e w' ⟨k, rfl, h1, -, z⟩
  exact ⟨k, rfl, by omega, by omega, z⟩
end Go.Proofs.Ytomncodkbcngmaa.Row

/- What the laws' own helpers do to mark a slice of impl.Match, and to see that the marks are held. -/
namespace Go.Proofs.Ytomncodkbcngmaa.Mat
open Go.RowKit Rw
set_option linter.unusedVariables false
attribute [local go_sem ↓] Go.wp_at_zero Go.wp_at_succ
def markOne (q : Nat) : E := (((q : Nat) : Int), Mark.text (q + 1), Mark.text (q + 2))
def marks (k0 n : Nat) : List E := (List.range n).map fun i => markOne (k0 + 3 * i)
theorem marks_length (k0 n : Nat) : (marks k0 n).length = n := by simp [marks]
theorem marks_succ (k0 n : Nat) : marks k0 (n + 1) = marks k0 n ++ [markOne (k0 + 3 * n)] := by simp [marks, List.range_succ]
theorem marks_at (k0 n i : Nat) (h : i < n) : at' (marks k0 n) i = markOne (k0 + 3 * i) := by simp [marks, at', List.getD, h]
theorem flat_marks (k0 j : Nat) : flat (marks k0 (j + 1)) = flat (marks k0 j) ++ [.int .i64 (((k0 + 3 * j) : Nat) : Int), .string (Mark.text ((k0 + 3 * j) + 1)), .string (Mark.text ((k0 + 3 * j) + 2))] := by rw [marks_succ]; unfold flat; rw [flatOf_append, flatOf_one]; rfl
set_option maxRecDepth 100000 in
set_option maxHeartbeats 2000000 in
theorem mark_some (base g n cap : Nat) (zs : List E) (k0 : Nat) (w : World) (hk1 : 1 ≤ k0) (hk2 : k0 ≤ 500000000000) (hn : n ≤ 8388608) (hz : zs.length = n) (hown : w.ownsRow base 69 3 (.slice (some ⟨g, 0, none⟩) n cap) n (flat zs)) :
    Calls Try.prog 17 #[.slice (some ⟨g, 0, none⟩) n cap, .int .i64 k0] w fun e w' => e = .returned (.int .i64 ((k0 + 3 * n : Nat) : Int)) ∧
      w'.ownsRow base 69 3 (.slice (some ⟨g, 0, none⟩) n cap) n (flat (marks k0 n)) ∧ Zone g (g + 1) w w' := by
  have hg0 := own_lt hown
  go_enter Try.func17, Try.ntmps17
  go_wp2
  go_loopw [1, 5] (fun kv i wr => ∃ (j q : Nat) (r : List Value), j ≤ n ∧ i = .int .i64 j ∧ kv = .int .i64 q ∧ Hid (q = k0 + 3 * j) ∧ r.length = (n - j) * 3 ∧ wr.ownsRow base 69 3 (.slice (some ⟨g, 0, none⟩) n cap) n (flat (marks k0 j) ++ r) ∧ Zone g (g + 1) w wr) (fun _ i _ => n - (intOf i).toNat)
  case atStart => exact ⟨0, k0, flat zs, Nat.zero_le _, rfl, rfl, hide (by omega), by rw [flat_length]; omega, by simpa [marks, flat, flatOf] using hown, Zone.refl _ _ _⟩
  case round =>
    obtain ⟨j, q, r, hj, rfl, rfl, HQ, hrl, ho, hzn⟩ := hrel
    have hsz := own_lt ho
    have hq1 : 1 ≤ q := by have := unhide HQ; omega
    have hq2 : q ≤ 600000000000 := by have := unhide HQ; omega
    by_cases hlt : j < n
    · obtain ⟨u0, u1, u2, L, rfl, hB⟩ := split_e r (n - j - 1) (by rw [hrl]; omega)
      have fln : (flat (marks k0 j)).length = j * 3 := by rw [flat_length, marks_length]
      have h0 : (0 : Int) ≤ (j : Int) := Int.natCast_nonneg _
      have h1 : (j : Int) < (n : Int) := by omega
      have HF := hide fln
      have HE := hide (flat_marks k0 j)
      rw [← unhide HQ] at HE
      clear fln
      have hd0 : World.cell? wr ⟨g, j * 3, none⟩ = some u0 := by rw [ho.cellAt (j * 3) (by omega)]; simp [unhide HF]
      have hf0 := ho.frozenAt (j * 3)
      have p0 := (ho.stored (j * 3) (.int .i64 ((q : Int)))).1
      have x0 := hzn.store (Nat.le_refl g) (Nat.lt_succ_self g) (j * 3) (.int .i64 ((q : Int)))
      clear ho hzn
      go_wp2_with fail
      refine (Mark.text_at (q + 1) _ (by omega) (by omega) (by omega) _).mono ?_
      rintro e w1 ⟨rfl, b1⟩
      have o1 := own_below p0 b1
      have y1 := x0.trans (Zone.of_below b1)
      clear b1 p0 x0
      have hd1 : World.cell? w1 ⟨g, j * 3 + 1, none⟩ = some u1 := by rw [o1.cellAt (j * 3 + 1) (by omega)]; simp [unhide HF]
      have hf1 := o1.frozenAt (j * 3 + 1)
      have p1 := (o1.stored (j * 3 + 1) (.string (Mark.text (q + 1)))).1
      have x1 := y1.store (Nat.le_refl g) (Nat.lt_succ_self g) (j * 3 + 1) (.string (Mark.text (q + 1)))
      clear o1 y1
      go_wp2_with fail
      refine (Mark.text_at (q + 2) _ (by omega) (by omega) (by omega) _).mono ?_
      rintro e w2 ⟨rfl, b2⟩
      have o2 := own_below p1 b2
      have y2 := x1.trans (Zone.of_below b2)
      clear b2 p1 x1
      have hd2 : World.cell? w2 ⟨g, j * 3 + 2, none⟩ = some u2 := by rw [o2.cellAt (j * 3 + 2) (by omega)]; simp [unhide HF]
      have hf2 := o2.frozenAt (j * 3 + 2)
      have p2 := (o2.stored (j * 3 + 2) (.string (Mark.text (q + 2)))).1
      have x2 := y2.store (Nat.le_refl g) (Nat.lt_succ_self g) (j * 3 + 2) (.string (Mark.text (q + 2)))
      clear o2 y2
      rw [set_e _ _ _ _ _ _ _ _ _ (unhide HF)] at p2
      have P := hide p2
      have X := hide x2
      clear p2 x2
      have P' := hide (show World.ownsRow (World.setCell w2 ⟨g, j * 3 + 2, none⟩ (.string (Mark.text (q + 2)))) base 69 3 (.slice (some ⟨g, 0, none⟩) n cap) n (flat (marks k0 (j + 1)) ++ L) by rw [unhide HE]; exact unhide P)
      clear P
      go_wp2_with fail
      go_roundw
      case rel => exact ⟨j + 1, q + 3, L, by omega, by go_num, by go_num, hide (by have := unhide HQ; omega), by omega, unhide P', unhide X⟩
      case measure => simp [intOf]; omega
    · obtain rfl : j = n := by omega
      obtain rfl : r = [] := List.eq_nil_of_length_eq_zero (by rw [hrl]; omega)
      rw [List.append_nil] at ho
      go_wp2
      go_ret
      exact ⟨ret_int (by have := unhide HQ; omega), ho, hzn⟩
theorem mark_nil (k0 : Int) (w : World) : Calls Try.prog 17 #[.slice none 0 0, .int .i64 k0] w fun e w' => e = .returned (.int .i64 k0) ∧ w' = w := by
  go_enter Try.func17, Try.ntmps17
  go_wp2
  refine wp_loop_rounds 1 ?_
  rw [rounds_succ]
  go_wp2
  go_ret
  exact ⟨rfl, rfl⟩
/-- new marks are laid in a row of the call's own; what lies elsewhere is as it was -/
theorem mark_any {base : Nat} {v : Value} {zs : List E} {w : World} (k0 : Nat) (hk1 : 1 ≤ k0) (hk2 : k0 ≤ 500000000000) (hn : zs.length ≤ 8388608) (hown : w.ownsRow base 69 3 v zs.length (flat zs)) {lo hi : Nat} (hin : ∀ k, v.ownBlock = some k → lo ≤ k ∧ k < hi) :
    Calls Try.prog 17 #[v, .int .i64 k0] w fun e w' => e = .returned (.int .i64 ((k0 + 3 * zs.length : Nat) : Int)) ∧
      w'.ownsRow base 69 3 v zs.length (flat (marks k0 zs.length)) ∧ Zone lo hi w w' := by
  have hf := hown
  rcases hown.2 with ⟨h1, h2⟩ | ⟨g, cap, cur, h1, h2, hg, _⟩
  · subst h1
    obtain rfl : zs = [] := List.eq_nil_of_length_eq_zero h2
    refine (mark_nil k0 w).mono ?_
    rintro e w' ⟨rfl, rfl⟩
    exact ⟨ret_int (by simp), ⟨rfl, .inl ⟨rfl, rfl⟩⟩, Zone.refl _ _ _⟩
  · subst h1
    refine (mark_some base g zs.length cap zs k0 w hk1 hk2 hn rfl hf).mono ?_
    rintro e w' ⟨rfl, ho, hon⟩
    have := hin g rfl
    exact ⟨rfl, ho, hon.mono (by omega) (by omega)⟩
theorem own_marks {base : Nat} {v : Value} {n k0 : Nat} {w : World} (h : w.ownsRow base 69 3 v n (flat (marks k0 n))) : Is w v (marks k0 n) := is_of_own (by rw [marks_length]; exact h)
end Go.Proofs.Ytomncodkbcngmaa.Mat
