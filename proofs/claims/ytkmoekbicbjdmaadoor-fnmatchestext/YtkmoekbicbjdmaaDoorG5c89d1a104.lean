/- My own texts of one claim, laid together by program: DrawMatK, LabLaw, LabMath, PutMath. -/
import Derived.Test.YtkmoekbicbjdmaaDoorG103f819dcb
import Derived.Test.YtkmoekbicbjdmaaDoorG228d3bb8bd
import Derived.ChangeArms
import Derived.Shelf.GgClosure.StringsIndexFunc
import Derived.Laws.RangeAny
import Derived.Laws.RangeString
import Derived.Lib.Join
/- Matches that are drawn have a kind from 1 to 4. No condition. -/
namespace Go.Proofs.YtkmoekbicbjdmaaDoor.Draw
open Go.RowKit Rw Mat
set_option linter.unusedVariables false
attribute [local go_sem ↓] Go.wp_at_zero Go.wp_at_succ
def smallK (x : Mat.E) : Prop := 1 ≤ x.1 ∧ x.1 ≤ 4 ∧ x.2.1.size ≤ 100 ∧ x.2.2.size ≤ 100
set_option maxRecDepth 100000 in
set_option maxHeartbeats 4000000 in
theorem matchesK_any (rb p : Nat) (w : World) (h : Rd w rb p) (hp : p ≤ 700000) :
    Calls Tryd.prog 52 #[.pointer (some ⟨rb, 0, none⟩)] w fun e w' => ∃ (zs : List Mat.E) (v : Value), e = .returned v ∧ zs.length ≤ 2 ∧ (∀ x ∈ zs, smallK x) ∧ w'.ownsRow w.heap.size 61 3 v zs.length (Mat.flat zs) ∧ (∃ p', p' ≤ p + 10 ∧ Rd w' rb p') ∧ w.grownBy w' (some rb) := by
  obtain ⟨i0, hi, hz0, hz1, hz2⟩ := info_parts Mat.info_e
  have hrl := h.lt
  have hmx : 1 ≤ maxLen := by unfold maxLen; omega
  have HR := hide h
  clear h
  go_enter Tryd.func52, Tryd.ntmps52
  go_wp2_with fail
  refine (pick_any rb p _ _ ((unhide HR).below ((Below.refl _ _).alloc (Nat.le_refl _) _)) (by omega) (by omega)).mono ?_
  rintro e w1 ⟨n, rfl, n0, n1, -, r1, g1⟩
  have n2 : n < 3 := n1 (by omega)
  have o1 := own_kept (own_empty (w := w) (base := w.heap.size) (e := 61) (size := 3) (Nat.le_refl _)) g1 hrl
  have q1 : w.grownBy w1 (some rb) := grown_trans (grown_below ((Below.refl _ _).alloc (Nat.le_refl _) _)) g1
  clear n1 HR g1
  go_wp2_with fail
  go_loopw [3, 4] (fun ov kv wr => ∃ (k : Nat) (L : List Mat.E) (p' : Nat), kv = .int .i64 (k : Int) ∧ L.length + k ≤ 2 ∧ p' ≤ p + 1 + 3 * L.length ∧ (∀ x ∈ L, smallK x) ∧ wr.ownsRow w.heap.size 61 3 ov L.length (Mat.flat L) ∧ Rd wr rb p' ∧ w.grownBy wr (some rb)) (fun _ kv _ => (intOf kv).toNat)
  case atStart => exact ⟨n.toNat, [], p + 1, by rw [Int.toNat_of_nonneg n0], by simp; omega, by simp, by simp, o1, r1, q1⟩
  case round =>
    clear o1 q1 r1
    obtain ⟨k, L, p', rfl, hk, hp', hsm, hown, hrd, hg⟩ := hrel
    have HM := hide hsm
    clear hsm
    have hsz := hg.size
    by_cases hk0 : 0 < k
    · have hk1 : (0 : Int) < (k : Int) := by omega
      go_wp2_with fail
      refine (pick_any rb p' _ _ hrd (by omega) (by omega)).mono ?_
      rintro e w2 ⟨d, rfl, d0, d1, -, r2, g2⟩
      have d2 : d < 4 := d1 (by omega)
      have o2 := own_kept hown g2 hrl
      have q2 := grown_trans hg g2
      clear d1 hown hg hrd g2
      go_wp2_with fail
      have hof := of_new rb (p' + 1) [⟨#[97, 112, 112]⟩, ⟨#[104, 111, 115, 116]⟩, ⟨#[122, 111, 110, 101]⟩, ⟨#[106, 111, 98]⟩] _ r2 (by omega) (by simp) (by simp)
      simp only [List.map_cons, List.map_nil, List.length_cons, List.length_nil, Nat.zero_add, Nat.reduceAdd] at hof
      refine hof.mono ?_
      clear hof
      rintro e w3 ⟨A, rfl, hA, r3, g3⟩
      have A0 := hide (show A.size ≤ 100 by
        simp only [List.mem_cons, List.not_mem_nil, or_false] at hA
        rcases hA with rfl | rfl | rfl | rfl <;> decide)
      have o3 := own_kept o2 g3 hrl
      have q3 := grown_trans q2 g3
      clear hA o2 q2 r2 g3
      go_wp2_with fail
      have hof := of_new rb (p' + 1 + 1) [⟨#[97]⟩, ⟨#[97, 98]⟩, ⟨#[98]⟩, ⟨#[]⟩, ⟨#[97, 98, 99]⟩, ⟨#[120]⟩] _ r3 (by omega) (by simp) (by simp)
      simp only [List.map_cons, List.map_nil, List.length_cons, List.length_nil, Nat.zero_add, Nat.reduceAdd] at hof
      refine hof.mono ?_
      clear hof
      rintro e w4 ⟨B, rfl, hB, r4, g4⟩
      have B0 := hide (show B.size ≤ 100 by
        simp only [List.mem_cons, List.not_mem_nil, or_false] at hB
        rcases hB with rfl | rfl | rfl | rfl | rfl | rfl <;> decide)
      have o4 := own_kept o3 g4 hrl
      have q4 := grown_trans q3 g4
      have hsz4 := q4.size
      clear hB o3 q3 r3 g4 hsz
      go_wp2_with (at_builtin; refine app_wp _ rfl _ _ _ rfl w.heap.size 61 i0 _ 3 40 Tryd.underlying32 hi hz0 hz1 hz2 rfl (by omega) _ L.length _ rfl (o4.alloc _) _ 1 [.int .i64 (1 + d), .string A, .string B] rfl (lies_new rfl rfl hmx) (by simp [Value.oneCell']) (by unfold maxLen; omega) (by omega) (by simp; omega) ?_; intro vn w9 on gn an)
      have ge := own_ge o4
      have R := hide (show w.grownBy w9 (some rb) from grown_other (grown_trans q4 (grown_below ((Below.refl _ _).alloc (Nat.le_refl _) _))) gn ge)
      have R1 := hide (show Rd w9 rb (p' + 1 + 1 + 1) from (r4.below ((Below.refl _ _).alloc (Nat.le_refl _) _)).grown gn (fun k hk => by have := ge k hk; omega))
      have R2 := hide (show w9.ownsRow w.heap.size 61 3 vn (L ++ [(1 + d, A, B)]).length (Mat.flat (L ++ [(1 + d, A, B)])) by rw [List.length_append, flat_snocM]; exact on)
      clear on gn ge o4 q4 r4 an
      go_wp2_with fail
      go_roundw
      case rel => exact ⟨k - 1, L ++ [(1 + d, A, B)], p' + 1 + 1 + 1, by go_num, by simp; omega, by simp; omega, by
          intro x hx
          rw [List.mem_append, List.mem_singleton] at hx
          rcases hx with hx | rfl
          · exact unhide HM x hx
          · exact ⟨by show 1 ≤ 1 + d; omega, by show 1 + d ≤ 4; omega, unhide A0, unhide B0⟩, unhide R2, unhide R1, unhide R⟩
      case measure => simp [intOf]; omega
    · have hk1 : decide ((0 : Int) < (k : Int)) = false := by simp; omega
      go_wp2_with fail
      go_ret
      exact ⟨L, _, rfl, by omega, unhide HM, hown, ⟨p', by omega, hrd⟩, hg⟩
end Go.Proofs.YtkmoekbicbjdmaaDoor.Draw

/- What the laws' own helpers do with slices of impl.Label: they are copied, held against each other, and counted. -/
namespace Go.Proofs.YtkmoekbicbjdmaaDoor.Lab
open Go.RowKit Rw
set_option linter.unusedVariables false
attribute [local go_sem ↓] Go.wp_at_zero Go.wp_at_succ
abbrev E := ByteArray × ByteArray
def fl (x : E) : List Value := [.string (x.1), .string (x.2)]
theorem flk (x : E) : (fl x).length = 2 := rfl
def at' (zs : List E) (i : Nat) : E := zs.getD i default
abbrev flat (zs : List E) : List Value := flatOf fl zs
abbrev Is (w : World) (v : Value) (zs : List E) : Prop := Lies w v zs.length 2 (flat zs)
theorem flat_length (zs : List E) : (flat zs).length = zs.length * 2 := flatOf_length flk zs
theorem flat_oneCell (zs : List E) : ∀ u ∈ flat zs, u.oneCell' = true := by
  intro u hu
  obtain ⟨x, _, hx⟩ := List.mem_flatMap.1 hu
  simp only [fl, List.mem_cons, List.not_mem_nil, or_false] at hx
  rcases hx with rfl | rfl <;> rfl
theorem at_get (zs : List E) (i : Nat) (h : i < zs.length) : at' zs i = zs[i] := by simp [at', List.getD, h]
theorem at_snoc (zs : List E) (i : Nat) (h : i < zs.length) : zs.take (i + 1) = zs.take i ++ [at' zs i] := by rw [List.take_succ_eq_append_getElem h, at_get zs i h]
theorem flat_at (zs : List E) (i : Nat) (h : i < zs.length) : (flat zs)[i * 2]? = some (.string ((at' zs i).1)) ∧ (flat zs)[i * 2 + 1]? = some (.string ((at' zs i).2)) := by
  rw [at_get zs i h]
  exact ⟨flatOf_get flk zs i 0 h (by omega), flatOf_get flk zs i 1 h (by omega)⟩
theorem is_of_own {w : World} {base : Nat} {v : Value} {zs : List E} (h : w.ownsRow base 47 2 v zs.length (flat zs)) : Is w v zs := lies_of_own h
theorem info_e : (Tryd.prog.info? 47).map (fun i => (i.zero, i.size, i.bytes)) = some (some (.agg #[.string ByteArray.empty, .string ByteArray.empty]), 2, 32) := by kernel_rfl
def good (x : E) : Prop := (x.1).size ≤ maxLen ∧ (x.2).size ≤ maxLen
theorem set_e (A : List Value) (u0 u1 x0 x1 : Value) (L : List Value) (k : Nat) (h : A.length = k) : (((A ++ u0 :: u1 :: L).set k x0).set (k + 1) x1) = A ++ [x0, x1] ++ L := by
  subst h
  simp [List.set_append_right]
theorem split_e (r : List Value) (n : Nat) (h : r.length = (n + 1) * 2) : ∃ u0 u1 L, r = u0 :: u1 :: L ∧ L.length = n * 2 := by
  match r, h with
  | u0 :: u1 :: L, h => exact ⟨u0, u1, L, rfl, by simp only [List.length_cons] at h; omega⟩
  | [], h => simp at h <;> omega
  | [_], h => simp at h <;> omega
theorem eq_one (A : ByteArray) (B : ByteArray) (w : World) : Calls Tryd.prog 54 #[.agg #[.string A, .string B], .agg #[.string A, .string B]] w fun e w' => e = .returned (.bool true) ∧ Below w.heap.size w w' := by
  go_enter Tryd.func54, Tryd.ntmps54
  go_wp2
  go_ret
  exact ⟨rfl, ((Below.refl _ _).alloc (Nat.le_refl _) _).alloc (by simp) _⟩
set_option maxRecDepth 100000 in
set_option maxHeartbeats 2000000 in
theorem eq_any {v u : Value} {zs : List E} {w : World} (h : Is w v zs) (h' : Is w u zs) : Calls Tryd.prog 25 #[v, u] w fun e w' => e = .returned (.bool true) ∧ Below w.heap.size w w' := by
  obtain ⟨-, a, cap, rfl, hc, hm, -, hr⟩ := h
  obtain ⟨-, a', cap', rfl, hc', hm', -, hr'⟩ := h'
  unfold maxLen at hm hm'
  obtain ⟨n, hn⟩ : ∃ n, n = zs.length := ⟨_, rfl⟩
  rw [← hn] at hc hr hc' hr' ⊢
  have HN := hide hn
  clear hn
  go_enter Tryd.func25, Tryd.ntmps25
  go_wp2
  go_loopw [5] (fun i wr => ∃ (j : Nat), j ≤ n ∧ i = .int .i64 j ∧ Below w.heap.size w wr) (fun i _ => n - (intOf i).toNat)
  case atStart => exact ⟨0, Nat.zero_le _, rfl, Below.refl _ _⟩
  case round =>
    obtain ⟨j, hj, rfl, hbel⟩ := hrel
    have hsz := hbel.size
    by_cases hlt : j < n
    · obtain ⟨b, off, rfl, hl, hcells⟩ := hr (by omega)
      obtain ⟨b', off', rfl, hl', hcells'⟩ := hr' (by omega)
      have fa := flat_at zs j (by have := unhide HN; omega)
      obtain ⟨A, B, hX⟩ : ∃ A B, (A, B) = at' zs j := ⟨_, _, rfl⟩
      rw [← hX] at fa
      have hq0 : ∀ x : Cls wr.heap.size wr, x.val.cell? ⟨b, off + j * 2, none⟩ = some (.string A) := fun x => by rw [x.cell (by omega)]; exact (hbel.cell (p := ⟨b, _, none⟩) hl).trans (hcells (j * 2) _ fa.1)
      have hp0 : ∀ x : Cls wr.heap.size wr, x.val.cell? ⟨b', off' + j * 2, none⟩ = some (.string A) := fun x => by rw [x.cell (by omega)]; exact (hbel.cell (p := ⟨b', _, none⟩) hl').trans (hcells' (j * 2) _ fa.1)
      have hq1 : ∀ x : Cls wr.heap.size wr, x.val.cell? ⟨b, off + j * 2 + 1, none⟩ = some (.string B) := fun x => by rw [x.cell (by omega)]; exact (hbel.cell (p := ⟨b, _, none⟩) hl).trans (hcells (j * 2 + 1) _ fa.2)
      have hp1 : ∀ x : Cls wr.heap.size wr, x.val.cell? ⟨b', off' + j * 2 + 1, none⟩ = some (.string B) := fun x => by rw [x.cell (by omega)]; exact (hbel.cell (p := ⟨b', _, none⟩) hl').trans (hcells' (j * 2 + 1) _ fa.2)
      have hk0 : (0 : Int) ≤ (j : Int) := Int.natCast_nonneg _
      have hk1 : (j : Int) < (n : Int) := by omega
      clear hX fa
      have hne := cls_nonempty wr.heap.size wr
      go_wp2_with fail
      refine region_cls (by kernel_rfl) (by kernel_rfl) ?_
      repeat (go_big_quiet_step ((go_at_call 54; exact cls_call (Nat.le_refl _) (eq_one _ _ _))))
      refine wpQuiet_nil ?_
      rintro wq ⟨⟨_, hq⟩, rfl⟩
      go_wp2
      go_roundw
      case rel => exact ⟨j + 1, by omega, by go_num, hbel.trans (hq.mono hsz)⟩
      case measure => simp [intOf]; omega
    · go_wp2
      go_ret
      exact ⟨rfl, hbel⟩
def tot (zs : List E) : Nat := zs.foldl (fun a x => a + ((x.1).size + (x.2).size)) zs.length
def totTo (zs : List E) (j : Nat) : Nat := (zs.take j).foldl (fun a x => a + ((x.1).size + (x.2).size)) zs.length
theorem totTo_succ (zs : List E) (j : Nat) (h : j < zs.length) : totTo zs (j + 1) = totTo zs j + (((at' zs j).1).size + ((at' zs j).2).size) := by
  unfold totTo
  rw [at_snoc zs j h, List.foldl_append]
  rfl
theorem totTo_mono (zs : List E) : ∀ (i j : Nat), i ≤ j → j ≤ zs.length → totTo zs i ≤ totTo zs j
  | i, 0, h, _ => by obtain rfl : i = 0 := by omega
                     exact Nat.le_refl _
  | i, j + 1, h, hj => by
    by_cases e : i = j + 1
    · subst e; exact Nat.le_refl _
    · have h1 := totTo_mono zs i j (by omega) (by omega)
      rw [totTo_succ zs j (by omega)]
      omega
theorem totTo_all (zs : List E) : totTo zs zs.length = tot zs := by unfold totTo tot; rw [List.take_of_length_le (Nat.le_refl _)]
theorem tot_len (zs : List E) : zs.length ≤ tot zs := by have := totTo_mono zs 0 zs.length (Nat.zero_le _) (Nat.le_refl _); rw [totTo_all] at this; unfold totTo at this; simpa using this
theorem tot_at (zs : List E) (j : Nat) (h : j < zs.length) : ((at' zs j).1).size + ((at' zs j).2).size ≤ tot zs := by
  have h1 := totTo_succ zs j h
  have h2 := totTo_mono zs (j + 1) zs.length (by omega) (Nat.le_refl _)
  rw [totTo_all] at h2
  omega
end Go.Proofs.YtkmoekbicbjdmaaDoor.Lab

/- Letters, names, words and labels, as plain mathematics. No condition. -/
namespace Go.Proofs.YtkmoekbicbjdmaaDoor.Lab
open Go.RowKit Rw
def letter (b : UInt8) : Bool := decide (97 ≤ b.toNat) && decide (b.toNat ≤ 122)
def letters (s : ByteArray) : Bool := s.data.toList.all letter
def notL (r : Nat) : Bool := decide (r < 97) || decide (122 < r)
theorem notL_of {b : UInt8} : notL b.toNat = !letter b := by
  unfold notL letter
  by_cases h1 : 97 ≤ b.toNat <;> by_cases h2 : b.toNat ≤ 122
  · have a1 : ¬ b.toNat < 97 := by omega
    have a2 : ¬ 122 < b.toNat := by omega
    simp [h1, h2, a1, a2]
  · have a1 : ¬ b.toNat < 97 := by omega
    have a2 : 122 < b.toNat := by omega
    simp [h2, a2]
  · have a1 : b.toNat < 97 := by omega
    simp [h1, a1]
  · omega
theorem idx_from (s : ByteArray) : ∀ (f pos : Nat), s.size ≤ pos + f → decide (Lib.idxFuncFrom notL true s f pos < 0) = (s.data.toList.drop pos).all letter
  | 0, pos, h => by
    have hl : s.data.toList.length = s.size := Array.length_toList
    have e : s.data.toList.drop pos = [] := List.drop_eq_nil_of_le (by omega)
    rw [e]
    rfl
  | f + 1, pos, h => by
    have hl : s.data.toList.length = s.size := Array.length_toList
    unfold Lib.idxFuncFrom
    by_cases hp : pos < s.size
    · rw [if_pos hp, List.drop_eq_getElem_cons (by omega), List.all_cons]
      have eb : s.data.toList[pos]'(by omega) = s[pos]'hp := rfl
      rw [eb]
      by_cases ha : (s[pos]'hp).toNat < 128
      · rw [decode_ascii s pos hp ha]
        have hn := notL_of (b := s[pos]'hp)
        rw [hn]
        cases hc : letter (s[pos]'hp)
        · have : ¬ (pos : Int) < 0 := by omega
          simp [this]
        · simp only [Bool.not_true, Bool.false_eq_true, if_false, Bool.true_and]
          exact idx_from s f (pos + 1) (by omega)
      · have hd := decode_high s pos hp (by omega)
        have hn : notL (Utf8.decode s pos).1 = true := by
          have : 122 < (Utf8.decode s pos).1 := by omega
          simp [notL, this]
        rw [if_pos hn]
        have hc : letter (s[pos]'hp) = false := by
          have : ¬ (s[pos]'hp).toNat ≤ 122 := by omega
          simp [letter, this]
        have : ¬ (pos : Int) < 0 := by omega
        simp [this, hc]
    · rw [if_neg hp, List.drop_eq_nil_of_le (by omega)]
      rfl
theorem idx_letters (s : ByteArray) : decide (Lib.idxFunc notL true s < 0) = letters s := by
  have := idx_from s s.size 0 (by omega)
  rw [List.drop_zero] at this
  exact this
def nameB (s : ByteArray) : Bool := decide (1 ≤ s.size) && decide (s.size ≤ 6) && letters s
def wordB (s : ByteArray) : Bool := decide (s.size ≤ 8) && letters s
def ltS (a b : ByteArray) : Bool := Op.bytesLess a.toList b.toList
def stepOk (zs : List E) (i : Nat) : Bool := nameB (at' zs i).1 && wordB (at' zs i).2 && decide (0 < (at' zs i).2.size) && (i == 0 || ltS (at' zs (i - 1)).1 (at' zs i).1)
def okTo (zs : List E) (k : Nat) : Bool := (List.range k).all (stepOk zs)
def ok (zs : List E) : Bool := decide (1 ≤ zs.length) && decide (zs.length ≤ 4) && okTo zs zs.length
theorem okTo_succ (zs : List E) (k : Nat) : okTo zs (k + 1) = (okTo zs k && stepOk zs k) := by simp [okTo, List.range_succ]
theorem ok_of_bad {zs : List E} {k : Nat} (hk : k < zs.length) (h : stepOk zs k = false) : ok zs = false := by
  have : okTo zs zs.length = false := by unfold okTo; rw [List.all_eq_false]; exact ⟨k, List.mem_range.2 hk, by simp [h]⟩
  unfold ok; rw [this, Bool.and_false]
theorem ok_of_len {zs : List E} (h : zs.length < 1 ∨ 4 < zs.length) : ok zs = false := by
  unfold ok
  rcases h with h | h
  · have : decide (1 ≤ zs.length) = false := decide_eq_false (by omega)
    rw [this]; rfl
  · have : decide (zs.length ≤ 4) = false := decide_eq_false (by omega)
    rw [this, Bool.and_false]; rfl
theorem ok_all {zs : List E} (h1 : 1 ≤ zs.length) (h4 : zs.length ≤ 4) (h : okTo zs zs.length = true) : ok zs = true := by
  unfold ok; rw [decide_eq_true h1, decide_eq_true h4, h]; rfl
theorem step_yes {zs : List E} {k : Nat} (h1 : nameB (at' zs k).1 = true) (h2 : wordB (at' zs k).2 = true) (h3 : 0 < (at' zs k).2.size) (h4 : k = 0 ∨ ltS (at' zs (k - 1)).1 (at' zs k).1 = true) : stepOk zs k = true := by
  unfold stepOk
  rw [h1, h2, decide_eq_true h3]
  rcases h4 with rfl | h4
  · rfl
  · rw [h4, Bool.or_true]; rfl
theorem step_name {zs : List E} {k : Nat} (h : nameB (at' zs k).1 = false) : stepOk zs k = false := by unfold stepOk; rw [h]; rfl
theorem step_word {zs : List E} {k : Nat} (h : wordB (at' zs k).2 = false) : stepOk zs k = false := by unfold stepOk; rw [h, Bool.and_false]; rfl
theorem step_empty {zs : List E} {k : Nat} (h : (at' zs k).2.size = 0) : stepOk zs k = false := by unfold stepOk; rw [h, show decide (0 < 0) = false from rfl, Bool.and_false]; rfl
theorem step_late {zs : List E} {k : Nat} (hk : 0 < k) (h : ltS (at' zs (k - 1)).1 (at' zs k).1 = false) : stepOk zs k = false := by
  have h0 : (k == 0) = false := by simp; omega
  unfold stepOk; rw [h, h0, Bool.false_or, Bool.and_false]
end Go.Proofs.YtkmoekbicbjdmaaDoor.Lab

/- Texts with a sign between, as plain mathematics. No condition. -/
namespace Go.Proofs.YtkmoekbicbjdmaaDoor.PutMath
def joinB (ps : List ByteArray) : List UInt8 := Lib.join (ps.map (·.data.toList)) [44]
theorem joinB_nil : joinB [] = [] := rfl
theorem joinTail_snoc (sep : List UInt8) (r : List (List UInt8)) (y : List UInt8) : Lib.joinTail sep (r ++ [y]) = Lib.joinTail sep r ++ (sep ++ y) := by simp [Lib.joinTail]
theorem joinB_snoc (ps : List ByteArray) (p : ByteArray) : joinB (ps ++ [p]) = (if ps.length = 0 then [] else joinB ps ++ [44]) ++ p.data.toList := by
  unfold joinB
  cases ps with
  | nil => simp [Lib.join_one]
  | cons x r => simp [Lib.join_cons, joinTail_snoc]
theorem joinB_len (ps : List ByteArray) (M : Nat) (h : ∀ p ∈ ps, p.size ≤ M) : (joinB ps).length ≤ ps.length * (M + 1) := by
  have t : ∀ (r : List ByteArray), (∀ p ∈ r, p.size ≤ M) → (Lib.joinTail [44] (r.map (·.data.toList))).length ≤ r.length * (M + 1) := by
    intro r
    induction r with
    | nil => intro _; simp [Lib.joinTail]
    | cons x r ih =>
      intro hr
      have h1 := ih (fun p hp => hr p (List.mem_cons_of_mem _ hp))
      have h2 := hr x (List.mem_cons_self ..)
      have hl : x.data.toList.length = x.size := Array.length_toList
      have e : Lib.joinTail [44] ((x :: r).map (·.data.toList)) = [44] ++ x.data.toList ++ Lib.joinTail [44] (r.map (·.data.toList)) := by simp [Lib.joinTail]
      have e2 : (x :: r).length * (M + 1) = r.length * (M + 1) + (M + 1) := by rw [List.length_cons, Nat.add_mul, Nat.one_mul]
      rw [e, e2, List.length_append, List.length_append, hl]
      simp only [List.length_cons, List.length_nil]
      omega
  unfold joinB
  cases ps with
  | nil => simp [Lib.join_nil]
  | cons x r =>
    have h1 := t r (fun p hp => h p (List.mem_cons_of_mem _ hp))
    have h2 := h x (List.mem_cons_self ..)
    have hl : x.data.toList.length = x.size := Array.length_toList
    rw [List.map_cons, Lib.join_cons, List.length_append, List.length_cons, Nat.add_mul, hl]
    omega
theorem app_toList (a b : ByteArray) : (a ++ b).data.toList = a.data.toList ++ b.data.toList := by simp [ByteArray.data_append]
theorem of_toList (l : List UInt8) : (⟨l.toArray⟩ : ByteArray).data.toList = l := by simp
theorem size_of (l : List UInt8) : (⟨l.toArray⟩ : ByteArray).size = l.length := by simp [ByteArray.size]
/-- open, what stands between, shut -/
def wrap (o s : UInt8) (ps : List ByteArray) : ByteArray := ⟨(o :: joinB ps ++ [s]).toArray⟩
/-- the text of the loop that puts one part behind the other -/
def out (o : UInt8) (ps : List ByteArray) : ByteArray := ⟨(o :: joinB ps).toArray⟩
theorem out_size (o : UInt8) (ps : List ByteArray) : (out o ps).size = (joinB ps).length + 1 := by rw [out, size_of, List.length_cons]
theorem wrap_join (o s : UInt8) (ps : List ByteArray) : (⟨#[o]⟩ ++ (⟨(joinB ps).toArray⟩ : ByteArray)) ++ ⟨#[s]⟩ = wrap o s ps := by
  apply Go.WideShapes.bytes_inj
  rw [app_toList, app_toList]
  simp [wrap]
theorem wrap_out (o s : UInt8) (ps : List ByteArray) : out o ps ++ ⟨#[s]⟩ = wrap o s ps := by
  apply Go.WideShapes.bytes_inj
  rw [app_toList]
  simp [wrap, out]
theorem out_first (o : UInt8) : out o [] = ⟨#[o]⟩ := by simp [out, joinB_nil]
theorem out_next (o : UInt8) (ps : List ByteArray) (p q : ByteArray) (h : (if ps.length = 0 then out o ps else out o ps ++ ⟨#[44]⟩) = q) : q ++ p = out o (ps ++ [p]) := by
  subst h
  apply Go.WideShapes.bytes_inj
  have e : (out o (ps ++ [p])).data.toList = o :: joinB (ps ++ [p]) := by unfold out; rw [of_toList]
  have e0 : (out o ps).data.toList = o :: joinB ps := by unfold out; rw [of_toList]
  rw [app_toList, e, joinB_snoc]
  by_cases h0 : ps.length = 0
  · obtain rfl : ps = [] := List.eq_nil_of_length_eq_zero h0
    simp [out, joinB_nil]
  · rw [if_neg h0, if_neg h0, app_toList, e0]
    simp
theorem app_assoc (a b c : ByteArray) : a ++ b ++ c = a ++ (b ++ c) := by
  apply Go.WideShapes.bytes_inj
  rw [app_toList, app_toList, app_toList, app_toList, List.append_assoc]
theorem app_size (a b : ByteArray) : (a ++ b).size = a.size + b.size := by
  have h : ∀ x : ByteArray, x.data.toList.length = x.size := fun x => Array.length_toList
  rw [← h, ← h a, ← h b, app_toList, List.length_append]
end Go.Proofs.YtkmoekbicbjdmaaDoor.PutMath
