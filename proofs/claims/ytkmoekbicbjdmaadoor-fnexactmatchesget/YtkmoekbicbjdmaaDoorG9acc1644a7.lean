/- My own texts of one claim, laid together by program: MatGet3, MatMark, MatUni, FnExactMatchesGetWalk. -/
import Derived.Test.YtkmoekbicbjdmaaDoorG1589a1539e
import Derived.Deep.RegionHeld3
import Derived.Test.YtkmoekbicbjdmaaDoorG2878ebd243
import Derived.Test.YtkmoekbicbjdmaaDoorGcd34e07ed4
/- MatchesGet of the model, at every text. No condition but the text's length. -/
namespace Go.Proofs.YtkmoekbicbjdmaaDoor.Mat
open Go.RowKit Rw PutMath CutText
open Lab (l3Cut_any piecesOf pieces_cell flatS mid ofL cutB_ofL mid_ext own_len own_grown)
set_option linter.unusedVariables false
set_option linter.unusedSimpArgs false
attribute [local go_sem ↓] Go.wp_at_zero Go.wp_at_succ
theorem kind_some {p : ByteArray} {i : Nat} {k : Nat} (h1 : 1 ≤ k) (h4 : k ≤ 4) (hq : sgn k = bAt p i) (hi : i < p.size) (h : ∀ j, j < i → kindB (bAt p j) = 0) : matchS p = some ((k : Int), p.extract 0 i, p.extract (i + 1) p.size) := by
  have hk : kindB (bAt p i) = (k : Int) := (kind_eq (by omega) (by omega)).2 hq
  rw [matchS_hit hi h (by rw [hk]; omega)]
  unfold cutAt
  rw [hk]
theorem mbox_set {w : World} {q : Nat} {a b c : Value} (x y z : Value) (h : MB w q a b c) : (w.setCell ⟨q, 0, none⟩ x).cell? ⟨q, 0, none⟩ = some x ∧ ((w.setCell ⟨q, 0, none⟩ x).setCell ⟨q, 1, none⟩ y).cell? ⟨q, 1, none⟩ = some y ∧ (((w.setCell ⟨q, 0, none⟩ x).setCell ⟨q, 1, none⟩ y).setCell ⟨q, 2, none⟩ z).cell? ⟨q, 2, none⟩ = some z ∧ (w.setCell ⟨q, 1, none⟩ y).cell? ⟨q, 1, none⟩ = some y ∧ (w.setCell ⟨q, 2, none⟩ z).cell? ⟨q, 2, none⟩ = some z := by
  have h2 : MB (w.setCell ⟨q, 0, none⟩ x) q x b c := (h.stored 0 x).1
  have h3 : MB ((w.setCell ⟨q, 0, none⟩ x).setCell ⟨q, 1, none⟩ y) q x y c := (h2.stored 1 y).1
  have h4 : MB (((w.setCell ⟨q, 0, none⟩ x).setCell ⟨q, 1, none⟩ y).setCell ⟨q, 2, none⟩ z) q x y z := (h3.stored 2 z).1
  have g1 : MB (w.setCell ⟨q, 1, none⟩ y) q a y c := (h.stored 1 y).1
  have g2 : MB (w.setCell ⟨q, 2, none⟩ z) q a b z := (h.stored 2 z).1
  exact ⟨(mbox_three h2).1, (mbox_three h3).2.1, (mbox_three h4).2.2, (mbox_three g1).2.1, (mbox_three g2).2.2⟩
theorem mbox_fz {w : World} {q : Nat} {x y z : Value} (h : MB w q x y z) : w.frozen? ⟨q, 0, none⟩ = false ∧ w.frozen? ⟨q, 1, none⟩ = false ∧ w.frozen? ⟨q, 2, none⟩ = false := ⟨h.frozenAt 0, h.frozenAt 1, h.frozenAt 2⟩
set_option maxRecDepth 100000 in
set_option maxHeartbeats 4000000 in
theorem l3Match_any (p : ByteArray) (w : World) (hp : p.size ≤ 4194304) : Calls Tryd.prog 53 #[.string p] w fun e w' => e = .returned (.tuple #[.agg #[.int .i64 ((matchS p).getD zE).1, .string ((matchS p).getD zE).2.1, .string ((matchS p).getD zE).2.2], .bool (matchS p).isSome]) ∧ Below w.heap.size w w' := by
  obtain ⟨X, hX⟩ : ∃ X, X = matchS p := ⟨_, rfl⟩
  rw [← hX]
  have HX := hide hX
  obtain ⟨W0, hW0⟩ : ∃ W, w.alloc (.cells #[.int .i64 0, .string ⟨#[]⟩, .string ⟨#[]⟩] 61) = W := ⟨_, rfl⟩
  have b0 : Below w.heap.size w W0 := by rw [← hW0]; exact (Below.refl _ _).alloc (Nat.le_refl _) _
  have z0 : w.heap.size < W0.heap.size := by rw [← hW0]; simp
  have MB0 : MB W0 w.heap.size (.int .i64 0) (.string ⟨#[]⟩) (.string ⟨#[]⟩) := by rw [← hW0]; exact mbox_new _ _ _ _
  have HMB := hide (fun W (hb : Below W0.heap.size W0 W) => own_below MB0 hb)
  clear MB0 hX
  go_enter Tryd.func53, Tryd.ntmps53
  go_wp2_with fail
  clear hW0
  go_loopw [4] (fun iv wr => ∃ i : Nat, i ≤ p.size ∧ iv = .int .i64 (i : Int) ∧ Hid (∀ j, j < i → kindB (bAt p j) = 0) ∧ Below W0.heap.size W0 wr) (fun iv _ => p.size - (intOf iv).toNat)
  case atStart => exact ⟨0, by omega, rfl, fun j h => by omega, Below.refl _ _⟩
  case round =>
    obtain ⟨i, hi, rfl, HI, hbel⟩ := hrel
    have hsz := hbel.size
    obtain ⟨wo, hwo⟩ : ∃ wo, wo = wr := ⟨_, rfl⟩
    subst hwo
    have i0 : (0 : Int) ≤ (i : Int) := Int.natCast_nonneg _
    by_cases hil : i < p.size
    · have HSg := hide (fun k : Int => sign_ext (k := k) hil)
      have hiI : (i : Int) < (p.size : Int) := by omega
      have n2 : (i : Int) + 1 ≤ (p.size : Int) := by omega
      have n3 : i + 1 ≤ p.size := by omega
      have n4 : (i : Int) ≤ (p.size : Int) := by omega
      have n6 : IntKind.i64.wrap ((i : Int) + 1) = (i : Int) + 1 := Grl.wrap_ok (by omega) (by omega)
      have n7 : (0 : Int) ≤ (i : Int) + 1 := by omega
      have n8 : (i : Int) ≤ (i : Int) + 1 := by omega
      have n9 : ((i : Int) + 1).toNat = i + 1 := by omega
      go_wp2_with fail
      go_loopw [5] (fun kv wr => ∃ k : Nat, 1 ≤ k ∧ k ≤ 5 ∧ kv = .int .i64 (k : Int) ∧ Hid (∀ j : Nat, 1 ≤ j → j < k → sgn j ≠ bAt p i) ∧ Below W0.heap.size W0 wr) (fun kv _ => 5 - (intOf kv).toNat)
      case atStart => exact ⟨1, by omega, by omega, rfl, fun j h1 h2 => by omega, hbel⟩
      case round =>
        clear hbel hsz
        obtain ⟨k, hk1, hk5, rfl, HJ, hbel⟩ := hrel
        have hsz := hbel.size
        by_cases hk : k ≤ 4
        · have hkI : (k : Int) ≤ 4 := by omega
          have hkI1 : (1 : Int) ≤ (k : Int) := by omega
          have hsame := unhide HSg k
          have HSn := hide (l3Sign_any k wr.drew hkI1 hkI)
          have bd := hbel.drew
          by_cases hq : sgn k = bAt p i
          · have hss : sameS (p.extract i (i + 1)) (signB k) = true := by rw [hsame, hq]; simp
            have hself : ((p.extract i (i + 1)).toList == (signB k).toList) = true := hss
            have HXX := hide ((unhide HX).trans (kind_some hk1 hk hq hil (unhide HI)))
            generalize signB k = SK at HSn hself
            clear hsame hss hq HSg HJ
            go_wp2_with fail
            go_region_held3 (fun _ => True) (trivial) ((go_at_call 70; refine (unhide HSn).mono ?_; rintro e w3 ⟨rfl, b3⟩))
            have c3 := bd.trans (b3.mono bd.size)
            clear HSn b3 bd
            have c3d := c3.drew
            obtain ⟨q0, q1, q2⟩ := mbox_three (unhide HMB w3 c3)
            obtain ⟨f0, f1, f2⟩ := mbox_fz (unhide HMB w3 c3)
            obtain ⟨s0, s1, s2, s3, s4⟩ := mbox_set (.int .i64 k) (.string (p.extract 0 i)) (.string (p.extract (i + 1) p.size)) (unhide HMB w3 c3)
            obtain ⟨⟨m0, mf0⟩, ⟨m1, mf1⟩, ⟨m2, mf2⟩, M9, O9⟩ := mbox_put (.int .i64 k) (.string (p.extract 0 i)) (.string (p.extract (i + 1) p.size)) (unhide HMB w3.drew c3d)
            obtain ⟨r0, r1, r2⟩ := mbox_three M9
            have B9 := (b0.trans (c3d.mono b0.size)).trans (O9.below (Nat.le_refl _))
            clear M9 O9
            go_wp2_with fail
            refine Grl.start (S := fun _ => True) (by kernel_rfl) (by trivial) (fun hHeld => ?_)
            refine Grl.yes 0 (v := ?_) rfl (by kernel_rfl) (by kernel_rfl) (by kernel_rfl) (fun _ _ _ h => h) (by kernel_rfl) ?_ (by assumption) ?_
            rotate_left
            · (intro w hSw; (try dsimp only at hSw); go_simp; try with_reducible rfl)
            simp only [Act.put, List.setIfInBounds_toArray, List.set_cons_zero, List.set_cons_succ]
            refine Grl.yes 1 (v := ?_) rfl (by kernel_rfl) (by kernel_rfl) (by kernel_rfl) (fun _ _ _ h => h) (by kernel_rfl) ?_ (by assumption) ?_
            rotate_left
            · (intro w hSw; (try dsimp only at hSw); go_simp; try with_reducible rfl)
            simp only [Act.put, List.setIfInBounds_toArray, List.set_cons_zero, List.set_cons_succ]
            refine Grl.yes 2 (v := ?_) rfl (by kernel_rfl) (by kernel_rfl) (by kernel_rfl) (fun _ _ _ h => h) (by kernel_rfl) ?_ (by assumption) ?_
            rotate_left
            · (intro w hSw; (try dsimp only at hSw); go_simp; try with_reducible rfl)
            simp only [Act.put, List.setIfInBounds_toArray, List.set_cons_zero, List.set_cons_succ]
            refine Grl.yes 3 (v := ?_) rfl (by kernel_rfl) (by kernel_rfl) (by kernel_rfl) (fun _ _ _ h => h) (by kernel_rfl) ?_ (by assumption) ?_
            rotate_left
            · (intro w hSw; (try dsimp only at hSw); go_simp; try with_reducible rfl)
            simp only [Act.put, List.setIfInBounds_toArray, List.set_cons_zero, List.set_cons_succ]
            refine Grl.yes 4 (v := ?_) rfl (by kernel_rfl) (by kernel_rfl) (by kernel_rfl) (fun _ _ _ h => h) (by kernel_rfl) ?_ (by assumption) ?_
            rotate_left
            · (intro w hSw; (try dsimp only at hSw); go_simp; try with_reducible rfl)
            simp only [Act.put, List.setIfInBounds_toArray, List.set_cons_zero, List.set_cons_succ]
            refine Grl.yes 5 (v := ?_) rfl (by kernel_rfl) (by kernel_rfl) (by kernel_rfl) (fun _ _ _ h => h) (by kernel_rfl) ?_ (by assumption) ?_
            rotate_left
            · (intro w hSw; (try dsimp only at hSw); go_simp; try with_reducible rfl)
            simp only [Act.put, List.setIfInBounds_toArray, List.set_cons_zero, List.set_cons_succ]
            refine Grl.yes 6 (v := ?_) rfl (by kernel_rfl) (by kernel_rfl) (by kernel_rfl) (fun _ _ _ h => h) (by kernel_rfl) ?_ (by assumption) ?_
            rotate_left
            · (intro w hSw; (try dsimp only at hSw); go_simp; try with_reducible rfl)
            simp only [Act.put, List.setIfInBounds_toArray, List.set_cons_zero, List.set_cons_succ]
            refine Grl.yes 7 (v := ?_) rfl (by kernel_rfl) (by kernel_rfl) (by kernel_rfl) (fun _ _ _ h => h) (by kernel_rfl) ?_ (by assumption) ?_
            rotate_left
            · (intro w hSw; (try dsimp only at hSw); go_simp; try with_reducible rfl)
            simp only [Act.put, List.setIfInBounds_toArray, List.set_cons_zero, List.set_cons_succ]
            refine Grl.yes 8 (v := ?_) rfl (by kernel_rfl) (by kernel_rfl) (by kernel_rfl) (fun _ _ _ h => h) (by kernel_rfl) ?_ (by assumption) ?_
            rotate_left
            · (intro w hSw; (try dsimp only at hSw); go_simp; try with_reducible rfl)
            simp only [Act.put, List.setIfInBounds_toArray, List.set_cons_zero, List.set_cons_succ]
            refine Grl.one 9 rfl (by kernel_rfl) (fun K hK => ?_)
            go_simp
            skip
            refine hK.out _ _ (by trivial) (fun hHeld => ?_)
            clear hK K
            refine Grl.yes 10 (v := ?_) rfl (by kernel_rfl) (by kernel_rfl) (by kernel_rfl) (fun _ _ _ h => h) (by kernel_rfl) ?_ (by assumption) ?_
            rotate_left
            · (intro w hSw; (try dsimp only at hSw); go_simp; try with_reducible rfl)
            simp only [Act.put, List.setIfInBounds_toArray, List.set_cons_zero, List.set_cons_succ]
            refine wpAnyH_done (by kernel_rfl) ?_ _
            go_wp2_with fail
            refine bodyPost_ret (v := .tuple #[.agg #[.int .i64 k, .string (p.extract 0 i), .string (p.extract (i + 1) p.size)], .bool true]) (by simp [results, Tryd.results53, go_sem, r0, r1, r2, s0, s1, s2, s3, s4]) rfl ?_
            obtain rfl := unhide HXX
            exact ⟨rfl, B9⟩
          · have hss : sameS (p.extract i (i + 1)) (signB k) = false := by
              rw [hsame]; exact decide_eq_false hq
            have hself : ((p.extract i (i + 1)).toList == (signB k).toList) = false := hss
            have HJ2 := hide (show ∀ j : Nat, 1 ≤ j → j < k + 1 → sgn j ≠ bAt p i from fun j h1 h2 => by
              rcases Nat.lt_or_ge j k with h3 | h3
              · exact unhide HJ j h1 h3
              · obtain rfl : j = k := by omega
                exact hq)
            generalize signB k = SK at HSn hself
            clear hsame hss hq HJ
            go_wp2_with fail
            go_region_held3 (fun _ => True) (trivial) ((go_at_call 70; refine (unhide HSn).mono ?_; rintro e w3 ⟨rfl, b3⟩))
            have c3 := bd.trans (b3.mono bd.size)
            clear HSn b3 bd
            go_wp2_with fail
            go_roundw
            case rel => exact ⟨k + 1, by omega, by omega, by go_num, HJ2, c3⟩
            case measure => first | (simp [intOf]; done) | (simp [intOf]; omega)
        · obtain rfl : k = 5 := by omega
          have hkf : decide ((5 : Int) ≤ 4) = false := by decide
          have HI2 := hide (show ∀ j, j < i + 1 → kindB (bAt p j) = 0 from fun j h => by
            rcases Nat.lt_or_ge j i with h3 | h3
            · exact unhide HI j h3
            · obtain rfl : j = i := by omega
              exact kind_none (unhide HJ))
          clear HSg HJ
          go_wp2_with fail
          go_roundw
          case rel => exact ⟨i + 1, by omega, by go_num, HI2, hbel⟩
          case measure => first | (simp [intOf]; done) | (simp [intOf]; omega)
    · obtain rfl : i = p.size := by omega
      have hif : decide ((p.size : Int) < (p.size : Int)) = false := by simp
      have HXX := hide ((unhide HX).trans (matchS_none (unhide HI)))
      obtain ⟨⟨m0, mf0⟩, ⟨m1, mf1⟩, ⟨m2, mf2⟩, M9, O9⟩ := mbox_put (.int .i64 0) (.string ⟨#[]⟩) (.string ⟨#[]⟩) (unhide HMB wo hbel)
      obtain ⟨r0, r1, r2⟩ := mbox_three M9
      have B9 := (b0.trans (hbel.mono b0.size)).trans (O9.below (Nat.le_refl _))
      clear M9 O9
      go_wp2_with fail
      refine bodyPost_ret (v := .tuple #[.agg #[.int .i64 0, .string ⟨#[]⟩, .string ⟨#[]⟩], .bool false]) (by simp [results, Tryd.results53, go_sem, r0, r1, r2]) rfl ?_
      obtain rfl := unhide HXX
      exact ⟨rfl, B9⟩
theorem ok_good {zs : List E} (h : ok zs = true) : ∀ x ∈ zs, good x := fun x hx => by
  have := (ok_small h).2 x hx
  exact good_of (n := 1000) ⟨this.2.2.1, this.2.2.2, by omega, by omega⟩ (by unfold maxLen; omega)
/-- what was put, read -/
theorem put_any (zs : List E) : (put zs).size ≤ 200 ∧ getB (put zs) = (if ok zs = true then zs else [], ok zs) := by
  cases h : ok zs
  · have e : put zs = ByteArray.empty := by unfold put; rw [h]; rfl
    rw [e]
    exact ⟨by decide, getB_len (.inl (by decide))⟩
  · exact ⟨(put_size h).2, by rw [getB_put h]; rfl⟩
theorem getB_four (s : ByteArray) : (getB s).1.length ≤ 4 := by
  by_cases hc : s.size ≠ 0 ∧ put (pI s) = s
  · rw [getB_of hc.2 hc.1]
    exact ok_len (of_put hc.2 hc.1)
  · unfold getB
    rw [if_neg hc]
    simp
set_option maxRecDepth 100000 in
set_option maxHeartbeats 4000000 in
theorem spec_get (s : ByteArray) (w : World) (hs : s.size ≤ 4194304) : Calls Tryd.prog 24 #[.string s] w (Got s w) := by
  obtain ⟨i0, hi, hz0, hz1, hz2⟩ := info_parts info_e
  have hmx : 1 ≤ maxLen := by unfold maxLen; omega
  unfold Got
  obtain ⟨G, hG⟩ : ∃ G, G = getB s := ⟨_, rfl⟩
  rw [← hG]
  have HG := hide hG
  clear hG
  have HE := hide (Lab.own_empty w 61 3)
  have HB0 := hide ((Below.refl w.heap.size w).alloc (Nat.le_refl _) (.cells #[] 61))
  by_cases hnil : s = nilT
  · have hsn : s = (⟨#[91, 93]⟩ : ByteArray) := hnil
    have HF := hide ((unhide HG).trans ((congrArg getB hnil).trans getB_nil))
    have hrun : ∀ W, (binOp .eql 9 (.string (⟨#[91, 93]⟩ : ByteArray)) (.string ⟨#[91, 93]⟩)).run Tryd.prog W = .ok (.bool true) W := fun W => by rw [Lab.run_eql]; simp
    clear HG hnil
    subst hsn
    go_enter Tryd.func24, Tryd.ntmps24
    go_wp2_with fail
    go_ret2
    obtain rfl := unhide HF
    exact ⟨_, rfl, unhide HE, unhide HB0⟩
  have hnn : (s.toList == (⟨#[91, 93]⟩ : ByteArray).toList) = false := sameS_no.2 hnil
  have hrun : ∀ W, (binOp .eql 9 (.string s) (.string ⟨#[91, 93]⟩)).run Tryd.prog W = .ok (.bool false) W := fun W => by rw [Lab.run_eql, hnn]
  have hl9 : (⟨#[91, 93]⟩ : ByteArray).toList = [91, 93] := by rw [ByteArray.toList_eq]
  have hnn2 : (s.toList == [91, 93]) = false := by rw [← hl9]; exact hnn
  have HNl := hide hnil
  clear hnil hl9
  by_cases h1 : s.size < 2
  · have HF := hide ((unhide HG).trans (getB_len (.inl h1)))
    have h1I : (s.size : Int) < 2 := by omega
    clear HG
    go_enter Tryd.func24, Tryd.ntmps24
    go_wp2_with fail
    go_ret2
    obtain rfl := unhide HF
    exact ⟨_, rfl, unhide HE, unhide HB0⟩
  have h1I : decide ((s.size : Int) < 2) = false := by simp; omega
  have h1N : decide (s.size < 2) = false := by simp; omega
  by_cases h2 : 200 < s.size
  · have HF := hide ((unhide HG).trans (getB_len (.inr h2)))
    have h2I : (200 : Int) < (s.size : Int) := by omega
    clear HG
    go_enter Tryd.func24, Tryd.ntmps24
    go_wp2_with fail
    go_ret2
    obtain rfl := unhide HF
    exact ⟨_, rfl, unhide HE, unhide HB0⟩
  have h2I : decide ((200 : Int) < (s.size : Int)) = false := by simp; omega
  have h2N : decide (200 < s.size) = false := by simp; omega
  obtain ⟨n1, hn1⟩ : ∃ n, n = s.size - 1 := ⟨_, rfl⟩
  have hnI : (s.size : Int) - 1 = (n1 : Int) := by omega
  have hn2 : 1 ≤ n1 := by omega
  have hn2I : (1 : Int) ≤ (n1 : Int) := by omega
  have hn3 : n1 ≤ s.size := by omega
  have hn3I : (n1 : Int) ≤ (s.size : Int) := by omega
  have HX := hide (show (s.extract 1 n1).data.toList = mid s by rw [hn1]; exact mid_ext (by omega))
  have HXs := hide (show (s.extract 1 n1).size ≤ 200 by rw [ByteArray.size_extract]; omega)
  have HS2 := hide (show 2 ≤ s.size by omega)
  have HCut := hide (fun W => l3Cut_any (s.extract 1 n1) 44 44 rfl W (by have := unhide HXs; omega))
  obtain ⟨T, hT⟩ : ∃ T, T = cutL 44 (mid s) := ⟨_, rfl⟩
  have HTP := hide (show cutB 44 (s.extract 1 n1) = T.map ofL by unfold cutB; rw [unhide HX, hT]; rfl)
  have hml : (mid s).length ≤ 200 := by
    rw [← unhide HX]
    have h4 : (s.extract 1 n1).data.toList.length = (s.extract 1 n1).size := Array.length_toList
    have := unhide HXs
    omega
  have HTL := hide (show T.length ≤ 201 by rw [hT]; have := cutL_len 44 (mid s); omega)
  have HTM := hide (show ∀ t ∈ T, t.length ≤ 200 from fun t ht => by
    rw [hT] at ht
    have h3 := cutL_mem 44 (mid s) t ht
    omega)
  rw [unhide HTP] at HCut
  simp only [List.length_map] at HCut
  have HT := hide hT
  clear hn1 hT hml
  go_enter Tryd.func24, Tryd.ntmps24
  go_wp2_with fail
  refine (unhide HCut _).mono ?_
  rintro e w1 ⟨v, rfl, ov, b1⟩
  have z1 := b1.size
  simp only [World.size_alloc] at z1
  obtain ⟨va, vq, rfl, hq1, hq2⟩ : ∃ a q, v = .slice a T.length q ∧ T.length ≤ q ∧ q ≤ maxLen := by obtain ⟨-, a, q, e, h1, h2, -⟩ := lies_of_own ov; exact ⟨a, q, e, h1, h2⟩
  unfold maxLen at hq2
  obtain ⟨n, hn⟩ : ∃ n, n = T.length := ⟨_, rfl⟩
  have HN := hide hn
  rw [← hn] at ov hq1 ⊢
  have OV := hide (own_mono ov (show w.heap.size ≤ (w.alloc (.cells #[] 61)).heap.size by simp))
  have hnb : n ≤ 201 := by rw [hn]; exact unhide HTL
  have OE := hide (own_below (unhide HE) b1)
  have B1 := (unhide HB0).trans (b1.mono (by simp))
  clear ov hn b1 HE HB0 HCut
  go_wp2_with fail
  go_loopw [4, 6] (fun ov i wr => ∃ (k : Nat) (pa : Option Addr) (pc : Nat), k ≤ n ∧ i = .int .i64 k ∧ ov = .slice pa k pc ∧ wr.ownsRow w.heap.size 61 3 (.slice pa k pc) k (flat ((T.take k).map oneS)) ∧ Hid (wr.ownsRow w.heap.size 9 1 (.slice va n vq) n (flatS (T.map ofL))) ∧ Below w.heap.size w wr) (fun _ i _ => n - (intOf i).toNat)
  case atStart => exact ⟨0, _, 0, Nat.zero_le _, rfl, rfl, unhide OE, OV, B1⟩
  case round =>
    clear OE OV B1 z1
    obtain ⟨k, pa, pc, hk, rfl, rfl, hown, HV, hbel⟩ := hrel
    have hsz := hbel.size
    have hk0 : (0 : Int) ≤ (k : Int) := Int.natCast_nonneg _
    by_cases hlt : k < n
    · have hkT : k < T.length := by rw [← unhide HN]; exact hlt
      obtain ⟨a', q', e', -, -, hcl⟩ := pieces_cell (P := T.map ofL) (own_len (unhide HV) (by rw [List.length_map]; exact unhide HN) rfl)
      simp only [Value.slice.injEq] at e'
      obtain ⟨rfl, -, rfl⟩ := e'
      obtain ⟨b, off, rfl, hbl, hc0⟩ := hcl k (by rw [List.length_map]; exact hkT)
      rw [List.getElem_map] at hc0
      have hts := unhide HTM T[k] (List.getElem_mem hkT)
      have HPS := hide (show flat ((T.take (k + 1)).map oneS) = flat ((T.take k).map oneS) ++ [.int .i64 (oneS T[k]).1, .string (oneS T[k]).2.1, .string (oneS T[k]).2.2] by
        rw [List.take_succ_eq_append_getElem hkT, List.map_append]; unfold flat; rw [flatOf_append, List.map_cons, List.map_nil, flatOf_one]; rfl)
      have HMem := hide (show T[k] ∈ cutL 44 (mid s) by rw [← unhide HT]; exact List.getElem_mem hkT)
      obtain ⟨t, ht⟩ : ∃ t, t = T[k] := ⟨_, rfl⟩
      rw [← ht] at hc0 hts HPS HMem
      have HC1 := hide (l3Match_any (ofL t) wr (by rw [ofL, size_of]; omega))
      have hk1 : (k : Int) < (n : Int) := by omega
      cases hM : matchS (ofL t) with
      | some X =>
        obtain ⟨K, A, B⟩ := X
        have hO : oneS t = (K, A, B) := by unfold oneS; rw [hM]; rfl
        rw [hM] at HC1
        rw [hO] at HPS
        simp only [Option.getD_some, Option.isSome_some] at HC1
        dsimp only at HPS
        clear ht hcl hO hM
        go_wp2_with fail
        refine (unhide HC1).mono ?_
        rintro e w2 ⟨rfl, b2⟩
        have z2 := b2.size
        obtain ⟨W3, hW3⟩ : ∃ W, w2.alloc (.cells #[.int .i64 K, .string A, .string B] 61) = W := ⟨_, rfl⟩
        have b3 : Below w2.heap.size w2 W3 := by rw [← hW3]; exact (Below.refl _ _).alloc (Nat.le_refl _) _
        have M3 : MB W3 w2.heap.size (.int .i64 K) (.string A) (.string B) := by rw [← hW3]; exact mbox_new _ _ _ _
        obtain ⟨k0, k1, k2⟩ := mbox_three M3
        have b23 := b2.trans (b3.mono z2)
        have hown2 := own_below hown b23
        have HV2 := hide (own_below (unhide HV) b23)
        have hbel2 := hbel.trans (b23.mono hsz)
        have hsz2 := hbel2.size
        clear hown HC1 hc0 b2 b3 HMem M3 b23
        go_wp2_with (at_builtin; refine app_wp _ rfl _ _ _ rfl w.heap.size 61 i0 _ 3 40 Tryd.underlying32 hi hz0 hz1 hz2 rfl (by omega) _ k _ rfl (hown2.alloc _) _ 1 [.int .i64 K, .string A, .string B] rfl (lies_new (by simp) rfl hmx) (by simp [Value.oneCell']) (by unfold maxLen; omega) (by omega) (by simp; omega) ?_; intro vn wn on gn an)
        have R9 : Below w.heap.size w wn := below_grown (hbel2.alloc hsz2 _) (by simp; omega) gn (own_ge hown2)
        have R2 := hide (show wn.ownsRow w.heap.size 61 3 vn (k + 1) (flat ((T.take (k + 1)).map oneS)) by rw [unhide HPS]; exact on)
        have R3 := hide (show wn.ownsRow w.heap.size 9 1 (.slice (some ⟨b, off, none⟩) n vq) n (flatS (T.map ofL)) from own_grown (World.ownsRow.alloc (unhide HV2) _) gn (fun j hj e => own_ne_type (unhide HV2) hown2 (by decide) j hj e))
        obtain ⟨an', cn, hvn⟩ : ∃ a c, vn = .slice a (k + 1) c := by obtain ⟨-, a, c, e, -⟩ := lies_of_own on; exact ⟨a, c, e⟩
        have HVn := hide hvn
        clear on gn an hown2 hvn hbel2 hW3 k0 k1 k2
        go_wp2_with fail
        go_roundw
        case rel => exact ⟨k + 1, an', cn, by omega, by go_num, unhide HVn, by rw [← unhide HVn]; exact unhide R2, R3, R9⟩
        case measure => simp [intOf]; omega
      | none =>
        have HF := hide ((unhide HG).trans (getB_part (unhide HNl) (unhide HMem) hM))
        rw [hM] at HC1
        simp only [Option.getD_none, Option.isSome_none] at HC1
        clear ht hcl hM HPS HG
        go_wp2_with fail
        refine (unhide HC1).mono ?_
        rintro e w2 ⟨rfl, b2⟩
        have hb2 := hbel.trans (b2.mono hsz)
        have hb3 := hb2.alloc hb2.size (.cells #[.int .i64 0, .string ⟨#[]⟩, .string ⟨#[]⟩] 61)
        obtain ⟨W3, hW3⟩ : ∃ W, w2.alloc (.cells #[.int .i64 0, .string ⟨#[]⟩, .string ⟨#[]⟩] 61) = W := ⟨_, rfl⟩
        rw [hW3] at hb3
        have M3 : MB W3 w2.heap.size (.int .i64 0) (.string ⟨#[]⟩) (.string ⟨#[]⟩) := by rw [← hW3]; exact mbox_new _ _ _ _
        obtain ⟨⟨m0, mf0⟩, ⟨m1, mf1⟩, ⟨m2, mf2⟩, M9, O9⟩ := mbox_put (.int .i64 zE.1) (.string zE.2.1) (.string zE.2.2) M3
        obtain ⟨q0, q1, q2⟩ := mbox_three M3
        obtain ⟨f0, f1, f2⟩ := mbox_fz M3
        obtain ⟨W4, hW4⟩ : ∃ W, (((W3.setCell ⟨w2.heap.size, 0, none⟩ (.int .i64 zE.1)).setCell ⟨w2.heap.size, 1, none⟩ (.string zE.2.1)).setCell ⟨w2.heap.size, 2, none⟩ (.string zE.2.2)) = W := ⟨_, rfl⟩
        rw [hW4] at O9
        have hb4 := hb3.trans (O9.below hb2.size)
        have HE2 := hide (own_mono (Lab.own_empty W4 61 3) hb4.size)
        have HB2 := hide (hb4.alloc hb4.size (.cells #[] 61))
        have hzE : aggM zE = .agg #[.int .i64 0, .string ⟨#[]⟩, .string ⟨#[]⟩] := rfl
        clear hown HC1 hc0 b2 HMem hb2 hb3 M3 M9 O9 hb4
        go_wp2_with fail
        go_ret2
        obtain rfl := unhide HF
        exact ⟨_, rfl, unhide HE2, unhide HB2⟩
    · obtain rfl : k = n := by omega
      rw [List.take_of_length_le (by have := unhide HN; omega)] at hown
      have hkf : decide ((k : Int) < (k : Int)) = false := by simp
      obtain ⟨L, hL⟩ : ∃ L, L = T.map oneS := ⟨_, rfl⟩
      have hlen : L.length = k := by rw [hL, List.length_map]; exact (unhide HN).symm
      have hgood : ∀ x ∈ L, good x := by
        rw [hL]
        intro x hx
        obtain ⟨p, hp, rfl⟩ := List.mem_map.1 hx
        have h1 := unhide HTM p hp
        exact good_of (oneS_sizes p) (by unfold maxLen; omega)
      rw [← hL] at hown
      have hIs : Is wr (.slice pa k pc) L := by rw [← hlen]; exact lies_of_own (by rw [hlen]; exact hown)
      have HI := hide (spec_put hIs hgood (by rw [hlen]; unfold maxLen; omega))
      have HL := hide (show L = (cutL 44 (mid s)).map oneS by rw [hL, unhide HT])
      have HO := hide (own_len hown hlen.symm rfl)
      clear hown hlen hgood hIs hL hkf
      go_wp2_with fail
      refine (unhide HI).mono ?_
      rintro e w3 ⟨rfl, b3⟩
      have b03 := hbel.trans (b3.mono hsz)
      have HO3 := hide (own_below (unhide HO) b3)
      clear HO HI b3 hbel
      by_cases hp : put L = s
      · have HGG := hide ((unhide HG).trans (getB_of hp (by have := unhide HS2; omega)))
        have hqq : (s.toList == s.toList) = true := by simp
        clear HG HL
        rw [hp]
        clear hp
        go_wp2_with fail
        go_ret2
        obtain rfl := unhide HGG
        exact ⟨_, rfl, unhide HO3, b03⟩
      · have HGG := hide ((unhide HG).trans (getB_one_ne (unhide HNl) (by rw [← unhide HL]; exact hp)))
        have hne : ((put L).toList == s.toList) = false := sameS_no.2 hp
        have HE2 := hide (own_mono (Lab.own_empty w3 61 3) b03.size)
        have HB2 := hide (b03.alloc b03.size (.cells #[] 61))
        clear hp HG HL
        generalize put L = P1 at hne ⊢
        go_wp2_with fail
        go_ret2
        obtain rfl := unhide HGG
        exact ⟨_, rfl, unhide HE2, unhide HB2⟩
end Go.Proofs.YtkmoekbicbjdmaaDoor.Mat

/- What the laws' own helpers do to mark a slice of impl.Match, and to see that the marks are held. -/
namespace Go.Proofs.YtkmoekbicbjdmaaDoor.Mat
open Go.RowKit Rw
set_option linter.unusedVariables false
attribute [local go_sem ↓] Go.wp_at_zero Go.wp_at_succ
def markOne (q : Nat) : E := (((q : Nat) : Int), Mark.text (q + 1), Mark.text (q + 2))
def marks (k0 n : Nat) : List E := (List.range n).map fun i => markOne (k0 + 3 * i)
theorem marks_length (k0 n : Nat) : (marks k0 n).length = n := by simp [marks]
theorem marks_succ (k0 n : Nat) : marks k0 (n + 1) = marks k0 n ++ [markOne (k0 + 3 * n)] := by simp [marks, List.range_succ]
theorem marks_at (k0 n i : Nat) (h : i < n) : at' (marks k0 n) i = markOne (k0 + 3 * i) := by simp [marks, at', List.getD, h]
theorem flat_marks (k0 j : Nat) : flat (marks k0 (j + 1)) = flat (marks k0 j) ++ [.int .i64 (((k0 + 3 * j) : Nat) : Int), .string (Mark.text ((k0 + 3 * j) + 1)), .string (Mark.text ((k0 + 3 * j) + 2))] := by rw [marks_succ]; unfold flat; rw [flatOf_append, flatOf_one]; rfl
set_option maxRecDepth 100000 in
set_option maxHeartbeats 2000000 in
theorem mark_some (base g n cap : Nat) (zs : List E) (k0 : Nat) (w : World) (hk1 : 1 ≤ k0) (hk2 : k0 ≤ 500000000000) (hn : n ≤ 8388608) (hz : zs.length = n) (hown : w.ownsRow base 61 3 (.slice (some ⟨g, 0, none⟩) n cap) n (flat zs)) :
    Calls Tryd.prog 29 #[.slice (some ⟨g, 0, none⟩) n cap, .int .i64 k0] w fun e w' => e = .returned (.int .i64 ((k0 + 3 * n : Nat) : Int)) ∧
      w'.ownsRow base 61 3 (.slice (some ⟨g, 0, none⟩) n cap) n (flat (marks k0 n)) ∧ Zone g (g + 1) w w' := by
  have hg0 := own_lt hown
  go_enter Tryd.func29, Tryd.ntmps29
  go_wp2
  go_loopw [1, 5] (fun kv i wr => ∃ (j q : Nat) (r : List Value), j ≤ n ∧ i = .int .i64 j ∧ kv = .int .i64 q ∧ Hid (q = k0 + 3 * j) ∧ r.length = (n - j) * 3 ∧ wr.ownsRow base 61 3 (.slice (some ⟨g, 0, none⟩) n cap) n (flat (marks k0 j) ++ r) ∧ Zone g (g + 1) w wr) (fun _ i _ => n - (intOf i).toNat)
  case atStart => exact ⟨0, k0, flat zs, Nat.zero_le _, rfl, rfl, hide (by omega), by rw [flat_length]; omega, by simpa [marks, flat, flatOf] using hown, Zone.refl _ _ _⟩
  case round =>
    obtain ⟨j, q, r, hj, rfl, rfl, HQ, hrl, ho, hzn⟩ := hrel
    have hsz := own_lt ho
    have hq1 : 1 ≤ q := by have := unhide HQ; omega
    have hq2 : q ≤ 600000000000 := by have := unhide HQ; omega
    by_cases hlt : j < n
    · obtain ⟨u0, u1, u2, L, rfl, hB⟩ := split_e r (n - j - 1) (by rw [hrl]; omega)
      have fln : (flat (marks k0 j)).length = j * 3 := by rw [flat_length, marks_length]
      have h0 : (0 : Int) ≤ (j : Int) := Int.natCast_nonneg _
      have h1 : (j : Int) < (n : Int) := by omega
      have HF := hide fln
      have HE := hide (flat_marks k0 j)
      rw [← unhide HQ] at HE
      clear fln
      have hd0 : World.cell? wr ⟨g, j * 3, none⟩ = some u0 := by rw [ho.cellAt (j * 3) (by omega)]; simp [unhide HF]
      have hf0 := ho.frozenAt (j * 3)
      have p0 := (ho.stored (j * 3) (.int .i64 ((q : Int)))).1
      have x0 := hzn.store (Nat.le_refl g) (Nat.lt_succ_self g) (j * 3) (.int .i64 ((q : Int)))
      clear ho hzn
      go_wp2_with fail
      refine (Mark.text_at (q + 1) _ (by omega) (by omega) (by omega) _).mono ?_
      rintro e w1 ⟨rfl, b1⟩
      have o1 := own_below p0 b1
      have y1 := x0.trans (Zone.of_below b1)
      clear b1 p0 x0
      have hd1 : World.cell? w1 ⟨g, j * 3 + 1, none⟩ = some u1 := by rw [o1.cellAt (j * 3 + 1) (by omega)]; simp [unhide HF]
      have hf1 := o1.frozenAt (j * 3 + 1)
      have p1 := (o1.stored (j * 3 + 1) (.string (Mark.text (q + 1)))).1
      have x1 := y1.store (Nat.le_refl g) (Nat.lt_succ_self g) (j * 3 + 1) (.string (Mark.text (q + 1)))
      clear o1 y1
      go_wp2_with fail
      refine (Mark.text_at (q + 2) _ (by omega) (by omega) (by omega) _).mono ?_
      rintro e w2 ⟨rfl, b2⟩
      have o2 := own_below p1 b2
      have y2 := x1.trans (Zone.of_below b2)
      clear b2 p1 x1
      have hd2 : World.cell? w2 ⟨g, j * 3 + 2, none⟩ = some u2 := by rw [o2.cellAt (j * 3 + 2) (by omega)]; simp [unhide HF]
      have hf2 := o2.frozenAt (j * 3 + 2)
      have p2 := (o2.stored (j * 3 + 2) (.string (Mark.text (q + 2)))).1
      have x2 := y2.store (Nat.le_refl g) (Nat.lt_succ_self g) (j * 3 + 2) (.string (Mark.text (q + 2)))
      clear o2 y2
      rw [set_e _ _ _ _ _ _ _ _ _ (unhide HF)] at p2
      have P := hide p2
      have X := hide x2
      clear p2 x2
      have P' := hide (show World.ownsRow (World.setCell w2 ⟨g, j * 3 + 2, none⟩ (.string (Mark.text (q + 2)))) base 61 3 (.slice (some ⟨g, 0, none⟩) n cap) n (flat (marks k0 (j + 1)) ++ L) by rw [unhide HE]; exact unhide P)
      clear P
      go_wp2_with fail
      go_roundw
      case rel => exact ⟨j + 1, q + 3, L, by omega, by go_num, by go_num, hide (by have := unhide HQ; omega), by omega, unhide P', unhide X⟩
      case measure => simp [intOf]; omega
    · obtain rfl : j = n := by omega
      obtain rfl : r = [] := List.eq_nil_of_length_eq_zero (by rw [hrl]; omega)
      rw [List.append_nil] at ho
      go_wp2
      go_ret
      exact ⟨ret_int (by have := unhide HQ; omega), ho, hzn⟩
theorem mark_nil (k0 : Int) (w : World) : Calls Tryd.prog 29 #[.slice none 0 0, .int .i64 k0] w fun e w' => e = .returned (.int .i64 k0) ∧ w' = w := by
  go_enter Tryd.func29, Tryd.ntmps29
  go_wp2
  refine wp_loop_rounds 1 ?_
  rw [rounds_succ]
  go_wp2
  go_ret
  exact ⟨rfl, rfl⟩
/-- new marks are laid in a row of the call's own; what lies elsewhere is as it was -/
theorem mark_any {base : Nat} {v : Value} {zs : List E} {w : World} (k0 : Nat) (hk1 : 1 ≤ k0) (hk2 : k0 ≤ 500000000000) (hn : zs.length ≤ 8388608) (hown : w.ownsRow base 61 3 v zs.length (flat zs)) {lo hi : Nat} (hin : ∀ k, v.ownBlock = some k → lo ≤ k ∧ k < hi) :
    Calls Tryd.prog 29 #[v, .int .i64 k0] w fun e w' => e = .returned (.int .i64 ((k0 + 3 * zs.length : Nat) : Int)) ∧
      w'.ownsRow base 61 3 v zs.length (flat (marks k0 zs.length)) ∧ Zone lo hi w w' := by
  have hf := hown
  rcases hown.2 with ⟨h1, h2⟩ | ⟨g, cap, cur, h1, h2, hg, _⟩
  · subst h1
    obtain rfl : zs = [] := List.eq_nil_of_length_eq_zero h2
    refine (mark_nil k0 w).mono ?_
    rintro e w' ⟨rfl, rfl⟩
    exact ⟨ret_int (by simp), ⟨rfl, .inl ⟨rfl, rfl⟩⟩, Zone.refl _ _ _⟩
  · subst h1
    refine (mark_some base g zs.length cap zs k0 w hk1 hk2 hn rfl hf).mono ?_
    rintro e w' ⟨rfl, ho, hon⟩
    have := hin g rfl
    exact ⟨rfl, ho, hon.mono (by omega) (by omega)⟩
set_option maxRecDepth 100000 in
set_option maxHeartbeats 2000000 in
theorem held_any {v : Value} {n : Nat} {w : World} (k0 : Nat) (hk1 : 1 ≤ k0) (hk2 : k0 ≤ 500000000000) (hn : n ≤ 8388608) (h : Is w v (marks k0 n)) :
    Calls Tryd.prog 30 #[v, .int .i64 k0] w fun e w' => e = .returned (.int .i64 ((k0 + 3 * n : Nat) : Int)) ∧ Below w.heap.size w w' := by
  obtain ⟨-, a, cap, rfl, hc, hm, -, hr⟩ := h
  rw [marks_length] at hc hr ⊢
  go_enter Tryd.func30, Tryd.ntmps30
  go_wp2
  go_loopw [1, 5] (fun kv i wr => ∃ (j q : Nat), j ≤ n ∧ i = .int .i64 j ∧ kv = .int .i64 q ∧ Hid (q = k0 + 3 * j) ∧ Below w.heap.size w wr) (fun _ i _ => n - (intOf i).toNat)
  case atStart => exact ⟨0, k0, Nat.zero_le _, rfl, rfl, hide (by omega), Below.refl _ _⟩
  case round =>
    obtain ⟨j, q, hj, rfl, rfl, HQ, hbel⟩ := hrel
    have hsz := hbel.size
    have hq1 : 1 ≤ q := by have := unhide HQ; omega
    have hq2 : q ≤ 600000000000 := by have := unhide HQ; omega
    by_cases hlt : j < n
    · obtain ⟨b, off, rfl, hl, hcells⟩ := hr (by omega)
      have fa := flat_at (marks k0 n) j (by rw [marks_length]; exact hlt)
      rw [marks_at k0 n j hlt, ← unhide HQ] at fa
      unfold markOne at fa
      simp only at fa
      have h0 : (0 : Int) ≤ (j : Int) := Int.natCast_nonneg _
      have h1 : (j : Int) < (n : Int) := by omega
      have hc0 : wr.cell? ⟨b, off + j * 3, none⟩ = some (.int .i64 ((q : Int))) := (hbel.cell (p := ⟨b, _, none⟩) hl).trans (hcells (j * 3) _ fa.1)
      have hc1 : wr.cell? ⟨b, off + j * 3 + 1, none⟩ = some (.string (Mark.text (q + 1))) := (hbel.cell (p := ⟨b, _, none⟩) hl).trans (hcells (j * 3 + 1) _ fa.2.1)
      have hc2 : wr.cell? ⟨b, off + j * 3 + 2, none⟩ = some (.string (Mark.text (q + 2))) := (hbel.cell (p := ⟨b, _, none⟩) hl).trans (hcells (j * 3 + 2) _ fa.2.2)
      clear fa
      have hx1 : ∀ x : Cls wr.heap.size wr, x.val.cell? ⟨b, off + j * 3 + 1, none⟩ = some (.string (Mark.text (q + 1))) := fun x => by rw [x.cell (by omega)]; exact hc1
      have ne1 := cls_nonempty wr.heap.size wr
      go_wp2_with fail
      refine region_cls (by kernel_rfl) (by kernel_rfl) ?_
      repeat (go_big_quiet_step ((go_at_call 55; exact cls_call (Nat.le_refl _) (Mark.text_at (q + 1) _ (by omega) (by omega) (by omega) _))))
      refine wpQuiet_nil ?_
      rintro wq1 ⟨⟨W1, hb1⟩, rfl⟩
      try simp only
      clear hx1 ne1
      have zb1 := hb1.size
      have bel1 := hbel.trans (hb1.mono (by omega))
      have hc2 := (hb1.cell (p := ⟨b, off + j * 3 + 2, none⟩) (by show b < _; omega)).trans hc2
      have hx2 : ∀ x : Cls wq1.heap.size wq1, x.val.cell? ⟨b, off + j * 3 + 2, none⟩ = some (.string (Mark.text (q + 2))) := fun x => by rw [x.cell (by omega)]; exact hc2
      have ne2 := cls_nonempty wq1.heap.size wq1
      go_wp2_with fail
      refine region_cls (by kernel_rfl) (by kernel_rfl) ?_
      repeat (go_big_quiet_step ((go_at_call 55; exact cls_call (Nat.le_refl _) (Mark.text_at (q + 2) _ (by omega) (by omega) (by omega) _))))
      refine wpQuiet_nil ?_
      rintro wq2 ⟨⟨W2, hb2⟩, rfl⟩
      try simp only
      clear hx2 ne2
      have zb2 := hb2.size
      have bel2 := bel1.trans (hb2.mono (by omega))
      go_wp2
      go_roundw
      case rel => exact ⟨j + 1, q + 3, by omega, by go_num, by go_num, hide (by have := unhide HQ; omega), bel2⟩
      case measure => simp [intOf]; omega
    · obtain rfl : j = n := by omega
      go_wp2
      go_ret
      exact ⟨ret_int (by have := unhide HQ; omega), hbel⟩
theorem own_marks {base : Nat} {v : Value} {n k0 : Nat} {w : World} (h : w.ownsRow base 61 3 v n (flat (marks k0 n))) : Is w v (marks k0 n) := is_of_own (by rw [marks_length]; exact h)
end Go.Proofs.YtkmoekbicbjdmaaDoor.Mat

/- One face for what the laws' helpers do with slices of impl.Match. -/
namespace Go.Proofs.YtkmoekbicbjdmaaDoor.Mat
open Go.RowKit Rw
set_option linter.unusedVariables false
/-- a row of its own, in a block from lo on, ahead of hi -/
def Own (lo hi : Nat) (w : World) (v : Value) (zs : List E) : Prop := w.ownsRow lo 61 3 v zs.length (flat zs) ∧ (∀ k, v.ownBlock = some k → k < hi) ∧ hi ≤ w.heap.size
theorem Own.is {lo hi : Nat} {w : World} {v : Value} {zs : List E} (h : Own lo hi w v zs) : Is w v zs := is_of_own h.1
theorem Own.below {lo hi : Nat} {w w' : World} {v : Value} {zs : List E} (h : Own lo hi w v zs) (hb : Below w.heap.size w w') : Own lo hi w' v zs := ⟨own_below h.1 hb, h.2.1, Nat.le_trans h.2.2 hb.size⟩
theorem Own.zone {lo hi a b : Nat} {w w' : World} {v : Value} {zs : List E} (h : Own lo hi w v zs) (hz : Zone a b w w') (ho : hi ≤ a ∨ b ≤ lo) : Own lo hi w' v zs :=
  ⟨hz.own h.1 (fun k hk => by have := h.2.1 k hk; have := own_ge h.1 k hk; omega), h.2.1, Nat.le_trans h.2.2 hz.size⟩
theorem Own.form {lo hi : Nat} {w : World} {v : Value} {zs : List E} (h : Own lo hi w v zs) : ∃ a l q, v = .slice a l q := by
  obtain ⟨-, a, q, e, -⟩ := lies_of_own h.1
  exact ⟨a, _, q, e⟩
theorem Own.of {lo : Nat} {w : World} {v : Value} {zs : List E} (h : w.ownsRow lo 61 3 v zs.length (flat zs)) : Own lo w.heap.size w v zs := ⟨h, own_block_lt h, Nat.le_refl _⟩
theorem eqX {v u : Value} {zs : List E} {w : World} (h : Is w v zs) (h' : Is w u zs) : Calls Tryd.prog 28 #[v, u] w fun e w' => e = .returned (.bool true) ∧ Below w.heap.size w w' := eq_any h h'
theorem markA {lo hi : Nat} {v : Value} {zs : List E} {w : World} (k0 : Nat) (hk1 : 1 ≤ k0) (hk2 : k0 ≤ 100000000) (ht : tot zs ≤ 1048576) (h : Own lo hi w v zs) :
    Calls Tryd.prog 29 #[v, .int .i64 k0] w fun e w' => ∃ k : Nat, e = .returned (.int .i64 k) ∧ 1 ≤ k ∧ k ≤ k0 + 4194304 ∧ Zone lo hi w w' := by
  have hl := tot_len zs
  refine (mark_any k0 hk1 (by omega) (by omega) h.1 (lo := lo) (hi := hi) (fun k hk => ⟨own_ge h.1 k hk, h.2.1 k hk⟩)).mono ?_
  rintro e w' ⟨rfl, -, z⟩
  exact ⟨_, rfl, by omega, by omega, z⟩
def cnt (zs : List E) : Nat := 3 * zs.length
def mk (k0 : Nat) (zs : List E) : List E := marks k0 zs.length
theorem mk_length (k0 : Nat) (zs : List E) : (mk k0 zs).length = zs.length := marks_length _ _
theorem markX {lo hi : Nat} {v : Value} {zs : List E} {w : World} (k0 : Nat) (hk1 : 1 ≤ k0) (hk2 : k0 ≤ 100000000) (hc : zs.length ≤ 2097152) (h : Own lo hi w v zs) :
    Calls Tryd.prog 29 #[v, .int .i64 k0] w fun e w' => ∃ k : Nat, e = .returned (.int .i64 k) ∧ k = k0 + cnt zs ∧ Own lo hi w' v (mk k0 zs) ∧ Zone lo hi w w' := by
  refine (mark_any k0 hk1 (by omega) (by omega) h.1 (lo := lo) (hi := hi) (fun k hk => ⟨own_ge h.1 k hk, h.2.1 k hk⟩)).mono ?_
  rintro e w' ⟨rfl, o, z⟩
  exact ⟨_, rfl, rfl, ⟨by rw [mk_length]; exact o, h.2.1, Nat.le_trans h.2.2 z.size⟩, z⟩
theorem heldX {v : Value} {zs : List E} {w : World} (k0 : Nat) (hk1 : 1 ≤ k0) (hk2 : k0 ≤ 100000000) (hc : zs.length ≤ 2097152) (h : Is w v (mk k0 zs)) :
    Calls Tryd.prog 30 #[v, .int .i64 k0] w fun e w' => ∃ k : Nat, e = .returned (.int .i64 k) ∧ k = k0 + cnt zs ∧ Below w.heap.size w w' := by
  refine (held_any k0 hk1 (by omega) (by omega) h).mono ?_
  rintro e w' ⟨rfl, b⟩
  exact ⟨_, rfl, rfl, b⟩
end Go.Proofs.YtkmoekbicbjdmaaDoor.Mat

/- FnExactMatchesGet returns true at every text. What it asks: internal/bytealg.MaxLen holds some int, as in every world of a started program. -/
namespace Go.Proofs.YtkmoekbicbjdmaaDoor
open Go.RowKit Rw
set_option linter.unusedVariables false
set_option maxRecDepth 100000 in
set_option maxHeartbeats 8000000 in
theorem fnExactMatchesGet.walk (a0 : ByteArray) (w : World) (w0 : a0.size ≤ maxLen) (hm : Lab.Mx w) : Calls Tryd.prog 6 #[.string a0] w fun e w' => e = .returned (.bool true) ∧ Below w.heap.size w w' := by
  unfold maxLen at w0
  by_cases hs0 : 1048576 < a0.size
  · go_enter Tryd.func6, Tryd.ntmps6
    go_wp2
    go_ret
    exact ⟨rfl, Below.refl _ _⟩
  have HS := hide (Mat.spec_get a0 w (by omega))
  have HI := hide (fun W (hb : Below w.heap.size w W) => Mat.impl_get a0 W (by omega) (hm.below hb))
  have HRL0 := Mat.getB_four a0
  unfold Mat.Got at HS HI
  obtain ⟨G, hG⟩ : ∃ G, G = Mat.getB a0 := ⟨_, rfl⟩
  rw [← hG] at HS HI HRL0
  obtain ⟨rz, bz⟩ := G
  dsimp only at HS HI HRL0
  have HRL := hide (show rz.length ≤ 2097152 by omega)
  have hbb : (bz != bz) = false := by simp
  clear hG HRL0 hm
  go_enter Tryd.func6, Tryd.ntmps6
  go_wp2_with fail
  refine (unhide HS).mono ?_
  rintro e w1 ⟨v_w, rfl, on0, b1⟩
  have F_w := Mat.Own.of on0
  obtain ⟨a_w, l_w, q_w, rfl⟩ := Mat.Own.form F_w
  have c1 := b1
  have z1 := b1.size
  clear on0 HS
  go_wp2_with fail
  refine (unhide HI w1 c1).mono ?_
  rintro e w2 ⟨v_g, rfl, on0, bn⟩
  have F_g := Mat.Own.of on0
  obtain ⟨a_g, l_g, q_g, rfl⟩ := Mat.Own.form F_g
  have c2 := c1.trans (bn.mono c1.size)
  have z2 := bn.size
  have F_w2 := F_w.below bn
  clear on0 bn F_w b1
  go_wp2_with fail
  refine (Mat.eqX F_g.is F_w2.is).mono ?_
  rintro e w3 ⟨rfl, bn⟩
  have c3 := c2.trans (bn.mono c2.size)
  have z3 := bn.size
  have F_w3 := F_w2.below bn
  have F_g3 := F_g.below bn
  clear bn F_w2 F_g
  go_wp2_with fail
  refine (Mat.markX 1 (by omega) (by omega) (unhide HRL) F_g3).mono ?_
  rintro e w4 ⟨km, rfl, ekm, on, zn⟩
  have c4 := c3.trans (zn.below (by omega) (by omega))
  have z4 := zn.size
  have F_w4 := F_w3.zone zn (by omega)
  have HKM := hide ekm
  clear zn F_w3 F_g3 ekm
  go_wp2_with fail
  refine (Mat.heldX 1 (by omega) (by omega) (unhide HRL) on.is).mono ?_
  rintro e w5 ⟨kq, rfl, ekq, bn⟩
  obtain rfl : kq = km := by rw [ekq, unhide HKM]
  have c5 := c4.trans (bn.mono c4.size)
  have z5 := bn.size
  have F_w5 := F_w4.below bn
  have F_g5 := on.below bn
  have hkn : decide ((kq : Int) < 0) = false := by simp
  clear bn ekq F_w4 on
  go_wp2_with fail
  refine (unhide HI w5 c5).mono ?_
  rintro e w6 ⟨v_h, rfl, on0, bn⟩
  have F_h := Mat.Own.of on0
  obtain ⟨a_h, l_h, q_h, rfl⟩ := Mat.Own.form F_h
  have c6 := c5.trans (bn.mono c5.size)
  have F_w6 := F_w5.below bn
  have F_g6 := F_g5.below bn
  clear on0 bn F_w5 F_g5
  go_wp2_with fail
  refine (Mat.eqX F_h.is F_w6.is).mono ?_
  rintro e w7 ⟨rfl, bn⟩
  have c7 := c6.trans (bn.mono c6.size)
  have F_g7 := F_g6.below bn
  clear bn F_w6 F_g6 F_h
  go_wp2_with fail
  refine (Mat.heldX 1 (by omega) (by omega) (unhide HRL) F_g7.is).mono ?_
  rintro e w8 ⟨kr, rfl, ekr, bn⟩
  obtain rfl : kr = kq := by rw [ekr, unhide HKM]
  have c8 := c7.trans (bn.mono c7.size)
  clear bn ekr
  go_wp2_with fail
  go_ret
  exact ⟨rfl, c8⟩
end Go.Proofs.YtkmoekbicbjdmaaDoor
