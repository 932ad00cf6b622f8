/- My own texts of one claim, laid together by program: LabGet, MatLaw, MatOk, LetMath. -/
import Derived.Test.YtkmoekbicbjdmaaDoorGa0943e6b32
import Derived.Test.YtkmoekbicbjdmaaDoorGcd34e07ed4
import Derived.Test.YtkmoekbicbjdmaaDoorGdcd3078c4d
import Derived.Test.YtkmoekbicbjdmaaDoorShelf
import Derived.WalkSmall
import Derived.Test.YtkmoekbicbjdmaaDoorGeeb769b86e
import Derived.ChangeArms
import Derived.Test.YtkmoekbicbjdmaaDoorG0d305fe6f9
import Derived.Lib.Strings
/- LabelsGet of the program, at every text. What it asks: internal/bytealg.MaxLen holds some int, as in every world of a started program. -/
namespace Go.Proofs.YtkmoekbicbjdmaaDoor.Lab
open Go.RowKit Rw PutMath CutText
set_option linter.unusedVariables false
attribute [local go_sem ↓] Go.wp_at_zero Go.wp_at_succ
/-- the library's variable holds some int -/
def Mx (w : World) : Prop := ∃ m, w.cell? ⟨0, 0, none⟩ = some (.int .i64 m)
theorem Mx.below {w w' : World} (h : Mx w) (hb : Below w.heap.size w w') : Mx w' := by
  obtain ⟨m, h⟩ := h
  exact ⟨m, (hb.cell (p := ⟨0, 0, none⟩) (World.block_lt_of_cell? _ _ h)).trans h⟩
theorem split_cut (s : ByteArray) (b : UInt8) : Lib.splitB ⟨#[b]⟩ 0 (Lib.countB s ⟨#[b]⟩) s = cutB b s := by
  have h1 := Lib.splitB_data ⟨#[b]⟩ 0 (Lib.countB s ⟨#[b]⟩) s
  have h2 : (Lib.splitB ⟨#[b]⟩ 0 (Lib.countB s ⟨#[b]⟩) s).map (·.data.toList) = cutL b s.data.toList := h1.trans (split_eq b _ s.data.toList (Nat.le_refl _))
  unfold cutB
  rw [← h2, List.map_map]
  conv => lhs; rw [← List.map_id (Lib.splitB ⟨#[b]⟩ 0 (Lib.countB s ⟨#[b]⟩) s)]
  exact List.map_congr_left (fun p _ => (list_ofL p).symm)
theorem split_any (s : ByteArray) (b : UInt8) (w : World) (hs : s.size ≤ 4194304) (hm : Mx w) :
    Calls Tryd.prog 63 #[.string s, .string ⟨#[b]⟩] w fun e w' => ∃ v, e = .returned v ∧ w'.ownsRow w.heap.size 9 1 v (cutB b s).length (flatS (cutB b s)) ∧ Below w.heap.size w w' := by
  obtain ⟨m, hm⟩ := hm
  have hl := Lib.splitB_all ⟨#[b]⟩ (show 1 ≤ (⟨#[b]⟩ : ByteArray).size from Nat.le_refl 1) 0 _ s rfl
  have c := Tryd.strings_Split s ⟨#[b]⟩ m w (by omega) hm (Nat.le_refl 1)
  rw [split_cut] at c hl
  have hc : (cutB b s).length ≤ s.size + 1 := by unfold cutB; rw [List.length_map]; have := cutL_len b s.data.toList; have hl2 : s.data.toList.length = s.size := Array.length_toList; omega
  rw [← hl] at c
  refine c.mono fun e w' ⟨h1, h2⟩ => ⟨_, h1, ?_, ?_⟩
  · rw [h2]
    have := Draw.own_new (w := w) (cs := ((cutB b s).map Value.string).toArray) (t := 9) (n := (cutB b s).length) (size := 1) (base := w.heap.size) rfl (by simp) (by unfold maxLen; omega) (Nat.le_refl _)
    simpa [flatS] using this
  · rw [h2]; exact (Below.refl _ _).alloc (Nat.le_refl _) _
theorem suf_no {r : List UInt8} {c : UInt8} (h : ∀ m, r ≠ m ++ [c]) : Lib.hasSuffix r [c] = false := by
  cases e : Lib.hasSuffix r [c]
  · rfl
  · exfalso
    unfold Lib.hasSuffix at e
    rw [List.isSuffixOf_iff_suffix] at e
    obtain ⟨t, ht⟩ := e
    exact h t ht.symm
theorem pre_no {l : List UInt8} {o : UInt8} (h : ∀ r, l ≠ o :: r) : Lib.hasPrefix l [o] = false := by
  cases e : Lib.hasPrefix l [o]
  · rfl
  · exfalso
    unfold Lib.hasPrefix at e
    rw [List.isPrefixOf_iff_prefix] at e
    obtain ⟨t, ht⟩ := e
    exact h t ht.symm
theorem pre_yes (o : UInt8) (r : List UInt8) : Lib.hasPrefix (o :: r) [o] = true := by simp [Lib.hasPrefix]
theorem suf_yes (c : UInt8) (m : List UInt8) : Lib.hasSuffix (m ++ [c]) [c] = true := by simp [Lib.hasSuffix]
def piecesOf (m : List UInt8) : List ByteArray := if m = [] then [] else (cutL 44 m).map ofL
/-- what stands between two brackets -/
def Within (s : ByteArray) (o c : UInt8) (w : World) (e : Ending) (w' : World) : Prop :=
  ((∀ r, s.data.toList ≠ o :: r ++ [c]) ∧ e = .returned (.tuple #[.slice none 0 0, .bool false]) ∧ w' = w) ∨
  (∃ m v, s.data.toList = o :: m ++ [c] ∧ e = .returned (.tuple #[v, .bool true]) ∧ w'.ownsRow w.heap.size 9 1 v (piecesOf m).length (flatS (piecesOf m)) ∧ Below w.heap.size w w')
set_option maxRecDepth 100000 in
set_option maxHeartbeats 4000000 in
theorem within_any (s : ByteArray) (o c : UInt8) (w : World) (hs : s.size ≤ 4194304) (hm : Mx w) :
    Calls Tryd.prog 34 #[.string s, .string ⟨#[o]⟩, .string ⟨#[c]⟩] w (Within s o c w) := by
  have HP := hide (fun W => Tryd.strings_CutPrefix s ⟨#[o]⟩ W)
  have HC := hide (fun (t : ByteArray) (ht : t.size ≤ 4194304) W => Tryd.strings_CutSuffix t ⟨#[c]⟩ W (by omega))
  have HS := hide (fun (t : ByteArray) (ht : t.size ≤ 4194304) => split_any t 44 w ht hm)
  have eo : (⟨#[o]⟩ : ByteArray).data.toList = [o] := rfl
  have ec : (⟨#[c]⟩ : ByteArray).data.toList = [c] := rfl
  rw [eo] at HP
  rw [ec] at HC
  clear hm eo ec
  have hsl : s.data.toList.length = s.size := Array.length_toList
  by_cases h1 : ∃ r, s.data.toList = o :: r
  · obtain ⟨r, hr⟩ := h1
    have e1 : (⟨(Lib.trimPrefix s.data.toList [o]).toArray⟩ : ByteArray) = ofL r := by
      unfold Lib.trimPrefix
      rw [hr, pre_yes]; rfl
    have e2 : Lib.hasPrefix s.data.toList [o] = true := by rw [hr, pre_yes]
    rw [e1, e2] at HP
    have hrs : (ofL r).size ≤ 4194304 := by
      have : (ofL r).size = r.length := size_of r
      rw [hr] at hsl
      simp at hsl
      omega
    have HC1 := hide (unhide HC (ofL r) hrs)
    rw [ofL_list] at HC1
    by_cases h2 : ∃ m, r = m ++ [c]
    · obtain ⟨m, rfl⟩ := h2
      have e3 : (⟨(Lib.trimSuffix (m ++ [c]) [c]).toArray⟩ : ByteArray) = ofL m := by
        unfold Lib.trimSuffix
        rw [suf_yes]; simp [ofL]
      rw [e3, suf_yes] at HC1
      have hms : (ofL m).size ≤ 4194304 := by
        have h3 : (ofL m).size = m.length := size_of m
        have h4 : (ofL (m ++ [c])).size = (m ++ [c]).length := size_of _
        simp at h4
        omega
      have HW := hide hr
      have HS1 := hide (unhide HS (ofL m) hms)
      clear e1 e2 e3 hr hrs HC HS hms hsl hs
      by_cases h3 : m = []
      · subst h3
        have hz : ofL [] = ⟨#[]⟩ := rfl
        rw [hz] at HC1
        go_enter Tryd.func34, Tryd.ntmps34
        go_wp2_with fail
        refine (unhide HP _).mono ?_
        rintro e w1 ⟨rfl, rfl⟩
        go_wp2_with fail
        refine (unhide HC1 _).mono ?_
        rintro e w2 ⟨rfl, rfl⟩
        go_wp2_with fail
        go_ret2
        exact .inr ⟨[], _, unhide HW, rfl, World.ownsRow_nil _ _ _ _, Below.refl _ _⟩
      · have hz0 : (ofL m).size ≠ 0 := by
          have : (ofL m).size = m.length := size_of m
          intro e
          exact h3 (List.eq_nil_of_length_eq_zero (by omega))
        have he := fun W => eql_empty hz0 W
        have he2 := not_empty hz0
        have HQ := hide (show cutB 44 (ofL m) = piecesOf m by unfold piecesOf cutB; rw [if_neg h3, ofL_list]; rfl)
        rw [unhide HQ] at HS1
        obtain ⟨T, hT⟩ : ∃ T, T = ofL m := ⟨_, rfl⟩
        rw [← hT] at HC1 HS1 he he2
        clear hT hz0 h3 HQ
        go_enter Tryd.func34, Tryd.ntmps34
        go_wp2_with fail
        refine (unhide HP _).mono ?_
        rintro e w1 ⟨rfl, rfl⟩
        go_wp2_with fail
        refine (unhide HC1 _).mono ?_
        rintro e w2 ⟨rfl, rfl⟩
        go_wp2_with fail
        refine (unhide HS1).mono ?_
        rintro e w3 ⟨v, rfl, ov, b3⟩
        have OV := hide ov
        clear ov
        go_wp2_with fail
        go_ret2
        exact .inr ⟨m, _, unhide HW, rfl, unhide OV, b3⟩
    · have e3 : Lib.hasSuffix r [c] = false := suf_no (fun m e => h2 ⟨m, e⟩)
      rw [e3] at HC1
      have HN := hide (show ∀ q, s.data.toList ≠ o :: q ++ [c] from fun q e => h2 ⟨q, by rw [hr] at e; simpa using e⟩)
      generalize (⟨(Lib.trimSuffix r [c]).toArray⟩ : ByteArray) = T at HC1
      clear e1 e2 e3 hr hrs HC HS h2 hsl hs
      go_enter Tryd.func34, Tryd.ntmps34
      go_wp2_with fail
      refine (unhide HP _).mono ?_
      rintro e w1 ⟨rfl, rfl⟩
      go_wp2_with fail
      refine (unhide HC1 _).mono ?_
      rintro e w2 ⟨rfl, rfl⟩
      go_wp2_with fail
      go_ret2
      exact .inl ⟨unhide HN, rfl, rfl⟩
  · have e2 : Lib.hasPrefix s.data.toList [o] = false := pre_no (fun r e => h1 ⟨r, e⟩)
    have e1 : (⟨(Lib.trimPrefix s.data.toList [o]).toArray⟩ : ByteArray) = s := by
      unfold Lib.trimPrefix
      rw [e2]; exact list_ofL s
    rw [e1, e2] at HP
    have HN := hide (show ∀ q, s.data.toList ≠ o :: q ++ [c] from fun q e => h1 ⟨q ++ [c], by rw [e]; rfl⟩)
    have HC1 := hide (unhide HC s hs)
    generalize (⟨(Lib.trimSuffix s.data.toList [c]).toArray⟩ : ByteArray) = T at HC1
    generalize Lib.hasSuffix s.data.toList [c] = B at HC1
    clear e1 e2 HC HS h1 hsl hs
    go_enter Tryd.func34, Tryd.ntmps34
    go_wp2_with fail
    refine (unhide HP _).mono ?_
    rintro e w1 ⟨rfl, rfl⟩
    go_wp2_with fail
    refine (unhide HC1 _).mono ?_
    rintro e w2 ⟨rfl, rfl⟩
    go_wp2_with fail
    go_ret2
    exact .inl ⟨unhide HN, rfl, rfl⟩
end Go.Proofs.YtkmoekbicbjdmaaDoor.Lab

/- What the laws' own helpers do with slices of impl.Match: they are copied, held against each other, and counted. -/
namespace Go.Proofs.YtkmoekbicbjdmaaDoor.Mat
open Go.RowKit Rw
set_option linter.unusedVariables false
attribute [local go_sem ↓] Go.wp_at_zero Go.wp_at_succ
abbrev E := Int × ByteArray × ByteArray
def fl (x : E) : List Value := [.int .i64 (x.1), .string (x.2.1), .string (x.2.2)]
theorem flk (x : E) : (fl x).length = 3 := rfl
def at' (zs : List E) (i : Nat) : E := zs.getD i default
abbrev flat (zs : List E) : List Value := flatOf fl zs
abbrev Is (w : World) (v : Value) (zs : List E) : Prop := Lies w v zs.length 3 (flat zs)
theorem flat_length (zs : List E) : (flat zs).length = zs.length * 3 := flatOf_length flk zs
theorem flat_oneCell (zs : List E) : ∀ u ∈ flat zs, u.oneCell' = true := by
  intro u hu
  obtain ⟨x, _, hx⟩ := List.mem_flatMap.1 hu
  simp only [fl, List.mem_cons, List.not_mem_nil, or_false] at hx
  rcases hx with rfl | rfl | rfl <;> rfl
theorem at_get (zs : List E) (i : Nat) (h : i < zs.length) : at' zs i = zs[i] := by simp [at', List.getD, h]
theorem at_snoc (zs : List E) (i : Nat) (h : i < zs.length) : zs.take (i + 1) = zs.take i ++ [at' zs i] := by rw [List.take_succ_eq_append_getElem h, at_get zs i h]
theorem flat_at (zs : List E) (i : Nat) (h : i < zs.length) : (flat zs)[i * 3]? = some (.int .i64 ((at' zs i).1)) ∧ (flat zs)[i * 3 + 1]? = some (.string ((at' zs i).2.1)) ∧ (flat zs)[i * 3 + 2]? = some (.string ((at' zs i).2.2)) := by
  rw [at_get zs i h]
  exact ⟨flatOf_get flk zs i 0 h (by omega), flatOf_get flk zs i 1 h (by omega), flatOf_get flk zs i 2 h (by omega)⟩
theorem is_of_own {w : World} {base : Nat} {v : Value} {zs : List E} (h : w.ownsRow base 61 3 v zs.length (flat zs)) : Is w v zs := lies_of_own h
theorem info_e : (Tryd.prog.info? 61).map (fun i => (i.zero, i.size, i.bytes)) = some (some (.agg #[.int .i64 0, .string ByteArray.empty, .string ByteArray.empty]), 3, 40) := by kernel_rfl
def good (x : E) : Prop := (Lit.int .i64 (x.1)).wf = true ∧ (x.2.1).size ≤ maxLen ∧ (x.2.2).size ≤ maxLen
theorem set_e (A : List Value) (u0 u1 u2 x0 x1 x2 : Value) (L : List Value) (k : Nat) (h : A.length = k) : ((((A ++ u0 :: u1 :: u2 :: L).set k x0).set (k + 1) x1).set (k + 2) x2) = A ++ [x0, x1, x2] ++ L := by
  subst h
  simp [List.set_append_right]
theorem split_e (r : List Value) (n : Nat) (h : r.length = (n + 1) * 3) : ∃ u0 u1 u2 L, r = u0 :: u1 :: u2 :: L ∧ L.length = n * 3 := by
  match r, h with
  | u0 :: u1 :: u2 :: L, h => exact ⟨u0, u1, u2, L, rfl, by simp only [List.length_cons] at h; omega⟩
  | [], h => simp at h <;> omega
  | [_], h => simp at h <;> omega
  | [_, _], h => simp at h <;> omega
theorem eq_one (A : Int) (B : ByteArray) (C : ByteArray) (w : World) : Calls Tryd.prog 56 #[.agg #[.int .i64 A, .string B, .string C], .agg #[.int .i64 A, .string B, .string C]] w fun e w' => e = .returned (.bool true) ∧ Below w.heap.size w w' := by
  go_enter Tryd.func56, Tryd.ntmps56
  go_wp2
  go_ret
  exact ⟨rfl, ((Below.refl _ _).alloc (Nat.le_refl _) _).alloc (by simp) _⟩
set_option maxRecDepth 100000 in
set_option maxHeartbeats 2000000 in
theorem eq_any {v u : Value} {zs : List E} {w : World} (h : Is w v zs) (h' : Is w u zs) : Calls Tryd.prog 28 #[v, u] w fun e w' => e = .returned (.bool true) ∧ Below w.heap.size w w' := by
  obtain ⟨-, a, cap, rfl, hc, hm, -, hr⟩ := h
  obtain ⟨-, a', cap', rfl, hc', hm', -, hr'⟩ := h'
  unfold maxLen at hm hm'
  obtain ⟨n, hn⟩ : ∃ n, n = zs.length := ⟨_, rfl⟩
  rw [← hn] at hc hr hc' hr' ⊢
  have HN := hide hn
  clear hn
  go_enter Tryd.func28, Tryd.ntmps28
  go_wp2
  go_loopw [5] (fun i wr => ∃ (j : Nat), j ≤ n ∧ i = .int .i64 j ∧ Below w.heap.size w wr) (fun i _ => n - (intOf i).toNat)
  case atStart => exact ⟨0, Nat.zero_le _, rfl, Below.refl _ _⟩
  case round =>
    obtain ⟨j, hj, rfl, hbel⟩ := hrel
    have hsz := hbel.size
    by_cases hlt : j < n
    · obtain ⟨b, off, rfl, hl, hcells⟩ := hr (by omega)
      obtain ⟨b', off', rfl, hl', hcells'⟩ := hr' (by omega)
      have fa := flat_at zs j (by have := unhide HN; omega)
      obtain ⟨A, B, C, hX⟩ : ∃ A B C, (A, B, C) = at' zs j := ⟨_, _, _, rfl⟩
      rw [← hX] at fa
      have hq0 : ∀ x : Cls wr.heap.size wr, x.val.cell? ⟨b, off + j * 3, none⟩ = some (.int .i64 A) := fun x => by rw [x.cell (by omega)]; exact (hbel.cell (p := ⟨b, _, none⟩) hl).trans (hcells (j * 3) _ fa.1)
      have hp0 : ∀ x : Cls wr.heap.size wr, x.val.cell? ⟨b', off' + j * 3, none⟩ = some (.int .i64 A) := fun x => by rw [x.cell (by omega)]; exact (hbel.cell (p := ⟨b', _, none⟩) hl').trans (hcells' (j * 3) _ fa.1)
      have hq1 : ∀ x : Cls wr.heap.size wr, x.val.cell? ⟨b, off + j * 3 + 1, none⟩ = some (.string B) := fun x => by rw [x.cell (by omega)]; exact (hbel.cell (p := ⟨b, _, none⟩) hl).trans (hcells (j * 3 + 1) _ fa.2.1)
      have hp1 : ∀ x : Cls wr.heap.size wr, x.val.cell? ⟨b', off' + j * 3 + 1, none⟩ = some (.string B) := fun x => by rw [x.cell (by omega)]; exact (hbel.cell (p := ⟨b', _, none⟩) hl').trans (hcells' (j * 3 + 1) _ fa.2.1)
      have hq2 : ∀ x : Cls wr.heap.size wr, x.val.cell? ⟨b, off + j * 3 + 2, none⟩ = some (.string C) := fun x => by rw [x.cell (by omega)]; exact (hbel.cell (p := ⟨b, _, none⟩) hl).trans (hcells (j * 3 + 2) _ fa.2.2)
      have hp2 : ∀ x : Cls wr.heap.size wr, x.val.cell? ⟨b', off' + j * 3 + 2, none⟩ = some (.string C) := fun x => by rw [x.cell (by omega)]; exact (hbel.cell (p := ⟨b', _, none⟩) hl').trans (hcells' (j * 3 + 2) _ fa.2.2)
      have hk0 : (0 : Int) ≤ (j : Int) := Int.natCast_nonneg _
      have hk1 : (j : Int) < (n : Int) := by omega
      clear hX fa
      have hne := cls_nonempty wr.heap.size wr
      go_wp2_with fail
      refine region_cls (by kernel_rfl) (by kernel_rfl) ?_
      repeat (go_big_quiet_step ((go_at_call 56; exact cls_call (Nat.le_refl _) (eq_one _ _ _ _))))
      refine wpQuiet_nil ?_
      rintro wq ⟨⟨_, hq⟩, rfl⟩
      go_wp2
      go_roundw
      case rel => exact ⟨j + 1, by omega, by go_num, hbel.trans (hq.mono hsz)⟩
      case measure => simp [intOf]; omega
    · go_wp2
      go_ret
      exact ⟨rfl, hbel⟩
def tot (zs : List E) : Nat := zs.foldl (fun a x => a + ((x.2.1).size + (x.2.2).size)) zs.length
def totTo (zs : List E) (j : Nat) : Nat := (zs.take j).foldl (fun a x => a + ((x.2.1).size + (x.2.2).size)) zs.length
theorem totTo_succ (zs : List E) (j : Nat) (h : j < zs.length) : totTo zs (j + 1) = totTo zs j + (((at' zs j).2.1).size + ((at' zs j).2.2).size) := by
  unfold totTo
  rw [at_snoc zs j h, List.foldl_append]
  rfl
theorem totTo_mono (zs : List E) : ∀ (i j : Nat), i ≤ j → j ≤ zs.length → totTo zs i ≤ totTo zs j
  | i, 0, h, _ => by obtain rfl : i = 0 := by omega
                     exact Nat.le_refl _
  | i, j + 1, h, hj => by
    by_cases e : i = j + 1
    · subst e; exact Nat.le_refl _
    · have h1 := totTo_mono zs i j (by omega) (by omega)
      rw [totTo_succ zs j (by omega)]
      omega
theorem totTo_all (zs : List E) : totTo zs zs.length = tot zs := by unfold totTo tot; rw [List.take_of_length_le (Nat.le_refl _)]
theorem tot_len (zs : List E) : zs.length ≤ tot zs := by have := totTo_mono zs 0 zs.length (Nat.zero_le _) (Nat.le_refl _); rw [totTo_all] at this; unfold totTo at this; simpa using this
theorem tot_at (zs : List E) (j : Nat) (h : j < zs.length) : ((at' zs j).2.1).size + ((at' zs j).2.2).size ≤ tot zs := by
  have h1 := totTo_succ zs j h
  have h2 := totTo_mono zs (j + 1) zs.length (by omega) (Nat.le_refl _)
  rw [totTo_all] at h2
  omega
end Go.Proofs.YtkmoekbicbjdmaaDoor.Mat

/- MatchesOk, of the program and of the model, at every slice of matches. -/
namespace Go.Proofs.YtkmoekbicbjdmaaDoor.Mat
open Go.RowKit Rw
open Lab (nameB wordB letters name_any word_any l3Name_any l3Letters_any in_yes in_no)
set_option linter.unusedVariables false
attribute [local go_sem ↓] Go.wp_at_zero Go.wp_at_succ
def ruleT (k : Int) : TypeId := if k = 1 then 90 else if k = 2 then 91 else if k = 3 then 92 else 93
theorem ruleOf_yes (k : Int) (s : ByteArray) (w : World) (h1 : 1 ≤ k) (h4 : k ≤ 4) : Calls Tryd.prog 49 #[.int .i64 k, .string s] w fun e w' => e = .returned (.iface (ruleT k) (.string s)) ∧ w' = w := by
  rcases (show k = 1 ∨ k = 2 ∨ k = 3 ∨ k = 4 from by omega) with rfl | rfl | rfl | rfl
  all_goals
    clear h1 h4
    go_enter Tryd.func49, Tryd.ntmps49
    go_wp2
    go_ret
    exact ⟨rfl, rfl⟩
theorem ruleOf_no (k : Int) (s : ByteArray) (w : World) (h : k < 1 ∨ 4 < k) : Calls Tryd.prog 49 #[.int .i64 k, .string s] w fun e w' => e = .returned .nilIface ∧ w' = w := by
  have e1 : (k == 1) = false := by simp; omega
  have e2 : (k == 2) = false := by simp; omega
  have e3 : (k == 3) = false := by simp; omega
  have e4 : (k == 4) = false := by simp; omega
  clear h
  go_enter Tryd.func49, Tryd.ntmps49
  go_wp2
  go_ret
  exact ⟨rfl, rfl⟩
def stepOk (zs : List E) (i : Nat) : Bool := decide (1 ≤ (at' zs i).1) && decide ((at' zs i).1 ≤ 4) && nameB (at' zs i).2.1 && wordB (at' zs i).2.2
def okTo (zs : List E) (k : Nat) : Bool := (List.range k).all (stepOk zs)
def ok (zs : List E) : Bool := okTo zs zs.length && decide (zs.length ≤ 4)
theorem okTo_succ (zs : List E) (k : Nat) : okTo zs (k + 1) = (okTo zs k && stepOk zs k) := by simp [okTo, List.range_succ]
theorem ok_of_bad {zs : List E} {k : Nat} (hk : k < zs.length) (h : stepOk zs k = false) : ok zs = false := by
  have : okTo zs zs.length = false := by unfold okTo; rw [List.all_eq_false]; exact ⟨k, List.mem_range.2 hk, by simp [h]⟩
  unfold ok; rw [this]; rfl
theorem step_yes {zs : List E} {k : Nat} (h1 : 1 ≤ (at' zs k).1) (h4 : (at' zs k).1 ≤ 4) (h2 : nameB (at' zs k).2.1 = true) (h3 : wordB (at' zs k).2.2 = true) : stepOk zs k = true := by
  unfold stepOk; rw [decide_eq_true h1, decide_eq_true h4, h2, h3]; rfl
theorem step_kind {zs : List E} {k : Nat} (h : (at' zs k).1 < 1 ∨ 4 < (at' zs k).1) : stepOk zs k = false := by
  unfold stepOk
  rcases h with h | h
  · rw [decide_eq_false (by omega)]; rfl
  · rw [decide_eq_false (show ¬ (at' zs k).1 ≤ 4 by omega), Bool.and_false]; rfl
theorem step_name {zs : List E} {k : Nat} (h : nameB (at' zs k).2.1 = false) : stepOk zs k = false := by unfold stepOk; rw [h, Bool.and_false]; rfl
theorem step_word {zs : List E} {k : Nat} (h : wordB (at' zs k).2.2 = false) : stepOk zs k = false := by unfold stepOk; rw [h, Bool.and_false]
set_option maxRecDepth 100000 in
set_option maxHeartbeats 4000000 in
theorem impl_ok {w : World} {v : Value} {zs : List E} (h : Is w v zs) (hg : ∀ x ∈ zs, good x) (hlen : zs.length ≤ maxLen) : Calls Tryd.prog 20 #[v] w fun e w' => e = .returned (.bool (ok zs)) ∧ Below w.heap.size w w' := by
  obtain ⟨-, a, cap, rfl, hc, hm, -, hr⟩ := h
  unfold maxLen at hm hlen
  obtain ⟨n, hn⟩ : ∃ n, n = zs.length := ⟨_, rfl⟩
  rw [← hn] at hc hr hlen ⊢
  have HN := hide hn
  have HG := hide hg
  clear hn hg
  go_enter Tryd.func20, Tryd.ntmps20
  go_wp2_with fail
  go_loopw [7] (fun i wr => ∃ k : Nat, k ≤ n ∧ i = .int .i64 k ∧ okTo zs k = true ∧ Below w.heap.size w wr) (fun i _ => n - (intOf i).toNat)
  case atStart => exact ⟨0, Nat.zero_le _, rfl, rfl, Below.refl _ _⟩
  case round =>
    obtain ⟨k, hk, rfl, hok, hbel⟩ := hrel
    have HO := hide hok
    clear hok
    have hsz := hbel.size
    by_cases hlt : k < n
    · obtain ⟨b, off, rfl, hl, hcells⟩ := hr (by omega)
      have fa := flat_at zs k (by have := unhide HN; omega)
      have gd := unhide HG (at' zs k) (by rw [at_get zs k (by have := unhide HN; omega)]; exact List.getElem_mem _)
      obtain ⟨K, A, B, hX⟩ : ∃ K A B, (K, A, B) = at' zs k := ⟨_, _, _, rfl⟩
      rw [← hX] at fa gd
      obtain ⟨-, gA, gB⟩ := gd
      have hc0 : wr.cell? ⟨b, off + k * 3, none⟩ = some (.int .i64 K) := (hbel.cell (p := ⟨b, _, none⟩) hl).trans (hcells (k * 3) _ fa.1)
      have hc1 : wr.cell? ⟨b, off + k * 3 + 1, none⟩ = some (.string A) := (hbel.cell (p := ⟨b, _, none⟩) hl).trans (hcells (k * 3 + 1) _ fa.2.1)
      have hc2 : wr.cell? ⟨b, off + k * 3 + 2, none⟩ = some (.string B) := (hbel.cell (p := ⟨b, _, none⟩) hl).trans (hcells (k * 3 + 2) _ fa.2.2)
      have HX := hide hX
      clear hX fa
      have hk0 : (0 : Int) ≤ (k : Int) := Int.natCast_nonneg _
      have hk1 : (k : Int) < (n : Int) := by omega
      obtain ⟨W, hW⟩ : ∃ W, W = wr.alloc (.cells #[.int .i64 K, .string A, .string B] 61) := ⟨_, rfl⟩
      have hWb : Below w.heap.size w W := by rw [hW]; exact hbel.alloc hsz _
      have hW1 : W.cell? ⟨wr.heap.size, 1, none⟩ = some (.string A) := by rw [hW]; simp
      have hW2 : W.cell? ⟨wr.heap.size, 2, none⟩ = some (.string B) := by rw [hW]; simp
      have hWs : W.heap.size = wr.heap.size + 1 := by rw [hW]; simp
      have HWs := hide hWs
      have HW := hide hW
      clear hW hWs
      have HNm := hide (fun X => name_any A X gA)
      have HWd := hide (fun X => word_any B X gB)
      clear gA gB
      by_cases hK : 1 ≤ K ∧ K ≤ 4
      · have HR := hide (fun X => ruleOf_yes K B X hK.1 hK.2)
        have HK := hide hK
        clear hK
        go_wp2_with fail
        rw [← unhide HW]
        refine (unhide HR W).mono ?_
        rintro e w0 ⟨rfl, hw0⟩
        subst hw0
        go_wp2_with fail
        refine (unhide HNm _).mono ?_
        rintro e w1 ⟨rfl, b1⟩
        have hw2 : w1.cell? ⟨wr.heap.size, 2, none⟩ = some (.string B) := (b1.cell (p := ⟨_, _, none⟩) (by have := unhide HWs; show wr.heap.size < _; omega)).trans hW2
        have c1 := hWb.trans (b1.mono hWb.size)
        cases hnm : nameB A
        · have HF := hide (ok_of_bad (zs := zs) (k := k) (by have := unhide HN; omega) (step_name (by rw [← unhide HX]; exact hnm)))
          clear hnm
          go_wp2_with fail
          go_ret
          exact ⟨ret_bool (unhide HF).symm, c1⟩
        have KN := hide hnm
        clear hnm
        go_wp2_with fail
        refine (unhide HWd w1).mono ?_
        rintro e w2 ⟨rfl, b2⟩
        have c2 := c1.trans (b2.mono c1.size)
        cases hwd : wordB B
        · have HF := hide (ok_of_bad (zs := zs) (k := k) (by have := unhide HN; omega) (step_word (by rw [← unhide HX]; exact hwd)))
          clear hwd
          go_wp2_with fail
          go_ret
          exact ⟨ret_bool (unhide HF).symm, c2⟩
        · have HS := hide (show okTo zs (k + 1) = true by rw [okTo_succ, unhide HO, step_yes (by rw [← unhide HX]; exact (unhide HK).1) (by rw [← unhide HX]; exact (unhide HK).2) (by rw [← unhide HX]; exact unhide KN) (by rw [← unhide HX]; exact hwd)]; rfl)
          clear hwd
          go_wp2_with fail
          go_roundw
          case rel => exact ⟨k + 1, by omega, by go_num, unhide HS, c2⟩
          case measure => simp [intOf]; omega
      · have HR := hide (fun X => ruleOf_no K B X (by omega))
        have HF := hide (ok_of_bad (zs := zs) (k := k) (by have := unhide HN; omega) (step_kind (by rw [← unhide HX]; show K < 1 ∨ 4 < K; omega)))
        clear hK
        go_wp2_with fail
        rw [← unhide HW]
        refine (unhide HR W).mono ?_
        rintro e w0 ⟨rfl, hw0⟩
        subst hw0
        go_wp2_with fail
        go_ret
        exact ⟨ret_bool (unhide HF).symm, hWb⟩
    · go_wp2_with fail
      go_ret
      refine ⟨ret_bool ?_, hbel⟩
      unfold ok
      rw [← unhide HN, show n = k from by omega, unhide HO, Bool.true_and]
      exact decide_eq_decide.2 (by omega)
set_option maxRecDepth 100000 in
set_option maxHeartbeats 4000000 in
theorem spec_ok {w : World} {v : Value} {zs : List E} (h : Is w v zs) (hg : ∀ x ∈ zs, good x) (hlen : zs.length ≤ maxLen) : Calls Tryd.prog 21 #[v] w fun e w' => e = .returned (.bool (ok zs)) ∧ Below w.heap.size w w' := by
  obtain ⟨-, a, cap, rfl, hc, hm, -, hr⟩ := h
  unfold maxLen at hm hlen
  obtain ⟨n, hn⟩ : ∃ n, n = zs.length := ⟨_, rfl⟩
  rw [← hn] at hc hr hlen ⊢
  have HN := hide hn
  have HG := hide hg
  clear hn hg
  go_enter Tryd.func21, Tryd.ntmps21
  go_wp2_with fail
  go_loop [3] (fun i => ∃ k : Nat, k ≤ n ∧ i = .int .i64 k ∧ okTo zs k = true) (fun i => n - (intOf i).toNat)
  case atStart => exact ⟨0, Nat.zero_le _, rfl, rfl⟩
  case round =>
    obtain ⟨k, hk, rfl, hok⟩ := hrel
    have HO := hide hok
    clear hok
    by_cases hlt : k < n
    · obtain ⟨b, off, rfl, hl, hcells⟩ := hr (by omega)
      have fa := flat_at zs k (by have := unhide HN; omega)
      have gd := unhide HG (at' zs k) (by rw [at_get zs k (by have := unhide HN; omega)]; exact List.getElem_mem _)
      obtain ⟨K, A, B, hX⟩ : ∃ K A B, (K, A, B) = at' zs k := ⟨_, _, _, rfl⟩
      rw [← hX] at fa gd
      obtain ⟨-, gA, gB⟩ := gd
      have hc0 : w.cell? ⟨b, off + k * 3, none⟩ = some (.int .i64 K) := hcells (k * 3) _ fa.1
      have hc1 : w.cell? ⟨b, off + k * 3 + 1, none⟩ = some (.string A) := hcells (k * 3 + 1) _ fa.2.1
      have hc2 : w.cell? ⟨b, off + k * 3 + 2, none⟩ = some (.string B) := hcells (k * 3 + 2) _ fa.2.2
      have HX := hide hX
      clear hX fa
      have hk0 : (0 : Int) ≤ (k : Int) := Int.natCast_nonneg _
      have hk1 : (k : Int) < (n : Int) := by omega
      have HNm := hide (fun X => l3Name_any A X gA)
      have HWd := hide (fun X => l3Letters_any B 8 X gB)
      have HWB := hide (show (letters B && decide ((B.size : Int) ≤ 8)) = wordB B by unfold wordB; rw [Bool.and_comm]; congr 1; exact decide_eq_decide.2 (by omega))
      rw [unhide HWB] at HWd
      clear gA gB
      by_cases hK : 1 ≤ K ∧ K ≤ 4
      · have HI := hide (fun X => in_yes K 1 4 X hK.1 hK.2)
        have HK := hide hK
        clear hK
        go_wp2_with fail
        refine (unhide HI _).mono ?_
        rintro e w0 ⟨rfl, hw0⟩
        subst hw0
        go_wp2_with fail
        refine (unhide HNm _).mono ?_
        rintro e w1 ⟨rfl, hw1⟩
        subst hw1
        cases hnm : nameB A
        · have HF := hide (ok_of_bad (zs := zs) (k := k) (by have := unhide HN; omega) (step_name (by rw [← unhide HX]; exact hnm)))
          clear hnm
          go_wp2_with fail
          go_ret
          exact ⟨ret_bool (unhide HF).symm, Below.refl _ _⟩
        have KN := hide hnm
        clear hnm
        go_wp2_with fail
        refine (unhide HWd _).mono ?_
        rintro e w2 ⟨rfl, hw2⟩
        subst hw2
        cases hwd : wordB B
        · have HF := hide (ok_of_bad (zs := zs) (k := k) (by have := unhide HN; omega) (step_word (by rw [← unhide HX]; exact hwd)))
          clear hwd
          go_wp2_with fail
          go_ret
          exact ⟨ret_bool (unhide HF).symm, Below.refl _ _⟩
        · have HS := hide (show okTo zs (k + 1) = true by rw [okTo_succ, unhide HO, step_yes (by rw [← unhide HX]; exact (unhide HK).1) (by rw [← unhide HX]; exact (unhide HK).2) (by rw [← unhide HX]; exact unhide KN) (by rw [← unhide HX]; exact hwd)]; rfl)
          clear hwd
          go_wp2_with fail
          go_round
          case rel => exact ⟨k + 1, by omega, by go_num, unhide HS⟩
          case measure => simp [intOf]; omega
      · have HI := hide (fun X => in_no K 1 4 X (by omega))
        have HF := hide (ok_of_bad (zs := zs) (k := k) (by have := unhide HN; omega) (step_kind (by rw [← unhide HX]; show K < 1 ∨ 4 < K; omega)))
        clear hK
        go_wp2_with fail
        refine (unhide HI _).mono ?_
        rintro e w0 ⟨rfl, hw0⟩
        subst hw0
        go_wp2_with fail
        go_ret
        exact ⟨ret_bool (unhide HF).symm, Below.refl _ _⟩
    · go_wp2_with fail
      go_ret
      refine ⟨ret_bool ?_, Below.refl _ _⟩
      unfold ok
      rw [← unhide HN, show n = k from by omega, unhide HO, Bool.true_and]
      exact decide_eq_decide.2 (by omega)
end Go.Proofs.YtkmoekbicbjdmaaDoor.Mat

/- What a match lets, as plain mathematics. No condition. -/
namespace Go.Proofs.YtkmoekbicbjdmaaDoor.Mat
open Go.RowKit Rw
def sameS (a b : ByteArray) : Bool := a.toList == b.toList
theorem sameS_iff {a b : ByteArray} : sameS a b = true ↔ a = b := by
  unfold sameS
  rw [beq_iff_eq, ByteArray.toList_eq, ByteArray.toList_eq]
  exact ⟨Go.WideShapes.bytes_inj, fun h => by rw [h]⟩
theorem sameS_self (a : ByteArray) : sameS a a = true := sameS_iff.2 rfl
theorem sameS_no {a b : ByteArray} : sameS a b = false ↔ a ≠ b := by
  cases h : sameS a b
  · simp only [true_iff]; intro e; rw [sameS_iff.2 e] at h; cases h
  · simp only [Bool.true_eq_false, false_iff, Decidable.not_not]; exact sameS_iff.1 h
def wordOf (ls : List Lab.E) (nm : ByteArray) : ByteArray := ((ls.find? fun x => sameS x.1 nm).map (·.2)).getD ByteArray.empty
theorem find_none (ls : List Lab.E) (nm : ByteArray) (k : Nat) (hk : k < ls.length) (h : (ls.take k).find? (fun x => sameS x.1 nm) = none) (hx : sameS (Lab.at' ls k).1 nm = false) : (ls.take (k + 1)).find? (fun x => sameS x.1 nm) = none := by
  rw [Lab.at_snoc ls k hk, List.find?_append, h]
  simp [hx]
theorem word_hit (ls : List Lab.E) (nm : ByteArray) (k : Nat) (hk : k < ls.length) (h : (ls.take k).find? (fun x => sameS x.1 nm) = none) (hx : sameS (Lab.at' ls k).1 nm = true) : wordOf ls nm = (Lab.at' ls k).2 := by
  unfold wordOf
  have e : ls = ls.take k ++ (Lab.at' ls k :: ls.drop (k + 1)) := by
    rw [Lab.at_get ls k hk, ← List.drop_eq_getElem_cons hk, List.take_append_drop]
  rw [e, List.find?_append, h, List.find?_cons]
  have e2 : Lab.at' (ls.take k ++ (Lab.at' ls k :: ls.drop (k + 1))) k = Lab.at' ls k := by rw [← e]
  simp [hx, e2]
theorem word_miss (ls : List Lab.E) (nm : ByteArray) (h : ls.find? (fun x => sameS x.1 nm) = none) : wordOf ls nm = ByteArray.empty := by unfold wordOf; rw [h]; rfl
theorem wordOf_size {ls : List Lab.E} (hg : ∀ x ∈ ls, Lab.good x) (nm : ByteArray) : (wordOf ls nm).size ≤ maxLen := by
  unfold wordOf
  cases h : ls.find? fun x => sameS x.1 nm with
  | none => simp
  | some x => exact (hg x (List.mem_of_find?_eq_some h)).2
def prefB (w p : ByteArray) : Bool := Lib.hasPrefix w.data.toList p.data.toList
def letB (m : E) (ls : List Lab.E) : Bool :=
  if m.1 = 1 then sameS (wordOf ls m.2.1) m.2.2 else if m.1 = 2 then !sameS (wordOf ls m.2.1) m.2.2 else if m.1 = 3 then prefB (wordOf ls m.2.1) m.2.2 else !prefB (wordOf ls m.2.1) m.2.2
def letsTo (zs : List E) (ls : List Lab.E) (k : Nat) : Bool := (zs.take k).all fun m => letB m ls
def lets (zs : List E) (ls : List Lab.E) : Bool := zs.all fun m => letB m ls
theorem letsTo_succ (zs : List E) (ls : List Lab.E) (k : Nat) (h : k < zs.length) : letsTo zs ls (k + 1) = (letsTo zs ls k && letB (at' zs k) ls) := by
  unfold letsTo; rw [at_snoc zs k h, List.all_append]; simp
theorem lets_no (zs : List E) (ls : List Lab.E) (k : Nat) (h : k < zs.length) (hb : letB (at' zs k) ls = false) : lets zs ls = false := by
  unfold lets; rw [List.all_eq_false]
  exact ⟨at' zs k, by rw [at_get zs k h]; exact List.getElem_mem _, by simp [hb]⟩
theorem lets_all (zs : List E) (ls : List Lab.E) (h : letsTo zs ls zs.length = true) : lets zs ls = true := by
  unfold letsTo at h; rwa [List.take_of_length_le (Nat.le_refl _)] at h
/-- what MatchesLet answers -/
def mlet (zs : List E) (ls : List Lab.E) : Bool := ok zs && Lab.ok ls && lets zs ls
theorem ok_kind {zs : List E} (h : ok zs = true) {k : Nat} (hk : k < zs.length) : 1 ≤ (at' zs k).1 ∧ (at' zs k).1 ≤ 4 := by
  unfold ok at h; rw [Bool.and_eq_true] at h
  have := h.1; unfold okTo at this
  have := List.all_eq_true.1 this k (List.mem_range.2 hk)
  unfold stepOk at this
  simp only [Bool.and_eq_true, decide_eq_true_eq] at this
  exact ⟨this.1.1.1, this.1.1.2⟩
/-- the model's own way to ask for a beginning -/
theorem prefB_eq (w p : ByteArray) : prefB w p = (decide (p.size ≤ w.size) && sameS (w.extract 0 p.size) p) := by
  have hw : w.data.toList.length = w.size := Array.length_toList
  have hp : p.data.toList.length = p.size := Array.length_toList
  unfold prefB Lib.hasPrefix
  rw [Bool.eq_iff_iff, Bool.and_eq_true, decide_eq_true_eq, sameS_iff]
  have ex : (w.extract 0 p.size).data.toList = w.data.toList.take p.size := by simp [ByteArray.data_extract]
  constructor
  · intro h
    have h := List.isPrefixOf_iff_prefix.1 h
    obtain ⟨t, ht⟩ := h
    have hl := congrArg List.length ht
    rw [List.length_append] at hl
    refine ⟨by omega, Go.WideShapes.bytes_inj ?_⟩
    rw [ex, ← ht, ← hp, List.take_left]
  · rintro ⟨h1, h2⟩
    refine List.isPrefixOf_iff_prefix.2 ⟨w.data.toList.drop p.size, ?_⟩
    have := congrArg (fun x : ByteArray => x.data.toList) h2
    simp only [ex] at this
    rw [← this, List.take_append_drop]
end Go.Proofs.YtkmoekbicbjdmaaDoor.Mat
