/- LabelsGet of the program, at every text. What it asks: internal/bytealg.MaxLen holds some int, as in every world of a started program. -/
import Derived.Test.YtkmoekbicbjdmaaDoorCutWalk
import Derived.Test.YtkmoekbicbjdmaaDoorLabGetMath
import Derived.Test.YtkmoekbicbjdmaaDoorRowKey
import Derived.Test.YtkmoekbicbjdmaaDoorShelf
import Derived.WalkSmall
namespace Go.Proofs.YtkmoekbicbjdmaaDoor.Lab
open Go.RowKit Rw PutMath CutText
set_option linter.unusedVariables false
attribute [local go_sem ↓] Go.wp_at_zero Go.wp_at_succ
/-- the library's variable holds some int -/
def Mx (w : World) : Prop := ∃ m, w.cell? ⟨0, 0, none⟩ = some (.int .i64 m)
theorem Mx.below {w w' : World} (h : Mx w) (hb : Below w.heap.size w w') : Mx w' := by
  obtain ⟨m, h⟩ := h
  exact ⟨m, (hb.cell (p := ⟨0, 0, none⟩) (World.block_lt_of_cell? _ _ h)).trans h⟩
theorem split_cut (s : ByteArray) (b : UInt8) : Lib.splitB ⟨#[b]⟩ 0 (Lib.countB s ⟨#[b]⟩) s = cutB b s := by
  have h1 := Lib.splitB_data ⟨#[b]⟩ 0 (Lib.countB s ⟨#[b]⟩) s
  have h2 : (Lib.splitB ⟨#[b]⟩ 0 (Lib.countB s ⟨#[b]⟩) s).map (·.data.toList) = cutL b s.data.toList := h1.trans (split_eq b _ s.data.toList (Nat.le_refl _))
  unfold cutB
  rw [← h2, List.map_map]
  conv => lhs; rw [← List.map_id (Lib.splitB ⟨#[b]⟩ 0 (Lib.countB s ⟨#[b]⟩) s)]
  exact List.map_congr_left (fun p _ => (list_ofL p).symm)
theorem split_any (s : ByteArray) (b : UInt8) (w : World) (hs : s.size ≤ 4194304) (hm : Mx w) :
    Calls Tryd.prog 63 #[.string s, .string ⟨#[b]⟩] w fun e w' => ∃ v, e = .returned v ∧ w'.ownsRow w.heap.size 9 1 v (cutB b s).length (flatS (cutB b s)) ∧ Below w.heap.size w w' := by
  obtain ⟨m, hm⟩ := hm
  have hl := Lib.splitB_all ⟨#[b]⟩ (show 1 ≤ (⟨#[b]⟩ : ByteArray).size from Nat.le_refl 1) 0 _ s rfl
  have c := Tryd.strings_Split s ⟨#[b]⟩ m w (by omega) hm (Nat.le_refl 1)
  rw [split_cut] at c hl
  have hc : (cutB b s).length ≤ s.size + 1 := by unfold cutB; rw [List.length_map]; have := cutL_len b s.data.toList; have hl2 : s.data.toList.length = s.size := Array.length_toList; omega
  rw [← hl] at c
  refine c.mono fun e w' ⟨h1, h2⟩ => ⟨_, h1, ?_, ?_⟩
  · rw [h2]
    have := Draw.own_new (w := w) (cs := ((cutB b s).map Value.string).toArray) (t := 9) (n := (cutB b s).length) (size := 1) (base := w.heap.size) rfl (by simp) (by unfold maxLen; omega) (Nat.le_refl _)
    simpa [flatS] using this
  · rw [h2]; exact (Below.refl _ _).alloc (Nat.le_refl _) _
theorem suf_no {r : List UInt8} {c : UInt8} (h : ∀ m, r ≠ m ++ [c]) : Lib.hasSuffix r [c] = false := by
  cases e : Lib.hasSuffix r [c]
  · rfl
  · exfalso
    unfold Lib.hasSuffix at e
    rw [List.isSuffixOf_iff_suffix] at e
    obtain ⟨t, ht⟩ := e
    exact h t ht.symm
theorem pre_no {l : List UInt8} {o : UInt8} (h : ∀ r, l ≠ o :: r) : Lib.hasPrefix l [o] = false := by
  cases e : Lib.hasPrefix l [o]
  · rfl
  · exfalso
    unfold Lib.hasPrefix at e
    rw [List.isPrefixOf_iff_prefix] at e
    obtain ⟨t, ht⟩ := e
    exact h t ht.symm
theorem pre_yes (o : UInt8) (r : List UInt8) : Lib.hasPrefix (o :: r) [o] = true := by simp [Lib.hasPrefix]
theorem suf_yes (c : UInt8) (m : List UInt8) : Lib.hasSuffix (m ++ [c]) [c] = true := by simp [Lib.hasSuffix]
def piecesOf (m : List UInt8) : List ByteArray := if m = [] then [] else (cutL 44 m).map ofL
/-- what stands between two brackets -/
def Within (s : ByteArray) (o c : UInt8) (w : World) (e : Ending) (w' : World) : Prop :=
  ((∀ r, s.data.toList ≠ o :: r ++ [c]) ∧ e = .returned (.tuple #[.slice none 0 0, .bool false]) ∧ w' = w) ∨
  (∃ m v, s.data.toList = o :: m ++ [c] ∧ e = .returned (.tuple #[v, .bool true]) ∧ w'.ownsRow w.heap.size 9 1 v (piecesOf m).length (flatS (piecesOf m)) ∧ Below w.heap.size w w')
set_option maxRecDepth 100000 in
set_option maxHeartbeats 4000000 in
theorem within_any (s : ByteArray) (o c : UInt8) (w : World) (hs : s.size ≤ 4194304) (hm : Mx w) :
    Calls Tryd.prog 34 #[.string s, .string ⟨#[o]⟩, .string ⟨#[c]⟩] w (Within s o c w) := by
  have HP := hide (fun W => Tryd.strings_CutPrefix s ⟨#[o]⟩ W)
  have HC := hide (fun (t : ByteArray) (ht : t.size ≤ 4194304) W => Tryd.strings_CutSuffix t ⟨#[c]⟩ W (by omega))
  have HS := hide (fun (t : ByteArray) (ht : t.size ≤ 4194304) => split_any t 44 w ht hm)
  have eo : (⟨#[o]⟩ : ByteArray).data.toList = [o] := rfl
  have ec : (⟨#[c]⟩ : ByteArray).data.toList = [c] := rfl
  rw [eo] at HP
  rw [ec] at HC
  clear hm eo ec
  have hsl : s.data.toList.length = s.size := Array.length_toList
  by_cases h1 : ∃ r, s.data.toList = o :: r
  · obtain ⟨r, hr⟩ := h1
    have e1 : (⟨(Lib.trimPrefix s.data.toList [o]).toArray⟩ : ByteArray) = ofL r := by
      unfold Lib.trimPrefix
      rw [hr, pre_yes]; rfl
    have e2 : Lib.hasPrefix s.data.toList [o] = true := by rw [hr, pre_yes]
    rw [e1, e2] at HP
    have hrs : (ofL r).size ≤ 4194304 := by
      have : (ofL r).size = r.length := size_of r
      rw [hr] at hsl
      simp at hsl
      omega
    have HC1 := hide (unhide HC (ofL r) hrs)
    rw [ofL_list] at HC1
    by_cases h2 : ∃ m, r = m ++ [c]
    · obtain ⟨m, rfl⟩ := h2
      have e3 : (⟨(Lib.trimSuffix (m ++ [c]) [c]).toArray⟩ : ByteArray) = ofL m := by
        unfold Lib.trimSuffix
        rw [suf_yes]; simp [ofL]
      rw [e3, suf_yes] at HC1
      have hms : (ofL m).size ≤ 4194304 := by
        have h3 : (ofL m).size = m.length := size_of m
        have h4 : (ofL (m ++ [c])).size = (m ++ [c]).length := size_of _
        simp at h4
        omega
      have HW := hide hr
      have HS1 := hide (unhide HS (ofL m) hms)
      clear e1 e2 e3 hr hrs HC HS hms hsl hs
      by_cases h3 : m = []
      · subst h3
        have hz : ofL [] = ⟨#[]⟩ := rfl
        rw [hz] at HC1
        go_enter Tryd.func34, Tryd.ntmps34
        go_wp2_with fail
        refine (unhide HP _).mono ?_
        rintro e w1 ⟨rfl, rfl⟩
        go_wp2_with fail
        refine (unhide HC1 _).mono ?_
        rintro e w2 ⟨rfl, rfl⟩
        go_wp2_with fail
        go_ret2
        exact .inr ⟨[], _, unhide HW, rfl, World.ownsRow_nil _ _ _ _, Below.refl _ _⟩
      · have hz0 : (ofL m).size ≠ 0 := by
          have : (ofL m).size = m.length := size_of m
          intro e
          exact h3 (List.eq_nil_of_length_eq_zero (by omega))
        have he := fun W => eql_empty hz0 W
        have he2 := not_empty hz0
        have HQ := hide (show cutB 44 (ofL m) = piecesOf m by unfold piecesOf cutB; rw [if_neg h3, ofL_list]; rfl)
        rw [unhide HQ] at HS1
        obtain ⟨T, hT⟩ : ∃ T, T = ofL m := ⟨_, rfl⟩
        rw [← hT] at HC1 HS1 he he2
        clear hT hz0 h3 HQ
        go_enter Tryd.func34, Tryd.ntmps34
        go_wp2_with fail
        refine (unhide HP _).mono ?_
        rintro e w1 ⟨rfl, rfl⟩
        go_wp2_with fail
        refine (unhide HC1 _).mono ?_
        rintro e w2 ⟨rfl, rfl⟩
        go_wp2_with fail
        refine (unhide HS1).mono ?_
        rintro e w3 ⟨v, rfl, ov, b3⟩
        have OV := hide ov
        clear ov
        go_wp2_with fail
        go_ret2
        exact .inr ⟨m, _, unhide HW, rfl, unhide OV, b3⟩
    · have e3 : Lib.hasSuffix r [c] = false := suf_no (fun m e => h2 ⟨m, e⟩)
      rw [e3] at HC1
      have HN := hide (show ∀ q, s.data.toList ≠ o :: q ++ [c] from fun q e => h2 ⟨q, by rw [hr] at e; simpa using e⟩)
      generalize (⟨(Lib.trimSuffix r [c]).toArray⟩ : ByteArray) = T at HC1
      clear e1 e2 e3 hr hrs HC HS h2 hsl hs
      go_enter Tryd.func34, Tryd.ntmps34
      go_wp2_with fail
      refine (unhide HP _).mono ?_
      rintro e w1 ⟨rfl, rfl⟩
      go_wp2_with fail
      refine (unhide HC1 _).mono ?_
      rintro e w2 ⟨rfl, rfl⟩
      go_wp2_with fail
      go_ret2
      exact .inl ⟨unhide HN, rfl, rfl⟩
  · have e2 : Lib.hasPrefix s.data.toList [o] = false := pre_no (fun r e => h1 ⟨r, e⟩)
    have e1 : (⟨(Lib.trimPrefix s.data.toList [o]).toArray⟩ : ByteArray) = s := by
      unfold Lib.trimPrefix
      rw [e2]; exact list_ofL s
    rw [e1, e2] at HP
    have HN := hide (show ∀ q, s.data.toList ≠ o :: q ++ [c] from fun q e => h1 ⟨q ++ [c], by rw [e]; rfl⟩)
    have HC1 := hide (unhide HC s hs)
    generalize (⟨(Lib.trimSuffix s.data.toList [c]).toArray⟩ : ByteArray) = T at HC1
    generalize Lib.hasSuffix s.data.toList [c] = B at HC1
    clear e1 e2 HC HS h1 hsl hs
    go_enter Tryd.func34, Tryd.ntmps34
    go_wp2_with fail
    refine (unhide HP _).mono ?_
    rintro e w1 ⟨rfl, rfl⟩
    go_wp2_with fail
    refine (unhide HC1 _).mono ?_
    rintro e w2 ⟨rfl, rfl⟩
    go_wp2_with fail
    go_ret2
    exact .inl ⟨unhide HN, rfl, rfl⟩
end Go.Proofs.YtkmoekbicbjdmaaDoor.Lab
