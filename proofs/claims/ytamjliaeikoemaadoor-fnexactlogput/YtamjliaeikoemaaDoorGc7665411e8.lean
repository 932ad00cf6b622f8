/- My own texts of one claim, laid together by program: LabPut, LabGetMath, MatPut, RecTextMath. -/
import Derived.Test.YtamjliaeikoemaaDoorG71b593df2f
import Derived.Test.YtamjliaeikoemaaDoorG78c638bd78
import Derived.Laws.Concat
import Derived.Deep.RegionHeld3
import Derived.Lib.ItoaNum
/- LabelsPut, of the program and of the model, at every slice of labels. -/
namespace Go.Proofs.YtamjliaeikoemaaDoor.Lab
open Go.RowKit Rw PutMath
set_option linter.unusedVariables false
attribute [local go_sem ↓] Go.wp_at_zero Go.wp_at_succ
theorem info_str : (Tryd.prog.info? 9).map (fun i => (i.zero, i.size, i.bytes)) = some (some (.string ByteArray.empty), 1, 16) := by kernel_rfl
def partOf (x : E) : ByteArray := x.1 ++ ⟨#[61]⟩ ++ x.2
def parts (zs : List E) : List ByteArray := zs.map partOf
theorem parts_snoc (zs : List E) (k : Nat) (h : k < zs.length) : parts (zs.take (k + 1)) = parts (zs.take k) ++ [partOf (at' zs k)] := by unfold parts; rw [at_snoc zs k h, List.map_append]; rfl
theorem parts_length (zs : List E) : (parts zs).length = zs.length := by simp [parts]
/-- none is too great -/
def small (zs : List E) : Prop := zs.length ≤ 1000 ∧ ∀ x ∈ zs, x.1.size ≤ 1000 ∧ x.2.size ≤ 1000
theorem part_size {zs : List E} (h : small zs) (k : Nat) : ∀ p ∈ parts (zs.take k), p.size ≤ 2001 := by
  intro p hp
  obtain ⟨x, hx, rfl⟩ := List.mem_map.1 hp
  have := h.2 x (List.mem_of_mem_take hx)
  unfold partOf
  rw [app_size, app_size]
  have e : (⟨#[61]⟩ : ByteArray).size = 1 := rfl
  omega
theorem join_small {zs : List E} (h : small zs) (k : Nat) : (joinB (parts (zs.take k))).length ≤ 2002000 := by
  have h1 := joinB_len (parts (zs.take k)) 2001 (part_size h k)
  rw [parts_length] at h1
  have h2 : (zs.take k).length ≤ 1000 := by have := List.length_take_le k zs; have := h.1; simp; omega
  have := Nat.mul_le_mul_right 2002 h2
  omega
theorem ok_small {zs : List E} (h : ok zs = true) : small zs := by
  unfold ok at h
  simp only [Bool.and_eq_true, decide_eq_true_eq] at h
  refine ⟨by omega, fun x hx => ?_⟩
  obtain ⟨k, hk, rfl⟩ := List.getElem_of_mem hx
  have hs := List.all_eq_true.1 (show (List.range zs.length).all (stepOk zs) = true from h.2) k (List.mem_range.2 hk)
  rw [← at_get zs k hk]
  unfold stepOk nameB wordB at hs
  simp only [Bool.and_eq_true, decide_eq_true_eq] at hs
  exact ⟨by have := hs.1.1.1.1.2; omega, by have := hs.1.1.2.1; omega⟩
def put (zs : List E) : ByteArray := if ok zs = true then wrap 123 125 (parts zs) else ByteArray.empty
def flatS (l : List ByteArray) : List Value := l.map Value.string
theorem flatS_append (a b : List ByteArray) : flatS (a ++ b) = flatS a ++ flatS b := by simp [flatS]
set_option maxRecDepth 100000 in
set_option maxHeartbeats 4000000 in
theorem impl_put {w : World} {v : Value} {zs : List E} (h : Is w v zs) (hg : ∀ x ∈ zs, good x) : Calls Tryd.prog 42 #[v] w fun e w' => e = .returned (.string (put zs)) ∧ Below w.heap.size w w' := by
  obtain ⟨i0, hi, hz0, hz1, hz2⟩ := info_parts info_str
  have H1 := hide (impl_ok h hg)
  cases ho : ok zs
  · have HR := hide (show put zs = ByteArray.empty by unfold put; rw [ho]; rfl)
    rw [ho] at H1
    clear ho h hg
    go_enter Tryd.func42, Tryd.ntmps42
    go_wp2_with fail
    refine (unhide H1).mono ?_
    rintro e w1 ⟨rfl, b1⟩
    go_wp2_with fail
    go_ret
    exact ⟨ret_string (unhide HR).symm, b1⟩
  have HR := hide (show put zs = wrap 123 125 (parts zs) by unfold put; rw [ho]; rfl)
  have hsm := ok_small ho
  have hn1 : 1 ≤ zs.length := by unfold ok at ho; simp only [Bool.and_eq_true, decide_eq_true_eq] at ho; exact ho.1.1
  rw [ho] at H1
  clear ho hg
  obtain ⟨-, a, cap, rfl, hc, hm, -, hr⟩ := h
  unfold maxLen at hm
  obtain ⟨n, hn⟩ : ∃ n, n = zs.length := ⟨_, rfl⟩
  have hn2 : n ≤ 1000 := by rw [hn]; exact hsm.1
  rw [← hn] at hc hr hn1 H1 ⊢
  have HN := hide hn
  have HSM := hide hsm
  clear hn hsm
  obtain ⟨R, hR⟩ : ∃ R, R = put zs := ⟨_, rfl⟩
  rw [← hR] at HR ⊢
  clear hR
  go_enter Tryd.func42, Tryd.ntmps42
  go_wp2_with fail
  refine (unhide H1).mono ?_
  rintro e w1 ⟨rfl, b1⟩
  go_wp2_with fail
  go_loopw [3, 11] (fun pv i wr => ∃ k : Nat, k ≤ n ∧ i = .int .i64 k ∧ wr.ownsRow w.heap.size 9 1 pv k (flatS (parts (zs.take k))) ∧ Below w.heap.size w wr) (fun _ i _ => n - (intOf i).toNat)
  case atStart => exact ⟨0, Nat.zero_le _, rfl, World.ownsRow_nil _ _ _ _, b1⟩
  case round =>
    clear b1 H1
    obtain ⟨k, hk, rfl, hown, hbel⟩ := hrel
    have hsz := hbel.size
    have hk0 : (0 : Int) ≤ (k : Int) := Int.natCast_nonneg _
    by_cases hlt : k < n
    · obtain ⟨b, off, rfl, hl, hcells⟩ := hr (by omega)
      have fa := flat_at zs k (by have := unhide HN; omega)
      have gd := (unhide HSM).2 (at' zs k) (by rw [at_get zs k (by have := unhide HN; omega)]; exact List.getElem_mem _)
      have HPS := parts_snoc zs k (by have := unhide HN; omega)
      obtain ⟨A, B, hX⟩ : ∃ A B, (A, B) = at' zs k := ⟨_, _, rfl⟩
      rw [← hX] at fa gd HPS
      simp only at gd
      have hc0 : wr.cell? ⟨b, off + k * 2, none⟩ = some (.string A) := (hbel.cell (p := ⟨b, _, none⟩) hl).trans (hcells (k * 2) _ fa.1)
      have hc1 : wr.cell? ⟨b, off + k * 2 + 1, none⟩ = some (.string B) := (hbel.cell (p := ⟨b, _, none⟩) hl).trans (hcells (k * 2 + 1) _ fa.2)
      have e61 : (⟨#[61]⟩ : ByteArray).size = 1 := rfl
      have HQ := hide (show partOf (A, B) = A ++ ⟨#[61]⟩ ++ B from rfl)
      have s1 : ∀ W, (Op.stringOp .add A ⟨#[61]⟩).run Tryd.prog W = .ok (.string (A ++ ⟨#[61]⟩)) W := fun W => run_string_add_sum W _ _ (by rw [e61]; omega)
      have s2 : ∀ W, (Op.stringOp .add (A ++ ⟨#[61]⟩) B).run Tryd.prog W = .ok (.string (A ++ ⟨#[61]⟩ ++ B)) W := fun W => run_string_add_sum W _ _ (by rw [app_size, e61]; omega)
      rw [← unhide HQ] at s2
      generalize A ++ ⟨#[61]⟩ = P1 at s1 s2
      have HPS' := hide HPS
      generalize partOf (A, B) = P2 at s2 HPS'
      clear hX fa gd HPS HQ e61
      have hk1 : (k : Int) < (n : Int) := by omega
      go_wp2_with (at_builtin; refine app_wp _ rfl _ _ _ rfl w.heap.size 9 i0 _ 1 16 Tryd.underlying77 hi hz0 hz1 hz2 rfl (by omega) _ k _ rfl ((hown.alloc _).alloc _) _ 1 [.string P2] rfl (lies_new (by simp) rfl (by unfold maxLen; omega)) (by simp [Value.oneCell']) (by unfold maxLen; omega) (by omega) (by simp; omega) ?_; intro vn wn on gn an)
      have R9 : Below w.heap.size w wn := below_grown ((hbel.alloc hsz _).alloc (by simp; omega) _) (by simp; omega) gn (own_ge hown)
      have R2 := hide (show wn.ownsRow w.heap.size 9 1 vn (k + 1) (flatS (parts (zs.take (k + 1)))) by rw [unhide HPS', flatS_append]; exact on)
      clear on gn an hown
      go_wp2_with fail
      go_roundw
      case rel => exact ⟨k + 1, by omega, by go_num, unhide R2, R9⟩
      case measure => simp [intOf]; omega
    · obtain rfl : k = n := by omega
      have hkf : decide ((k : Int) < (k : Int)) = false := by simp
      rw [List.take_of_length_le (by have := unhide HN; omega)] at hown
      obtain ⟨g, cp, rfl, hgb, hgl⟩ := hown.form (by omega)
      have JS := join_small (unhide HSM) k
      rw [List.take_of_length_le (by have := unhide HN; omega)] at JS
      have HL : (parts zs).length = k := by rw [parts_length]; exact (unhide HN).symm
      have hcp : k ≤ cp := by obtain ⟨-, a', c', e, h2, -⟩ := lies_of_own hown; simp only [Value.slice.injEq, true_and] at e; omega
      have HJ := hide (Tryd.strings_Join g 0 cp (parts zs) ⟨#[44]⟩ wr (fun j x hj => by
        have hj' := (List.getElem?_eq_some_iff.1 hj).1
        rw [Nat.zero_add, hown.cellAt j (by omega)]
        simp [flatS, hj]) hgl (by omega) (by omega) (by show (joinB (parts zs)).length ≤ _; omega))
      rw [HL] at HJ
      have e1 : (⟨#[123]⟩ : ByteArray).size = 1 := rfl
      have e2 : (⟨#[125]⟩ : ByteArray).size = 1 := rfl
      have HW := hide (wrap_join 123 125 (parts zs))
      have sJ := size_of (joinB (parts zs))
      have HJ2 := hide (show Calls Tryd.prog 46 #[.slice (some ⟨g, 0, none⟩) k cp, .string ⟨#[44]⟩] wr fun e w' => e = .returned (.string ⟨(joinB (parts zs)).toArray⟩) ∧ Below wr.heap.size wr w' from unhide HJ)
      have s1 : ∀ W, (Op.stringOp .add ⟨#[123]⟩ ⟨(joinB (parts zs)).toArray⟩).run Tryd.prog W = .ok (.string (⟨#[123]⟩ ++ ⟨(joinB (parts zs)).toArray⟩)) W := fun W => run_string_add_sum W _ _ (by rw [e1, sJ]; omega)
      have s2 : ∀ W, (Op.stringOp .add (⟨#[123]⟩ ++ ⟨(joinB (parts zs)).toArray⟩) ⟨#[125]⟩).run Tryd.prog W = .ok (.string (⟨#[123]⟩ ++ ⟨(joinB (parts zs)).toArray⟩ ++ ⟨#[125]⟩)) W := fun W => run_string_add_sum W _ _ (by rw [app_size, e1, e2, sJ]; omega)
      rw [unhide HW, ← unhide HR] at s2
      clear HJ HL hown JS sJ e1 e2 HW
      generalize (⟨(joinB (parts zs)).toArray⟩ : ByteArray) = J at HJ2 s1 s2
      generalize (⟨#[123]⟩ : ByteArray) ++ J = P1 at s1 s2
      go_wp2_with fail
      refine (unhide HJ2).mono ?_
      rintro e w5 ⟨rfl, b5⟩
      have c5 := hbel.trans (b5.mono hsz)
      go_wp2_with fail
      go_ret
      exact ⟨rfl, c5⟩
end Go.Proofs.YtamjliaeikoemaaDoor.Lab

/- Labels read from a text, as plain mathematics: what was put is read back, and only that is read. No condition. -/
namespace Go.Proofs.YtamjliaeikoemaaDoor.Lab
open PutMath CutText
set_option linter.unusedVariables false
def mid (s : ByteArray) : List UInt8 := (s.data.toList.drop 1).dropLast
def ofL (l : List UInt8) : ByteArray := ⟨l.toArray⟩
theorem ofL_list (l : List UInt8) : (ofL l).data.toList = l := of_toList l
theorem list_ofL (s : ByteArray) : ofL s.data.toList = s := Go.WideShapes.bytes_inj (ofL_list _)
def cutE (p : ByteArray) : E := (ofL (Lib.cut p.data.toList [61]).1, ofL (Lib.cut p.data.toList [61]).2.1)
def partsI (s : ByteArray) : List ByteArray := if mid s = [] then [] else (cutL 44 (mid s)).map ofL
def pI (s : ByteArray) : List E := (partsI s).map cutE
/-- what a text is read as -/
def getB (s : ByteArray) : List E × Bool := if s.size ≠ 0 ∧ put (pI s) = s then (pI s, true) else ([], false)
theorem letters_no {s : ByteArray} (h : letters s = true) {b : UInt8} (hb : letter b = false) : b ∉ s.data.toList := fun hm => by
  unfold letters at h
  have := List.all_eq_true.1 h b hm
  rw [hb] at this; cases this
theorem ok_each {zs : List E} (h : ok zs = true) : ∀ x ∈ zs, letters x.1 = true ∧ letters x.2 = true ∧ x.1.size ≤ 6 ∧ x.2.size ≤ 8 := by
  unfold ok at h
  simp only [Bool.and_eq_true, decide_eq_true_eq] at h
  intro x hx
  obtain ⟨k, hk, rfl⟩ := List.getElem_of_mem hx
  have hs := List.all_eq_true.1 (show (List.range zs.length).all (stepOk zs) = true from h.2) k (List.mem_range.2 hk)
  rw [← at_get zs k hk]
  unfold stepOk nameB wordB at hs
  simp only [Bool.and_eq_true, decide_eq_true_eq] at hs
  exact ⟨hs.1.1.1.2, hs.1.1.2.2, hs.1.1.1.1.2, hs.1.1.2.1⟩
theorem ok_len {zs : List E} (h : ok zs = true) : 1 ≤ zs.length ∧ zs.length ≤ 4 := by
  unfold ok at h
  simp only [Bool.and_eq_true, decide_eq_true_eq] at h
  exact h.1
theorem part_list (x : E) : (partOf x).data.toList = x.1.data.toList ++ 61 :: x.2.data.toList := by
  unfold partOf
  rw [app_toList, app_toList]; simp
theorem no44 {zs : List E} (h : ok zs = true) : ∀ p ∈ parts zs, (44 : UInt8) ∉ p.data.toList := by
  intro p hp
  obtain ⟨x, hx, rfl⟩ := List.mem_map.1 hp
  obtain ⟨h1, h2, -⟩ := ok_each h x hx
  rw [part_list]
  intro hm
  rcases List.mem_append.1 hm with hm | hm
  · exact letters_no h1 (by decide) hm
  · rcases List.mem_cons.1 hm with e | hm
    · exact absurd e (by decide)
    · exact letters_no h2 (by decide) hm
theorem put_list {zs : List E} (h : ok zs = true) : (put zs).data.toList = 123 :: joinB (parts zs) ++ [125] := by
  unfold put wrap
  rw [if_pos h, of_toList]
theorem mid_put {zs : List E} (h : ok zs = true) : mid (put zs) = joinB (parts zs) := by
  unfold mid
  rw [put_list h]
  simp
theorem parts_ne {zs : List E} (h : ok zs = true) : parts zs ≠ [] := by
  have := ok_len h
  intro e
  have h2 := parts_length zs
  rw [e, List.length_nil] at h2
  omega
theorem cut_parts {zs : List E} (h : ok zs = true) : cutL 44 (mid (put zs)) = (parts zs).map (·.data.toList) := by
  rw [mid_put h]
  exact cutL_joinB (parts_ne h) (no44 h)
theorem join_ne {zs : List E} (h : ok zs = true) : mid (put zs) ≠ [] := by
  intro e
  have h1 := cut_parts h
  rw [e] at h1
  simp only [cutL] at h1
  have h2 := congrArg List.length h1
  rw [List.length_map, parts_length] at h2
  simp at h2
  obtain ⟨x, rfl⟩ : ∃ x, zs = [x] := by
    match zs, h2 with
    | [x], _ => exact ⟨x, rfl⟩
  have h3 : [[]] = [(partOf x).data.toList] := h1
  rw [part_list] at h3
  simp at h3
theorem partsI_put {zs : List E} (h : ok zs = true) : partsI (put zs) = parts zs := by
  unfold partsI
  rw [if_neg (join_ne h), cut_parts h, List.map_map]
  conv => rhs; rw [← List.map_id (parts zs)]
  exact List.map_congr_left (fun p _ => list_ofL p)
theorem cut_two {x : E} (h1 : letters x.1 = true) (h2 : letters x.2 = true) : cutL 61 (partOf x).data.toList = [x.1.data.toList, x.2.data.toList] := by
  rw [part_list, cutL_hit _ (letters_no h1 (by decide)), cutL_miss (letters_no h2 (by decide))]
theorem cutE_part {x : E} (h1 : letters x.1 = true) (h2 : letters x.2 = true) : cutE (partOf x) = x := by
  have hn1 := letters_no h1 (b := 61) (by decide)
  have hn2 := letters_no h2 (b := 61) (by decide)
  unfold cutE
  rw [part_list]
  rcases index_cases (x.1.data.toList ++ 61 :: x.2.data.toList) 61 with ⟨h, hb⟩ | ⟨p, r, e, hb, h⟩
  · exact absurd (List.mem_append_right _ (List.mem_cons_self ..)) hb
  · have h3 := cutL_hit x.2.data.toList hn1
    rw [e, cutL_hit _ hb] at h3
    have h4 := (List.cons.inj h3).1
    have hl : Lib.index (x.1.data.toList ++ 61 :: x.2.data.toList) [61] = (x.1.data.toList.length : Int) := by rw [h, h4]
    unfold Lib.cut
    rw [hl, if_pos (by omega)]
    have t : ((x.1.data.toList.length : Int)).toNat = x.1.data.toList.length := rfl
    simp only [t, List.length_singleton]
    rw [List.take_left', List.drop_append]
    · simp only [Nat.add_sub_cancel_left, List.drop_succ_cons, List.drop_zero]
      rw [List.drop_of_length_le (by omega), List.nil_append]
      exact Prod.ext (list_ofL _) (list_ofL _)
    · rfl
theorem pI_put {zs : List E} (h : ok zs = true) : pI (put zs) = zs := by
  unfold pI
  rw [partsI_put h]
  unfold parts
  rw [List.map_map]
  conv => rhs; rw [← List.map_id zs]
  exact List.map_congr_left (fun x hx => cutE_part (ok_each h x hx).1 (ok_each h x hx).2.1)
theorem put_size {zs : List E} (h : ok zs = true) : 2 ≤ (put zs).size ∧ (put zs).size ≤ 200 := by
  have e : (put zs).size = (joinB (parts zs)).length + 2 := by
    unfold put wrap
    rw [if_pos h, size_of]
    simp
  have hl := joinB_len (parts zs) 15 (fun p hp => by
    obtain ⟨x, hx, rfl⟩ := List.mem_map.1 hp
    obtain ⟨-, -, h3, h4⟩ := ok_each h x hx
    unfold partOf
    rw [app_size, app_size]
    have e : (⟨#[61]⟩ : ByteArray).size = 1 := rfl
    omega)
  rw [parts_length] at hl
  have := (ok_len h).2
  omega
theorem of_put {zs : List E} {s : ByteArray} (h : put zs = s) (hs : s.size ≠ 0) : ok zs = true := by
  cases e : ok zs
  · exfalso
    unfold put at h
    rw [e] at h
    rw [← h] at hs
    exact hs rfl
  · rfl
theorem getB_put {zs : List E} (h : ok zs = true) : getB (put zs) = (zs, true) := by
  unfold getB
  rw [pI_put h, if_pos ⟨by have := (put_size h).1; omega, rfl⟩]
theorem getB_of {zs : List E} {s : ByteArray} (h : put zs = s) (hs : s.size ≠ 0) : getB s = (zs, true) := by
  have := getB_put (of_put h hs)
  rwa [h] at this
theorem getB_no {s : ByteArray} (h : ∀ zs, ok zs = true → put zs ≠ s) : getB s = ([], false) := by
  unfold getB
  rw [if_neg (fun ⟨h1, h2⟩ => h _ (of_put h2 h1) h2)]
theorem getB_true {s : ByteArray} {L : List E} (h : getB s = (L, true)) : ok L = true ∧ put L = s := by
  unfold getB at h
  split at h
  · rename_i hc
    obtain ⟨h1, h2⟩ := hc
    simp only [Prod.mk.injEq, and_true] at h
    subst h
    exact ⟨of_put h2 h1, h2⟩
  · simp at h
/-- the program: no bracket ahead, or none behind -/
theorem getB_first {s : ByteArray} (h : ∀ r, s.data.toList ≠ 123 :: r) : getB s = ([], false) := getB_no (fun zs hz e => by
  have := put_list hz
  rw [e] at this
  exact h _ this)
theorem getB_last {s : ByteArray} (h : ∀ r, s.data.toList ≠ 123 :: r ++ [125]) : getB s = ([], false) := getB_no (fun zs hz e => by
  have := put_list hz
  rw [e] at this
  exact h _ this)
theorem getB_put_ne {s : ByteArray} (h : put (pI s) ≠ s) : getB s = ([], false) := by
  unfold getB
  rw [if_neg (fun h2 => h h2.2)]
/-- the model: too short, too long, a part that is no two words, another text -/
theorem getB_len {s : ByteArray} (h : s.size < 2 ∨ 200 < s.size) : getB s = ([], false) := getB_no (fun zs hz e => by
  have := put_size hz
  rw [e] at this
  omega)
def twoE (p : List UInt8) : E := match cutL 61 p with | [a, b] => (ofL a, ofL b) | _ => (ByteArray.empty, ByteArray.empty)
theorem getB_part {s : ByteArray} {p : List UInt8} (hp : p ∈ cutL 44 (mid s)) (h : (cutL 61 p).length ≠ 2) : getB s = ([], false) := getB_no (fun zs hz e => by
  rw [← e, cut_parts hz] at hp
  obtain ⟨q, hq, rfl⟩ := List.mem_map.1 hp
  obtain ⟨x, hx, rfl⟩ := List.mem_map.1 hq
  have h3 := ok_each hz x hx
  rw [cut_two h3.1 h3.2.1] at h
  exact h rfl)
theorem two_put {zs : List E} (hz : ok zs = true) : (cutL 44 (mid (put zs))).map twoE = zs := by
  rw [cut_parts hz]
  unfold parts
  rw [List.map_map, List.map_map]
  conv => rhs; rw [← List.map_id zs]
  refine List.map_congr_left (fun x hx => ?_)
  have h3 := ok_each hz x hx
  show twoE (partOf x).data.toList = x
  unfold twoE
  rw [cut_two h3.1 h3.2.1]
  exact Prod.ext (list_ofL _) (list_ofL _)
theorem getB_two_ne {s : ByteArray} (h : put ((cutL 44 (mid s)).map twoE) ≠ s) : getB s = ([], false) := getB_no (fun zs hz e => by
  rw [← e, two_put hz] at h
  exact h rfl)
end Go.Proofs.YtamjliaeikoemaaDoor.Lab

/- MatchesPut of the program, at every slice of matches. -/
namespace Go.Proofs.YtamjliaeikoemaaDoor.Mat
open Go.RowKit Rw PutMath
open Lab (flatS flatS_append info_str nameB wordB)
set_option linter.unusedVariables false
attribute [local go_sem ↓] Go.wp_at_zero Go.wp_at_succ
def signB (k : Int) : ByteArray := if k = 1 then ⟨#[61]⟩ else if k = 2 then ⟨#[33]⟩ else if k = 3 then ⟨#[94]⟩ else ⟨#[126]⟩
theorem sign_size (k : Int) : (signB k).size = 1 := by unfold signB; split <;> (try split) <;> (try split) <;> rfl
def partOf (x : E) : ByteArray := x.2.1 ++ signB x.1 ++ x.2.2
def parts (zs : List E) : List ByteArray := zs.map partOf
theorem parts_snoc (zs : List E) (k : Nat) (h : k < zs.length) : parts (zs.take (k + 1)) = parts (zs.take k) ++ [partOf (at' zs k)] := by unfold parts; rw [at_snoc zs k h, List.map_append]; rfl
theorem parts_length (zs : List E) : (parts zs).length = zs.length := by simp [parts]
def small (zs : List E) : Prop := zs.length ≤ 1000 ∧ ∀ x ∈ zs, 1 ≤ x.1 ∧ x.1 ≤ 4 ∧ x.2.1.size ≤ 1000 ∧ x.2.2.size ≤ 1000
theorem part_size {zs : List E} (h : small zs) (k : Nat) : ∀ p ∈ parts (zs.take k), p.size ≤ 2001 := by
  intro p hp
  obtain ⟨x, hx, rfl⟩ := List.mem_map.1 hp
  have := h.2 x (List.mem_of_mem_take hx)
  unfold partOf
  rw [app_size, app_size, sign_size]
  omega
theorem join_small {zs : List E} (h : small zs) (k : Nat) : (joinB (parts (zs.take k))).length ≤ 2002000 := by
  have h1 := joinB_len (parts (zs.take k)) 2001 (part_size h k)
  rw [parts_length] at h1
  have h2 : (zs.take k).length ≤ 1000 := by have := List.length_take_le k zs; have := h.1; simp; omega
  have := Nat.mul_le_mul_right 2002 h2
  omega
theorem ok_small {zs : List E} (h : ok zs = true) : small zs := by
  unfold ok at h
  simp only [Bool.and_eq_true, decide_eq_true_eq] at h
  refine ⟨by omega, fun x hx => ?_⟩
  obtain ⟨k, hk, rfl⟩ := List.getElem_of_mem hx
  have hs := List.all_eq_true.1 (show (List.range zs.length).all (stepOk zs) = true from h.1) k (List.mem_range.2 hk)
  rw [← at_get zs k hk]
  unfold stepOk nameB wordB at hs
  simp only [Bool.and_eq_true, decide_eq_true_eq] at hs
  exact ⟨hs.1.1.1, hs.1.1.2, by have := hs.1.2.1.2; omega, by have := hs.2.1; omega⟩
def put (zs : List E) : ByteArray := if ok zs = true then wrap 91 93 (parts zs) else ByteArray.empty
theorem as00 (v : Value) (W : World) : (Instr.typeAssert (.iface 100 v) 80 100 true).run Tryd.prog W = .ok (.tuple #[v, .bool true]) W := by kernel_rfl
theorem as10 (v : Value) (W : World) : (Instr.typeAssert (.iface 101 v) 80 100 true).run Tryd.prog W = .ok (.tuple #[.string ByteArray.empty, .bool false]) W := by kernel_rfl
theorem as11 (v : Value) (W : World) : (Instr.typeAssert (.iface 101 v) 80 101 true).run Tryd.prog W = .ok (.tuple #[v, .bool true]) W := by kernel_rfl
theorem as20 (v : Value) (W : World) : (Instr.typeAssert (.iface 102 v) 80 100 true).run Tryd.prog W = .ok (.tuple #[.string ByteArray.empty, .bool false]) W := by kernel_rfl
theorem as21 (v : Value) (W : World) : (Instr.typeAssert (.iface 102 v) 80 101 true).run Tryd.prog W = .ok (.tuple #[.string ByteArray.empty, .bool false]) W := by kernel_rfl
theorem as22 (v : Value) (W : World) : (Instr.typeAssert (.iface 102 v) 80 102 true).run Tryd.prog W = .ok (.tuple #[v, .bool true]) W := by kernel_rfl
theorem as30 (v : Value) (W : World) : (Instr.typeAssert (.iface 103 v) 80 100 true).run Tryd.prog W = .ok (.tuple #[.string ByteArray.empty, .bool false]) W := by kernel_rfl
theorem as31 (v : Value) (W : World) : (Instr.typeAssert (.iface 103 v) 80 101 true).run Tryd.prog W = .ok (.tuple #[.string ByteArray.empty, .bool false]) W := by kernel_rfl
theorem as32 (v : Value) (W : World) : (Instr.typeAssert (.iface 103 v) 80 102 true).run Tryd.prog W = .ok (.tuple #[.string ByteArray.empty, .bool false]) W := by kernel_rfl
theorem as33 (v : Value) (W : World) : (Instr.typeAssert (.iface 103 v) 80 103 true).run Tryd.prog W = .ok (.tuple #[v, .bool true]) W := by kernel_rfl
set_option maxRecDepth 100000 in
theorem signOf_any (k : Int) (s : ByteArray) (w : World) (h1 : 1 ≤ k) (h4 : k ≤ 4) : Calls Tryd.prog 44 #[.iface (ruleT k) (.string s)] w fun e w' => e = .returned (.string (signB k)) ∧ w' = w := by
  rcases (show k = 1 ∨ k = 2 ∨ k = 3 ∨ k = 4 from by omega) with rfl | rfl | rfl | rfl
  · clear h1 h4
    show Calls Tryd.prog 44 #[.iface 100 (.string s)] w fun e w' => e = .returned (.string ⟨#[61]⟩) ∧ w' = w
    have t0 := as00 (.string s)
    go_enter Tryd.func44, Tryd.ntmps44
    go_wp2
    go_ret
    exact ⟨rfl, rfl⟩
  · clear h1 h4
    show Calls Tryd.prog 44 #[.iface 101 (.string s)] w fun e w' => e = .returned (.string ⟨#[33]⟩) ∧ w' = w
    have t0 := as10 (.string s)
    have t1 := as11 (.string s)
    go_enter Tryd.func44, Tryd.ntmps44
    go_wp2
    go_ret
    exact ⟨rfl, rfl⟩
  · clear h1 h4
    show Calls Tryd.prog 44 #[.iface 102 (.string s)] w fun e w' => e = .returned (.string ⟨#[94]⟩) ∧ w' = w
    have t0 := as20 (.string s)
    have t1 := as21 (.string s)
    have t2 := as22 (.string s)
    go_enter Tryd.func44, Tryd.ntmps44
    go_wp2
    go_ret
    exact ⟨rfl, rfl⟩
  · clear h1 h4
    show Calls Tryd.prog 44 #[.iface 103 (.string s)] w fun e w' => e = .returned (.string ⟨#[126]⟩) ∧ w' = w
    have t0 := as30 (.string s)
    have t1 := as31 (.string s)
    have t2 := as32 (.string s)
    have t3 := as33 (.string s)
    go_enter Tryd.func44, Tryd.ntmps44
    go_wp2
    go_ret
    exact ⟨rfl, rfl⟩
set_option maxRecDepth 100000 in
theorem l3Sign_any (k : Int) (w : World) (h1 : 1 ≤ k) (h4 : k ≤ 4) : Calls Tryd.prog 56 #[.int .i64 k] w fun e w' => e = .returned (.string (signB k)) ∧ Below w.heap.size w w' := by
  rcases (show k = 1 ∨ k = 2 ∨ k = 3 ∨ k = 4 from by omega) with rfl | rfl | rfl | rfl
  all_goals
    clear h1 h4
    simp only [signB]
    go_enter Tryd.func56, Tryd.ntmps56
    go_wp2
    go_ret
    exact ⟨rfl, (Below.refl _ _).alloc (Nat.le_refl _) _⟩
set_option maxRecDepth 100000 in
set_option maxHeartbeats 4000000 in
theorem impl_put {w : World} {v : Value} {zs : List E} (h : Is w v zs) (hg : ∀ x ∈ zs, good x) (hz : zs.length ≤ maxLen) : Calls Tryd.prog 20 #[v] w fun e w' => e = .returned (.string (put zs)) ∧ Below w.heap.size w w' := by
  obtain ⟨i0, hi, hz0, hz1, hz2⟩ := info_parts info_str
  have H1 := hide (impl_ok h hg hz)
  cases ho : ok zs
  · have HR := hide (show put zs = ByteArray.empty by unfold put; rw [ho]; rfl)
    rw [ho] at H1
    clear ho h hg
    go_enter Tryd.func20, Tryd.ntmps20
    go_wp2_with fail
    refine (unhide H1).mono ?_
    rintro e w1 ⟨rfl, b1⟩
    go_wp2_with fail
    go_ret
    exact ⟨ret_string (unhide HR).symm, b1⟩
  have HR := hide (show put zs = wrap 91 93 (parts zs) by unfold put; rw [ho]; rfl)
  have hsm := ok_small ho
  rw [ho] at H1
  clear ho hg
  obtain ⟨-, a, cap, rfl, hc, hm, -, hr⟩ := h
  unfold maxLen at hm
  obtain ⟨n, hn⟩ : ∃ n, n = zs.length := ⟨_, rfl⟩
  have hn2 : n ≤ 1000 := by rw [hn]; exact hsm.1
  rw [← hn] at hc hr H1 ⊢
  have HN := hide hn
  have HSM := hide hsm
  clear hn hsm hz
  obtain ⟨R, hR⟩ : ∃ R, R = put zs := ⟨_, rfl⟩
  rw [← hR] at HR ⊢
  clear hR
  go_enter Tryd.func20, Tryd.ntmps20
  go_wp2_with fail
  refine (unhide H1).mono ?_
  rintro e w1 ⟨rfl, b1⟩
  go_wp2_with fail
  go_loopw [3, 11] (fun pv i wr => ∃ (k : Nat) (ap : Option Addr) (cp : Nat), k ≤ n ∧ i = .int .i64 k ∧ pv = .slice ap k cp ∧ wr.ownsRow w.heap.size 9 1 pv k (flatS (parts (zs.take k))) ∧ Below w.heap.size w wr) (fun _ i _ => n - (intOf i).toNat)
  case atStart => exact ⟨0, none, 0, Nat.zero_le _, rfl, rfl, World.ownsRow_nil _ _ _ _, b1⟩
  case round =>
    clear b1 H1
    obtain ⟨k, ap, cp, hk, rfl, rfl, hown, hbel⟩ := hrel
    have hsz := hbel.size
    have hk0 : (0 : Int) ≤ (k : Int) := Int.natCast_nonneg _
    by_cases hlt : k < n
    · obtain ⟨b, off, rfl, hl, hcells⟩ := hr (by omega)
      have fa := flat_at zs k (by have := unhide HN; omega)
      have gd := (unhide HSM).2 (at' zs k) (by rw [at_get zs k (by have := unhide HN; omega)]; exact List.getElem_mem _)
      have HPS := parts_snoc zs k (by have := unhide HN; omega)
      obtain ⟨K, A, B, hX⟩ : ∃ K A B, (K, A, B) = at' zs k := ⟨_, _, _, rfl⟩
      rw [← hX] at fa gd HPS
      simp only at gd
      have hc0 : wr.cell? ⟨b, off + k * 3, none⟩ = some (.int .i64 K) := (hbel.cell (p := ⟨b, _, none⟩) hl).trans (hcells (k * 3) _ fa.1)
      have hc1 : wr.cell? ⟨b, off + k * 3 + 1, none⟩ = some (.string A) := (hbel.cell (p := ⟨b, _, none⟩) hl).trans (hcells (k * 3 + 1) _ fa.2.1)
      have hc2 : wr.cell? ⟨b, off + k * 3 + 2, none⟩ = some (.string B) := (hbel.cell (p := ⟨b, _, none⟩) hl).trans (hcells (k * 3 + 2) _ fa.2.2)
      have HQ := hide (show partOf (K, A, B) = A ++ signB K ++ B from rfl)
      have HRu := hide (fun W => ruleOf_yes K B W gd.1 gd.2.1)
      have HSi := hide (fun W => signOf_any K B W gd.1 gd.2.1)
      have ss := sign_size K
      have s1 : ∀ W, (Op.stringOp .add A (signB K)).run Tryd.prog W = .ok (.string (A ++ signB K)) W := fun W => run_string_add_sum W _ _ (by rw [ss]; omega)
      have s2 : ∀ W, (Op.stringOp .add (A ++ signB K) B).run Tryd.prog W = .ok (.string (A ++ signB K ++ B)) W := fun W => run_string_add_sum W _ _ (by rw [app_size, ss]; omega)
      rw [← unhide HQ] at s2
      generalize A ++ signB K = P1 at s1 s2
      have HPS' := hide HPS
      generalize partOf (K, A, B) = P2 at s2 HPS'
      clear hX fa gd HPS HQ ss
      generalize signB K = SG at s1 HSi
      generalize ruleT K = RT at HRu HSi
      have hk1 : (k : Int) < (n : Int) := by omega
      have hmx : 1 ≤ maxLen := by unfold maxLen; omega
      go_wp2_with fail
      have hob := fun e => Nat.lt_irrefl _ (own_block_lt hown wr.heap.size (Eq.symm e))
      go_region_held3 (fun w' => w'.cell? ⟨wr.heap.size, 0, none⟩ = some (.int .i64 K) ∧ w'.cell? ⟨wr.heap.size, 1, none⟩ = some (.string A) ∧ w'.cell? ⟨wr.heap.size, 2, none⟩ = some (.string B)) (first | go_keep | (go_split_ands; refine ⟨?_, ?_, ?_⟩ <;> (rw [gn.cell_far _ (by simp <;> omega) hob]; simp))) ((first | (go_at_call 45; refine (unhide HRu _).mono ?_; rintro e w7 ⟨rfl, hw7⟩; subst hw7) | (go_at_call 44; refine (unhide HSi _).mono ?_; rintro e w7 ⟨rfl, hw7⟩; subst hw7) | (refine app_step _ (by rfl) _ _ _ (by rfl) w.heap.size 9 i0 _ 1 16 Tryd.underlying77 hi hz0 hz1 hz2 rfl (by omega) _ k _ (by rfl) (World.ownsRow.drew (World.ownsRow.alloc (World.ownsRow.alloc hown _) _)) _ 1 [.string P2] (by rfl) (Lies.drew (lies_new (w := wr.alloc _) (by simp) rfl hmx)) (by simp [Value.oneCell']) (by unfold maxLen; omega) (by omega) (by simp <;> omega) ?_; intro vn wn on gn an)))
      have R9 : Below w.heap.size w wn := below_grown (((hbel.alloc hsz _).alloc (by simp <;> omega) _).drew) (by simp <;> omega) gn (own_ge hown)
      have R2 := hide (show wn.ownsRow w.heap.size 9 1 vn (k + 1) (flatS (parts (zs.take (k + 1)))) by rw [unhide HPS', flatS_append]; exact on)
      obtain ⟨an', cn, hvn⟩ : ∃ a c, vn = .slice a (k + 1) c := by obtain ⟨-, a, c, e, -⟩ := lies_of_own on; exact ⟨a, c, e⟩
      have HV := hide hvn
      clear on gn an hown hvn hob
      go_wp2_with fail
      go_roundw
      case rel => exact ⟨k + 1, an', cn, by omega, by go_num, unhide HV, unhide R2, R9⟩
      case measure => simp [intOf]; omega
    · obtain rfl : k = n := by omega
      have hkf : decide ((k : Int) < (k : Int)) = false := by simp
      rw [List.take_of_length_le (by have := unhide HN; omega)] at hown
      have JS := join_small (unhide HSM) k
      rw [List.take_of_length_le (by have := unhide HN; omega)] at JS
      have HL : (parts zs).length = k := by rw [parts_length]; exact (unhide HN).symm
      have HJ2 := hide (show Calls Tryd.prog 46 #[.slice ap k cp, .string ⟨#[44]⟩] wr fun e w' => e = .returned (.string ⟨(joinB (parts zs)).toArray⟩) ∧ Below wr.heap.size wr w' from by
        rcases Nat.eq_zero_or_pos k with h0 | h0
        · subst h0
          have e0 : parts zs = [] := List.eq_nil_of_length_eq_zero HL
          rw [e0]
          refine (Tryd.strings_Join_none ap cp ⟨#[44]⟩ wr).mono ?_
          rintro e w' ⟨rfl, rfl⟩
          exact ⟨rfl, Below.refl _ _⟩
        · obtain ⟨g, cp', e, hgb, hgl⟩ := hown.form h0
          simp only [Value.slice.injEq, true_and] at e
          obtain ⟨rfl, rfl⟩ := e
          have hcp : k ≤ cp := by obtain ⟨-, a', c', e, h2, -⟩ := lies_of_own hown; simp only [Value.slice.injEq, true_and] at e; omega
          have := Tryd.strings_Join g 0 cp (parts zs) ⟨#[44]⟩ wr (fun j x hj => by
            have hj' := (List.getElem?_eq_some_iff.1 hj).1
            rw [Nat.zero_add, hown.cellAt j (by omega)]
            simp [flatS, hj]) hgl (by omega) (by omega) (by show (joinB (parts zs)).length ≤ _; omega)
          rw [HL] at this
          exact this)
      have e1 : (⟨#[91]⟩ : ByteArray).size = 1 := rfl
      have e2 : (⟨#[93]⟩ : ByteArray).size = 1 := rfl
      have HW := hide (wrap_join 91 93 (parts zs))
      have sJ := size_of (joinB (parts zs))
      have s1 : ∀ W, (Op.stringOp .add ⟨#[91]⟩ ⟨(joinB (parts zs)).toArray⟩).run Tryd.prog W = .ok (.string (⟨#[91]⟩ ++ ⟨(joinB (parts zs)).toArray⟩)) W := fun W => run_string_add_sum W _ _ (by rw [e1, sJ]; omega)
      have s2 : ∀ W, (Op.stringOp .add (⟨#[91]⟩ ++ ⟨(joinB (parts zs)).toArray⟩) ⟨#[93]⟩).run Tryd.prog W = .ok (.string (⟨#[91]⟩ ++ ⟨(joinB (parts zs)).toArray⟩ ++ ⟨#[93]⟩)) W := fun W => run_string_add_sum W _ _ (by rw [app_size, e1, e2, sJ]; omega)
      rw [unhide HW, ← unhide HR] at s2
      clear HL hown JS sJ e1 e2 HW
      generalize (⟨(joinB (parts zs)).toArray⟩ : ByteArray) = J at HJ2 s1 s2
      generalize (⟨#[91]⟩ : ByteArray) ++ J = P1 at s1 s2
      go_wp2_with fail
      refine (unhide HJ2).mono ?_
      rintro e w5 ⟨rfl, b5⟩
      have c5 := hbel.trans (b5.mono hsz)
      go_wp2_with fail
      go_ret
      exact ⟨rfl, c5⟩
end Go.Proofs.YtamjliaeikoemaaDoor.Mat

/- A record as a text, as plain mathematics. No condition. -/
namespace Go.Proofs.YtamjliaeikoemaaDoor.Dec
open PutMath
def decB (n : Nat) : ByteArray := ⟨(Lib.decDigits n).toArray⟩
theorem dec_one {n : Nat} (h : n < 10) : decB n = ⟨#[UInt8.ofNat (48 + n)]⟩ := by unfold decB; rw [Lib.decDigits_one h]
theorem dec_step {n : Nat} (h : ¬ n < 10) : decB n = decB (n / 10) ++ ⟨#[UInt8.ofNat (48 + n % 10)]⟩ := by
  apply Go.WideShapes.bytes_inj
  unfold decB
  rw [app_toList, of_toList, of_toList]
  conv => lhs; rw [Lib.decDigits, dif_neg h]
theorem dec_size : ∀ (k n : Nat), n < 10 ^ (k + 1) → (decB n).size ≤ k + 1
  | 0, n, h => by rw [dec_one (by simpa using h)]; exact Nat.le_refl 1
  | k + 1, n, h => by
    by_cases h1 : n < 10
    · rw [dec_one h1]; show 1 ≤ _; omega
    · rw [dec_step h1, app_size]
      have := dec_size k (n / 10) (by rw [Nat.div_lt_iff_lt_mul (by omega)]; rw [Nat.pow_succ] at h; omega)
      show _ + 1 ≤ _
      omega
theorem dec_small {n : Nat} (h : n < 1000000000000000000) : (decB n).size ≤ 18 := dec_size 17 n (by simpa using h)
theorem dec_itoa (n : Nat) : (⟨(Lib.itoa (n : Int)).toArray⟩ : ByteArray) = decB n := by
  unfold Lib.itoa decB
  rw [if_neg (by omega)]; rfl
end Go.Proofs.YtamjliaeikoemaaDoor.Dec
namespace Go.Proofs.YtamjliaeikoemaaDoor.Rec
open PutMath Dec
set_option linter.unusedVariables false
def sp : ByteArray := ⟨#[32]⟩
def ofI (n : Int) : ByteArray := decB n.toNat
/-- an entry as a text -/
def entT (x : Ent.E) : ByteArray := sp ++ Lab.put x.1 ++ sp ++ ofI x.2.1 ++ sp ++ ofI x.2.2
def catT (zs : List Ent.E) : List UInt8 := zs.flatMap (fun x => (entT x).data.toList)
theorem catT_snoc (L : List Ent.E) (x : Ent.E) : catT (L ++ [x]) = catT L ++ (entT x).data.toList := by simp [catT]
/-- a record that is ok as a text -/
def textR (x : E) : ByteArray := if x.1 = 1 then ⟨(65 :: catT x.2.1).toArray⟩ else if x.1 = 2 then ⟨#[68, 32]⟩ ++ Mat.put x.2.2.1 ++ sp ++ ofI x.2.2.2.1 ++ sp ++ ofI x.2.2.2.2 else ⟨#[75, 32]⟩ ++ ofI x.2.2.2.1
def put (x : E) : ByteArray := if recB x = true then textR x else ByteArray.empty
end Go.Proofs.YtamjliaeikoemaaDoor.Rec
