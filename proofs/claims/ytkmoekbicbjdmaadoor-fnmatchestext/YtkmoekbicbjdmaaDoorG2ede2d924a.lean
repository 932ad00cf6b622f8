/- My own texts of one claim, laid together by program: DrawList, CutWalk, LabGetMath, Nest. -/
import Derived.Test.YtkmoekbicbjdmaaDoorG4700086017
import Derived.Test.YtkmoekbicbjdmaaDoorG228d3bb8bd
import Derived.Test.YtkmoekbicbjdmaaDoorGc96daf04d6
import Derived.Test.YtkmoekbicbjdmaaDoorG859ee0a49f
import Derived.ChangeArms
/- Lists of numbers are drawn; the same numbers are the same. -/
namespace Go.Proofs.YtkmoekbicbjdmaaDoor.Draw
open Go.RowKit Rw Ints ListMath
set_option linter.unusedVariables false
attribute [local go_sem ↓] Go.wp_at_zero Go.wp_at_succ
theorem own_new {w : World} {cs : Array Value} {t : TypeId} {n size base B : Nat} (hB : B = w.heap.size) (h : cs.size = n * size) (hn : n ≤ maxLen) (hb : base ≤ w.heap.size) : (w.alloc (.cells cs t)).ownsRow base t size (.slice (some ⟨B, 0, none⟩) n n) n cs.toList := by
  subst hB
  exact ⟨by simpa using h, .inr ⟨w.heap.size, n, cs, rfl, hb, heap_alloc_new w _, Nat.le_refl _, hn, h, by rw [← h, ← Array.length_toList]; exact List.take_length⟩⟩
end Go.Proofs.YtkmoekbicbjdmaaDoor.Draw

/- The model's cut of a text at each byte. No condition but the text's length. -/
namespace Go.Proofs.YtkmoekbicbjdmaaDoor.Lab
open Go.RowKit Rw PutMath CutText
set_option linter.unusedVariables false
attribute [local go_sem ↓] Go.wp_at_zero Go.wp_at_succ
theorem ext_list (s : ByteArray) (f k : Nat) : (s.extract f k).data.toList = (s.data.toList.drop f).take (k - f) := by
  rw [ByteArray.data_extract, Array.toList_extract]
theorem ext_eq (s : ByteArray) (f k : Nat) : s.extract f k = ⟨((s.data.toList.drop f).take (k - f)).toArray⟩ := by
  apply Go.WideShapes.bytes_inj
  rw [ext_list, of_toList]
def CutRel (b : UInt8) (s : ByteArray) (f k : Nat) (L : List ByteArray) : Prop := cutL b s.data.toList = L.map (·.data.toList) ++ pre ((s.data.toList.drop f).take (k - f)) (cutL b (s.data.toList.drop k))
theorem cut_start (b : UInt8) (s : ByteArray) : CutRel b s 0 0 [] := by
  unfold CutRel
  simp [pre_nil (cutL_ne b _)]
theorem byte_at (s : ByteArray) (k : Nat) (h : k < s.size) : s.data.toList.drop k = s[k] :: s.data.toList.drop (k + 1) := by
  rw [List.drop_eq_getElem_cons (by simpa using h)]; rfl
theorem cut_hit {b : UInt8} {s : ByteArray} {f k : Nat} {L : List ByteArray} (h : CutRel b s f k L) (hk : k < s.size) (e : s[k] = b) : CutRel b s (k + 1) (k + 1) (L ++ [s.extract f k]) := by
  unfold CutRel at h ⊢
  rw [h, byte_at s k hk, e, cutL_eq, Nat.sub_self, List.take_zero, pre_nil (cutL_ne b _), List.map_append, List.append_assoc, List.map_cons, List.map_nil, ext_list]
  simp [pre]
theorem cut_pass {b : UInt8} {s : ByteArray} {f k : Nat} {L : List ByteArray} (h : CutRel b s f k L) (hf : f ≤ k) (hk : k < s.size) (e : s[k] ≠ b) : CutRel b s f (k + 1) L := by
  unfold CutRel at h ⊢
  have hl : k < s.data.toList.length := by simpa using hk
  have e2 : (s.data.toList.drop f).take (k + 1 - f) = (s.data.toList.drop f).take (k - f) ++ [s[k]] := by
    rw [show k + 1 - f = (k - f) + 1 by omega, List.take_succ_eq_append_getElem (by rw [List.length_drop]; omega)]
    congr 2
    rw [List.getElem_drop]
    have e3 : f + (k - f) = k := by omega
    simp only [e3]
    rfl
  rw [h, byte_at s k hk, cutL_ne' e, pre_pre, e2]
theorem cut_end {b : UInt8} {s : ByteArray} {f : Nat} {L : List ByteArray} (h : CutRel b s f s.size L) : cutB b s = L ++ [s.extract f s.size] := by
  unfold CutRel at h
  have hl : s.data.toList.length = s.size := Array.length_toList
  have e0 : s.data.toList.drop s.size = [] := List.drop_eq_nil_of_le (by omega)
  rw [e0] at h
  unfold cutB
  rw [h, List.map_append, List.map_map]
  simp only [cutL, pre, List.append_nil, List.map_cons, List.map_nil]
  rw [← ext_eq]
  congr 1
  conv => rhs; rw [← List.map_id L]
  exact List.map_congr_left (fun p _ => Go.WideShapes.bytes_inj (of_toList _))
set_option maxRecDepth 100000 in
set_option maxHeartbeats 4000000 in
theorem l3Cut_any (s : ByteArray) (b : UInt8) (c : Int) (hc : c = (b.toNat : Int)) (w : World) (hs : s.size ≤ 4194304) :
    Calls Tryd.prog 46 #[.string s, .int .u8 c] w fun e w' => ∃ v, e = .returned v ∧ w'.ownsRow w.heap.size 9 1 v (cutB b s).length (flatS (cutB b s)) ∧ Below w.heap.size w w' := by
  obtain ⟨i0, hi, hz0, hz1, hz2⟩ := info_parts info_str
  subst hc
  have HNil := hide (Draw.own_new (w := w) (cs := #[]) (t := 9) (n := 0) (size := 1) (base := w.heap.size) rfl rfl (Nat.zero_le _) (Nat.le_refl _))
  have H0 := hide (cut_start b s)
  go_enter Tryd.func46, Tryd.ntmps46
  go_wp2_with fail
  go_loopw [5, 6, 7] (fun ov fv i wr => ∃ (k f q : Nat) (L : List ByteArray) (a : Option Addr), k ≤ s.size ∧ f ≤ k ∧ L.length ≤ k ∧ fv = .int .i64 f ∧ i = .int .i64 k ∧ ov = .slice a L.length q ∧ wr.ownsRow w.heap.size 9 1 (.slice a L.length q) L.length (flatS L) ∧ Hid (CutRel b s f k L) ∧ Below w.heap.size w wr) (fun _ _ i _ => s.size - (intOf i).toNat)
  case atStart => exact ⟨0, 0, 0, [], _, Nat.zero_le _, Nat.zero_le _, Nat.zero_le _, rfl, rfl, rfl, unhide HNil, unhide H0, (Below.refl _ _).alloc (Nat.le_refl _) _⟩
  case round =>
    obtain ⟨k, f, q, L, a, hk, hf, hL, rfl, rfl, rfl, hown, HR, hbel⟩ := hrel
    clear HNil H0
    have hsz := hbel.size
    have hk0 : (0 : Int) ≤ (k : Int) := Int.natCast_nonneg _
    have hf0 : (0 : Int) ≤ (f : Int) := Int.natCast_nonneg _
    have hmx : 1 ≤ maxLen := by unfold maxLen; omega
    by_cases hlt : k < s.size
    · by_cases hx : s[k] = b
      · have HC := hide (cut_hit (unhide HR) hlt hx)
        have hq1 : ((s[k].toNat : Int) == (b.toNat : Int)) = true := by rw [hx]; simp
        have hq2 : s[k].toNat = b.toNat := by rw [hx]
        have hfk : (f : Int) ≤ (k : Int) := by omega
        clear hx
        go_wp2_with (at_builtin; refine app_wp _ rfl _ _ _ rfl w.heap.size 9 i0 _ 1 16 Tryd.underlying45 hi hz0 hz1 hz2 rfl (by omega) _ L.length _ rfl (hown.alloc _) _ 1 [.string (s.extract f k)] rfl (lies_new (by simp) rfl hmx) (by simp [Value.oneCell']) (by unfold maxLen; omega) (by omega) (by simp; omega) ?_; intro vn wn on gn an)
        have R9 : Below w.heap.size w wn := below_grown (hbel.alloc hsz _) (by simp; omega) gn (own_ge hown)
        have hle : (L ++ [s.extract f k]).length = L.length + 1 := by simp
        have on2 : wn.ownsRow w.heap.size 9 1 vn (L ++ [s.extract f k]).length (flatS (L ++ [s.extract f k])) := by rw [hle, flatS_append]; exact on
        obtain ⟨an', cn, hvn⟩ : ∃ a c, vn = .slice a (L ++ [s.extract f k]).length c := by obtain ⟨-, a, c, e, -⟩ := lies_of_own on2; exact ⟨a, c, e⟩
        have R2 := hide on2
        have HV := hide hvn
        have hle' : (L ++ [s.extract f k]).length ≤ k + 1 := by omega
        obtain ⟨L', hL'⟩ : ∃ L', L' = L ++ [s.extract f k] := ⟨_, rfl⟩
        rw [← hL'] at R2 HV HC hle'
        clear on on2 gn an hown hvn hle hL' HR
        go_wp2_with fail
        go_roundw
        case rel => exact ⟨k + 1, k + 1, cn, L', an', by omega, Nat.le_refl _, hle', by go_num, by go_num, unhide HV, by rw [← unhide HV]; exact unhide R2, unhide HC, R9⟩
        case measure => simp [intOf]; omega
      · have HC := hide (cut_pass (unhide HR) hf hlt hx)
        have hne : s[k].toNat ≠ b.toNat := fun e => hx (UInt8.toNat_inj.1 e)
        have hq1 : ((s[k].toNat : Int) == (b.toNat : Int)) = false := beq_eq_false_iff_ne.2 (by omega)
        have hq2 : (s[k].toNat == b.toNat) = false := by simpa using hne
        have hq3 : decide (s[k].toNat = b.toNat) = false := by simpa using hne
        clear hx hne
        go_wp2_with fail
        go_roundw
        case rel => exact ⟨k + 1, f, q, L, a, by omega, by omega, by omega, rfl, by go_num, rfl, hown, unhide HC, hbel⟩
        case measure => simp [intOf]; omega
    · obtain rfl : k = s.size := by omega
      have hge : decide ((s.size : Int) < (s.size : Int)) = false := by simp
      have HE := hide (cut_end (unhide HR))
      have hfk : (f : Int) ≤ (s.size : Int) := by omega
      go_wp2_with (at_builtin; refine app_wp _ rfl _ _ _ rfl w.heap.size 9 i0 _ 1 16 Tryd.underlying45 hi hz0 hz1 hz2 rfl (by omega) _ L.length _ rfl (hown.alloc _) _ 1 [.string (s.extract f s.size)] rfl (lies_new (by simp) rfl hmx) (by simp [Value.oneCell']) (by unfold maxLen; omega) (by omega) (by simp; omega) ?_; intro vn wn on gn an)
      have R9 : Below w.heap.size w wn := below_grown (hbel.alloc hsz _) (by simp; omega) gn (own_ge hown)
      have R2 := hide (show wn.ownsRow w.heap.size 9 1 vn (cutB b s).length (flatS (cutB b s)) by rw [unhide HE, flatS_append, List.length_append]; exact on)
      clear on gn an hown HE HR
      go_wp2_with fail
      go_ret
      exact ⟨_, rfl, unhide R2, R9⟩
end Go.Proofs.YtkmoekbicbjdmaaDoor.Lab

/- Labels read from a text, as plain mathematics: what was put is read back, and only that is read. No condition. -/
namespace Go.Proofs.YtkmoekbicbjdmaaDoor.Lab
open PutMath CutText
set_option linter.unusedVariables false
def mid (s : ByteArray) : List UInt8 := (s.data.toList.drop 1).dropLast
def ofL (l : List UInt8) : ByteArray := ⟨l.toArray⟩
theorem ofL_list (l : List UInt8) : (ofL l).data.toList = l := of_toList l
theorem list_ofL (s : ByteArray) : ofL s.data.toList = s := Go.WideShapes.bytes_inj (ofL_list _)
def cutE (p : ByteArray) : E := (ofL (Lib.cut p.data.toList [61]).1, ofL (Lib.cut p.data.toList [61]).2.1)
def partsI (s : ByteArray) : List ByteArray := if mid s = [] then [] else (cutL 44 (mid s)).map ofL
def pI (s : ByteArray) : List E := (partsI s).map cutE
/-- what a text is read as -/
def getB (s : ByteArray) : List E × Bool := if s.size ≠ 0 ∧ put (pI s) = s then (pI s, true) else ([], false)
theorem letters_no {s : ByteArray} (h : letters s = true) {b : UInt8} (hb : letter b = false) : b ∉ s.data.toList := fun hm => by
  unfold letters at h
  have := List.all_eq_true.1 h b hm
  rw [hb] at this; cases this
theorem ok_each {zs : List E} (h : ok zs = true) : ∀ x ∈ zs, letters x.1 = true ∧ letters x.2 = true ∧ x.1.size ≤ 6 ∧ x.2.size ≤ 8 := by
  unfold ok at h
  simp only [Bool.and_eq_true, decide_eq_true_eq] at h
  intro x hx
  obtain ⟨k, hk, rfl⟩ := List.getElem_of_mem hx
  have hs := List.all_eq_true.1 (show (List.range zs.length).all (stepOk zs) = true from h.2) k (List.mem_range.2 hk)
  rw [← at_get zs k hk]
  unfold stepOk nameB wordB at hs
  simp only [Bool.and_eq_true, decide_eq_true_eq] at hs
  exact ⟨hs.1.1.1.2, hs.1.1.2.2, hs.1.1.1.1.2, hs.1.1.2.1⟩
theorem ok_len {zs : List E} (h : ok zs = true) : 1 ≤ zs.length ∧ zs.length ≤ 4 := by
  unfold ok at h
  simp only [Bool.and_eq_true, decide_eq_true_eq] at h
  exact h.1
theorem part_list (x : E) : (partOf x).data.toList = x.1.data.toList ++ 61 :: x.2.data.toList := by
  unfold partOf
  rw [app_toList, app_toList]; simp
theorem no44 {zs : List E} (h : ok zs = true) : ∀ p ∈ parts zs, (44 : UInt8) ∉ p.data.toList := by
  intro p hp
  obtain ⟨x, hx, rfl⟩ := List.mem_map.1 hp
  obtain ⟨h1, h2, -⟩ := ok_each h x hx
  rw [part_list]
  intro hm
  rcases List.mem_append.1 hm with hm | hm
  · exact letters_no h1 (by decide) hm
  · rcases List.mem_cons.1 hm with e | hm
    · exact absurd e (by decide)
    · exact letters_no h2 (by decide) hm
theorem put_list {zs : List E} (h : ok zs = true) : (put zs).data.toList = 123 :: joinB (parts zs) ++ [125] := by
  unfold put wrap
  rw [if_pos h, of_toList]
theorem mid_put {zs : List E} (h : ok zs = true) : mid (put zs) = joinB (parts zs) := by
  unfold mid
  rw [put_list h]
  simp
theorem parts_ne {zs : List E} (h : ok zs = true) : parts zs ≠ [] := by
  have := ok_len h
  intro e
  have h2 := parts_length zs
  rw [e, List.length_nil] at h2
  omega
theorem cut_parts {zs : List E} (h : ok zs = true) : cutL 44 (mid (put zs)) = (parts zs).map (·.data.toList) := by
  rw [mid_put h]
  exact cutL_joinB (parts_ne h) (no44 h)
theorem join_ne {zs : List E} (h : ok zs = true) : mid (put zs) ≠ [] := by
  intro e
  have h1 := cut_parts h
  rw [e] at h1
  simp only [cutL] at h1
  have h2 := congrArg List.length h1
  rw [List.length_map, parts_length] at h2
  simp at h2
  obtain ⟨x, rfl⟩ : ∃ x, zs = [x] := by
    match zs, h2 with
    | [x], _ => exact ⟨x, rfl⟩
  have h3 : [[]] = [(partOf x).data.toList] := h1
  rw [part_list] at h3
  simp at h3
theorem partsI_put {zs : List E} (h : ok zs = true) : partsI (put zs) = parts zs := by
  unfold partsI
  rw [if_neg (join_ne h), cut_parts h, List.map_map]
  conv => rhs; rw [← List.map_id (parts zs)]
  exact List.map_congr_left (fun p _ => list_ofL p)
theorem cut_two {x : E} (h1 : letters x.1 = true) (h2 : letters x.2 = true) : cutL 61 (partOf x).data.toList = [x.1.data.toList, x.2.data.toList] := by
  rw [part_list, cutL_hit _ (letters_no h1 (by decide)), cutL_miss (letters_no h2 (by decide))]
theorem cutE_part {x : E} (h1 : letters x.1 = true) (h2 : letters x.2 = true) : cutE (partOf x) = x := by
  have hn1 := letters_no h1 (b := 61) (by decide)
  have hn2 := letters_no h2 (b := 61) (by decide)
  unfold cutE
  rw [part_list]
  rcases index_cases (x.1.data.toList ++ 61 :: x.2.data.toList) 61 with ⟨h, hb⟩ | ⟨p, r, e, hb, h⟩
  · exact absurd (List.mem_append_right _ (List.mem_cons_self ..)) hb
  · have h3 := cutL_hit x.2.data.toList hn1
    rw [e, cutL_hit _ hb] at h3
    have h4 := (List.cons.inj h3).1
    have hl : Lib.index (x.1.data.toList ++ 61 :: x.2.data.toList) [61] = (x.1.data.toList.length : Int) := by rw [h, h4]
    unfold Lib.cut
    rw [hl, if_pos (by omega)]
    have t : ((x.1.data.toList.length : Int)).toNat = x.1.data.toList.length := rfl
    simp only [t, List.length_singleton]
    rw [List.take_left', List.drop_append]
    · simp only [Nat.add_sub_cancel_left, List.drop_succ_cons, List.drop_zero]
      rw [List.drop_of_length_le (by omega), List.nil_append]
      exact Prod.ext (list_ofL _) (list_ofL _)
    · rfl
theorem pI_put {zs : List E} (h : ok zs = true) : pI (put zs) = zs := by
  unfold pI
  rw [partsI_put h]
  unfold parts
  rw [List.map_map]
  conv => rhs; rw [← List.map_id zs]
  exact List.map_congr_left (fun x hx => cutE_part (ok_each h x hx).1 (ok_each h x hx).2.1)
theorem put_size {zs : List E} (h : ok zs = true) : 2 ≤ (put zs).size ∧ (put zs).size ≤ 200 := by
  have e : (put zs).size = (joinB (parts zs)).length + 2 := by
    unfold put wrap
    rw [if_pos h, size_of]
    simp
  have hl := joinB_len (parts zs) 15 (fun p hp => by
    obtain ⟨x, hx, rfl⟩ := List.mem_map.1 hp
    obtain ⟨-, -, h3, h4⟩ := ok_each h x hx
    unfold partOf
    rw [app_size, app_size]
    have e : (⟨#[61]⟩ : ByteArray).size = 1 := rfl
    omega)
  rw [parts_length] at hl
  have := (ok_len h).2
  omega
theorem of_put {zs : List E} {s : ByteArray} (h : put zs = s) (hs : s.size ≠ 0) : ok zs = true := by
  cases e : ok zs
  · exfalso
    unfold put at h
    rw [e] at h
    rw [← h] at hs
    exact hs rfl
  · rfl
theorem getB_put {zs : List E} (h : ok zs = true) : getB (put zs) = (zs, true) := by
  unfold getB
  rw [pI_put h, if_pos ⟨by have := (put_size h).1; omega, rfl⟩]
theorem getB_of {zs : List E} {s : ByteArray} (h : put zs = s) (hs : s.size ≠ 0) : getB s = (zs, true) := by
  have := getB_put (of_put h hs)
  rwa [h] at this
theorem getB_no {s : ByteArray} (h : ∀ zs, ok zs = true → put zs ≠ s) : getB s = ([], false) := by
  unfold getB
  rw [if_neg (fun ⟨h1, h2⟩ => h _ (of_put h2 h1) h2)]
theorem getB_true {s : ByteArray} {L : List E} (h : getB s = (L, true)) : ok L = true ∧ put L = s := by
  unfold getB at h
  split at h
  · rename_i hc
    obtain ⟨h1, h2⟩ := hc
    simp only [Prod.mk.injEq, and_true] at h
    subst h
    exact ⟨of_put h2 h1, h2⟩
  · simp at h
/-- the program: no bracket ahead, or none behind -/
theorem getB_first {s : ByteArray} (h : ∀ r, s.data.toList ≠ 123 :: r) : getB s = ([], false) := getB_no (fun zs hz e => by
  have := put_list hz
  rw [e] at this
  exact h _ this)
theorem getB_last {s : ByteArray} (h : ∀ r, s.data.toList ≠ 123 :: r ++ [125]) : getB s = ([], false) := getB_no (fun zs hz e => by
  have := put_list hz
  rw [e] at this
  exact h _ this)
theorem getB_put_ne {s : ByteArray} (h : put (pI s) ≠ s) : getB s = ([], false) := by
  unfold getB
  rw [if_neg (fun h2 => h h2.2)]
/-- the model: too short, too long, a part that is no two words, another text -/
theorem getB_len {s : ByteArray} (h : s.size < 2 ∨ 200 < s.size) : getB s = ([], false) := getB_no (fun zs hz e => by
  have := put_size hz
  rw [e] at this
  omega)
def twoE (p : List UInt8) : E := match cutL 61 p with | [a, b] => (ofL a, ofL b) | _ => (ByteArray.empty, ByteArray.empty)
theorem getB_part {s : ByteArray} {p : List UInt8} (hp : p ∈ cutL 44 (mid s)) (h : (cutL 61 p).length ≠ 2) : getB s = ([], false) := getB_no (fun zs hz e => by
  rw [← e, cut_parts hz] at hp
  obtain ⟨q, hq, rfl⟩ := List.mem_map.1 hp
  obtain ⟨x, hx, rfl⟩ := List.mem_map.1 hq
  have h3 := ok_each hz x hx
  rw [cut_two h3.1 h3.2.1] at h
  exact h rfl)
theorem two_put {zs : List E} (hz : ok zs = true) : (cutL 44 (mid (put zs))).map twoE = zs := by
  rw [cut_parts hz]
  unfold parts
  rw [List.map_map, List.map_map]
  conv => rhs; rw [← List.map_id zs]
  refine List.map_congr_left (fun x hx => ?_)
  have h3 := ok_each hz x hx
  show twoE (partOf x).data.toList = x
  unfold twoE
  rw [cut_two h3.1 h3.2.1]
  exact Prod.ext (list_ofL _) (list_ofL _)
theorem getB_two_ne {s : ByteArray} (h : put ((cutL 44 (mid s)).map twoE) ≠ s) : getB s = ([], false) := getB_no (fun zs hz e => by
  rw [← e, two_put hz] at h
  exact h rfl)
end Go.Proofs.YtkmoekbicbjdmaaDoor.Lab

/- Slices whose elements hold slices: small things that serve every such type. No condition. -/
namespace Go.Proofs.YtkmoekbicbjdmaaDoor.Rw
open Go.RowKit Go.ChangeShapes Go.WideShapes
theorem choose_list {α β : Type} [Inhabited α] [Inhabited β] {P : α → β → Prop} : ∀ (cs : List α), (∀ c ∈ cs, ∃ x, P c x) → ∃ zs : List β, zs.length = cs.length ∧ ∀ i, i < cs.length → P (cs.getD i default) (zs.getD i default)
  | [], _ => ⟨[], rfl, fun i h => by cases h⟩
  | c :: cs, h => by
    obtain ⟨x, hx⟩ := h c (by simp)
    obtain ⟨zs, hl, hz⟩ := choose_list cs (fun d hd => h d (by simp [hd]))
    refine ⟨x :: zs, by simp [hl], fun i hi => ?_⟩
    cases i with
    | zero => simpa using hx
    | succ i =>
      have := hz i (by simpa using hi)
      simpa using this
/-- a slice that came in, by its one cell -/
theorem slice_cell {H : Type} {enc : TypeId × Value → H} {W : World} {t e : TypeId} {n : Nat} {c : Value} {y : DataW H × List MemPlace} (ht : Tryd.prog.underlying t = some (.slice e))
    (h : DataW.trod enc Tryd.prog W 0 (fun _ => true) true n t [c] = some y) : ∃ a l k, c = .slice a l k ∧ DataW.Trod enc Tryd.prog W 0 (fun _ => true) true t (.slice a l k) y.1 y.2 := by
  rcases Go.Deep.open_slice ht h with ⟨hcs, _⟩ | ⟨x, l, k, m, n', D, Pl, hcs, _⟩
  · simp only [List.cons.injEq, and_true] at hcs
    subst hcs
    exact ⟨none, 0, 0, rfl, n, h⟩
  · simp only [List.cons.injEq, and_true] at hcs
    subst hcs
    exact ⟨some x, l, k, rfl, n, h⟩
theorem Lies.form {w : World} {v : Value} {n size : Nat} {xs : List Value} (h : Lies w v n size xs) : ∃ a cap, v = .slice a n cap ∧ n ≤ cap ∧ cap ≤ maxLen := by
  obtain ⟨_, a, cap, h1, h2, h3, _⟩ := h
  exact ⟨a, cap, h1, h2, h3⟩
end Go.Proofs.YtkmoekbicbjdmaaDoor.Rw
