/- My own texts of one claim, laid together by program: LabOk2, LabPut, LabPut2, DrawLabText. -/
import Derived.Test.YtkmoekbicbjdmaaDoorGfe0c7c5c4f
import Derived.Laws.Concat
import Derived.Test.YtkmoekbicbjdmaaDoorGac249aa37c
/- LabelsOk of the model, at every slice of labels. -/
namespace Go.Proofs.YtkmoekbicbjdmaaDoor.Lab
open Go.RowKit Rw
set_option linter.unusedVariables false
attribute [local go_sem ↓] Go.wp_at_zero Go.wp_at_succ
theorem run_eql (a b : ByteArray) (W : World) : (binOp .eql 9 (.string a) (.string b)).run Tryd.prog W = .ok (.bool (a.toList == b.toList)) W := rfl
theorem in_yes (n lo hi : Int) (w : World) (h1 : lo ≤ n) (h2 : n ≤ hi) : Calls Tryd.prog 42 #[.int .i64 n, .int .i64 lo, .int .i64 hi] w fun e w' => e = .returned (.bool true) ∧ w' = w := by
  go_enter Tryd.func42, Tryd.ntmps42
  go_wp2
  go_ret
  exact ⟨by first | rfl | exact ret_bool (decide_eq_true (by omega)), rfl⟩
theorem in_no (n lo hi : Int) (w : World) (h : n < lo ∨ hi < n) : Calls Tryd.prog 42 #[.int .i64 n, .int .i64 lo, .int .i64 hi] w fun e w' => e = .returned (.bool false) ∧ w' = w := by
  by_cases h1 : lo ≤ n
  · have h2 : ¬ n ≤ hi := by omega
    go_enter Tryd.func42, Tryd.ntmps42
    go_wp2
    go_ret
    exact ⟨by first | rfl | exact ret_bool (decide_eq_false (by omega)), rfl⟩
  · go_enter Tryd.func42, Tryd.ntmps42
    go_wp2
    go_ret
    exact ⟨by first | rfl | exact ret_bool (decide_eq_false (by omega)), rfl⟩
theorem eql_empty {s : ByteArray} (h : s.size ≠ 0) (W : World) : (binOp .eql 9 (.string s) (.string { data := #[] })).run Tryd.prog W = .ok (.bool false) W := by
  rw [run_eql]
  have := not_empty h
  have e : (s.toList == ByteArray.toList { data := #[] }) = false := by
    have e0 : ByteArray.toList { data := #[] } = [] := by rw [ByteArray.toList_eq]
    rw [e0]
    cases hc : s.toList with
    | nil => rw [hc] at this; cases this
    | cons a l => rfl
  rw [e]
set_option maxRecDepth 100000 in
set_option maxHeartbeats 4000000 in
theorem spec_ok {w : World} {v : Value} {zs : List E} (h : Is w v zs) (hg : ∀ x ∈ zs, good x) (hlen : zs.length ≤ maxLen) : Calls Tryd.prog 12 #[v] w fun e w' => e = .returned (.bool (ok zs)) ∧ Below w.heap.size w w' := by
  obtain ⟨-, a, cap, rfl, hc, hm, -, hr⟩ := h
  unfold maxLen at hm hlen
  obtain ⟨n, hn⟩ : ∃ n, n = zs.length := ⟨_, rfl⟩
  rw [← hn] at hc hr hlen ⊢
  have HN := hide hn
  have HG := hide hg
  clear hn hg
  go_enter Tryd.func12, Tryd.ntmps12
  go_wp2_with fail
  go_loopw [3] (fun i wr => ∃ k : Nat, k ≤ n ∧ i = .int .i64 k ∧ okTo zs k = true ∧ Below w.heap.size w wr) (fun i _ => n - (intOf i).toNat)
  case atStart => exact ⟨0, Nat.zero_le _, rfl, rfl, Below.refl _ _⟩
  case round =>
    obtain ⟨k, hk, rfl, hok, hbel⟩ := hrel
    have HO := hide hok
    clear hok
    have hsz := hbel.size
    by_cases hlt : k < n
    · obtain ⟨b, off, rfl, hl, hcells⟩ := hr (by omega)
      have fa := flat_at zs k (by have := unhide HN; omega)
      have gd := unhide HG (at' zs k) (by rw [at_get zs k (by have := unhide HN; omega)]; exact List.getElem_mem _)
      obtain ⟨A, B, hX⟩ : ∃ A B, (A, B) = at' zs k := ⟨_, _, rfl⟩
      rw [← hX] at fa gd
      obtain ⟨gA, gB⟩ := gd
      have hc0 : ∀ x : Cls wr.heap.size wr, x.val.cell? ⟨b, off + k * 2, none⟩ = some (.string A) := fun x => by rw [x.cell (by omega)]; exact (hbel.cell (p := ⟨b, _, none⟩) hl).trans (hcells (k * 2) _ fa.1)
      have hc1 : ∀ x : Cls wr.heap.size wr, x.val.cell? ⟨b, off + k * 2 + 1, none⟩ = some (.string B) := fun x => by rw [x.cell (by omega)]; exact (hbel.cell (p := ⟨b, _, none⟩) hl).trans (hcells (k * 2 + 1) _ fa.2)
      have HX := hide hX
      clear hX fa
      have hk0 : (0 : Int) ≤ (k : Int) := Int.natCast_nonneg _
      have hk1 : (k : Int) < (n : Int) := by omega
      have HNm := hide (fun X => l3Name_any A X gA)
      have HWd := hide (fun X => l3Letters_any B 8 X gB)
      have HWB := hide (show (letters B && decide ((B.size : Int) ≤ 8)) = wordB B by unfold wordB; rw [Bool.and_comm]; congr 1; exact decide_eq_decide.2 (by omega))
      rw [unhide HWB] at HWd
      clear gA gB
      have hne := cls_nonempty wr.heap.size wr
      cases hnm : nameB A
      · have HF := hide (ok_of_bad (zs := zs) (k := k) (by have := unhide HN; omega) (step_name (by rw [← unhide HX]; exact hnm)))
        rw [hnm] at HNm
        clear hnm
        go_wp2_with fail
        refine region_cls (by kernel_rfl) (by kernel_rfl) ?_
        repeat (go_big_quiet_step ((first | (go_at_call 40; exact cls_same (unhide HNm _)) | (go_at_call 41; exact cls_same (unhide HWd _)))))
        refine wpQuiet_nil ?_
        rintro wq ⟨⟨_, hq⟩, rfl⟩
        go_wp2
        go_ret
        exact ⟨ret_bool (unhide HF).symm, hbel.trans (hq.mono hsz)⟩
      have KN := hide hnm
      rw [hnm] at HNm
      clear hnm
      cases hwd : wordB B
      · have HF := hide (ok_of_bad (zs := zs) (k := k) (by have := unhide HN; omega) (step_word (by rw [← unhide HX]; exact hwd)))
        rw [hwd] at HWd
        clear hwd
        go_wp2_with fail
        refine region_cls (by kernel_rfl) (by kernel_rfl) ?_
        repeat (go_big_quiet_step ((first | (go_at_call 40; exact cls_same (unhide HNm _)) | (go_at_call 41; exact cls_same (unhide HWd _)))))
        refine wpQuiet_nil ?_
        rintro wq ⟨⟨_, hq⟩, rfl⟩
        go_wp2
        go_ret
        exact ⟨ret_bool (unhide HF).symm, hbel.trans (hq.mono hsz)⟩
      have KW := hide hwd
      rw [hwd] at HWd
      clear hwd
      by_cases hB0 : B.size = 0
      · have HF := hide (ok_of_bad (zs := zs) (k := k) (by have := unhide HN; omega) (step_empty (by rw [← unhide HX]; exact hB0)))
        obtain rfl := (empty_iff B).2 hB0
        have hE : ∀ W, (binOp .eql 9 (.string ByteArray.empty) (.string { data := #[] })).run Tryd.prog W = .ok (.bool true) W := fun W => by rw [run_eql, ByteArray.toList_eq, ByteArray.toList_eq]; rfl
        go_wp2_with fail
        refine region_cls (by kernel_rfl) (by kernel_rfl) ?_
        repeat (go_big_quiet_step ((first | (go_at_call 40; exact cls_same (unhide HNm _)) | (go_at_call 41; exact cls_same (unhide HWd _)))))
        refine wpQuiet_nil ?_
        rintro wq ⟨⟨_, hq⟩, rfl⟩
        go_wp2
        go_ret
        exact ⟨ret_bool (unhide HF).symm, hbel.trans (hq.mono hsz)⟩
      have hE := eql_empty hB0
      have hE2 := not_empty hB0
      by_cases hk00 : k = 0
      · have HS := hide (show okTo zs (k + 1) = true by rw [okTo_succ, unhide HO, step_yes (by rw [← unhide HX]; exact unhide KN) (by rw [← unhide HX]; exact unhide KW) (by rw [← unhide HX]; show 0 < B.size; omega) (.inl hk00)]; rfl)
        have hd : decide ((0 : Int) < (k : Int)) = false := by simp; omega
        have hd2 : decide (0 < k) = false := by simp; omega
        clear hk00
        go_wp2_with fail
        refine region_cls (by kernel_rfl) (by kernel_rfl) ?_
        repeat (go_big_quiet_step ((first | (go_at_call 40; exact cls_same (unhide HNm _)) | (go_at_call 41; exact cls_same (unhide HWd _)))))
        refine wpQuiet_nil ?_
        rintro wq ⟨⟨_, hq⟩, rfl⟩
        go_wp2
        go_roundw
        case rel => exact ⟨k + 1, by omega, by go_num, unhide HS, hbel.trans (hq.mono hsz)⟩
        case measure => simp [intOf]; omega
      · have hkp : 0 < k := by omega
        have hkp' : (0 : Int) < (k : Int) := by omega
        have fp := (flat_at zs (k - 1) (by have := unhide HN; omega)).1
        obtain ⟨P, hP⟩ : ∃ P, P = (at' zs (k - 1)).1 := ⟨_, rfl⟩
        rw [← hP] at fp
        have hqp : ∀ x : Cls wr.heap.size wr, x.val.cell? ⟨b, off + (k - 1) * 2, none⟩ = some (.string P) := fun x => by rw [x.cell (by omega)]; exact (hbel.cell (p := ⟨b, _, none⟩) hl).trans (hcells ((k - 1) * 2) _ fp)
        have HP := hide hP
        clear hP fp
        cases hlt2 : ltS P A
        · have HF := hide (ok_of_bad (zs := zs) (k := k) (by have := unhide HN; omega) (step_late (by omega) (by rw [← unhide HX, ← unhide HP]; exact hlt2)))
          have hlt3 : ∀ W, (binOp .geq 9 (.string P) (.string A)).run Tryd.prog W = .ok (.bool true) W := fun W => by rw [run_geq, hlt2]; rfl
          clear hlt2
          go_wp2_with fail
          refine region_cls (by kernel_rfl) (by kernel_rfl) ?_
          repeat (go_big_quiet_step ((first | (go_at_call 40; exact cls_same (unhide HNm _)) | (go_at_call 41; exact cls_same (unhide HWd _)))))
          refine wpQuiet_nil ?_
          rintro wq ⟨⟨_, hq⟩, rfl⟩
          go_wp2
          go_ret
          exact ⟨ret_bool (unhide HF).symm, hbel.trans (hq.mono hsz)⟩
        · have HS := hide (show okTo zs (k + 1) = true by rw [okTo_succ, unhide HO, step_yes (by rw [← unhide HX]; exact unhide KN) (by rw [← unhide HX]; exact unhide KW) (by rw [← unhide HX]; show 0 < B.size; omega) (.inr (by rw [← unhide HX, ← unhide HP]; exact hlt2))]; rfl)
          have hlt3 : ∀ W, (binOp .geq 9 (.string P) (.string A)).run Tryd.prog W = .ok (.bool false) W := fun W => by rw [run_geq, hlt2]; rfl
          clear hlt2
          go_wp2_with fail
          refine region_cls (by kernel_rfl) (by kernel_rfl) ?_
          repeat (go_big_quiet_step ((first | (go_at_call 40; exact cls_same (unhide HNm _)) | (go_at_call 41; exact cls_same (unhide HWd _)))))
          refine wpQuiet_nil ?_
          rintro wq ⟨⟨_, hq⟩, rfl⟩
          go_wp2
          go_roundw
          case rel => exact ⟨k + 1, by omega, by go_num, unhide HS, hbel.trans (hq.mono hsz)⟩
          case measure => simp [intOf]; omega
    · by_cases h14 : 1 ≤ n ∧ n ≤ 4
      · have HF := hide (ok_all (zs := zs) (by have := unhide HN; omega) (by have := unhide HN; omega) (by rw [← unhide HN, show n = k from by omega]; exact unhide HO))
        have HI := hide (fun W => in_yes (n : Int) 1 4 W (by omega) (by omega))
        go_wp2_with fail
        refine (unhide HI _).mono ?_
        rintro e w5 ⟨rfl, hw⟩
        subst hw
        go_wp2_with fail
        go_ret
        exact ⟨ret_bool (unhide HF).symm, hbel⟩
      · have HF := hide (ok_of_len (zs := zs) (by have := unhide HN; omega))
        have HI := hide (fun W => in_no (n : Int) 1 4 W (by omega))
        go_wp2_with fail
        refine (unhide HI _).mono ?_
        rintro e w5 ⟨rfl, hw⟩
        subst hw
        go_wp2_with fail
        go_ret
        exact ⟨ret_bool (unhide HF).symm, hbel⟩
end Go.Proofs.YtkmoekbicbjdmaaDoor.Lab

/- LabelsPut, of the program and of the model, at every slice of labels. -/
namespace Go.Proofs.YtkmoekbicbjdmaaDoor.Lab
open Go.RowKit Rw PutMath
set_option linter.unusedVariables false
attribute [local go_sem ↓] Go.wp_at_zero Go.wp_at_succ
theorem info_str : (Tryd.prog.info? 9).map (fun i => (i.zero, i.size, i.bytes)) = some (some (.string ByteArray.empty), 1, 16) := by kernel_rfl
def partOf (x : E) : ByteArray := x.1 ++ ⟨#[61]⟩ ++ x.2
def parts (zs : List E) : List ByteArray := zs.map partOf
theorem parts_snoc (zs : List E) (k : Nat) (h : k < zs.length) : parts (zs.take (k + 1)) = parts (zs.take k) ++ [partOf (at' zs k)] := by unfold parts; rw [at_snoc zs k h, List.map_append]; rfl
theorem parts_length (zs : List E) : (parts zs).length = zs.length := by simp [parts]
/-- none is too great -/
def small (zs : List E) : Prop := zs.length ≤ 1000 ∧ ∀ x ∈ zs, x.1.size ≤ 1000 ∧ x.2.size ≤ 1000
theorem part_size {zs : List E} (h : small zs) (k : Nat) : ∀ p ∈ parts (zs.take k), p.size ≤ 2001 := by
  intro p hp
  obtain ⟨x, hx, rfl⟩ := List.mem_map.1 hp
  have := h.2 x (List.mem_of_mem_take hx)
  unfold partOf
  rw [app_size, app_size]
  have e : (⟨#[61]⟩ : ByteArray).size = 1 := rfl
  omega
theorem join_small {zs : List E} (h : small zs) (k : Nat) : (joinB (parts (zs.take k))).length ≤ 2002000 := by
  have h1 := joinB_len (parts (zs.take k)) 2001 (part_size h k)
  rw [parts_length] at h1
  have h2 : (zs.take k).length ≤ 1000 := by have := List.length_take_le k zs; have := h.1; simp; omega
  have := Nat.mul_le_mul_right 2002 h2
  omega
theorem ok_small {zs : List E} (h : ok zs = true) : small zs := by
  unfold ok at h
  simp only [Bool.and_eq_true, decide_eq_true_eq] at h
  refine ⟨by omega, fun x hx => ?_⟩
  obtain ⟨k, hk, rfl⟩ := List.getElem_of_mem hx
  have hs := List.all_eq_true.1 (show (List.range zs.length).all (stepOk zs) = true from h.2) k (List.mem_range.2 hk)
  rw [← at_get zs k hk]
  unfold stepOk nameB wordB at hs
  simp only [Bool.and_eq_true, decide_eq_true_eq] at hs
  exact ⟨by have := hs.1.1.1.1.2; omega, by have := hs.1.1.2.1; omega⟩
def put (zs : List E) : ByteArray := if ok zs = true then wrap 123 125 (parts zs) else ByteArray.empty
def flatS (l : List ByteArray) : List Value := l.map Value.string
theorem flatS_append (a b : List ByteArray) : flatS (a ++ b) = flatS a ++ flatS b := by simp [flatS]
set_option maxRecDepth 100000 in
set_option maxHeartbeats 4000000 in
theorem impl_put {w : World} {v : Value} {zs : List E} (h : Is w v zs) (hg : ∀ x ∈ zs, good x) : Calls Tryd.prog 8 #[v] w fun e w' => e = .returned (.string (put zs)) ∧ Below w.heap.size w w' := by
  obtain ⟨i0, hi, hz0, hz1, hz2⟩ := info_parts info_str
  have H1 := hide (impl_ok h hg)
  cases ho : ok zs
  · have HR := hide (show put zs = ByteArray.empty by unfold put; rw [ho]; rfl)
    rw [ho] at H1
    clear ho h hg
    go_enter Tryd.func8, Tryd.ntmps8
    go_wp2_with fail
    refine (unhide H1).mono ?_
    rintro e w1 ⟨rfl, b1⟩
    go_wp2_with fail
    go_ret
    exact ⟨ret_string (unhide HR).symm, b1⟩
  have HR := hide (show put zs = wrap 123 125 (parts zs) by unfold put; rw [ho]; rfl)
  have hsm := ok_small ho
  have hn1 : 1 ≤ zs.length := by unfold ok at ho; simp only [Bool.and_eq_true, decide_eq_true_eq] at ho; exact ho.1.1
  rw [ho] at H1
  clear ho hg
  obtain ⟨-, a, cap, rfl, hc, hm, -, hr⟩ := h
  unfold maxLen at hm
  obtain ⟨n, hn⟩ : ∃ n, n = zs.length := ⟨_, rfl⟩
  have hn2 : n ≤ 1000 := by rw [hn]; exact hsm.1
  rw [← hn] at hc hr hn1 H1 ⊢
  have HN := hide hn
  have HSM := hide hsm
  clear hn hsm
  obtain ⟨R, hR⟩ : ∃ R, R = put zs := ⟨_, rfl⟩
  rw [← hR] at HR ⊢
  clear hR
  go_enter Tryd.func8, Tryd.ntmps8
  go_wp2_with fail
  refine (unhide H1).mono ?_
  rintro e w1 ⟨rfl, b1⟩
  go_wp2_with fail
  go_loopw [3, 11] (fun pv i wr => ∃ k : Nat, k ≤ n ∧ i = .int .i64 k ∧ wr.ownsRow w.heap.size 9 1 pv k (flatS (parts (zs.take k))) ∧ Below w.heap.size w wr) (fun _ i _ => n - (intOf i).toNat)
  case atStart => exact ⟨0, Nat.zero_le _, rfl, World.ownsRow_nil _ _ _ _, b1⟩
  case round =>
    clear b1 H1
    obtain ⟨k, hk, rfl, hown, hbel⟩ := hrel
    have hsz := hbel.size
    have hk0 : (0 : Int) ≤ (k : Int) := Int.natCast_nonneg _
    by_cases hlt : k < n
    · obtain ⟨b, off, rfl, hl, hcells⟩ := hr (by omega)
      have fa := flat_at zs k (by have := unhide HN; omega)
      have gd := (unhide HSM).2 (at' zs k) (by rw [at_get zs k (by have := unhide HN; omega)]; exact List.getElem_mem _)
      have HPS := parts_snoc zs k (by have := unhide HN; omega)
      obtain ⟨A, B, hX⟩ : ∃ A B, (A, B) = at' zs k := ⟨_, _, rfl⟩
      rw [← hX] at fa gd HPS
      simp only at gd
      have hc0 : wr.cell? ⟨b, off + k * 2, none⟩ = some (.string A) := (hbel.cell (p := ⟨b, _, none⟩) hl).trans (hcells (k * 2) _ fa.1)
      have hc1 : wr.cell? ⟨b, off + k * 2 + 1, none⟩ = some (.string B) := (hbel.cell (p := ⟨b, _, none⟩) hl).trans (hcells (k * 2 + 1) _ fa.2)
      have e61 : (⟨#[61]⟩ : ByteArray).size = 1 := rfl
      have HQ := hide (show partOf (A, B) = A ++ ⟨#[61]⟩ ++ B from rfl)
      have s1 : ∀ W, (Op.stringOp .add A ⟨#[61]⟩).run Tryd.prog W = .ok (.string (A ++ ⟨#[61]⟩)) W := fun W => run_string_add_sum W _ _ (by rw [e61]; omega)
      have s2 : ∀ W, (Op.stringOp .add (A ++ ⟨#[61]⟩) B).run Tryd.prog W = .ok (.string (A ++ ⟨#[61]⟩ ++ B)) W := fun W => run_string_add_sum W _ _ (by rw [app_size, e61]; omega)
      rw [← unhide HQ] at s2
      generalize A ++ ⟨#[61]⟩ = P1 at s1 s2
      have HPS' := hide HPS
      generalize partOf (A, B) = P2 at s2 HPS'
      clear hX fa gd HPS HQ e61
      have hk1 : (k : Int) < (n : Int) := by omega
      go_wp2_with (at_builtin; refine app_wp _ rfl _ _ _ rfl w.heap.size 9 i0 _ 1 16 Tryd.underlying45 hi hz0 hz1 hz2 rfl (by omega) _ k _ rfl ((hown.alloc _).alloc _) _ 1 [.string P2] rfl (lies_new (by simp) rfl (by unfold maxLen; omega)) (by simp [Value.oneCell']) (by unfold maxLen; omega) (by omega) (by simp; omega) ?_; intro vn wn on gn an)
      have R9 : Below w.heap.size w wn := below_grown ((hbel.alloc hsz _).alloc (by simp; omega) _) (by simp; omega) gn (own_ge hown)
      have R2 := hide (show wn.ownsRow w.heap.size 9 1 vn (k + 1) (flatS (parts (zs.take (k + 1)))) by rw [unhide HPS', flatS_append]; exact on)
      clear on gn an hown
      go_wp2_with fail
      go_roundw
      case rel => exact ⟨k + 1, by omega, by go_num, unhide R2, R9⟩
      case measure => simp [intOf]; omega
    · obtain rfl : k = n := by omega
      have hkf : decide ((k : Int) < (k : Int)) = false := by simp
      rw [List.take_of_length_le (by have := unhide HN; omega)] at hown
      obtain ⟨g, cp, rfl, hgb, hgl⟩ := hown.form (by omega)
      have JS := join_small (unhide HSM) k
      rw [List.take_of_length_le (by have := unhide HN; omega)] at JS
      have HL : (parts zs).length = k := by rw [parts_length]; exact (unhide HN).symm
      have hcp : k ≤ cp := by obtain ⟨-, a', c', e, h2, -⟩ := lies_of_own hown; simp only [Value.slice.injEq, true_and] at e; omega
      have HJ := hide (Tryd.strings_Join g 0 cp (parts zs) ⟨#[44]⟩ wr (fun j x hj => by
        have hj' := (List.getElem?_eq_some_iff.1 hj).1
        rw [Nat.zero_add, hown.cellAt j (by omega)]
        simp [flatS, hj]) hgl (by omega) (by omega) (by show (joinB (parts zs)).length ≤ _; omega))
      rw [HL] at HJ
      have e1 : (⟨#[123]⟩ : ByteArray).size = 1 := rfl
      have e2 : (⟨#[125]⟩ : ByteArray).size = 1 := rfl
      have HW := hide (wrap_join 123 125 (parts zs))
      have sJ := size_of (joinB (parts zs))
      have HJ2 := hide (show Calls Tryd.prog 33 #[.slice (some ⟨g, 0, none⟩) k cp, .string ⟨#[44]⟩] wr fun e w' => e = .returned (.string ⟨(joinB (parts zs)).toArray⟩) ∧ Below wr.heap.size wr w' from unhide HJ)
      have s1 : ∀ W, (Op.stringOp .add ⟨#[123]⟩ ⟨(joinB (parts zs)).toArray⟩).run Tryd.prog W = .ok (.string (⟨#[123]⟩ ++ ⟨(joinB (parts zs)).toArray⟩)) W := fun W => run_string_add_sum W _ _ (by rw [e1, sJ]; omega)
      have s2 : ∀ W, (Op.stringOp .add (⟨#[123]⟩ ++ ⟨(joinB (parts zs)).toArray⟩) ⟨#[125]⟩).run Tryd.prog W = .ok (.string (⟨#[123]⟩ ++ ⟨(joinB (parts zs)).toArray⟩ ++ ⟨#[125]⟩)) W := fun W => run_string_add_sum W _ _ (by rw [app_size, e1, e2, sJ]; omega)
      rw [unhide HW, ← unhide HR] at s2
      clear HJ HL hown JS sJ e1 e2 HW
      generalize (⟨(joinB (parts zs)).toArray⟩ : ByteArray) = J at HJ2 s1 s2
      generalize (⟨#[123]⟩ : ByteArray) ++ J = P1 at s1 s2
      go_wp2_with fail
      refine (unhide HJ2).mono ?_
      rintro e w5 ⟨rfl, b5⟩
      have c5 := hbel.trans (b5.mono hsz)
      go_wp2_with fail
      go_ret
      exact ⟨rfl, c5⟩
end Go.Proofs.YtkmoekbicbjdmaaDoor.Lab

/- LabelsPut of the model, at every slice of labels. -/
namespace Go.Proofs.YtkmoekbicbjdmaaDoor.Lab
open Go.RowKit Rw PutMath
set_option linter.unusedVariables false
attribute [local go_sem ↓] Go.wp_at_zero Go.wp_at_succ
set_option maxRecDepth 100000 in
set_option maxHeartbeats 4000000 in
theorem l3Put_any {w : World} {v : Value} {zs : List E} (h : Is w v zs) (hsm : small zs) : Calls Tryd.prog 37 #[v] w fun e w' => e = .returned (.string (wrap 123 125 (parts zs))) ∧ Below w.heap.size w w' := by
  obtain ⟨-, a, cap, rfl, hc, hm, -, hr⟩ := h
  unfold maxLen at hm
  obtain ⟨n, hn⟩ : ∃ n, n = zs.length := ⟨_, rfl⟩
  have hn2 : n ≤ 1000 := by rw [hn]; exact hsm.1
  rw [← hn] at hc hr ⊢
  have HN := hide hn
  have HSM := hide hsm
  clear hn hsm
  obtain ⟨R, hR⟩ : ∃ R, R = wrap 123 125 (parts zs) := ⟨_, rfl⟩
  rw [← hR]
  have HR := hide hR
  clear hR
  have H0 := hide (out_first 123)
  go_enter Tryd.func37, Tryd.ntmps37
  go_wp2_with fail
  go_loopw [3, 4] (fun ov i wr => ∃ (k : Nat) (O : ByteArray), k ≤ n ∧ i = .int .i64 k ∧ ov = .string O ∧ O = out 123 (parts (zs.take k)) ∧ Below w.heap.size w wr) (fun _ i _ => n - (intOf i).toNat)
  case atStart => exact ⟨0, _, Nat.zero_le _, rfl, rfl, (unhide H0).symm, Below.refl _ _⟩
  case round =>
    obtain ⟨k, O, hk, rfl, rfl, hO, hbel⟩ := hrel
    have hsz := hbel.size
    have hk0 : (0 : Int) ≤ (k : Int) := Int.natCast_nonneg _
    have JS := join_small (unhide HSM) k
    have hOs : O.size ≤ 2002001 := by rw [hO, out_size]; omega
    have HO := hide hO
    clear hO JS
    by_cases hlt : k < n
    · obtain ⟨b, off, rfl, hl, hcells⟩ := hr (by omega)
      have fa := flat_at zs k (by have := unhide HN; omega)
      have gd := (unhide HSM).2 (at' zs k) (by rw [at_get zs k (by have := unhide HN; omega)]; exact List.getElem_mem _)
      have HPS := parts_snoc zs k (by have := unhide HN; omega)
      obtain ⟨A, B, hX⟩ : ∃ A B, (A, B) = at' zs k := ⟨_, _, rfl⟩
      rw [← hX] at fa gd HPS
      simp only at gd
      have hb1 : b < wr.heap.size := by omega
      have q0 : ∀ x : Cls wr.heap.size wr, x.val.cell? ⟨b, off + k * 2, none⟩ = some (.string A) := fun x => by rw [x.cell hb1]; exact (hbel.cell (p := ⟨b, _, none⟩) hl).trans (hcells (k * 2) _ fa.1)
      have q1 : ∀ x : Cls wr.heap.size wr, x.val.cell? ⟨b, off + k * 2 + 1, none⟩ = some (.string B) := fun x => by rw [x.cell hb1]; exact (hbel.cell (p := ⟨b, _, none⟩) hl).trans (hcells (k * 2 + 1) _ fa.2)
      have hne := cls_nonempty wr.heap.size wr
      have e61 : (⟨#[61]⟩ : ByteArray).size = 1 := rfl
      have e44 : (⟨#[44]⟩ : ByteArray).size = 1 := rfl
      have hk1 : (k : Int) < (n : Int) := by omega
      have lenk : (parts (zs.take k)).length = k := by rw [parts_length, List.length_take]; have := unhide HN; omega
      have adds : ∀ q : ByteArray, q.size ≤ 2002002 → (if (parts (zs.take k)).length = 0 then out 123 (parts (zs.take k)) else out 123 (parts (zs.take k)) ++ ⟨#[44]⟩) = q → ∃ P1 P2 P3, P3 = out 123 (parts (zs.take (k + 1))) ∧ (∀ W, (Op.stringOp .add q A).run Tryd.prog W = .ok (.string P1) W) ∧ (∀ W, (Op.stringOp .add P1 ⟨#[61]⟩).run Tryd.prog W = .ok (.string P2) W) ∧ (∀ W, (Op.stringOp .add P2 B).run Tryd.prog W = .ok (.string P3) W) := by
        intro q hq he
        refine ⟨q ++ A, q ++ A ++ ⟨#[61]⟩, q ++ A ++ ⟨#[61]⟩ ++ B, ?_, fun W => run_string_add_sum W _ _ (by omega), fun W => run_string_add_sum W _ _ (by rw [app_size, e61]; omega), fun W => run_string_add_sum W _ _ (by rw [app_size, app_size, e61]; omega)⟩
        rw [HPS, ← out_next 123 (parts (zs.take k)) (partOf (A, B)) q he]
        unfold partOf
        rw [app_assoc, app_assoc, app_assoc]
      by_cases hk00 : k = 0
      · obtain ⟨P1, P2, P3, hP3, s1, s2, s3⟩ := adds O (by omega) (by rw [if_pos (by omega), unhide HO])
        have HP3 := hide hP3
        have hd : decide ((0 : Int) < (k : Int)) = false := by simp; omega
        have hd2 : decide (0 < k) = false := by simp; omega
        clear hP3 adds HPS gd fa hX hk00 lenk
        go_wp2_with fail
        refine region_cls (by kernel_rfl) (by kernel_rfl) ?_
        repeat (go_big_quiet_step (fail))
        refine wpQuiet_nil ?_
        rintro wq ⟨⟨_, hq⟩, rfl⟩
        go_wp2
        go_roundw
        case rel => exact ⟨k + 1, P3, by omega, by go_num, rfl, unhide HP3, hbel.trans (hq.mono hsz)⟩
        case measure => simp [intOf]; omega
      · obtain ⟨P1, P2, P3, hP3, s1, s2, s3⟩ := adds (O ++ ⟨#[44]⟩) (by rw [app_size, e44]; omega) (by rw [if_neg (by omega), unhide HO])
        have s0 : ∀ W, (Op.stringOp .add O ⟨#[44]⟩).run Tryd.prog W = .ok (.string (O ++ ⟨#[44]⟩)) W := fun W => run_string_add_sum W _ _ (by rw [e44]; omega)
        generalize O ++ ⟨#[44]⟩ = O1 at s0 s1
        have HP3 := hide hP3
        have hd : (0 : Int) < (k : Int) := by omega
        clear hP3 adds HPS gd fa hX hk00 lenk
        go_wp2_with fail
        refine region_cls (by kernel_rfl) (by kernel_rfl) ?_
        repeat (go_big_quiet_step (fail))
        refine wpQuiet_nil ?_
        rintro wq ⟨⟨_, hq⟩, rfl⟩
        go_wp2
        go_roundw
        case rel => exact ⟨k + 1, P3, by omega, by go_num, rfl, unhide HP3, hbel.trans (hq.mono hsz)⟩
        case measure => simp [intOf]; omega
    · obtain rfl : k = n := by omega
      have e125 : (⟨#[125]⟩ : ByteArray).size = 1 := rfl
      have s0 : ∀ W, (Op.stringOp .add O ⟨#[125]⟩).run Tryd.prog W = .ok (.string R) W := fun W => by
        rw [run_string_add_sum W _ _ (by rw [e125]; omega), unhide HR, unhide HO, List.take_of_length_le (by have := unhide HN; omega), wrap_out]
      go_wp2_with fail
      go_ret
      exact ⟨rfl, hbel⟩
set_option maxHeartbeats 1000000 in
theorem spec_put {w : World} {v : Value} {zs : List E} (h : Is w v zs) (hg : ∀ x ∈ zs, good x) (hz : zs.length ≤ maxLen) : Calls Tryd.prog 10 #[v] w fun e w' => e = .returned (.string (put zs)) ∧ Below w.heap.size w w' := by
  have H1 := hide (spec_ok h hg hz)
  cases ho : ok zs
  · have HR := hide (show put zs = ByteArray.empty by unfold put; rw [ho]; rfl)
    rw [ho] at H1
    clear ho h hg
    go_enter Tryd.func10, Tryd.ntmps10
    go_wp2_with fail
    refine (unhide H1).mono ?_
    rintro e w1 ⟨rfl, b1⟩
    go_wp2_with fail
    go_ret
    exact ⟨ret_string (unhide HR).symm, b1⟩
  · have HR := hide (show put zs = wrap 123 125 (parts zs) by unfold put; rw [ho]; rfl)
    have H2 := hide (fun W (hb : Below w.heap.size w W) => l3Put_any (h.below hb) (ok_small ho))
    rw [ho] at H1
    clear ho h hg
    go_enter Tryd.func10, Tryd.ntmps10
    go_wp2_with fail
    refine (unhide H1).mono ?_
    rintro e w1 ⟨rfl, b1⟩
    go_wp2_with fail
    refine (unhide H2 _ b1).mono ?_
    rintro e w2 ⟨rfl, b2⟩
    have c2 := b1.trans (b2.mono b1.size)
    go_wp2_with fail
    go_ret
    exact ⟨ret_string (unhide HR).symm, c2⟩
end Go.Proofs.YtkmoekbicbjdmaaDoor.Lab

/- Labels and a text of them are drawn. No condition. -/
namespace Go.Proofs.YtkmoekbicbjdmaaDoor.Draw
open Go.RowKit Rw PutMath
set_option linter.unusedVariables false
attribute [local go_sem ↓] Go.wp_at_zero Go.wp_at_succ
theorem size_oneLab {x : ByteArray} (h : x ∈ [(⟨#[123]⟩ : ByteArray), ⟨#[125]⟩, ⟨#[44]⟩, ⟨#[61]⟩, ⟨#[97]⟩, ⟨#[32]⟩, ⟨#[49]⟩]) : x.size = 1 := by
  simp only [List.mem_cons, List.not_mem_nil, or_false] at h
  rcases h with h | h | h | h | h | h | h <;> subst h <;> rfl
set_option maxRecDepth 100000 in
set_option maxHeartbeats 2000000 in
theorem draw_putLab {a : Option Addr} {len cap : Nat} {zs : List Int} (w0 w : World) (h : IsRow .u8 w0 a len cap zs) (hB : Below w0.heap.size w0 w) :
    Calls Tryd.prog 7 #[.slice a len cap] w fun e w' => ∃ (zs : List Lab.E) (v : Value), e = .returned v ∧ zs.length ≤ 20 ∧ (∀ x ∈ zs, smallL x) ∧ Lab.Is w' v zs ∧ Below w.heap.size w w' := by
  have HO := hide (open_any w0 w h hB)
  clear h hB
  go_enter Tryd.func7, Tryd.ntmps7
  go_wp2_with fail
  refine (unhide HO).mono ?_
  rintro e w1 ⟨rfl, r1, b1⟩
  go_wp2_with fail
  refine (anylabels_any w.heap.size 0 _ r1 (by omega)).mono ?_
  rintro e w2 ⟨zs, v, rfl, hl, hsm, o2, -, q2⟩
  have S1 := hide (Lab.is_of_own o2)
  have M1 := hide hsm
  have b2 := b1.trans (below_of_grown q2 (Nat.le_refl _) b1.size)
  clear o2 q2 r1 HO hsm
  go_wp2_with fail
  go_ret
  exact ⟨zs, _, rfl, hl, unhide M1, unhide S1, b2⟩
set_option maxRecDepth 100000 in
set_option maxHeartbeats 4000000 in
theorem draw_textLab {a : Option Addr} {len cap : Nat} {zs : List Int} (w0 w : World) (h : IsRow .u8 w0 a len cap zs) (hB : Below w0.heap.size w0 w) :
    Calls Tryd.prog 14 #[.slice a len cap] w fun e w' => ∃ x : ByteArray, e = .returned (.string x) ∧ x.size ≤ 2002003 ∧ Below w.heap.size w w' := by
  have HO := hide (open_any w0 w h hB)
  clear h hB
  go_enter Tryd.func14, Tryd.ntmps14
  go_wp2_with fail
  refine (unhide HO).mono ?_
  rintro e w1 ⟨rfl, r1, b1⟩
  have hlt := r1.lt
  have hs1 := b1.size
  go_wp2_with fail
  refine (labels_any w.heap.size 0 _ r1 (by omega)).mono ?_
  rintro e w2 ⟨zs, v, rfl, hpos, hl3, hsm, o2, ⟨p2, hp2, r2⟩, q2⟩
  have hSm : Lab.small zs := ⟨by omega, fun x hx => by have := hsm x hx; exact ⟨by have := this.1; omega, by have := this.2.1; omega⟩⟩
  have hsz : (wrap 123 125 (Lab.parts zs)).size ≤ 2002002 := by
    unfold wrap
    rw [size_of]
    have := Lab.join_small hSm zs.length
    rw [List.take_of_length_le (Nat.le_refl _)] at this
    simp only [List.length_append, List.length_cons, List.length_nil]
    omega
  have HP := hide (Lab.l3Put_any (Lab.is_of_own o2) hSm)
  have HR2 := hide r2
  have bb2 := b1.trans (below_of_grown q2 (Nat.le_refl _) hs1)
  have zq2 := q2.size
  obtain ⟨s, hs⟩ : ∃ s, s = wrap 123 125 (Lab.parts zs) := ⟨_, rfl⟩
  rw [← hs] at HP hsz
  clear o2 hsm hSm hs r1 HO r2
  go_wp2_with fail
  refine (unhide HP).mono ?_
  rintro e w3 ⟨rfl, b3⟩
  have r3 := (unhide HR2).below b3
  have c3 := bb2.trans (b3.mono bb2.size)
  have z3 := b3.size
  clear HP HR2 bb2 b3 q2
  go_wp2_with fail
  refine (pick_any w.heap.size p2 _ _ r3 (by omega) (by omega)).mono ?_
  rintro e w4 ⟨n, rfl, n0, n1, -, r4, g4⟩
  have n2 : n < (s.size : Int) + 1 := n1 (by omega)
  obtain ⟨K, rfl⟩ := Int.eq_ofNat_of_zero_le n0
  have hK : K ≤ s.size := by omega
  have c4 := c3.trans (below_of_grown g4 (Nat.le_refl _) c3.size)
  clear n0 n1 n2 g4 r3 c3
  go_wp2_with fail
  refine (pick_any w.heap.size (p2 + 1) _ _ r4 (by omega) (by omega)).mono ?_
  rintro e w5 ⟨m, rfl, m0, m1, -, r5, g5⟩
  have c5 := c4.trans (below_of_grown g5 (Nat.le_refl _) c4.size)
  clear r4 g5 c4 m1
  by_cases h0 : m = 0
  · subst h0
    have hz1 : (s.extract 0 K).size = K := by simp [ByteArray.size_extract]; omega
    have hz2 : (s.extract K s.size).size = s.size - K := by simp [ByteArray.size_extract]
    have hof := of_new w.heap.size (p2 + 1 + 1) [(⟨#[123]⟩ : ByteArray), ⟨#[125]⟩, ⟨#[44]⟩, ⟨#[61]⟩, ⟨#[97]⟩, ⟨#[32]⟩, ⟨#[49]⟩] w5.drew (rd_drew r5) (by omega) (by simp) (by simp)
    simp only [List.map_cons, List.map_nil, List.length_cons, List.length_nil, Nat.zero_add, Nat.reduceAdd, World.size_drew] at hof
    have c5d := c5.drew
    clear r5
    go_wp2_with fail
    go_region_held3 (fun _ => True) (trivial) ((go_at_call 45; refine hof.mono ?_; rintro e w6 ⟨x, rfl, hx, r6, g6⟩; have hx1 := size_oneLab hx; have hc1 : ∀ W : World, (Op.stringOp .add (s.extract 0 K) x).run Tryd.prog W = .ok (.string (s.extract 0 K ++ x)) W := fun W => run_string_add_sum W _ _ (by rw [hx1, hz1]; omega); have hc2 : ∀ W : World, (Op.stringOp .add (s.extract 0 K ++ x) (s.extract K s.size)).run Tryd.prog W = .ok (.string (s.extract 0 K ++ x ++ s.extract K s.size)) W := fun W => run_string_add_sum W _ _ (by rw [ByteArray.size_append, hx1, hz1, hz2]; omega)))
    have c6 := c5d.trans (below_of_grown g6 (Nat.le_refl _) c5d.size)
    clear g6 r6 hof
    go_wp2
    go_ret
    exact ⟨_, rfl, by rw [ByteArray.size_append, ByteArray.size_append, hx1, hz1, hz2]; omega, c6⟩
  have h0f : (m == 0) = false := by simpa using h0
  by_cases h1 : m = 1
  · subst h1
    go_wp2
    go_ret
    exact ⟨_, rfl, by simp [ByteArray.size_extract]; omega, c5⟩
  go_wp2
  go_ret
  exact ⟨s, rfl, by omega, c5⟩
end Go.Proofs.YtkmoekbicbjdmaaDoor.Draw
