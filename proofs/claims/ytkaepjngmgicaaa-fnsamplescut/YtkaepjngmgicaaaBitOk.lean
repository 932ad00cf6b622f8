/- Which numbers have room in their bits. -/
import Derived.Test.YtkaepjngmgicaaaBitPutMath
import Derived.Test.YtkaepjngmgicaaaSamp
namespace Go.Proofs.Ytkaepjngmgicaaa.BitPut
open Go.RowKit Samp SampMath
set_option linter.unusedVariables false
attribute [local go_sem ↓] Go.wp_at_zero Go.wp_at_succ
/-- has the number room -/
def okz (z : Int × Int) : Bool := decide (1 ≤ z.2) && (decide (z.2 ≤ 32) && (decide (0 ≤ z.1) && decide (z.1 < 2 ^ z.2.toNat)))
theorem wide_is (q : Int) (b : Bool) (w : World) (h : (decide (1 ≤ q) && decide (q ≤ 32)) = b) : Calls Try.prog 69 #[.int .i64 q] w fun e w' => e = .returned (.bool b) ∧ w' = w := by
  have h' := hide h
  clear h
  by_cases h1 : q < 1
  · go_enter Try.func69, Try.ntmps69
    go_wp2
    go_ret
    exact ⟨ret_bool (by rw [← unhide h']; simp; omega), rfl⟩
  · go_enter Try.func69, Try.ntmps69
    go_wp2
    go_ret
    exact ⟨ret_bool (by rw [← unhide h']; simp; omega), rfl⟩
set_option maxRecDepth 100000 in
set_option maxHeartbeats 1000000 in
theorem bitOk_no (t v : Int) (w : World) (h : v < 1 ∨ 32 < v) :
    Calls Try.prog 63 #[.agg #[.int .i64 t, .int .i64 v]] w fun e w' => e = .returned (.bool false) ∧ Below w.heap.size w w' := by
  have HI := hide (show (decide (1 ≤ v) && decide (v ≤ 32)) = false by simp; omega)
  clear h
  obtain ⟨W, hW⟩ : ∃ W, W = w.alloc (.cells #[.int .i64 t, .int .i64 v] 29) := ⟨_, rfl⟩
  have hWb : Below w.heap.size w W := by rw [hW]; exact (Below.refl _ _).alloc (Nat.le_refl _) _
  have hq0 : ∀ x : Cls (w.heap.size + 1) W, x.val.cell? ⟨w.heap.size, 0, none⟩ = some (.int .i64 t) := fun x => by rw [x.cell (by omega), hW]; simp
  have hq1 : ∀ x : Cls (w.heap.size + 1) W, x.val.cell? ⟨w.heap.size, 1, none⟩ = some (.int .i64 v) := fun x => by rw [x.cell (by omega), hW]; simp
  have HWs := hide (show W.heap.size = w.heap.size + 1 by rw [hW]; simp)
  have HW := hide hW
  clear hW
  go_enter Try.func63, Try.ntmps63
  go_wp2_with fail
  rw [← unhide HW]
  refine region_cls (by kernel_rfl) (by kernel_rfl) ?_
  rw [unhide HWs]
  have hne := cls_nonempty (w.heap.size + 1) W
  repeat (go_big_quiet_step ((go_at_call 69; exact cls_same (wide_is _ false _ (unhide HI)))))
  refine wpQuiet_nil ?_
  rintro _ ⟨⟨wq, hq⟩, rfl⟩
  go_wp2
  go_ret
  exact ⟨rfl, hWb.trans (hq.mono (by omega))⟩
set_option maxRecDepth 100000 in
set_option maxHeartbeats 1000000 in
theorem bitOk_neg (t v : Int) (w : World) (h1 : 1 ≤ v) (h2 : v ≤ 32) (h : t < 0) :
    Calls Try.prog 63 #[.agg #[.int .i64 t, .int .i64 v]] w fun e w' => e = .returned (.bool false) ∧ Below w.heap.size w w' := by
  have HI := hide (show (decide (1 ≤ v) && decide (v ≤ 32)) = true by simp; omega)
  have hd : decide (0 ≤ t) = false := by simp; omega
  obtain ⟨W, hW⟩ : ∃ W, W = w.alloc (.cells #[.int .i64 t, .int .i64 v] 29) := ⟨_, rfl⟩
  have hWb : Below w.heap.size w W := by rw [hW]; exact (Below.refl _ _).alloc (Nat.le_refl _) _
  have hq0 : ∀ x : Cls (w.heap.size + 1) W, x.val.cell? ⟨w.heap.size, 0, none⟩ = some (.int .i64 t) := fun x => by rw [x.cell (by omega), hW]; simp
  have hq1 : ∀ x : Cls (w.heap.size + 1) W, x.val.cell? ⟨w.heap.size, 1, none⟩ = some (.int .i64 v) := fun x => by rw [x.cell (by omega), hW]; simp
  have HWs := hide (show W.heap.size = w.heap.size + 1 by rw [hW]; simp)
  have HW := hide hW
  clear hW
  go_enter Try.func63, Try.ntmps63
  go_wp2_with fail
  rw [← unhide HW]
  refine region_cls (by kernel_rfl) (by kernel_rfl) ?_
  rw [unhide HWs]
  have hne := cls_nonempty (w.heap.size + 1) W
  repeat (go_big_quiet_step ((go_at_call 69; exact cls_same (wide_is _ true _ (unhide HI)))))
  refine wpQuiet_nil ?_
  rintro _ ⟨⟨wq, hq⟩, rfl⟩
  go_wp2
  go_ret
  exact ⟨rfl, hWb.trans (hq.mono (by omega))⟩
set_option maxRecDepth 100000 in
set_option maxHeartbeats 1000000 in
theorem bitOk_pos (t q : Nat) (w : World) (h1 : 1 ≤ q) (h2 : q ≤ 32) :
    Calls Try.prog 63 #[.agg #[.int .i64 t, .int .i64 q]] w fun e w' => e = .returned (.bool (decide (t < 2 ^ q))) ∧ Below w.heap.size w w' := by
  have HI := hide (show (decide (1 ≤ (q : Int)) && decide ((q : Int) ≤ 32)) = true by simp; omega)
  have hd : decide (0 ≤ (t : Int)) = true := by simp
  have hd2 : decide ((q : Int) < 0) = false := by simp
  obtain ⟨P, hP⟩ : ∃ P : Nat, P = 2 ^ q := ⟨_, rfl⟩
  have hP1 : P ≤ 4294967296 := by
    have h : 2 ^ q ≤ 2 ^ 32 := Nat.pow_le_pow_right (by decide) (by omega)
    omega
  have hP2 : (2 : Int) ^ q = (P : Int) := by rw [hP]; simp
  rw [← hP]
  clear hP
  obtain ⟨W, hW⟩ : ∃ W, W = w.alloc (.cells #[.int .i64 t, .int .i64 q] 29) := ⟨_, rfl⟩
  have hWb : Below w.heap.size w W := by rw [hW]; exact (Below.refl _ _).alloc (Nat.le_refl _) _
  have hq0 : ∀ x : Cls (w.heap.size + 1) W, x.val.cell? ⟨w.heap.size, 0, none⟩ = some (.int .i64 t) := fun x => by rw [x.cell (by omega), hW]; simp
  have hq1 : ∀ x : Cls (w.heap.size + 1) W, x.val.cell? ⟨w.heap.size, 1, none⟩ = some (.int .i64 q) := fun x => by rw [x.cell (by omega), hW]; simp
  have HWs := hide (show W.heap.size = w.heap.size + 1 by rw [hW]; simp)
  have HW := hide hW
  clear hW
  go_enter Try.func63, Try.ntmps63
  go_wp2_with fail
  rw [← unhide HW]
  refine region_cls (by kernel_rfl) (by kernel_rfl) ?_
  rw [unhide HWs]
  have hne := cls_nonempty (w.heap.size + 1) W
  repeat (go_big_quiet_step ((go_at_call 69; exact cls_same (wide_is _ true _ (unhide HI)))))
  refine wpQuiet_nil ?_
  rintro _ ⟨⟨wq, hq⟩, rfl⟩
  go_wp2
  go_ret
  exact ⟨ret_bool (by simp), hWb.trans (hq.mono (by omega))⟩
theorem bitOk_is (t v : Int) (b : Bool) (w : World) (h : okz (t, v) = b) :
    Calls Try.prog 63 #[.agg #[.int .i64 t, .int .i64 v]] w fun e w' => e = .returned (.bool b) ∧ Below w.heap.size w w' := by
  by_cases h1 : v < 1 ∨ 32 < v
  · have e : okz (t, v) = false := by unfold okz; simp; omega
    rw [← h, e]
    exact bitOk_no t v w h1
  by_cases h2 : t < 0
  · have e : okz (t, v) = false := by unfold okz; simp; omega
    rw [← h, e]
    exact bitOk_neg t v w (by omega) (by omega) h2
  obtain ⟨q, rfl⟩ := Int.eq_ofNat_of_zero_le (show 0 ≤ v by omega)
  obtain ⟨T, rfl⟩ := Int.eq_ofNat_of_zero_le (show 0 ≤ t by omega)
  have e : okz ((T : Int), (q : Int)) = decide (T < 2 ^ q) := by
    have hp : ((T : Int) < 2 ^ q) ↔ T < 2 ^ q := by
      rw [show (2 : Int) ^ q = ((2 ^ q : Nat) : Int) by simp]
      omega
    have a1 : decide (1 ≤ (q : Int)) = true := by simp; omega
    have a2 : decide ((q : Int) ≤ 32) = true := by simp; omega
    have a3 : decide (0 ≤ (T : Int)) = true := by simp
    unfold okz
    simp only [a1, a2, a3, Int.toNat_natCast, Bool.true_and]
    exact decide_eq_decide.2 hp
  rw [← h, e]
  exact bitOk_pos T q w (by omega) (by omega)
/-- the bits of the first k numbers -/
def bitsTo (zs : List (Int × Int)) (k : Nat) : List UInt8 := (zs.take k).flatMap fun z => bitsK z.1.toNat z.2.toNat z.2.toNat
theorem bitsTo_succ (zs : List (Int × Int)) (k : Nat) (h : k < zs.length) : bitsTo zs (k + 1) = bitsTo zs k ++ bitsK (at' zs k).1.toNat (at' zs k).2.toNat (at' zs k).2.toNat := by
  unfold bitsTo
  rw [at_snoc zs k h, List.flatMap_append]
  simp
theorem bitsTo_bit (zs : List (Int × Int)) (k : Nat) : ∀ i, ((bitsTo zs k).getD i 0).toNat < 2 := by
  intro i
  rw [List.getD_eq_getElem?_getD]
  rcases Nat.lt_or_ge i (bitsTo zs k).length with h | h
  · rw [List.getElem?_eq_getElem h]
    have hm := List.getElem_mem h
    generalize (bitsTo zs k)[i] = y at hm
    unfold bitsTo bitsK at hm
    simp only [List.mem_flatMap, List.mem_map] at hm
    obtain ⟨z, _, j, _, rfl⟩ := hm
    show (UInt8.ofNat _).toNat < 2
    rw [bit_toNat]
    exact Nat.mod_lt _ (by decide)
  · rw [List.getElem?_eq_none h]
    decide
def Good (zs : List (Int × Int)) : Prop := ∀ j, j < zs.length → okz (at' zs j) = true ∧ (bitsTo zs (j + 1)).length ≤ 6000
theorem okz_parts {z : Int × Int} (h : okz z = true) : ∃ t q : Nat, z = ((t : Int), (q : Int)) ∧ 1 ≤ q ∧ q ≤ 32 ∧ t < 2 ^ q := by
  unfold okz at h
  simp only [Bool.and_eq_true, decide_eq_true_eq] at h
  obtain ⟨h1, h2, h3, h4⟩ := h
  refine ⟨z.1.toNat, z.2.toNat, Prod.ext (by simp; omega) (by simp; omega), by omega, by omega, ?_⟩
  have e : (2 : Int) ^ z.2.toNat = ((2 ^ z.2.toNat : Nat) : Int) := by simp
  rw [e] at h4
  omega
end Go.Proofs.Ytkaepjngmgicaaa.BitPut
