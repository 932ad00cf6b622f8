/- What BitsPut answers: bits as bytes. -/
import Derived.Test.YtkaepjngmgicaaaBitPut
import Derived.Test.YtkaepjngmgicaaaSampLaw
namespace Go.Proofs.Ytkaepjngmgicaaa.BitPut
open Go.RowKit Samp Draw
set_option linter.unusedVariables false
attribute [local go_sem ↓] Go.wp_at_zero Go.wp_at_succ
/-- bit i of a row of bytes is set too -/
def orAt (out : List UInt8) (i : Nat) (b : UInt8) : List UInt8 := out.set (i / 8) (UInt8.ofNat ((out.getD (i / 8) 0).toNat ||| b.toNat * 2 ^ (7 - i % 8)))
/-- the first k bits as bytes -/
def textK (bs : List UInt8) : Nat → List UInt8
  | 0 => List.replicate ((bs.length + 7) / 8) 0
  | k + 1 => orAt (textK bs k) k (bs.getD k 0)
theorem textK_length (bs : List UInt8) : ∀ k, (textK bs k).length = (bs.length + 7) / 8
  | 0 => by simp [textK]
  | k + 1 => by rw [textK, orAt, List.length_set, textK_length bs k]
theorem made_bytes (M : Nat) : (madeCells (Value.int .u8 0).cells (M * 1)).toList = List.replicate M (.int .u8 0) := by
  rw [Nat.mul_one]
  apply List.ext_getElem
  · simp [madeCells]
  · intro i h1 h2
    simp [madeCells, Value.cells]
    rw [Nat.mod_one]
    rfl
/-- what a round meets at bit k, its numbers as letters -/
theorem text_facts (bs : List UInt8) (k : Nat) (out : List UInt8) (hb : (bs.getD k 0).toNat < 2) : ∃ J m c b x y : Nat, Hid (J = k / 8) ∧ m < 8 ∧
    (k : Int).tdiv 8 = (J : Int) ∧ (k : Int) / 8 = (J : Int) ∧ (k : Int).tmod 8 = (m : Int) ∧ (k : Int) % 8 = (m : Int) ∧ c < 256 ∧ b < 2 ∧
    IntKind.u8.wrap ((b : Int) * 2 ^ (7 - m)) = (x : Int) ∧ bits .or .u8 (c : Int) (x : Int) = (y : Int) ∧ x < 256 ∧ y < 256 ∧
    Hid (c = (out.getD J 0).toNat) ∧ Hid (b = (bs.getD k 0).toNat) ∧ Hid (out.set J (UInt8.ofNat y) = orAt out k (bs.getD k 0) ∧ (UInt8.ofNat y).toNat = y) := by
  have hc := (out.getD (k / 8) 0).toNat_lt
  have hp : 2 ^ (7 - k % 8) ≤ 2 ^ 7 := Nat.pow_le_pow_right (by decide) (by omega)
  have hx : (bs.getD k 0).toNat * 2 ^ (7 - k % 8) < 256 := by
    rcases (show (bs.getD k 0).toNat = 0 ∨ (bs.getD k 0).toNat = 1 by omega) with h | h <;> rw [h] <;> omega
  have hy : (out.getD (k / 8) 0).toNat ||| (bs.getD k 0).toNat * 2 ^ (7 - k % 8) < 2 ^ 8 := Nat.or_lt_two_pow hc hx
  refine ⟨k / 8, k % 8, _, _, _, _, rfl, by omega, ?_, by omega, ?_, by omega, hc, hb, ?_, u8_or_nat _ _ hc hx, hx, hy, rfl, rfl, ⟨rfl, ?_⟩⟩
  · rw [Int.tdiv_eq_ediv_of_nonneg (by omega)]; omega
  · rw [Int.tmod_eq_emod_of_nonneg (by omega)]; omega
  · rw [IntKind.wrap_u8']
    have : ((bs.getD k 0).toNat : Int) * 2 ^ (7 - k % 8) = (((bs.getD k 0).toNat * 2 ^ (7 - k % 8) : Nat) : Int) := by simp
    rw [this]
    omega
  · rw [UInt8.toNat_ofNat']
    exact Nat.mod_eq_of_lt hy
set_option maxRecDepth 100000 in
set_option maxHeartbeats 2000000 in
theorem text_some (g cap : Nat) (bs : List UInt8) (w : World) (hcap : bs.length ≤ cap) (hm : cap ≤ maxLen) (hn : bs.length ≤ 6000) (hg : g < w.heap.size) (hb : ∀ i, i < bs.length → w.cell? ⟨g, i, none⟩ = some (byteV (bs.getD i 0))) (hbb : ∀ i, (bs.getD i 0).toNat < 2) :
    Calls Try.prog 65 #[.slice (some ⟨g, 0, none⟩) bs.length cap] w fun e w' => e = .returned (.string ⟨(textK bs bs.length).toArray⟩) ∧ Below w.heap.size w w' := by
  obtain ⟨i0, hi, hz0, hz1, hz2⟩ := info_parts info_u8
  obtain ⟨n, hne⟩ : ∃ n, n = bs.length := ⟨_, rfl⟩
  obtain ⟨M, hM⟩ : ∃ M, M = (n + 7) / 8 := ⟨_, rfl⟩
  have hM1 : ((n : Int) + 8 - 1) / 8 = (M : Int) := by omega
  have hM2 : ((n : Int) + 7) / 8 = (M : Int) := by omega
  have hM3 : ((n : Int) + 8 - 1).tdiv 8 = (M : Int) := by rw [Int.tdiv_eq_ediv_of_nonneg (by omega)]; omega
  have hML : M ≤ 751 := by omega
  rw [← hne]
  have HNE := hide hne
  rw [← hne] at hcap hn
  have HM := hide hM
  clear hne hM
  unfold maxLen at hm
  go_enter Try.func65, Try.ntmps65
  go_wp2_with (at_make; refine wpList_make_full _ rfl _ _ _ rfl w.heap.size 5 i0 (.int .u8 0) 1 Try.underlying22 hi hz0 hz1 .i64 .i64 _ _ M rfl rfl rfl rfl (by rw [hz2]; omega) (by unfold maxLen; omega) (Nat.le_refl _) ?_; intro w1 hown1 hgrow1)
  go_loopw [14] (fun iv wr => ∃ k : Nat, iv = .int .i64 (k : Int) ∧ k ≤ n ∧ wr.ownsRow w.heap.size 5 1 (.slice (some ⟨w.heap.size, 0, none⟩) M M) M ((textK bs k).map byteV) ∧ Below w.heap.size w wr) (fun iv _ => n - (intOf iv).toNat)
  case atStart =>
    refine ⟨0, rfl, Nat.zero_le _, ?_, below_grown (Below.refl _ _) (Nat.le_refl _) hgrow1 (by simp)⟩
    have e0 : (textK bs 0).map byteV = (madeCells (Value.int .u8 0).cells (M * 1)).toList := by
      rw [textK, ← unhide HNE, ← unhide HM]
      rw [made_bytes, List.map_replicate]
      rfl
    rw [e0]
    exact hown1
  case round =>
    obtain ⟨k, rfl, hk, hown, hbel⟩ := hrel
    have hsz := own_lt hown
    by_cases hlt : k < n
    · obtain ⟨J, m, c, b, x, y, F⟩ := text_facts bs k (textK bs k) (hbb k)
      obtain ⟨hJ, hm8, e1, e2, e3, e4, hc, hb2, hsh, hor, hx, hy, HC, HB, HY⟩ := F
      have hJM : J < M := by have := unhide HM; have := unhide hJ; omega
      have tl := textK_length bs k
      have hc0 : wr.cell? ⟨g, k, none⟩ = some (.int .u8 (b : Int)) := by
        rw [unhide HB]
        exact (hbel.cell (p := ⟨g, k, none⟩) hg).trans (hb k (by have := unhide HNE; omega))
      have hd0 : wr.cell? ⟨w.heap.size, J, none⟩ = some (.int .u8 (c : Int)) := by
        rw [hown.cellAt J (by omega), unhide HC, List.getElem?_map]
        have hJl : J < (textK bs k).length := by rw [tl]; have := unhide HM; have := unhide HNE; omega
        rw [List.getD_eq_getElem?_getD, List.getElem?_eq_getElem hJl]
        rfl
      have hf0 := hown.frozenAt J
      clear tl
      go_wp2_with fail
      go_region
      all_goals
        have O := hide (show (wr.setCell ⟨w.heap.size, J, none⟩ (.int .u8 (y : Int))).drew.ownsRow w.heap.size 5 1 (.slice (some ⟨w.heap.size, 0, none⟩) M M) M ((textK bs (k + 1)).map byteV) by
          have o1 := (hown.stored J (.int .u8 (y : Int))).1.drew
          have ey : Value.int .u8 (y : Int) = byteV (UInt8.ofNat y) := by unfold byteV; rw [(unhide HY).2]
          rw [ey, ← List.map_set, (unhide HY).1] at o1
          rw [ey]
          exact o1)
        have R := (hbel.setCell (p := ⟨w.heap.size, J, none⟩) (Nat.le_refl _) (.int .u8 (y : Int))).drew
        clear hown hc0 hd0 hf0 hbel
        go_wp2
        go_roundw
        case rel => exact ⟨k + 1, by go_num, by omega, unhide O, R⟩
        case measure => simp [intOf]; omega
    · obtain rfl : k = n := by omega
      have hcv := conv_owned hown
      go_wp2
      go_ret
      exact ⟨ret_string (by rw [unhide HNE]), hbel⟩
set_option maxRecDepth 100000 in
theorem text_nil (w : World) : Calls Try.prog 65 #[.slice none 0 0] w fun e w' => e = .returned (.string ⟨(textK [] 0).toArray⟩) ∧ Below w.heap.size w w' := by
  obtain ⟨i0, hi, hz0, hz1, hz2⟩ := info_parts info_u8
  go_enter Try.func65, Try.ntmps65
  go_wp2_with (at_make; refine wpList_make_full _ rfl _ _ _ rfl w.heap.size 5 i0 (.int .u8 0) 1 Try.underlying22 hi hz0 hz1 .i64 .i64 _ _ 0 rfl rfl rfl rfl (by rw [hz2]; omega) (by unfold maxLen; omega) (Nat.le_refl _) ?_; intro w1 hown1 hgrow1)
  go_loopw [14] (fun iv wr => iv = .int .i64 0 ∧ wr = w1) (fun _ _ => 0)
  case atStart => exact ⟨rfl, rfl⟩
  case round =>
    obtain ⟨rfl, rfl⟩ := hrel
    rw [made_bytes] at hown1
    have hcv := conv_owned (l := []) hown1
    go_wp2
    go_ret
    exact ⟨rfl, below_grown (Below.refl _ _) (Nat.le_refl _) hgrow1 (by simp)⟩
theorem text_own {base : Nat} {v : Value} {bs : List UInt8} {w : World} (h : w.ownsRow base 5 1 v bs.length (bs.map byteV)) (hn : bs.length ≤ 6000) (hbb : ∀ i, (bs.getD i 0).toNat < 2) :
    Calls Try.prog 65 #[v] w fun e w' => e = .returned (.string ⟨(textK bs bs.length).toArray⟩) ∧ Below w.heap.size w w' := by
  have h' := h
  rcases h'.2 with ⟨rfl, h2⟩ | ⟨g, cap, cur, rfl, hb, hg, h3, h4, h5, h6⟩
  · obtain rfl : bs = [] := List.eq_nil_of_length_eq_zero h2
    exact text_nil w
  · have hlt : g < w.heap.size := by
      rcases Nat.lt_or_ge g w.heap.size with hl | hl
      · exact hl
      · rw [Array.getElem?_eq_none hl] at hg; cases hg
    refine text_some g cap bs w h3 h4 hn hlt (fun i hi => ?_) hbb
    rw [h.cellAt i (by omega), List.getElem?_map, List.getElem?_eq_getElem hi, List.getD_eq_getElem?_getD, List.getElem?_eq_getElem hi]
    rfl
end Go.Proofs.Ytkaepjngmgicaaa.BitPut
