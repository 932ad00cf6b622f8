/- What Hex answers. -/
import Derived.Test.YtkaepjngmgicaaaOwn
import Derived.Test.YtkaepjngmgicaaaHexMath
namespace Go.Proofs.Ytkaepjngmgicaaa.Hex
open Go.RowKit
attribute [local go_sem ↓] Go.wp_at_zero Go.wp_at_succ
theorem take_snoc (s : ByteArray) (k : Nat) (h : k < s.size) : s.data.toList.take (k + 1) = s.data.toList.take k ++ [s[k]] := by
  rw [List.take_succ_eq_append_getElem (by simpa using h)]; rfl
def figs : ByteArray := ⟨#[48, 49, 50, 51, 52, 53, 54, 55, 56, 57, 97, 98, 99, 100, 101, 102]⟩
theorem figs_get : ∀ n : Fin 16, (figs[n.val]'(by have := n.isLt; exact this)).toNat = (HexMath.fig n.val).toNat := by decide
theorem index_figs (n : Nat) (h : n < 16) (W : World) : (Instr.index 9 (.string figs) (.int .u8 (n : Int))).run Try.prog W = .ok (.int .u8 ((HexMath.fig n).toNat : Int)) W := by
  have hs : figs.size = 16 := rfl
  rw [run_index_string W _ figs .u8 n Try.underlying9, dif_pos ⟨by omega, by rw [hs]; omega⟩]
  have := figs_get ⟨n, h⟩
  simp only [Int.toNat_natCast]
  exact congrArg (fun x : Nat => Result.ok (Value.int .u8 (x : Int)) W) this
/-- what a round of Hex meets, its numbers as letters -/
theorem round_facts (s : ByteArray) (k : Nat) (hlt : k < s.size) : ∃ X q m : Nat,
    Hid (HexMath.hexOf (s.data.toList.take (k + 1)) = HexMath.hexOf (s.data.toList.take k) ++ [HexMath.fig q, HexMath.fig m]) ∧
    (∀ W, (Instr.index 9 (.string s) (.int .i64 k)).run Try.prog W = .ok (.int .u8 (X : Int)) W) ∧ X < 256 ∧
    (X : Int).tdiv 16 = (q : Int) ∧ (X : Int) / 16 = (q : Int) ∧ (X : Int).tmod 16 = (m : Int) ∧ (X : Int) % 16 = (m : Int) ∧ IntKind.u8.wrap (q : Int) = (q : Int) ∧ IntKind.u8.wrap (m : Int) = (m : Int) ∧
    (∀ W, (Instr.index 9 (.string figs) (.int .u8 (q : Int))).run Try.prog W = .ok (.int .u8 ((HexMath.fig q).toNat : Int)) W) ∧
    (∀ W, (Instr.index 9 (.string figs) (.int .u8 (m : Int))).run Try.prog W = .ok (.int .u8 ((HexMath.fig m).toNat : Int)) W) := by
  have hc := s[k].toNat_lt
  refine ⟨s[k].toNat, s[k].toNat / 16, s[k].toNat % 16, ?_, fun W => ?_, by omega, ?_, by omega, ?_, by omega, ?_, ?_, index_figs _ (by omega), index_figs _ (by omega)⟩
  · show _ = _
    rw [take_snoc s k hlt, HexMath.hexOf_snoc]
  · rw [run_index_string W _ s .i64 k Try.underlying9, dif_pos ⟨by omega, by omega⟩]; simp
  · rw [Int.tdiv_eq_ediv_of_nonneg (by omega)]; omega
  · rw [Int.tmod_eq_emod_of_nonneg (by omega)]; omega
  · rw [IntKind.wrap_u8']; omega
  · rw [IntKind.wrap_u8']; omega
set_option maxRecDepth 100000 in
set_option maxHeartbeats 1000000 in
theorem impl_hex (s : ByteArray) (w : World) (hs : s.size ≤ 4294967296) :
    Calls Try.prog 36 #[.string s] w fun e w' => e = .returned (.string ⟨(HexMath.hexOf s.data.toList).toArray⟩) ∧ Below w.heap.size w w' := by
  obtain ⟨i0, hi, hz0, hz1, hz2⟩ := info_parts info_u8
  go_enter Try.func36, Try.ntmps36
  go_wp2_with (at_make; refine wpList_make_own _ rfl _ _ _ rfl w.heap.size 5 i0 (.int .u8 0) 1 Try.underlying22 hi hz0 hz1 .i64 .i64 _ (2 * s.size) rfl rfl (by omega) (by rw [hz2]; omega) (by unfold maxLen; omega) (Nat.le_refl _) ?_; intro w1 hown1 hgrow1)
  go_loopw [3, 11] (fun v i wr => ∃ k : Nat, k ≤ s.size ∧ i = .int .i64 k ∧ wr.ownsRow w.heap.size 5 1 v (2 * k) ((HexMath.hexOf (s.data.toList.take k)).map byteV) ∧ Below w.heap.size w wr) (fun _ i _ => s.size - (intOf i).toNat)
  case atStart => exact ⟨0, Nat.zero_le _, rfl, hown1, below_grown (Below.refl _ _) (Nat.le_refl _) hgrow1 (by simp)⟩
  case round =>
    obtain ⟨k, hk, rfl, hown, hbel⟩ := hrel
    by_cases hlt : k < s.size
    · have hk0 : (0 : Int) ≤ (k : Int) := Int.natCast_nonneg _
      have hk1 : (k : Int) < (s.size : Int) := by omega
      have hsz := hbel.size
      obtain ⟨X, q, m, hts, hix, hX, hq1, hq2, hm1, hm2, hqw, hmw, hih, hil⟩ := round_facts s k hlt
      unfold figs at hih hil
      go_wp2_with fail
      go_region_held3 (fun _ => True) (trivial) ((refine step_append_lies _ (by rfl) _ _ _ (by rfl) w.heap.size 5 i0 _ 1 1 Try.underlying22 hi hz0 hz1 hz2 rfl (by omega) _ (2 * k) _ (by rfl) ((hown.alloc _).drew) ⟨wr.heap.size, 0, none⟩ 2 2 [byteV (HexMath.fig q), byteV (HexMath.fig m)] (by rfl) (by rfl) (World.news_of_block (cs := #[byteV (HexMath.fig q), byteV (HexMath.fig m)]) (t := 5) (fr := (0, 0)) (heap_alloc_new wr _)) (by simp [Value.oneCell', byteV]) (by omega) (by unfold maxLen; omega) (by omega) (by simp; omega) (wr.heap.size + 1) (by simp) ?_; intro gg cap w2 hown2 hgrow hat hlt2))
      all_goals
        have R := below_grown ((hbel.alloc hsz _).drew) (by simp; omega) hgrow (own_ge hown)
        have R2 : w2.ownsRow w.heap.size 5 1 (.slice (some ⟨gg, 0, none⟩) (2 * (k + 1)) cap) (2 * (k + 1)) ((HexMath.hexOf (s.data.toList.take (k + 1))).map byteV) := by rw [hts.out, List.map_append]; exact hown2
        clear hown2 hgrow hown hts hix hih hil
        go_wp2
        go_roundw
        case rel => exact ⟨k + 1, by omega, by go_num, R2, R⟩
        case measure => simp [intOf]; omega
    · have hcv := conv_owned hown
      go_wp2
      go_ret
      exact ⟨ret_string (by rw [List.take_of_length_le (by simp; omega)]), hbel⟩
set_option maxRecDepth 100000 in
set_option maxHeartbeats 1000000 in
theorem spec_hex (s : ByteArray) (w : World) (hs : s.size ≤ 4294967296) :
    Calls Try.prog 38 #[.string s] w fun e w' => e = .returned (.string ⟨(HexMath.hexOf s.data.toList).toArray⟩) ∧ Below w.heap.size w w' := by
  obtain ⟨i0, hi, hz0, hz1, hz2⟩ := info_parts info_u8
  go_enter Try.func38, Try.ntmps38
  go_wp2
  go_loopw [4, 5] (fun v i wr => ∃ k : Nat, k ≤ s.size ∧ i = .int .i64 k ∧ wr.ownsRow w.heap.size 5 1 v (2 * k) ((HexMath.hexOf (s.data.toList.take k)).map byteV) ∧ Below w.heap.size w wr) (fun _ i _ => s.size - (intOf i).toNat)
  case atStart => exact ⟨0, Nat.zero_le _, rfl, own_empty (Nat.le_refl _), (Below.refl _ _).alloc (Nat.le_refl _) _⟩
  case round =>
    obtain ⟨k, hk, rfl, hown, hbel⟩ := hrel
    by_cases hlt : k < s.size
    · have hk0 : (0 : Int) ≤ (k : Int) := Int.natCast_nonneg _
      have hk1 : (k : Int) < (s.size : Int) := by omega
      have hsz := hbel.size
      obtain ⟨X, q, m, hts, hix, hX, hq1, hq2, hm1, hm2, hqw, hmw, hih, hil⟩ := round_facts s k hlt
      unfold figs at hih hil
      go_wp2_with fail
      go_region_held3 (fun _ => True) (trivial) ((refine step_append_lies _ (by rfl) _ _ _ (by rfl) w.heap.size 5 i0 _ 1 1 Try.underlying22 hi hz0 hz1 hz2 rfl (by omega) _ (2 * k) _ (by rfl) ((hown.alloc _).drew) ⟨wr.heap.size, 0, none⟩ 2 2 [byteV (HexMath.fig q), byteV (HexMath.fig m)] (by rfl) (by rfl) (World.news_of_block (cs := #[byteV (HexMath.fig q), byteV (HexMath.fig m)]) (t := 5) (fr := (0, 0)) (heap_alloc_new wr _)) (by simp [Value.oneCell', byteV]) (by omega) (by unfold maxLen; omega) (by omega) (by simp; omega) (wr.heap.size + 1) (by simp) ?_; intro gg cap w2 hown2 hgrow hat hlt2))
      all_goals
        have R := below_grown ((hbel.alloc hsz _).drew) (by simp; omega) hgrow (own_ge hown)
        have R2 : w2.ownsRow w.heap.size 5 1 (.slice (some ⟨gg, 0, none⟩) (2 * (k + 1)) cap) (2 * (k + 1)) ((HexMath.hexOf (s.data.toList.take (k + 1))).map byteV) := by rw [hts.out, List.map_append]; exact hown2
        clear hown2 hgrow hown hts hix hih hil
        go_wp2
        go_roundw
        case rel => exact ⟨k + 1, by omega, by go_num, R2, R⟩
        case measure => simp [intOf]; omega
    · have hcv := conv_owned hown
      go_wp2
      go_ret
      exact ⟨ret_string (by rw [List.take_of_length_le (by simp; omega)]), hbel⟩
end Go.Proofs.Ytkaepjngmgicaaa.Hex
namespace Go.Proofs.Ytkaepjngmgicaaa
open Go.RowKit
theorem fnExactHex.walk (a0 : ByteArray) (w : World) (w0 : a0.size ≤ maxLen) :
    Calls Try.prog 15 #[.string a0] w fun e w' => e = .returned (.bool true) ∧ Below w.heap.size w w' := by
  unfold maxLen at w0
  by_cases hb : 1048576 < a0.size
  · go_enter Try.func15, Try.ntmps15
    go_wp2
    go_ret
    exact ⟨rfl, Below.refl _ _⟩
  · go_enter Try.func15, Try.ntmps15
    go_wp2_with (first | (go_at_call 38; refine (Hex.spec_hex _ _ (by omega)).mono ?_; rintro e w1 ⟨rfl, hb1⟩) | (go_at_call 36; refine (Hex.impl_hex _ _ (by omega)).mono ?_; rintro e w2 ⟨rfl, hb2⟩))
    go_ret
    exact ⟨by simp, hb1.trans (hb2.mono hb1.size)⟩
end Go.Proofs.Ytkaepjngmgicaaa
