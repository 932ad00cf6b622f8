/- What HexGet answers, of the program and of the model: the same text and the same bool, for every text of at most 2^32 bytes; FnExactHexGet returns true. -/
import Derived.Test.YtkaepjngmgicaaaHex
import Derived.Lib.Bytealg
import Derived.Lib.Walk
namespace Go.Proofs.Ytkaepjngmgicaaa.HexGet
open Go.RowKit
attribute [local go_sem ↓] Go.wp_at_zero Go.wp_at_succ
set_option maxHeartbeats 1000000 in
set_option maxRecDepth 100000 in
theorem lite_index (s : ByteArray) (c : Int) (w : World) :
    Calls Try.prog 87 #[.string s, .int .u8 c] w fun e w' => e = .returned (.int .i64 (Lib.indexByte s.data.toList c.toNat.toUInt8)) ∧ w' = w := by
  go_enter Try.func87, Try.ntmps87
  go_wp2
  rw [run_callFunc_extern Try.func90 (by kernel_rfl) (by kernel_rfl) (by kernel_rfl) (e := Extern.BytealgIndexByte.indexByte) (by kernel_rfl), Lib.run_indexByteString]
  simp only [Result.andThen]
  rw [Oper.upon_value]
  go_wp2
  go_ret
  exact ⟨rfl, rfl⟩
theorem figs_index : ∀ n : Fin 256, Lib.indexByte Hex.figs.data.toList (UInt8.ofNat n.val) = HexMath.val (UInt8.ofNat n.val) := by decide +kernel
theorem figs_index' (b : UInt8) : Lib.indexByte Hex.figs.data.toList ((b.toNat : Int).toNat.toUInt8) = HexMath.val b := by
  have h := figs_index ⟨b.toNat, b.toNat_lt⟩
  simp only [UInt8.ofNat_toNat] at h
  simpa using h
theorem index_fig (b : UInt8) (w : World) :
    Calls Try.prog 74 #[.string ⟨#[48, 49, 50, 51, 52, 53, 54, 55, 56, 57, 97, 98, 99, 100, 101, 102]⟩, .int .u8 (b.toNat : Int)] w fun e w' => e = .returned (.int .i64 (HexMath.val b)) ∧ w' = w := by
  have h := figs_index' b
  unfold Hex.figs at h
  have H : Hid (Lib.indexByte (⟨#[48, 49, 50, 51, 52, 53, 54, 55, 56, 57, 97, 98, 99, 100, 101, 102]⟩ : ByteArray).data.toList ((b.toNat : Int).toNat.toUInt8) = HexMath.val b) := h
  clear h
  go_enter Try.func74, Try.ntmps74
  go_wp2_with (go_at_call 87; refine (lite_index _ _ _).mono ?_; rintro e w' ⟨rfl, rfl⟩)
  go_ret
  exact ⟨ret_int (by simpa using H.out), rfl⟩
theorem figure (b : UInt8) (w : World) : Calls Try.prog 76 #[.int .u8 (b.toNat : Int)] w fun e w' => e = .returned (.int .i64 (HexMath.val b)) ∧ w' = w := by
  obtain ⟨n, hn⟩ : ∃ n, n = b.toNat := ⟨_, rfl⟩
  have hl : n < 256 := by rw [hn]; exact b.toNat_lt
  have H : Hid (HexMath.val b = if 48 ≤ n ∧ n ≤ 57 then (n : Int) - 48 else if 97 ≤ n ∧ n ≤ 102 then (n : Int) - 87 else -1) := by rw [hn]; rfl
  rw [← hn]
  clear hn
  rcases (show n < 48 ∨ (48 ≤ n ∧ n ≤ 57) ∨ (57 < n ∧ n < 97) ∨ (97 ≤ n ∧ n ≤ 102) ∨ 102 < n from by omega) with h | ⟨h, h'⟩ | ⟨h, h'⟩ | ⟨h, h'⟩ | h
  all_goals
    go_enter Try.func76, Try.ntmps76
    go_wp2
    go_ret
    refine ⟨ret_int ?_, rfl⟩
    rw [H.out]
    first
    | (rw [if_neg (by omega), if_neg (by omega)])
    | (rw [if_pos (by omega)])
    | (rw [if_neg (by omega), if_pos (by omega)]; omega)
/-- what is read: the text, if all are figures and their number is even -/
def out (l : List UInt8) : List UInt8 := if HexMath.hexOk l = true then HexMath.dec l else []
theorem ok_odd {l : List UInt8} (h : l.length % 2 = 1) : HexMath.hexOk l = false := by
  unfold HexMath.hexOk
  rw [show (l.length % 2 == 0) = false from by rw [h]; rfl, Bool.false_and]
theorem ok_bad {l : List UInt8} {c : UInt8} (hm : c ∈ l) (h : HexMath.val c < 0) : HexMath.hexOk l = false := by
  unfold HexMath.hexOk
  have : l.all HexMath.figOk = false := by
    rw [List.all_eq_false]
    exact ⟨c, hm, by unfold HexMath.figOk; simp; omega⟩
  rw [this, Bool.and_false]
theorem out_no {l : List UInt8} (h : HexMath.hexOk l = false) : out l = [] := by unfold out; rw [h]; rfl
theorem out_yes {l : List UInt8} (h : HexMath.hexOk l = true) : out l = HexMath.dec l := by unfold out; rw [if_pos h]
theorem ret_pair {a b : List UInt8} {x y : Bool} (h : a = b) (h' : x = y) : Ending.returned (.tuple #[.string ⟨a.toArray⟩, .bool x]) = .returned (.tuple #[.string ⟨b.toArray⟩, .bool y]) := by rw [h, h']
/-- a round's two bytes, as letters -/
theorem bytes_at (s : ByteArray) (k : Nat) (h : 2 * k + 1 < s.size) : ∃ b c : UInt8,
    (∀ W, (Instr.index 9 (.string s) (.int .i64 (2 * (k : Int)))).run Try.prog W = .ok (.int .u8 (b.toNat : Int)) W) ∧
    (∀ W, (Instr.index 9 (.string s) (.int .i64 (2 * (k : Int) + 1))).run Try.prog W = .ok (.int .u8 (c.toNat : Int)) W) ∧
    Hid (b ∈ s.data.toList) ∧ Hid (c ∈ s.data.toList) ∧
    Hid (HexMath.dec (s.data.toList.take (2 * (k + 1))) = HexMath.dec (s.data.toList.take (2 * k)) ++ [HexMath.two b c]) ∧
    Hid ((s.data.toList.take (2 * k)).all HexMath.figOk = true → HexMath.figOk b = true → HexMath.figOk c = true → (s.data.toList.take (2 * (k + 1))).all HexMath.figOk = true) := by
  have hl : s.data.toList.length = s.size := by simp
  refine ⟨s.data.toList[2 * k]'(by omega), s.data.toList[2 * k + 1]'(by omega), fun W => ?_, fun W => ?_, List.getElem_mem _, List.getElem_mem _, HexMath.dec_step _ k (by omega), ?_⟩
  · rw [run_index_string W _ s .i64 _ Try.underlying9, dif_pos ⟨by omega, by omega⟩]
    have e : (2 * (k : Int)).toNat = 2 * k := by omega
    simp only [e]
    rfl
  · rw [run_index_string W _ s .i64 _ Try.underlying9, dif_pos ⟨by omega, by omega⟩]
    have e : (2 * (k : Int) + 1).toNat = 2 * k + 1 := by omega
    simp only [e]
    rfl
  · intro h1 h2 h3
    have e1 : s.data.toList.take (2 * k + 1 + 1) = s.data.toList.take (2 * k + 1) ++ [s.data.toList[2 * k + 1]'(by omega)] := List.take_succ_eq_append_getElem (by omega)
    have e2 : s.data.toList.take (2 * k + 1) = s.data.toList.take (2 * k) ++ [s.data.toList[2 * k]'(by omega)] := List.take_succ_eq_append_getElem (by omega)
    show (s.data.toList.take (2 * k + 1 + 1)).all HexMath.figOk = true
    rw [e1, e2, List.all_append, List.all_append, h1]
    simp only [List.all_cons, List.all_nil, Bool.and_true, Bool.true_and, Bool.and_eq_true]
    exact ⟨h2, h3⟩
theorem byteV_two {b c : UInt8} (hb : 0 ≤ HexMath.val b) (hc : 0 ≤ HexMath.val c) : byteV (HexMath.two b c) = .int .u8 (HexMath.val b * 16 + HexMath.val c) := by
  unfold byteV; rw [HexMath.two_toNat hb hc]
set_option maxRecDepth 100000 in
set_option maxHeartbeats 1000000 in
theorem impl_even (s : ByteArray) (w : World) (hs : s.size ≤ 4294967296) (he : s.size % 2 = 0) :
    Calls Try.prog 37 #[.string s] w fun e w' => e = .returned (.tuple #[.string ⟨(out s.data.toList).toArray⟩, .bool (HexMath.hexOk s.data.toList)]) ∧ Below w.heap.size w w' := by
  obtain ⟨i0, hi, hz0, hz1, hz2⟩ := info_parts info_u8
  go_enter Try.func37, Try.ntmps37
  go_wp2_with (at_make; refine wpList_make_own _ rfl _ _ _ rfl w.heap.size 5 i0 (.int .u8 0) 1 Try.underlying22 hi hz0 hz1 .i64 .i64 _ (s.size / 2) rfl rfl (by omega) (by rw [hz2]; omega) (by unfold maxLen; omega) (Nat.le_refl _) ?_; intro w1 hown1 hgrow1)
  go_loopw [4, 5] (fun v i wr => ∃ k : Nat, 2 * k ≤ s.size ∧ i = .int .i64 (2 * (k : Int)) ∧ wr.ownsRow w.heap.size 5 1 v k ((HexMath.dec (s.data.toList.take (2 * k))).map byteV) ∧ Below w.heap.size w wr ∧ (s.data.toList.take (2 * k)).all HexMath.figOk = true) (fun _ i _ => s.size - (intOf i).toNat)
  case atStart => exact ⟨0, Nat.zero_le _, rfl, hown1, below_grown (Below.refl _ _) (Nat.le_refl _) hgrow1 (by simp), rfl⟩
  case round =>
    obtain ⟨k, hk, rfl, hown, hbel, hall⟩ := hrel
    have hsz := hbel.size
    have HA : Hid ((s.data.toList.take (2 * k)).all HexMath.figOk = true) := hall
    clear hall
    by_cases hlt : 2 * k < s.size
    · obtain ⟨b, c, hx1, hx2, hb, hc, hd, hall2⟩ := bytes_at s k (by omega)
      have vb := HexMath.val_lt b
      have vc := HexMath.val_lt c
      have vb' := HexMath.val_ge b
      have vc' := HexMath.val_ge c
      rcases (show HexMath.val b < 0 ∨ (0 ≤ HexMath.val b ∧ HexMath.val c < 0) ∨ (0 ≤ HexMath.val b ∧ 0 ≤ HexMath.val c) from by omega) with h1 | ⟨h1, h2⟩ | ⟨h1, h2⟩
      · have HF := hide (ok_bad hb.out h1)
        go_wp2_with (go_at_call 74; refine (index_fig _ _).mono ?_; rintro e w' ⟨rfl, rfl⟩)
        go_ret2
        exact ⟨ret_pair (out_no (unhide HF)).symm (unhide HF).symm, hbel⟩
      · have HF := hide (ok_bad hc.out h2)
        go_wp2_with (go_at_call 74; refine (index_fig _ _).mono ?_; rintro e w' ⟨rfl, rfl⟩)
        go_ret2
        exact ⟨ret_pair (out_no (unhide HF)).symm (unhide HF).symm, hbel⟩
      · have hbv := byteV_two h1 h2
        have HB : Hid (byteV (HexMath.two b c) = .int .u8 (HexMath.val b * 16 + HexMath.val c)) := hbv
        clear hbv
        go_wp2_with (first | (go_at_call 74; refine (index_fig _ _).mono ?_; rintro e w' ⟨rfl, rfl⟩) | (at_builtin; refine wpList_append_lies _ rfl _ _ _ rfl w.heap.size 5 i0 _ 1 1 Try.underlying22 hi hz0 hz1 hz2 rfl (by omega) _ k _ rfl (hown.alloc _) _ 1 1 [.int .u8 (HexMath.val b * 16 + HexMath.val c)] rfl rfl (World.news_of_block (cs := #[.int .u8 (HexMath.val b * 16 + HexMath.val c)]) (t := 5) (fr := (0, 0)) (heap_alloc_new _ _)) (by simp [Value.oneCell']) (by omega) (by unfold maxLen; omega) (by omega) (by simp; omega) _ rfl ?_; intro gg cap w2 hown2 hgrow hat hlt2))
        have R := below_grown (hbel.alloc hsz _) (by simp; omega) hgrow (own_ge hown)
        have R2 : w2.ownsRow w.heap.size 5 1 (.slice (some ⟨gg, 0, none⟩) (k + 1) cap) (k + 1) ((HexMath.dec (s.data.toList.take (2 * (k + 1)))).map byteV) := by rw [hd.out, List.map_append, List.map_cons, List.map_nil, HB.out]; exact hown2
        have R3 := hall2.out HA.out (by unfold HexMath.figOk; simpa using h1) (by unfold HexMath.figOk; simpa using h2)
        have HR3 := hide R3
        clear hown2 hgrow hown hx1 hx2 hall2 HA hd HB R3
        go_wp2
        go_roundw
        case rel => exact ⟨k + 1, by omega, by go_num, R2, R, unhide HR3⟩
        case measure => simp [intOf]; omega
    · have hcv := conv_owned hown
      have hok : HexMath.hexOk s.data.toList = true := by
        have := HA.out
        rw [List.take_of_length_le (by simp; omega)] at this
        unfold HexMath.hexOk
        rw [this]
        simp [he]
      have HK := hide hok
      clear hok
      go_wp2
      go_ret2
      exact ⟨ret_pair (by rw [out_yes (unhide HK), List.take_of_length_le (by simp; omega)]) (unhide HK).symm, hbel⟩
theorem impl_odd (s : ByteArray) (w : World) (hs : s.size ≤ 4294967296) (he : s.size % 2 = 1) :
    Calls Try.prog 37 #[.string s] w fun e w' => e = .returned (.tuple #[.string ⟨(out s.data.toList).toArray⟩, .bool (HexMath.hexOk s.data.toList)]) ∧ Below w.heap.size w w' := by
  have HF := hide (ok_odd (l := s.data.toList) (by simpa using he))
  go_enter Try.func37, Try.ntmps37
  go_wp2
  go_ret2
  exact ⟨ret_pair (out_no (unhide HF)).symm (unhide HF).symm, Below.refl _ _⟩
theorem impl_get (s : ByteArray) (w : World) (hs : s.size ≤ 4294967296) :
    Calls Try.prog 37 #[.string s] w fun e w' => e = .returned (.tuple #[.string ⟨(out s.data.toList).toArray⟩, .bool (HexMath.hexOk s.data.toList)]) ∧ Below w.heap.size w w' := by
  rcases (show s.size % 2 = 0 ∨ s.size % 2 = 1 from by omega) with h | h
  · exact impl_even s w hs h
  · exact impl_odd s w hs h
set_option maxRecDepth 100000 in
set_option maxHeartbeats 1000000 in
theorem spec_get (s : ByteArray) (w : World) (hs : s.size ≤ 4294967296) :
    Calls Try.prog 40 #[.string s] w fun e w' => e = .returned (.tuple #[.string ⟨(out s.data.toList).toArray⟩, .bool (HexMath.hexOk s.data.toList)]) ∧ Below w.heap.size w w' := by
  obtain ⟨i0, hi, hz0, hz1, hz2⟩ := info_parts info_u8
  go_enter Try.func40, Try.ntmps40
  go_wp2
  go_loopw [4, 5] (fun v i wr => ∃ k : Nat, 2 * k ≤ s.size ∧ i = .int .i64 (2 * (k : Int)) ∧ wr.ownsRow w.heap.size 5 1 v k ((HexMath.dec (s.data.toList.take (2 * k))).map byteV) ∧ Below w.heap.size w wr ∧ (s.data.toList.take (2 * k)).all HexMath.figOk = true) (fun _ i _ => s.size - (intOf i).toNat)
  case atStart => exact ⟨0, Nat.zero_le _, rfl, own_empty (Nat.le_refl _), (Below.refl _ _).alloc (Nat.le_refl _) _, rfl⟩
  case round =>
    obtain ⟨k, hk, rfl, hown, hbel, hall⟩ := hrel
    have hsz := hbel.size
    have HA : Hid ((s.data.toList.take (2 * k)).all HexMath.figOk = true) := hall
    clear hall
    by_cases hlt : 2 * k + 1 < s.size
    · obtain ⟨b, c, hx1, hx2, hb, hc, hd, hall2⟩ := bytes_at s k (by omega)
      have vb := HexMath.val_lt b
      have vc := HexMath.val_lt c
      have vb' := HexMath.val_ge b
      have vc' := HexMath.val_ge c
      rcases (show HexMath.val b < 0 ∨ (0 ≤ HexMath.val b ∧ HexMath.val c < 0) ∨ (0 ≤ HexMath.val b ∧ 0 ≤ HexMath.val c) from by omega) with h1 | ⟨h1, h2⟩ | ⟨h1, h2⟩
      · have HF := hide (ok_bad hb.out h1)
        go_wp2_with (go_at_call 76; refine (figure _ _).mono ?_; rintro e w' ⟨rfl, rfl⟩)
        go_ret2
        exact ⟨ret_pair (out_no (unhide HF)).symm (unhide HF).symm, hbel⟩
      · have HF := hide (ok_bad hc.out h2)
        go_wp2_with (go_at_call 76; refine (figure _ _).mono ?_; rintro e w' ⟨rfl, rfl⟩)
        go_ret2
        exact ⟨ret_pair (out_no (unhide HF)).symm (unhide HF).symm, hbel⟩
      · have hbv := byteV_two h1 h2
        have HB : Hid (byteV (HexMath.two b c) = .int .u8 (HexMath.val b * 16 + HexMath.val c)) := hbv
        clear hbv
        go_wp2_with (first | (go_at_call 76; refine (figure _ _).mono ?_; rintro e w' ⟨rfl, rfl⟩) | (at_builtin; refine wpList_append_lies _ rfl _ _ _ rfl w.heap.size 5 i0 _ 1 1 Try.underlying22 hi hz0 hz1 hz2 rfl (by omega) _ k _ rfl (hown.alloc _) _ 1 1 [.int .u8 (HexMath.val b * 16 + HexMath.val c)] rfl rfl (World.news_of_block (cs := #[.int .u8 (HexMath.val b * 16 + HexMath.val c)]) (t := 5) (fr := (0, 0)) (heap_alloc_new _ _)) (by simp [Value.oneCell']) (by omega) (by unfold maxLen; omega) (by omega) (by simp; omega) _ rfl ?_; intro gg cap w2 hown2 hgrow hat hlt2))
        have R := below_grown (hbel.alloc hsz _) (by simp; omega) hgrow (own_ge hown)
        have R2 : w2.ownsRow w.heap.size 5 1 (.slice (some ⟨gg, 0, none⟩) (k + 1) cap) (k + 1) ((HexMath.dec (s.data.toList.take (2 * (k + 1)))).map byteV) := by rw [hd.out, List.map_append, List.map_cons, List.map_nil, HB.out]; exact hown2
        have R3 := hall2.out HA.out (by unfold HexMath.figOk; simpa using h1) (by unfold HexMath.figOk; simpa using h2)
        have HR3 := hide R3
        clear hown2 hgrow hown hx1 hx2 hall2 HA hd HB R3
        go_wp2
        go_roundw
        case rel => exact ⟨k + 1, by omega, by go_num, R2, R, unhide HR3⟩
        case measure => simp [intOf]; omega
    · rcases (show s.size % 2 = 1 ∨ s.size % 2 = 0 from by omega) with he | he
      · have HF := hide (ok_odd (l := s.data.toList) (by simpa using he))
        go_wp2
        go_ret2
        exact ⟨ret_pair (out_no (unhide HF)).symm (unhide HF).symm, hbel⟩
      · have hcv := conv_owned hown
        have hok : HexMath.hexOk s.data.toList = true := by
          have := HA.out
          rw [List.take_of_length_le (by simp; omega)] at this
          unfold HexMath.hexOk
          rw [this]
          simp [he]
        have HK := hide hok
        clear hok
        go_wp2
        go_ret2
        exact ⟨ret_pair (by rw [out_yes (unhide HK), List.take_of_length_le (by simp; omega)]) (unhide HK).symm, hbel⟩
end Go.Proofs.Ytkaepjngmgicaaa.HexGet
namespace Go.Proofs.Ytkaepjngmgicaaa
open Go.RowKit
theorem fnExactHexGet.walk (a0 : ByteArray) (w : World) (w0 : a0.size ≤ maxLen) :
    Calls Try.prog 16 #[.string a0] w fun e w' => e = .returned (.bool true) ∧ Below w.heap.size w w' := by
  unfold maxLen at w0
  by_cases hb : 1048576 < a0.size
  · go_enter Try.func16, Try.ntmps16
    go_wp2
    go_ret
    exact ⟨rfl, Below.refl _ _⟩
  · go_enter Try.func16, Try.ntmps16
    go_wp2_with (first | (go_at_call 40; refine (HexGet.spec_get _ _ (by omega)).mono ?_; rintro e w1 ⟨rfl, hb1⟩) | (go_at_call 37; refine (HexGet.impl_get _ _ (by omega)).mono ?_; rintro e w2 ⟨rfl, hb2⟩))
    go_ret
    exact ⟨by simp, hb1.trans (hb2.mono hb1.size)⟩
end Go.Proofs.Ytkaepjngmgicaaa
