/- FnHex returns true at every two texts of bytes. -/
import Derived.Test.YtkaepjngmgicaaaDraw4
import Derived.Test.YtkaepjngmgicaaaHexGet
namespace Go.Proofs.Ytkaepjngmgicaaa
open Go.RowKit Draw
set_option linter.unusedVariables false
theorem draw_hex {a : Option Addr} {len cap : Nat} {zs : List Int} (w0 w : World) (h : IsRow .u8 w0 a len cap zs) (hB : Below w0.heap.size w0 w) :
    Calls Try.prog 35 #[.slice a len cap] w fun e w' => ∃ l : List UInt8, e = .returned (.string ⟨l.toArray⟩) ∧ l.length ≤ 11 ∧ Below w.heap.size w w' := by
  have HO := hide (open_any w0 w h hB)
  clear h hB
  go_enter Try.func35, Try.ntmps35
  go_wp2_with fail
  refine (unhide HO).mono ?_
  rintro e w1 ⟨rfl, r1, b1⟩
  go_wp2_with fail
  refine (bytes_any _ 0 _ r1 (by omega)).mono ?_
  rintro e w2 ⟨l, p', rfl, hl, -, -, g2⟩
  have b2 := b1.trans (below_of_grown g2 (Nat.le_refl _) b1.size)
  go_wp2
  go_ret
  exact ⟨l, rfl, hl, b2⟩
theorem draw_hexget {a : Option Addr} {len cap : Nat} {zs : List Int} (w0 w : World) (h : IsRow .u8 w0 a len cap zs) (hB : Below w0.heap.size w0 w) :
    Calls Try.prog 39 #[.slice a len cap] w fun e w' => ∃ s : ByteArray, e = .returned (.string s) ∧ s.size ≤ 30 ∧ Below w.heap.size w w' := by
  have HO := hide (open_any w0 w h hB)
  clear h hB
  go_enter Try.func39, Try.ntmps39
  go_wp2_with fail
  refine (unhide HO).mono ?_
  rintro e w1 ⟨rfl, r1, b1⟩
  go_wp2_with fail
  refine (bytes_any _ 0 _ r1 (by omega)).mono ?_
  rintro e w2 ⟨l, p', rfl, hl, hp', r2, g2⟩
  have b2 := b1.trans (below_of_grown g2 (Nat.le_refl _) b1.size)
  go_wp2_with fail
  refine (Hex.spec_hex _ _ (by simp [ByteArray.size]; omega)).mono ?_
  obtain ⟨T, hT⟩ : ∃ T : ByteArray, T = ⟨(HexMath.hexOf l).toArray⟩ := ⟨_, rfl⟩
  have hTs : T.size ≤ 22 := by
    rw [hT]
    show (HexMath.hexOf l).toArray.size ≤ 22
    rw [List.size_toArray, HexMath.hexOf_length]
    omega
  rw [show (⟨(HexMath.hexOf (⟨l.toArray⟩ : ByteArray).data.toList).toArray⟩ : ByteArray) = T from hT.symm]
  clear hT
  rintro e w3 ⟨rfl, b3⟩
  have r3 := r2.below b3
  have b3' := b2.trans (b3.mono b2.size)
  go_wp2_with fail
  refine (cut_any _ p' T _ r3 (by omega) (by omega)).mono ?_
  rintro e w4 ⟨x, p2, rfl, hx, -, -, g4⟩
  have b4 := b3'.trans (below_of_grown g4 (Nat.le_refl _) b3'.size)
  go_wp2
  go_ret
  exact ⟨x, rfl, by omega, b4⟩
theorem hex_back (l : List UInt8) (hl : l.length ≤ 1000) (W : World) : Calls Try.prog 37 #[.string ⟨(HexMath.hexOf l).toArray⟩] W fun e w' => e = .returned (.tuple #[.string ⟨l.toArray⟩, .bool true]) ∧ Below W.heap.size W w' := by
  refine (HexGet.impl_get ⟨(HexMath.hexOf l).toArray⟩ W (by show (HexMath.hexOf l).toArray.size ≤ _; rw [List.size_toArray, HexMath.hexOf_length]; omega)).mono ?_
  rintro e w' ⟨rfl, h⟩
  refine ⟨?_, h⟩
  have e0 : (⟨(HexMath.hexOf l).toArray⟩ : ByteArray).data.toList = HexMath.hexOf l := rfl
  rw [e0, HexGet.out_yes (HexMath.hexOk_hexOf l), HexMath.dec_hexOf, HexMath.hexOk_hexOf]
theorem back_hex (s : ByteArray) (hs : s.size ≤ 1000) (ho : HexMath.hexOk s.data.toList = true) (W : World) : Calls Try.prog 36 #[.string ⟨(HexGet.out s.data.toList).toArray⟩] W fun e w' => e = .returned (.string s) ∧ Below W.heap.size W w' := by
  have e1 := HexGet.out_yes ho
  have e2 := HexMath.hexOf_dec _ ho
  have hlen : 2 * (HexMath.dec s.data.toList).length = s.size := by
    rw [← HexMath.hexOf_length, e2]; rfl
  rw [e1]
  refine (Hex.impl_hex ⟨(HexMath.dec s.data.toList).toArray⟩ W (by show (HexMath.dec s.data.toList).toArray.size ≤ _; rw [List.size_toArray]; omega)).mono ?_
  rintro e w' ⟨rfl, h⟩
  refine ⟨?_, h⟩
  have e0 : (⟨(HexMath.dec s.data.toList).toArray⟩ : ByteArray).data.toList = HexMath.dec s.data.toList := rfl
  rw [e0, e2]
theorem fnHex.walk (a0 : Option Addr) (len0 cap0 : Nat) (z0 : List Int) (a1 : Option Addr) (len1 cap1 : Nat) (z1 : List Int) (w : World) (w0 : IsRow .u8 w a0 len0 cap0 z0) (w1 : IsRow .u8 w a1 len1 cap1 z1) :
    Calls Try.prog 7 #[.slice a0 len0 cap0, .slice a1 len1 cap1] w fun e w' => e = .returned (.bool true) ∧ Below w.heap.size w w' := by
  have l0 := (row_bytes w0)
  have l1 := (row_bytes w1)
  have c0 : len0 ≤ 9223372036854775807 := by have := l0.1; have := l0.2.1; unfold maxLen at this; omega
  have c1 : len1 ≤ 9223372036854775807 := by have := l1.1; have := l1.2.1; unfold maxLen at this; omega
  have H0 := hide (draw_hex w w w0 (Below.refl _ _))
  have H1 := hide (fun W hW => draw_hexget w W w1 hW)
  clear l0 l1 w0 w1
  by_cases hb0 : 1048576 < len0
  · go_enter Try.func7, Try.ntmps7
    go_wp2
    go_ret
    exact ⟨rfl, Below.refl _ _⟩
  by_cases hb1 : 1048576 < len1
  · go_enter Try.func7, Try.ntmps7
    go_wp2
    go_ret
    exact ⟨rfl, Below.refl _ _⟩
  go_enter Try.func7, Try.ntmps7
  go_wp2_with fail
  refine (unhide H0).mono ?_
  rintro e W ⟨l, rfl, hl, b1⟩
  go_wp2_with fail
  refine (Hex.impl_hex _ _ (by simp [ByteArray.size]; omega)).mono ?_
  obtain ⟨T, hT⟩ : ∃ T : ByteArray, T = ⟨(HexMath.hexOf l).toArray⟩ := ⟨_, rfl⟩
  have hTs : T.size = 2 * l.length := by
    rw [hT]
    show (HexMath.hexOf l).toArray.size = _
    rw [List.size_toArray, HexMath.hexOf_length]
  have hls : (⟨l.toArray⟩ : ByteArray).size = l.length := by simp [ByteArray.size]
  rw [show (⟨(HexMath.hexOf (⟨l.toArray⟩ : ByteArray).data.toList).toArray⟩ : ByteArray) = T from hT.symm]
  have HB := hide (fun W => hex_back l (by omega) W)
  have HS := hide (fun W => Hex.spec_hex ⟨l.toArray⟩ W (by simp [ByteArray.size]; omega))
  rw [show (⟨(HexMath.hexOf (⟨l.toArray⟩ : ByteArray).data.toList).toArray⟩ : ByteArray) = T from hT.symm] at HS
  rw [← hT] at HB
  clear hT
  generalize (⟨l.toArray⟩ : ByteArray) = L at *
  rintro e W2 ⟨rfl, b2⟩
  have b2' := b1.trans (b2.mono b1.size)
  go_wp2_with fail
  refine (unhide HB _).mono ?_
  rintro e W3 ⟨rfl, b3⟩
  have b3' := b2'.trans (b3.mono b2'.size)
  clear b2 b3
  go_wp2_with fail
  refine (unhide HS _).mono ?_
  rintro e W4 ⟨rfl, b4⟩
  have b4' := b3'.trans (b4.mono b3'.size)
  clear b4 b3' b2' b1
  go_wp2_with fail
  refine (unhide H1 _ b4').mono ?_
  rintro e W5 ⟨s, rfl, hs, b5⟩
  have b5' := b4'.trans (b5.mono b4'.size)
  have HG := hide (fun W => HexGet.impl_get s W (by omega))
  have HT := hide (fun W => HexGet.spec_get s W (by omega))
  have HH := hide (fun ho W => back_hex s (by omega) ho W)
  generalize (⟨(HexGet.out s.data.toList).toArray⟩ : ByteArray) = O at *
  generalize HexMath.hexOk s.data.toList = B at *
  clear b5 b4'
  go_wp2_with fail
  refine (unhide HG _).mono ?_
  rintro e W6 ⟨rfl, b6⟩
  have b6' := b5'.trans (b6.mono b5'.size)
  clear b6 b5'
  go_wp2_with fail
  refine (unhide HT _).mono ?_
  rintro e W7 ⟨rfl, b7⟩
  have b7' := b6'.trans (b7.mono b6'.size)
  clear b7 b6'
  cases B
  · go_wp2
    go_ret
    exact ⟨rfl, b7'⟩
  · go_wp2_with fail
    refine (unhide HH trivial _).mono ?_
    rintro e W8 ⟨rfl, b8⟩
    have b8' := b7'.trans (b8.mono b7'.size)
    go_wp2
    go_ret
    exact ⟨rfl, b8'⟩
end Go.Proofs.Ytkaepjngmgicaaa
