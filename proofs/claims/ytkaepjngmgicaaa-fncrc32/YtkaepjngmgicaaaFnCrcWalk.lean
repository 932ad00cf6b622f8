/- FnCrc32 returns true at every two texts of bytes. -/
import Derived.Test.YtkaepjngmgicaaaDraw3
import Derived.Test.YtkaepjngmgicaaaCrc
namespace Go.Proofs.Ytkaepjngmgicaaa
open Go.RowKit Draw
set_option linter.unusedVariables false
theorem draw_crc {a : Option Addr} {len cap : Nat} {zs : List Int} (w0 w : World) (h : IsRow .u8 w0 a len cap zs) (hB : Below w0.heap.size w0 w) :
    Calls Try.prog 32 #[.slice a len cap] w fun e w' => ∃ l : List UInt8, e = .returned (.string ⟨l.toArray⟩) ∧ l.length ≤ 11 ∧ Below w.heap.size w w' := by
  have HO := hide (open_any w0 w h hB)
  clear h hB
  go_enter Try.func32, Try.ntmps32
  go_wp2_with fail
  refine (unhide HO).mono ?_
  rintro e w1 ⟨rfl, r1, b1⟩
  go_wp2_with fail
  refine (bytes_any _ 0 _ r1 (by omega)).mono ?_
  rintro e w2 ⟨l, p', rfl, hl, -, -, g2⟩
  have b2 := b1.trans (below_of_grown g2 (Nat.le_refl _) b1.size)
  go_wp2
  go_ret
  exact ⟨l, rfl, hl, b2⟩
theorem crc_123 (w : World) : Calls Try.prog 33 #[.string ⟨#[49, 50, 51, 52, 53, 54, 55, 56, 57]⟩] w fun e w' => e = .returned (.int .i64 3421780262) ∧ w' = w := by
  have h := Crc.impl_crc ⟨#[49, 50, 51, 52, 53, 54, 55, 56, 57]⟩ w (by unfold maxLen; decide)
  refine h.mono ?_
  rintro e w' ⟨rfl, rfl⟩
  exact ⟨ret_int (by rw [show (⟨#[49, 50, 51, 52, 53, 54, 55, 56, 57]⟩ : ByteArray).data.toList = [49, 50, 51, 52, 53, 54, 55, 56, 57] from rfl, CrcMath.crc_known]; rfl), rfl⟩
theorem set_split (l : List UInt8) (K : Nat) (hK : K < l.length) (c' : UInt8) : ∃ a b, l = a ++ l[K] :: b ∧ l.set K c' = a ++ c' :: b := by
  refine ⟨l.take K, l.drop (K + 1), ?_, ?_⟩
  · rw [← List.drop_eq_getElem_cons hK, List.take_append_drop]
  · rw [List.set_eq_take_append_cons_drop, if_pos hK]
theorem conv_bytes (l : List UInt8) (W : World) : ∃ (cap : Nat) (C : Array Value),
    (convert 9 22 (.string ⟨l.toArray⟩)).run Try.prog W = .ok (.slice (some ⟨W.heap.size, 0, none⟩) l.length cap) (W.drew.alloc (.cells C 5 (C.size, C.size + 1))) ∧
    (∀ j (h : j < l.length), C[j]? = some (byteV l[j])) ∧ l.length ≤ C.size := by
  refine ⟨_, _, run_bytes_of_string W 9 22 5 ⟨l.toArray⟩ Try.underlying9 Try.underlying22 Try.underlying5, fun j h => ?_, ?_⟩
  · unfold bytesRow byteV
    simp [Array.getElem?_append, h]
  · unfold bytesRow
    simp
theorem flip_byte (c : UInt8) (D : Nat) (hD : 1 ≤ D ∧ D < 256) : ∃ c' : UInt8, c'.toNat = c.toNat ^^^ D ∧ c ≠ c' := by
  have hx : c.toNat ^^^ D < 2 ^ 8 := Nat.xor_lt_two_pow c.toNat_lt (by omega)
  have h1 : (UInt8.ofNat (c.toNat ^^^ D)).toNat = c.toNat ^^^ D := by
    rw [UInt8.toNat_ofNat']
    exact Nat.mod_eq_of_lt hx
  refine ⟨UInt8.ofNat (c.toNat ^^^ D), h1, fun h => ?_⟩
  rw [← h] at h1
  have h2 : c.toNat ^^^ c.toNat = c.toNat ^^^ (c.toNat ^^^ D) := by rw [← h1]
  rw [← Nat.xor_assoc, Nat.xor_self, Nat.zero_xor] at h2
  omega
theorem conv_back (l : List UInt8) (K : Nat) (c' : UInt8) (B cap : Nat) (W2 : World)
    (h2 : ∀ j (h : j < (l.set K c').length), W2.cell? ⟨B, j, none⟩ = some (.int .u8 ((l.set K c')[j].toNat : Int))) :
    (convert 22 9 (.slice (some ⟨B, 0, none⟩) l.length cap)).run Try.prog W2 = .ok (.string ⟨(l.set K c').toArray⟩) W2 := by
  have h3 := run_convert_bytes_back (P := Try.prog) W2 22 9 5 ⟨B, 0, none⟩ cap (l.set K c') Try.underlying22 Try.underlying5 Try.underlying9 (fun j hj => by
    have := h2 j hj
    rw [← this]
    by_cases h0 : j = 0
    · subst h0; rfl
    · simp [Addr.add, h0])
  rw [List.length_set] at h3
  exact h3
set_option maxRecDepth 100000 in
set_option maxHeartbeats 2000000 in
theorem fnCrc32.walk (a0 : Option Addr) (len0 cap0 : Nat) (z0 : List Int) (a1 : Option Addr) (len1 cap1 : Nat) (z1 : List Int) (w : World) (w0 : IsRow .u8 w a0 len0 cap0 z0) (w1 : IsRow .u8 w a1 len1 cap1 z1) :
    Calls Try.prog 6 #[.slice a0 len0 cap0, .slice a1 len1 cap1] w fun e w' => e = .returned (.bool true) ∧ Below w.heap.size w w' := by
  have l0 := (row_bytes w0)
  have l1 := (row_bytes w1)
  have c0 : len0 ≤ 9223372036854775807 := by have := l0.1; have := l0.2.1; unfold maxLen at this; omega
  have c1 : len1 ≤ 9223372036854775807 := by have := l1.1; have := l1.2.1; unfold maxLen at this; omega
  have H0 := hide (draw_crc w w w0 (Below.refl _ _))
  clear l0 l1 w0 w1
  by_cases hb0 : 1048576 < len0
  · go_enter Try.func6, Try.ntmps6
    go_wp2
    go_ret
    exact ⟨rfl, Below.refl _ _⟩
  by_cases hb1 : 1048576 < len1
  · go_enter Try.func6, Try.ntmps6
    go_wp2
    go_ret
    exact ⟨rfl, Below.refl _ _⟩
  go_enter Try.func6, Try.ntmps6
  go_wp2_with fail
  refine (unhide H0).mono ?_
  rintro e W ⟨l, rfl, hl, b1⟩
  go_wp2_with fail
  refine (Crc.impl_crc _ _ (by unfold maxLen; simp [ByteArray.size]; omega)).mono ?_
  rintro e W' ⟨rfl, h⟩
  subst h
  go_wp2_with fail
  refine (Crc.spec_crc _ _ (by unfold maxLen; simp [ByteArray.size]; omega)).mono ?_
  rintro e W' ⟨rfl, h⟩
  subst h
  have hcl := CrcMath.crc_lt l
  obtain ⟨N, hN⟩ : ∃ N, N = CrcMath.crc l := ⟨_, rfl⟩
  have e0 : (⟨l.toArray⟩ : ByteArray).data.toList = l := rfl
  rw [← hN] at hcl ⊢
  have HN := hide hN
  clear hN e0
  go_wp2_with fail
  refine (crc_123 _).mono ?_
  rintro e W' ⟨rfl, h⟩
  subst h
  by_cases hl0 : l = []
  · subst hl0
    have hN0 : N = 0 := by rw [unhide HN]; exact CrcMath.crc_nil
    subst hN0
    go_wp2
    go_ret
    exact ⟨rfl, b1⟩
  · obtain ⟨cap, C, hconv, hC, hCs⟩ := conv_bytes l W'
    have hlp : 0 < l.length := List.length_pos_iff.2 hl0
    have HC := hide hC
    clear hC
    have hl1 : (l == []) = false := by simp [hl0]
    have hl2 : l.isEmpty = false := by simp [hl0]
    have hmod : (len1 : Int) % (l.length : Int) < (l.length : Int) := Int.emod_lt_of_pos _ (by omega)
    have hmod0 : (0 : Int) ≤ (len1 : Int) % (l.length : Int) := Int.emod_nonneg _ (by omega)
    have hK : len1 % l.length < l.length := Nat.mod_lt _ hlp
    obtain ⟨D, hDe⟩ : ∃ D, D = 1 + len0 % 255 := ⟨_, rfl⟩
    have hD : 1 ≤ D ∧ D < 256 := by omega
    obtain ⟨c', hc', hne⟩ := flip_byte l[len1 % l.length] D hD
    have hcell : (W'.alloc (.cells C 5 (C.size, C.size + 1))).cell? ⟨W'.heap.size, len1 % l.length, none⟩ = some (.int .u8 (l[len1 % l.length].toNat : Int)) := by
      rw [World.cell?_alloc_mark, (unhide HC) _ hK]; rfl
    have hfr : (W'.alloc (.cells C 5 (C.size, C.size + 1))).frozen? ⟨W'.heap.size, len1 % l.length, none⟩ = false := by
      rw [World.frozen?_alloc_mark]; simp; omega
    have hx : bits .xor .u8 (l[len1 % l.length].toNat : Int) (1 + (len0 : Int) % 255) = (c'.toNat : Int) := by
      have e1 : (1 + (len0 : Int) % 255) = ((D : Nat) : Int) := by omega
      rw [e1, u8_xor_nat _ _ l[len1 % l.length].toNat_lt hD.2, hc']
    have hback := conv_back l (len1 % l.length) c' W'.heap.size cap
    obtain ⟨c, hce⟩ : ∃ c, c = l[len1 % l.length] := ⟨_, rfl⟩
    rw [← hce] at hc' hne hcell hx
    have HE := hide hce
    have HB := hide hback
    have HX := hide (And.intro hc' hne)
    clear hback hc' hne hce
    go_wp2_with fail
    rw [unhide HB _ (fun j hj => by
      have hj' : j < l.length := by simpa using hj
      rw [World.cell?_drew]
      by_cases hjk : j = len1 % l.length
      · subst hjk
        rw [World.cell?_setCell_same _ _ _ hcell]
        simp
      · rw [World.cell?_setCell_other _ _ _ _ (by intro h; injection h with h1 h2; exact hjk h2.symm), World.cell?_alloc_mark, (unhide HC) j hj']
        rw [List.getElem_set_ne (fun h => hjk h.symm)]
        rfl)]
    go_wp2_with fail
    refine (Crc.impl_crc _ _ (by unfold maxLen; simp [ByteArray.size]; omega)).mono ?_
    rintro e W2 ⟨rfl, h⟩
    subst h
    have e0 : (⟨(l.set (len1 % l.length) c').toArray⟩ : ByteArray).data.toList = l.set (len1 % l.length) c' := rfl
    rw [e0]
    obtain ⟨M, hM⟩ : ∃ M, M = CrcMath.crc (l.set (len1 % l.length) c') := ⟨_, rfl⟩
    have hMN : M ≠ N := by
      rw [hM, unhide HN]
      obtain ⟨p, q, h1, h2⟩ := set_split l _ hK c'
      rw [← unhide HE] at h1
      rw [h2]
      intro h
      have := CrcMath.crc_turned p q c c' (unhide HX).2
      rw [← h1] at this
      exact this h.symm
    have hMl : M < 4294967296 := by rw [hM]; exact CrcMath.crc_lt _
    rw [← hM]
    clear hM
    go_wp2
    go_ret
    have hs := b1.size
    exact ⟨ret_bool (by simp; omega), ((b1.alloc hs _).setCell (p := ⟨W'.heap.size, _, none⟩) hs _).drew⟩
end Go.Proofs.Ytkaepjngmgicaaa
