/- FnBitsGet returns true at every text of bytes. -/
import Derived.Test.YtkaepjngmgicaaaDraw4
import Derived.Test.YtkaepjngmgicaaaBitGetWalk
namespace Go.Proofs.Ytkaepjngmgicaaa
open Go.RowKit Draw
set_option linter.unusedVariables false
theorem num_parts (l : List UInt8) (p : Nat) : ∀ k, BitMath.num l p (k + 1) = BitMath.num l p 1 * 2 ^ k + BitMath.num l (p + 1) k
  | 0 => by simp [BitMath.num]
  | k + 1 => by
    have ih := num_parts l p k
    rw [show BitMath.num l p (k + 1 + 1) = BitMath.num l p (k + 1) * 2 + BitMath.bit l (p + (k + 1)) from rfl, ih, show BitMath.num l (p + 1) (k + 1) = BitMath.num l (p + 1) k * 2 + BitMath.bit l (p + 1 + k) from rfl, show p + (k + 1) = p + 1 + k by omega, Nat.pow_succ, Nat.add_mul, Nat.mul_assoc, Nat.add_assoc]
set_option maxRecDepth 100000 in
set_option maxHeartbeats 2000000 in
theorem draw_bitsget {a : Option Addr} {len cap : Nat} {zs : List Int} (w0 w : World) (h : IsRow .u8 w0 a len cap zs) (hB : Below w0.heap.size w0 w) :
    Calls Try.prog 24 #[.slice a len cap] w fun e w' => ∃ (l : List UInt8) (p q : Int), e = .returned (.tuple #[.string ⟨l.toArray⟩, .int .i64 p, .int .i64 q]) ∧ l.length ≤ 11 ∧ -1 ≤ p ∧ p ≤ 100 ∧ 0 ≤ q ∧ q ≤ 33 ∧ Below w.heap.size w w' := by
  have HO := hide (open_any w0 w h hB)
  clear h hB
  go_enter Try.func24, Try.ntmps24
  go_wp2_with fail
  refine (unhide HO).mono ?_
  rintro e w1 ⟨rfl, r1, b1⟩
  go_wp2_with fail
  refine (bytes_any _ 0 _ r1 (by omega)).mono ?_
  rintro e w2 ⟨l, p', rfl, hl, hp', r2, g2⟩
  have b2 := b1.trans (below_of_grown g2 (Nat.le_refl _) b1.size)
  clear g2 r1 b1
  go_wp2_with fail
  refine (pick_any _ p' _ _ r2 (by omega) (by omega)).mono ?_
  rintro e w3 ⟨x, rfl, x0, x1, -, r3, g3⟩
  have x2 : x < 70 := x1 (by omega)
  have b3 := b2.trans (below_of_grown g3 (Nat.le_refl _) b2.size)
  clear g3 r2 b2 x1
  go_wp2_with fail
  have hone := one_new w.heap.size (p' + 1) [1, 8, 7, 32, 33, 0, 13] _ r3 (by omega) (by simp) (by simp)
  simp only [List.map_cons, List.map_nil, List.length_cons, List.length_nil, Nat.zero_add, Nat.reduceAdd] at hone
  refine hone.mono ?_
  clear hone
  rintro e w4 ⟨z, rfl, hz, r4, g4⟩
  have z0 : 0 ≤ z ∧ z ≤ 33 := by
    simp only [List.mem_cons, List.not_mem_nil, or_false] at hz
    omega
  have b4 := b3.trans (below_of_grown g4 (Nat.le_refl _) b3.size)
  clear hz
  go_wp2
  refine bodyPost_ret (results_tmp3 rfl _ _ _) rfl ?_
  exact ⟨l, x - 1, z, rfl, hl, by omega, by omega, z0.1, z0.2, b4⟩
theorem bits_yes_int (s : ByteArray) (a b : Int) (p q : Nat) (ha : a = p) (hb : b = q) (w : World) (hs : s.size ≤ 751) (hq1 : 1 ≤ q) (hq : q ≤ 32) (hp : p + q ≤ 8 * s.size) :
    Calls Try.prog 23 #[.string s, .int .i64 a, .int .i64 b] w fun e w' => e = .returned (.tuple #[.int .i64 (BitMath.num s.data.toList p q), .bool true]) ∧ Below w.heap.size w w' := by
  subst ha hb
  exact bits_yes s p q w hs hq1 hq hp
set_option maxRecDepth 100000 in
set_option maxHeartbeats 2000000 in
theorem fnBitsGet.walk (a0 : Option Addr) (len0 cap0 : Nat) (z0 : List Int) (w : World) (w0 : IsRow .u8 w a0 len0 cap0 z0) :
    Calls Try.prog 4 #[.slice a0 len0 cap0] w fun e w' => e = .returned (.bool true) ∧ Below w.heap.size w w' := by
  have l0 := (row_bytes w0)
  have c0 : len0 ≤ 9223372036854775807 := by have := l0.1; have := l0.2.1; unfold maxLen at this; omega
  have H0 := hide (draw_bitsget w w w0 (Below.refl _ _))
  clear l0 w0
  by_cases hb0 : 1048576 < len0
  · go_enter Try.func4, Try.ntmps4
    go_wp2
    go_ret
    exact ⟨rfl, Below.refl _ _⟩
  go_enter Try.func4, Try.ntmps4
  go_wp2_with fail
  refine (unhide H0).mono ?_
  rintro e W ⟨l, a1, a2, rfl, hl, p1, p2, q1, q2, b1⟩
  obtain ⟨s, hse⟩ : ∃ s : ByteArray, s = ⟨l.toArray⟩ := ⟨_, rfl⟩
  have hs : s.size ≤ 11 := by rw [hse]; simpa [ByteArray.size] using hl
  rw [← hse]
  clear hse hl
  by_cases h : 1 ≤ a2 ∧ a2 ≤ 32 ∧ s.size ≤ 751 ∧ 0 ≤ a1 ∧ a1 + a2 ≤ 8 * s.size
  · obtain ⟨t1, t2, -, t4, t5⟩ := h
    obtain ⟨p, rfl⟩ := Int.eq_ofNat_of_zero_le t4
    obtain ⟨q, rfl⟩ := Int.eq_ofNat_of_zero_le (show 0 ≤ a2 by omega)
    have HA := hide (fun W => BitGet.spec_yes s p q W (by omega) (by omega) (by omega) (by omega))
    have HB := hide (fun W => bits_yes s p q W (by omega) (by omega) (by omega) (by omega))
    have HC := hide (fun W => bits_yes_int s p 1 p 1 rfl rfl W (by omega) (by omega) (by omega) (by omega))
    have HD := hide (fun (h : 1 < q) W => bits_yes_int s (p + 1) (q - 1) (p + 1) (q - 1) (by omega) (by omega) W (by omega) (by omega) (by omega) (by omega))
    have hn1 : BitMath.num s.data.toList p q < 4294967296 := BitMath.num_le _ _ _ (by omega)
    have hn2 : BitMath.num s.data.toList p 1 < 2 := BitMath.num_lt _ _ 1
    have hn3 : BitMath.num s.data.toList (p + 1) (q - 1) < 4294967296 := BitMath.num_le _ _ _ (by omega)
    have hn4 : BitMath.num s.data.toList p q = BitMath.num s.data.toList p 1 * 2 ^ (q - 1) + BitMath.num s.data.toList (p + 1) (q - 1) := by
      have := num_parts s.data.toList p (q - 1)
      rwa [show q - 1 + 1 = q by omega] at this
    have hn5 : q = 1 → BitMath.num s.data.toList p q = BitMath.num s.data.toList p 1 := fun h => by rw [h]
    generalize BitMath.num s.data.toList p q = N at *
    generalize BitMath.num s.data.toList p 1 = H1 at *
    generalize BitMath.num s.data.toList (p + 1) (q - 1) = L at *
    have HN4 := hide hn4
    have HN5 := hide hn5
    clear hn4 hn5
    go_wp2_with fail
    refine (unhide HB _).mono ?_
    rintro e W2 ⟨rfl, b2⟩
    have b2' := b1.trans (b2.mono b1.size)
    clear b2
    go_wp2_with fail
    refine (unhide HA _).mono ?_
    rintro e W3 ⟨rfl, h⟩
    subst h
    go_wp2_with fail
    refine (unhide HC _).mono ?_
    rintro e W4 ⟨rfl, b4⟩
    have b4' := b2'.trans (b4.mono b2'.size)
    clear b4
    by_cases hq : q = 1
    · have e1 := unhide HN5 hq
      subst hq
      subst e1
      go_wp2
      · go_ret
        exact ⟨rfl, b4'⟩
      · go_ret
        have hN : N = 0 ∨ N = 1 := by omega
        exact ⟨ret_bool (by rcases hN with h | h <;> subst h <;> rfl), b4'⟩
    · have hq1 : 1 < q := by omega
      go_wp2_with fail
      refine (unhide HD hq1 _).mono ?_
      rintro e W5 ⟨rfl, b5⟩
      have b5' := b4'.trans (b5.mono b4'.size)
      clear b5 b4' b2' b1
      go_wp2_with fail
      go_loopw [14, 15] (fun uv kv wr => ∃ k U : Nat, kv = .int .i64 (k : Int) ∧ 1 ≤ k ∧ k ≤ q ∧ uv = .int .i64 (U : Int) ∧ Hid (U = 2 ^ (k - 1)) ∧ wr = W5) (fun _ kv _ => q - (intOf kv).toNat)
      case atStart => exact ⟨1, 1, rfl, Nat.le_refl _, by omega, rfl, rfl, rfl⟩
      case round =>
        obtain ⟨k, U, rfl, hk1, hk2, rfl, hU, rfl⟩ := hrel
        have hU1 : U ≤ 2147483648 := by
          have h1 := unhide hU
          have h2 : 2 ^ (k - 1) ≤ 2 ^ 31 := Nat.pow_le_pow_right (by decide) (by omega)
          omega
        by_cases hkq : k < q
        · go_wp2
          go_roundw
          case rel => exact ⟨k + 1, 2 * U, by go_num, by omega, by omega, by go_num, by show _ = _; rw [unhide hU, show k + 1 - 1 = k - 1 + 1 by omega, Nat.pow_succ, Nat.mul_comm], trivial⟩
          case measure => simp [intOf]; omega
        · obtain rfl : k = q := by omega
          have hHU : H1 * U ≤ 2147483648 := by
            rcases (show H1 = 0 ∨ H1 = 1 by omega) with h | h <;> subst h <;> omega
          have e4 := unhide HN4
          rw [← unhide hU] at e4
          have E4 := hide e4
          clear e4
          go_wp2
          go_ret
          exact ⟨ret_bool (by rw [unhide E4]; simp), b5'⟩
  · have HA := hide (fun W => BitGet.spec_no s a1 a2 W (by unfold maxLen; omega) (by omega) (by omega) (by omega) (by omega) h)
    have HB := hide (fun W => bits_no s a1 a2 W (by unfold maxLen; omega) (by omega) (by omega) (by omega) (by omega) h)
    clear h
    go_wp2_with fail
    refine (unhide HB _).mono ?_
    rintro e W2 ⟨rfl, h⟩
    subst h
    go_wp2_with fail
    refine (unhide HA _).mono ?_
    rintro e W3 ⟨rfl, h⟩
    subst h
    go_wp2
    go_ret
    exact ⟨rfl, b1⟩
end Go.Proofs.Ytkaepjngmgicaaa
