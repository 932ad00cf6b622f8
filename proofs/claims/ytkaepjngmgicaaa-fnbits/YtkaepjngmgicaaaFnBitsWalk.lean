/- FnBits returns true at every text of bytes. -/
import Derived.Test.YtkaepjngmgicaaaDrawBits
import Derived.Test.YtkaepjngmgicaaaBitBack
import Derived.Test.YtkaepjngmgicaaaBitSpec3
import Derived.Test.YtkaepjngmgicaaaFnBitsGetWalk
namespace Go.Proofs.Ytkaepjngmgicaaa
open Go.RowKit Samp SampMath Draw
set_option linter.unusedVariables false
theorem smp_reads {w : World} {g n cp : Nat} {zs : List S} (h : Smp w (.slice (some ⟨g, 0, none⟩) n cp) zs) : n = zs.length ∧ zs.length ≤ cp ∧ cp ≤ maxLen ∧ g < w.heap.size ∧ Reads w g 0 zs := by
  rcases h with ⟨h, _⟩ | ⟨b, off, cap, h, h1, h2, h3, h4⟩
  · cases h
  · simp only [Value.slice.injEq, Option.some.injEq, Addr.mk.injEq, and_true] at h
    obtain ⟨⟨rfl, rfl⟩, rfl, rfl⟩ := h
    exact ⟨rfl, h1, h2, h3, h4⟩
set_option maxRecDepth 100000 in
set_option maxHeartbeats 4000000 in
theorem fnBits.walk (a0 : Option Addr) (len0 cap0 : Nat) (z0 : List Int) (w : World) (w0 : IsRow .u8 w a0 len0 cap0 z0) :
    Calls Try.prog 3 #[.slice a0 len0 cap0] w fun e w' => e = .returned (.bool true) ∧ Below w.heap.size w w' := by
  have l0 := (row_bytes w0)
  have c0 : len0 ≤ 9223372036854775807 := by have := l0.1; have := l0.2.1; unfold maxLen at this; omega
  have H0 := hide (draw_bitsput w w w0 (Below.refl _ _))
  clear l0 w0
  by_cases hb0 : 1048576 < len0
  · go_enter Try.func3, Try.ntmps3
    go_wp2
    go_ret
    exact ⟨rfl, Below.refl _ _⟩
  go_enter Try.func3, Try.ntmps3
  go_wp2_with fail
  refine (unhide H0).mono ?_
  rintro e W ⟨zs, g, cp, rfl, hl, o1, b1⟩
  obtain ⟨-, s1, s2, s3, s4⟩ := smp_reads (BitLaw.smp_of_own o1)
  clear o1
  have HI := hide (fun (V : World) (hV : Below W.heap.size W V) => BitPut.impl_some g 0 cp zs V s1 s2 (by have := hV.size; omega) (s4.below hV s3))
  have HS := hide (fun (V : World) (hV : Below W.heap.size W V) => BitPut.spec_some g 0 cp zs V s1 s2 (by have := hV.size; omega) (s4.below hV s3))
  obtain ⟨n, hn⟩ : ∃ n, n = zs.length := ⟨_, rfl⟩
  rw [← hn] at HI HS hl s1 ⊢
  have HN := hide hn
  unfold maxLen at s2
  clear hn
  go_wp2_with fail
  refine (unhide HI _ (Below.refl _ _)).mono ?_
  rintro e W2 ⟨X, rfl, hX, b2⟩
  have HX := hide hX
  clear hX
  go_wp2_with fail
  refine (unhide HS _ b2).mono ?_
  rintro e W3 ⟨Y, rfl, hY, b3⟩
  obtain rfl : X = Y := by
    rcases unhide HX with ⟨g1, e1⟩ | ⟨g1, e1⟩ <;> rcases hY with ⟨g2, e2⟩ | ⟨g2, e2⟩
    · rw [e1, e2]
    · exact absurd g1 g2
    · exact absurd g2 g1
    · rw [e1, e2]
  clear hY
  have b3' := b2.trans (b3.mono b2.size)
  clear b2 b3 HI
  by_cases hX0 : X = []
  · subst hX0
    go_wp2_with fail
    refine (unhide HS _ b3').mono ?_
    rintro e W4 ⟨Y, rfl, hY, b4⟩
    obtain rfl : Y = [] := by
      rcases unhide HX with ⟨g1, e1⟩ | ⟨g1, e1⟩ <;> rcases hY with ⟨g2, e2⟩ | ⟨g2, e2⟩
      · rw [e2, ← e1]
      · exact e2
      · exact absurd g2 g1
      · exact e2
    have b4' := b3'.trans (b4.mono b3'.size)
    go_wp2
    go_ret
    exact ⟨rfl, b1.trans (b4'.mono b1.size)⟩
  · obtain ⟨hgood, hXe⟩ : BitPut.Good zs ∧ X = BitPut.textK (BitPut.bitsTo zs n) (BitPut.bitsTo zs n).length := by
      rcases unhide HX with h | ⟨_, h⟩
      · exact h
      · exact absurd h hX0
    have hl1 : (X == []) = false := by simp [hX0]
    have hl2 : X.isEmpty = false := by simp [hX0]
    obtain ⟨L, hL⟩ : ∃ L, L = (BitPut.bitsTo zs n).length := ⟨_, rfl⟩
    have hL6 : L ≤ 6000 := by
      rw [hL, unhide HN]
      rcases (show zs.length = 0 ∨ 0 < zs.length by omega) with h | h
      · rw [h]; simp [BitPut.bitsTo]
      · have := (hgood (zs.length - 1) (by omega)).2
        rwa [show zs.length - 1 + 1 = zs.length by omega] at this
    have hXl : X.length = (L + 7) / 8 := by rw [hXe, BitPut.textK_length, hL]
    have hXs : (⟨X.toArray⟩ : ByteArray).size = X.length := by simp [ByteArray.size]
    have HK := hide (fun k (hk : k < n) => (⟨BitPut.okz_parts (hgood k (by have := unhide HN; omega)).1, BitPut.bitsTo_succ zs k (by have := unhide HN; omega), BitPut.bitsTo_le zs (k + 1) (by have := unhide HN; omega), BitPut.bitsTo_le zs k (by have := unhide HN; omega)⟩ : (∃ t q : Nat, at' zs k = ((t : Int), (q : Int)) ∧ 1 ≤ q ∧ q ≤ 32 ∧ t < 2 ^ q) ∧ BitPut.bitsTo zs (k + 1) = BitPut.bitsTo zs k ++ BitPut.bitsK (at' zs k).1.toNat (at' zs k).2.toNat (at' zs k).2.toNat ∧ (BitPut.bitsTo zs (k + 1)).length ≤ (BitPut.bitsTo zs zs.length).length ∧ (BitPut.bitsTo zs k).length ≤ (BitPut.bitsTo zs zs.length).length))
    have HXE := hide hXe
    have HL := hide hL
    have HLen := hide hXl
    clear hXe hL hgood hX0 HX HS hXl
    go_wp2_with fail
    go_loopw [5, 6] (fun av iv wr => ∃ k A : Nat, iv = .int .i64 (k : Int) ∧ k ≤ n ∧ av = .int .i64 (A : Int) ∧ A ≤ L ∧ Hid (A = (BitPut.bitsTo zs k).length) ∧ Below W.heap.size W wr) (fun _ iv _ => n - (intOf iv).toNat)
    case atStart => exact ⟨0, 0, rfl, Nat.zero_le _, rfl, Nat.zero_le _, by show _ = _; simp [BitPut.bitsTo], b3'⟩
    case round =>
      clear b3'
      obtain ⟨k, A, rfl, hk, rfl, hA, HA, hbel⟩ := hrel
      have hsz := hbel.size
      by_cases hlt : k < n
      · have hc0 : wr.cell? ⟨g, 0 + k * 2, none⟩ = some (.int .i64 (at' zs k).1) := (hbel.cell (p := ⟨g, _, none⟩) s3).trans (s4 k (by have := unhide HN; omega)).1
        have hc1 : wr.cell? ⟨g, 0 + k * 2 + 1, none⟩ = some (.int .i64 (at' zs k).2) := (hbel.cell (p := ⟨g, _, none⟩) s3).trans (s4 k (by have := unhide HN; omega)).2
        rw [Nat.zero_add] at hc0 hc1
        obtain ⟨⟨t, q, hz, hq1, hq2, htq⟩, hsucc, hle, -⟩ := unhide HK k hlt
        rw [hz] at hc0 hc1 hsucc
        dsimp only at hc0 hc1
        have hsl : (BitPut.bitsTo zs (k + 1)).length = A + q := by
          rw [hsucc, List.length_append, BitPut.bitsK_length, ← unhide HA]
          simp
        have hAq : A + q ≤ L := by
          have h1 := unhide HL
          rw [unhide HN] at h1
          rw [h1, ← hsl]
          exact hle
        have ht32 : t < 4294967296 := by
          have h : 2 ^ q ≤ 2 ^ 32 := Nat.pow_le_pow_right (by decide) hq2
          omega
        have hback : BitMath.num X A q = t := by
          rw [unhide HXE, unhide HA, unhide HN]
          exact BitPut.put_get zs k t q (by have := unhide HN; omega) hz htq
        have HG := hide (bits_yes ⟨X.toArray⟩ A q wr (by rw [hXs]; have := unhide HLen; omega) hq1 hq2 (by rw [hXs]; have := unhide HLen; omega))
        rw [show (⟨X.toArray⟩ : ByteArray).data.toList = X from rfl, hback] at HG
        have HSL := hide hsl
        have hk0 : (0 : Int) ≤ (k : Int) := Int.natCast_nonneg _
        have hk1 : (k : Int) < (n : Int) := by omega
        clear hback hle hsucc hsl htq hz
        go_wp2_with fail
        refine (unhide HG).mono ?_
        rintro e W5 ⟨rfl, b5⟩
        have R := hbel.trans (b5.mono hsz)
        have d0 := (b5.cell (p := ⟨g, k * 2, none⟩) (show g < _ by omega)).trans hc0
        have d1 := (b5.cell (p := ⟨g, k * 2 + 1, none⟩) (show g < _ by omega)).trans hc1
        clear hc0 hc1 b5 hbel
        go_wp2
        go_roundw
        case rel => exact ⟨k + 1, A + q, by go_num, by omega, by go_num, hAq, (unhide HSL).symm, R⟩
        case measure => simp [intOf]; omega
      · obtain rfl : k = n := by omega
        have hAL : A = L := by rw [unhide HA, unhide HL]
        subst hAL
        obtain ⟨M, hM⟩ : ∃ M, M = (A + 7) / 8 := ⟨_, rfl⟩
        have hM1 : ((A : Int) + 7) / 8 = (M : Int) := by omega
        have hM2 : ((A : Int) + 7).tdiv 8 = (M : Int) := by rw [Int.tdiv_eq_ediv_of_nonneg (by omega)]; omega
        have hXM : X.length = M := by rw [unhide HLen, hM]
        clear hM
        go_wp2
        go_ret
        exact ⟨ret_bool (by simp), b1.trans (hbel.mono b1.size)⟩
end Go.Proofs.Ytkaepjngmgicaaa
