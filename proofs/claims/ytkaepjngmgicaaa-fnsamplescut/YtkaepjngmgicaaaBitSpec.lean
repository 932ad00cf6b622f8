/- What spec.BitsPut answers: its parts. -/
import Derived.Test.YtkaepjngmgicaaaBitText
import Derived.Test.YtkaepjngmgicaaaBitOk
namespace Go.Proofs.Ytkaepjngmgicaaa.BitPut
open Go.RowKit Samp SampMath
set_option linter.unusedVariables false
attribute [local go_sem ↓] Go.wp_at_zero Go.wp_at_succ
theorem full_any (q : Nat) (w : World) (hq : q ≤ 32) : Calls Try.prog 62 #[.int .i64 q] w fun e w' => e = .returned (.int .i64 ((2 ^ q : Nat) : Int)) ∧ w' = w := by
  go_enter Try.func62, Try.ntmps62
  go_wp2_with fail
  go_loopw [3, 0] (fun nv iv wr => ∃ k P : Nat, iv = .int .i64 (k : Int) ∧ k ≤ q ∧ nv = .int .i64 (P : Int) ∧ Hid (P = 2 ^ (q - k)) ∧ wr = w) (fun _ iv _ => (intOf iv).toNat)
  case atStart => exact ⟨q, 1, rfl, Nat.le_refl _, rfl, by show _ = _; rw [Nat.sub_self, Nat.pow_zero], rfl⟩
  case round =>
    obtain ⟨k, P, rfl, hk, rfl, hP, rfl⟩ := hrel
    have hP1 : P ≤ 4294967296 := by
      have h1 := unhide hP
      have h2 : 2 ^ (q - k) ≤ 2 ^ 32 := Nat.pow_le_pow_right (by decide) (by omega)
      omega
    by_cases hk0 : 0 < k
    · go_wp2
      go_roundw
      case rel => exact ⟨k - 1, P * 2, by go_num, by omega, by go_num, by show _ = _; rw [unhide hP, show q - (k - 1) = q - k + 1 by omega, Nat.pow_succ], trivial⟩
      case measure => simp [intOf]; omega
    · obtain rfl : k = 0 := by omega
      go_wp2
      go_ret
      exact ⟨ret_int (by rw [unhide hP, Nat.sub_zero]), rfl⟩
def boolV (c : UInt8) : Value := .bool (decide (c.toNat = 1))
theorem info_bool : (Try.prog.info? 4).map (fun i => (i.zero, i.size, i.bytes)) = some (some (.bool false), 1, 1) := by kernel_rfl
set_option maxRecDepth 100000 in
set_option maxHeartbeats 2000000 in
theorem l1bits (b off cap : Nat) (zs : List S) (w : World) (hcap : zs.length ≤ cap) (hm : cap ≤ maxLen) (hbl : b < w.heap.size) (hr : Reads w b off zs) (hg : Good zs) :
    Calls Try.prog 68 #[.slice (some ⟨b, off, none⟩) zs.length cap] w fun e w' => ∃ v, e = .returned v ∧ w'.ownsRow w.heap.size 4 1 v (bitsTo zs zs.length).length ((bitsTo zs zs.length).map boolV) ∧ Below w.heap.size w w' := by
  obtain ⟨i0, hi, hz0, hz1, hz2⟩ := info_parts info_bool
  unfold maxLen at hm
  obtain ⟨n, hn⟩ : ∃ n, n = zs.length := ⟨_, rfl⟩
  rw [← hn]
  have HN := hide hn
  have hn1 : n ≤ cap := by omega
  clear hn hcap
  go_enter Try.func68, Try.ntmps68
  go_wp2_with fail
  have h0 := own_empty (w := w) (base := w.heap.size) (e := 4) (size := 1) (Nat.le_refl _)
  go_loopw [3, 4] (fun v iv wr => ∃ k : Nat, iv = .int .i64 (k : Int) ∧ k ≤ n ∧ wr.ownsRow w.heap.size 4 1 v (bitsTo zs k).length ((bitsTo zs k).map boolV) ∧ Below w.heap.size w wr) (fun _ iv _ => n - (intOf iv).toNat)
  case atStart => exact ⟨0, rfl, Nat.zero_le _, by simpa [bitsTo] using h0, (Below.refl _ _).alloc (Nat.le_refl _) _⟩
  case round =>
    clear h0
    obtain ⟨k, rfl, hk, hown, hbel⟩ := hrel
    have hsz := hbel.size
    by_cases hlt : k < n
    · have hc0 : wr.cell? ⟨b, off + k * 2, none⟩ = some (.int .i64 (at' zs k).1) := (hbel.cell (p := ⟨b, _, none⟩) hbl).trans (hr k (by have := unhide HN; omega)).1
      have hc1 : wr.cell? ⟨b, off + k * 2 + 1, none⟩ = some (.int .i64 (at' zs k).2) := (hbel.cell (p := ⟨b, _, none⟩) hbl).trans (hr k (by have := unhide HN; omega)).2
      have hk0 : (0 : Int) ≤ (k : Int) := Int.natCast_nonneg _
      have hk1 : (k : Int) < (n : Int) := by omega
      obtain ⟨hin, hlen⟩ := hg k (by have := unhide HN; omega)
      obtain ⟨T, q, hz, hq1, hq2, hTq⟩ := okz_parts hin
      rw [hz] at hc0 hc1
      dsimp only at hc0 hc1
      have HS := hide (show bitsTo zs (k + 1) = bitsTo zs k ++ bitsK T q q by rw [bitsTo_succ zs k (by have := unhide HN; omega), hz]; rfl)
      have HT0 := hide (show (at' zs k).1 = (T : Int) by rw [hz])
      have hT32 : T < 4294967296 := by
        have h : 2 ^ q ≤ 2 ^ 32 := Nat.pow_le_pow_right (by decide) hq2
        omega
      have hlq : (bitsTo zs k).length + q ≤ 6000 := by rw [unhide HS, List.length_append, bitsK_length] at hlen; exact hlen
      obtain ⟨l, hl⟩ : ∃ l, l = bitsTo zs k := ⟨_, rfl⟩
      rw [← hl] at hown HS hlq
      have Hl := hide hl
      clear hl hin hTq hz hlen
      go_wp2_with fail
      go_loopw [3, 5] (fun v iv wq => ∃ (I j : Nat), I + j = q ∧ iv = .int .i64 ((I : Int) - 1) ∧ wq.ownsRow w.heap.size 4 1 v (l.length + j) ((l ++ bitsK T q j).map boolV) ∧ Below w.heap.size w wq) (fun _ iv _ => (intOf iv + 1).toNat)
      case atStart => exact ⟨q, 0, rfl, rfl, by simpa [bitsK] using hown, hbel⟩
      case round =>
        clear hown hc0 hc1 hbel hsz
        obtain ⟨I, j, hIj, rfl, hown, hbel⟩ := hrel
        have hsz := hbel.size
        have hkn : k < zs.length := by have := unhide HN; omega
        have hc0 : wr.cell? ⟨b, off + k * 2, none⟩ = some (.int .i64 (T : Int)) := by
          rw [← unhide HT0]
          exact (hbel.cell (p := ⟨b, _, none⟩) hbl).trans (hr k hkn).1
        rcases I with _ | I
        · obtain rfl : j = q := by omega
          have HO := hide (show wr.ownsRow w.heap.size 4 1 u3 (bitsTo zs (k + 1)).length ((bitsTo zs (k + 1)).map boolV) by
            rw [unhide HS, List.length_append, bitsK_length]
            exact hown)
          clear hown hc0
          go_wp2
          go_roundw
          case rel => exact ⟨k + 1, by go_num, by omega, unhide HO, hbel⟩
          case measure => simp [intOf]; omega
        · have eI : ((I + 1 : Nat) : Int) - 1 = (I : Int) := by omega
          rw [eI]
          obtain ⟨c, hb⟩ : ∃ c, c = T / 2 ^ I % 2 := ⟨_, rfl⟩
          have hb2 : c < 2 := by rw [hb]; exact Nat.mod_lt _ (by decide)
          have hbits : bits .and .i64 ((T : Int) / 2 ^ I) 1 = (c : Int) := by
            have hd : (T : Int) / 2 ^ I = ((T / 2 ^ I : Nat) : Int) := by simp
            have hd2 : T / 2 ^ I ≤ T := Nat.div_le_self _ _
            rw [hd, i64_and_one _ (by omega), hb]
          have ez : Value.bool ((c : Int) == 1) = boolV (UInt8.ofNat (T / 2 ^ (q - 1 - j) % 2)) := by
            unfold boolV
            rw [bit_toNat, show q - 1 - j = I by omega, ← hb]
            rcases (show c = 0 ∨ c = 1 by omega) with h | h <;> rw [h] <;> rfl
          have HZ := hide ez
          have hge := own_ge hown
          clear hb ez
          go_wp2_with (at_builtin; refine wpList_append_lies _ rfl _ _ _ rfl w.heap.size 4 i0 _ 1 1 Try.underlying78 hi hz0 hz1 hz2 rfl (by omega) _ (l.length + j) _ rfl (hown.alloc _) _ 1 1 [.bool ((c : Int) == 1)] rfl rfl (World.news_of_block (cs := #[.bool ((c : Int) == 1)]) (t := 4) (fr := (0, 0)) (heap_alloc_new _ _)) (by simp [Value.oneCell']) (by omega) (by unfold maxLen; omega) (by omega) (by simp; omega) _ rfl ?_; intro gg cap2 w9 hown2 hgrow hat hlt2)
          have gA : Below w.heap.size w (wr.alloc (.cells #[.bool ((c : Int) == 1)] 4)) := hbel.alloc hsz _
          have R := below_grown gA (by simp; omega) hgrow hge
          have HO := hide (show w9.ownsRow w.heap.size 4 1 (.slice (some ⟨gg, 0, none⟩) (l.length + j + 1) cap2) (l.length + (j + 1)) ((l ++ bitsK T q (j + 1)).map boolV) by
            rw [bitsK_succ, ← List.append_assoc, List.map_append, List.map_cons, List.map_nil, ← unhide HZ]
            exact hown2)
          clear hown2 hgrow hown hge gA
          go_wp2
          go_roundw
          case rel => exact ⟨I, j + 1, by omega, rfl, unhide HO, R⟩
          case measure => simp [intOf]
    · obtain rfl : k = n := by omega
      go_wp2
      go_ret
      exact ⟨_, rfl, hown, hbel⟩
end Go.Proofs.Ytkaepjngmgicaaa.BitPut
