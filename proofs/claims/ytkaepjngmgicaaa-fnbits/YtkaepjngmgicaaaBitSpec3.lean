/- What spec.BitsPut answers. -/
import Derived.Test.YtkaepjngmgicaaaBitSpec2
import Derived.Test.YtkaepjngmgicaaaBitImpl
import Derived.Test.YtkaepjngmgicaaaSamp2
namespace Go.Proofs.Ytkaepjngmgicaaa.BitPut
open Go.RowKit Samp SampMath
set_option linter.unusedVariables false
attribute [local go_sem ↓] Go.wp_at_zero Go.wp_at_succ
set_option maxRecDepth 100000 in
set_option maxHeartbeats 2000000 in
theorem spec_some (b off cap : Nat) (zs : List S) (w : World) (hcap : zs.length ≤ cap) (hm : cap ≤ maxLen) (hbl : b < w.heap.size) (hr : Reads w b off zs) :
    Calls Try.prog 22 #[.slice (some ⟨b, off, none⟩) zs.length cap] w fun e w' => ∃ X : List UInt8, e = .returned (.string ⟨X.toArray⟩) ∧ ((Good zs ∧ X = textK (bitsTo zs zs.length) (bitsTo zs zs.length).length) ∨ (¬ Good zs ∧ X = [])) ∧ Below w.heap.size w w' := by
  have HB := hide (fun (hg : Good zs) (W : World) (hW : Below w.heap.size w W) => l1bits b off cap zs W hcap hm (by have := hW.size; omega) (fun i hi => ⟨(hW.cell (p := ⟨b, _, none⟩) hbl).trans (hr i hi).1, (hW.cell (p := ⟨b, _, none⟩) hbl).trans (hr i hi).2⟩) hg)
  unfold maxLen at hm
  obtain ⟨n, hn⟩ : ∃ n, n = zs.length := ⟨_, rfl⟩
  rw [← hn] at HB ⊢
  have HN := hide hn
  have hn1 : n ≤ cap := by omega
  clear hn hcap
  go_enter Try.func22, Try.ntmps22
  go_wp2_with fail
  go_loopw [3, 4] (fun nv iv wr => ∃ k L : Nat, iv = .int .i64 (k : Int) ∧ k ≤ n ∧ nv = .int .i64 (L : Int) ∧ L ≤ 6000 ∧ Hid (L = (bitsTo zs k).length) ∧ GoodTo zs k ∧ Below w.heap.size w wr) (fun _ iv _ => n - (intOf iv).toNat)
  case atStart => exact ⟨0, 0, rfl, Nat.zero_le _, rfl, Nat.zero_le _, by show _ = _; simp [bitsTo], fun j hj => by omega, Below.refl _ _⟩
  case round =>
    obtain ⟨k, L, rfl, hk, rfl, hL6, HLL, hgood, hbel⟩ := hrel
    have HG := hide hgood
    clear hgood
    have hsz := hbel.size
    by_cases hlt : k < n
    · obtain ⟨T, hT⟩ : ∃ T, T = (at' zs k).1 := ⟨_, rfl⟩
      obtain ⟨V, hV⟩ : ∃ V, V = (at' zs k).2 := ⟨_, rfl⟩
      have hq0 : ∀ x : Cls wr.heap.size wr, x.val.cell? ⟨b, off + k * 2, none⟩ = some (.int .i64 T) := fun x => by rw [x.cell (by omega), hT]; exact (hbel.cell (p := ⟨b, _, none⟩) hbl).trans (hr k (by have := unhide HN; omega)).1
      have hq1 : ∀ x : Cls wr.heap.size wr, x.val.cell? ⟨b, off + k * 2 + 1, none⟩ = some (.int .i64 V) := fun x => by rw [x.cell (by omega), hV]; exact (hbel.cell (p := ⟨b, _, none⟩) hbl).trans (hr k (by have := unhide HN; omega)).2
      have hk0 : (0 : Int) ≤ (k : Int) := Int.natCast_nonneg _
      have hk1 : (k : Int) < (n : Int) := by omega
      have HZ := hide (show at' zs k = (T, V) by rw [hT, hV])
      clear hT hV
      have hne := cls_nonempty wr.heap.size wr
      by_cases hV1 : 1 ≤ V ∧ V ≤ 32
      · have HI1 := hide (inB_true hV1.1 hV1.2)
        obtain ⟨q, rfl⟩ := Int.eq_ofNat_of_zero_le (show 0 ≤ V by omega)
        obtain ⟨P, hP⟩ : ∃ P : Nat, P = 2 ^ q := ⟨_, rfl⟩
        have hP1 : P ≤ 4294967296 := by
          have h : 2 ^ q ≤ 2 ^ 32 := Nat.pow_le_pow_right (by decide) (by omega)
          omega
        have hP0 : 0 < P := by rw [hP]; exact Nat.two_pow_pos q
        have HF := hide (fun W => full_any q W (by omega))
        rw [← hP] at HF
        by_cases hTr : 0 ≤ T ∧ T ≤ (P : Int) - 1
        · have HI2 := hide (inB_true hTr.1 hTr.2)
          obtain ⟨t, rfl⟩ := Int.eq_ofNat_of_zero_le hTr.1
          have HS := hide (show bitsTo zs (k + 1) = bitsTo zs k ++ bitsK t q q by rw [bitsTo_succ zs k (by have := unhide HN; omega), unhide HZ]; rfl)
          have HK := hide (show okz (at' zs k) = true by
            rw [unhide HZ]
            unfold okz
            simp only [Bool.and_eq_true, decide_eq_true_eq, Int.toNat_natCast]
            have e : (2 : Int) ^ q = (P : Int) := by rw [hP]; simp
            refine ⟨by omega, by omega, by omega, ?_⟩
            show (t : Int) < 2 ^ q
            rw [e]
            omega)
          have hq32 : q ≤ 32 := by omega
          have hc1 : wr.cell? ⟨b, off + k * 2 + 1, none⟩ = some (.int .i64 (q : Int)) := hq1 ⟨wr, Below.refl _ _⟩
          clear hP hTr hV1
          go_wp2_with fail
          refine region_cls (by kernel_rfl) (by kernel_rfl) ?_
          repeat (go_big_quiet_step (((first | (go_at_call_of 66 (32 : Int); exact cls_same (in_is _ _ _ true _ (unhide HI1))) | (go_at_call 62; exact cls_same (unhide HF _)) | (go_at_call 66; exact cls_same (in_is _ _ _ true _ (unhide HI2)))))))
          refine wpQuiet_nil ?_
          rintro wq ⟨⟨_, hq⟩, rfl⟩
          have R := hbel.trans (hq.mono hsz)
          have hcq : wq.cell? ⟨b, off + k * 2 + 1, none⟩ = some (.int .i64 (q : Int)) := hq1 ⟨wq, hq⟩
          by_cases hmore : 6000 < L + q
          · have HF := hide (show ¬ Good zs from fun h => by
              have := (h k (by have := unhide HN; omega)).2
              rw [unhide HS, List.length_append, bitsK_length, ← unhide HLL] at this
              omega)
            go_wp2
            go_ret
            exact ⟨[], rfl, .inr ⟨unhide HF, rfl⟩, R⟩
          · have HGG := hide (show GoodTo zs (k + 1) by
              intro j hj
              rcases (show j < k ∨ j = k by omega) with h | rfl
              · exact unhide HG j h
              · refine ⟨unhide HK, ?_⟩
                rw [unhide HS, List.length_append, bitsK_length, ← unhide HLL]
                omega)
            go_wp2
            go_roundw
            case rel => exact ⟨k + 1, L + q, by go_num, by omega, by go_num, by omega, by show _ = _; rw [unhide HS, List.length_append, bitsK_length, ← unhide HLL], unhide HGG, R⟩
            case measure => simp [intOf]; omega
        · have HI2 := hide (inB_false (n := T) (lo := 0) (hi := (P : Int) - 1) (by omega))
          have HB := hide (show ¬ Good zs from fun h => by
            have h1 := (h k (by have := unhide HN; omega)).1
            rw [unhide HZ] at h1
            obtain ⟨t, q', hz, _, _, hlt'⟩ := okz_parts h1
            have e1 : T = (t : Int) := congrArg Prod.fst hz
            have e2 : (q : Int) = (q' : Int) := congrArg Prod.snd hz
            have e3 : q = q' := by omega
            subst e3
            rw [← hP] at hlt'
            omega)
          clear hP hTr hV1
          go_wp2_with fail
          refine region_cls (by kernel_rfl) (by kernel_rfl) ?_
          repeat (go_big_quiet_step (((first | (go_at_call_of 66 (32 : Int); exact cls_same (in_is _ _ _ true _ (unhide HI1))) | (go_at_call 62; exact cls_same (unhide HF _)) | (go_at_call 66; exact cls_same (in_is _ _ _ false _ (unhide HI2)))))))
          refine wpQuiet_nil ?_
          rintro wq ⟨⟨_, hq⟩, rfl⟩
          have R := hbel.trans (hq.mono hsz)
          go_wp2
          go_ret
          exact ⟨[], rfl, .inr ⟨unhide HB, rfl⟩, R⟩
      · have HI1 := hide (inB_false (n := V) (lo := 1) (hi := 32) (by omega))
        have HB := hide (show ¬ Good zs from fun h => by
          have h1 := (h k (by have := unhide HN; omega)).1
          rw [unhide HZ] at h1
          obtain ⟨t, q', hz, _, _, hlt'⟩ := okz_parts h1
          have e2 : V = (q' : Int) := congrArg Prod.snd hz
          omega)
        clear hV1
        go_wp2_with fail
        refine region_cls (by kernel_rfl) (by kernel_rfl) ?_
        repeat (go_big_quiet_step ((go_at_call_of 66 (32 : Int); exact cls_same (in_is _ _ _ false _ (unhide HI1)))))
        refine wpQuiet_nil ?_
        rintro wq ⟨⟨_, hq⟩, rfl⟩
        have R := hbel.trans (hq.mono hsz)
        go_wp2
        go_ret
        exact ⟨[], rfl, .inr ⟨unhide HB, rfl⟩, R⟩
    · obtain rfl : k = n := by omega
      have HGd := hide (show Good zs from fun j hj => unhide HG j (by have := unhide HN; omega))
      go_wp2_with fail
      refine (unhide HB (unhide HGd) _ hbel).mono ?_
      rintro e W2 ⟨v, rfl, o2, b2⟩
      have R2 := hbel.trans (b2.mono hsz)
      have hlen : (bitsTo zs k).length ≤ 6000 := by rw [← unhide HLL]; exact hL6
      go_wp2_with fail
      refine (bytes_own o2 hlen (bitsTo_bit zs k)).mono ?_
      rintro e W3 ⟨rfl, b3⟩
      have R3 := R2.trans (b3.mono R2.size)
      go_wp2
      go_ret
      exact ⟨_, rfl, .inl ⟨unhide HGd, rfl⟩, R3⟩
end Go.Proofs.Ytkaepjngmgicaaa.BitPut
