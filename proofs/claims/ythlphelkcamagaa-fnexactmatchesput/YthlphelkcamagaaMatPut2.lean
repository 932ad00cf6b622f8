/- MatchesPut of the model, at every slice of matches. -/
import Derived.Test.YthlphelkcamagaaMatPut
namespace Go.Proofs.Ythlphelkcamagaa.Mat
open Go.RowKit Rw PutMath
set_option linter.unusedVariables false
attribute [local go_sem ↓] Go.wp_at_zero Go.wp_at_succ
set_option maxRecDepth 100000 in
set_option maxHeartbeats 4000000 in
theorem l3Matches_any {w : World} {v : Value} {zs : List E} (h : Is w v zs) (hsm : small zs) : Calls Try.prog 56 #[v] w fun e w' => e = .returned (.string (wrap 91 93 (parts zs))) ∧ Below w.heap.size w w' := by
  obtain ⟨-, a, cap, rfl, hc, hm, -, hr⟩ := h
  unfold maxLen at hm
  obtain ⟨n, hn⟩ : ∃ n, n = zs.length := ⟨_, rfl⟩
  have hn2 : n ≤ 1000 := by rw [hn]; exact hsm.1
  rw [← hn] at hc hr ⊢
  have HN := hide hn
  have HSM := hide hsm
  clear hn hsm
  obtain ⟨R, hR⟩ : ∃ R, R = wrap 91 93 (parts zs) := ⟨_, rfl⟩
  rw [← hR]
  have HR := hide hR
  clear hR
  have H0 := hide (out_first 91)
  go_enter Try.func56, Try.ntmps56
  go_wp2_with fail
  go_loopw [3, 4] (fun ov i wr => ∃ (k : Nat) (O : ByteArray), k ≤ n ∧ i = .int .i64 k ∧ ov = .string O ∧ O = out 91 (parts (zs.take k)) ∧ Below w.heap.size w wr) (fun _ i _ => n - (intOf i).toNat)
  case atStart => exact ⟨0, _, Nat.zero_le _, rfl, rfl, (unhide H0).symm, Below.refl _ _⟩
  case round =>
    obtain ⟨k, O, hk, rfl, rfl, hO, hbel⟩ := hrel
    have hsz := hbel.size
    have hk0 : (0 : Int) ≤ (k : Int) := Int.natCast_nonneg _
    have JS := join_small (unhide HSM) k
    have hOs : O.size ≤ 2002001 := by rw [hO, out_size]; omega
    have HO := hide hO
    clear hO JS
    by_cases hlt : k < n
    · obtain ⟨b, off, rfl, hl, hcells⟩ := hr (by omega)
      have fa := flat_at zs k (by have := unhide HN; omega)
      have gd := (unhide HSM).2 (at' zs k) (by rw [at_get zs k (by have := unhide HN; omega)]; exact List.getElem_mem _)
      have HPS := parts_snoc zs k (by have := unhide HN; omega)
      obtain ⟨K, A, B, hX⟩ : ∃ K A B, (K, A, B) = at' zs k := ⟨_, _, _, rfl⟩
      rw [← hX] at fa gd HPS
      simp only at gd
      have hb1 : b < wr.heap.size := by omega
      have q0 : ∀ x : Cls wr.heap.size wr, x.val.cell? ⟨b, off + k * 3, none⟩ = some (.int .i64 K) := fun x => by rw [x.cell hb1]; exact (hbel.cell (p := ⟨b, _, none⟩) hl).trans (hcells (k * 3) _ fa.1)
      have q1 : ∀ x : Cls wr.heap.size wr, x.val.cell? ⟨b, off + k * 3 + 1, none⟩ = some (.string A) := fun x => by rw [x.cell hb1]; exact (hbel.cell (p := ⟨b, _, none⟩) hl).trans (hcells (k * 3 + 1) _ fa.2.1)
      have q2 : ∀ x : Cls wr.heap.size wr, x.val.cell? ⟨b, off + k * 3 + 2, none⟩ = some (.string B) := fun x => by rw [x.cell hb1]; exact (hbel.cell (p := ⟨b, _, none⟩) hl).trans (hcells (k * 3 + 2) _ fa.2.2)
      have HSg := hide (fun W => l3Sign_any K W gd.1 gd.2.1)
      have ss := sign_size K
      have hne := cls_nonempty wr.heap.size wr
      have e44 : (⟨#[44]⟩ : ByteArray).size = 1 := rfl
      have hk1 : (k : Int) < (n : Int) := by omega
      have lenk : (parts (zs.take k)).length = k := by rw [parts_length, List.length_take]; have := unhide HN; omega
      have adds : ∀ q : ByteArray, q.size ≤ 2002002 → (if (parts (zs.take k)).length = 0 then out 91 (parts (zs.take k)) else out 91 (parts (zs.take k)) ++ ⟨#[44]⟩) = q → ∃ P1 P2 P3, P3 = out 91 (parts (zs.take (k + 1))) ∧ (∀ W, (Op.stringOp .add q A).run Try.prog W = .ok (.string P1) W) ∧ (∀ W, (Op.stringOp .add P1 (signB K)).run Try.prog W = .ok (.string P2) W) ∧ (∀ W, (Op.stringOp .add P2 B).run Try.prog W = .ok (.string P3) W) := by
        intro q hq he
        refine ⟨q ++ A, q ++ A ++ signB K, q ++ A ++ signB K ++ B, ?_, fun W => run_string_add_sum W _ _ (by omega), fun W => run_string_add_sum W _ _ (by rw [app_size, ss]; omega), fun W => run_string_add_sum W _ _ (by rw [app_size, app_size, ss]; omega)⟩
        rw [HPS, ← out_next 91 (parts (zs.take k)) (partOf (K, A, B)) q he]
        unfold partOf
        rw [app_assoc, app_assoc, app_assoc]
      by_cases hk00 : k = 0
      · obtain ⟨P1, P2, P3, hP3, s1, s2, s3⟩ := adds O (by omega) (by rw [if_pos (by omega), unhide HO])
        have HP3 := hide hP3
        have hd : decide ((0 : Int) < (k : Int)) = false := by simp; omega
        have hd2 : decide (0 < k) = false := by simp; omega
        generalize signB K = SG at s2 HSg
        clear hP3 adds HPS gd fa hX hk00 lenk ss
        go_wp2_with fail
        refine region_cls (by kernel_rfl) (by kernel_rfl) ?_
        repeat (go_big_quiet_step ((go_at_call 71; exact cls_call (Nat.le_refl _) (unhide HSg _))))
        refine wpQuiet_nil ?_
        rintro wq ⟨⟨_, hq⟩, rfl⟩
        go_wp2
        go_roundw
        case rel => exact ⟨k + 1, P3, by omega, by go_num, rfl, unhide HP3, hbel.trans (hq.mono hsz)⟩
        case measure => simp [intOf]; omega
      · obtain ⟨P1, P2, P3, hP3, s1, s2, s3⟩ := adds (O ++ ⟨#[44]⟩) (by rw [app_size, e44]; omega) (by rw [if_neg (by omega), unhide HO])
        have s0 : ∀ W, (Op.stringOp .add O ⟨#[44]⟩).run Try.prog W = .ok (.string (O ++ ⟨#[44]⟩)) W := fun W => run_string_add_sum W _ _ (by rw [e44]; omega)
        generalize O ++ ⟨#[44]⟩ = O1 at s0 s1
        have HP3 := hide hP3
        have hd : (0 : Int) < (k : Int) := by omega
        generalize signB K = SG at s2 HSg
        clear hP3 adds HPS gd fa hX hk00 lenk ss
        go_wp2_with fail
        refine region_cls (by kernel_rfl) (by kernel_rfl) ?_
        repeat (go_big_quiet_step ((go_at_call 71; exact cls_call (Nat.le_refl _) (unhide HSg _))))
        refine wpQuiet_nil ?_
        rintro wq ⟨⟨_, hq⟩, rfl⟩
        go_wp2
        go_roundw
        case rel => exact ⟨k + 1, P3, by omega, by go_num, rfl, unhide HP3, hbel.trans (hq.mono hsz)⟩
        case measure => simp [intOf]; omega
    · obtain rfl : k = n := by omega
      have e93 : (⟨#[93]⟩ : ByteArray).size = 1 := rfl
      have s0 : ∀ W, (Op.stringOp .add O ⟨#[93]⟩).run Try.prog W = .ok (.string R) W := fun W => by
        rw [run_string_add_sum W _ _ (by rw [e93]; omega), unhide HR, unhide HO, List.take_of_length_le (by have := unhide HN; omega), wrap_out]
      go_wp2_with fail
      go_ret
      exact ⟨rfl, hbel⟩
set_option maxHeartbeats 1000000 in
theorem spec_put {w : World} {v : Value} {zs : List E} (h : Is w v zs) (hg : ∀ x ∈ zs, good x) (hz : zs.length ≤ maxLen) : Calls Try.prog 31 #[v] w fun e w' => e = .returned (.string (put zs)) ∧ Below w.heap.size w w' := by
  have H1 := hide (spec_ok h hg hz)
  cases ho : ok zs
  · have HR := hide (show put zs = ByteArray.empty by unfold put; rw [ho]; rfl)
    rw [ho] at H1
    clear ho h hg
    go_enter Try.func31, Try.ntmps31
    go_wp2_with fail
    refine (unhide H1).mono ?_
    rintro e w1 ⟨rfl, b1⟩
    go_wp2_with fail
    go_ret
    exact ⟨ret_string (unhide HR).symm, b1⟩
  · have HR := hide (show put zs = wrap 91 93 (parts zs) by unfold put; rw [ho]; rfl)
    have H2 := hide (fun W (hb : Below w.heap.size w W) => l3Matches_any (h.below hb) (ok_small ho))
    rw [ho] at H1
    clear ho h hg
    go_enter Try.func31, Try.ntmps31
    go_wp2_with fail
    refine (unhide H1).mono ?_
    rintro e w1 ⟨rfl, b1⟩
    go_wp2_with fail
    refine (unhide H2 _ b1).mono ?_
    rintro e w2 ⟨rfl, b2⟩
    have c2 := b1.trans (b2.mono b1.size)
    go_wp2_with fail
    go_ret
    exact ⟨ret_string (unhide HR).symm, c2⟩
end Go.Proofs.Ythlphelkcamagaa.Mat
