/- LabelsPut of the model, at every slice of labels. -/
import Derived.Test.YtkmoekbicbjdmaaDoorLabPut
namespace Go.Proofs.YtkmoekbicbjdmaaDoor.Lab
open Go.RowKit Rw PutMath
set_option linter.unusedVariables false
attribute [local go_sem ↓] Go.wp_at_zero Go.wp_at_succ
set_option maxRecDepth 100000 in
set_option maxHeartbeats 4000000 in
theorem l3Put_any {w : World} {v : Value} {zs : List E} (h : Is w v zs) (hsm : small zs) : Calls Tryd.prog 37 #[v] w fun e w' => e = .returned (.string (wrap 123 125 (parts zs))) ∧ Below w.heap.size w w' := by
  obtain ⟨-, a, cap, rfl, hc, hm, -, hr⟩ := h
  unfold maxLen at hm
  obtain ⟨n, hn⟩ : ∃ n, n = zs.length := ⟨_, rfl⟩
  have hn2 : n ≤ 1000 := by rw [hn]; exact hsm.1
  rw [← hn] at hc hr ⊢
  have HN := hide hn
  have HSM := hide hsm
  clear hn hsm
  obtain ⟨R, hR⟩ : ∃ R, R = wrap 123 125 (parts zs) := ⟨_, rfl⟩
  rw [← hR]
  have HR := hide hR
  clear hR
  have H0 := hide (out_first 123)
  go_enter Tryd.func37, Tryd.ntmps37
  go_wp2_with fail
  go_loopw [3, 4] (fun ov i wr => ∃ (k : Nat) (O : ByteArray), k ≤ n ∧ i = .int .i64 k ∧ ov = .string O ∧ O = out 123 (parts (zs.take k)) ∧ Below w.heap.size w wr) (fun _ i _ => n - (intOf i).toNat)
  case atStart => exact ⟨0, _, Nat.zero_le _, rfl, rfl, (unhide H0).symm, Below.refl _ _⟩
  case round =>
    obtain ⟨k, O, hk, rfl, rfl, hO, hbel⟩ := hrel
    have hsz := hbel.size
    have hk0 : (0 : Int) ≤ (k : Int) := Int.natCast_nonneg _
    have JS := join_small (unhide HSM) k
    have hOs : O.size ≤ 2002001 := by rw [hO, out_size]; omega
    have HO := hide hO
    clear hO JS
    by_cases hlt : k < n
    · obtain ⟨b, off, rfl, hl, hcells⟩ := hr (by omega)
      have fa := flat_at zs k (by have := unhide HN; omega)
      have gd := (unhide HSM).2 (at' zs k) (by rw [at_get zs k (by have := unhide HN; omega)]; exact List.getElem_mem _)
      have HPS := parts_snoc zs k (by have := unhide HN; omega)
      obtain ⟨A, B, hX⟩ : ∃ A B, (A, B) = at' zs k := ⟨_, _, rfl⟩
      rw [← hX] at fa gd HPS
      simp only at gd
      have hb1 : b < wr.heap.size := by omega
      have q0 : ∀ x : Cls wr.heap.size wr, x.val.cell? ⟨b, off + k * 2, none⟩ = some (.string A) := fun x => by rw [x.cell hb1]; exact (hbel.cell (p := ⟨b, _, none⟩) hl).trans (hcells (k * 2) _ fa.1)
      have q1 : ∀ x : Cls wr.heap.size wr, x.val.cell? ⟨b, off + k * 2 + 1, none⟩ = some (.string B) := fun x => by rw [x.cell hb1]; exact (hbel.cell (p := ⟨b, _, none⟩) hl).trans (hcells (k * 2 + 1) _ fa.2)
      have hne := cls_nonempty wr.heap.size wr
      have e61 : (⟨#[61]⟩ : ByteArray).size = 1 := rfl
      have e44 : (⟨#[44]⟩ : ByteArray).size = 1 := rfl
      have hk1 : (k : Int) < (n : Int) := by omega
      have lenk : (parts (zs.take k)).length = k := by rw [parts_length, List.length_take]; have := unhide HN; omega
      have adds : ∀ q : ByteArray, q.size ≤ 2002002 → (if (parts (zs.take k)).length = 0 then out 123 (parts (zs.take k)) else out 123 (parts (zs.take k)) ++ ⟨#[44]⟩) = q → ∃ P1 P2 P3, P3 = out 123 (parts (zs.take (k + 1))) ∧ (∀ W, (Op.stringOp .add q A).run Tryd.prog W = .ok (.string P1) W) ∧ (∀ W, (Op.stringOp .add P1 ⟨#[61]⟩).run Tryd.prog W = .ok (.string P2) W) ∧ (∀ W, (Op.stringOp .add P2 B).run Tryd.prog W = .ok (.string P3) W) := by
        intro q hq he
        refine ⟨q ++ A, q ++ A ++ ⟨#[61]⟩, q ++ A ++ ⟨#[61]⟩ ++ B, ?_, fun W => run_string_add_sum W _ _ (by omega), fun W => run_string_add_sum W _ _ (by rw [app_size, e61]; omega), fun W => run_string_add_sum W _ _ (by rw [app_size, app_size, e61]; omega)⟩
        rw [HPS, ← out_next 123 (parts (zs.take k)) (partOf (A, B)) q he]
        unfold partOf
        rw [app_assoc, app_assoc, app_assoc]
      by_cases hk00 : k = 0
      · obtain ⟨P1, P2, P3, hP3, s1, s2, s3⟩ := adds O (by omega) (by rw [if_pos (by omega), unhide HO])
        have HP3 := hide hP3
        have hd : decide ((0 : Int) < (k : Int)) = false := by simp; omega
        have hd2 : decide (0 < k) = false := by simp; omega
        clear hP3 adds HPS gd fa hX hk00 lenk
        go_wp2_with fail
        refine region_cls (by kernel_rfl) (by kernel_rfl) ?_
        repeat (go_big_quiet_step (fail))
        refine wpQuiet_nil ?_
        rintro wq ⟨⟨_, hq⟩, rfl⟩
        go_wp2
        go_roundw
        case rel => exact ⟨k + 1, P3, by omega, by go_num, rfl, unhide HP3, hbel.trans (hq.mono hsz)⟩
        case measure => simp [intOf]; omega
      · obtain ⟨P1, P2, P3, hP3, s1, s2, s3⟩ := adds (O ++ ⟨#[44]⟩) (by rw [app_size, e44]; omega) (by rw [if_neg (by omega), unhide HO])
        have s0 : ∀ W, (Op.stringOp .add O ⟨#[44]⟩).run Tryd.prog W = .ok (.string (O ++ ⟨#[44]⟩)) W := fun W => run_string_add_sum W _ _ (by rw [e44]; omega)
        generalize O ++ ⟨#[44]⟩ = O1 at s0 s1
        have HP3 := hide hP3
        have hd : (0 : Int) < (k : Int) := by omega
        clear hP3 adds HPS gd fa hX hk00 lenk
        go_wp2_with fail
        refine region_cls (by kernel_rfl) (by kernel_rfl) ?_
        repeat (go_big_quiet_step (fail))
        refine wpQuiet_nil ?_
        rintro wq ⟨⟨_, hq⟩, rfl⟩
        go_wp2
        go_roundw
        case rel => exact ⟨k + 1, P3, by omega, by go_num, rfl, unhide HP3, hbel.trans (hq.mono hsz)⟩
        case measure => simp [intOf]; omega
    · obtain rfl : k = n := by omega
      have e125 : (⟨#[125]⟩ : ByteArray).size = 1 := rfl
      have s0 : ∀ W, (Op.stringOp .add O ⟨#[125]⟩).run Tryd.prog W = .ok (.string R) W := fun W => by
        rw [run_string_add_sum W _ _ (by rw [e125]; omega), unhide HR, unhide HO, List.take_of_length_le (by have := unhide HN; omega), wrap_out]
      go_wp2_with fail
      go_ret
      exact ⟨rfl, hbel⟩
set_option maxHeartbeats 1000000 in
theorem spec_put {w : World} {v : Value} {zs : List E} (h : Is w v zs) (hg : ∀ x ∈ zs, good x) (hz : zs.length ≤ maxLen) : Calls Tryd.prog 10 #[v] w fun e w' => e = .returned (.string (put zs)) ∧ Below w.heap.size w w' := by
  have H1 := hide (spec_ok h hg hz)
  cases ho : ok zs
  · have HR := hide (show put zs = ByteArray.empty by unfold put; rw [ho]; rfl)
    rw [ho] at H1
    clear ho h hg
    go_enter Tryd.func10, Tryd.ntmps10
    go_wp2_with fail
    refine (unhide H1).mono ?_
    rintro e w1 ⟨rfl, b1⟩
    go_wp2_with fail
    go_ret
    exact ⟨ret_string (unhide HR).symm, b1⟩
  · have HR := hide (show put zs = wrap 123 125 (parts zs) by unfold put; rw [ho]; rfl)
    have H2 := hide (fun W (hb : Below w.heap.size w W) => l3Put_any (h.below hb) (ok_small ho))
    rw [ho] at H1
    clear ho h hg
    go_enter Tryd.func10, Tryd.ntmps10
    go_wp2_with fail
    refine (unhide H1).mono ?_
    rintro e w1 ⟨rfl, b1⟩
    go_wp2_with fail
    refine (unhide H2 _ b1).mono ?_
    rintro e w2 ⟨rfl, b2⟩
    have c2 := b1.trans (b2.mono b1.size)
    go_wp2_with fail
    go_ret
    exact ⟨ret_string (unhide HR).symm, c2⟩
end Go.Proofs.YtkmoekbicbjdmaaDoor.Lab
