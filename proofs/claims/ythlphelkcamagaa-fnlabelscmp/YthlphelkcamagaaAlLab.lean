/- Labels are drawn twice; whether labels are the same. -/
import Derived.Test.YthlphelkcamagaaDrawLab2
import Derived.Test.YthlphelkcamagaaLabCmp3
import Derived.Test.YthlphelkcamagaaCmpOrd
import Derived.Test.YthlphelkcamagaaLabEq
namespace Go.Proofs.Ythlphelkcamagaa.Lab
open Go.RowKit Rw Draw
set_option linter.unusedVariables false
attribute [local go_sem ↓] Go.wp_at_zero Go.wp_at_succ
set_option maxHeartbeats 2000000 in
theorem draw_cmp {a : Option Addr} {len cap : Nat} {zs : List Int} (w0 w : World) (h : IsRow .u8 w0 a len cap zs) (hB : Below w0.heap.size w0 w) :
    Calls Try.prog 12 #[.slice a len cap] w fun e w' => ∃ (zs ys : List E) (v u : Value), e = .returned (.tuple #[v, u]) ∧ zs.length ≤ 20 ∧ ys.length ≤ 20 ∧ (∀ x ∈ zs, smallL x) ∧ (∀ x ∈ ys, smallL x) ∧ Is w' v zs ∧ Is w' u ys ∧ Below w.heap.size w w' := by
  obtain ⟨i0, hi, hz0, hz1, hz2⟩ := info_parts Lab.info_e
  have HO := hide (open_any w0 w h hB)
  clear h hB
  go_enter Try.func12, Try.ntmps12
  go_wp2_with fail
  refine (unhide HO).mono ?_
  rintro e w1 ⟨rfl, r1, b1⟩
  have hlt := r1.lt
  have hs1 := b1.size
  go_wp2_with fail
  refine (anylabels_any w.heap.size 0 _ r1 (by omega)).mono ?_
  rintro e w2 ⟨zs, v, rfl, hl, hsm, o2, ⟨p2, hp2, r2⟩, q2⟩
  have M1 := hide hsm
  clear r1 HO hsm
  go_wp2_with fail
  refine (pick_any w.heap.size p2 _ _ r2 (by omega) (by omega)).mono ?_
  rintro e w3 ⟨x, rfl, x0, -, -, r3, g3⟩
  have o3 := own_kept o2 g3 hlt
  have q3 := grown_trans q2 g3
  have hs3 := q3.size
  clear o2 q2 r2 g3
  by_cases hx : x = 0
  · subst hx
    have IL := hide (is_of_own o3)
    go_wp2_with (at_builtin; refine app_wp _ rfl _ _ _ rfl w1.heap.size 40 i0 _ 2 32 Try.underlying23 hi hz0 hz1 hz2 rfl (by omega) _ 0 [] rfl (own_empty hs3) _ zs.length (flat zs) rfl ((unhide IL).alloc _) (flat_oneCell _) (by unfold maxLen; omega) (by omega) (by simp; omega) ?_; intro vn w9 on gn an)
    have hb3 : Below w3.heap.size w3 (w3.alloc (.cells #[] 40)) := (Below.refl _ _).alloc (Nat.le_refl _) _
    have g9 := below_of_grown (B := w3.heap.size) gn (Nat.le_refl _) (by simp)
    have b9 := hb3.trans g9
    have S1 := hide ((unhide IL).below b9)
    rw [Nat.zero_add] at on
    have S2 := hide (is_of_own (zs := zs) on)
    have b4 := hide (b1.trans ((below_of_grown q3 (Nat.le_refl _) hs1).trans (b9.mono (by omega))))
    clear on gn an g9 b9 hb3 o3 q3 r3 IL
    go_wp2_with fail
    go_ret2
    exact ⟨zs, zs, _, _, rfl, hl, hl, unhide M1, unhide M1, unhide S1, unhide S2, unhide b4⟩
  · have hxf : (x == 0) = false := by simpa using hx
    go_wp2_with fail
    refine (anylabels_any w.heap.size (p2 + 1) _ r3 (by omega)).mono ?_
    rintro e w4 ⟨ys, u, rfl, hl', hsm, o4, ⟨p4, hp4, r4⟩, q4⟩
    have M2 := hide hsm
    have o4' := own_kept o3 q4 hlt
    have b4 := b1.trans (below_of_grown (grown_trans q3 q4) (Nat.le_refl _) hs1)
    have S1 := hide (is_of_own o4')
    have S2 := hide (is_of_own o4)
    clear o4 o4' o3 q3 q4 r3 r4 hsm
    go_wp2_with fail
    go_ret2
    exact ⟨zs, ys, _, _, rfl, hl, hl', unhide M1, unhide M2, unhide S1, unhide S2, b4⟩
set_option maxRecDepth 100000 in
set_option maxHeartbeats 2000000 in
theorem al_any {v u : Value} {zs ys : List E} {w : World} (h : Is w v zs) (h' : Is w u ys) : Calls Try.prog 16 #[v, u] w fun e w' => ∃ R : Bool, e = .returned (.bool R) ∧ (R = true ↔ zs = ys) ∧ Below w.heap.size w w' := by
  obtain ⟨-, a, cap, rfl, hc, hm, -, hr⟩ := h
  obtain ⟨-, a', cap', rfl, hc', hm', -, hr'⟩ := h'
  unfold maxLen at hm hm'
  by_cases hll : zs.length = ys.length
  · obtain ⟨n, hn⟩ : ∃ n, n = zs.length := ⟨_, rfl⟩
    rw [← hll] at hc' hr' ⊢
    rw [← hn] at hc hr hc' hr' ⊢
    have HN := hide hn
    have HM := hide (hn.trans hll)
    clear hn hll
    go_enter Try.func16, Try.ntmps16
    go_wp2_with fail
    go_loopw [5] (fun i wr => ∃ (k : Nat), k ≤ n ∧ i = .int .i64 k ∧ zs.take k = ys.take k ∧ Below w.heap.size w wr) (fun i _ => n - (intOf i).toNat)
    case atStart => exact ⟨0, Nat.zero_le _, rfl, by simp, Below.refl _ _⟩
    case round =>
      obtain ⟨k, hk, rfl, hT, hbel⟩ := hrel
      have HT := hide hT
      clear hT
      have hsz := hbel.size
      by_cases hlt : k < n
      · obtain ⟨b, off, rfl, hl, hcells⟩ := hr (by omega)
        obtain ⟨b', off', rfl, hl', hcells'⟩ := hr' (by omega)
        have hkz : k < zs.length := by have := unhide HN; omega
        have hky : k < ys.length := by have := unhide HM; omega
        have s1 := at_snoc zs k hkz
        have s2 := at_snoc ys k hky
        obtain ⟨A, B, hX⟩ : ∃ A B, (A, B) = at' zs k := ⟨_, _, rfl⟩
        obtain ⟨C, D, hY⟩ : ∃ C D, (C, D) = at' ys k := ⟨_, _, rfl⟩
        have fa := ag hkz A B hX
        have fb := ag hky C D hY
        rw [← hX] at s1
        rw [← hY] at s2
        have hq0 : ∀ x : Cls wr.heap.size wr, x.val.cell? ⟨b, off + k * 2, none⟩ = some (.string A) := fun x => by rw [x.cell (by omega)]; exact (hbel.cell (p := ⟨b, _, none⟩) hl).trans (hcells (k * 2) _ fa.1)
        have hq1 : ∀ x : Cls wr.heap.size wr, x.val.cell? ⟨b, off + k * 2 + 1, none⟩ = some (.string B) := fun x => by rw [x.cell (by omega)]; exact (hbel.cell (p := ⟨b, _, none⟩) hl).trans (hcells (k * 2 + 1) _ fa.2)
        have hp0 : ∀ x : Cls wr.heap.size wr, x.val.cell? ⟨b', off' + k * 2, none⟩ = some (.string C) := fun x => by rw [x.cell (by omega)]; exact (hbel.cell (p := ⟨b', _, none⟩) hl').trans (hcells' (k * 2) _ fb.1)
        have hp1 : ∀ x : Cls wr.heap.size wr, x.val.cell? ⟨b', off' + k * 2 + 1, none⟩ = some (.string D) := fun x => by rw [x.cell (by omega)]; exact (hbel.cell (p := ⟨b', _, none⟩) hl').trans (hcells' (k * 2 + 1) _ fb.2)
        have hk0 : (0 : Int) ≤ (k : Int) := Int.natCast_nonneg _
        have hk1 : (k : Int) < (n : Int) := by omega
        have S := hide (And.intro s1 s2)
        clear s1 s2 hX hY fa fb hcells hcells' hr hr'
        have hne := cls_nonempty wr.heap.size wr
        by_cases he : A = C ∧ B = D
        · have hs : ∀ W, (binOp .neq 40 (.agg #[.string A, .string B]) (.agg #[.string C, .string D])).run Try.prog W = .ok (.bool false) W := fun W => run_neL A B C D false (by rw [he.1, he.2]; simp) W
          have HE := hide he
          clear he
          go_wp2_with fail
          refine region_cls (by kernel_rfl) (by kernel_rfl) ?_
          repeat (go_big_quiet_step ((fail)))
          refine wpQuiet_nil ?_
          rintro wq ⟨⟨_, hq⟩, rfl⟩
          have H7 := hide (show zs.take (k + 1) = ys.take (k + 1) by rw [(unhide S).1, (unhide S).2, unhide HT, (unhide HE).1, (unhide HE).2])
          go_wp2_with fail
          go_roundw
          case rel => exact ⟨k + 1, by omega, by go_num, unhide H7, hbel.trans (hq.mono hsz)⟩
          case measure => simp [intOf]; omega
        · have hs : ∀ W, (binOp .neq 40 (.agg #[.string A, .string B]) (.agg #[.string C, .string D])).run Try.prog W = .ok (.bool true) W := fun W => run_neL A B C D true (by
            rw [ByteArray.toList_eq, ByteArray.toList_eq, ByteArray.toList_eq, ByteArray.toList_eq]
            cases h1 : (A.data.toList == C.data.toList)
            · rfl
            · cases h2 : (B.data.toList == D.data.toList)
              · rfl
              · exact absurd ⟨Go.WideShapes.bytes_inj (beq_iff_eq.1 h1), Go.WideShapes.bytes_inj (beq_iff_eq.1 h2)⟩ he) W
          have HE := hide (show ¬ zs = ys from fun e => he (by
            have h1 := (unhide S).1
            have h2 := (unhide S).2
            rw [e, h2] at h1
            have := List.append_cancel_left h1
            simp only [List.cons.injEq, Prod.mk.injEq, and_true] at this
            exact ⟨this.1.symm, this.2.symm⟩))
          clear he
          go_wp2_with fail
          refine region_cls (by kernel_rfl) (by kernel_rfl) ?_
          repeat (go_big_quiet_step ((fail)))
          refine wpQuiet_nil ?_
          rintro wq ⟨⟨_, hq⟩, rfl⟩
          go_wp2_with fail
          go_ret
          exact ⟨false, rfl, ⟨fun h => (by cases h), fun h => absurd h (unhide HE)⟩, hbel.trans (hq.mono hsz)⟩
      · have hkf : decide ((k : Int) < (n : Int)) = false := by simp; omega
        have H7 := hide (show zs = ys by
          have := unhide HT
          rwa [List.take_of_length_le (by have := unhide HN; omega), List.take_of_length_le (by have := unhide HM; omega)] at this)
        go_wp2_with fail
        go_ret
        exact ⟨true, rfl, ⟨fun _ => unhide H7, fun _ => rfl⟩, hbel⟩
  · have hne : ((zs.length : Int) != (ys.length : Int)) = true := by simp; omega
    have HE := hide (show ¬ zs = ys from fun e => hll (by rw [e]))
    go_enter Try.func16, Try.ntmps16
    go_wp2_with fail
    go_ret
    exact ⟨false, rfl, ⟨fun h => (by cases h), fun h => absurd h (unhide HE)⟩, Below.refl _ _⟩
end Go.Proofs.Ythlphelkcamagaa.Lab
