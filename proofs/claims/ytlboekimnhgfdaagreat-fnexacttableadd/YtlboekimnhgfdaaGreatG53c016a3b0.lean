/- My own texts of one claim, laid together by program: DrawSpan, DrawMat, DrawMat2, TabBox. -/
import Derived.Test.YtlboekimnhgfdaaGreatG75cb14c5d8
import Derived.Test.YtlboekimnhgfdaaGreatGfd13fb5380
import Derived.Test.YtlboekimnhgfdaaGreatG46e89f6f83
import Derived.Test.YtlboekimnhgfdaaGreatG3c4306df0f
/- Times are drawn. -/
namespace Go.Proofs.YtlboekimnhgfdaaGreat.Draw
open Go.RowKit Rw
set_option linter.unusedVariables false
attribute [local go_sem ↓] Go.wp_at_zero Go.wp_at_succ
set_option maxRecDepth 100000 in
set_option maxHeartbeats 4000000 in
theorem span_any (rb p : Nat) (w : World) (h : Rd w rb p) (hp : p ≤ 800000) :
    Calls Tryz.prog 54 #[.pointer (some ⟨rb, 0, none⟩)] w fun e w' => ∃ a b : Int, e = .returned (.tuple #[.int .i64 a, .int .i64 b]) ∧ -1 ≤ a ∧ a ≤ 510 ∧ -2 ≤ b ∧ b ≤ 11000 ∧ Rd w' rb (p + 5) ∧ w.grownBy w' (some rb) := by
  have HR := hide h
  clear h
  go_enter Tryz.func54, Tryz.ntmps54
  go_wp2_with fail
  refine (pick_any rb p _ _ (unhide HR) (by omega) (by omega)).mono ?_
  rintro e w1 ⟨x, rfl, x0, x1, -, r1, g1⟩
  have x2 : x < 256 := x1 (by omega)
  clear x1 HR
  go_wp2_with fail
  refine (pick_any rb (p + 1) _ _ r1 (by omega) (by omega)).mono ?_
  rintro e w2 ⟨y, rfl, y0, y1, -, r2, g2⟩
  have y2 : y < 256 := y1 (by omega)
  have q2 := grown_trans g1 g2
  clear y1 r1 g1 g2
  obtain ⟨Y, hY⟩ : ∃ Y, y * 2 = Y := ⟨_, rfl⟩
  have hY0 : 0 ≤ Y ∧ Y ≤ 510 := by omega
  have hone := one_new rb (p + 1 + 1) [0, x, Y, 100, -1] _ r2 (by omega) (by simp) (by simp)
  simp only [List.map_cons, List.map_nil, List.length_cons, List.length_nil, Nat.zero_add, Nat.reduceAdd] at hone
  have HOne := hide hone
  clear hone
  go_wp2_with fail
  refine (unhide HOne).mono ?_
  clear HOne
  rintro e w3 ⟨a, rfl, ha, r3, g3⟩
  have ha0 : -1 ≤ a ∧ a ≤ 510 := by
    simp only [List.mem_cons, List.not_mem_nil, or_false] at ha
    omega
  have q3 := grown_trans q2 g3
  clear ha q2 r2 g3 hY hY0 x0 x2 y0 y2
  go_wp2_with fail
  refine (pick_any rb (p + 1 + 1 + 1) _ _ r3 (by omega) (by omega)).mono ?_
  rintro e w4 ⟨z, rfl, z0, z1, -, r4, g4⟩
  have z2 : z < 256 := z1 (by omega)
  have q4 := grown_trans q3 g4
  clear z1 r3 g4 q3
  obtain ⟨Z, hZ⟩ : ∃ Z, z * 3 = Z := ⟨_, rfl⟩
  have hZ0 : 0 ≤ Z ∧ Z ≤ 768 := by omega
  obtain ⟨V, hV⟩ : ∃ V, 10000 - a = V := ⟨_, rfl⟩
  have hone := one_new rb (p + 1 + 1 + 1 + 1) [0, 1, 100, Z, V, -1] _ r4 (by omega) (by simp) (by simp)
  simp only [List.map_cons, List.map_nil, List.length_cons, List.length_nil, Nat.zero_add, Nat.reduceAdd] at hone
  have HOne := hide hone
  clear hone
  go_wp2_with fail
  refine (unhide HOne).mono ?_
  clear HOne
  rintro e w5 ⟨d, rfl, hd, r5, g5⟩
  have hd0 : -1 ≤ d ∧ d ≤ 10001 := by
    simp only [List.mem_cons, List.not_mem_nil, or_false] at hd
    omega
  have hsum : a + d ≤ 11000 := by
    simp only [List.mem_cons, List.not_mem_nil, or_false] at hd
    omega
  have q5 := grown_trans q4 g5
  clear hd q4 r4 g5 hZ hV hZ0 z0 z2
  go_wp2_with fail
  go_ret2
  exact ⟨a, a + d, by go_num, ha0.1, ha0.2, by omega, hsum, r5, q5⟩
end Go.Proofs.YtlboekimnhgfdaaGreat.Draw

/- Matches are drawn. -/
namespace Go.Proofs.YtlboekimnhgfdaaGreat.Draw
open Go.RowKit Rw Mat
set_option linter.unusedVariables false
attribute [local go_sem ↓] Go.wp_at_zero Go.wp_at_succ
/-- what is drawn is small -/
def smallM (x : Mat.E) : Prop := 0 ≤ x.1 ∧ x.1 ≤ 5 ∧ x.2.1.size ≤ 100 ∧ x.2.2.size ≤ 100
theorem good_smallM {x : Mat.E} (h : smallM x) : Mat.good x := by
  obtain ⟨h1, h2, h3, h4⟩ := h
  refine ⟨?_, by unfold maxLen; omega, by unfold maxLen; omega⟩
  simp [Lit.wf, IntKind.min, IntKind.max, IntKind.signed, IntKind.bits]
  omega
theorem flat_snocM (L : List Mat.E) (x : Mat.E) : Mat.flat (L ++ [x]) = Mat.flat L ++ Mat.fl x := by unfold Mat.flat; rw [flatOf_append, flatOf_one]
set_option maxRecDepth 100000 in
set_option maxHeartbeats 4000000 in
theorem matches_any (rb p : Nat) (w : World) (h : Rd w rb p) (hp : p ≤ 700000) :
    Calls Tryz.prog 95 #[.pointer (some ⟨rb, 0, none⟩)] w fun e w' => ∃ (zs : List Mat.E) (v : Value), e = .returned v ∧ zs.length ≤ 2 ∧ (∀ x ∈ zs, smallM x) ∧ w'.ownsRow w.heap.size 86 3 v zs.length (Mat.flat zs) ∧ (∃ p', p' ≤ p + 10 ∧ Rd w' rb p') ∧ w.grownBy w' (some rb) := by
  obtain ⟨i0, hi, hz0, hz1, hz2⟩ := info_parts Mat.info_e
  have hrl := h.lt
  have hmx : 1 ≤ maxLen := by unfold maxLen; omega
  have HR := hide h
  clear h
  go_enter Tryz.func95, Tryz.ntmps95
  go_wp2_with fail
  refine (pick_any rb p _ _ ((unhide HR).below ((Below.refl _ _).alloc (Nat.le_refl _) _)) (by omega) (by omega)).mono ?_
  rintro e w1 ⟨n, rfl, n0, n1, -, r1, g1⟩
  have n2 : n < 3 := n1 (by omega)
  have o1 := own_kept (own_empty (w := w) (base := w.heap.size) (e := 86) (size := 3) (Nat.le_refl _)) g1 hrl
  have q1 : w.grownBy w1 (some rb) := grown_trans (grown_below ((Below.refl _ _).alloc (Nat.le_refl _) _)) g1
  clear n1 HR g1
  go_wp2_with fail
  go_loopw [3, 4] (fun ov kv wr => ∃ (k : Nat) (L : List Mat.E) (p' : Nat), kv = .int .i64 (k : Int) ∧ L.length + k ≤ 2 ∧ p' ≤ p + 1 + 3 * L.length ∧ (∀ x ∈ L, smallM x) ∧ wr.ownsRow w.heap.size 86 3 ov L.length (Mat.flat L) ∧ Rd wr rb p' ∧ w.grownBy wr (some rb)) (fun _ kv _ => (intOf kv).toNat)
  case atStart => exact ⟨n.toNat, [], p + 1, by rw [Int.toNat_of_nonneg n0], by simp; omega, by simp, by simp, o1, r1, q1⟩
  case round =>
    clear o1 q1 r1
    obtain ⟨k, L, p', rfl, hk, hp', hsm, hown, hrd, hg⟩ := hrel
    have HM := hide hsm
    clear hsm
    have hsz := hg.size
    by_cases hk0 : 0 < k
    · have hk1 : (0 : Int) < (k : Int) := by omega
      go_wp2_with fail
      refine (pick_any rb p' _ _ hrd (by omega) (by omega)).mono ?_
      rintro e w2 ⟨d, rfl, d0, d1, -, r2, g2⟩
      have d2 : d < 4 := d1 (by omega)
      have o2 := own_kept hown g2 hrl
      have q2 := grown_trans hg g2
      clear d1 hown hg hrd g2
      go_wp2_with fail
      have hof := of_new rb (p' + 1) [⟨#[97, 112, 112]⟩, ⟨#[104, 111, 115, 116]⟩, ⟨#[122, 111, 110, 101]⟩, ⟨#[106, 111, 98]⟩] _ r2 (by omega) (by simp) (by simp)
      simp only [List.map_cons, List.map_nil, List.length_cons, List.length_nil, Nat.zero_add, Nat.reduceAdd] at hof
      refine hof.mono ?_
      clear hof
      rintro e w3 ⟨A, rfl, hA, r3, g3⟩
      have A0 := hide (show A.size ≤ 100 by
        simp only [List.mem_cons, List.not_mem_nil, or_false] at hA
        rcases hA with rfl | rfl | rfl | rfl <;> decide)
      have o3 := own_kept o2 g3 hrl
      have q3 := grown_trans q2 g3
      clear hA o2 q2 r2 g3
      go_wp2_with fail
      have hof := of_new rb (p' + 1 + 1) [⟨#[97]⟩, ⟨#[97, 98]⟩, ⟨#[98]⟩, ⟨#[]⟩, ⟨#[97, 98, 99]⟩, ⟨#[120]⟩] _ r3 (by omega) (by simp) (by simp)
      simp only [List.map_cons, List.map_nil, List.length_cons, List.length_nil, Nat.zero_add, Nat.reduceAdd] at hof
      refine hof.mono ?_
      clear hof
      rintro e w4 ⟨B, rfl, hB, r4, g4⟩
      have B0 := hide (show B.size ≤ 100 by
        simp only [List.mem_cons, List.not_mem_nil, or_false] at hB
        rcases hB with rfl | rfl | rfl | rfl | rfl | rfl <;> decide)
      have o4 := own_kept o3 g4 hrl
      have q4 := grown_trans q3 g4
      have hsz4 := q4.size
      clear hB o3 q3 r3 g4 hsz
      go_wp2_with (at_builtin; refine app_wp _ rfl _ _ _ rfl w.heap.size 86 i0 _ 3 40 Tryz.underlying42 hi hz0 hz1 hz2 rfl (by omega) _ L.length _ rfl (o4.alloc _) _ 1 [.int .i64 (1 + d), .string A, .string B] rfl (lies_new rfl rfl hmx) (by simp [Value.oneCell']) (by unfold maxLen; omega) (by omega) (by simp; omega) ?_; intro vn w9 on gn an)
      have ge := own_ge o4
      have R := hide (show w.grownBy w9 (some rb) from grown_other (grown_trans q4 (grown_below ((Below.refl _ _).alloc (Nat.le_refl _) _))) gn ge)
      have R1 := hide (show Rd w9 rb (p' + 1 + 1 + 1) from (r4.below ((Below.refl _ _).alloc (Nat.le_refl _) _)).grown gn (fun k hk => by have := ge k hk; omega))
      have R2 := hide (show w9.ownsRow w.heap.size 86 3 vn (L ++ [(1 + d, A, B)]).length (Mat.flat (L ++ [(1 + d, A, B)])) by rw [List.length_append, flat_snocM]; exact on)
      clear on gn ge o4 q4 r4 an
      go_wp2_with fail
      go_roundw
      case rel => exact ⟨k - 1, L ++ [(1 + d, A, B)], p' + 1 + 1 + 1, by go_num, by simp; omega, by simp; omega, by
          intro x hx
          rw [List.mem_append, List.mem_singleton] at hx
          rcases hx with hx | rfl
          · exact unhide HM x hx
          · exact ⟨by show 0 ≤ 1 + d; omega, by show 1 + d ≤ 5; omega, unhide A0, unhide B0⟩, unhide R2, unhide R1, unhide R⟩
      case measure => simp [intOf]; omega
    · have hk1 : decide ((0 : Int) < (k : Int)) = false := by simp; omega
      go_wp2_with fail
      go_ret
      exact ⟨L, _, rfl, by omega, unhide HM, hown, ⟨p', by omega, hrd⟩, hg⟩
end Go.Proofs.YtlboekimnhgfdaaGreat.Draw

/- Matches are drawn, also such as are none. -/
namespace Go.Proofs.YtlboekimnhgfdaaGreat.Draw
open Go.RowKit Rw Mat
set_option linter.unusedVariables false
attribute [local go_sem ↓] Go.wp_at_zero Go.wp_at_succ
theorem size3 : (⟨#[97, 112, 112]⟩ : ByteArray).size ≤ 100 := by decide
theorem size0 : ByteArray.empty.size ≤ 100 := by decide
theorem one0 : (0 : Int) ≤ 1 := by decide
theorem one5 : (1 : Int) ≤ 5 := by decide
def slenM : Value → Nat
  | .slice _ n _ => n
  | _ => 0
theorem small_snocM {L : List Mat.E} {x : Mat.E} (h : ∀ y ∈ L, smallM y) (hx : smallM x) : ∀ y ∈ L ++ [x], smallM y := by
  intro y hy
  rw [List.mem_append, List.mem_singleton] at hy
  rcases hy with hy | rfl
  · exact h y hy
  · exact hx
set_option maxRecDepth 100000 in
set_option maxHeartbeats 4000000 in
theorem anymatches_any (rb p : Nat) (w : World) (h : Rd w rb p) (hp : p ≤ 700000) :
    Calls Tryz.prog 53 #[.pointer (some ⟨rb, 0, none⟩)] w fun e w' => ∃ (zs : List Mat.E) (v : Value), e = .returned v ∧ zs.length ≤ 20 ∧ (∀ x ∈ zs, smallM x) ∧ w'.ownsRow w.heap.size 86 3 v zs.length (Mat.flat zs) ∧ (∃ p', p' ≤ p + 100 ∧ Rd w' rb p') ∧ w.grownBy w' (some rb) := by
  obtain ⟨i0, hi, hz0, hz1, hz2⟩ := info_parts Mat.info_e
  have hrl := h.lt
  have hmx : 1 ≤ maxLen := by unfold maxLen; omega
  have HR := hide h
  clear h
  go_enter Tryz.func53, Tryz.ntmps53
  go_wp2_with fail
  refine (matches_any rb p _ (unhide HR) (by omega)).mono ?_
  rintro e w1 ⟨L, v, rfl, hL, hsm, o1, ⟨p1, hp1, r1⟩, q1⟩
  have HM := hide hsm
  clear HR hsm
  go_wp2_with fail
  refine (pick_any rb p1 _ _ r1 (by omega) (by omega)).mono ?_
  rintro e w5 ⟨c, rfl, c0, -, -, r5, g5⟩
  have o5 := own_kept o1 g5 hrl
  have q5 := grown_trans q1 g5
  have hsz5 := q5.size
  clear o1 q1 r1 g5
  rcases (show c = 0 ∨ c = 1 ∨ c = 2 ∨ (c ≠ 0 ∧ c ≠ 1 ∧ c ≠ 2) from by omega) with rfl | rfl | rfl | ⟨e0, e1, e2⟩
  · go_wp2_with fail
    have hone := one_new rb (p1 + 1) [0, 5] _ r5 (by omega) (by simp) (by simp)
    simp only [List.map_cons, List.map_nil, List.length_cons, List.length_nil, Nat.zero_add, Nat.reduceAdd] at hone
    refine hone.mono ?_
    clear hone
    rintro e w6 ⟨d, rfl, hd, r6, g6⟩
    have D0 := hide (show 0 ≤ d ∧ d ≤ 5 by
      simp only [List.mem_cons, List.not_mem_nil, or_false] at hd
      omega)
    have o6 := own_kept o5 g6 hrl
    have q6 := grown_trans q5 g6
    have hsz6 := q6.size
    clear hd o5 q5 r5 g6 hsz5
    go_wp2_with (at_builtin; refine app_wp _ rfl _ _ _ rfl w.heap.size 86 i0 _ 3 40 Tryz.underlying42 hi hz0 hz1 hz2 rfl (by omega) _ L.length _ rfl (o6.alloc _) _ 1 [.int .i64 d, .string ⟨#[97, 112, 112]⟩, .string ByteArray.empty] rfl (lies_new rfl rfl hmx) (by simp [Value.oneCell']) (by unfold maxLen; omega) (by omega) (by simp; omega) ?_; intro vn w9 on gn an)
    have ge := own_ge o6
    have R := hide (show w.grownBy w9 (some rb) from grown_other (grown_trans q6 (grown_below ((Below.refl _ _).alloc (Nat.le_refl _) _))) gn ge)
    have R1 := hide (show Rd w9 rb (p1 + 1 + 1) from (r6.below ((Below.refl _ _).alloc (Nat.le_refl _) _)).grown gn (fun k hk => by have := ge k hk; omega))
    have R2 := hide (show w9.ownsRow w.heap.size 86 3 vn (L ++ [((d, ⟨#[97, 112, 112]⟩, ByteArray.empty) : Mat.E)]).length (Mat.flat (L ++ [((d, ⟨#[97, 112, 112]⟩, ByteArray.empty) : Mat.E)])) by rw [List.length_append, flat_snocM]; exact on)
    clear on gn ge o6 q6 r6 an
    go_wp2_with fail
    go_ret
    exact ⟨_, _, rfl, by simp; omega, small_snocM (x := ((d, ⟨#[97, 112, 112]⟩, ByteArray.empty) : Mat.E)) (unhide HM) ⟨(unhide D0).1, (unhide D0).2, size3, size0⟩, unhide R2, ⟨_, by omega, unhide R1⟩, unhide R⟩
  · go_wp2_with fail
    have hof := of_new rb (p1 + 1) [⟨#[]⟩, ⟨#[65]⟩] _ r5 (by omega) (by simp) (by simp)
    simp only [List.map_cons, List.map_nil, List.length_cons, List.length_nil, Nat.zero_add, Nat.reduceAdd] at hof
    refine hof.mono ?_
    clear hof
    rintro e w6 ⟨A, rfl, hA, r6, g6⟩
    have A0 := hide (show A.size ≤ 100 by
      simp only [List.mem_cons, List.not_mem_nil, or_false] at hA
      rcases hA with rfl | rfl <;> decide)
    have o6 := own_kept o5 g6 hrl
    have q6 := grown_trans q5 g6
    have hsz6 := q6.size
    clear hA o5 q5 r5 g6 hsz5
    go_wp2_with (at_builtin; refine app_wp _ rfl _ _ _ rfl w.heap.size 86 i0 _ 3 40 Tryz.underlying42 hi hz0 hz1 hz2 rfl (by omega) _ L.length _ rfl (o6.alloc _) _ 1 [.int .i64 1, .string A, .string ByteArray.empty] rfl (lies_new rfl rfl hmx) (by simp [Value.oneCell']) (by unfold maxLen; omega) (by omega) (by simp; omega) ?_; intro vn w9 on gn an)
    have ge := own_ge o6
    have R := hide (show w.grownBy w9 (some rb) from grown_other (grown_trans q6 (grown_below ((Below.refl _ _).alloc (Nat.le_refl _) _))) gn ge)
    have R1 := hide (show Rd w9 rb (p1 + 1 + 1) from (r6.below ((Below.refl _ _).alloc (Nat.le_refl _) _)).grown gn (fun k hk => by have := ge k hk; omega))
    have R2 := hide (show w9.ownsRow w.heap.size 86 3 vn (L ++ [(1, A, ByteArray.empty)]).length (Mat.flat (L ++ [(1, A, ByteArray.empty)])) by rw [List.length_append, flat_snocM]; exact on)
    clear on gn ge o6 q6 r6 an
    go_wp2_with fail
    go_ret
    exact ⟨_, _, rfl, by simp; omega, small_snocM (x := ((1, A, ByteArray.empty) : Mat.E)) (unhide HM) ⟨one0, one5, unhide A0, size0⟩, unhide R2, ⟨_, by omega, unhide R1⟩, unhide R⟩
  · go_wp2_with fail
    go_loopw [3] (fun ov wr => ∃ (M : List Mat.E) (p2 : Nat) (am : Option Addr) (cm : Nat), ov = .slice am M.length cm ∧ M.length ≤ 10 ∧ p2 ≤ p + 20 + M.length ∧ (∀ x ∈ M, smallM x) ∧ wr.ownsRow w.heap.size 86 3 ov M.length (Mat.flat M) ∧ Rd wr rb p2 ∧ w.grownBy wr (some rb)) (fun ov _ => 100 - slenM ov)
    case atStart => obtain ⟨-, a5, c5, hv5, -⟩ := lies_of_own o5; exact ⟨L, p1 + 1, a5, c5, hv5, by omega, by omega, unhide HM, o5, r5, q5⟩
    case round =>
      clear o5 r5 q5 hsz5 HM
      obtain ⟨M, p2, am, cm, rfl, hM, hp2, hsm, hown, hrd, hg⟩ := hrel
      have HM := hide hsm
      clear hsm
      go_wp2_with fail
      refine (pick_any rb p2 _ _ hrd (by omega) (by omega)).mono ?_
      rintro e w6 ⟨d, rfl, d0, d1, -, r6, g6⟩
      have d2 : d < 2 := d1 (by omega)
      have o6 := own_kept hown g6 hrl
      have q6 := grown_trans hg g6
      have hsz6 := q6.size
      clear hown hg hrd g6 d1
      by_cases hlt : (M.length : Int) < 4 + d
      · have hM2 : M.length ≤ 5 := by omega
        go_wp2_with (at_builtin; refine app_wp _ rfl _ _ _ rfl w.heap.size 86 i0 _ 3 40 Tryz.underlying42 hi hz0 hz1 hz2 rfl (by omega) _ M.length _ rfl (o6.alloc _) _ 1 [.int .i64 2, .string ⟨#[97, 112, 112]⟩, .string ⟨#[113]⟩] rfl (lies_new rfl rfl hmx) (by simp [Value.oneCell']) (by unfold maxLen; omega) (by omega) (by simp; omega) ?_; intro vn w9 on gn an)
        have ge := own_ge o6
        have R : w.grownBy w9 (some rb) := grown_other (grown_trans q6 (grown_below ((Below.refl _ _).alloc (Nat.le_refl _) _))) gn ge
        have R1 : Rd w9 rb (p2 + 1) := (r6.below ((Below.refl _ _).alloc (Nat.le_refl _) _)).grown gn (fun k hk => by have := ge k hk; omega)
        have R2 := hide (show w9.ownsRow w.heap.size 86 3 vn (M ++ [((2, ⟨#[97, 112, 112]⟩, ⟨#[113]⟩) : Mat.E)]).length (Mat.flat (M ++ [((2, ⟨#[97, 112, 112]⟩, ⟨#[113]⟩) : Mat.E)])) by rw [List.length_append, flat_snocM]; exact on)
        obtain ⟨an', cn, hvn⟩ : ∃ a c, vn = .slice a (M.length + 1) c := by obtain ⟨-, a, c, e, -⟩ := lies_of_own on; exact ⟨a, c, e⟩
        have HS := hide (show slenM vn = M.length + 1 by rw [hvn]; rfl)
        have HV := hide hvn
        clear on gn ge o6 q6 r6 an hvn
        go_wp2_with fail
        go_roundw
        case rel => exact ⟨M ++ [((2, ⟨#[97, 112, 112]⟩, ⟨#[113]⟩) : Mat.E)], p2 + 1, an', cn, by rw [unhide HV]; simp, by simp; omega, by simp; omega, small_snocM (unhide HM) ⟨by decide, by decide, by decide, by decide⟩, unhide R2, R1, R⟩
        case measure => show 100 - slenM vn < 100 - M.length; rw [unhide HS]; omega
      · have hlf : decide ((M.length : Int) < 4 + d) = false := by simpa using hlt
        go_wp2_with fail
        go_ret
        exact ⟨M, _, rfl, by omega, unhide HM, o6, ⟨p2 + 1, by omega, r6⟩, q6⟩
  · have f0 : (c == 0) = false := by simpa using e0
    have f1 : (c == 1) = false := by simpa using e1
    have f2 : (c == 2) = false := by simpa using e2
    go_wp2_with fail
    go_ret
    exact ⟨L, _, rfl, by omega, unhide HM, o5, ⟨p1 + 1, by omega, r5⟩, q5⟩
end Go.Proofs.YtlboekimnhgfdaaGreat.Draw

/- A table's box: laid new, and laid again. No condition. -/
namespace Go.Proofs.YtlboekimnhgfdaaGreat.Tab
open Go.RowKit Rw
set_option linter.unusedVariables false
theorem box_new {w : World} {base : Nat} (v : Value) (H F : Int) (hb : base ≤ w.heap.size) :
    (w.alloc (.cells #[v, .int .i64 H, .int .i64 0] 30)).cell? ⟨w.heap.size, 2, none⟩ = some (.int .i64 0) ∧ (w.alloc (.cells #[v, .int .i64 H, .int .i64 0] 30)).frozen? ⟨w.heap.size, 2, none⟩ = false ∧
    ((w.alloc (.cells #[v, .int .i64 H, .int .i64 0] 30)).setCell ⟨w.heap.size, 2, none⟩ (.int .i64 F)).ownsRow base 30 3 (.slice (some ⟨w.heap.size, 0, none⟩) 1 1) 1 [v, .int .i64 H, .int .i64 F] ∧
    Below w.heap.size w ((w.alloc (.cells #[v, .int .i64 H, .int .i64 0] 30)).setCell ⟨w.heap.size, 2, none⟩ (.int .i64 F)) ∧ w.heap.size + 1 ≤ ((w.alloc (.cells #[v, .int .i64 H, .int .i64 0] 30)).setCell ⟨w.heap.size, 2, none⟩ (.int .i64 F)).heap.size := by
  obtain ⟨V, hV⟩ : ∃ V, V = w.alloc (.cells #[v, .int .i64 H, .int .i64 0] 30) := ⟨_, rfl⟩
  have OV : V.ownsRow base 30 3 (.slice (some ⟨w.heap.size, 0, none⟩) 1 1) 1 [v, .int .i64 H, .int .i64 0] := by rw [hV]; exact own_new3 hb rfl
  have bV : Below w.heap.size w V := by rw [hV]; exact (Below.refl _ _).alloc (Nat.le_refl _) _
  have zV : V.heap.size = w.heap.size + 1 := by rw [hV]; simp
  rw [← hV]
  have on := (OnlyAt.refl w.heap.size V).setCell 2 (.int .i64 F)
  refine ⟨by rw [OV.cellAt 2 (by omega)]; rfl, OV.frozenAt 2, (OV.stored 2 (.int .i64 F)).1, bV.trans (on.below (Nat.le_refl _)), ?_⟩
  have := on.size
  omega
/-- a box that was laid, laid again -/
theorem box_put {w : World} {base q : Nat} {a b c : Value} (x y z : Value) (h : w.ownsRow base 30 3 (.slice (some ⟨q, 0, none⟩) 1 1) 1 [a, b, c]) :
    (w.cell? ⟨q, 0, none⟩ = some a ∧ w.frozen? ⟨q, 0, none⟩ = false) ∧ ((w.setCell ⟨q, 0, none⟩ x).cell? ⟨q, 1, none⟩ = some b ∧ (w.setCell ⟨q, 0, none⟩ x).frozen? ⟨q, 1, none⟩ = false) ∧
    (((w.setCell ⟨q, 0, none⟩ x).setCell ⟨q, 1, none⟩ y).cell? ⟨q, 2, none⟩ = some c ∧ ((w.setCell ⟨q, 0, none⟩ x).setCell ⟨q, 1, none⟩ y).frozen? ⟨q, 2, none⟩ = false) ∧
    (((w.setCell ⟨q, 0, none⟩ x).setCell ⟨q, 1, none⟩ y).setCell ⟨q, 2, none⟩ z).ownsRow base 30 3 (.slice (some ⟨q, 0, none⟩) 1 1) 1 [x, y, z] ∧ OnlyAt q w (((w.setCell ⟨q, 0, none⟩ x).setCell ⟨q, 1, none⟩ y).setCell ⟨q, 2, none⟩ z) := by
  have h1 := (h.stored 0 x).1
  have h2 : (w.setCell ⟨q, 0, none⟩ x).ownsRow base 30 3 (.slice (some ⟨q, 0, none⟩) 1 1) 1 [x, b, c] := h1
  have h3 := (h2.stored 1 y).1
  have h4 : ((w.setCell ⟨q, 0, none⟩ x).setCell ⟨q, 1, none⟩ y).ownsRow base 30 3 (.slice (some ⟨q, 0, none⟩) 1 1) 1 [x, y, c] := h3
  have h5 := (h4.stored 2 z).1
  exact ⟨⟨by rw [h.cellAt 0 (by omega)]; rfl, h.frozenAt 0⟩, ⟨by rw [h2.cellAt 1 (by omega)]; rfl, h2.frozenAt 1⟩, ⟨by rw [h4.cellAt 2 (by omega)]; rfl, h4.frozenAt 2⟩, h5, (((OnlyAt.refl q w).setCell 0 x).setCell 1 y).setCell 2 z⟩
theorem box_kept {w w' : World} {base q rb : Nat} {xs : List Value} (h : w.ownsRow base 30 3 (.slice (some ⟨q, 0, none⟩) 1 1) 1 xs) (hg : w.grownBy w' (some rb)) (hne : q ≠ rb) : w'.ownsRow base 30 3 (.slice (some ⟨q, 0, none⟩) 1 1) 1 xs :=
  h.kept hg (.inr (fun e => by simp only [Value.ownBlock, Option.some.injEq] at e; omega))
theorem box_three {w : World} {base q : Nat} {a b c : Value} (h : w.ownsRow base 30 3 (.slice (some ⟨q, 0, none⟩) 1 1) 1 [a, b, c]) :
    w.cell? ⟨q, 0, none⟩ = some a ∧ w.cell? ⟨q, 1, none⟩ = some b ∧ w.cell? ⟨q, 2, none⟩ = some c :=
  ⟨by rw [h.cellAt 0 (by omega)]; rfl, by rw [h.cellAt 1 (by omega)]; rfl, by rw [h.cellAt 2 (by omega)]; rfl⟩
end Go.Proofs.YtlboekimnhgfdaaGreat.Tab
