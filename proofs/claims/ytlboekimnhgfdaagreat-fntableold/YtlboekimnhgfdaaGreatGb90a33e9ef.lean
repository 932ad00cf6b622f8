/- My own texts of one claim, laid together by program: DrawMat, DrawMat2, AlTable, DrawTab. -/
import Derived.Test.YtlboekimnhgfdaaGreatGe28bc76aa9
import Derived.Test.YtlboekimnhgfdaaGreatG5be0a6915a
import Derived.Test.YtlboekimnhgfdaaGreatGb44f913d17
import Derived.Test.YtlboekimnhgfdaaGreatG7d20644357
import Derived.Test.YtlboekimnhgfdaaGreatG817021f609
import Derived.Test.YtlboekimnhgfdaaGreatG40a3abda7d
import Derived.Test.YtlboekimnhgfdaaGreatGd32421efb3
/- Matches are drawn. -/
namespace Go.Proofs.YtlboekimnhgfdaaGreat.Draw
open Go.RowKit Rw Mat
set_option linter.unusedVariables false
attribute [local go_sem ↓] Go.wp_at_zero Go.wp_at_succ
/-- what is drawn is small -/
def smallM (x : Mat.E) : Prop := 0 ≤ x.1 ∧ x.1 ≤ 5 ∧ x.2.1.size ≤ 100 ∧ x.2.2.size ≤ 100
theorem good_smallM {x : Mat.E} (h : smallM x) : Mat.good x := by
  obtain ⟨h1, h2, h3, h4⟩ := h
  refine ⟨?_, by unfold maxLen; omega, by unfold maxLen; omega⟩
  simp [Lit.wf, IntKind.min, IntKind.max, IntKind.signed, IntKind.bits]
  omega
theorem flat_snocM (L : List Mat.E) (x : Mat.E) : Mat.flat (L ++ [x]) = Mat.flat L ++ Mat.fl x := by unfold Mat.flat; rw [flatOf_append, flatOf_one]
set_option maxRecDepth 100000 in
set_option maxHeartbeats 4000000 in
theorem matches_any (rb p : Nat) (w : World) (h : Rd w rb p) (hp : p ≤ 700000) :
    Calls Tryz.prog 95 #[.pointer (some ⟨rb, 0, none⟩)] w fun e w' => ∃ (zs : List Mat.E) (v : Value), e = .returned v ∧ zs.length ≤ 2 ∧ (∀ x ∈ zs, smallM x) ∧ w'.ownsRow w.heap.size 86 3 v zs.length (Mat.flat zs) ∧ (∃ p', p' ≤ p + 10 ∧ Rd w' rb p') ∧ w.grownBy w' (some rb) := by
  obtain ⟨i0, hi, hz0, hz1, hz2⟩ := info_parts Mat.info_e
  have hrl := h.lt
  have hmx : 1 ≤ maxLen := by unfold maxLen; omega
  have HR := hide h
  clear h
  go_enter Tryz.func95, Tryz.ntmps95
  go_wp2_with fail
  refine (pick_any rb p _ _ ((unhide HR).below ((Below.refl _ _).alloc (Nat.le_refl _) _)) (by omega) (by omega)).mono ?_
  rintro e w1 ⟨n, rfl, n0, n1, -, r1, g1⟩
  have n2 : n < 3 := n1 (by omega)
  have o1 := own_kept (own_empty (w := w) (base := w.heap.size) (e := 86) (size := 3) (Nat.le_refl _)) g1 hrl
  have q1 : w.grownBy w1 (some rb) := grown_trans (grown_below ((Below.refl _ _).alloc (Nat.le_refl _) _)) g1
  clear n1 HR g1
  go_wp2_with fail
  go_loopw [3, 4] (fun ov kv wr => ∃ (k : Nat) (L : List Mat.E) (p' : Nat), kv = .int .i64 (k : Int) ∧ L.length + k ≤ 2 ∧ p' ≤ p + 1 + 3 * L.length ∧ (∀ x ∈ L, smallM x) ∧ wr.ownsRow w.heap.size 86 3 ov L.length (Mat.flat L) ∧ Rd wr rb p' ∧ w.grownBy wr (some rb)) (fun _ kv _ => (intOf kv).toNat)
  case atStart => exact ⟨n.toNat, [], p + 1, by rw [Int.toNat_of_nonneg n0], by simp; omega, by simp, by simp, o1, r1, q1⟩
  case round =>
    clear o1 q1 r1
    obtain ⟨k, L, p', rfl, hk, hp', hsm, hown, hrd, hg⟩ := hrel
    have HM := hide hsm
    clear hsm
    have hsz := hg.size
    by_cases hk0 : 0 < k
    · have hk1 : (0 : Int) < (k : Int) := by omega
      go_wp2_with fail
      refine (pick_any rb p' _ _ hrd (by omega) (by omega)).mono ?_
      rintro e w2 ⟨d, rfl, d0, d1, -, r2, g2⟩
      have d2 : d < 4 := d1 (by omega)
      have o2 := own_kept hown g2 hrl
      have q2 := grown_trans hg g2
      clear d1 hown hg hrd g2
      go_wp2_with fail
      have hof := of_new rb (p' + 1) [⟨#[97, 112, 112]⟩, ⟨#[104, 111, 115, 116]⟩, ⟨#[122, 111, 110, 101]⟩, ⟨#[106, 111, 98]⟩] _ r2 (by omega) (by simp) (by simp)
      simp only [List.map_cons, List.map_nil, List.length_cons, List.length_nil, Nat.zero_add, Nat.reduceAdd] at hof
      refine hof.mono ?_
      clear hof
      rintro e w3 ⟨A, rfl, hA, r3, g3⟩
      have A0 := hide (show A.size ≤ 100 by
        simp only [List.mem_cons, List.not_mem_nil, or_false] at hA
        rcases hA with rfl | rfl | rfl | rfl <;> decide)
      have o3 := own_kept o2 g3 hrl
      have q3 := grown_trans q2 g3
      clear hA o2 q2 r2 g3
      go_wp2_with fail
      have hof := of_new rb (p' + 1 + 1) [⟨#[97]⟩, ⟨#[97, 98]⟩, ⟨#[98]⟩, ⟨#[]⟩, ⟨#[97, 98, 99]⟩, ⟨#[120]⟩] _ r3 (by omega) (by simp) (by simp)
      simp only [List.map_cons, List.map_nil, List.length_cons, List.length_nil, Nat.zero_add, Nat.reduceAdd] at hof
      refine hof.mono ?_
      clear hof
      rintro e w4 ⟨B, rfl, hB, r4, g4⟩
      have B0 := hide (show B.size ≤ 100 by
        simp only [List.mem_cons, List.not_mem_nil, or_false] at hB
        rcases hB with rfl | rfl | rfl | rfl | rfl | rfl <;> decide)
      have o4 := own_kept o3 g4 hrl
      have q4 := grown_trans q3 g4
      have hsz4 := q4.size
      clear hB o3 q3 r3 g4 hsz
      go_wp2_with (at_builtin; refine app_wp _ rfl _ _ _ rfl w.heap.size 86 i0 _ 3 40 Tryz.underlying42 hi hz0 hz1 hz2 rfl (by omega) _ L.length _ rfl (o4.alloc _) _ 1 [.int .i64 (1 + d), .string A, .string B] rfl (lies_new rfl rfl hmx) (by simp [Value.oneCell']) (by unfold maxLen; omega) (by omega) (by simp; omega) ?_; intro vn w9 on gn an)
      have ge := own_ge o4
      have R := hide (show w.grownBy w9 (some rb) from grown_other (grown_trans q4 (grown_below ((Below.refl _ _).alloc (Nat.le_refl _) _))) gn ge)
      have R1 := hide (show Rd w9 rb (p' + 1 + 1 + 1) from (r4.below ((Below.refl _ _).alloc (Nat.le_refl _) _)).grown gn (fun k hk => by have := ge k hk; omega))
      have R2 := hide (show w9.ownsRow w.heap.size 86 3 vn (L ++ [(1 + d, A, B)]).length (Mat.flat (L ++ [(1 + d, A, B)])) by rw [List.length_append, flat_snocM]; exact on)
      clear on gn ge o4 q4 r4 an
      go_wp2_with fail
      go_roundw
      case rel => exact ⟨k - 1, L ++ [(1 + d, A, B)], p' + 1 + 1 + 1, by go_num, by simp; omega, by simp; omega, by
          intro x hx
          rw [List.mem_append, List.mem_singleton] at hx
          rcases hx with hx | rfl
          · exact unhide HM x hx
          · exact ⟨by show 0 ≤ 1 + d; omega, by show 1 + d ≤ 5; omega, unhide A0, unhide B0⟩, unhide R2, unhide R1, unhide R⟩
      case measure => simp [intOf]; omega
    · have hk1 : decide ((0 : Int) < (k : Int)) = false := by simp; omega
      go_wp2_with fail
      go_ret
      exact ⟨L, _, rfl, by omega, unhide HM, hown, ⟨p', by omega, hrd⟩, hg⟩
end Go.Proofs.YtlboekimnhgfdaaGreat.Draw

/- Matches are drawn, also such as are none. -/
namespace Go.Proofs.YtlboekimnhgfdaaGreat.Draw
open Go.RowKit Rw Mat
set_option linter.unusedVariables false
attribute [local go_sem ↓] Go.wp_at_zero Go.wp_at_succ
theorem size3 : (⟨#[97, 112, 112]⟩ : ByteArray).size ≤ 100 := by decide
theorem size0 : ByteArray.empty.size ≤ 100 := by decide
theorem one0 : (0 : Int) ≤ 1 := by decide
theorem one5 : (1 : Int) ≤ 5 := by decide
def slenM : Value → Nat
  | .slice _ n _ => n
  | _ => 0
theorem small_snocM {L : List Mat.E} {x : Mat.E} (h : ∀ y ∈ L, smallM y) (hx : smallM x) : ∀ y ∈ L ++ [x], smallM y := by
  intro y hy
  rw [List.mem_append, List.mem_singleton] at hy
  rcases hy with hy | rfl
  · exact h y hy
  · exact hx
set_option maxRecDepth 100000 in
set_option maxHeartbeats 4000000 in
theorem anymatches_any (rb p : Nat) (w : World) (h : Rd w rb p) (hp : p ≤ 700000) :
    Calls Tryz.prog 53 #[.pointer (some ⟨rb, 0, none⟩)] w fun e w' => ∃ (zs : List Mat.E) (v : Value), e = .returned v ∧ zs.length ≤ 20 ∧ (∀ x ∈ zs, smallM x) ∧ w'.ownsRow w.heap.size 86 3 v zs.length (Mat.flat zs) ∧ (∃ p', p' ≤ p + 100 ∧ Rd w' rb p') ∧ w.grownBy w' (some rb) := by
  obtain ⟨i0, hi, hz0, hz1, hz2⟩ := info_parts Mat.info_e
  have hrl := h.lt
  have hmx : 1 ≤ maxLen := by unfold maxLen; omega
  have HR := hide h
  clear h
  go_enter Tryz.func53, Tryz.ntmps53
  go_wp2_with fail
  refine (matches_any rb p _ (unhide HR) (by omega)).mono ?_
  rintro e w1 ⟨L, v, rfl, hL, hsm, o1, ⟨p1, hp1, r1⟩, q1⟩
  have HM := hide hsm
  clear HR hsm
  go_wp2_with fail
  refine (pick_any rb p1 _ _ r1 (by omega) (by omega)).mono ?_
  rintro e w5 ⟨c, rfl, c0, -, -, r5, g5⟩
  have o5 := own_kept o1 g5 hrl
  have q5 := grown_trans q1 g5
  have hsz5 := q5.size
  clear o1 q1 r1 g5
  rcases (show c = 0 ∨ c = 1 ∨ c = 2 ∨ (c ≠ 0 ∧ c ≠ 1 ∧ c ≠ 2) from by omega) with rfl | rfl | rfl | ⟨e0, e1, e2⟩
  · go_wp2_with fail
    have hone := one_new rb (p1 + 1) [0, 5] _ r5 (by omega) (by simp) (by simp)
    simp only [List.map_cons, List.map_nil, List.length_cons, List.length_nil, Nat.zero_add, Nat.reduceAdd] at hone
    refine hone.mono ?_
    clear hone
    rintro e w6 ⟨d, rfl, hd, r6, g6⟩
    have D0 := hide (show 0 ≤ d ∧ d ≤ 5 by
      simp only [List.mem_cons, List.not_mem_nil, or_false] at hd
      omega)
    have o6 := own_kept o5 g6 hrl
    have q6 := grown_trans q5 g6
    have hsz6 := q6.size
    clear hd o5 q5 r5 g6 hsz5
    go_wp2_with (at_builtin; refine app_wp _ rfl _ _ _ rfl w.heap.size 86 i0 _ 3 40 Tryz.underlying42 hi hz0 hz1 hz2 rfl (by omega) _ L.length _ rfl (o6.alloc _) _ 1 [.int .i64 d, .string ⟨#[97, 112, 112]⟩, .string ByteArray.empty] rfl (lies_new rfl rfl hmx) (by simp [Value.oneCell']) (by unfold maxLen; omega) (by omega) (by simp; omega) ?_; intro vn w9 on gn an)
    have ge := own_ge o6
    have R := hide (show w.grownBy w9 (some rb) from grown_other (grown_trans q6 (grown_below ((Below.refl _ _).alloc (Nat.le_refl _) _))) gn ge)
    have R1 := hide (show Rd w9 rb (p1 + 1 + 1) from (r6.below ((Below.refl _ _).alloc (Nat.le_refl _) _)).grown gn (fun k hk => by have := ge k hk; omega))
    have R2 := hide (show w9.ownsRow w.heap.size 86 3 vn (L ++ [((d, ⟨#[97, 112, 112]⟩, ByteArray.empty) : Mat.E)]).length (Mat.flat (L ++ [((d, ⟨#[97, 112, 112]⟩, ByteArray.empty) : Mat.E)])) by rw [List.length_append, flat_snocM]; exact on)
    clear on gn ge o6 q6 r6 an
    go_wp2_with fail
    go_ret
    exact ⟨_, _, rfl, by simp; omega, small_snocM (x := ((d, ⟨#[97, 112, 112]⟩, ByteArray.empty) : Mat.E)) (unhide HM) ⟨(unhide D0).1, (unhide D0).2, size3, size0⟩, unhide R2, ⟨_, by omega, unhide R1⟩, unhide R⟩
  · go_wp2_with fail
    have hof := of_new rb (p1 + 1) [⟨#[]⟩, ⟨#[65]⟩] _ r5 (by omega) (by simp) (by simp)
    simp only [List.map_cons, List.map_nil, List.length_cons, List.length_nil, Nat.zero_add, Nat.reduceAdd] at hof
    refine hof.mono ?_
    clear hof
    rintro e w6 ⟨A, rfl, hA, r6, g6⟩
    have A0 := hide (show A.size ≤ 100 by
      simp only [List.mem_cons, List.not_mem_nil, or_false] at hA
      rcases hA with rfl | rfl <;> decide)
    have o6 := own_kept o5 g6 hrl
    have q6 := grown_trans q5 g6
    have hsz6 := q6.size
    clear hA o5 q5 r5 g6 hsz5
    go_wp2_with (at_builtin; refine app_wp _ rfl _ _ _ rfl w.heap.size 86 i0 _ 3 40 Tryz.underlying42 hi hz0 hz1 hz2 rfl (by omega) _ L.length _ rfl (o6.alloc _) _ 1 [.int .i64 1, .string A, .string ByteArray.empty] rfl (lies_new rfl rfl hmx) (by simp [Value.oneCell']) (by unfold maxLen; omega) (by omega) (by simp; omega) ?_; intro vn w9 on gn an)
    have ge := own_ge o6
    have R := hide (show w.grownBy w9 (some rb) from grown_other (grown_trans q6 (grown_below ((Below.refl _ _).alloc (Nat.le_refl _) _))) gn ge)
    have R1 := hide (show Rd w9 rb (p1 + 1 + 1) from (r6.below ((Below.refl _ _).alloc (Nat.le_refl _) _)).grown gn (fun k hk => by have := ge k hk; omega))
    have R2 := hide (show w9.ownsRow w.heap.size 86 3 vn (L ++ [(1, A, ByteArray.empty)]).length (Mat.flat (L ++ [(1, A, ByteArray.empty)])) by rw [List.length_append, flat_snocM]; exact on)
    clear on gn ge o6 q6 r6 an
    go_wp2_with fail
    go_ret
    exact ⟨_, _, rfl, by simp; omega, small_snocM (x := ((1, A, ByteArray.empty) : Mat.E)) (unhide HM) ⟨one0, one5, unhide A0, size0⟩, unhide R2, ⟨_, by omega, unhide R1⟩, unhide R⟩
  · go_wp2_with fail
    go_loopw [3] (fun ov wr => ∃ (M : List Mat.E) (p2 : Nat) (am : Option Addr) (cm : Nat), ov = .slice am M.length cm ∧ M.length ≤ 10 ∧ p2 ≤ p + 20 + M.length ∧ (∀ x ∈ M, smallM x) ∧ wr.ownsRow w.heap.size 86 3 ov M.length (Mat.flat M) ∧ Rd wr rb p2 ∧ w.grownBy wr (some rb)) (fun ov _ => 100 - slenM ov)
    case atStart => obtain ⟨-, a5, c5, hv5, -⟩ := lies_of_own o5; exact ⟨L, p1 + 1, a5, c5, hv5, by omega, by omega, unhide HM, o5, r5, q5⟩
    case round =>
      clear o5 r5 q5 hsz5 HM
      obtain ⟨M, p2, am, cm, rfl, hM, hp2, hsm, hown, hrd, hg⟩ := hrel
      have HM := hide hsm
      clear hsm
      go_wp2_with fail
      refine (pick_any rb p2 _ _ hrd (by omega) (by omega)).mono ?_
      rintro e w6 ⟨d, rfl, d0, d1, -, r6, g6⟩
      have d2 : d < 2 := d1 (by omega)
      have o6 := own_kept hown g6 hrl
      have q6 := grown_trans hg g6
      have hsz6 := q6.size
      clear hown hg hrd g6 d1
      by_cases hlt : (M.length : Int) < 4 + d
      · have hM2 : M.length ≤ 5 := by omega
        go_wp2_with (at_builtin; refine app_wp _ rfl _ _ _ rfl w.heap.size 86 i0 _ 3 40 Tryz.underlying42 hi hz0 hz1 hz2 rfl (by omega) _ M.length _ rfl (o6.alloc _) _ 1 [.int .i64 2, .string ⟨#[97, 112, 112]⟩, .string ⟨#[113]⟩] rfl (lies_new rfl rfl hmx) (by simp [Value.oneCell']) (by unfold maxLen; omega) (by omega) (by simp; omega) ?_; intro vn w9 on gn an)
        have ge := own_ge o6
        have R : w.grownBy w9 (some rb) := grown_other (grown_trans q6 (grown_below ((Below.refl _ _).alloc (Nat.le_refl _) _))) gn ge
        have R1 : Rd w9 rb (p2 + 1) := (r6.below ((Below.refl _ _).alloc (Nat.le_refl _) _)).grown gn (fun k hk => by have := ge k hk; omega)
        have R2 := hide (show w9.ownsRow w.heap.size 86 3 vn (M ++ [((2, ⟨#[97, 112, 112]⟩, ⟨#[113]⟩) : Mat.E)]).length (Mat.flat (M ++ [((2, ⟨#[97, 112, 112]⟩, ⟨#[113]⟩) : Mat.E)])) by rw [List.length_append, flat_snocM]; exact on)
        obtain ⟨an', cn, hvn⟩ : ∃ a c, vn = .slice a (M.length + 1) c := by obtain ⟨-, a, c, e, -⟩ := lies_of_own on; exact ⟨a, c, e⟩
        have HS := hide (show slenM vn = M.length + 1 by rw [hvn]; rfl)
        have HV := hide hvn
        clear on gn ge o6 q6 r6 an hvn
        go_wp2_with fail
        go_roundw
        case rel => exact ⟨M ++ [((2, ⟨#[97, 112, 112]⟩, ⟨#[113]⟩) : Mat.E)], p2 + 1, an', cn, by rw [unhide HV]; simp, by simp; omega, by simp; omega, small_snocM (unhide HM) ⟨by decide, by decide, by decide, by decide⟩, unhide R2, R1, R⟩
        case measure => show 100 - slenM vn < 100 - M.length; rw [unhide HS]; omega
      · have hlf : decide ((M.length : Int) < 4 + d) = false := by simpa using hlt
        go_wp2_with fail
        go_ret
        exact ⟨M, _, rfl, by omega, unhide HM, o6, ⟨p2 + 1, by omega, r6⟩, q6⟩
  · have f0 : (c == 0) = false := by simpa using e0
    have f1 : (c == 1) = false := by simpa using e1
    have f2 : (c == 2) = false := by simpa using e2
    go_wp2_with fail
    go_ret
    exact ⟨L, _, rfl, by omega, unhide HM, o5, ⟨p1 + 1, by omega, r5⟩, q5⟩
end Go.Proofs.YtlboekimnhgfdaaGreat.Draw

/- Two tables that say the same are the same to the laws. No condition. -/
namespace Go.Proofs.YtlboekimnhgfdaaGreat.Tab
open Go.RowKit Rw
set_option linter.unusedVariables false
attribute [local go_sem ↓] Go.wp_at_zero Go.wp_at_succ
theorem row_form {w : World} {v : Value} {zs : List Row.E} (h : Row.Is w v zs) : ∃ a q, v = .slice a zs.length q := by obtain ⟨cs, -, hL, -⟩ := h; obtain ⟨-, a, q, e, -⟩ := hL; exact ⟨a, q, e⟩
set_option maxHeartbeats 4000000 in
theorem al_table {v u : Value} {zs : List Row.E} {H F : Int} {w : World} (h : Row.Is w v zs) (h' : Row.Is w u zs) :
    Calls Tryz.prog 23 #[.agg #[v, .int .i64 H, .int .i64 F], .agg #[u, .int .i64 H, .int .i64 F]] w fun e w' => e = .returned (.bool true) ∧ Below w.heap.size w w' := by
  have A := hide (fun W (hb : Below w.heap.size w W) => Row.al_rows (h.below hb) (h'.below hb))
  obtain ⟨va, vq, rfl⟩ := row_form h
  obtain ⟨ua, uq, rfl⟩ := row_form h'
  generalize zs.length = n at A ⊢
  have b : Below w.heap.size w ((w.alloc (.cells #[.slice va n vq, .int .i64 H, .int .i64 F] 30)).alloc (.cells #[.slice ua n uq, .int .i64 H, .int .i64 F] 30)) := ((Below.refl _ _).alloc (Nat.le_refl _) _).alloc (by simp) _
  clear h h'
  go_enter Tryz.func23, Tryz.ntmps23
  go_wp2_with fail
  refine (unhide A _ b).mono ?_
  rintro e w1 ⟨rfl, b1⟩
  have d1 := b.trans (b1.mono b.size)
  go_wp2_with fail
  go_ret
  exact ⟨rfl, d1⟩
end Go.Proofs.YtlboekimnhgfdaaGreat.Tab

/- Tables are drawn: l13AnyTable; with matches and times; with an age. -/
namespace Go.Proofs.YtlboekimnhgfdaaGreat.Draw
open Go.RowKit Rw
set_option linter.unusedVariables false
set_option linter.unusedSimpArgs false
attribute [local go_sem ↓] Go.wp_at_zero Go.wp_at_succ
/-- a table as it is drawn: mostly ok, at times not -/
def TG (L : List Row.E) (H F : Int) : Prop := RG L ∧ -2 ≤ H ∧ H ≤ 10000 ∧ -100 ≤ F ∧ F ≤ 10099
theorem tg_ok {L : List Row.E} {H F : Int} (h : Tab.tabB (L, H, F)) : TG L H F := by
  have h2 := h.2.1
  have h3 := h.2.2
  simp only at h2 h3
  exact ⟨rg_ok h.1, by omega, by omega, by omega, by omega⟩
set_option maxRecDepth 100000 in
set_option maxHeartbeats 16000000 in
theorem anytable_any (rb p : Nat) (w : World) (h : Rd w rb p) (hp : p ≤ 200000) :
    Calls Tryz.prog 52 #[.pointer (some ⟨rb, 0, none⟩)] w fun e w' => ∃ (L : List Row.E) (H F now : Int) (ra : Option Addr) (rl rq : Nat), e = .returned (.tuple #[.agg #[.slice ra rl rq, .int .i64 H, .int .i64 F], .int .i64 now]) ∧ (0 ≤ now ∧ now ≤ 2000) ∧ TG L H F ∧ Row.IsF w.heap.size w' (.slice ra rl rq) L ∧ (∃ p', p' ≤ p + 4000 ∧ Rd w' rb p') ∧ w.grownBy w' (some rb) := by
  have hrl := h.lt
  obtain ⟨W, hW⟩ : ∃ W, W = w.alloc (.cells #[.slice none 0 0, .int .i64 0, .int .i64 0] 30) := ⟨_, rfl⟩
  have bW : Below w.heap.size w W := by rw [hW]; exact (Below.refl _ _).alloc (Nat.le_refl _) _
  have zW : W.heap.size = w.heap.size + 1 := by rw [hW]; simp
  have RZ : W.ownsRow w.heap.size 30 3 (.slice (some ⟨w.heap.size, 0, none⟩) 1 1) 1 [.slice none 0 0, .int .i64 0, .int .i64 0] := by rw [hW]; exact Tab.own_new3 (Nat.le_refl _) rfl
  have HT := hide (table_any rb p W (h.below bW) (by omega))
  clear h
  go_enter Tryz.func52, Tryz.ntmps52
  go_wp2_with fail
  rw [← hW]
  clear hW
  refine (unhide HT).mono ?_
  rintro e w1 ⟨L, H, F, now, ra, rl, rq, rfl, hnow, hB, hF, ⟨p1, hp1, r1⟩, g1⟩
  have z1 := g1.size
  have hwz1 : w.heap.size < w1.heap.size := by omega
  have RZ1 := hide (own_kept RZ g1 hrl)
  have hTG := hide (tg_ok hB)
  have hHF := And.intro hB.2.1 hB.2.2
  simp only at hHF
  obtain ⟨sd2, sf2, so2, bb2, zz2⟩ := Tab.box_new (w := w1) (base := w.heap.size) (.slice ra rl rq) H F (by omega)
  obtain ⟨V2, hV2⟩ : ∃ V, w1.alloc (.cells #[.slice ra rl rq, .int .i64 H, .int .i64 0] 30) = V := ⟨_, rfl⟩
  rw [hV2] at sd2 sf2 so2 bb2 zz2
  obtain ⟨W2, hW2⟩ : ∃ V, V2.setCell ⟨w1.heap.size, 2, none⟩ (.int .i64 F) = V := ⟨_, rfl⟩
  rw [hW2] at so2 bb2 zz2
  have HSo2 := hide so2
  have r2 := r1.below bb2
  have RZ2 := hide (own_below (unhide RZ1) bb2)
  have HF1 := hide hF
  have g2 := grown_trans (grown_trans (grown_below (r := some rb) bW) g1) (grown_below bb2)
  clear RZ RZ1 HT hB hF g1 r1 bW so2
  go_wp2_with fail
  refine (pick_any rb p1 _ _ r2 (by omega) (by omega)).mono ?_
  rintro e w3 ⟨c, rfl, c0, c1, -, r3, g3⟩
  have so3 := own_kept (unhide HSo2) g3 hrl
  have RZ3 := hide (own_kept (unhide RZ2) g3 hrl)
  have k3 := grown_trans (grown_below (r := some rb) bb2) g3
  have q3 := grown_trans g2 g3
  have hrW : rb < W.heap.size := by omega
  clear HSo2 RZ2 r2 g2 g3 hV2 hW2 sd2 sf2
  by_cases hc0 : c = 0
  · subst hc0
    have hone := one_new rb (p1 + 1) [-2, 0, 10000] w3 r3 (by omega) (by simp) (by simp)
    simp only [List.map_cons, List.map_nil, List.length_cons, List.length_nil, Nat.zero_add, Nat.reduceAdd] at hone
    have HOne := hide hone
    clear hone
    go_wp2_with fail
    refine (unhide HOne).mono ?_
    rintro e w5 ⟨d, rfl, hd, r5, g5⟩
    have hd' : -100 ≤ d ∧ d ≤ 10099 := by simp only [List.mem_cons, List.not_mem_nil, or_false] at hd; omega
    have hd2 : -2 ≤ d ∧ d ≤ 10000 := by simp only [List.mem_cons, List.not_mem_nil, or_false] at hd; omega
    have so5 := own_kept so3 g5 hrl
    have RZ5 := hide (own_kept (unhide RZ3) g5 hrl)
    have k5 := grown_trans k3 g5
    have q5 := grown_trans q3 g5
    clear hd HOne so3 RZ3 r3 q3 k3 g5
    have kc : w5.cell? ⟨w1.heap.size, 1, none⟩ = some (.int .i64 H) := by rw [so5.cellAt 1 (by omega)]; rfl
    have kf := so5.frozenAt 1
    have ks := (so5.stored 1 (.int .i64 d)).1
    obtain ⟨y5, hy5⟩ : ∃ V, w5.setCell ⟨w1.heap.size, 1, none⟩ (.int .i64 d) = V := ⟨_, rfl⟩
    rw [hy5] at ks
    have so6 : y5.ownsRow w.heap.size 30 3 (.slice (some ⟨w1.heap.size, 0, none⟩) 1 1) 1 [.slice ra rl rq, .int .i64 d, .int .i64 F] := ks
    have on5 := (OnlyAt.refl w1.heap.size w5).setCell 1 (.int .i64 d)
    rw [hy5] at on5
    have r6 : Rd y5 rb (p1 + 1 + 1) := r5.grown (grown_only on5) (fun j hj => by cases hj; omega)
    have RZ6 := hide (on5.own (unhide RZ5) (fun k hk => by simp only [Value.ownBlock, Option.some.injEq] at hk; omega))
    have HF6 := hide ((unhide HF1).grown (grown_other k5 (grown_only on5) (fun j hj => by cases hj; exact Nat.le_refl _)) hrW)
    have q6 := grown_other q5 (grown_only on5) (fun j hj => by cases hj; omega)
    clear ks on5 r5 RZ5 HF1 k5 q5 so5
    obtain ⟨x0, x1, x2⟩ := Tab.box_three so6
    obtain ⟨⟨pc9a, pf9a⟩, ⟨pc9b, pf9b⟩, ⟨pc9c, pf9c⟩, so9, on9⟩ := Tab.box_put (w := y5) (.slice ra rl rq) (.int .i64 d) (.int .i64 F) (unhide RZ6)
    obtain ⟨y9a, hy9a⟩ : ∃ V, y5.setCell ⟨w.heap.size, 0, none⟩ (.slice ra rl rq) = V := ⟨_, rfl⟩
    rw [hy9a] at pc9b pf9b pc9c pf9c so9 on9
    obtain ⟨y9b, hy9b⟩ : ∃ V, y9a.setCell ⟨w.heap.size, 1, none⟩ (.int .i64 d) = V := ⟨_, rfl⟩
    rw [hy9b] at pc9c pf9c so9 on9
    obtain ⟨y9, hy9⟩ : ∃ V, y9b.setCell ⟨w.heap.size, 2, none⟩ (.int .i64 F) = V := ⟨_, rfl⟩
    rw [hy9] at so9 on9
    obtain ⟨e0, e1, e2⟩ := Tab.box_three so9
    have ry := hide (show Rd y9 rb (p1 + 1 + 1) from r6.grown (grown_only on9) (fun j hj => by cases hj; omega))
    have gy := hide (grown_other q6 (grown_only on9) (fun j hj => by cases hj; exact Nat.le_refl _))
    have HFy := hide ((unhide HF6).only on9 (by omega))
    clear on9 so9
    go_wp2_with fail
    refine bodyPost_ret (v := .tuple #[.agg #[.slice ra rl rq, .int .i64 d, .int .i64 F], .int .i64 now]) (by simp [results, Tryz.results52, go_sem, e0, e1, e2]) rfl ?_
    exact ⟨L, d, F, now, ra, rl, rq, rfl, hnow, ⟨(unhide hTG).1, by omega, by omega, by omega, by omega⟩, (unhide HFy).mono (by omega), ⟨p1 + 1 + 1, by omega, unhide ry⟩, unhide gy⟩
  have hc0' : (c == 0) = false := by simp; omega
  by_cases hc1 : c = 1
  · subst hc1
    have kl : w3.cell? ⟨w1.heap.size, 2, none⟩ = some (.int .i64 F) := by rw [so3.cellAt 2 (by omega)]; rfl
    obtain ⟨G, hG⟩ : ∃ G, F + 100 = G := ⟨_, rfl⟩
    have hGw : wrap64 G = G := IntWalk.wrap64_in G ⟨by omega, by omega⟩
    have hone := one_new rb (p1 + 1) [-100, 50, G] w3 r3 (by omega) (by simp) (by simp)
    simp only [List.map_cons, List.map_nil, List.length_cons, List.length_nil, Nat.zero_add, Nat.reduceAdd] at hone
    have HOne := hide hone
    clear hone
    go_wp2_with fail
    refine (unhide HOne).mono ?_
    rintro e w5 ⟨d, rfl, hd, r5, g5⟩
    have hd' : -100 ≤ d ∧ d ≤ 10099 := by simp only [List.mem_cons, List.not_mem_nil, or_false] at hd; omega
    have so5 := own_kept so3 g5 hrl
    have RZ5 := hide (own_kept (unhide RZ3) g5 hrl)
    have k5 := grown_trans k3 g5
    have q5 := grown_trans q3 g5
    clear hd HOne so3 RZ3 r3 q3 k3 g5
    have kc : w5.cell? ⟨w1.heap.size, 2, none⟩ = some (.int .i64 F) := by rw [so5.cellAt 2 (by omega)]; rfl
    have kf := so5.frozenAt 2
    have ks := (so5.stored 2 (.int .i64 d)).1
    obtain ⟨y5, hy5⟩ : ∃ V, w5.setCell ⟨w1.heap.size, 2, none⟩ (.int .i64 d) = V := ⟨_, rfl⟩
    rw [hy5] at ks
    have so6 : y5.ownsRow w.heap.size 30 3 (.slice (some ⟨w1.heap.size, 0, none⟩) 1 1) 1 [.slice ra rl rq, .int .i64 H, .int .i64 d] := ks
    have on5 := (OnlyAt.refl w1.heap.size w5).setCell 2 (.int .i64 d)
    rw [hy5] at on5
    have r6 : Rd y5 rb (p1 + 1 + 1) := r5.grown (grown_only on5) (fun j hj => by cases hj; omega)
    have RZ6 := hide (on5.own (unhide RZ5) (fun k hk => by simp only [Value.ownBlock, Option.some.injEq] at hk; omega))
    have HF6 := hide ((unhide HF1).grown (grown_other k5 (grown_only on5) (fun j hj => by cases hj; exact Nat.le_refl _)) hrW)
    have q6 := grown_other q5 (grown_only on5) (fun j hj => by cases hj; omega)
    clear ks on5 r5 RZ5 HF1 k5 q5 so5
    obtain ⟨x0, x1, x2⟩ := Tab.box_three so6
    obtain ⟨⟨pc9a, pf9a⟩, ⟨pc9b, pf9b⟩, ⟨pc9c, pf9c⟩, so9, on9⟩ := Tab.box_put (w := y5) (.slice ra rl rq) (.int .i64 H) (.int .i64 d) (unhide RZ6)
    obtain ⟨y9a, hy9a⟩ : ∃ V, y5.setCell ⟨w.heap.size, 0, none⟩ (.slice ra rl rq) = V := ⟨_, rfl⟩
    rw [hy9a] at pc9b pf9b pc9c pf9c so9 on9
    obtain ⟨y9b, hy9b⟩ : ∃ V, y9a.setCell ⟨w.heap.size, 1, none⟩ (.int .i64 H) = V := ⟨_, rfl⟩
    rw [hy9b] at pc9c pf9c so9 on9
    obtain ⟨y9, hy9⟩ : ∃ V, y9b.setCell ⟨w.heap.size, 2, none⟩ (.int .i64 d) = V := ⟨_, rfl⟩
    rw [hy9] at so9 on9
    obtain ⟨e0, e1, e2⟩ := Tab.box_three so9
    have ry := hide (show Rd y9 rb (p1 + 1 + 1) from r6.grown (grown_only on9) (fun j hj => by cases hj; omega))
    have gy := hide (grown_other q6 (grown_only on9) (fun j hj => by cases hj; exact Nat.le_refl _))
    have HFy := hide ((unhide HF6).only on9 (by omega))
    clear on9 so9
    go_wp2_with fail
    refine bodyPost_ret (v := .tuple #[.agg #[.slice ra rl rq, .int .i64 H, .int .i64 d], .int .i64 now]) (by simp [results, Tryz.results52, go_sem, e0, e1, e2]) rfl ?_
    exact ⟨L, H, d, now, ra, rl, rq, rfl, hnow, ⟨(unhide hTG).1, by omega, by omega, by omega, by omega⟩, (unhide HFy).mono (by omega), ⟨p1 + 1 + 1, by omega, unhide ry⟩, unhide gy⟩
  have hc1' : (c == 1) = false := by simp; omega
  by_cases hc2 : c = 2
  · subst hc2
    go_wp2_with fail
    refine (anyrows_any rb (p1 + 1) 0 _ r3 (by omega) (by omega) (by omega)).mono ?_
    rintro e w5 ⟨L2, v2, rfl, hRG2, hF5, ⟨p5, hp5, r5⟩, g5⟩
    obtain ⟨ra2, rq2, rfl⟩ := Tab.row_form hF5.is
    obtain ⟨rl2, hrl2⟩ : ∃ n, n = L2.length := ⟨_, rfl⟩
    rw [← hrl2] at hF5 ⊢
    clear hrl2
    have zg5 := g5.size
    have zg3 := q3.size
    have hw3 : w1.heap.size + 1 ≤ w3.heap.size := by have := own_lt so3; omega
    have so5 := own_kept so3 g5 hrl
    have RZ5 := hide (own_kept (unhide RZ3) g5 hrl)
    have q5 := grown_trans q3 g5
    have kc : w5.cell? ⟨w1.heap.size, 0, none⟩ = some (.slice ra rl rq) := by rw [so5.cellAt 0 (by omega)]; rfl
    have kf := so5.frozenAt 0
    have ks := (so5.stored 0 (.slice ra2 rl2 rq2)).1
    obtain ⟨y5, hy5⟩ : ∃ V, w5.setCell ⟨w1.heap.size, 0, none⟩ (.slice ra2 rl2 rq2) = V := ⟨_, rfl⟩
    rw [hy5] at ks
    have so6 : y5.ownsRow w.heap.size 30 3 (.slice (some ⟨w1.heap.size, 0, none⟩) 1 1) 1 [.slice ra2 rl2 rq2, .int .i64 H, .int .i64 F] := ks
    have on5 := (OnlyAt.refl w1.heap.size w5).setCell 0 (.slice ra2 rl2 rq2)
    rw [hy5] at on5
    have r6 : Rd y5 rb p5 := r5.grown (grown_only on5) (fun j hj => by cases hj; omega)
    have RZ6 := hide (on5.own (unhide RZ5) (fun k hk => by simp only [Value.ownBlock, Option.some.injEq] at hk; omega))
    have HF6 := hide ((hF5.only on5 (by omega)).mono (show w.heap.size + 1 ≤ w3.heap.size by omega))
    have q6 := grown_other q5 (grown_only on5) (fun j hj => by cases hj; omega)
    clear ks on5 r5 RZ5 hF5 q5 so5 HF1 so3 RZ3 r3 q3 k3 g5
    obtain ⟨x0, x1, x2⟩ := Tab.box_three so6
    obtain ⟨⟨pc9a, pf9a⟩, ⟨pc9b, pf9b⟩, ⟨pc9c, pf9c⟩, so9, on9⟩ := Tab.box_put (w := y5) (.slice ra2 rl2 rq2) (.int .i64 H) (.int .i64 F) (unhide RZ6)
    obtain ⟨y9a, hy9a⟩ : ∃ V, y5.setCell ⟨w.heap.size, 0, none⟩ (.slice ra2 rl2 rq2) = V := ⟨_, rfl⟩
    rw [hy9a] at pc9b pf9b pc9c pf9c so9 on9
    obtain ⟨y9b, hy9b⟩ : ∃ V, y9a.setCell ⟨w.heap.size, 1, none⟩ (.int .i64 H) = V := ⟨_, rfl⟩
    rw [hy9b] at pc9c pf9c so9 on9
    obtain ⟨y9, hy9⟩ : ∃ V, y9b.setCell ⟨w.heap.size, 2, none⟩ (.int .i64 F) = V := ⟨_, rfl⟩
    rw [hy9] at so9 on9
    obtain ⟨e0, e1, e2⟩ := Tab.box_three so9
    have ry := hide (show Rd y9 rb (p5) from r6.grown (grown_only on9) (fun j hj => by cases hj; omega))
    have gy := hide (grown_other q6 (grown_only on9) (fun j hj => by cases hj; exact Nat.le_refl _))
    have HFy := hide ((unhide HF6).only on9 (by omega))
    clear on9 so9
    go_wp2_with fail
    refine bodyPost_ret (v := .tuple #[.agg #[.slice ra2 rl2 rq2, .int .i64 H, .int .i64 F], .int .i64 now]) (by simp [results, Tryz.results52, go_sem, e0, e1, e2]) rfl ?_
    exact ⟨L2, H, F, now, ra2, rl2, rq2, rfl, hnow, ⟨hRG2, by omega, by omega, by omega, by omega⟩, (unhide HFy).mono (by omega), ⟨p5, by omega, unhide ry⟩, unhide gy⟩
  have hc2' : (c == 2) = false := by simp; omega
  have HF6 := hide ((unhide HF1).grown k3 hrW)
  obtain ⟨x0, x1, x2⟩ := Tab.box_three so3
  obtain ⟨⟨pc9a, pf9a⟩, ⟨pc9b, pf9b⟩, ⟨pc9c, pf9c⟩, so9, on9⟩ := Tab.box_put (w := w3) (.slice ra rl rq) (.int .i64 H) (.int .i64 F) (unhide RZ3)
  obtain ⟨y9a, hy9a⟩ : ∃ V, w3.setCell ⟨w.heap.size, 0, none⟩ (.slice ra rl rq) = V := ⟨_, rfl⟩
  rw [hy9a] at pc9b pf9b pc9c pf9c so9 on9
  obtain ⟨y9b, hy9b⟩ : ∃ V, y9a.setCell ⟨w.heap.size, 1, none⟩ (.int .i64 H) = V := ⟨_, rfl⟩
  rw [hy9b] at pc9c pf9c so9 on9
  obtain ⟨y9, hy9⟩ : ∃ V, y9b.setCell ⟨w.heap.size, 2, none⟩ (.int .i64 F) = V := ⟨_, rfl⟩
  rw [hy9] at so9 on9
  obtain ⟨e0, e1, e2⟩ := Tab.box_three so9
  have ry := hide (show Rd y9 rb (p1 + 1) from r3.grown (grown_only on9) (fun j hj => by cases hj; omega))
  have gy := hide (grown_other q3 (grown_only on9) (fun j hj => by cases hj; exact Nat.le_refl _))
  have HFy := hide ((unhide HF6).only on9 (by omega))
  clear on9 so9
  go_wp2_with fail
  refine bodyPost_ret (v := .tuple #[.agg #[.slice ra rl rq, .int .i64 H, .int .i64 F], .int .i64 now]) (by simp [results, Tryz.results52, go_sem, e0, e1, e2]) rfl ?_
  exact ⟨L, H, F, now, ra, rl, rq, rfl, hnow, unhide hTG, (unhide HFy).mono (by omega), ⟨p1 + 1, by omega, unhide ry⟩, unhide gy⟩
end Go.Proofs.YtlboekimnhgfdaaGreat.Draw
