/- My own texts of one claim, laid together by program: DrawMat2, DrawFind. -/
import Derived.Test.YtbkolpiekcifpaaG45373619be
import Derived.Test.YtbkolpiekcifpaaG6096761829
import Derived.Test.YtbkolpiekcifpaaG2b0cdbdb0c
/- Matches are drawn, also such as are none. -/
namespace Go.Proofs.Ytbkolpiekcifpaa.Draw
open Go.RowKit Rw Mat
set_option linter.unusedVariables false
attribute [local go_sem ↓] Go.wp_at_zero Go.wp_at_succ
theorem size3 : (⟨#[97, 112, 112]⟩ : ByteArray).size ≤ 100 := by decide
theorem size0 : ByteArray.empty.size ≤ 100 := by decide
theorem one0 : (0 : Int) ≤ 1 := by decide
theorem one5 : (1 : Int) ≤ 5 := by decide
def slenM : Value → Nat
  | .slice _ n _ => n
  | _ => 0
theorem small_snocM {L : List Mat.E} {x : Mat.E} (h : ∀ y ∈ L, smallM y) (hx : smallM x) : ∀ y ∈ L ++ [x], smallM y := by
  intro y hy
  rw [List.mem_append, List.mem_singleton] at hy
  rcases hy with hy | rfl
  · exact h y hy
  · exact hx
set_option maxRecDepth 100000 in
set_option maxHeartbeats 4000000 in
theorem anymatches_any (rb p : Nat) (w : World) (h : Rd w rb p) (hp : p ≤ 700000) :
    Calls Try.prog 43 #[.pointer (some ⟨rb, 0, none⟩)] w fun e w' => ∃ (zs : List Mat.E) (v : Value), e = .returned v ∧ zs.length ≤ 20 ∧ (∀ x ∈ zs, smallM x) ∧ w'.ownsRow w.heap.size 42 3 v zs.length (Mat.flat zs) ∧ (∃ p', p' ≤ p + 100 ∧ Rd w' rb p') ∧ w.grownBy w' (some rb) := by
  obtain ⟨i0, hi, hz0, hz1, hz2⟩ := info_parts Mat.info_e
  have hrl := h.lt
  have hmx : 1 ≤ maxLen := by unfold maxLen; omega
  have HR := hide h
  clear h
  go_enter Try.func43, Try.ntmps43
  go_wp2_with fail
  refine (matches_any rb p _ (unhide HR) (by omega)).mono ?_
  rintro e w1 ⟨L, v, rfl, hL, hsm, o1, ⟨p1, hp1, r1⟩, q1⟩
  have HM := hide hsm
  clear HR hsm
  go_wp2_with fail
  refine (pick_any rb p1 _ _ r1 (by omega) (by omega)).mono ?_
  rintro e w5 ⟨c, rfl, c0, -, -, r5, g5⟩
  have o5 := own_kept o1 g5 hrl
  have q5 := grown_trans q1 g5
  have hsz5 := q5.size
  clear o1 q1 r1 g5
  rcases (show c = 0 ∨ c = 1 ∨ c = 2 ∨ (c ≠ 0 ∧ c ≠ 1 ∧ c ≠ 2) from by omega) with rfl | rfl | rfl | ⟨e0, e1, e2⟩
  · go_wp2_with fail
    have hone := one_new rb (p1 + 1) [0, 5] _ r5 (by omega) (by simp) (by simp)
    simp only [List.map_cons, List.map_nil, List.length_cons, List.length_nil, Nat.zero_add, Nat.reduceAdd] at hone
    refine hone.mono ?_
    clear hone
    rintro e w6 ⟨d, rfl, hd, r6, g6⟩
    have D0 := hide (show 0 ≤ d ∧ d ≤ 5 by
      simp only [List.mem_cons, List.not_mem_nil, or_false] at hd
      omega)
    have o6 := own_kept o5 g6 hrl
    have q6 := grown_trans q5 g6
    have hsz6 := q6.size
    clear hd o5 q5 r5 g6 hsz5
    go_wp2_with (at_builtin; refine app_wp _ rfl _ _ _ rfl w.heap.size 42 i0 _ 3 40 Try.underlying43 hi hz0 hz1 hz2 rfl (by omega) _ L.length _ rfl (o6.alloc _) _ 1 [.int .i64 d, .string ⟨#[97, 112, 112]⟩, .string ByteArray.empty] rfl (lies_new rfl rfl hmx) (by simp [Value.oneCell']) (by unfold maxLen; omega) (by omega) (by simp; omega) ?_; intro vn w9 on gn an)
    have ge := own_ge o6
    have R := hide (show w.grownBy w9 (some rb) from grown_other (grown_trans q6 (grown_below ((Below.refl _ _).alloc (Nat.le_refl _) _))) gn ge)
    have R1 := hide (show Rd w9 rb (p1 + 1 + 1) from (r6.below ((Below.refl _ _).alloc (Nat.le_refl _) _)).grown gn (fun k hk => by have := ge k hk; omega))
    have R2 := hide (show w9.ownsRow w.heap.size 42 3 vn (L ++ [((d, ⟨#[97, 112, 112]⟩, ByteArray.empty) : Mat.E)]).length (Mat.flat (L ++ [((d, ⟨#[97, 112, 112]⟩, ByteArray.empty) : Mat.E)])) by rw [List.length_append, flat_snocM]; exact on)
    clear on gn ge o6 q6 r6 an
    go_wp2_with fail
    go_ret
    exact ⟨_, _, rfl, by simp; omega, small_snocM (x := ((d, ⟨#[97, 112, 112]⟩, ByteArray.empty) : Mat.E)) (unhide HM) ⟨(unhide D0).1, (unhide D0).2, size3, size0⟩, unhide R2, ⟨_, by omega, unhide R1⟩, unhide R⟩
  · go_wp2_with fail
    have hof := of_new rb (p1 + 1) [⟨#[]⟩, ⟨#[65]⟩] _ r5 (by omega) (by simp) (by simp)
    simp only [List.map_cons, List.map_nil, List.length_cons, List.length_nil, Nat.zero_add, Nat.reduceAdd] at hof
    refine hof.mono ?_
    clear hof
    rintro e w6 ⟨A, rfl, hA, r6, g6⟩
    have A0 := hide (show A.size ≤ 100 by
      simp only [List.mem_cons, List.not_mem_nil, or_false] at hA
      rcases hA with rfl | rfl <;> decide)
    have o6 := own_kept o5 g6 hrl
    have q6 := grown_trans q5 g6
    have hsz6 := q6.size
    clear hA o5 q5 r5 g6 hsz5
    go_wp2_with (at_builtin; refine app_wp _ rfl _ _ _ rfl w.heap.size 42 i0 _ 3 40 Try.underlying43 hi hz0 hz1 hz2 rfl (by omega) _ L.length _ rfl (o6.alloc _) _ 1 [.int .i64 1, .string A, .string ByteArray.empty] rfl (lies_new rfl rfl hmx) (by simp [Value.oneCell']) (by unfold maxLen; omega) (by omega) (by simp; omega) ?_; intro vn w9 on gn an)
    have ge := own_ge o6
    have R := hide (show w.grownBy w9 (some rb) from grown_other (grown_trans q6 (grown_below ((Below.refl _ _).alloc (Nat.le_refl _) _))) gn ge)
    have R1 := hide (show Rd w9 rb (p1 + 1 + 1) from (r6.below ((Below.refl _ _).alloc (Nat.le_refl _) _)).grown gn (fun k hk => by have := ge k hk; omega))
    have R2 := hide (show w9.ownsRow w.heap.size 42 3 vn (L ++ [(1, A, ByteArray.empty)]).length (Mat.flat (L ++ [(1, A, ByteArray.empty)])) by rw [List.length_append, flat_snocM]; exact on)
    clear on gn ge o6 q6 r6 an
    go_wp2_with fail
    go_ret
    exact ⟨_, _, rfl, by simp; omega, small_snocM (x := ((1, A, ByteArray.empty) : Mat.E)) (unhide HM) ⟨one0, one5, unhide A0, size0⟩, unhide R2, ⟨_, by omega, unhide R1⟩, unhide R⟩
  · go_wp2_with fail
    go_loopw [3] (fun ov wr => ∃ (M : List Mat.E) (p2 : Nat) (am : Option Addr) (cm : Nat), ov = .slice am M.length cm ∧ M.length ≤ 10 ∧ p2 ≤ p + 20 + M.length ∧ (∀ x ∈ M, smallM x) ∧ wr.ownsRow w.heap.size 42 3 ov M.length (Mat.flat M) ∧ Rd wr rb p2 ∧ w.grownBy wr (some rb)) (fun ov _ => 100 - slenM ov)
    case atStart => obtain ⟨-, a5, c5, hv5, -⟩ := lies_of_own o5; exact ⟨L, p1 + 1, a5, c5, hv5, by omega, by omega, unhide HM, o5, r5, q5⟩
    case round =>
      clear o5 r5 q5 hsz5 HM
      obtain ⟨M, p2, am, cm, rfl, hM, hp2, hsm, hown, hrd, hg⟩ := hrel
      have HM := hide hsm
      clear hsm
      go_wp2_with fail
      refine (pick_any rb p2 _ _ hrd (by omega) (by omega)).mono ?_
      rintro e w6 ⟨d, rfl, d0, d1, -, r6, g6⟩
      have d2 : d < 2 := d1 (by omega)
      have o6 := own_kept hown g6 hrl
      have q6 := grown_trans hg g6
      have hsz6 := q6.size
      clear hown hg hrd g6 d1
      by_cases hlt : (M.length : Int) < 4 + d
      · have hM2 : M.length ≤ 5 := by omega
        go_wp2_with (at_builtin; refine app_wp _ rfl _ _ _ rfl w.heap.size 42 i0 _ 3 40 Try.underlying43 hi hz0 hz1 hz2 rfl (by omega) _ M.length _ rfl (o6.alloc _) _ 1 [.int .i64 2, .string ⟨#[97, 112, 112]⟩, .string ⟨#[113]⟩] rfl (lies_new rfl rfl hmx) (by simp [Value.oneCell']) (by unfold maxLen; omega) (by omega) (by simp; omega) ?_; intro vn w9 on gn an)
        have ge := own_ge o6
        have R : w.grownBy w9 (some rb) := grown_other (grown_trans q6 (grown_below ((Below.refl _ _).alloc (Nat.le_refl _) _))) gn ge
        have R1 : Rd w9 rb (p2 + 1) := (r6.below ((Below.refl _ _).alloc (Nat.le_refl _) _)).grown gn (fun k hk => by have := ge k hk; omega)
        have R2 := hide (show w9.ownsRow w.heap.size 42 3 vn (M ++ [((2, ⟨#[97, 112, 112]⟩, ⟨#[113]⟩) : Mat.E)]).length (Mat.flat (M ++ [((2, ⟨#[97, 112, 112]⟩, ⟨#[113]⟩) : Mat.E)])) by rw [List.length_append, flat_snocM]; exact on)
        obtain ⟨an', cn, hvn⟩ : ∃ a c, vn = .slice a (M.length + 1) c := by obtain ⟨-, a, c, e, -⟩ := lies_of_own on; exact ⟨a, c, e⟩
        have HS := hide (show slenM vn = M.length + 1 by rw [hvn]; rfl)
        have HV := hide hvn
        clear on gn ge o6 q6 r6 an hvn
        go_wp2_with fail
        go_roundw
        case rel => exact ⟨M ++ [((2, ⟨#[97, 112, 112]⟩, ⟨#[113]⟩) : Mat.E)], p2 + 1, an', cn, by rw [unhide HV]; simp, by simp; omega, by simp; omega, small_snocM (unhide HM) ⟨by decide, by decide, by decide, by decide⟩, unhide R2, R1, R⟩
        case measure => show 100 - slenM vn < 100 - M.length; rw [unhide HS]; omega
      · have hlf : decide ((M.length : Int) < 4 + d) = false := by simpa using hlt
        go_wp2_with fail
        go_ret
        exact ⟨M, _, rfl, by omega, unhide HM, o6, ⟨p2 + 1, by omega, r6⟩, q6⟩
  · have f0 : (c == 0) = false := by simpa using e0
    have f1 : (c == 1) = false := by simpa using e1
    have f2 : (c == 2) = false := by simpa using e2
    go_wp2_with fail
    go_ret
    exact ⟨L, _, rfl, by omega, unhide HM, o5, ⟨p1 + 1, by omega, r5⟩, q5⟩
end Go.Proofs.Ytbkolpiekcifpaa.Draw

/- Labels and matches are drawn, for the index; a slice of one match. -/
namespace Go.Proofs.Ytbkolpiekcifpaa.Draw
open Go.RowKit Rw
set_option linter.unusedVariables false
attribute [local go_sem ↓] Go.wp_at_zero Go.wp_at_succ
theorem size_match : (sizeOf (Try.prog.elem 43)).run Try.prog = fun w => .ok 3 w := by kernel_rfl
theorem one_match {w : World} {a : Option Addr} {cap i : Nat} {ms : List Mat.E} (h : Mat.Is w (.slice a ms.length cap) ms) (hi : i < ms.length) :
    ∃ R, (∀ W, (Instr.slice 43 (.slice a ms.length cap) (some (.int .i64 (i : Int))) (some (.int .i64 ((i : Int) + 1))) none).run Try.prog W = .ok R W) ∧ Mat.Is w R [Mat.at' ms i] ∧ ∃ a l q, R = .slice a l q := by
  have hc : ms.length ≤ cap := by obtain ⟨-, a', cap', h1, h2, -⟩ := h; simp only [Value.slice.injEq, true_and] at h1; omega
  have h1 := take_lies (k := 1) (cut_lies h (i := i) (by omega)) (by omega)
  have e1 : (List.drop (i * 3) (Mat.flat ms)).take (1 * 3) = Mat.flat [Mat.at' ms i] := by
    unfold Mat.flat
    rw [← flatOf_drop Mat.flk, ← flatOf_take Mat.flk]
    congr 1
    rw [List.drop_eq_getElem_cons hi, Mat.at_get ms i hi]
    rfl
  rw [e1] at h1
  refine ⟨_, fun W => ?_, h1, _, _, _, rfl⟩
  have e := run_slice_lh (P := Try.prog) W 43 a ms.length cap (by kernel_rfl) .i64 .i64 (i : Int) ((i : Int) + 1) (by omega) (by omega) (by omega)
  rw [e]
  show ((sizeOf (Try.prog.elem 43)).run Try.prog W).andThen _ = _
  rw [size_match]
  have e2 : ((i : Int) + 1).toNat = i + 1 := by omega
  simp [sliced, e2]
end Go.Proofs.Ytbkolpiekcifpaa.Draw
