/- Lists of numbers are drawn; the same numbers are the same. -/
import Derived.Test.YtddbgchmpehffaaIntsPut
import Derived.Test.YtddbgchmpehffaaRd
namespace Go.Proofs.Ytddbgchmpehffaa.Draw
open Go.RowKit Rw Ints ListMath
set_option linter.unusedVariables false
attribute [local go_sem ↓] Go.wp_at_zero Go.wp_at_succ
theorem own_new {w : World} {cs : Array Value} {t : TypeId} {n size base B : Nat} (hB : B = w.heap.size) (h : cs.size = n * size) (hn : n ≤ maxLen) (hb : base ≤ w.heap.size) : (w.alloc (.cells cs t)).ownsRow base t size (.slice (some ⟨B, 0, none⟩) n n) n cs.toList := by
  subst hB
  exact ⟨by simpa using h, .inr ⟨w.heap.size, n, cs, rfl, hb, heap_alloc_new w _, Nat.le_refl _, hn, h, by rw [← h, ← Array.length_toList]; exact List.take_length⟩⟩
set_option maxRecDepth 100000 in
set_option maxHeartbeats 4000000 in
theorem list_any (rb p : Nat) (w : World) (h : Rd w rb p) (hp : p ≤ 700000) :
    Calls Try.prog 28 #[.pointer (some ⟨rb, 0, none⟩)] w fun e w' => ∃ (zs : List Int) (v : Value), e = .returned v ∧ zs.length ≤ 60 ∧ w'.ownsRow w.heap.size 3 1 v zs.length (flat zs) ∧ (∃ p', p' ≤ p + 100 ∧ Rd w' rb p') ∧ w.grownBy w' (some rb) := by
  obtain ⟨i0, hi, hz0, hz1, hz2⟩ := info_parts info_int
  have hrl := h.lt
  have hmx : 1 ≤ maxLen := by unfold maxLen; omega
  have HR := hide h
  clear h
  go_enter Try.func28, Try.ntmps28
  go_wp2_with fail
  refine (pick_any rb p _ _ ((unhide HR).below ((Below.refl _ _).alloc (Nat.le_refl _) _)) (by omega) (by omega)).mono ?_
  rintro e w1 ⟨x, rfl, x0, x1, -, r1, g1⟩
  have x2 : x < 3 := x1 (by omega)
  have o1 := own_kept (own_empty (w := w) (base := w.heap.size) (e := 3) (size := 1) (Nat.le_refl _)) g1 hrl
  have q1 : w.grownBy w1 (some rb) := grown_trans (grown_below ((Below.refl _ _).alloc (Nat.le_refl _) _)) g1
  clear x1 HR g1
  go_wp2_with fail
  refine (pick_any rb (p + 1) _ _ r1 (by omega) (by omega)).mono ?_
  rintro e w4 ⟨n, rfl, n0, n1, -, r4, g4⟩
  have n2 : n < 8 := n1 (by omega)
  have o4 := own_kept o1 g4 hrl
  have q4 := grown_trans q1 g4
  clear o1 q1 r1 g4 n1
  go_wp2_with fail
  go_loopw [3, 4, 5] (fun ov nv kv wr => ∃ (k : Nat) (L : List Int) (p' : Nat) (N : Int), kv = .int .i64 (k : Int) ∧ L.length + k ≤ 7 ∧ p' ≤ p + 2 + L.length ∧ nv = .int .i64 N ∧ 0 ≤ N ∧ N ≤ 3 + 3 * (L.length : Int) ∧ wr.ownsRow w.heap.size 3 1 ov L.length (flat L) ∧ Rd wr rb p' ∧ w.grownBy wr (some rb)) (fun _ _ kv _ => (intOf kv).toNat)
  case atStart => exact ⟨n.toNat, [], p + 1 + 1, x, by rw [Int.toNat_of_nonneg n0], by simp; omega, by simp, rfl, x0, by simp; omega, o4, r4, q4⟩
  case round =>
    clear o4 q4 r4
    obtain ⟨k, L, p', N, rfl, hk, hp', rfl, hN0, hN1, hown, hrd, hg⟩ := hrel
    have hsz := hg.size
    by_cases hk0 : 0 < k
    · have hk1 : (0 : Int) < (k : Int) := by omega
      go_wp2_with (at_builtin; refine app_wp _ rfl _ _ _ rfl w.heap.size 3 i0 _ 1 8 Try.underlying23 hi hz0 hz1 hz2 rfl (by omega) _ L.length _ rfl (hown.alloc _) _ 1 [.int .i64 N] rfl (lies_new rfl rfl hmx) (by simp [Value.oneCell']) (by unfold maxLen; omega) (by omega) (by simp; omega) ?_; intro vn w9 on gn an)
      have ge := own_ge hown
      have R : w.grownBy w9 (some rb) := grown_other (grown_trans hg (grown_below ((Below.refl _ _).alloc (Nat.le_refl _) _))) gn ge
      have R1 : Rd w9 rb p' := (hrd.below ((Below.refl _ _).alloc (Nat.le_refl _) _)).grown gn (fun k hk => by have := ge k hk; omega)
      have R2 : w9.ownsRow w.heap.size 3 1 vn (L ++ [N]).length (flat (L ++ [N])) := by rw [List.length_append, flat_append]; exact on
      clear on gn ge hown hg hrd an
      refine (pick_any rb p' _ _ R1 (by omega) (by omega)).mono ?_
      rintro e w5 ⟨d, rfl, d0, d1, -, r5, g5⟩
      have d2 : d < 3 := d1 (by omega)
      have o5 := own_kept R2 g5 hrl
      have q5 := grown_trans R g5
      clear d1 R R1 R2 g5
      have HO := hide o5
      clear o5
      go_wp2
      go_roundw
      case rel => exact ⟨k - 1, L ++ [N], p' + 1, N + 1 + d, by go_num, by simp; omega, by simp; omega, by go_num, by omega, by simp; omega, unhide HO, r5, q5⟩
      case measure => simp [intOf]; omega
    · have hk1 : decide ((0 : Int) < (k : Int)) = false := by simp; omega
      go_wp2_with fail
      refine (pick_any rb p' _ _ hrd (by omega) (by omega)).mono ?_
      rintro e w5 ⟨c, rfl, c0, -, -, r5, g5⟩
      have o5 := own_kept hown g5 hrl
      have q5 := grown_trans hg g5
      have hsz5 := q5.size
      clear hown hg hrd g5 hsz
      rcases (show c = 0 ∨ c = 1 ∨ c = 2 ∨ (c ≠ 0 ∧ c ≠ 1 ∧ c ≠ 2) from by omega) with rfl | rfl | rfl | ⟨e0, e1, e2⟩
      · go_wp2_with (at_builtin; refine app_wp _ rfl _ _ _ rfl w.heap.size 3 i0 _ 1 8 Try.underlying23 hi hz0 hz1 hz2 rfl (by omega) _ L.length _ rfl (o5.alloc _) _ 1 [.int .i64 0] rfl (lies_new rfl rfl hmx) (by simp [Value.oneCell']) (by unfold maxLen; omega) (by omega) (by simp; omega) ?_; intro vn w9 on gn an)
        have ge := own_ge o5
        have R : w.grownBy w9 (some rb) := grown_other (grown_trans q5 (grown_below ((Below.refl _ _).alloc (Nat.le_refl _) _))) gn ge
        have R1 : Rd w9 rb (p' + 1) := (r5.below ((Below.refl _ _).alloc (Nat.le_refl _) _)).grown gn (fun k hk => by have := ge k hk; omega)
        have R2 : w9.ownsRow w.heap.size 3 1 vn (L ++ [0]).length (flat (L ++ [0])) := by rw [List.length_append, flat_append]; exact on
        clear on gn ge o5 q5 r5 an
        go_ret
        exact ⟨L ++ [0], _, rfl, by simp; omega, R2, ⟨p' + 1, by omega, R1⟩, R⟩
      · go_wp2_with fail
        go_loopw [3] (fun ov wr => ∃ (M : List Int) (p2 : Nat) (am : Option Addr) (cm : Nat), ov = .slice am M.length cm ∧ M.length ≤ 50 ∧ p2 ≤ p + 20 + M.length ∧ wr.ownsRow w.heap.size 3 1 ov M.length (flat M) ∧ Rd wr rb p2 ∧ w.grownBy wr (some rb)) (fun ov _ => 100 - slen ov)
        case atStart => obtain ⟨-, a5, c5, hv5, -⟩ := is_of_own o5; exact ⟨L, p' + 1, a5, c5, hv5, by omega, by omega, o5, r5, q5⟩
        case round =>
          clear o5 r5 q5 hsz5
          obtain ⟨M, p2, am, cm, rfl, hM, hp2, hown, hrd, hg⟩ := hrel
          have hsz := hg.size
          go_wp2_with fail
          refine (pick_any rb p2 _ _ hrd (by omega) (by omega)).mono ?_
          rintro e w6 ⟨d, rfl, d0, d1, -, r6, g6⟩
          have d2 : d < 2 := d1 (by omega)
          have o6 := own_kept hown g6 hrl
          have q6 := grown_trans hg g6
          have hsz6 := q6.size
          clear hown hg hrd g6 hsz d1
          by_cases hlt : (M.length : Int) < 40 + d
          · have hM2 : M.length ≤ 49 := by omega
            go_wp2_with (at_builtin; refine app_wp _ rfl _ _ _ rfl w.heap.size 3 i0 _ 1 8 Try.underlying23 hi hz0 hz1 hz2 rfl (by omega) _ M.length _ rfl (o6.alloc _) _ 1 [.int .i64 (100 + (M.length : Int))] rfl (lies_new rfl rfl hmx) (by simp [Value.oneCell']) (by unfold maxLen; omega) (by omega) (by simp; omega) ?_; intro vn w9 on gn an)
            have ge := own_ge o6
            have R : w.grownBy w9 (some rb) := grown_other (grown_trans q6 (grown_below ((Below.refl _ _).alloc (Nat.le_refl _) _))) gn ge
            have R1 : Rd w9 rb (p2 + 1) := (r6.below ((Below.refl _ _).alloc (Nat.le_refl _) _)).grown gn (fun k hk => by have := ge k hk; omega)
            have R2 : w9.ownsRow w.heap.size 3 1 vn (M ++ [100 + (M.length : Int)]).length (flat (M ++ [100 + (M.length : Int)])) := by rw [List.length_append, flat_append]; exact on
            obtain ⟨an', cn, hvn⟩ : ∃ a c, vn = .slice a (M.length + 1) c := by obtain ⟨-, a, c, e, -⟩ := lies_of_own on; exact ⟨a, c, e⟩
            have HS := hide (show slen vn = M.length + 1 by rw [hvn]; rfl)
            have HV := hide hvn
            have HR2 := hide R2
            clear on gn ge o6 q6 r6 an hvn R2
            go_wp2_with fail
            go_roundw
            case rel => exact ⟨M ++ [100 + (M.length : Int)], p2 + 1, an', cn, by rw [unhide HV]; simp, by simp; omega, by simp; omega, unhide HR2, R1, R⟩
            case measure => show 100 - slen vn < 100 - M.length; rw [unhide HS]; omega
          · have hlf : decide ((M.length : Int) < 40 + d) = false := by simpa using hlt
            go_wp2_with fail
            go_ret
            exact ⟨M, _, rfl, by omega, o6, ⟨p2 + 1, by omega, r6⟩, q6⟩
      · have IL := hide (is_of_own o5)
        go_wp2_with (at_builtin; refine app_wp _ rfl _ _ _ rfl w.heap.size 3 i0 _ 1 8 Try.underlying23 hi hz0 hz1 hz2 rfl (by omega) _ 1 [.int .i64 (-1)] rfl (own_new rfl rfl hmx hsz5) _ L.length (flat L) rfl ((unhide IL).alloc _) (flat_oneCell _) (by unfold maxLen; omega) (by omega) (by simp; omega) ?_; intro vn w9 on gn an)
        have R : w.grownBy w9 (some rb) := grown_other (grown_trans q5 (grown_below ((Below.refl _ _).alloc (Nat.le_refl _) _))) gn (by intro k hk; have e := Option.some.inj hk; simp at e; omega)
        have R1 : Rd w9 rb (p' + 1) := (r5.below ((Below.refl _ _).alloc (Nat.le_refl _) _)).grown gn (by intro k hk; have e := Option.some.inj hk; simp at e; omega)
        have R2 : w9.ownsRow w.heap.size 3 1 vn ([-1] ++ L).length (flat ([-1] ++ L)) := by rw [List.length_append, flat_append]; exact on
        clear on gn o5 q5 r5 an
        go_ret
        exact ⟨[-1] ++ L, _, rfl, by simp; omega, R2, ⟨p' + 1, by omega, R1⟩, R⟩
      · have f0 : (c == 0) = false := by simpa using e0
        have f1 : (c == 1) = false := by simpa using e1
        have f2 : (c == 2) = false := by simpa using e2
        go_wp2_with fail
        go_ret
        exact ⟨L, _, rfl, by omega, o5, ⟨p' + 1, by omega, r5⟩, q5⟩
set_option maxHeartbeats 2000000 in
theorem draw_listboth {a : Option Addr} {len cap : Nat} {zs : List Int} (w0 w : World) (h : IsRow .u8 w0 a len cap zs) (hB : Below w0.heap.size w0 w) :
    Calls Try.prog 10 #[.slice a len cap] w fun e w' => ∃ (zs ys : List Int) (v u : Value), e = .returned (.tuple #[v, u]) ∧ zs.length ≤ 60 ∧ ys.length ≤ 60 ∧ Is w' v zs ∧ Is w' u ys ∧ Below w.heap.size w w' := by
  have HO := hide (open_any w0 w h hB)
  clear h hB
  go_enter Try.func10, Try.ntmps10
  go_wp2_with fail
  refine (unhide HO).mono ?_
  rintro e w1 ⟨rfl, r1, b1⟩
  have hlt := r1.lt
  have hs1 := b1.size
  go_wp2_with fail
  refine (list_any w.heap.size 0 _ r1 (by omega)).mono ?_
  rintro e w2 ⟨zs, v, rfl, hl, o2, ⟨p2, hp2, r2⟩, q2⟩
  clear r1 HO
  go_wp2_with fail
  refine (list_any w.heap.size p2 _ r2 (by omega)).mono ?_
  rintro e w3 ⟨ys, u, rfl, hl', o3, ⟨p3, hp3, r3⟩, q3⟩
  have o3' := own_kept o2 q3 hlt
  have q4 := grown_trans q2 q3
  have b4 := b1.trans (below_of_grown q4 (Nat.le_refl _) hs1)
  have S1 := hide (is_of_own o3')
  have S2 := hide (is_of_own o3)
  clear o3 o3' o2 q2 q3 r2 r3
  go_wp2_with fail
  go_ret2
  exact ⟨zs, ys, _, _, rfl, hl, hl', unhide S1, unhide S2, b4⟩
end Go.Proofs.Ytddbgchmpehffaa.Draw
