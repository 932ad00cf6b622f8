/- Numbers in bits are drawn. -/
import Derived.Test.YtkaepjngmgicaaaDraw3
import Derived.Test.YtkaepjngmgicaaaBitSpec
import Derived.Test.YtkaepjngmgicaaaBitLaw
import Derived.Test.YtkaepjngmgicaaaSampCut
namespace Go.Proofs.Ytkaepjngmgicaaa.Draw
open Go.RowKit Samp SampMath
set_option linter.unusedVariables false
attribute [local go_sem ↓] Go.wp_at_zero Go.wp_at_succ
/-- how long a slice is -/
def lenOf : Value → Nat
  | .slice _ n _ => n
  | _ => 0
set_option maxRecDepth 100000 in
set_option maxHeartbeats 2000000 in
theorem big_any (rb p n : Nat) (w : World) (h : Rd w rb p) (hp : p ≤ 900000) (hn : 0 < n) (hn2 : n ≤ 4294967296) :
    Calls Try.prog 61 #[.pointer (some ⟨rb, 0, none⟩), .int .i64 n] w fun e w' => ∃ x : Nat, e = .returned (.int .i64 x) ∧ x < n ∧ Rd w' rb (p + 3) ∧ w.grownBy w' (some rb) := by
  have HR := hide h
  clear h
  go_enter Try.func61, Try.ntmps61
  go_wp2_with fail
  refine (pick_any rb p _ _ (unhide HR) (by omega) (by omega)).mono ?_
  rintro e w1 ⟨x, rfl, x0, x1, -, r1, g1⟩
  have x2 : x < 256 := x1 (by omega)
  clear x1 HR
  go_wp2_with fail
  refine (pick_any rb (p + 1) _ _ r1 (by omega) (by omega)).mono ?_
  rintro e w2 ⟨y, rfl, y0, y1, -, r2, g2⟩
  have y2 : y < 256 := y1 (by omega)
  have q2 := grown_trans g1 g2
  clear y1 r1 g1 g2
  go_wp2_with fail
  refine (pick_any rb (p + 1 + 1) _ _ r2 (by omega) (by omega)).mono ?_
  rintro e w3 ⟨z, rfl, z0, z1, -, r3, g3⟩
  have z2 : z < 256 := z1 (by omega)
  have q3 := grown_trans q2 g3
  clear z1 r2 q2 g3
  obtain ⟨X, hX⟩ : ∃ X : Nat, (X : Int) = (x * 65536 + y * 256 + z) % (n : Int) := ⟨((x * 65536 + y * 256 + z) % (n : Int)).toNat, Int.toNat_of_nonneg (Int.emod_nonneg _ (by omega))⟩
  have hX2 : X < n := by have := Int.emod_lt_of_pos (x * 65536 + y * 256 + z) (show (0 : Int) < (n : Int) by omega); omega
  have hX3 : (x * 65536 + y * 256 + z).tmod (n : Int) = (X : Int) := by rw [Int.tmod_eq_emod_of_nonneg (by omega), hX]
  have hX4 := hX.symm
  clear hX
  go_wp2
  go_ret
  exact ⟨X, rfl, hX2, r3, q3⟩
set_option maxRecDepth 100000 in
set_option maxHeartbeats 4000000 in
theorem draw_bitsput {a : Option Addr} {len cap : Nat} {zs : List Int} (w0 w : World) (h : IsRow .u8 w0 a len cap zs) (hB : Below w0.heap.size w0 w) :
    Calls Try.prog 20 #[.slice a len cap] w fun e w' => ∃ (zs : List S) (g cp : Nat), e = .returned (.slice (some ⟨g, 0, none⟩) zs.length cp) ∧ zs.length ≤ 200 ∧ w'.ownsRow w.heap.size 29 2 (.slice (some ⟨g, 0, none⟩) zs.length cp) zs.length (BitLaw.flat zs) ∧ Below w.heap.size w w' := by
  obtain ⟨i0, hi, hz0, hz1, hz2⟩ := info_parts info_bit
  have HO := hide (open_any w0 w h hB)
  clear h hB
  go_enter Try.func20, Try.ntmps20
  go_wp2_with fail
  refine (unhide HO).mono ?_
  rintro e w1 ⟨rfl, r1, b1⟩
  have hs1 := b1.size
  have hlt := r1.lt
  go_wp2_with fail
  refine (pick_any _ 0 _ _ (r1.below ((Below.refl _ _).alloc (Nat.le_refl _) _)) (by omega) (by omega)).mono ?_
  rintro e w2 ⟨n, rfl, n0, n1, -, r2, g2⟩
  have n2 : n < 9 := n1 (by omega)
  have o2 := own_kept (own_empty (w := w1) (base := w1.heap.size) (e := 29) (size := 2) (Nat.le_refl _)) g2 hlt
  have q2 : w1.grownBy w2 (some w.heap.size) := grown_trans (grown_below ((Below.refl _ _).alloc (Nat.le_refl _) _)) g2
  clear n1 g2 HO
  go_wp2_with fail
  go_loopw [4, 5] (fun v nv wr => ∃ (k : Nat) (L : List S) (p' g cp : Nat), nv = .int .i64 (k : Int) ∧ L.length + k ≤ 8 ∧ p' ≤ 1 + 8 * L.length ∧ v = .slice (some ⟨g, 0, none⟩) L.length cp ∧ wr.ownsRow w1.heap.size 29 2 v L.length (BitLaw.flat L) ∧ Rd wr w.heap.size p' ∧ w1.grownBy wr (some w.heap.size)) (fun _ nv _ => (intOf nv).toNat)
  case atStart => exact ⟨n.toNat, [], 1, w1.heap.size, 0, by rw [Int.toNat_of_nonneg n0], by simp; omega, by simp, rfl, o2, r2, q2⟩
  case round =>
    clear o2 q2 r2
    obtain ⟨k, L, p', g, cp, rfl, hk, hp', rfl, hown, hrd, hg⟩ := hrel
    have hsz := hg.size
    by_cases hk0 : 0 < k
    · have hk1 : (0 : Int) < (k : Int) := by omega
      go_wp2_with fail
      have hone := one_new w.heap.size p' [1, 2, 7, 8, 9, 31, 32, 5] _ hrd (by omega) (by simp) (by simp)
      simp only [List.map_cons, List.map_nil, List.length_cons, List.length_nil, Nat.zero_add, Nat.reduceAdd] at hone
      refine hone.mono ?_
      clear hone
      rintro e w3 ⟨z, rfl, hz, r3, g3⟩
      have z0 : 1 ≤ z ∧ z ≤ 32 := by
        simp only [List.mem_cons, List.not_mem_nil, or_false] at hz
        omega
      clear hz
      obtain ⟨q, rfl⟩ := Int.eq_ofNat_of_zero_le (show 0 ≤ z by omega)
      have o3 := own_kept hown g3 hlt
      have q3 := grown_trans hg g3
      have hq32 : q ≤ 32 := by omega
      have HF := hide (fun W => BitPut.full_any q W hq32)
      obtain ⟨P, hP⟩ : ∃ P : Nat, P = 2 ^ q := ⟨_, rfl⟩
      have hP1 : P ≤ 4294967296 := by
        have h : 2 ^ q ≤ 2 ^ 32 := Nat.pow_le_pow_right (by decide) hq32
        omega
      have hP0 : 0 < P := by rw [hP]; exact Nat.two_pow_pos q
      rw [← hP] at HF
      clear hP hown hrd hg g3
      go_wp2_with fail
      refine (unhide HF _).mono ?_
      rintro e w4 ⟨rfl, h⟩
      subst h
      go_wp2_with fail
      refine (big_any w.heap.size (p' + 1) P _ r3 (by omega) hP0 hP1).mono ?_
      rintro e w5 ⟨x, rfl, hx, r5, g5⟩
      have o5 := own_kept o3 g5 hlt
      have q5 := grown_trans q3 g5
      clear o3 q3 r3 g5
      go_wp2_with fail
      refine (pick_any w.heap.size _ _ _ r5 (by omega) (by omega)).mono ?_
      rintro e w6 ⟨m, rfl, m0, m1, -, r6, g6⟩
      have o6 := own_kept o5 g6 hlt
      have q6 := grown_trans q5 g6
      have s6 := q6.size
      clear o5 q5 r5 g6 m1
      by_cases hm0 : m = 0
      · subst hm0
        go_wp2_with fail
        refine (unhide HF _).mono ?_
        rintro e w7 ⟨rfl, h⟩
        subst h
        go_wp2_with (at_builtin; refine wpList_append_lies _ rfl _ _ _ rfl w1.heap.size 29 i0 _ 2 16 Try.underlying23 hi hz0 hz1 hz2 rfl (by omega) _ L.length _ rfl (o6.alloc _) _ 1 1 [.int .i64 (P : Int), .int .i64 (q : Int)] rfl rfl (World.news_of_block (cs := #[.int .i64 (P : Int), .int .i64 (q : Int)]) (t := 29) (fr := (0, 0)) (heap_alloc_new _ _)) (by simp [Value.oneCell']) (by omega) (by unfold maxLen; omega) (by omega) (by simp; omega) _ rfl ?_; intro gg cap2 w9 hown2 hgrow hat hlt2)
        have ge := own_ge o6
        have gA : w7.grownBy (w7.alloc (.cells #[.int .i64 (P : Int), .int .i64 (q : Int)] 29)) (some w.heap.size) := grown_below ((Below.refl _ _).alloc (Nat.le_refl _) _)
        have R : w1.grownBy w9 (some w.heap.size) := grown_other (grown_trans q6 gA) hgrow ge
        have R1 : Rd w9 w.heap.size (p' + 1 + 3 + 1) := (r6.below ((Below.refl _ _).alloc (Nat.le_refl _) _)).grown hgrow (fun k hk => by have := ge k hk; omega)
        have HR2 := hide (show w9.ownsRow w1.heap.size 29 2 (.slice (some ⟨gg, 0, none⟩) (L.length + 1) cap2) (L ++ [((P : Int), (q : Int))]).length (BitLaw.flat (L ++ [((P : Int), (q : Int))])) by
          rw [List.length_append, BitLaw.flat_append]; exact hown2)
        clear hown2 hgrow ge gA o6 q6 r6
        go_wp2
        go_roundw
        case rel => exact ⟨k - 1, L ++ [((P : Int), (q : Int))], p' + 1 + 3 + 1, gg, cap2, by go_num, by simp; omega, by simp; omega, by simp, by simpa using unhide HR2, R1, R⟩
        case measure => simp [intOf]; omega
      by_cases hm1 : m = 1
      · subst hm1
        go_wp2_with fail
        have hone := one_new w.heap.size _ [0, 33] _ r6 (by omega) (by simp) (by simp)
        simp only [List.map_cons, List.map_nil, List.length_cons, List.length_nil, Nat.zero_add, Nat.reduceAdd] at hone
        refine hone.mono ?_
        clear hone
        rintro e w7 ⟨y, rfl, hy, r7, g7⟩
        have o7 := own_kept o6 g7 hlt
        have q7 := grown_trans q6 g7
        have s7 := q7.size
        clear o6 q6 r6 g7 hy
        go_wp2_with (at_builtin; refine wpList_append_lies _ rfl _ _ _ rfl w1.heap.size 29 i0 _ 2 16 Try.underlying23 hi hz0 hz1 hz2 rfl (by omega) _ L.length _ rfl (o7.alloc _) _ 1 1 [.int .i64 (x : Int), .int .i64 y] rfl rfl (World.news_of_block (cs := #[.int .i64 (x : Int), .int .i64 y]) (t := 29) (fr := (0, 0)) (heap_alloc_new _ _)) (by simp [Value.oneCell']) (by omega) (by unfold maxLen; omega) (by omega) (by simp; omega) _ rfl ?_; intro gg cap2 w9 hown2 hgrow hat hlt2)
        have ge := own_ge o7
        have gA : w7.grownBy (w7.alloc (.cells #[.int .i64 (x : Int), .int .i64 y] 29)) (some w.heap.size) := grown_below ((Below.refl _ _).alloc (Nat.le_refl _) _)
        have R : w1.grownBy w9 (some w.heap.size) := grown_other (grown_trans q7 gA) hgrow ge
        have R1 : Rd w9 w.heap.size (p' + 1 + 3 + 1 + 1) := (r7.below ((Below.refl _ _).alloc (Nat.le_refl _) _)).grown hgrow (fun k hk => by have := ge k hk; omega)
        have HR2 := hide (show w9.ownsRow w1.heap.size 29 2 (.slice (some ⟨gg, 0, none⟩) (L.length + 1) cap2) (L ++ [((x : Int), y)]).length (BitLaw.flat (L ++ [((x : Int), y)])) by
          rw [List.length_append, BitLaw.flat_append]; exact hown2)
        clear hown2 hgrow ge gA o7 q7 r7
        go_wp2
        go_roundw
        case rel => exact ⟨k - 1, L ++ [((x : Int), y)], p' + 1 + 3 + 1 + 1, gg, cap2, by go_num, by simp; omega, by simp; omega, by simp, by simpa using unhide HR2, R1, R⟩
        case measure => simp [intOf]; omega
      by_cases hm2 : m = 2
      · subst hm2
        go_wp2_with fail
        refine (unhide HF _).mono ?_
        rintro e w7 ⟨rfl, h⟩
        subst h
        go_wp2_with (at_builtin; refine wpList_append_lies _ rfl _ _ _ rfl w1.heap.size 29 i0 _ 2 16 Try.underlying23 hi hz0 hz1 hz2 rfl (by omega) _ L.length _ rfl (o6.alloc _) _ 1 1 [.int .i64 ((P : Int) - 1), .int .i64 (q : Int)] rfl rfl (World.news_of_block (cs := #[.int .i64 ((P : Int) - 1), .int .i64 (q : Int)]) (t := 29) (fr := (0, 0)) (heap_alloc_new _ _)) (by simp [Value.oneCell']) (by omega) (by unfold maxLen; omega) (by omega) (by simp; omega) _ rfl ?_; intro gg cap2 w9 hown2 hgrow hat hlt2)
        have ge := own_ge o6
        have gA : w7.grownBy (w7.alloc (.cells #[.int .i64 ((P : Int) - 1), .int .i64 (q : Int)] 29)) (some w.heap.size) := grown_below ((Below.refl _ _).alloc (Nat.le_refl _) _)
        have R : w1.grownBy w9 (some w.heap.size) := grown_other (grown_trans q6 gA) hgrow ge
        have R1 : Rd w9 w.heap.size (p' + 1 + 3 + 1) := (r6.below ((Below.refl _ _).alloc (Nat.le_refl _) _)).grown hgrow (fun k hk => by have := ge k hk; omega)
        have HR2 := hide (show w9.ownsRow w1.heap.size 29 2 (.slice (some ⟨gg, 0, none⟩) (L.length + 1) cap2) (L ++ [(((P : Int) - 1), (q : Int))]).length (BitLaw.flat (L ++ [(((P : Int) - 1), (q : Int))])) by
          rw [List.length_append, BitLaw.flat_append]; exact hown2)
        clear hown2 hgrow ge gA o6 q6 r6
        go_wp2
        go_roundw
        case rel => exact ⟨k - 1, L ++ [(((P : Int) - 1), (q : Int))], p' + 1 + 3 + 1, gg, cap2, by go_num, by simp; omega, by simp; omega, by simp, by simpa using unhide HR2, R1, R⟩
        case measure => simp [intOf]; omega
      go_wp2_with (at_builtin; refine wpList_append_lies _ rfl _ _ _ rfl w1.heap.size 29 i0 _ 2 16 Try.underlying23 hi hz0 hz1 hz2 rfl (by omega) _ L.length _ rfl (o6.alloc _) _ 1 1 [.int .i64 (x : Int), .int .i64 (q : Int)] rfl rfl (World.news_of_block (cs := #[.int .i64 (x : Int), .int .i64 (q : Int)]) (t := 29) (fr := (0, 0)) (heap_alloc_new _ _)) (by simp [Value.oneCell']) (by omega) (by unfold maxLen; omega) (by omega) (by simp; omega) _ rfl ?_; intro gg cap2 w9 hown2 hgrow hat hlt2)
      have ge := own_ge o6
      have gA : w6.grownBy (w6.alloc (.cells #[.int .i64 (x : Int), .int .i64 (q : Int)] 29)) (some w.heap.size) := grown_below ((Below.refl _ _).alloc (Nat.le_refl _) _)
      have R : w1.grownBy w9 (some w.heap.size) := grown_other (grown_trans q6 gA) hgrow ge
      have R1 : Rd w9 w.heap.size (p' + 1 + 3 + 1) := (r6.below ((Below.refl _ _).alloc (Nat.le_refl _) _)).grown hgrow (fun k hk => by have := ge k hk; omega)
      have HR2 := hide (show w9.ownsRow w1.heap.size 29 2 (.slice (some ⟨gg, 0, none⟩) (L.length + 1) cap2) (L ++ [((x : Int), (q : Int))]).length (BitLaw.flat (L ++ [((x : Int), (q : Int))])) by
        rw [List.length_append, BitLaw.flat_append]; exact hown2)
      clear hown2 hgrow ge gA o6 q6 r6
      go_wp2
      go_roundw
      case rel => exact ⟨k - 1, L ++ [((x : Int), (q : Int))], p' + 1 + 3 + 1, gg, cap2, by go_num, by simp; omega, by simp; omega, by simp, by simpa using unhide HR2, R1, R⟩
      case measure => simp [intOf]; omega
    · have hcq : 0 = 0 := rfl
      go_wp2_with fail
      refine (pick_any w.heap.size p' _ _ hrd (by omega) (by omega)).mono ?_
      rintro e w3 ⟨m, rfl, m0, m1, -, r3, g3⟩
      have o3 := own_kept hown g3 hlt
      have q3 := grown_trans hg g3
      clear hown hg hrd g3 m1 r3
      by_cases hm0 : m = 0
      · subst hm0
        go_wp2_with fail
        go_loopw [4] (fun v wr => ∃ (L : List S) (g cp : Nat), L.length ≤ 200 ∧ v = .slice (some ⟨g, 0, none⟩) L.length cp ∧ wr.ownsRow w1.heap.size 29 2 v L.length (BitLaw.flat L) ∧ w1.grownBy wr (some w.heap.size)) (fun v _ => 200 - lenOf v)
        case atStart => exact ⟨L, g, cp, by omega, rfl, o3, q3⟩
        case round =>
          clear o3 q3
          obtain ⟨L, g, cp, hL, rfl, hown, hg⟩ := hrel
          have hsz := hg.size
          by_cases hlt2 : L.length < 200
          · go_wp2_with (at_builtin; refine wpList_append_lies _ rfl _ _ _ rfl w1.heap.size 29 i0 _ 2 16 Try.underlying23 hi hz0 hz1 hz2 rfl (by omega) _ L.length _ rfl (hown.alloc _) _ 1 1 [.int .i64 1, .int .i64 32] rfl rfl (World.news_of_block (cs := #[.int .i64 1, .int .i64 32]) (t := 29) (fr := (0, 0)) (heap_alloc_new _ _)) (by simp [Value.oneCell']) (by omega) (by unfold maxLen; omega) (by omega) (by simp; omega) _ rfl ?_; intro gg cap2 w9 hown2 hgrow hat hlt3)
            have ge := own_ge hown
            have gA : wr.grownBy (wr.alloc (.cells #[.int .i64 1, .int .i64 32] 29)) (some w.heap.size) := grown_below ((Below.refl _ _).alloc (Nat.le_refl _) _)
            have R : w1.grownBy w9 (some w.heap.size) := grown_other (grown_trans hg gA) hgrow ge
            have HR2 := hide (show w9.ownsRow w1.heap.size 29 2 (.slice (some ⟨gg, 0, none⟩) (L.length + 1) cap2) (L ++ [((1 : Int), (32 : Int))]).length (BitLaw.flat (L ++ [((1 : Int), (32 : Int))])) by
              rw [List.length_append, BitLaw.flat_append]; exact hown2)
            clear hown2 hgrow ge gA hown hg
            go_wp2
            go_roundw
            case rel => exact ⟨L ++ [(1, 32)], gg, cap2, by simp; omega, by simp, by simpa using unhide HR2, R⟩
            case measure => simp [lenOf]; omega
          · go_wp2
            go_ret
            exact ⟨L, g, cp, rfl, hL, own_mono hown hs1, b1.trans (below_of_grown hg (Nat.le_refl _) hs1)⟩
      · go_wp2
        go_ret
        exact ⟨L, g, cp, rfl, by omega, own_mono o3 hs1, b1.trans (below_of_grown q3 (Nat.le_refl _) hs1)⟩
end Go.Proofs.Ytkaepjngmgicaaa.Draw
