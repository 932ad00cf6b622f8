/- My own texts of one claim, laid together by program: SampJoin2, SampJoin3, SamLaw, RowLaw. -/
import Derived.Test.YtlboekimnhgfdaaGreatGda3aa4dff4
import Derived.Test.YtlboekimnhgfdaaGreatGb649170687
import Derived.ChangeArms
import Derived.Test.YtlboekimnhgfdaaGreatG5987eed685
/- The model's SamplesJoin, and both at every two slices of samples. -/
namespace Go.Proofs.YtlboekimnhgfdaaGreat.Samp
open Go.RowKit SampMath Rw
set_option linter.unusedVariables false
attribute [local go_sem ↓] Go.wp_at_zero Go.wp_at_succ
theorem left_rest_a {a b L : List S} {i j : Nat} (h : MLeft a b L i j) (hi : i < a.length) (hj : b.length ≤ j) : MLeft a b (L ++ [at' a i]) (i + 1) j := by
  unfold MLeft at *
  rw [h, List.drop_eq_nil_of_le hj, merge_nil_right, merge_nil_right, drop_at a i hi]
  simp
theorem left_rest_b {a b L : List S} {i j : Nat} (h : MLeft a b L i j) (hi : a.length ≤ i) (hj : j < b.length) : MLeft a b (L ++ [at' b j]) i (j + 1) := by
  unfold MLeft at *
  rw [h, List.drop_eq_nil_of_le hi, merge_nil, merge_nil, drop_at b j hj]
  simp
set_option maxRecDepth 100000 in
set_option maxHeartbeats 4000000 in
theorem l2join (a a' : Option Addr) (n m cap cap' : Nat) (zs ys : List S) (w : World) (hv : View w a n cap zs) (hu : View w a' m cap' ys) (hn : n ≤ 4194304) (hm : m ≤ 4194304) :
    Calls Tryz.prog 146 #[.slice a n cap, .slice a' m cap'] w fun e w' => ∃ v, e = .returned (.tuple #[v, .bool (merge zs ys).isSome]) ∧ w'.ownsRow w.heap.size 106 2 v ((merge zs ys).getD []).length (flat ((merge zs ys).getD [])) ∧ Below w.heap.size w w' := by
  obtain ⟨i0, hi, hz0, hz1, hz2⟩ := info_parts info_sample
  obtain ⟨hl1, hc1, hm1, -, -⟩ := id hv
  obtain ⟨hl2, hc2, hm2, -, -⟩ := id hu
  unfold maxLen at hm1 hm2
  have HV := hide hv
  have HU := hide hu
  clear hv hu
  go_enter Tryz.func146, Tryz.ntmps146
  go_wp2
  go_loopw [6, 7, 8] (fun v iv jv wr => ∃ (i j : Nat) (L : List S), i ≤ n ∧ j ≤ m ∧ iv = .int .i64 i ∧ jv = .int .i64 j ∧ L.length ≤ i + j ∧ MLeft zs ys L i j ∧ wr.ownsRow w.heap.size 106 2 v L.length (flat L) ∧ Below w.heap.size w wr) (fun _ iv jv _ => (n - (intOf iv).toNat) + (m - (intOf jv).toNat))
  case atStart => exact ⟨0, 0, [], Nat.zero_le _, Nat.zero_le _, rfl, rfl, Nat.zero_le _, left_start zs ys, own_empty (Nat.le_refl _), (Below.refl _ _).alloc (Nat.le_refl _) _⟩
  case round =>
    obtain ⟨i, j, L, hin, hjm, rfl, rfl, hL, hleft, hown, hbel⟩ := hrel
    have hsz := hbel.size
    have HL := hide hleft
    clear hleft
    have VW := hide ((unhide HV).below hbel)
    have UW := hide ((unhide HU).below hbel)
    have hi0 : (0 : Int) ≤ (i : Int) := Int.natCast_nonneg _
    have hj0 : (0 : Int) ≤ (j : Int) := Int.natCast_nonneg _
    have hne := cls_nonempty wr.heap.size wr
    by_cases hj1 : j < m
    · have hj2 : (j : Int) < (m : Int) := by omega
      obtain ⟨b', off', ha', hb', hr'⟩ := (unhide UW).2.2.2.2 (by omega)
      subst ha'
      obtain ⟨y0, y1⟩ := hr' j (by omega)
      obtain ⟨T', hT'⟩ : ∃ T, T = (at' ys j).1 := ⟨_, rfl⟩
      obtain ⟨V', hV'⟩ : ∃ V, V = (at' ys j).2 := ⟨_, rfl⟩
      rw [← hT'] at y0
      rw [← hV'] at y1
      have HY := hide (show at' ys j = (T', V') by rw [hT', hV'])
      clear hT' hV' hr' HU UW
      have p0 := cls_cell (Below.refl _ _) hb' y0
      have hd1 : decide ((m : Int) ≤ (j : Int)) = false := by simp; omega
      have hd1' : decide (m ≤ j) = false := by simp; omega
      by_cases hi1 : i < n
      · have hi2 : (i : Int) < (n : Int) := by omega
        have hd2 : decide ((n : Int) ≤ (i : Int)) = false := by simp; omega
        have hd2' : decide (n ≤ i) = false := by simp; omega
        obtain ⟨b, off, ha, hb, hr⟩ := (unhide VW).2.2.2.2 (by omega)
        subst ha
        obtain ⟨x0, x1⟩ := hr i (by omega)
        obtain ⟨T, hT⟩ : ∃ T, T = (at' zs i).1 := ⟨_, rfl⟩
        obtain ⟨V, hV⟩ : ∃ V, V = (at' zs i).2 := ⟨_, rfl⟩
        rw [← hT] at x0
        rw [← hV] at x1
        have HX := hide (show at' zs i = (T, V) by rw [hT, hV])
        clear hT hV hr HV VW
        have q0 := cls_cell (Below.refl _ _) hb x0
        rcases (show T < T' ∨ T' < T ∨ T = T' from by omega) with hlt | hlt | heq
        · have HN := hide (left_first (unhide HL) (by omega) (by omega) (by rw [unhide HX, unhide HY]; exact hlt))
          rw [unhide HX] at HN
          go_wp2_with fail
          refine region_cls (by kernel_rfl) (by kernel_rfl) ?_
          repeat (go_big_quiet_step (fail))
          refine wpQuiet_nil ?_
          rintro wq ⟨⟨_, hq⟩, rfl⟩
          have z0 := old_cell hq hb x0
          have z1 := old_cell hq hb x1
          have o1 := own_below hown hq
          have bq := hbel.trans (hq.mono hsz)
          have sq := bq.size
          clear q0 p0 hne HL hown x0 x1 y0 y1
          go_wp2_with (at_builtin; refine wpList_append_lies _ rfl _ _ _ rfl w.heap.size 106 i0 _ 2 16 Tryz.underlying91 hi hz0 hz1 hz2 rfl (by omega) _ L.length _ rfl ((o1).alloc _) _ 1 1 [.int .i64 T, .int .i64 V] rfl rfl (World.news_of_block (cs := #[.int .i64 T, .int .i64 V]) (t := 106) (fr := (0, 0)) (alloc_at (by simp))) (by simp [Value.oneCell']) (by omega) (by unfold maxLen; omega) (by omega) (by simp; omega) _ rfl ?_; intro gg cp w9 hown2 hgrow hat hlt2)
          have R := below_grown (bq.alloc bq.size _) (by have := bq.size; simp; omega) hgrow (own_ge o1)
          have R2 : w9.ownsRow w.heap.size 106 2 (.slice (some ⟨gg, 0, none⟩) (L.length + 1) cp) (L ++ [(T, V)]).length (flat (L ++ [(T, V)])) := by rw [flat_append, flat_one, List.length_append]; exact hown2
          clear hown2 hgrow o1
          go_wp2
          go_roundw
          case rel => exact ⟨i + 1, j, L ++ [(T, V)], by omega, by omega, by go_num, rfl, by simp; omega, unhide HN, R2, R⟩
          case measure => simp [intOf]; omega
        · have HN := hide (left_second (unhide HL) (by omega) (by omega) (by rw [unhide HX, unhide HY]; exact hlt))
          rw [unhide HY] at HN
          have hnl : decide (T < T') = false := by simp; omega
          go_wp2_with fail
          refine region_cls (by kernel_rfl) (by kernel_rfl) ?_
          repeat (go_big_quiet_step (fail))
          refine wpQuiet_nil ?_
          rintro wq ⟨⟨_, hq⟩, rfl⟩
          have q2 := cls_cell hq hb x0
          have p2 := cls_cell hq hb' y0
          have hne2 := cls_nonempty wq.heap.size wq
          have o1 := own_below hown hq
          have bq := hbel.trans (hq.mono hsz)
          have sq := bq.size
          clear q0 p0 hne hown
          go_wp2_with fail
          refine region_cls (by kernel_rfl) (by kernel_rfl) ?_
          repeat (go_big_quiet_step (fail))
          refine wpQuiet_nil ?_
          rintro wp ⟨⟨_, hp⟩, rfl⟩
          have hpq := hq.trans (hp.mono hq.size)
          have z0 := old_cell hpq hb' y0
          have z1 := old_cell hpq hb' y1
          have o2 := own_below o1 hp
          have bp := bq.trans (hp.mono sq)
          have sp := bp.size
          clear q2 p2 hne2 HL x0 x1 y0 y1 o1
          go_wp2_with (at_builtin; refine wpList_append_lies _ rfl _ _ _ rfl w.heap.size 106 i0 _ 2 16 Tryz.underlying91 hi hz0 hz1 hz2 rfl (by omega) _ L.length _ rfl ((o2).alloc _) _ 1 1 [.int .i64 T', .int .i64 V'] rfl rfl (World.news_of_block (cs := #[.int .i64 T', .int .i64 V']) (t := 106) (fr := (0, 0)) (alloc_at (by simp))) (by simp [Value.oneCell']) (by omega) (by unfold maxLen; omega) (by omega) (by simp; omega) _ rfl ?_; intro gg cp w9 hown2 hgrow hat hlt2)
          have R := below_grown (bp.alloc bp.size _) (by have := bp.size; simp; omega) hgrow (own_ge o2)
          have R2 : w9.ownsRow w.heap.size 106 2 (.slice (some ⟨gg, 0, none⟩) (L.length + 1) cp) (L ++ [(T', V')]).length (flat (L ++ [(T', V')])) := by rw [flat_append, flat_one, List.length_append]; exact hown2
          clear hown2 hgrow o2
          go_wp2
          go_roundw
          case rel => exact ⟨i, j + 1, L ++ [(T', V')], by omega, by omega, rfl, by go_num, by simp; omega, unhide HN, R2, R⟩
          case measure => simp [intOf]; omega
        · have hnl : decide (T < T') = false := by simp; omega
          have hnr : decide (T' < T) = false := by simp; omega
          have HE := hide heq
          have hA : T' ≤ T := by omega
          have hB : T ≤ T' := by omega
          clear heq
          go_wp2_with fail
          refine region_cls (by kernel_rfl) (by kernel_rfl) ?_
          repeat (go_big_quiet_step (fail))
          refine wpQuiet_nil ?_
          rintro wq ⟨⟨_, hq⟩, rfl⟩
          have q2 := cls_cell hq hb x0
          have p2 := cls_cell hq hb' y0
          have hne2 := cls_nonempty wq.heap.size wq
          have o1 := own_below hown hq
          have bq := hbel.trans (hq.mono hsz)
          have sq := bq.size
          clear q0 p0 hne hown
          go_wp2_with fail
          refine region_cls (by kernel_rfl) (by kernel_rfl) ?_
          repeat (go_big_quiet_step (fail))
          refine wpQuiet_nil ?_
          rintro wp ⟨⟨_, hp⟩, rfl⟩
          have hpq := hq.trans (hp.mono hq.size)
          have q3 := cls_cell hpq hb x1
          have p3 := cls_cell hpq hb' y1
          have hne3 := cls_nonempty wp.heap.size wp
          have o2 := own_below o1 hp
          have bp := bq.trans (hp.mono sq)
          have sp := bp.size
          clear q2 p2 hne2 o1
          by_cases hVV : V = V'
          · have hvv : (V != V') = false := by simp [hVV]
            have HVV := hide hVV
            clear hVV
            have HN := hide (left_both (unhide HL) (by omega) (by omega) (by rw [unhide HX, unhide HY]; exact unhide HE) (by rw [unhide HX, unhide HY]; exact unhide HVV))
            rw [unhide HX] at HN
            go_wp2_with fail
            refine region_cls (by kernel_rfl) (by kernel_rfl) ?_
            repeat (go_big_quiet_step (fail))
            refine wpQuiet_nil ?_
            rintro wo ⟨⟨_, ho⟩, rfl⟩
            have hoq := hpq.trans (ho.mono hpq.size)
            have z0 := old_cell hoq hb x0
            have z1 := old_cell hoq hb x1
            have o3 := own_below o2 ho
            have bo := bp.trans (ho.mono sp)
            have so := bo.size
            clear q3 p3 hne3 HL x0 x1 y0 y1 o2
            go_wp2_with (at_builtin; refine wpList_append_lies _ rfl _ _ _ rfl w.heap.size 106 i0 _ 2 16 Tryz.underlying91 hi hz0 hz1 hz2 rfl (by omega) _ L.length _ rfl ((o3).alloc _) _ 1 1 [.int .i64 T, .int .i64 V] rfl rfl (World.news_of_block (cs := #[.int .i64 T, .int .i64 V]) (t := 106) (fr := (0, 0)) (alloc_at (by simp))) (by simp [Value.oneCell']) (by omega) (by unfold maxLen; omega) (by omega) (by simp; omega) _ rfl ?_; intro gg cp w9 hown2 hgrow hat hlt2)
            have R := below_grown (bo.alloc bo.size _) (by have := bo.size; simp; omega) hgrow (own_ge o3)
            have R2 : w9.ownsRow w.heap.size 106 2 (.slice (some ⟨gg, 0, none⟩) (L.length + 1) cp) (L ++ [(T, V)]).length (flat (L ++ [(T, V)])) := by rw [flat_append, flat_one, List.length_append]; exact hown2
            clear hown2 hgrow o3
            go_wp2
            go_roundw
            case rel => exact ⟨i + 1, j + 1, L ++ [(T, V)], by omega, by omega, by go_num, by go_num, by simp; omega, unhide HN, R2, R⟩
            case measure => simp [intOf]; omega
          · have hvv : (V != V') = true := by simp [hVV]
            have HN := hide (left_clash (unhide HL) (by omega) (by omega) (by rw [unhide HX, unhide HY]; exact unhide HE) (by rw [unhide HX, unhide HY]; exact hVV))
            clear hVV
            go_wp2_with fail
            refine region_cls (by kernel_rfl) (by kernel_rfl) ?_
            repeat (go_big_quiet_step (fail))
            refine wpQuiet_nil ?_
            rintro wo ⟨⟨_, ho⟩, rfl⟩
            have bo := bp.trans (ho.mono sp)
            have so := bo.size
            go_wp2
            go_ret2
            refine ⟨.slice (some ⟨wo.heap.size, 0, none⟩) 0 0, ?_, ?_, bo.alloc so _⟩
            · rw [unhide HN]; rfl
            · rw [unhide HN]; exact own_empty so
      · have HN := hide (left_rest_b (unhide HL) (by omega) (by omega))
        rw [unhide HY] at HN
        have hd2 : decide ((n : Int) ≤ (i : Int)) = true := by simp; omega
        have hd2' : decide (n ≤ i) = true := by simp; omega
        have hd3 : decide ((i : Int) < (n : Int)) = false := by simp; omega
        have hd3' : decide (i < n) = false := by simp; omega
        have hi2 : (n : Int) ≤ (i : Int) := by omega
        clear HV VW
        go_wp2_with fail
        refine region_cls (by kernel_rfl) (by kernel_rfl) ?_
        repeat (go_big_quiet_step (fail))
        refine wpQuiet_nil ?_
        rintro wq ⟨⟨_, hq⟩, rfl⟩
        have p2 := cls_cell hq hb' y0
        have hne2 := cls_nonempty wq.heap.size wq
        have o1 := own_below hown hq
        have bq := hbel.trans (hq.mono hsz)
        have sq := bq.size
        clear p0 hne hown
        go_wp2_with fail
        refine region_cls (by kernel_rfl) (by kernel_rfl) ?_
        repeat (go_big_quiet_step (fail))
        refine wpQuiet_nil ?_
        rintro wp ⟨⟨_, hp⟩, rfl⟩
        have hpq := hq.trans (hp.mono hq.size)
        have z0 := old_cell hpq hb' y0
        have z1 := old_cell hpq hb' y1
        have o2 := own_below o1 hp
        have bp := bq.trans (hp.mono sq)
        have sp := bp.size
        clear p2 hne2 HL y0 y1 o1
        go_wp2_with (at_builtin; refine wpList_append_lies _ rfl _ _ _ rfl w.heap.size 106 i0 _ 2 16 Tryz.underlying91 hi hz0 hz1 hz2 rfl (by omega) _ L.length _ rfl ((o2).alloc _) _ 1 1 [.int .i64 T', .int .i64 V'] rfl rfl (World.news_of_block (cs := #[.int .i64 T', .int .i64 V']) (t := 106) (fr := (0, 0)) (alloc_at (by simp))) (by simp [Value.oneCell']) (by omega) (by unfold maxLen; omega) (by omega) (by simp; omega) _ rfl ?_; intro gg cp w9 hown2 hgrow hat hlt2)
        have R := below_grown (bp.alloc bp.size _) (by have := bp.size; simp; omega) hgrow (own_ge o2)
        have R2 : w9.ownsRow w.heap.size 106 2 (.slice (some ⟨gg, 0, none⟩) (L.length + 1) cp) (L ++ [(T', V')]).length (flat (L ++ [(T', V')])) := by rw [flat_append, flat_one, List.length_append]; exact hown2
        clear hown2 hgrow o2
        go_wp2
        go_roundw
        case rel => exact ⟨i, j + 1, L ++ [(T', V')], by omega, by omega, rfl, by go_num, by simp; omega, unhide HN, R2, R⟩
        case measure => simp [intOf]; omega
    · have hj2 : (m : Int) ≤ (j : Int) := by omega
      have hd1 : decide ((m : Int) ≤ (j : Int)) = true := by simp; omega
      have hd1' : decide (m ≤ j) = true := by simp; omega
      by_cases hi1 : i < n
      · have HN := hide (left_rest_a (unhide HL) (by omega) (by omega))
        have hi2 : (i : Int) < (n : Int) := by omega
        obtain ⟨b, off, ha, hb, hr⟩ := (unhide VW).2.2.2.2 (by omega)
        subst ha
        obtain ⟨x0, x1⟩ := hr i (by omega)
        obtain ⟨T, hT⟩ : ∃ T, T = (at' zs i).1 := ⟨_, rfl⟩
        obtain ⟨V, hV⟩ : ∃ V, V = (at' zs i).2 := ⟨_, rfl⟩
        rw [← hT] at x0
        rw [← hV] at x1
        have HX := hide (show at' zs i = (T, V) by rw [hT, hV])
        rw [unhide HX] at HN
        clear hT hV hr HV VW HU UW
        go_wp2_with fail
        refine region_cls (by kernel_rfl) (by kernel_rfl) ?_
        repeat (go_big_quiet_step (fail))
        refine wpQuiet_nil ?_
        rintro wq ⟨⟨_, hq⟩, rfl⟩
        have z0 := old_cell hq hb x0
        have z1 := old_cell hq hb x1
        have o1 := own_below hown hq
        have bq := hbel.trans (hq.mono hsz)
        have sq := bq.size
        clear hne HL hown x0 x1
        go_wp2_with (at_builtin; refine wpList_append_lies _ rfl _ _ _ rfl w.heap.size 106 i0 _ 2 16 Tryz.underlying91 hi hz0 hz1 hz2 rfl (by omega) _ L.length _ rfl ((o1).alloc _) _ 1 1 [.int .i64 T, .int .i64 V] rfl rfl (World.news_of_block (cs := #[.int .i64 T, .int .i64 V]) (t := 106) (fr := (0, 0)) (alloc_at (by simp))) (by simp [Value.oneCell']) (by omega) (by unfold maxLen; omega) (by omega) (by simp; omega) _ rfl ?_; intro gg cp w9 hown2 hgrow hat hlt2)
        have R := below_grown (bq.alloc bq.size _) (by have := bq.size; simp; omega) hgrow (own_ge o1)
        have R2 : w9.ownsRow w.heap.size 106 2 (.slice (some ⟨gg, 0, none⟩) (L.length + 1) cp) (L ++ [(T, V)]).length (flat (L ++ [(T, V)])) := by rw [flat_append, flat_one, List.length_append]; exact hown2
        clear hown2 hgrow o1
        go_wp2
        go_roundw
        case rel => exact ⟨i + 1, j, L ++ [(T, V)], by omega, by omega, by go_num, rfl, by simp; omega, unhide HN, R2, R⟩
        case measure => simp [intOf]; omega
      · have HF := hide (show merge zs ys = some L by rw [left_end_a (unhide HL) (by omega), List.drop_eq_nil_of_le (by omega), List.append_nil])
        go_wp2
        go_ret2
        refine ⟨u6, ?_, ?_, hbel⟩
        · rw [unhide HF]; rfl
        · rw [unhide HF, Option.getD_some]; exact hown
end Go.Proofs.YtlboekimnhgfdaaGreat.Samp

/- SamplesJoin of the program and of the model answer the same, at every two slices of samples. -/
namespace Go.Proofs.YtlboekimnhgfdaaGreat.Samp
open Go.RowKit SampMath Rw
set_option linter.unusedVariables false
theorem impl_bad1 (v u : Value) (w : World) (h : Hid (Calls Tryz.prog 111 #[v] w fun e w' => e = .returned (.bool false) ∧ Below w.heap.size w w')) :
    Calls Tryz.prog 134 #[v, u] w fun e w' => e = .returned (.tuple #[.slice none 0 0, .bool false]) ∧ Below w.heap.size w w' := by
  go_enter Tryz.func134, Tryz.ntmps134
  go_wp2_with fail
  refine (unhide h).mono ?_
  rintro e w1 ⟨rfl, b1⟩
  go_wp2
  go_ret2
  exact ⟨rfl, b1⟩
theorem impl_bad2 (v u : Value) (w : World) (h : Hid (Calls Tryz.prog 111 #[v] w fun e w' => e = .returned (.bool true) ∧ Below w.heap.size w w')) (h2 : Hid (∀ W, Below w.heap.size w W → Calls Tryz.prog 111 #[u] W fun e w' => e = .returned (.bool false) ∧ Below W.heap.size W w')) :
    Calls Tryz.prog 134 #[v, u] w fun e w' => e = .returned (.tuple #[.slice none 0 0, .bool false]) ∧ Below w.heap.size w w' := by
  go_enter Tryz.func134, Tryz.ntmps134
  go_wp2_with fail
  refine (unhide h).mono ?_
  rintro e w1 ⟨rfl, b1⟩
  go_wp2_with fail
  refine (unhide h2 _ b1).mono ?_
  rintro e w2 ⟨rfl, b2⟩
  go_wp2
  go_ret2
  exact ⟨rfl, b1.trans (b2.mono b1.size)⟩
theorem join_of_ok {zs ys : List S} (h1 : ok zs = true) (h2 : ok ys = true) : (join zs ys).1 = (merge zs ys).getD [] ∧ (join zs ys).2 = (merge zs ys).isSome := by
  unfold join
  rw [if_pos ⟨h1, h2⟩]
  cases merge zs ys <;> exact ⟨rfl, rfl⟩
/-- what SamplesJoin leaves: its answer, in memory of its own -/
def Joined (w : World) (zs ys : List S) (e : Ending) (w' : World) : Prop :=
  ∃ x, e = .returned (.tuple #[x, .bool (join zs ys).2]) ∧ w'.ownsRow w.heap.size 106 2 x (join zs ys).1.length (flat (join zs ys).1) ∧ Below w.heap.size w w'
theorem impl_join {w : World} {v u : Value} {zs ys : List S} (h : Smp w v zs) (h' : Smp w u ys) (hn : zs.length ≤ 4194304) (hm : ys.length ≤ 4194304) : Calls Tryz.prog 134 #[v, u] w (Joined w zs ys) := by
  have k1 := impl_ok h
  have k2 := fun W (hb : Below w.heap.size w W) => impl_ok (h'.below hb)
  cases o1 : ok zs
  · rw [o1] at k1
    refine (impl_bad1 v u w k1).mono ?_
    rintro e w' ⟨rfl, hb⟩
    refine ⟨.slice none 0 0, ?_, ?_, hb⟩
    · rw [join_bad (.inl o1)]
    · rw [join_bad (.inl o1)]; exact World.ownsRow_nil _ _ _ _
  · rw [o1] at k1
    cases o2 : ok ys
    · rw [o2] at k2
      refine (impl_bad2 v u w k1 k2).mono ?_
      rintro e w' ⟨rfl, hb⟩
      refine ⟨.slice none 0 0, ?_, ?_, hb⟩
      · rw [join_bad (.inr o2)]
      · rw [join_bad (.inr o2)]; exact World.ownsRow_nil _ _ _ _
    · rw [o2] at k2
      have ho := join_of_ok o1 o2
      obtain ⟨a, n, cap, rfl, hv⟩ := view_of h
      obtain ⟨a', m, cap', rfl, hu⟩ := view_of h'
      refine (impl_merge a a' n m cap cap' zs ys w hv hu (by rw [← hv.1]; exact hn) (by rw [← hu.1]; exact hm) k1 k2).mono ?_
      rintro e w' ⟨x, rfl, ox, hb⟩
      exact ⟨x, by rw [ho.2], by rw [ho.1]; exact ox, hb⟩
end Go.Proofs.YtlboekimnhgfdaaGreat.Samp

/- What the laws' own helpers do with slices of impl.Sample: they are copied, held against each other, and counted. -/
namespace Go.Proofs.YtlboekimnhgfdaaGreat.Sam
open Go.RowKit Rw
set_option linter.unusedVariables false
attribute [local go_sem ↓] Go.wp_at_zero Go.wp_at_succ
abbrev E := Int × Int
def fl (x : E) : List Value := [.int .i64 (x.1), .int .i64 (x.2)]
theorem flk (x : E) : (fl x).length = 2 := rfl
def at' (zs : List E) (i : Nat) : E := zs.getD i default
abbrev flat (zs : List E) : List Value := flatOf fl zs
abbrev Is (w : World) (v : Value) (zs : List E) : Prop := Lies w v zs.length 2 (flat zs)
theorem flat_length (zs : List E) : (flat zs).length = zs.length * 2 := flatOf_length flk zs
theorem flat_oneCell (zs : List E) : ∀ u ∈ flat zs, u.oneCell' = true := by
  intro u hu
  obtain ⟨x, _, hx⟩ := List.mem_flatMap.1 hu
  simp only [fl, List.mem_cons, List.not_mem_nil, or_false] at hx
  rcases hx with rfl | rfl <;> rfl
theorem at_get (zs : List E) (i : Nat) (h : i < zs.length) : at' zs i = zs[i] := by simp [at', List.getD, h]
theorem at_snoc (zs : List E) (i : Nat) (h : i < zs.length) : zs.take (i + 1) = zs.take i ++ [at' zs i] := by rw [List.take_succ_eq_append_getElem h, at_get zs i h]
theorem flat_at (zs : List E) (i : Nat) (h : i < zs.length) : (flat zs)[i * 2]? = some (.int .i64 ((at' zs i).1)) ∧ (flat zs)[i * 2 + 1]? = some (.int .i64 ((at' zs i).2)) := by
  rw [at_get zs i h]
  exact ⟨flatOf_get flk zs i 0 h (by omega), flatOf_get flk zs i 1 h (by omega)⟩
theorem is_of_own {w : World} {base : Nat} {v : Value} {zs : List E} (h : w.ownsRow base 106 2 v zs.length (flat zs)) : Is w v zs := lies_of_own h
theorem info_e : (Tryz.prog.info? 106).map (fun i => (i.zero, i.size, i.bytes)) = some (some (.agg #[.int .i64 0, .int .i64 0]), 2, 16) := by kernel_rfl
def good (x : E) : Prop := (Lit.int .i64 (x.1)).wf = true ∧ (Lit.int .i64 (x.2)).wf = true
set_option maxRecDepth 100000 in
theorem open_arg {H : Type} {enc : TypeId × Value → H} {W : World} {a : Option Addr} {len cap : Nat} {d : DataW H} {p : List MemPlace}
    (h : DataW.Trod enc Tryz.prog W 0 (fun _ => true) true 108 (.slice a len cap) d p) : ∃ zs : List E, zs.length = len ∧ len ≤ maxLen ∧ Lies W (.slice a len cap) len 2 (flat zs) ∧ ∀ x ∈ zs, good x := by
  have ck : Tryz.prog.cellsOf 177 = 2 := by kernel_rfl
  refine open_flat (e := 177) (good := good) flk Tryz.underlying108 ck ?_ (by omega) h
  intro n cs y hl ht
  obtain ⟨xs, m, -, -, -, hxl, hf⟩ := DataW.trod_struct Tryz.underlying177 ht
  match cs, hl, xs, hxl with
  | [c0, c1], _, [y0, y1], _ =>
    have g0 := hf 0 _ rfl
    have g1 := hf 1 _ rfl
    have cei : Tryz.prog.cellsOf 3 = 1 := by kernel_rfl
    simp [cei] at g0 g1
    obtain ⟨s0, e0, -, w0⟩ := DataW.trod_int Tryz.underlying3 g0
    obtain ⟨s1, e1, -, w1⟩ := DataW.trod_int Tryz.underlying3 g1
    simp only [List.cons.injEq, and_true] at e0 e1
    exact ⟨(s0, s1), by rw [e0, e1]; rfl, w0, w1⟩
theorem to_one (A : Int) (B : Int) (w : World) : Calls Tryz.prog 147 #[.agg #[.int .i64 A, .int .i64 B]] w fun e w' => e = .returned (.agg #[.int .i64 A, .int .i64 B]) ∧ Below w.heap.size w w' := by
  go_enter Tryz.func147, Tryz.ntmps147
  go_wp2
  refine bodyPost_ret (v := .agg #[.int .i64 A, .int .i64 B]) (by simp [results, Tryz.results147, go_sem]) rfl ⟨rfl, ?_⟩
  exact (((Below.refl _ _).alloc (Nat.le_refl _) _).alloc (by simp) _).alloc (by simp; omega) _
theorem set_e (A : List Value) (u0 u1 x0 x1 : Value) (L : List Value) (k : Nat) (h : A.length = k) : (((A ++ u0 :: u1 :: L).set k x0).set (k + 1) x1) = A ++ [x0, x1] ++ L := by
  subst h
  simp [List.set_append_right]
theorem split_e (r : List Value) (n : Nat) (h : r.length = (n + 1) * 2) : ∃ u0 u1 L, r = u0 :: u1 :: L ∧ L.length = n * 2 := by
  match r, h with
  | u0 :: u1 :: L, h => exact ⟨u0, u1, L, rfl, by simp only [List.length_cons] at h; omega⟩
  | [], h => simp at h <;> omega
  | [_], h => simp at h <;> omega
set_option maxRecDepth 100000 in
set_option maxHeartbeats 2000000 in
theorem to_any {w : World} {v : Value} {zs : List E} (h : Is w v zs) (hlen : zs.length ≤ 4194304) :
    Calls Tryz.prog 119 #[v] w fun e w' => e = .returned (.slice (some ⟨w.heap.size, 0, none⟩) zs.length zs.length) ∧
      w'.ownsRow w.heap.size 106 2 (.slice (some ⟨w.heap.size, 0, none⟩) zs.length zs.length) zs.length (flat zs) ∧ Below w.heap.size w w' := by
  obtain ⟨i0, hi, hz0, hz1, hz2⟩ := info_parts info_e
  obtain ⟨-, a, cap, rfl, hc, hm, -, hr⟩ := h
  unfold maxLen at hm
  obtain ⟨n, hn⟩ : ∃ n, n = zs.length := ⟨_, rfl⟩
  rw [← hn] at hc hr hlen ⊢
  have HN := hide hn
  clear hn
  go_enter Tryz.func119, Tryz.ntmps119
  go_wp2_with (at_make; refine wpList_make_full _ rfl _ _ _ rfl w.heap.size 106 i0 (.agg #[.int .i64 0, .int .i64 0]) 2 Tryz.underlying91 hi hz0 hz1 .i64 .i64 _ _ n rfl rfl rfl rfl (by rw [hz2]; omega) (by unfold maxLen; omega) (Nat.le_refl _) ?_; intro w1 hown1 hgrow1)
  go_loopw [4] (fun i wr => ∃ (j : Nat) (r : List Value), j ≤ n ∧ i = .int .i64 j ∧ r.length = (n - j) * 2 ∧ wr.ownsRow w.heap.size 106 2 (.slice (some ⟨w.heap.size, 0, none⟩) n n) n (flat (zs.take j) ++ r) ∧ Below w.heap.size w wr) (fun i _ => n - (intOf i).toNat)
  case atStart =>
    refine ⟨0, _, Nat.zero_le _, rfl, ?_, hown1, below_grown (Below.refl _ _) (Nat.le_refl _) hgrow1 (by simp)⟩
    have := hown1.1
    simpa using this
  case round =>
    obtain ⟨j, r, hj, rfl, hrl, hown, hbel⟩ := hrel
    have hsz := own_lt hown
    by_cases hlt : j < n
    · obtain ⟨u0, u1, L, rfl, hB⟩ := split_e r (n - j - 1) (by rw [hrl]; omega)
      obtain ⟨b, off, rfl, hl, hcells⟩ := hr (by omega)
      have fa := flat_at zs j (by have := unhide HN; omega)
      have hc0 : wr.cell? ⟨b, off + j * 2, none⟩ = some (.int .i64 ((at' zs j).1)) := (hbel.cell (p := ⟨b, _, none⟩) hl).trans (hcells (j * 2) _ fa.1)
      have hc1 : wr.cell? ⟨b, off + j * 2 + 1, none⟩ = some (.int .i64 ((at' zs j).2)) := (hbel.cell (p := ⟨b, _, none⟩) hl).trans (hcells (j * 2 + 1) _ fa.2)
      have fln : (flat (zs.take j)).length = j * 2 := by rw [flat_length]; simp; have := unhide HN; omega
      have hd0 : wr.cell? ⟨w.heap.size, j * 2, none⟩ = some u0 := by rw [hown.cellAt (j * 2) (by omega)]; simp [fln]
      have hf0 := hown.frozenAt (j * 2)
      have hd1 : wr.cell? ⟨w.heap.size, j * 2 + 1, none⟩ = some u1 := by rw [hown.cellAt (j * 2 + 1) (by omega)]; simp [fln]
      have hf1 := hown.frozenAt (j * 2 + 1)
      have hk0 : (0 : Int) ≤ (j : Int) := Int.natCast_nonneg _
      have hk1 : (j : Int) < (n : Int) := by omega
      have HS := hide (at_snoc zs j (by have := unhide HN; omega))
      obtain ⟨A, B, hX⟩ : ∃ A B, (A, B) = at' zs j := ⟨_, _, rfl⟩
      rw [← hX] at hc0 hc1
      have HX := hide hX
      have HF := hide fln
      clear hX fln fa
      go_wp2_with (go_at_call 147; refine (to_one _ _ _).mono ?_; rintro e w2 ⟨rfl, hb2⟩; obtain ⟨bc, bf⟩ := bcell hb2)
      have o0 := ((own_below hown hb2).stored (j * 2) (.int .i64 A)).1
      have o1 := (o0.stored (j * 2 + 1) (.int .i64 B)).1
      rw [set_e _ _ _ _ _ _ _ (unhide HF)] at o1
      have e2 : flat (zs.take (j + 1)) = flat (zs.take j) ++ [.int .i64 A, .int .i64 B] := by rw [unhide HS]; unfold flat; rw [flatOf_append, flatOf_one, ← unhide HX]; rfl
      rw [← e2] at o1
      have R := hide (((hbel.trans (hb2.mono (by omega))).setCell (p := ⟨w.heap.size, j * 2, none⟩) (Nat.le_refl _) (.int .i64 A)).setCell (p := ⟨w.heap.size, j * 2 + 1, none⟩) (Nat.le_refl _) (.int .i64 B))
      have O := hide o1
      clear o0 o1 e2 hown bc bf hd0 hf0 hd1 hf1
      go_wp2_with fail
      go_roundw
      case rel => exact ⟨j + 1, L, by omega, by go_num, by omega, unhide O, unhide R⟩
      case measure => simp [intOf]; omega
    · obtain rfl : j = n := by omega
      obtain rfl : r = [] := List.eq_nil_of_length_eq_zero (by rw [hrl]; omega)
      rw [List.append_nil, List.take_of_length_le (by have := unhide HN; omega)] at hown
      go_wp2
      go_ret
      exact ⟨rfl, hown, hbel⟩
theorem eq_one (A : Int) (B : Int) (w : World) : Calls Tryz.prog 150 #[.agg #[.int .i64 A, .int .i64 B], .agg #[.int .i64 A, .int .i64 B]] w fun e w' => e = .returned (.bool true) ∧ Below w.heap.size w w' := by
  go_enter Tryz.func150, Tryz.ntmps150
  go_wp2
  go_ret
  exact ⟨rfl, ((Below.refl _ _).alloc (Nat.le_refl _) _).alloc (by simp) _⟩
set_option maxRecDepth 100000 in
set_option maxHeartbeats 2000000 in
theorem eq_any {v u : Value} {zs : List E} {w : World} (h : Is w v zs) (h' : Is w u zs) : Calls Tryz.prog 126 #[v, u] w fun e w' => e = .returned (.bool true) ∧ Below w.heap.size w w' := by
  obtain ⟨-, a, cap, rfl, hc, hm, -, hr⟩ := h
  obtain ⟨-, a', cap', rfl, hc', hm', -, hr'⟩ := h'
  unfold maxLen at hm hm'
  obtain ⟨n, hn⟩ : ∃ n, n = zs.length := ⟨_, rfl⟩
  rw [← hn] at hc hr hc' hr' ⊢
  have HN := hide hn
  clear hn
  go_enter Tryz.func126, Tryz.ntmps126
  go_wp2
  go_loopw [5] (fun i wr => ∃ (j : Nat), j ≤ n ∧ i = .int .i64 j ∧ Below w.heap.size w wr) (fun i _ => n - (intOf i).toNat)
  case atStart => exact ⟨0, Nat.zero_le _, rfl, Below.refl _ _⟩
  case round =>
    obtain ⟨j, hj, rfl, hbel⟩ := hrel
    have hsz := hbel.size
    by_cases hlt : j < n
    · obtain ⟨b, off, rfl, hl, hcells⟩ := hr (by omega)
      obtain ⟨b', off', rfl, hl', hcells'⟩ := hr' (by omega)
      have fa := flat_at zs j (by have := unhide HN; omega)
      obtain ⟨A, B, hX⟩ : ∃ A B, (A, B) = at' zs j := ⟨_, _, rfl⟩
      rw [← hX] at fa
      have hq0 : ∀ x : Cls wr.heap.size wr, x.val.cell? ⟨b, off + j * 2, none⟩ = some (.int .i64 A) := fun x => by rw [x.cell (by omega)]; exact (hbel.cell (p := ⟨b, _, none⟩) hl).trans (hcells (j * 2) _ fa.1)
      have hp0 : ∀ x : Cls wr.heap.size wr, x.val.cell? ⟨b', off' + j * 2, none⟩ = some (.int .i64 A) := fun x => by rw [x.cell (by omega)]; exact (hbel.cell (p := ⟨b', _, none⟩) hl').trans (hcells' (j * 2) _ fa.1)
      have hq1 : ∀ x : Cls wr.heap.size wr, x.val.cell? ⟨b, off + j * 2 + 1, none⟩ = some (.int .i64 B) := fun x => by rw [x.cell (by omega)]; exact (hbel.cell (p := ⟨b, _, none⟩) hl).trans (hcells (j * 2 + 1) _ fa.2)
      have hp1 : ∀ x : Cls wr.heap.size wr, x.val.cell? ⟨b', off' + j * 2 + 1, none⟩ = some (.int .i64 B) := fun x => by rw [x.cell (by omega)]; exact (hbel.cell (p := ⟨b', _, none⟩) hl').trans (hcells' (j * 2 + 1) _ fa.2)
      have hk0 : (0 : Int) ≤ (j : Int) := Int.natCast_nonneg _
      have hk1 : (j : Int) < (n : Int) := by omega
      clear hX fa
      have hne := cls_nonempty wr.heap.size wr
      go_wp2_with fail
      refine region_cls (by kernel_rfl) (by kernel_rfl) ?_
      repeat (go_big_quiet_step ((go_at_call 150; exact cls_call (Nat.le_refl _) (eq_one _ _ _))))
      refine wpQuiet_nil ?_
      rintro wq ⟨⟨_, hq⟩, rfl⟩
      go_wp2
      go_roundw
      case rel => exact ⟨j + 1, by omega, by go_num, hbel.trans (hq.mono hsz)⟩
      case measure => simp [intOf]; omega
    · go_wp2
      go_ret
      exact ⟨rfl, hbel⟩
def tot (zs : List E) : Nat := zs.length
theorem sz_any {w : World} {v : Value} {zs : List E} (left : Int) (h : Is w v zs) (hlm : zs.length ≤ maxLen) (hg : ∀ x ∈ zs, good x) (h0 : 0 ≤ left) (h1 : left ≤ 1048576) :
    Calls Tryz.prog 114 #[v, .int .i64 left] w fun e w' => e = .returned (.int .i64 (if left - (tot zs : Int) < 0 then -1 else left - (tot zs : Int))) ∧ Below w.heap.size w w' := by
  obtain ⟨-, a, cap, rfl, hc, hm, -, hr⟩ := h
  unfold tot
  unfold maxLen at hm hlm
  clear hr hg
  obtain ⟨n, hn⟩ : ∃ n, n = zs.length := ⟨_, rfl⟩
  rw [← hn] at hc hlm ⊢
  clear hn
  by_cases hl : left - (n : Int) < 0
  · rw [if_pos hl]
    go_enter Tryz.func114, Tryz.ntmps114
    go_wp2
    go_ret
    exact ⟨rfl, Below.refl _ _⟩
  · rw [if_neg hl]
    go_enter Tryz.func114, Tryz.ntmps114
    go_wp2
    go_ret
    exact ⟨rfl, Below.refl _ _⟩
end Go.Proofs.YtlboekimnhgfdaaGreat.Sam

/- What the laws' own helpers do with slices of impl.Row, whose elements hold slices: they are copied, held against each other, and counted. -/
namespace Go.Proofs.YtlboekimnhgfdaaGreat.Row
open Go.RowKit Rw
set_option linter.unusedVariables false
attribute [local go_sem ↓] Go.wp_at_zero Go.wp_at_succ
abbrev E := List Lab.E × List Sam.E
abbrev C := Value × Value
def cl (c : C) : List Value := [c.1, c.2]
theorem clk (c : C) : (cl c).length = 2 := rfl
def at' (zs : List E) (i : Nat) : E := zs.getD i default
def cat (cs : List C) (i : Nat) : C := cs.getD i default
theorem at_get (zs : List E) (i : Nat) (h : i < zs.length) : at' zs i = zs[i] := by simp [at', List.getD, h]
theorem at_snoc (zs : List E) (i : Nat) (h : i < zs.length) : zs.take (i + 1) = zs.take i ++ [at' zs i] := by rw [List.take_succ_eq_append_getElem h, at_get zs i h]
theorem at_mem (zs : List E) (i : Nat) (h : i < zs.length) : at' zs i ∈ zs := by rw [at_get zs i h]; exact List.getElem_mem _
theorem cat_get (zs : List C) (i : Nat) (h : i < zs.length) : cat zs i = zs[i] := by simp [cat, List.getD, h]
theorem cat_lt (zs : List C) (c : C) (i : Nat) (h : i < zs.length) : cat (zs ++ [c]) i = cat zs i := by simp [cat, List.getD, List.getElem?_append_left h]
theorem cat_last (zs : List C) (c : C) : cat (zs ++ [c]) zs.length = c := by simp [cat, List.getD]
def Elem (w : World) (c : C) (x : E) : Prop := Lab.Is w (c.1) (x.1) ∧ Sam.Is w (c.2) (x.2)
theorem Elem.below {w w' : World} {c : C} {x : E} (h : Elem w c x) (hb : Below w.heap.size w w') : Elem w' c x := ⟨(h.1).below hb, (h.2).below hb⟩
def far (B : Nat) (c : C) : Prop := (∀ k, (c.1).ownBlock = some k → B ≤ k) ∧ (∀ k, (c.2).ownBlock = some k → B ≤ k)
theorem far.mono {A B : Nat} {c : C} (hf : far B c) (h : A ≤ B) : far A c := ⟨fun k hk => Nat.le_trans h (hf.1 k hk), fun k hk => Nat.le_trans h (hf.2 k hk)⟩
theorem Elem.only {g : Nat} {w w' : World} {c : C} {x : E} (h : Elem w c x) (ho : OnlyAt g w w') (hf : far (g + 1) c) : Elem w' c x := ⟨ho.lies (h.1) (fun k hk => by have := hf.1 k hk; omega), ho.lies (h.2) (fun k hk => by have := hf.2 k hk; omega)⟩
def Is (w : World) (v : Value) (zs : List E) : Prop := ∃ cs : List C, cs.length = zs.length ∧ Lies w v zs.length 2 (flatOf cl cs) ∧ ∀ i, i < zs.length → Elem w (cat cs i) (at' zs i)
theorem Is.below {w w' : World} {v : Value} {zs : List E} (h : Is w v zs) (hb : Below w.heap.size w w') : Is w' v zs := by
  obtain ⟨cs, h1, h2, h3⟩ := h
  exact ⟨cs, h1, h2.below hb, fun i hi => (h3 i hi).below hb⟩
/-- the same, all of it in blocks from B on -/
def IsF (B : Nat) (w : World) (v : Value) (zs : List E) : Prop := ∃ cs : List C, cs.length = zs.length ∧ Lies w v zs.length 2 (flatOf cl cs) ∧ (∀ k, v.ownBlock = some k → B ≤ k) ∧ ∀ i, i < zs.length → Elem w (cat cs i) (at' zs i) ∧ far B (cat cs i)
theorem IsF.is {B : Nat} {w : World} {v : Value} {zs : List E} (h : IsF B w v zs) : Is w v zs := by
  obtain ⟨cs, h1, h2, h3, h4⟩ := h
  exact ⟨cs, h1, h2, fun i hi => (h4 i hi).1⟩
theorem IsF.below {B : Nat} {w w' : World} {v : Value} {zs : List E} (h : IsF B w v zs) (hb : Below w.heap.size w w') : IsF B w' v zs := by
  obtain ⟨cs, h1, h2, h3, h4⟩ := h
  exact ⟨cs, h1, h2.below hb, h3, fun i hi => ⟨(h4 i hi).1.below hb, (h4 i hi).2⟩⟩
theorem IsF.only {B g : Nat} {w w' : World} {v : Value} {zs : List E} (h : IsF B w v zs) (ho : OnlyAt g w w') (hg : g < B) : IsF B w' v zs := by
  obtain ⟨cs, h1, h2, h3, h4⟩ := h
  exact ⟨cs, h1, ho.lies h2 (fun k hk => by have := h3 k hk; omega), h3, fun i hi => ⟨(h4 i hi).1.only ho ((h4 i hi).2.mono hg), (h4 i hi).2⟩⟩
theorem IsF.mono {A B : Nat} {w : World} {v : Value} {zs : List E} (h : IsF B w v zs) (hA : A ≤ B) : IsF A w v zs := by
  obtain ⟨cs, h1, h2, h3, h4⟩ := h
  exact ⟨cs, h1, h2, fun k hk => Nat.le_trans hA (h3 k hk), fun i hi => ⟨(h4 i hi).1, (h4 i hi).2.mono hA⟩⟩
theorem flat_at (cs : List C) (i : Nat) (h : i < cs.length) : (flatOf cl cs)[i * 2]? = some ((cat cs i).1) ∧ (flatOf cl cs)[i * 2 + 1]? = some ((cat cs i).2) := by
  rw [cat_get cs i h]
  exact ⟨flatOf_get clk cs i 0 h (by omega), flatOf_get clk cs i 1 h (by omega)⟩
def good (x : E) : Prop := ((x.1).length ≤ maxLen ∧ ∀ y ∈ x.1, Lab.good y) ∧ ((x.2).length ≤ maxLen ∧ ∀ y ∈ x.2, Sam.good y)
set_option maxRecDepth 100000 in
theorem open_arg {H : Type} {enc : TypeId × Value → H} {W : World} {a : Option Addr} {len cap : Nat} {d : DataW H} {p : List MemPlace}
    (h : DataW.Trod enc Tryz.prog W 0 (fun _ => true) true 22 (.slice a len cap) d p) : ∃ zs : List E, zs.length = len ∧ len ≤ maxLen ∧ Is W (.slice a len cap) zs ∧ ∀ x ∈ zs, good x := by
  have ck : Tryz.prog.cellsOf 110 = 2 := by kernel_rfl
  obtain ⟨cs, h1, h2, h3, h4⟩ := open_flat (e := 110) (good := fun c => ∃ x : E, Elem W c x ∧ good x) clk Tryz.underlying22 ck (by
    intro n cs y hl ht
    obtain ⟨xs, m, -, -, -, hxl, hf⟩ := DataW.trod_struct Tryz.underlying110 ht
    match cs, hl, xs, hxl with
    | [c0, c1], _, [y0, y1], _ =>
      have g0 := hf 0 _ rfl
      have g1 := hf 1 _ rfl
      have ce0 : Tryz.prog.cellsOf 67 = 1 := by kernel_rfl
      have ce1 : Tryz.prog.cellsOf 108 = 1 := by kernel_rfl
      simp [ce0, ce1] at g0 g1
      obtain ⟨a0, l0, k0, e0, t0⟩ := slice_cell Tryz.underlying67 g0
      obtain ⟨s0, n0, m0, i0, w0⟩ := Lab.open_arg t0
      rw [← n0] at i0
      obtain ⟨a1, l1, k1, e1, t1⟩ := slice_cell Tryz.underlying108 g1
      obtain ⟨s1, n1, m1, i1, w1⟩ := Sam.open_arg t1
      rw [← n1] at i1
      subst e0 e1
      subst n0
      subst n1
      exact ⟨(.slice a0 s0.length k0, .slice a1 s1.length k1), rfl, (s0, s1), ⟨i0, i1⟩, ⟨⟨m0, w0⟩, ⟨m1, w1⟩⟩⟩) (by omega) h
  obtain ⟨zs, hz, hP⟩ := choose_list cs h4
  refine ⟨zs, by omega, h2, ⟨cs, hz.symm, by rw [hz, h1]; exact h3, fun i hi => (hP i (by omega)).1⟩, fun x hx => ?_⟩
  obtain ⟨i, hi, rfl⟩ := List.getElem_of_mem hx
  have := (hP i (by omega)).2
  rwa [show zs.getD i default = zs[i] from at_get zs i hi] at this
theorem info_e : (Tryz.prog.info? 93).map (fun i => (i.zero, i.size, i.bytes)) = some (some (.agg #[.slice none 0 0, .slice none 0 0]), 2, 48) := by kernel_rfl
def tiny (x : E) : Prop := (x.1).length ≤ 4194304 ∧ (x.2).length ≤ 4194304
end Go.Proofs.YtlboekimnhgfdaaGreat.Row
