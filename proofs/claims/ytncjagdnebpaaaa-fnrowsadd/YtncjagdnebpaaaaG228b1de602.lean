/- My own texts of one claim, laid together by program: SampJoin, SampJoin2, SampJoin3, SamLaw. -/
import Derived.Test.YtncjagdnebpaaaaG7b340876b2
import Derived.Laws.AppendOwnNone
import Derived.Test.YtncjagdnebpaaaaGffb30f2161
import Derived.ChangeArms
/- What SamplesJoin answers, of the program and of the model, at every two slices of samples. -/
namespace Go.Proofs.Ytncjagdnebpaaaa.Samp
open Go.RowKit SampMath Rw
set_option linter.unusedVariables false
attribute [local go_sem ↓] Go.wp_at_zero Go.wp_at_succ
/-- a slice of samples, its address open: where there are some, it has one -/
def View (w : World) (a : Option Addr) (n cap : Nat) (zs : List S) : Prop :=
  zs.length = n ∧ n ≤ cap ∧ cap ≤ maxLen ∧ (a = none → cap = 0) ∧ (0 < n → ∃ b off, a = some ⟨b, off, none⟩ ∧ b < w.heap.size ∧ Reads w b off zs)
theorem view_of {w : World} {v : Value} {zs : List S} (h : Smp w v zs) : ∃ a n cap, v = .slice a n cap ∧ View w a n cap zs := by
  rcases h with ⟨rfl, rfl⟩ | ⟨b, off, cap, rfl, h2, h3, h4, h5⟩
  · exact ⟨none, 0, 0, rfl, rfl, Nat.le_refl _, Nat.zero_le _, fun _ => rfl, fun h => by omega⟩
  · exact ⟨_, _, cap, rfl, rfl, h2, h3, fun h => by (cases h), fun _ => ⟨b, off, rfl, h4, h5⟩⟩
theorem View.below {w w' : World} {a : Option Addr} {n cap : Nat} {zs : List S} (h : View w a n cap zs) (hb : Below w.heap.size w w') : View w' a n cap zs := by
  obtain ⟨h1, h2, h3, h4, h5⟩ := h
  exact ⟨h1, h2, h3, h4, fun h => by obtain ⟨b, off, e, hl, hr⟩ := h5 h; exact ⟨b, off, e, by have := hb.size; omega, hr.below hb hl⟩⟩
/-- where a[i:] begins -/
def tailA (a : Option Addr) (i cap : Nat) : Option Addr := if cap = i then a else a.map (·.add (i * 2))
theorem size_sample : (sizeOf (Try.prog.elem 42)).run Try.prog = fun w => .ok 2 w := by kernel_rfl
theorem tail_run (a : Option Addr) (n cap i : Nat) (h : i ≤ n) (hc : n ≤ cap) (W : World) :
    (Instr.slice 42 (.slice a n cap) (some (.int .i64 (i : Int))) none none).run Try.prog W = .ok (.slice (tailA a i cap) (n - i) (cap - i)) W := by
  rw [run_slice_l (P := Try.prog) W 42 a n cap (by kernel_rfl) .i64 (i : Int) (by omega) (by omega)]
  show ((sizeOf (Try.prog.elem 42)).run Try.prog W).andThen _ = _
  rw [size_sample]
  rfl
theorem flat_drop (zs : List S) (i : Nat) : flat (zs.drop i) = (flat zs).drop (i * 2) := by
  induction i generalizing zs with
  | zero => simp
  | succ i ih =>
    cases zs with
    | nil => simp [flat]
    | cons x zs =>
      rw [List.drop_succ_cons, ih zs, show (i + 1) * 2 = i * 2 + 1 + 1 from by omega]
      rfl
theorem flat_cell {w : World} {b off : Nat} {zs : List S} (hr : Reads w b off zs) (j : Nat) (u : Value) (h : (flat zs)[j]? = some u) : w.cell? ⟨b, off + j, none⟩ = some u := by
  have hj : j < zs.length * 2 := by
    have := (List.getElem?_eq_some_iff.1 h).1
    rwa [flat_length] at this
  have hq : j / 2 < zs.length := by omega
  have hf := flat_get zs (j / 2) hq
  have hc := hr (j / 2) hq
  rcases (show j = j / 2 * 2 ∨ j = j / 2 * 2 + 1 from by omega) with e | e
  · rw [e] at h ⊢
    rw [hf.1] at h
    rw [← h]
    exact hc.1
  · rw [e] at h ⊢
    rw [hf.2] at h
    rw [← h]
    exact hc.2
theorem tail_cells {w : World} {a : Option Addr} {n cap i : Nat} {zs : List S} (h : View w a n cap zs) (hi : i ≤ n) :
    ∀ ad, tailA a i cap = some ad → ∀ j u, (flat (zs.drop i))[j]? = some u → w.cell? (ad.add j) = some u := by
  intro ad had j u hu
  obtain ⟨h1, h2, h3, h4, h5⟩ := h
  rw [flat_drop, List.getElem?_drop] at hu
  have hlt := (List.getElem?_eq_some_iff.1 hu).1
  rw [flat_length] at hlt
  obtain ⟨b, off, rfl, _, hr⟩ := h5 (by omega)
  have hne : ¬ cap = i := by omega
  unfold tailA at had
  rw [if_neg hne] at had
  simp only [Option.map_some, Option.some.injEq] at had
  subst had
  rw [Go.WideShapes.add_plain, Go.WideShapes.add_plain]
  have := flat_cell hr (i * 2 + j) u hu
  rwa [← Nat.add_assoc] at this
theorem tail_none {w : World} {a : Option Addr} {n cap i : Nat} {zs : List S} (h : View w a n cap zs) (hi : i ≤ n) : tailA a i cap = none → n - i = 0 ∧ cap - i = 0 := by
  intro hn
  obtain ⟨h1, h2, h3, h4, h5⟩ := h
  unfold tailA at hn
  have ha : a = none := by
    split at hn
    · exact hn
    · simpa using hn
  have := h4 ha
  omega
/-- append of whatever slice onto a row of the call's own -/
theorem wpList_append_any {P : Program} (w : World) {ops : Array Oper} {rest : List Oper} {o : Oper} {a : Act} {Q : Exit → Act → World → Prop} (hgd : o.guard = none) (s x : Operand) (t : TypeId)
    (ho : o.op = .call { callee := .builtin .append, args := #[s, x], argTypes := #[t, t] })
    (base : Nat) (e : TypeId) (i : TypeInfo) (z : Value) (size bytes : Nat) (ht : P.underlying t = some (.slice e)) (hi : P.info? e = some i) (hz : i.zero = some z)
    (hsize : i.size = size) (hby : i.bytes = bytes) (hzs : z.cells.size = size) (hsz : 0 < size)
    (v : Value) (n : Nat) (xs : List Value) (hs : a.eval s = v) (hown : w.ownsRow base e size v n xs)
    (ao : Option Addr) (m c : Nat) (news : List Value) (hx : a.eval x = .slice ao m c) (hn : ao = none → m = 0 ∧ c = 0) (hl : news.length = m * size) (hnews : ∀ ad, ao = some ad → ∀ j u, news[j]? = some u → w.cell? (ad.add j) = some u) (h1 : ∀ u ∈ news, u.oneCell' = true)
    (h63 : n + m ≤ maxLen) (hbytes : (n + m) * bytes ≤ 140737488355328) (hbase : base ≤ w.heap.size)
    (h : ∀ v' w', w'.ownsRow base e size v' (n + m) (xs ++ news) → w.grownBy w' v.ownBlock → wpList P ops Q rest (a.put o.dst v') w') : wpList P ops Q (o :: rest) a w := by
  cases ao with
  | none =>
    obtain ⟨rfl, rfl⟩ := hn rfl
    obtain rfl : news = [] := List.eq_nil_of_length_eq_zero (by omega)
    refine wpList_append_own_none hgd s x t ho base e i size ht hi v n xs hs hown hx (h v w (by rw [List.append_nil]; exact hown) ⟨rfl, rfl, rfl, Nat.le_refl _, fun _ _ _ => rfl⟩)
  | some ad => exact wpList_append_own w hgd s x t ho base e i z size bytes ht hi hz hsize hby hzs hsz v n xs hs hown ad m c news hx hl (hnews ad rfl) h1 h63 hbytes hbase fun v' w' h2 h3 _ => h v' w' h2 h3
theorem cls_cell {wr W : World} {b o : Nat} {u : Value} (hW : Below wr.heap.size wr W) (hb : b < wr.heap.size) (h : wr.cell? ⟨b, o, none⟩ = some u) : ∀ x : Cls W.heap.size W, x.val.cell? ⟨b, o, none⟩ = some u := fun x => by
  rw [x.cell (by have := hW.size; omega)]
  exact (hW.cell (p := ⟨b, o, none⟩) hb).trans h
theorem old_cell {wr W : World} {b o : Nat} {u : Value} (hW : Below wr.heap.size wr W) (hb : b < wr.heap.size) (h : wr.cell? ⟨b, o, none⟩ = some u) : W.cell? ⟨b, o, none⟩ = some u := (hW.cell (p := ⟨b, o, none⟩) hb).trans h
set_option maxRecDepth 100000 in
set_option maxHeartbeats 4000000 in
theorem impl_merge (a a' : Option Addr) (n m cap cap' : Nat) (zs ys : List S) (w : World) (hv : View w a n cap zs) (hu : View w a' m cap' ys) (hn : n ≤ 4194304) (hm : m ≤ 4194304) (HK1 : Hid (Calls Try.prog 30 #[.slice a n cap] w fun e w' => e = .returned (.bool true) ∧ Below w.heap.size w w')) (HK2 : Hid (∀ W, Below w.heap.size w W → Calls Try.prog 30 #[.slice a' m cap'] W fun e w' => e = .returned (.bool true) ∧ Below W.heap.size W w')) :
    Calls Try.prog 62 #[.slice a n cap, .slice a' m cap'] w fun e w' => ∃ v, e = .returned (.tuple #[v, .bool (merge zs ys).isSome]) ∧ w'.ownsRow w.heap.size 26 2 v ((merge zs ys).getD []).length (flat ((merge zs ys).getD [])) ∧ Below w.heap.size w w' := by
  obtain ⟨i0, hi, hz0, hz1, hz2⟩ := info_parts info_sample
  obtain ⟨hl1, hc1, hm1, -, -⟩ := id hv
  obtain ⟨hl2, hc2, hm2, -, -⟩ := id hu
  unfold maxLen at hm1 hm2
  have HV := hide hv
  have HU := hide hu
  clear hv hu
  go_enter Try.func62, Try.ntmps62
  go_wp2_with fail
  refine (unhide HK1).mono ?_
  rintro e w1 ⟨rfl, b1⟩
  go_wp2_with fail
  refine (unhide HK2 _ b1).mono ?_
  rintro e w2 ⟨rfl, b2⟩
  have c2 := b1.trans (b2.mono b1.size)
  clear b2 b1
  go_wp2_with fail
  go_loopw [6, 7, 8] (fun v iv jv wr => ∃ (i j : Nat) (L : List S), i ≤ n ∧ j ≤ m ∧ iv = .int .i64 i ∧ jv = .int .i64 j ∧ L.length ≤ i + j ∧ MLeft zs ys L i j ∧ wr.ownsRow w.heap.size 26 2 v L.length (flat L) ∧ Below w.heap.size w wr) (fun _ iv jv _ => (n - (intOf iv).toNat) + (m - (intOf jv).toNat))
  case atStart => exact ⟨0, 0, [], Nat.zero_le _, Nat.zero_le _, rfl, rfl, Nat.zero_le _, left_start zs ys, World.ownsRow_nil _ _ _ _, c2⟩
  case round =>
    obtain ⟨i, j, L, hin, hjm, rfl, rfl, hL, hleft, hown, hbel⟩ := hrel
    have hsz := hbel.size
    have HL := hide hleft
    clear hleft c2
    have VW := hide ((unhide HV).below hbel)
    have UW := hide ((unhide HU).below hbel)
    have hi0 : (0 : Int) ≤ (i : Int) := Int.natCast_nonneg _
    have hj0 : (0 : Int) ≤ (j : Int) := Int.natCast_nonneg _
    by_cases hij : i < n ∧ j < m
    · obtain ⟨hi1, hj1⟩ := hij
      have hi2 : (i : Int) < (n : Int) := by omega
      have hj2 : (j : Int) < (m : Int) := by omega
      obtain ⟨b, off, ha, hb, hr⟩ := (unhide VW).2.2.2.2 (by omega)
      obtain ⟨b', off', ha', hb', hr'⟩ := (unhide UW).2.2.2.2 (by omega)
      subst ha ha'
      obtain ⟨x0, x1⟩ := hr i (by omega)
      obtain ⟨y0, y1⟩ := hr' j (by omega)
      obtain ⟨T, hT⟩ : ∃ T, T = (at' zs i).1 := ⟨_, rfl⟩
      obtain ⟨V, hV⟩ : ∃ V, V = (at' zs i).2 := ⟨_, rfl⟩
      obtain ⟨T', hT'⟩ : ∃ T, T = (at' ys j).1 := ⟨_, rfl⟩
      obtain ⟨V', hV'⟩ : ∃ V, V = (at' ys j).2 := ⟨_, rfl⟩
      rw [← hT] at x0
      rw [← hV] at x1
      rw [← hT'] at y0
      rw [← hV'] at y1
      have HX := hide (show at' zs i = (T, V) by rw [hT, hV])
      have HY := hide (show at' ys j = (T', V') by rw [hT', hV'])
      clear hT hV hT' hV' hr hr' HV HU VW UW HK1 HK2
      have q0 := cls_cell (Below.refl _ _) hb x0
      have q1 := cls_cell (Below.refl _ _) hb x1
      have p0 := cls_cell (Below.refl _ _) hb' y0
      have p1 := cls_cell (Below.refl _ _) hb' y1
      have hne := cls_nonempty wr.heap.size wr
      go_wp2_with fail
      refine region_cls (by kernel_rfl) (by kernel_rfl) ?_
      repeat (go_big_quiet_step (fail))
      refine wpQuiet_nil ?_
      rintro wq ⟨⟨_, hq⟩, rfl⟩
      clear q0 q1 p0 p1 hne
      have o1 := own_below hown hq
      have bq := hbel.trans (hq.mono hsz)
      have sq := bq.size
      rcases (show T < T' ∨ T' < T ∨ T = T' from by omega) with hlt | hlt | heq
      · have HN := hide (left_first (unhide HL) (by omega) (by omega) (by rw [unhide HX, unhide HY]; exact hlt))
        rw [unhide HX] at HN
        have z0 := old_cell hq hb x0
        have z1 := old_cell hq hb x1
        clear HL hown x0 x1 y0 y1
        go_wp2_with (at_builtin; refine wpList_append_lies _ rfl _ _ _ rfl w.heap.size 26 i0 _ 2 16 Try.underlying42 hi hz0 hz1 hz2 rfl (by omega) _ L.length _ rfl ((o1).alloc _) _ 1 1 [.int .i64 T, .int .i64 V] rfl rfl (World.news_of_block (cs := #[.int .i64 T, .int .i64 V]) (t := 26) (fr := (0, 0)) (alloc_at (by simp))) (by simp [Value.oneCell']) (by omega) (by unfold maxLen; omega) (by omega) (by simp; omega) _ rfl ?_; intro gg cp w9 hown2 hgrow hat hlt2)
        have R := below_grown (bq.alloc sq _) (by simp; omega) hgrow (own_ge o1)
        have R2 : w9.ownsRow w.heap.size 26 2 (.slice (some ⟨gg, 0, none⟩) (L.length + 1) cp) (L ++ [(T, V)]).length (flat (L ++ [(T, V)])) := by rw [flat_append, flat_one, List.length_append]; exact hown2
        clear hown2 hgrow o1 z0 z1
        go_wp2
        go_roundw
        case rel => exact ⟨i + 1, j, L ++ [(T, V)], by omega, by omega, by go_num, rfl, by simp; omega, unhide HN, R2, R⟩
        case measure => simp [intOf]; omega
      · have HN := hide (left_second (unhide HL) (by omega) (by omega) (by rw [unhide HX, unhide HY]; exact hlt))
        rw [unhide HY] at HN
        have q0 := cls_cell hq hb x0
        have p0 := cls_cell hq hb' y0
        have hne := cls_nonempty wq.heap.size wq
        have hnl : decide (T < T') = false := by simp; omega
        go_wp2_with fail
        refine region_cls (by kernel_rfl) (by kernel_rfl) ?_
        repeat (go_big_quiet_step (fail))
        refine wpQuiet_nil ?_
        rintro wp ⟨⟨_, hp⟩, rfl⟩
        clear q0 p0 hne
        have hpq := hq.trans (hp.mono hq.size)
        have z0 := old_cell hpq hb' y0
        have z1 := old_cell hpq hb' y1
        have o2 := own_below o1 hp
        have bp := bq.trans (hp.mono sq)
        have sp := bp.size
        clear HL hown x0 x1 y0 y1 o1
        go_wp2_with (at_builtin; refine wpList_append_lies _ rfl _ _ _ rfl w.heap.size 26 i0 _ 2 16 Try.underlying42 hi hz0 hz1 hz2 rfl (by omega) _ L.length _ rfl ((o2).alloc _) _ 1 1 [.int .i64 T', .int .i64 V'] rfl rfl (World.news_of_block (cs := #[.int .i64 T', .int .i64 V']) (t := 26) (fr := (0, 0)) (alloc_at (by simp))) (by simp [Value.oneCell']) (by omega) (by unfold maxLen; omega) (by omega) (by simp; omega) _ rfl ?_; intro gg cp w9 hown2 hgrow hat hlt2)
        have R := below_grown (bp.alloc sp _) (by simp; omega) hgrow (own_ge o2)
        have R2 : w9.ownsRow w.heap.size 26 2 (.slice (some ⟨gg, 0, none⟩) (L.length + 1) cp) (L ++ [(T', V')]).length (flat (L ++ [(T', V')])) := by rw [flat_append, flat_one, List.length_append]; exact hown2
        clear hown2 hgrow o2 z0 z1
        go_wp2
        go_roundw
        case rel => exact ⟨i, j + 1, L ++ [(T', V')], by omega, by omega, rfl, by go_num, by simp; omega, unhide HN, R2, R⟩
        case measure => simp [intOf]; omega
      · have q0 := cls_cell hq hb x0
        have p0 := cls_cell hq hb' y0
        have hne := cls_nonempty wq.heap.size wq
        have hnl : decide (T < T') = false := by simp; omega
        have hnr : decide (T' < T) = false := by simp; omega
        have HE := hide heq
        have hA : T' ≤ T := by omega
        have hB : T ≤ T' := by omega
        clear heq
        go_wp2_with fail
        refine region_cls (by kernel_rfl) (by kernel_rfl) ?_
        repeat (go_big_quiet_step (fail))
        refine wpQuiet_nil ?_
        rintro wp ⟨⟨_, hp⟩, rfl⟩
        clear q0 p0 hne
        have hpq := hq.trans (hp.mono hq.size)
        have q1 := cls_cell hpq hb x1
        have p1 := cls_cell hpq hb' y1
        have hne := cls_nonempty wp.heap.size wp
        by_cases hVV : V = V'
        · have hvv : (V != V') = false := by simp [hVV]
          have HVV := hide hVV
          clear hVV
          have HN := hide (left_both (unhide HL) (by omega) (by omega) (by rw [unhide HX, unhide HY]; exact unhide HE) (by rw [unhide HX, unhide HY]; exact unhide HVV))
          rw [unhide HX] at HN
          go_wp2_with fail
          refine region_cls (by kernel_rfl) (by kernel_rfl) ?_
          repeat (go_big_quiet_step (fail))
          refine wpQuiet_nil ?_
          rintro wo ⟨⟨_, ho⟩, rfl⟩
          clear q1 p1 hne
          have hoq := hpq.trans (ho.mono hpq.size)
          have z0 := old_cell hoq hb x0
          have z1 := old_cell hoq hb x1
          have o3 := own_below (own_below o1 hp) ho
          have bo := (bq.trans (hp.mono sq)).trans (ho.mono (bq.trans (hp.mono sq)).size)
          have so := bo.size
          clear HL hown x0 x1 y0 y1 o1
          go_wp2_with (at_builtin; refine wpList_append_lies _ rfl _ _ _ rfl w.heap.size 26 i0 _ 2 16 Try.underlying42 hi hz0 hz1 hz2 rfl (by omega) _ L.length _ rfl ((o3).alloc _) _ 1 1 [.int .i64 T, .int .i64 V] rfl rfl (World.news_of_block (cs := #[.int .i64 T, .int .i64 V]) (t := 26) (fr := (0, 0)) (alloc_at (by simp))) (by simp [Value.oneCell']) (by omega) (by unfold maxLen; omega) (by omega) (by simp; omega) _ rfl ?_; intro gg cp w9 hown2 hgrow hat hlt2)
          have R := below_grown (bo.alloc so _) (by simp; omega) hgrow (own_ge o3)
          have R2 : w9.ownsRow w.heap.size 26 2 (.slice (some ⟨gg, 0, none⟩) (L.length + 1) cp) (L ++ [(T, V)]).length (flat (L ++ [(T, V)])) := by rw [flat_append, flat_one, List.length_append]; exact hown2
          clear hown2 hgrow o3 z0 z1
          go_wp2
          go_roundw
          case rel => exact ⟨i + 1, j + 1, L ++ [(T, V)], by omega, by omega, by go_num, by go_num, by simp; omega, unhide HN, R2, R⟩
          case measure => simp [intOf]; omega
        · have hvv : (V != V') = true := by simp [hVV]
          have HN := hide (left_clash (unhide HL) (by omega) (by omega) (by rw [unhide HX, unhide HY]; exact unhide HE) (by rw [unhide HX, unhide HY]; exact hVV))
          clear hVV
          go_wp2_with fail
          refine region_cls (by kernel_rfl) (by kernel_rfl) ?_
          repeat (go_big_quiet_step (fail))
          refine wpQuiet_nil ?_
          rintro wo ⟨⟨_, ho⟩, rfl⟩
          have bo := (bq.trans (hp.mono sq)).trans (ho.mono (bq.trans (hp.mono sq)).size)
          go_wp2
          go_ret2
          refine ⟨.slice none 0 0, ?_, ?_, bo⟩
          · rw [unhide HN]; rfl
          · rw [unhide HN]; exact World.ownsRow_nil _ _ _ _
    · have hsl1 := tail_run a n cap i hin hc1
      have hsl2 := tail_run a' m cap' j hjm hc2
      have N1 := hide (tail_none (unhide VW) hin)
      have C1 := hide (tail_cells (unhide VW) hin)
      have l1 := flat_length (zs.drop i)
      have l2 := flat_length (ys.drop j)
      rw [List.length_drop, hl1] at l1
      rw [List.length_drop, hl2] at l2
      have D1 := hide l1
      have D2 := hide l2
      have HF := hide (show merge zs ys = some (L ++ zs.drop i ++ ys.drop j) by
        by_cases hi1 : i < n
        · rw [left_end_b (unhide HL) (by omega), show ys.drop j = [] from List.drop_eq_nil_of_le (by omega), List.append_nil]
        · rw [left_end_a (unhide HL) (by omega), show zs.drop i = [] from List.drop_eq_nil_of_le (by omega), List.append_nil])
      clear l1 l2 HL VW UW HK1 HK2
      by_cases hi1 : i < n
      · go_wp2_with (first | (at_builtin; refine wpList_append_any _ rfl (.tmp 92) (.tmp 95) _ rfl w.heap.size 26 i0 _ 2 16 Try.underlying42 hi hz0 hz1 hz2 rfl (by omega) _ L.length _ rfl hown (tailA a i cap) (n - i) (cap - i) (flat (zs.drop i)) rfl (unhide N1) (unhide D1) (unhide C1) (flat_oneCell _) (by unfold maxLen; omega) (by omega) hsz ?_; intro v8 w8 ow8 hg8; have b8 := below_grown hbel hsz hg8 (own_ge hown); have C2 := hide (tail_cells ((unhide HU).below b8) hjm); have N2 := hide (tail_none (unhide HU) hjm)) | (at_builtin; refine wpList_append_any _ rfl (.tmp 97) (.tmp 100) _ rfl w.heap.size 26 i0 _ 2 16 Try.underlying42 hi hz0 hz1 hz2 rfl (by omega) _ (L.length + (n - i)) _ rfl ow8 (tailA a' j cap') (m - j) (cap' - j) (flat (ys.drop j)) rfl (unhide N2) (unhide D2) (unhide C2) (flat_oneCell _) (by unfold maxLen; omega) (by omega) b8.size ?_; intro v9 w9 ow9 hg9))
        go_ret2
        have R := below_grown b8 b8.size hg9 (own_ge ow8)
        refine ⟨v9, ?_, ?_, R⟩
        · rw [unhide HF]; rfl
        · rw [unhide HF, Option.getD_some, flat_append, flat_append, List.length_append, List.length_append, List.length_drop, List.length_drop, hl1, hl2]; exact ow9
      · go_wp2_with (first | (at_builtin; refine wpList_append_any _ rfl (.tmp 92) (.tmp 95) _ rfl w.heap.size 26 i0 _ 2 16 Try.underlying42 hi hz0 hz1 hz2 rfl (by omega) _ L.length _ rfl hown (tailA a i cap) (n - i) (cap - i) (flat (zs.drop i)) rfl (unhide N1) (unhide D1) (unhide C1) (flat_oneCell _) (by unfold maxLen; omega) (by omega) hsz ?_; intro v8 w8 ow8 hg8; have b8 := below_grown hbel hsz hg8 (own_ge hown); have C2 := hide (tail_cells ((unhide HU).below b8) hjm); have N2 := hide (tail_none (unhide HU) hjm)) | (at_builtin; refine wpList_append_any _ rfl (.tmp 97) (.tmp 100) _ rfl w.heap.size 26 i0 _ 2 16 Try.underlying42 hi hz0 hz1 hz2 rfl (by omega) _ (L.length + (n - i)) _ rfl ow8 (tailA a' j cap') (m - j) (cap' - j) (flat (ys.drop j)) rfl (unhide N2) (unhide D2) (unhide C2) (flat_oneCell _) (by unfold maxLen; omega) (by omega) b8.size ?_; intro v9 w9 ow9 hg9))
        go_ret2
        have R := below_grown b8 b8.size hg9 (own_ge ow8)
        refine ⟨v9, ?_, ?_, R⟩
        · rw [unhide HF]; rfl
        · rw [unhide HF, Option.getD_some, flat_append, flat_append, List.length_append, List.length_append, List.length_drop, List.length_drop, hl1, hl2]; exact ow9
end Go.Proofs.Ytncjagdnebpaaaa.Samp

/- The model's SamplesJoin, and both at every two slices of samples. -/
namespace Go.Proofs.Ytncjagdnebpaaaa.Samp
open Go.RowKit SampMath Rw
set_option linter.unusedVariables false
attribute [local go_sem ↓] Go.wp_at_zero Go.wp_at_succ
theorem left_rest_a {a b L : List S} {i j : Nat} (h : MLeft a b L i j) (hi : i < a.length) (hj : b.length ≤ j) : MLeft a b (L ++ [at' a i]) (i + 1) j := by
  unfold MLeft at *
  rw [h, List.drop_eq_nil_of_le hj, merge_nil_right, merge_nil_right, drop_at a i hi]
  simp
theorem left_rest_b {a b L : List S} {i j : Nat} (h : MLeft a b L i j) (hi : a.length ≤ i) (hj : j < b.length) : MLeft a b (L ++ [at' b j]) i (j + 1) := by
  unfold MLeft at *
  rw [h, List.drop_eq_nil_of_le hi, merge_nil, merge_nil, drop_at b j hj]
  simp
set_option maxRecDepth 100000 in
set_option maxHeartbeats 4000000 in
theorem l2join (a a' : Option Addr) (n m cap cap' : Nat) (zs ys : List S) (w : World) (hv : View w a n cap zs) (hu : View w a' m cap' ys) (hn : n ≤ 4194304) (hm : m ≤ 4194304) :
    Calls Try.prog 49 #[.slice a n cap, .slice a' m cap'] w fun e w' => ∃ v, e = .returned (.tuple #[v, .bool (merge zs ys).isSome]) ∧ w'.ownsRow w.heap.size 26 2 v ((merge zs ys).getD []).length (flat ((merge zs ys).getD [])) ∧ Below w.heap.size w w' := by
  obtain ⟨i0, hi, hz0, hz1, hz2⟩ := info_parts info_sample
  obtain ⟨hl1, hc1, hm1, -, -⟩ := id hv
  obtain ⟨hl2, hc2, hm2, -, -⟩ := id hu
  unfold maxLen at hm1 hm2
  have HV := hide hv
  have HU := hide hu
  clear hv hu
  go_enter Try.func49, Try.ntmps49
  go_wp2
  go_loopw [6, 7, 8] (fun v iv jv wr => ∃ (i j : Nat) (L : List S), i ≤ n ∧ j ≤ m ∧ iv = .int .i64 i ∧ jv = .int .i64 j ∧ L.length ≤ i + j ∧ MLeft zs ys L i j ∧ wr.ownsRow w.heap.size 26 2 v L.length (flat L) ∧ Below w.heap.size w wr) (fun _ iv jv _ => (n - (intOf iv).toNat) + (m - (intOf jv).toNat))
  case atStart => exact ⟨0, 0, [], Nat.zero_le _, Nat.zero_le _, rfl, rfl, Nat.zero_le _, left_start zs ys, own_empty (Nat.le_refl _), (Below.refl _ _).alloc (Nat.le_refl _) _⟩
  case round =>
    obtain ⟨i, j, L, hin, hjm, rfl, rfl, hL, hleft, hown, hbel⟩ := hrel
    have hsz := hbel.size
    have HL := hide hleft
    clear hleft
    have VW := hide ((unhide HV).below hbel)
    have UW := hide ((unhide HU).below hbel)
    have hi0 : (0 : Int) ≤ (i : Int) := Int.natCast_nonneg _
    have hj0 : (0 : Int) ≤ (j : Int) := Int.natCast_nonneg _
    have hne := cls_nonempty wr.heap.size wr
    by_cases hj1 : j < m
    · have hj2 : (j : Int) < (m : Int) := by omega
      obtain ⟨b', off', ha', hb', hr'⟩ := (unhide UW).2.2.2.2 (by omega)
      subst ha'
      obtain ⟨y0, y1⟩ := hr' j (by omega)
      obtain ⟨T', hT'⟩ : ∃ T, T = (at' ys j).1 := ⟨_, rfl⟩
      obtain ⟨V', hV'⟩ : ∃ V, V = (at' ys j).2 := ⟨_, rfl⟩
      rw [← hT'] at y0
      rw [← hV'] at y1
      have HY := hide (show at' ys j = (T', V') by rw [hT', hV'])
      clear hT' hV' hr' HU UW
      have p0 := cls_cell (Below.refl _ _) hb' y0
      have hd1 : decide ((m : Int) ≤ (j : Int)) = false := by simp; omega
      have hd1' : decide (m ≤ j) = false := by simp; omega
      by_cases hi1 : i < n
      · have hi2 : (i : Int) < (n : Int) := by omega
        have hd2 : decide ((n : Int) ≤ (i : Int)) = false := by simp; omega
        have hd2' : decide (n ≤ i) = false := by simp; omega
        obtain ⟨b, off, ha, hb, hr⟩ := (unhide VW).2.2.2.2 (by omega)
        subst ha
        obtain ⟨x0, x1⟩ := hr i (by omega)
        obtain ⟨T, hT⟩ : ∃ T, T = (at' zs i).1 := ⟨_, rfl⟩
        obtain ⟨V, hV⟩ : ∃ V, V = (at' zs i).2 := ⟨_, rfl⟩
        rw [← hT] at x0
        rw [← hV] at x1
        have HX := hide (show at' zs i = (T, V) by rw [hT, hV])
        clear hT hV hr HV VW
        have q0 := cls_cell (Below.refl _ _) hb x0
        rcases (show T < T' ∨ T' < T ∨ T = T' from by omega) with hlt | hlt | heq
        · have HN := hide (left_first (unhide HL) (by omega) (by omega) (by rw [unhide HX, unhide HY]; exact hlt))
          rw [unhide HX] at HN
          go_wp2_with fail
          refine region_cls (by kernel_rfl) (by kernel_rfl) ?_
          repeat (go_big_quiet_step (fail))
          refine wpQuiet_nil ?_
          rintro wq ⟨⟨_, hq⟩, rfl⟩
          have z0 := old_cell hq hb x0
          have z1 := old_cell hq hb x1
          have o1 := own_below hown hq
          have bq := hbel.trans (hq.mono hsz)
          have sq := bq.size
          clear q0 p0 hne HL hown x0 x1 y0 y1
          go_wp2_with (at_builtin; refine wpList_append_lies _ rfl _ _ _ rfl w.heap.size 26 i0 _ 2 16 Try.underlying42 hi hz0 hz1 hz2 rfl (by omega) _ L.length _ rfl ((o1).alloc _) _ 1 1 [.int .i64 T, .int .i64 V] rfl rfl (World.news_of_block (cs := #[.int .i64 T, .int .i64 V]) (t := 26) (fr := (0, 0)) (alloc_at (by simp))) (by simp [Value.oneCell']) (by omega) (by unfold maxLen; omega) (by omega) (by simp; omega) _ rfl ?_; intro gg cp w9 hown2 hgrow hat hlt2)
          have R := below_grown (bq.alloc bq.size _) (by have := bq.size; simp; omega) hgrow (own_ge o1)
          have R2 : w9.ownsRow w.heap.size 26 2 (.slice (some ⟨gg, 0, none⟩) (L.length + 1) cp) (L ++ [(T, V)]).length (flat (L ++ [(T, V)])) := by rw [flat_append, flat_one, List.length_append]; exact hown2
          clear hown2 hgrow o1
          go_wp2
          go_roundw
          case rel => exact ⟨i + 1, j, L ++ [(T, V)], by omega, by omega, by go_num, rfl, by simp; omega, unhide HN, R2, R⟩
          case measure => simp [intOf]; omega
        · have HN := hide (left_second (unhide HL) (by omega) (by omega) (by rw [unhide HX, unhide HY]; exact hlt))
          rw [unhide HY] at HN
          have hnl : decide (T < T') = false := by simp; omega
          go_wp2_with fail
          refine region_cls (by kernel_rfl) (by kernel_rfl) ?_
          repeat (go_big_quiet_step (fail))
          refine wpQuiet_nil ?_
          rintro wq ⟨⟨_, hq⟩, rfl⟩
          have q2 := cls_cell hq hb x0
          have p2 := cls_cell hq hb' y0
          have hne2 := cls_nonempty wq.heap.size wq
          have o1 := own_below hown hq
          have bq := hbel.trans (hq.mono hsz)
          have sq := bq.size
          clear q0 p0 hne hown
          go_wp2_with fail
          refine region_cls (by kernel_rfl) (by kernel_rfl) ?_
          repeat (go_big_quiet_step (fail))
          refine wpQuiet_nil ?_
          rintro wp ⟨⟨_, hp⟩, rfl⟩
          have hpq := hq.trans (hp.mono hq.size)
          have z0 := old_cell hpq hb' y0
          have z1 := old_cell hpq hb' y1
          have o2 := own_below o1 hp
          have bp := bq.trans (hp.mono sq)
          have sp := bp.size
          clear q2 p2 hne2 HL x0 x1 y0 y1 o1
          go_wp2_with (at_builtin; refine wpList_append_lies _ rfl _ _ _ rfl w.heap.size 26 i0 _ 2 16 Try.underlying42 hi hz0 hz1 hz2 rfl (by omega) _ L.length _ rfl ((o2).alloc _) _ 1 1 [.int .i64 T', .int .i64 V'] rfl rfl (World.news_of_block (cs := #[.int .i64 T', .int .i64 V']) (t := 26) (fr := (0, 0)) (alloc_at (by simp))) (by simp [Value.oneCell']) (by omega) (by unfold maxLen; omega) (by omega) (by simp; omega) _ rfl ?_; intro gg cp w9 hown2 hgrow hat hlt2)
          have R := below_grown (bp.alloc bp.size _) (by have := bp.size; simp; omega) hgrow (own_ge o2)
          have R2 : w9.ownsRow w.heap.size 26 2 (.slice (some ⟨gg, 0, none⟩) (L.length + 1) cp) (L ++ [(T', V')]).length (flat (L ++ [(T', V')])) := by rw [flat_append, flat_one, List.length_append]; exact hown2
          clear hown2 hgrow o2
          go_wp2
          go_roundw
          case rel => exact ⟨i, j + 1, L ++ [(T', V')], by omega, by omega, rfl, by go_num, by simp; omega, unhide HN, R2, R⟩
          case measure => simp [intOf]; omega
        · have hnl : decide (T < T') = false := by simp; omega
          have hnr : decide (T' < T) = false := by simp; omega
          have HE := hide heq
          have hA : T' ≤ T := by omega
          have hB : T ≤ T' := by omega
          clear heq
          go_wp2_with fail
          refine region_cls (by kernel_rfl) (by kernel_rfl) ?_
          repeat (go_big_quiet_step (fail))
          refine wpQuiet_nil ?_
          rintro wq ⟨⟨_, hq⟩, rfl⟩
          have q2 := cls_cell hq hb x0
          have p2 := cls_cell hq hb' y0
          have hne2 := cls_nonempty wq.heap.size wq
          have o1 := own_below hown hq
          have bq := hbel.trans (hq.mono hsz)
          have sq := bq.size
          clear q0 p0 hne hown
          go_wp2_with fail
          refine region_cls (by kernel_rfl) (by kernel_rfl) ?_
          repeat (go_big_quiet_step (fail))
          refine wpQuiet_nil ?_
          rintro wp ⟨⟨_, hp⟩, rfl⟩
          have hpq := hq.trans (hp.mono hq.size)
          have q3 := cls_cell hpq hb x1
          have p3 := cls_cell hpq hb' y1
          have hne3 := cls_nonempty wp.heap.size wp
          have o2 := own_below o1 hp
          have bp := bq.trans (hp.mono sq)
          have sp := bp.size
          clear q2 p2 hne2 o1
          by_cases hVV : V = V'
          · have hvv : (V != V') = false := by simp [hVV]
            have HVV := hide hVV
            clear hVV
            have HN := hide (left_both (unhide HL) (by omega) (by omega) (by rw [unhide HX, unhide HY]; exact unhide HE) (by rw [unhide HX, unhide HY]; exact unhide HVV))
            rw [unhide HX] at HN
            go_wp2_with fail
            refine region_cls (by kernel_rfl) (by kernel_rfl) ?_
            repeat (go_big_quiet_step (fail))
            refine wpQuiet_nil ?_
            rintro wo ⟨⟨_, ho⟩, rfl⟩
            have hoq := hpq.trans (ho.mono hpq.size)
            have z0 := old_cell hoq hb x0
            have z1 := old_cell hoq hb x1
            have o3 := own_below o2 ho
            have bo := bp.trans (ho.mono sp)
            have so := bo.size
            clear q3 p3 hne3 HL x0 x1 y0 y1 o2
            go_wp2_with (at_builtin; refine wpList_append_lies _ rfl _ _ _ rfl w.heap.size 26 i0 _ 2 16 Try.underlying42 hi hz0 hz1 hz2 rfl (by omega) _ L.length _ rfl ((o3).alloc _) _ 1 1 [.int .i64 T, .int .i64 V] rfl rfl (World.news_of_block (cs := #[.int .i64 T, .int .i64 V]) (t := 26) (fr := (0, 0)) (alloc_at (by simp))) (by simp [Value.oneCell']) (by omega) (by unfold maxLen; omega) (by omega) (by simp; omega) _ rfl ?_; intro gg cp w9 hown2 hgrow hat hlt2)
            have R := below_grown (bo.alloc bo.size _) (by have := bo.size; simp; omega) hgrow (own_ge o3)
            have R2 : w9.ownsRow w.heap.size 26 2 (.slice (some ⟨gg, 0, none⟩) (L.length + 1) cp) (L ++ [(T, V)]).length (flat (L ++ [(T, V)])) := by rw [flat_append, flat_one, List.length_append]; exact hown2
            clear hown2 hgrow o3
            go_wp2
            go_roundw
            case rel => exact ⟨i + 1, j + 1, L ++ [(T, V)], by omega, by omega, by go_num, by go_num, by simp; omega, unhide HN, R2, R⟩
            case measure => simp [intOf]; omega
          · have hvv : (V != V') = true := by simp [hVV]
            have HN := hide (left_clash (unhide HL) (by omega) (by omega) (by rw [unhide HX, unhide HY]; exact unhide HE) (by rw [unhide HX, unhide HY]; exact hVV))
            clear hVV
            go_wp2_with fail
            refine region_cls (by kernel_rfl) (by kernel_rfl) ?_
            repeat (go_big_quiet_step (fail))
            refine wpQuiet_nil ?_
            rintro wo ⟨⟨_, ho⟩, rfl⟩
            have bo := bp.trans (ho.mono sp)
            have so := bo.size
            go_wp2
            go_ret2
            refine ⟨.slice (some ⟨wo.heap.size, 0, none⟩) 0 0, ?_, ?_, bo.alloc so _⟩
            · rw [unhide HN]; rfl
            · rw [unhide HN]; exact own_empty so
      · have HN := hide (left_rest_b (unhide HL) (by omega) (by omega))
        rw [unhide HY] at HN
        have hd2 : decide ((n : Int) ≤ (i : Int)) = true := by simp; omega
        have hd2' : decide (n ≤ i) = true := by simp; omega
        have hd3 : decide ((i : Int) < (n : Int)) = false := by simp; omega
        have hd3' : decide (i < n) = false := by simp; omega
        have hi2 : (n : Int) ≤ (i : Int) := by omega
        clear HV VW
        go_wp2_with fail
        refine region_cls (by kernel_rfl) (by kernel_rfl) ?_
        repeat (go_big_quiet_step (fail))
        refine wpQuiet_nil ?_
        rintro wq ⟨⟨_, hq⟩, rfl⟩
        have p2 := cls_cell hq hb' y0
        have hne2 := cls_nonempty wq.heap.size wq
        have o1 := own_below hown hq
        have bq := hbel.trans (hq.mono hsz)
        have sq := bq.size
        clear p0 hne hown
        go_wp2_with fail
        refine region_cls (by kernel_rfl) (by kernel_rfl) ?_
        repeat (go_big_quiet_step (fail))
        refine wpQuiet_nil ?_
        rintro wp ⟨⟨_, hp⟩, rfl⟩
        have hpq := hq.trans (hp.mono hq.size)
        have z0 := old_cell hpq hb' y0
        have z1 := old_cell hpq hb' y1
        have o2 := own_below o1 hp
        have bp := bq.trans (hp.mono sq)
        have sp := bp.size
        clear p2 hne2 HL y0 y1 o1
        go_wp2_with (at_builtin; refine wpList_append_lies _ rfl _ _ _ rfl w.heap.size 26 i0 _ 2 16 Try.underlying42 hi hz0 hz1 hz2 rfl (by omega) _ L.length _ rfl ((o2).alloc _) _ 1 1 [.int .i64 T', .int .i64 V'] rfl rfl (World.news_of_block (cs := #[.int .i64 T', .int .i64 V']) (t := 26) (fr := (0, 0)) (alloc_at (by simp))) (by simp [Value.oneCell']) (by omega) (by unfold maxLen; omega) (by omega) (by simp; omega) _ rfl ?_; intro gg cp w9 hown2 hgrow hat hlt2)
        have R := below_grown (bp.alloc bp.size _) (by have := bp.size; simp; omega) hgrow (own_ge o2)
        have R2 : w9.ownsRow w.heap.size 26 2 (.slice (some ⟨gg, 0, none⟩) (L.length + 1) cp) (L ++ [(T', V')]).length (flat (L ++ [(T', V')])) := by rw [flat_append, flat_one, List.length_append]; exact hown2
        clear hown2 hgrow o2
        go_wp2
        go_roundw
        case rel => exact ⟨i, j + 1, L ++ [(T', V')], by omega, by omega, rfl, by go_num, by simp; omega, unhide HN, R2, R⟩
        case measure => simp [intOf]; omega
    · have hj2 : (m : Int) ≤ (j : Int) := by omega
      have hd1 : decide ((m : Int) ≤ (j : Int)) = true := by simp; omega
      have hd1' : decide (m ≤ j) = true := by simp; omega
      by_cases hi1 : i < n
      · have HN := hide (left_rest_a (unhide HL) (by omega) (by omega))
        have hi2 : (i : Int) < (n : Int) := by omega
        obtain ⟨b, off, ha, hb, hr⟩ := (unhide VW).2.2.2.2 (by omega)
        subst ha
        obtain ⟨x0, x1⟩ := hr i (by omega)
        obtain ⟨T, hT⟩ : ∃ T, T = (at' zs i).1 := ⟨_, rfl⟩
        obtain ⟨V, hV⟩ : ∃ V, V = (at' zs i).2 := ⟨_, rfl⟩
        rw [← hT] at x0
        rw [← hV] at x1
        have HX := hide (show at' zs i = (T, V) by rw [hT, hV])
        rw [unhide HX] at HN
        clear hT hV hr HV VW HU UW
        go_wp2_with fail
        refine region_cls (by kernel_rfl) (by kernel_rfl) ?_
        repeat (go_big_quiet_step (fail))
        refine wpQuiet_nil ?_
        rintro wq ⟨⟨_, hq⟩, rfl⟩
        have z0 := old_cell hq hb x0
        have z1 := old_cell hq hb x1
        have o1 := own_below hown hq
        have bq := hbel.trans (hq.mono hsz)
        have sq := bq.size
        clear hne HL hown x0 x1
        go_wp2_with (at_builtin; refine wpList_append_lies _ rfl _ _ _ rfl w.heap.size 26 i0 _ 2 16 Try.underlying42 hi hz0 hz1 hz2 rfl (by omega) _ L.length _ rfl ((o1).alloc _) _ 1 1 [.int .i64 T, .int .i64 V] rfl rfl (World.news_of_block (cs := #[.int .i64 T, .int .i64 V]) (t := 26) (fr := (0, 0)) (alloc_at (by simp))) (by simp [Value.oneCell']) (by omega) (by unfold maxLen; omega) (by omega) (by simp; omega) _ rfl ?_; intro gg cp w9 hown2 hgrow hat hlt2)
        have R := below_grown (bq.alloc bq.size _) (by have := bq.size; simp; omega) hgrow (own_ge o1)
        have R2 : w9.ownsRow w.heap.size 26 2 (.slice (some ⟨gg, 0, none⟩) (L.length + 1) cp) (L ++ [(T, V)]).length (flat (L ++ [(T, V)])) := by rw [flat_append, flat_one, List.length_append]; exact hown2
        clear hown2 hgrow o1
        go_wp2
        go_roundw
        case rel => exact ⟨i + 1, j, L ++ [(T, V)], by omega, by omega, by go_num, rfl, by simp; omega, unhide HN, R2, R⟩
        case measure => simp [intOf]; omega
      · have HF := hide (show merge zs ys = some L by rw [left_end_a (unhide HL) (by omega), List.drop_eq_nil_of_le (by omega), List.append_nil])
        go_wp2
        go_ret2
        refine ⟨u6, ?_, ?_, hbel⟩
        · rw [unhide HF]; rfl
        · rw [unhide HF, Option.getD_some]; exact hown
end Go.Proofs.Ytncjagdnebpaaaa.Samp

/- SamplesJoin of the program and of the model answer the same, at every two slices of samples. -/
namespace Go.Proofs.Ytncjagdnebpaaaa.Samp
open Go.RowKit SampMath Rw
set_option linter.unusedVariables false
theorem impl_bad1 (v u : Value) (w : World) (h : Hid (Calls Try.prog 30 #[v] w fun e w' => e = .returned (.bool false) ∧ Below w.heap.size w w')) :
    Calls Try.prog 62 #[v, u] w fun e w' => e = .returned (.tuple #[.slice none 0 0, .bool false]) ∧ Below w.heap.size w w' := by
  go_enter Try.func62, Try.ntmps62
  go_wp2_with fail
  refine (unhide h).mono ?_
  rintro e w1 ⟨rfl, b1⟩
  go_wp2
  go_ret2
  exact ⟨rfl, b1⟩
theorem impl_bad2 (v u : Value) (w : World) (h : Hid (Calls Try.prog 30 #[v] w fun e w' => e = .returned (.bool true) ∧ Below w.heap.size w w')) (h2 : Hid (∀ W, Below w.heap.size w W → Calls Try.prog 30 #[u] W fun e w' => e = .returned (.bool false) ∧ Below W.heap.size W w')) :
    Calls Try.prog 62 #[v, u] w fun e w' => e = .returned (.tuple #[.slice none 0 0, .bool false]) ∧ Below w.heap.size w w' := by
  go_enter Try.func62, Try.ntmps62
  go_wp2_with fail
  refine (unhide h).mono ?_
  rintro e w1 ⟨rfl, b1⟩
  go_wp2_with fail
  refine (unhide h2 _ b1).mono ?_
  rintro e w2 ⟨rfl, b2⟩
  go_wp2
  go_ret2
  exact ⟨rfl, b1.trans (b2.mono b1.size)⟩
theorem join_of_ok {zs ys : List S} (h1 : ok zs = true) (h2 : ok ys = true) : (join zs ys).1 = (merge zs ys).getD [] ∧ (join zs ys).2 = (merge zs ys).isSome := by
  unfold join
  rw [if_pos ⟨h1, h2⟩]
  cases merge zs ys <;> exact ⟨rfl, rfl⟩
/-- what SamplesJoin leaves: its answer, in memory of its own -/
def Joined (w : World) (zs ys : List S) (e : Ending) (w' : World) : Prop :=
  ∃ x, e = .returned (.tuple #[x, .bool (join zs ys).2]) ∧ w'.ownsRow w.heap.size 26 2 x (join zs ys).1.length (flat (join zs ys).1) ∧ Below w.heap.size w w'
theorem impl_join {w : World} {v u : Value} {zs ys : List S} (h : Smp w v zs) (h' : Smp w u ys) (hn : zs.length ≤ 4194304) (hm : ys.length ≤ 4194304) : Calls Try.prog 62 #[v, u] w (Joined w zs ys) := by
  have k1 := impl_ok h
  have k2 := fun W (hb : Below w.heap.size w W) => impl_ok (h'.below hb)
  cases o1 : ok zs
  · rw [o1] at k1
    refine (impl_bad1 v u w k1).mono ?_
    rintro e w' ⟨rfl, hb⟩
    refine ⟨.slice none 0 0, ?_, ?_, hb⟩
    · rw [join_bad (.inl o1)]
    · rw [join_bad (.inl o1)]; exact World.ownsRow_nil _ _ _ _
  · rw [o1] at k1
    cases o2 : ok ys
    · rw [o2] at k2
      refine (impl_bad2 v u w k1 k2).mono ?_
      rintro e w' ⟨rfl, hb⟩
      refine ⟨.slice none 0 0, ?_, ?_, hb⟩
      · rw [join_bad (.inr o2)]
      · rw [join_bad (.inr o2)]; exact World.ownsRow_nil _ _ _ _
    · rw [o2] at k2
      have ho := join_of_ok o1 o2
      obtain ⟨a, n, cap, rfl, hv⟩ := view_of h
      obtain ⟨a', m, cap', rfl, hu⟩ := view_of h'
      refine (impl_merge a a' n m cap cap' zs ys w hv hu (by rw [← hv.1]; exact hn) (by rw [← hu.1]; exact hm) k1 k2).mono ?_
      rintro e w' ⟨x, rfl, ox, hb⟩
      exact ⟨x, by rw [ho.2], by rw [ho.1]; exact ox, hb⟩
end Go.Proofs.Ytncjagdnebpaaaa.Samp

/- What the laws' own helpers do with slices of impl.Sample: they are copied, held against each other, and counted. -/
namespace Go.Proofs.Ytncjagdnebpaaaa.Sam
open Go.RowKit Rw
set_option linter.unusedVariables false
attribute [local go_sem ↓] Go.wp_at_zero Go.wp_at_succ
abbrev E := Int × Int
def fl (x : E) : List Value := [.int .i64 (x.1), .int .i64 (x.2)]
theorem flk (x : E) : (fl x).length = 2 := rfl
def at' (zs : List E) (i : Nat) : E := zs.getD i default
abbrev flat (zs : List E) : List Value := flatOf fl zs
abbrev Is (w : World) (v : Value) (zs : List E) : Prop := Lies w v zs.length 2 (flat zs)
theorem flat_length (zs : List E) : (flat zs).length = zs.length * 2 := flatOf_length flk zs
theorem flat_oneCell (zs : List E) : ∀ u ∈ flat zs, u.oneCell' = true := by
  intro u hu
  obtain ⟨x, _, hx⟩ := List.mem_flatMap.1 hu
  simp only [fl, List.mem_cons, List.not_mem_nil, or_false] at hx
  rcases hx with rfl | rfl <;> rfl
theorem at_get (zs : List E) (i : Nat) (h : i < zs.length) : at' zs i = zs[i] := by simp [at', List.getD, h]
theorem at_snoc (zs : List E) (i : Nat) (h : i < zs.length) : zs.take (i + 1) = zs.take i ++ [at' zs i] := by rw [List.take_succ_eq_append_getElem h, at_get zs i h]
theorem flat_at (zs : List E) (i : Nat) (h : i < zs.length) : (flat zs)[i * 2]? = some (.int .i64 ((at' zs i).1)) ∧ (flat zs)[i * 2 + 1]? = some (.int .i64 ((at' zs i).2)) := by
  rw [at_get zs i h]
  exact ⟨flatOf_get flk zs i 0 h (by omega), flatOf_get flk zs i 1 h (by omega)⟩
theorem is_of_own {w : World} {base : Nat} {v : Value} {zs : List E} (h : w.ownsRow base 26 2 v zs.length (flat zs)) : Is w v zs := lies_of_own h
theorem info_e : (Try.prog.info? 26).map (fun i => (i.zero, i.size, i.bytes)) = some (some (.agg #[.int .i64 0, .int .i64 0]), 2, 16) := by kernel_rfl
def good (x : E) : Prop := (Lit.int .i64 (x.1)).wf = true ∧ (Lit.int .i64 (x.2)).wf = true
theorem set_e (A : List Value) (u0 u1 x0 x1 : Value) (L : List Value) (k : Nat) (h : A.length = k) : (((A ++ u0 :: u1 :: L).set k x0).set (k + 1) x1) = A ++ [x0, x1] ++ L := by
  subst h
  simp [List.set_append_right]
theorem split_e (r : List Value) (n : Nat) (h : r.length = (n + 1) * 2) : ∃ u0 u1 L, r = u0 :: u1 :: L ∧ L.length = n * 2 := by
  match r, h with
  | u0 :: u1 :: L, h => exact ⟨u0, u1, L, rfl, by simp only [List.length_cons] at h; omega⟩
  | [], h => simp at h <;> omega
  | [_], h => simp at h <;> omega
def tot (zs : List E) : Nat := zs.length
end Go.Proofs.Ytncjagdnebpaaaa.Sam
