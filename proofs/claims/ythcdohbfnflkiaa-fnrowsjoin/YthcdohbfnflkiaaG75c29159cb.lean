/- My own texts of one claim, laid together by program: SampCut, JoinMath, SampJoin. -/
import Derived.Test.YthcdohbfnflkiaaG93c52ee54d
import Derived.Test.YthcdohbfnflkiaaG56bd2afeb2
import Derived.Laws.AppendOwnNone
/- What SamplesCut answers, of the program and of the model, at every slice of samples. -/
namespace Go.Proofs.Ythcdohbfnflkiaa.Samp
open Go.RowKit SampMath Rw
set_option linter.unusedVariables false
attribute [local go_sem ↓] Go.wp_at_zero Go.wp_at_succ
def inT (f t : Int) (x : S) : Bool := decide (f ≤ x.1) && decide (x.1 < t)
def cutL (zs : List S) (f t : Int) : List S := zs.filter (inT f t)
def cut (zs : List S) (f t : Int) : List S := if ok zs = true then cutL zs f t else []
theorem cutL_snoc (zs : List S) (f t : Int) (k : Nat) (h : k < zs.length) : cutL (zs.take (k + 1)) f t = cutL (zs.take k) f t ++ if inT f t (at' zs k) = true then [at' zs k] else [] := by
  rw [at_snoc zs k h, cutL, List.filter_append, cutL]
  cases hh : inT f t (at' zs k) <;> simp [hh]
theorem cutL_le (zs : List S) (f t : Int) (k : Nat) : (cutL (zs.take k) f t).length ≤ k := by
  have h1 := List.length_filter_le (inT f t) (zs.take k)
  have h2 := List.length_take_le k zs
  unfold cutL
  omega
end Go.Proofs.Ythcdohbfnflkiaa.Samp

/- Samples of both, as plain mathematics: by time, each once; none if they have two numbers for one time. No condition. -/
namespace Go.Proofs.Ythcdohbfnflkiaa.SampMath
def merge : List S → List S → Option (List S)
  | [], b => some b
  | x :: a, [] => some (x :: a)
  | x :: a, y :: b =>
    if x.1 < y.1 then (merge a (y :: b)).map (x :: ·)
    else if y.1 < x.1 then (merge (x :: a) b).map (y :: ·)
    else if x.2 = y.2 then (merge a b).map (x :: ·) else none
theorem merge_nil (b : List S) : merge [] b = some b := by rw [merge]
theorem merge_nil_right (a : List S) : merge a [] = some a := by cases a <;> rw [merge]
theorem drop_at (zs : List S) (i : Nat) (h : i < zs.length) : zs.drop i = at' zs i :: zs.drop (i + 1) := by
  rw [List.drop_eq_getElem_cons h]; simp [at', List.getD, h]
/-- what the loops keep: the result is what is out, and what is left together -/
def MLeft (a b L : List S) (i j : Nat) : Prop := merge a b = (merge (a.drop i) (b.drop j)).map (L ++ ·)
theorem left_start (a b : List S) : MLeft a b [] 0 0 := by
  unfold MLeft
  simp
theorem left_first {a b L : List S} {i j : Nat} (h : MLeft a b L i j) (hi : i < a.length) (hj : j < b.length) (hlt : (at' a i).1 < (at' b j).1) : MLeft a b (L ++ [at' a i]) (i + 1) j := by
  unfold MLeft at *
  rw [h, drop_at a i hi, drop_at b j hj, merge, if_pos hlt, Option.map_map, ← drop_at b j hj]
  congr 1
  funext x
  simp
theorem left_second {a b L : List S} {i j : Nat} (h : MLeft a b L i j) (hi : i < a.length) (hj : j < b.length) (hlt : (at' b j).1 < (at' a i).1) : MLeft a b (L ++ [at' b j]) i (j + 1) := by
  unfold MLeft at *
  rw [h, drop_at a i hi, drop_at b j hj, merge, if_neg (by omega), if_pos hlt, Option.map_map, ← drop_at a i hi]
  congr 1
  funext x
  simp
theorem left_both {a b L : List S} {i j : Nat} (h : MLeft a b L i j) (hi : i < a.length) (hj : j < b.length) (ht : (at' a i).1 = (at' b j).1) (hv : (at' a i).2 = (at' b j).2) : MLeft a b (L ++ [at' a i]) (i + 1) (j + 1) := by
  unfold MLeft at *
  rw [h, drop_at a i hi, drop_at b j hj, merge, if_neg (by omega), if_neg (by omega), if_pos hv, Option.map_map]
  congr 1
  funext x
  simp
theorem left_clash {a b L : List S} {i j : Nat} (h : MLeft a b L i j) (hi : i < a.length) (hj : j < b.length) (ht : (at' a i).1 = (at' b j).1) (hv : (at' a i).2 ≠ (at' b j).2) : merge a b = none := by
  unfold MLeft at *
  rw [h, drop_at a i hi, drop_at b j hj, merge, if_neg (by omega), if_neg (by omega), if_neg hv]
  rfl
theorem left_end_a {a b L : List S} {i j : Nat} (h : MLeft a b L i j) (hi : a.length ≤ i) : merge a b = some (L ++ b.drop j) := by
  unfold MLeft at *
  rw [h, List.drop_eq_nil_of_le hi, merge_nil]
  rfl
theorem left_end_b {a b L : List S} {i j : Nat} (h : MLeft a b L i j) (hj : b.length ≤ j) : merge a b = some (L ++ a.drop i) := by
  unfold MLeft at *
  rw [h, List.drop_eq_nil_of_le hj, merge_nil_right]
  rfl
/-- what SamplesJoin answers -/
def join (a b : List S) : List S × Bool := if ok a = true ∧ ok b = true then (match merge a b with | some L => (L, true) | none => ([], false)) else ([], false)
theorem join_bad {a b : List S} (h : ok a = false ∨ ok b = false) : join a b = ([], false) := by
  unfold join
  rw [if_neg]
  rintro ⟨h1, h2⟩
  rcases h with h | h <;> simp_all
theorem join_some {a b L : List S} (h1 : ok a = true) (h2 : ok b = true) (h : merge a b = some L) : join a b = (L, true) := by
  unfold join
  rw [if_pos ⟨h1, h2⟩, h]
theorem join_none {a b : List S} (h1 : ok a = true) (h2 : ok b = true) (h : merge a b = none) : join a b = ([], false) := by
  unfold join
  rw [if_pos ⟨h1, h2⟩, h]
theorem merge_le : ∀ (a b L : List S), merge a b = some L → L.length ≤ a.length + b.length := by
  intro a b
  induction a, b using merge.induct with
  | case1 b => intro L h; rw [merge_nil] at h; cases h; simp
  | case2 x a => intro L h; rw [merge_nil_right] at h; cases h; simp
  | case3 x a y b hlt ih =>
    intro L h
    rw [merge, if_pos hlt] at h
    obtain ⟨M, hM, rfl⟩ := Option.map_eq_some_iff.1 h
    have := ih M hM
    simp only [List.length_cons] at *
    omega
  | case4 x a y b h1 hlt ih =>
    intro L h
    rw [merge, if_neg h1, if_pos hlt] at h
    obtain ⟨M, hM, rfl⟩ := Option.map_eq_some_iff.1 h
    have := ih M hM
    simp only [List.length_cons] at *
    omega
  | case5 x a y b h1 h2 hv ih =>
    intro L h
    rw [merge, if_neg h1, if_neg h2, if_pos hv] at h
    obtain ⟨M, hM, rfl⟩ := Option.map_eq_some_iff.1 h
    have := ih M hM
    simp only [List.length_cons] at *
    omega
  | case6 x a y b h1 h2 hv =>
    intro L h
    rw [merge, if_neg h1, if_neg h2, if_neg hv] at h
    cases h
theorem join_le (a b : List S) : (join a b).1.length ≤ a.length + b.length := by
  unfold join
  split
  · cases h : merge a b with
    | none => simp
    | some L => exact merge_le a b L h
  · simp
end Go.Proofs.Ythcdohbfnflkiaa.SampMath

/- What SamplesJoin answers, of the program and of the model, at every two slices of samples. -/
namespace Go.Proofs.Ythcdohbfnflkiaa.Samp
open Go.RowKit SampMath Rw
set_option linter.unusedVariables false
attribute [local go_sem ↓] Go.wp_at_zero Go.wp_at_succ
/-- a slice of samples, its address open: where there are some, it has one -/
def View (w : World) (a : Option Addr) (n cap : Nat) (zs : List S) : Prop :=
  zs.length = n ∧ n ≤ cap ∧ cap ≤ maxLen ∧ (a = none → cap = 0) ∧ (0 < n → ∃ b off, a = some ⟨b, off, none⟩ ∧ b < w.heap.size ∧ Reads w b off zs)
theorem view_of {w : World} {v : Value} {zs : List S} (h : Smp w v zs) : ∃ a n cap, v = .slice a n cap ∧ View w a n cap zs := by
  rcases h with ⟨rfl, rfl⟩ | ⟨b, off, cap, rfl, h2, h3, h4, h5⟩
  · exact ⟨none, 0, 0, rfl, rfl, Nat.le_refl _, Nat.zero_le _, fun _ => rfl, fun h => by omega⟩
  · exact ⟨_, _, cap, rfl, rfl, h2, h3, fun h => by (cases h), fun _ => ⟨b, off, rfl, h4, h5⟩⟩
theorem View.below {w w' : World} {a : Option Addr} {n cap : Nat} {zs : List S} (h : View w a n cap zs) (hb : Below w.heap.size w w') : View w' a n cap zs := by
  obtain ⟨h1, h2, h3, h4, h5⟩ := h
  exact ⟨h1, h2, h3, h4, fun h => by obtain ⟨b, off, e, hl, hr⟩ := h5 h; exact ⟨b, off, e, by have := hb.size; omega, hr.below hb hl⟩⟩
/-- where a[i:] begins -/
def tailA (a : Option Addr) (i cap : Nat) : Option Addr := if cap = i then a else a.map (·.add (i * 2))
theorem size_sample : (sizeOf (Try.prog.elem 40)).run Try.prog = fun w => .ok 2 w := by kernel_rfl
theorem tail_run (a : Option Addr) (n cap i : Nat) (h : i ≤ n) (hc : n ≤ cap) (W : World) :
    (Instr.slice 40 (.slice a n cap) (some (.int .i64 (i : Int))) none none).run Try.prog W = .ok (.slice (tailA a i cap) (n - i) (cap - i)) W := by
  rw [run_slice_l (P := Try.prog) W 40 a n cap (by kernel_rfl) .i64 (i : Int) (by omega) (by omega)]
  show ((sizeOf (Try.prog.elem 40)).run Try.prog W).andThen _ = _
  rw [size_sample]
  rfl
theorem flat_drop (zs : List S) (i : Nat) : flat (zs.drop i) = (flat zs).drop (i * 2) := by
  induction i generalizing zs with
  | zero => simp
  | succ i ih =>
    cases zs with
    | nil => simp [flat]
    | cons x zs =>
      rw [List.drop_succ_cons, ih zs, show (i + 1) * 2 = i * 2 + 1 + 1 from by omega]
      rfl
theorem flat_cell {w : World} {b off : Nat} {zs : List S} (hr : Reads w b off zs) (j : Nat) (u : Value) (h : (flat zs)[j]? = some u) : w.cell? ⟨b, off + j, none⟩ = some u := by
  have hj : j < zs.length * 2 := by
    have := (List.getElem?_eq_some_iff.1 h).1
    rwa [flat_length] at this
  have hq : j / 2 < zs.length := by omega
  have hf := flat_get zs (j / 2) hq
  have hc := hr (j / 2) hq
  rcases (show j = j / 2 * 2 ∨ j = j / 2 * 2 + 1 from by omega) with e | e
  · rw [e] at h ⊢
    rw [hf.1] at h
    rw [← h]
    exact hc.1
  · rw [e] at h ⊢
    rw [hf.2] at h
    rw [← h]
    exact hc.2
theorem tail_cells {w : World} {a : Option Addr} {n cap i : Nat} {zs : List S} (h : View w a n cap zs) (hi : i ≤ n) :
    ∀ ad, tailA a i cap = some ad → ∀ j u, (flat (zs.drop i))[j]? = some u → w.cell? (ad.add j) = some u := by
  intro ad had j u hu
  obtain ⟨h1, h2, h3, h4, h5⟩ := h
  rw [flat_drop, List.getElem?_drop] at hu
  have hlt := (List.getElem?_eq_some_iff.1 hu).1
  rw [flat_length] at hlt
  obtain ⟨b, off, rfl, _, hr⟩ := h5 (by omega)
  have hne : ¬ cap = i := by omega
  unfold tailA at had
  rw [if_neg hne] at had
  simp only [Option.map_some, Option.some.injEq] at had
  subst had
  rw [Go.WideShapes.add_plain, Go.WideShapes.add_plain]
  have := flat_cell hr (i * 2 + j) u hu
  rwa [← Nat.add_assoc] at this
theorem tail_none {w : World} {a : Option Addr} {n cap i : Nat} {zs : List S} (h : View w a n cap zs) (hi : i ≤ n) : tailA a i cap = none → n - i = 0 ∧ cap - i = 0 := by
  intro hn
  obtain ⟨h1, h2, h3, h4, h5⟩ := h
  unfold tailA at hn
  have ha : a = none := by
    split at hn
    · exact hn
    · simpa using hn
  have := h4 ha
  omega
/-- append of whatever slice onto a row of the call's own -/
theorem wpList_append_any {P : Program} (w : World) {ops : Array Oper} {rest : List Oper} {o : Oper} {a : Act} {Q : Exit → Act → World → Prop} (hgd : o.guard = none) (s x : Operand) (t : TypeId)
    (ho : o.op = .call { callee := .builtin .append, args := #[s, x], argTypes := #[t, t] })
    (base : Nat) (e : TypeId) (i : TypeInfo) (z : Value) (size bytes : Nat) (ht : P.underlying t = some (.slice e)) (hi : P.info? e = some i) (hz : i.zero = some z)
    (hsize : i.size = size) (hby : i.bytes = bytes) (hzs : z.cells.size = size) (hsz : 0 < size)
    (v : Value) (n : Nat) (xs : List Value) (hs : a.eval s = v) (hown : w.ownsRow base e size v n xs)
    (ao : Option Addr) (m c : Nat) (news : List Value) (hx : a.eval x = .slice ao m c) (hn : ao = none → m = 0 ∧ c = 0) (hl : news.length = m * size) (hnews : ∀ ad, ao = some ad → ∀ j u, news[j]? = some u → w.cell? (ad.add j) = some u) (h1 : ∀ u ∈ news, u.oneCell' = true)
    (h63 : n + m ≤ maxLen) (hbytes : (n + m) * bytes ≤ 140737488355328) (hbase : base ≤ w.heap.size)
    (h : ∀ v' w', w'.ownsRow base e size v' (n + m) (xs ++ news) → w.grownBy w' v.ownBlock → wpList P ops Q rest (a.put o.dst v') w') : wpList P ops Q (o :: rest) a w := by
  cases ao with
  | none =>
    obtain ⟨rfl, rfl⟩ := hn rfl
    obtain rfl : news = [] := List.eq_nil_of_length_eq_zero (by omega)
    refine wpList_append_own_none hgd s x t ho base e i size ht hi v n xs hs hown hx (h v w (by rw [List.append_nil]; exact hown) ⟨rfl, rfl, rfl, Nat.le_refl _, fun _ _ _ => rfl⟩)
  | some ad => exact wpList_append_own w hgd s x t ho base e i z size bytes ht hi hz hsize hby hzs hsz v n xs hs hown ad m c news hx hl (hnews ad rfl) h1 h63 hbytes hbase fun v' w' h2 h3 _ => h v' w' h2 h3
theorem cls_cell {wr W : World} {b o : Nat} {u : Value} (hW : Below wr.heap.size wr W) (hb : b < wr.heap.size) (h : wr.cell? ⟨b, o, none⟩ = some u) : ∀ x : Cls W.heap.size W, x.val.cell? ⟨b, o, none⟩ = some u := fun x => by
  rw [x.cell (by have := hW.size; omega)]
  exact (hW.cell (p := ⟨b, o, none⟩) hb).trans h
theorem old_cell {wr W : World} {b o : Nat} {u : Value} (hW : Below wr.heap.size wr W) (hb : b < wr.heap.size) (h : wr.cell? ⟨b, o, none⟩ = some u) : W.cell? ⟨b, o, none⟩ = some u := (hW.cell (p := ⟨b, o, none⟩) hb).trans h
set_option maxRecDepth 100000 in
set_option maxHeartbeats 4000000 in
theorem impl_merge (a a' : Option Addr) (n m cap cap' : Nat) (zs ys : List S) (w : World) (hv : View w a n cap zs) (hu : View w a' m cap' ys) (hn : n ≤ 4194304) (hm : m ≤ 4194304) (HK1 : Hid (Calls Try.prog 37 #[.slice a n cap] w fun e w' => e = .returned (.bool true) ∧ Below w.heap.size w w')) (HK2 : Hid (∀ W, Below w.heap.size w W → Calls Try.prog 37 #[.slice a' m cap'] W fun e w' => e = .returned (.bool true) ∧ Below W.heap.size W w')) :
    Calls Try.prog 85 #[.slice a n cap, .slice a' m cap'] w fun e w' => ∃ v, e = .returned (.tuple #[v, .bool (merge zs ys).isSome]) ∧ w'.ownsRow w.heap.size 26 2 v ((merge zs ys).getD []).length (flat ((merge zs ys).getD [])) ∧ Below w.heap.size w w' := by
  obtain ⟨i0, hi, hz0, hz1, hz2⟩ := info_parts info_sample
  obtain ⟨hl1, hc1, hm1, -, -⟩ := id hv
  obtain ⟨hl2, hc2, hm2, -, -⟩ := id hu
  unfold maxLen at hm1 hm2
  have HV := hide hv
  have HU := hide hu
  clear hv hu
  go_enter Try.func85, Try.ntmps85
  go_wp2_with fail
  refine (unhide HK1).mono ?_
  rintro e w1 ⟨rfl, b1⟩
  go_wp2_with fail
  refine (unhide HK2 _ b1).mono ?_
  rintro e w2 ⟨rfl, b2⟩
  have c2 := b1.trans (b2.mono b1.size)
  clear b2 b1
  go_wp2_with fail
  go_loopw [6, 7, 8] (fun v iv jv wr => ∃ (i j : Nat) (L : List S), i ≤ n ∧ j ≤ m ∧ iv = .int .i64 i ∧ jv = .int .i64 j ∧ L.length ≤ i + j ∧ MLeft zs ys L i j ∧ wr.ownsRow w.heap.size 26 2 v L.length (flat L) ∧ Below w.heap.size w wr) (fun _ iv jv _ => (n - (intOf iv).toNat) + (m - (intOf jv).toNat))
  case atStart => exact ⟨0, 0, [], Nat.zero_le _, Nat.zero_le _, rfl, rfl, Nat.zero_le _, left_start zs ys, World.ownsRow_nil _ _ _ _, c2⟩
  case round =>
    obtain ⟨i, j, L, hin, hjm, rfl, rfl, hL, hleft, hown, hbel⟩ := hrel
    have hsz := hbel.size
    have HL := hide hleft
    clear hleft c2
    have VW := hide ((unhide HV).below hbel)
    have UW := hide ((unhide HU).below hbel)
    have hi0 : (0 : Int) ≤ (i : Int) := Int.natCast_nonneg _
    have hj0 : (0 : Int) ≤ (j : Int) := Int.natCast_nonneg _
    by_cases hij : i < n ∧ j < m
    · obtain ⟨hi1, hj1⟩ := hij
      have hi2 : (i : Int) < (n : Int) := by omega
      have hj2 : (j : Int) < (m : Int) := by omega
      obtain ⟨b, off, ha, hb, hr⟩ := (unhide VW).2.2.2.2 (by omega)
      obtain ⟨b', off', ha', hb', hr'⟩ := (unhide UW).2.2.2.2 (by omega)
      subst ha ha'
      obtain ⟨x0, x1⟩ := hr i (by omega)
      obtain ⟨y0, y1⟩ := hr' j (by omega)
      obtain ⟨T, hT⟩ : ∃ T, T = (at' zs i).1 := ⟨_, rfl⟩
      obtain ⟨V, hV⟩ : ∃ V, V = (at' zs i).2 := ⟨_, rfl⟩
      obtain ⟨T', hT'⟩ : ∃ T, T = (at' ys j).1 := ⟨_, rfl⟩
      obtain ⟨V', hV'⟩ : ∃ V, V = (at' ys j).2 := ⟨_, rfl⟩
      rw [← hT] at x0
      rw [← hV] at x1
      rw [← hT'] at y0
      rw [← hV'] at y1
      have HX := hide (show at' zs i = (T, V) by rw [hT, hV])
      have HY := hide (show at' ys j = (T', V') by rw [hT', hV'])
      clear hT hV hT' hV' hr hr' HV HU VW UW HK1 HK2
      have q0 := cls_cell (Below.refl _ _) hb x0
      have q1 := cls_cell (Below.refl _ _) hb x1
      have p0 := cls_cell (Below.refl _ _) hb' y0
      have p1 := cls_cell (Below.refl _ _) hb' y1
      have hne := cls_nonempty wr.heap.size wr
      go_wp2_with fail
      refine region_cls (by kernel_rfl) (by kernel_rfl) ?_
      repeat (go_big_quiet_step (fail))
      refine wpQuiet_nil ?_
      rintro wq ⟨⟨_, hq⟩, rfl⟩
      clear q0 q1 p0 p1 hne
      have o1 := own_below hown hq
      have bq := hbel.trans (hq.mono hsz)
      have sq := bq.size
      rcases (show T < T' ∨ T' < T ∨ T = T' from by omega) with hlt | hlt | heq
      · have HN := hide (left_first (unhide HL) (by omega) (by omega) (by rw [unhide HX, unhide HY]; exact hlt))
        rw [unhide HX] at HN
        have z0 := old_cell hq hb x0
        have z1 := old_cell hq hb x1
        clear HL hown x0 x1 y0 y1
        go_wp2_with (at_builtin; refine wpList_append_lies _ rfl _ _ _ rfl w.heap.size 26 i0 _ 2 16 Try.underlying40 hi hz0 hz1 hz2 rfl (by omega) _ L.length _ rfl ((o1).alloc _) _ 1 1 [.int .i64 T, .int .i64 V] rfl rfl (World.news_of_block (cs := #[.int .i64 T, .int .i64 V]) (t := 26) (fr := (0, 0)) (alloc_at (by simp))) (by simp [Value.oneCell']) (by omega) (by unfold maxLen; omega) (by omega) (by simp; omega) _ rfl ?_; intro gg cp w9 hown2 hgrow hat hlt2)
        have R := below_grown (bq.alloc sq _) (by simp; omega) hgrow (own_ge o1)
        have R2 : w9.ownsRow w.heap.size 26 2 (.slice (some ⟨gg, 0, none⟩) (L.length + 1) cp) (L ++ [(T, V)]).length (flat (L ++ [(T, V)])) := by rw [flat_append, flat_one, List.length_append]; exact hown2
        clear hown2 hgrow o1 z0 z1
        go_wp2
        go_roundw
        case rel => exact ⟨i + 1, j, L ++ [(T, V)], by omega, by omega, by go_num, rfl, by simp; omega, unhide HN, R2, R⟩
        case measure => simp [intOf]; omega
      · have HN := hide (left_second (unhide HL) (by omega) (by omega) (by rw [unhide HX, unhide HY]; exact hlt))
        rw [unhide HY] at HN
        have q0 := cls_cell hq hb x0
        have p0 := cls_cell hq hb' y0
        have hne := cls_nonempty wq.heap.size wq
        have hnl : decide (T < T') = false := by simp; omega
        go_wp2_with fail
        refine region_cls (by kernel_rfl) (by kernel_rfl) ?_
        repeat (go_big_quiet_step (fail))
        refine wpQuiet_nil ?_
        rintro wp ⟨⟨_, hp⟩, rfl⟩
        clear q0 p0 hne
        have hpq := hq.trans (hp.mono hq.size)
        have z0 := old_cell hpq hb' y0
        have z1 := old_cell hpq hb' y1
        have o2 := own_below o1 hp
        have bp := bq.trans (hp.mono sq)
        have sp := bp.size
        clear HL hown x0 x1 y0 y1 o1
        go_wp2_with (at_builtin; refine wpList_append_lies _ rfl _ _ _ rfl w.heap.size 26 i0 _ 2 16 Try.underlying40 hi hz0 hz1 hz2 rfl (by omega) _ L.length _ rfl ((o2).alloc _) _ 1 1 [.int .i64 T', .int .i64 V'] rfl rfl (World.news_of_block (cs := #[.int .i64 T', .int .i64 V']) (t := 26) (fr := (0, 0)) (alloc_at (by simp))) (by simp [Value.oneCell']) (by omega) (by unfold maxLen; omega) (by omega) (by simp; omega) _ rfl ?_; intro gg cp w9 hown2 hgrow hat hlt2)
        have R := below_grown (bp.alloc sp _) (by simp; omega) hgrow (own_ge o2)
        have R2 : w9.ownsRow w.heap.size 26 2 (.slice (some ⟨gg, 0, none⟩) (L.length + 1) cp) (L ++ [(T', V')]).length (flat (L ++ [(T', V')])) := by rw [flat_append, flat_one, List.length_append]; exact hown2
        clear hown2 hgrow o2 z0 z1
        go_wp2
        go_roundw
        case rel => exact ⟨i, j + 1, L ++ [(T', V')], by omega, by omega, rfl, by go_num, by simp; omega, unhide HN, R2, R⟩
        case measure => simp [intOf]; omega
      · have q0 := cls_cell hq hb x0
        have p0 := cls_cell hq hb' y0
        have hne := cls_nonempty wq.heap.size wq
        have hnl : decide (T < T') = false := by simp; omega
        have hnr : decide (T' < T) = false := by simp; omega
        have HE := hide heq
        have hA : T' ≤ T := by omega
        have hB : T ≤ T' := by omega
        clear heq
        go_wp2_with fail
        refine region_cls (by kernel_rfl) (by kernel_rfl) ?_
        repeat (go_big_quiet_step (fail))
        refine wpQuiet_nil ?_
        rintro wp ⟨⟨_, hp⟩, rfl⟩
        clear q0 p0 hne
        have hpq := hq.trans (hp.mono hq.size)
        have q1 := cls_cell hpq hb x1
        have p1 := cls_cell hpq hb' y1
        have hne := cls_nonempty wp.heap.size wp
        by_cases hVV : V = V'
        · have hvv : (V != V') = false := by simp [hVV]
          have HVV := hide hVV
          clear hVV
          have HN := hide (left_both (unhide HL) (by omega) (by omega) (by rw [unhide HX, unhide HY]; exact unhide HE) (by rw [unhide HX, unhide HY]; exact unhide HVV))
          rw [unhide HX] at HN
          go_wp2_with fail
          refine region_cls (by kernel_rfl) (by kernel_rfl) ?_
          repeat (go_big_quiet_step (fail))
          refine wpQuiet_nil ?_
          rintro wo ⟨⟨_, ho⟩, rfl⟩
          clear q1 p1 hne
          have hoq := hpq.trans (ho.mono hpq.size)
          have z0 := old_cell hoq hb x0
          have z1 := old_cell hoq hb x1
          have o3 := own_below (own_below o1 hp) ho
          have bo := (bq.trans (hp.mono sq)).trans (ho.mono (bq.trans (hp.mono sq)).size)
          have so := bo.size
          clear HL hown x0 x1 y0 y1 o1
          go_wp2_with (at_builtin; refine wpList_append_lies _ rfl _ _ _ rfl w.heap.size 26 i0 _ 2 16 Try.underlying40 hi hz0 hz1 hz2 rfl (by omega) _ L.length _ rfl ((o3).alloc _) _ 1 1 [.int .i64 T, .int .i64 V] rfl rfl (World.news_of_block (cs := #[.int .i64 T, .int .i64 V]) (t := 26) (fr := (0, 0)) (alloc_at (by simp))) (by simp [Value.oneCell']) (by omega) (by unfold maxLen; omega) (by omega) (by simp; omega) _ rfl ?_; intro gg cp w9 hown2 hgrow hat hlt2)
          have R := below_grown (bo.alloc so _) (by simp; omega) hgrow (own_ge o3)
          have R2 : w9.ownsRow w.heap.size 26 2 (.slice (some ⟨gg, 0, none⟩) (L.length + 1) cp) (L ++ [(T, V)]).length (flat (L ++ [(T, V)])) := by rw [flat_append, flat_one, List.length_append]; exact hown2
          clear hown2 hgrow o3 z0 z1
          go_wp2
          go_roundw
          case rel => exact ⟨i + 1, j + 1, L ++ [(T, V)], by omega, by omega, by go_num, by go_num, by simp; omega, unhide HN, R2, R⟩
          case measure => simp [intOf]; omega
        · have hvv : (V != V') = true := by simp [hVV]
          have HN := hide (left_clash (unhide HL) (by omega) (by omega) (by rw [unhide HX, unhide HY]; exact unhide HE) (by rw [unhide HX, unhide HY]; exact hVV))
          clear hVV
          go_wp2_with fail
          refine region_cls (by kernel_rfl) (by kernel_rfl) ?_
          repeat (go_big_quiet_step (fail))
          refine wpQuiet_nil ?_
          rintro wo ⟨⟨_, ho⟩, rfl⟩
          have bo := (bq.trans (hp.mono sq)).trans (ho.mono (bq.trans (hp.mono sq)).size)
          go_wp2
          go_ret2
          refine ⟨.slice none 0 0, ?_, ?_, bo⟩
          · rw [unhide HN]; rfl
          · rw [unhide HN]; exact World.ownsRow_nil _ _ _ _
    · have hsl1 := tail_run a n cap i hin hc1
      have hsl2 := tail_run a' m cap' j hjm hc2
      have N1 := hide (tail_none (unhide VW) hin)
      have C1 := hide (tail_cells (unhide VW) hin)
      have l1 := flat_length (zs.drop i)
      have l2 := flat_length (ys.drop j)
      rw [List.length_drop, hl1] at l1
      rw [List.length_drop, hl2] at l2
      have D1 := hide l1
      have D2 := hide l2
      have HF := hide (show merge zs ys = some (L ++ zs.drop i ++ ys.drop j) by
        by_cases hi1 : i < n
        · rw [left_end_b (unhide HL) (by omega), show ys.drop j = [] from List.drop_eq_nil_of_le (by omega), List.append_nil]
        · rw [left_end_a (unhide HL) (by omega), show zs.drop i = [] from List.drop_eq_nil_of_le (by omega), List.append_nil])
      clear l1 l2 HL VW UW HK1 HK2
      by_cases hi1 : i < n
      · go_wp2_with (first | (at_builtin; refine wpList_append_any _ rfl (.tmp 92) (.tmp 95) _ rfl w.heap.size 26 i0 _ 2 16 Try.underlying40 hi hz0 hz1 hz2 rfl (by omega) _ L.length _ rfl hown (tailA a i cap) (n - i) (cap - i) (flat (zs.drop i)) rfl (unhide N1) (unhide D1) (unhide C1) (flat_oneCell _) (by unfold maxLen; omega) (by omega) hsz ?_; intro v8 w8 ow8 hg8; have b8 := below_grown hbel hsz hg8 (own_ge hown); have C2 := hide (tail_cells ((unhide HU).below b8) hjm); have N2 := hide (tail_none (unhide HU) hjm)) | (at_builtin; refine wpList_append_any _ rfl (.tmp 97) (.tmp 100) _ rfl w.heap.size 26 i0 _ 2 16 Try.underlying40 hi hz0 hz1 hz2 rfl (by omega) _ (L.length + (n - i)) _ rfl ow8 (tailA a' j cap') (m - j) (cap' - j) (flat (ys.drop j)) rfl (unhide N2) (unhide D2) (unhide C2) (flat_oneCell _) (by unfold maxLen; omega) (by omega) b8.size ?_; intro v9 w9 ow9 hg9))
        go_ret2
        have R := below_grown b8 b8.size hg9 (own_ge ow8)
        refine ⟨v9, ?_, ?_, R⟩
        · rw [unhide HF]; rfl
        · rw [unhide HF, Option.getD_some, flat_append, flat_append, List.length_append, List.length_append, List.length_drop, List.length_drop, hl1, hl2]; exact ow9
      · go_wp2_with (first | (at_builtin; refine wpList_append_any _ rfl (.tmp 92) (.tmp 95) _ rfl w.heap.size 26 i0 _ 2 16 Try.underlying40 hi hz0 hz1 hz2 rfl (by omega) _ L.length _ rfl hown (tailA a i cap) (n - i) (cap - i) (flat (zs.drop i)) rfl (unhide N1) (unhide D1) (unhide C1) (flat_oneCell _) (by unfold maxLen; omega) (by omega) hsz ?_; intro v8 w8 ow8 hg8; have b8 := below_grown hbel hsz hg8 (own_ge hown); have C2 := hide (tail_cells ((unhide HU).below b8) hjm); have N2 := hide (tail_none (unhide HU) hjm)) | (at_builtin; refine wpList_append_any _ rfl (.tmp 97) (.tmp 100) _ rfl w.heap.size 26 i0 _ 2 16 Try.underlying40 hi hz0 hz1 hz2 rfl (by omega) _ (L.length + (n - i)) _ rfl ow8 (tailA a' j cap') (m - j) (cap' - j) (flat (ys.drop j)) rfl (unhide N2) (unhide D2) (unhide C2) (flat_oneCell _) (by unfold maxLen; omega) (by omega) b8.size ?_; intro v9 w9 ow9 hg9))
        go_ret2
        have R := below_grown b8 b8.size hg9 (own_ge ow8)
        refine ⟨v9, ?_, ?_, R⟩
        · rw [unhide HF]; rfl
        · rw [unhide HF, Option.getD_some, flat_append, flat_append, List.length_append, List.length_append, List.length_drop, List.length_drop, hl1, hl2]; exact ow9
end Go.Proofs.Ythcdohbfnflkiaa.Samp
