/- My own texts of one claim, laid together by program: SamLaw, RowLaw, LabMath, CmpMath. -/
import Derived.Test.YtlboekimnhgfdaaGreatG54bfd16f94
import Derived.ChangeArms
import Derived.Shelf.GgClosure.StringsIndexFunc
import Derived.Laws.RangeAny
import Derived.Laws.RangeString
import Derived.Lib.Bytealg
/- What the laws' own helpers do with slices of impl.Sample: they are copied, held against each other, and counted. -/
namespace Go.Proofs.YtlboekimnhgfdaaGreat.Sam
open Go.RowKit Rw
set_option linter.unusedVariables false
attribute [local go_sem ↓] Go.wp_at_zero Go.wp_at_succ
abbrev E := Int × Int
def fl (x : E) : List Value := [.int .i64 (x.1), .int .i64 (x.2)]
theorem flk (x : E) : (fl x).length = 2 := rfl
def at' (zs : List E) (i : Nat) : E := zs.getD i default
abbrev flat (zs : List E) : List Value := flatOf fl zs
abbrev Is (w : World) (v : Value) (zs : List E) : Prop := Lies w v zs.length 2 (flat zs)
theorem flat_length (zs : List E) : (flat zs).length = zs.length * 2 := flatOf_length flk zs
theorem flat_oneCell (zs : List E) : ∀ u ∈ flat zs, u.oneCell' = true := by
  intro u hu
  obtain ⟨x, _, hx⟩ := List.mem_flatMap.1 hu
  simp only [fl, List.mem_cons, List.not_mem_nil, or_false] at hx
  rcases hx with rfl | rfl <;> rfl
theorem at_get (zs : List E) (i : Nat) (h : i < zs.length) : at' zs i = zs[i] := by simp [at', List.getD, h]
theorem at_snoc (zs : List E) (i : Nat) (h : i < zs.length) : zs.take (i + 1) = zs.take i ++ [at' zs i] := by rw [List.take_succ_eq_append_getElem h, at_get zs i h]
theorem flat_at (zs : List E) (i : Nat) (h : i < zs.length) : (flat zs)[i * 2]? = some (.int .i64 ((at' zs i).1)) ∧ (flat zs)[i * 2 + 1]? = some (.int .i64 ((at' zs i).2)) := by
  rw [at_get zs i h]
  exact ⟨flatOf_get flk zs i 0 h (by omega), flatOf_get flk zs i 1 h (by omega)⟩
theorem is_of_own {w : World} {base : Nat} {v : Value} {zs : List E} (h : w.ownsRow base 106 2 v zs.length (flat zs)) : Is w v zs := lies_of_own h
theorem info_e : (Tryz.prog.info? 106).map (fun i => (i.zero, i.size, i.bytes)) = some (some (.agg #[.int .i64 0, .int .i64 0]), 2, 16) := by kernel_rfl
def good (x : E) : Prop := (Lit.int .i64 (x.1)).wf = true ∧ (Lit.int .i64 (x.2)).wf = true
set_option maxRecDepth 100000 in
theorem open_arg {H : Type} {enc : TypeId × Value → H} {W : World} {a : Option Addr} {len cap : Nat} {d : DataW H} {p : List MemPlace}
    (h : DataW.Trod enc Tryz.prog W 0 (fun _ => true) true 108 (.slice a len cap) d p) : ∃ zs : List E, zs.length = len ∧ len ≤ maxLen ∧ Lies W (.slice a len cap) len 2 (flat zs) ∧ ∀ x ∈ zs, good x := by
  have ck : Tryz.prog.cellsOf 177 = 2 := by kernel_rfl
  refine open_flat (e := 177) (good := good) flk Tryz.underlying108 ck ?_ (by omega) h
  intro n cs y hl ht
  obtain ⟨xs, m, -, -, -, hxl, hf⟩ := DataW.trod_struct Tryz.underlying177 ht
  match cs, hl, xs, hxl with
  | [c0, c1], _, [y0, y1], _ =>
    have g0 := hf 0 _ rfl
    have g1 := hf 1 _ rfl
    have cei : Tryz.prog.cellsOf 3 = 1 := by kernel_rfl
    simp [cei] at g0 g1
    obtain ⟨s0, e0, -, w0⟩ := DataW.trod_int Tryz.underlying3 g0
    obtain ⟨s1, e1, -, w1⟩ := DataW.trod_int Tryz.underlying3 g1
    simp only [List.cons.injEq, and_true] at e0 e1
    exact ⟨(s0, s1), by rw [e0, e1]; rfl, w0, w1⟩
theorem to_one (A : Int) (B : Int) (w : World) : Calls Tryz.prog 147 #[.agg #[.int .i64 A, .int .i64 B]] w fun e w' => e = .returned (.agg #[.int .i64 A, .int .i64 B]) ∧ Below w.heap.size w w' := by
  go_enter Tryz.func147, Tryz.ntmps147
  go_wp2
  refine bodyPost_ret (v := .agg #[.int .i64 A, .int .i64 B]) (by simp [results, Tryz.results147, go_sem]) rfl ⟨rfl, ?_⟩
  exact (((Below.refl _ _).alloc (Nat.le_refl _) _).alloc (by simp) _).alloc (by simp; omega) _
theorem set_e (A : List Value) (u0 u1 x0 x1 : Value) (L : List Value) (k : Nat) (h : A.length = k) : (((A ++ u0 :: u1 :: L).set k x0).set (k + 1) x1) = A ++ [x0, x1] ++ L := by
  subst h
  simp [List.set_append_right]
theorem split_e (r : List Value) (n : Nat) (h : r.length = (n + 1) * 2) : ∃ u0 u1 L, r = u0 :: u1 :: L ∧ L.length = n * 2 := by
  match r, h with
  | u0 :: u1 :: L, h => exact ⟨u0, u1, L, rfl, by simp only [List.length_cons] at h; omega⟩
  | [], h => simp at h <;> omega
  | [_], h => simp at h <;> omega
set_option maxRecDepth 100000 in
set_option maxHeartbeats 2000000 in
theorem to_any {w : World} {v : Value} {zs : List E} (h : Is w v zs) (hlen : zs.length ≤ 4194304) :
    Calls Tryz.prog 119 #[v] w fun e w' => e = .returned (.slice (some ⟨w.heap.size, 0, none⟩) zs.length zs.length) ∧
      w'.ownsRow w.heap.size 106 2 (.slice (some ⟨w.heap.size, 0, none⟩) zs.length zs.length) zs.length (flat zs) ∧ Below w.heap.size w w' := by
  obtain ⟨i0, hi, hz0, hz1, hz2⟩ := info_parts info_e
  obtain ⟨-, a, cap, rfl, hc, hm, -, hr⟩ := h
  unfold maxLen at hm
  obtain ⟨n, hn⟩ : ∃ n, n = zs.length := ⟨_, rfl⟩
  rw [← hn] at hc hr hlen ⊢
  have HN := hide hn
  clear hn
  go_enter Tryz.func119, Tryz.ntmps119
  go_wp2_with (at_make; refine wpList_make_full _ rfl _ _ _ rfl w.heap.size 106 i0 (.agg #[.int .i64 0, .int .i64 0]) 2 Tryz.underlying91 hi hz0 hz1 .i64 .i64 _ _ n rfl rfl rfl rfl (by rw [hz2]; omega) (by unfold maxLen; omega) (Nat.le_refl _) ?_; intro w1 hown1 hgrow1)
  go_loopw [4] (fun i wr => ∃ (j : Nat) (r : List Value), j ≤ n ∧ i = .int .i64 j ∧ r.length = (n - j) * 2 ∧ wr.ownsRow w.heap.size 106 2 (.slice (some ⟨w.heap.size, 0, none⟩) n n) n (flat (zs.take j) ++ r) ∧ Below w.heap.size w wr) (fun i _ => n - (intOf i).toNat)
  case atStart =>
    refine ⟨0, _, Nat.zero_le _, rfl, ?_, hown1, below_grown (Below.refl _ _) (Nat.le_refl _) hgrow1 (by simp)⟩
    have := hown1.1
    simpa using this
  case round =>
    obtain ⟨j, r, hj, rfl, hrl, hown, hbel⟩ := hrel
    have hsz := own_lt hown
    by_cases hlt : j < n
    · obtain ⟨u0, u1, L, rfl, hB⟩ := split_e r (n - j - 1) (by rw [hrl]; omega)
      obtain ⟨b, off, rfl, hl, hcells⟩ := hr (by omega)
      have fa := flat_at zs j (by have := unhide HN; omega)
      have hc0 : wr.cell? ⟨b, off + j * 2, none⟩ = some (.int .i64 ((at' zs j).1)) := (hbel.cell (p := ⟨b, _, none⟩) hl).trans (hcells (j * 2) _ fa.1)
      have hc1 : wr.cell? ⟨b, off + j * 2 + 1, none⟩ = some (.int .i64 ((at' zs j).2)) := (hbel.cell (p := ⟨b, _, none⟩) hl).trans (hcells (j * 2 + 1) _ fa.2)
      have fln : (flat (zs.take j)).length = j * 2 := by rw [flat_length]; simp; have := unhide HN; omega
      have hd0 : wr.cell? ⟨w.heap.size, j * 2, none⟩ = some u0 := by rw [hown.cellAt (j * 2) (by omega)]; simp [fln]
      have hf0 := hown.frozenAt (j * 2)
      have hd1 : wr.cell? ⟨w.heap.size, j * 2 + 1, none⟩ = some u1 := by rw [hown.cellAt (j * 2 + 1) (by omega)]; simp [fln]
      have hf1 := hown.frozenAt (j * 2 + 1)
      have hk0 : (0 : Int) ≤ (j : Int) := Int.natCast_nonneg _
      have hk1 : (j : Int) < (n : Int) := by omega
      have HS := hide (at_snoc zs j (by have := unhide HN; omega))
      obtain ⟨A, B, hX⟩ : ∃ A B, (A, B) = at' zs j := ⟨_, _, rfl⟩
      rw [← hX] at hc0 hc1
      have HX := hide hX
      have HF := hide fln
      clear hX fln fa
      go_wp2_with (go_at_call 147; refine (to_one _ _ _).mono ?_; rintro e w2 ⟨rfl, hb2⟩; obtain ⟨bc, bf⟩ := bcell hb2)
      have o0 := ((own_below hown hb2).stored (j * 2) (.int .i64 A)).1
      have o1 := (o0.stored (j * 2 + 1) (.int .i64 B)).1
      rw [set_e _ _ _ _ _ _ _ (unhide HF)] at o1
      have e2 : flat (zs.take (j + 1)) = flat (zs.take j) ++ [.int .i64 A, .int .i64 B] := by rw [unhide HS]; unfold flat; rw [flatOf_append, flatOf_one, ← unhide HX]; rfl
      rw [← e2] at o1
      have R := hide (((hbel.trans (hb2.mono (by omega))).setCell (p := ⟨w.heap.size, j * 2, none⟩) (Nat.le_refl _) (.int .i64 A)).setCell (p := ⟨w.heap.size, j * 2 + 1, none⟩) (Nat.le_refl _) (.int .i64 B))
      have O := hide o1
      clear o0 o1 e2 hown bc bf hd0 hf0 hd1 hf1
      go_wp2_with fail
      go_roundw
      case rel => exact ⟨j + 1, L, by omega, by go_num, by omega, unhide O, unhide R⟩
      case measure => simp [intOf]; omega
    · obtain rfl : j = n := by omega
      obtain rfl : r = [] := List.eq_nil_of_length_eq_zero (by rw [hrl]; omega)
      rw [List.append_nil, List.take_of_length_le (by have := unhide HN; omega)] at hown
      go_wp2
      go_ret
      exact ⟨rfl, hown, hbel⟩
theorem eq_one (A : Int) (B : Int) (w : World) : Calls Tryz.prog 150 #[.agg #[.int .i64 A, .int .i64 B], .agg #[.int .i64 A, .int .i64 B]] w fun e w' => e = .returned (.bool true) ∧ Below w.heap.size w w' := by
  go_enter Tryz.func150, Tryz.ntmps150
  go_wp2
  go_ret
  exact ⟨rfl, ((Below.refl _ _).alloc (Nat.le_refl _) _).alloc (by simp) _⟩
set_option maxRecDepth 100000 in
set_option maxHeartbeats 2000000 in
theorem eq_any {v u : Value} {zs : List E} {w : World} (h : Is w v zs) (h' : Is w u zs) : Calls Tryz.prog 126 #[v, u] w fun e w' => e = .returned (.bool true) ∧ Below w.heap.size w w' := by
  obtain ⟨-, a, cap, rfl, hc, hm, -, hr⟩ := h
  obtain ⟨-, a', cap', rfl, hc', hm', -, hr'⟩ := h'
  unfold maxLen at hm hm'
  obtain ⟨n, hn⟩ : ∃ n, n = zs.length := ⟨_, rfl⟩
  rw [← hn] at hc hr hc' hr' ⊢
  have HN := hide hn
  clear hn
  go_enter Tryz.func126, Tryz.ntmps126
  go_wp2
  go_loopw [5] (fun i wr => ∃ (j : Nat), j ≤ n ∧ i = .int .i64 j ∧ Below w.heap.size w wr) (fun i _ => n - (intOf i).toNat)
  case atStart => exact ⟨0, Nat.zero_le _, rfl, Below.refl _ _⟩
  case round =>
    obtain ⟨j, hj, rfl, hbel⟩ := hrel
    have hsz := hbel.size
    by_cases hlt : j < n
    · obtain ⟨b, off, rfl, hl, hcells⟩ := hr (by omega)
      obtain ⟨b', off', rfl, hl', hcells'⟩ := hr' (by omega)
      have fa := flat_at zs j (by have := unhide HN; omega)
      obtain ⟨A, B, hX⟩ : ∃ A B, (A, B) = at' zs j := ⟨_, _, rfl⟩
      rw [← hX] at fa
      have hq0 : ∀ x : Cls wr.heap.size wr, x.val.cell? ⟨b, off + j * 2, none⟩ = some (.int .i64 A) := fun x => by rw [x.cell (by omega)]; exact (hbel.cell (p := ⟨b, _, none⟩) hl).trans (hcells (j * 2) _ fa.1)
      have hp0 : ∀ x : Cls wr.heap.size wr, x.val.cell? ⟨b', off' + j * 2, none⟩ = some (.int .i64 A) := fun x => by rw [x.cell (by omega)]; exact (hbel.cell (p := ⟨b', _, none⟩) hl').trans (hcells' (j * 2) _ fa.1)
      have hq1 : ∀ x : Cls wr.heap.size wr, x.val.cell? ⟨b, off + j * 2 + 1, none⟩ = some (.int .i64 B) := fun x => by rw [x.cell (by omega)]; exact (hbel.cell (p := ⟨b, _, none⟩) hl).trans (hcells (j * 2 + 1) _ fa.2)
      have hp1 : ∀ x : Cls wr.heap.size wr, x.val.cell? ⟨b', off' + j * 2 + 1, none⟩ = some (.int .i64 B) := fun x => by rw [x.cell (by omega)]; exact (hbel.cell (p := ⟨b', _, none⟩) hl').trans (hcells' (j * 2 + 1) _ fa.2)
      have hk0 : (0 : Int) ≤ (j : Int) := Int.natCast_nonneg _
      have hk1 : (j : Int) < (n : Int) := by omega
      clear hX fa
      have hne := cls_nonempty wr.heap.size wr
      go_wp2_with fail
      refine region_cls (by kernel_rfl) (by kernel_rfl) ?_
      repeat (go_big_quiet_step ((go_at_call 150; exact cls_call (Nat.le_refl _) (eq_one _ _ _))))
      refine wpQuiet_nil ?_
      rintro wq ⟨⟨_, hq⟩, rfl⟩
      go_wp2
      go_roundw
      case rel => exact ⟨j + 1, by omega, by go_num, hbel.trans (hq.mono hsz)⟩
      case measure => simp [intOf]; omega
    · go_wp2
      go_ret
      exact ⟨rfl, hbel⟩
def tot (zs : List E) : Nat := zs.length
theorem sz_any {w : World} {v : Value} {zs : List E} (left : Int) (h : Is w v zs) (hlm : zs.length ≤ maxLen) (hg : ∀ x ∈ zs, good x) (h0 : 0 ≤ left) (h1 : left ≤ 1048576) :
    Calls Tryz.prog 114 #[v, .int .i64 left] w fun e w' => e = .returned (.int .i64 (if left - (tot zs : Int) < 0 then -1 else left - (tot zs : Int))) ∧ Below w.heap.size w w' := by
  obtain ⟨-, a, cap, rfl, hc, hm, -, hr⟩ := h
  unfold tot
  unfold maxLen at hm hlm
  clear hr hg
  obtain ⟨n, hn⟩ : ∃ n, n = zs.length := ⟨_, rfl⟩
  rw [← hn] at hc hlm ⊢
  clear hn
  by_cases hl : left - (n : Int) < 0
  · rw [if_pos hl]
    go_enter Tryz.func114, Tryz.ntmps114
    go_wp2
    go_ret
    exact ⟨rfl, Below.refl _ _⟩
  · rw [if_neg hl]
    go_enter Tryz.func114, Tryz.ntmps114
    go_wp2
    go_ret
    exact ⟨rfl, Below.refl _ _⟩
end Go.Proofs.YtlboekimnhgfdaaGreat.Sam

/- What the laws' own helpers do with slices of impl.Row, whose elements hold slices: they are copied, held against each other, and counted. -/
namespace Go.Proofs.YtlboekimnhgfdaaGreat.Row
open Go.RowKit Rw
set_option linter.unusedVariables false
attribute [local go_sem ↓] Go.wp_at_zero Go.wp_at_succ
abbrev E := List Lab.E × List Sam.E
abbrev C := Value × Value
def cl (c : C) : List Value := [c.1, c.2]
theorem clk (c : C) : (cl c).length = 2 := rfl
def at' (zs : List E) (i : Nat) : E := zs.getD i default
def cat (cs : List C) (i : Nat) : C := cs.getD i default
theorem at_get (zs : List E) (i : Nat) (h : i < zs.length) : at' zs i = zs[i] := by simp [at', List.getD, h]
theorem at_snoc (zs : List E) (i : Nat) (h : i < zs.length) : zs.take (i + 1) = zs.take i ++ [at' zs i] := by rw [List.take_succ_eq_append_getElem h, at_get zs i h]
theorem at_mem (zs : List E) (i : Nat) (h : i < zs.length) : at' zs i ∈ zs := by rw [at_get zs i h]; exact List.getElem_mem _
theorem cat_get (zs : List C) (i : Nat) (h : i < zs.length) : cat zs i = zs[i] := by simp [cat, List.getD, h]
theorem cat_lt (zs : List C) (c : C) (i : Nat) (h : i < zs.length) : cat (zs ++ [c]) i = cat zs i := by simp [cat, List.getD, List.getElem?_append_left h]
theorem cat_last (zs : List C) (c : C) : cat (zs ++ [c]) zs.length = c := by simp [cat, List.getD]
def Elem (w : World) (c : C) (x : E) : Prop := Lab.Is w (c.1) (x.1) ∧ Sam.Is w (c.2) (x.2)
theorem Elem.below {w w' : World} {c : C} {x : E} (h : Elem w c x) (hb : Below w.heap.size w w') : Elem w' c x := ⟨(h.1).below hb, (h.2).below hb⟩
def far (B : Nat) (c : C) : Prop := (∀ k, (c.1).ownBlock = some k → B ≤ k) ∧ (∀ k, (c.2).ownBlock = some k → B ≤ k)
theorem far.mono {A B : Nat} {c : C} (hf : far B c) (h : A ≤ B) : far A c := ⟨fun k hk => Nat.le_trans h (hf.1 k hk), fun k hk => Nat.le_trans h (hf.2 k hk)⟩
theorem Elem.only {g : Nat} {w w' : World} {c : C} {x : E} (h : Elem w c x) (ho : OnlyAt g w w') (hf : far (g + 1) c) : Elem w' c x := ⟨ho.lies (h.1) (fun k hk => by have := hf.1 k hk; omega), ho.lies (h.2) (fun k hk => by have := hf.2 k hk; omega)⟩
def Is (w : World) (v : Value) (zs : List E) : Prop := ∃ cs : List C, cs.length = zs.length ∧ Lies w v zs.length 2 (flatOf cl cs) ∧ ∀ i, i < zs.length → Elem w (cat cs i) (at' zs i)
theorem Is.below {w w' : World} {v : Value} {zs : List E} (h : Is w v zs) (hb : Below w.heap.size w w') : Is w' v zs := by
  obtain ⟨cs, h1, h2, h3⟩ := h
  exact ⟨cs, h1, h2.below hb, fun i hi => (h3 i hi).below hb⟩
/-- the same, all of it in blocks from B on -/
def IsF (B : Nat) (w : World) (v : Value) (zs : List E) : Prop := ∃ cs : List C, cs.length = zs.length ∧ Lies w v zs.length 2 (flatOf cl cs) ∧ (∀ k, v.ownBlock = some k → B ≤ k) ∧ ∀ i, i < zs.length → Elem w (cat cs i) (at' zs i) ∧ far B (cat cs i)
theorem IsF.is {B : Nat} {w : World} {v : Value} {zs : List E} (h : IsF B w v zs) : Is w v zs := by
  obtain ⟨cs, h1, h2, h3, h4⟩ := h
  exact ⟨cs, h1, h2, fun i hi => (h4 i hi).1⟩
theorem IsF.below {B : Nat} {w w' : World} {v : Value} {zs : List E} (h : IsF B w v zs) (hb : Below w.heap.size w w') : IsF B w' v zs := by
  obtain ⟨cs, h1, h2, h3, h4⟩ := h
  exact ⟨cs, h1, h2.below hb, h3, fun i hi => ⟨(h4 i hi).1.below hb, (h4 i hi).2⟩⟩
theorem IsF.only {B g : Nat} {w w' : World} {v : Value} {zs : List E} (h : IsF B w v zs) (ho : OnlyAt g w w') (hg : g < B) : IsF B w' v zs := by
  obtain ⟨cs, h1, h2, h3, h4⟩ := h
  exact ⟨cs, h1, ho.lies h2 (fun k hk => by have := h3 k hk; omega), h3, fun i hi => ⟨(h4 i hi).1.only ho ((h4 i hi).2.mono hg), (h4 i hi).2⟩⟩
theorem IsF.mono {A B : Nat} {w : World} {v : Value} {zs : List E} (h : IsF B w v zs) (hA : A ≤ B) : IsF A w v zs := by
  obtain ⟨cs, h1, h2, h3, h4⟩ := h
  exact ⟨cs, h1, h2, fun k hk => Nat.le_trans hA (h3 k hk), fun i hi => ⟨(h4 i hi).1, (h4 i hi).2.mono hA⟩⟩
theorem flat_at (cs : List C) (i : Nat) (h : i < cs.length) : (flatOf cl cs)[i * 2]? = some ((cat cs i).1) ∧ (flatOf cl cs)[i * 2 + 1]? = some ((cat cs i).2) := by
  rw [cat_get cs i h]
  exact ⟨flatOf_get clk cs i 0 h (by omega), flatOf_get clk cs i 1 h (by omega)⟩
def good (x : E) : Prop := ((x.1).length ≤ maxLen ∧ ∀ y ∈ x.1, Lab.good y) ∧ ((x.2).length ≤ maxLen ∧ ∀ y ∈ x.2, Sam.good y)
set_option maxRecDepth 100000 in
theorem open_arg {H : Type} {enc : TypeId × Value → H} {W : World} {a : Option Addr} {len cap : Nat} {d : DataW H} {p : List MemPlace}
    (h : DataW.Trod enc Tryz.prog W 0 (fun _ => true) true 22 (.slice a len cap) d p) : ∃ zs : List E, zs.length = len ∧ len ≤ maxLen ∧ Is W (.slice a len cap) zs ∧ ∀ x ∈ zs, good x := by
  have ck : Tryz.prog.cellsOf 110 = 2 := by kernel_rfl
  obtain ⟨cs, h1, h2, h3, h4⟩ := open_flat (e := 110) (good := fun c => ∃ x : E, Elem W c x ∧ good x) clk Tryz.underlying22 ck (by
    intro n cs y hl ht
    obtain ⟨xs, m, -, -, -, hxl, hf⟩ := DataW.trod_struct Tryz.underlying110 ht
    match cs, hl, xs, hxl with
    | [c0, c1], _, [y0, y1], _ =>
      have g0 := hf 0 _ rfl
      have g1 := hf 1 _ rfl
      have ce0 : Tryz.prog.cellsOf 67 = 1 := by kernel_rfl
      have ce1 : Tryz.prog.cellsOf 108 = 1 := by kernel_rfl
      simp [ce0, ce1] at g0 g1
      obtain ⟨a0, l0, k0, e0, t0⟩ := slice_cell Tryz.underlying67 g0
      obtain ⟨s0, n0, m0, i0, w0⟩ := Lab.open_arg t0
      rw [← n0] at i0
      obtain ⟨a1, l1, k1, e1, t1⟩ := slice_cell Tryz.underlying108 g1
      obtain ⟨s1, n1, m1, i1, w1⟩ := Sam.open_arg t1
      rw [← n1] at i1
      subst e0 e1
      subst n0
      subst n1
      exact ⟨(.slice a0 s0.length k0, .slice a1 s1.length k1), rfl, (s0, s1), ⟨i0, i1⟩, ⟨⟨m0, w0⟩, ⟨m1, w1⟩⟩⟩) (by omega) h
  obtain ⟨zs, hz, hP⟩ := choose_list cs h4
  refine ⟨zs, by omega, h2, ⟨cs, hz.symm, by rw [hz, h1]; exact h3, fun i hi => (hP i (by omega)).1⟩, fun x hx => ?_⟩
  obtain ⟨i, hi, rfl⟩ := List.getElem_of_mem hx
  have := (hP i (by omega)).2
  rwa [show zs.getD i default = zs[i] from at_get zs i hi] at this
theorem info_e : (Tryz.prog.info? 93).map (fun i => (i.zero, i.size, i.bytes)) = some (some (.agg #[.slice none 0 0, .slice none 0 0]), 2, 48) := by kernel_rfl
def tiny (x : E) : Prop := (x.1).length ≤ 4194304 ∧ (x.2).length ≤ 4194304
end Go.Proofs.YtlboekimnhgfdaaGreat.Row

/- Letters, names, words and labels, as plain mathematics. No condition. -/
namespace Go.Proofs.YtlboekimnhgfdaaGreat.Lab
open Go.RowKit Rw
def letter (b : UInt8) : Bool := decide (97 ≤ b.toNat) && decide (b.toNat ≤ 122)
def letters (s : ByteArray) : Bool := s.data.toList.all letter
def notL (r : Nat) : Bool := decide (r < 97) || decide (122 < r)
theorem notL_of {b : UInt8} : notL b.toNat = !letter b := by
  unfold notL letter
  by_cases h1 : 97 ≤ b.toNat <;> by_cases h2 : b.toNat ≤ 122
  · have a1 : ¬ b.toNat < 97 := by omega
    have a2 : ¬ 122 < b.toNat := by omega
    simp [h1, h2, a1, a2]
  · have a1 : ¬ b.toNat < 97 := by omega
    have a2 : 122 < b.toNat := by omega
    simp [h2, a2]
  · have a1 : b.toNat < 97 := by omega
    simp [h1, a1]
  · omega
theorem idx_from (s : ByteArray) : ∀ (f pos : Nat), s.size ≤ pos + f → decide (Lib.idxFuncFrom notL true s f pos < 0) = (s.data.toList.drop pos).all letter
  | 0, pos, h => by
    have hl : s.data.toList.length = s.size := Array.length_toList
    have e : s.data.toList.drop pos = [] := List.drop_eq_nil_of_le (by omega)
    rw [e]
    rfl
  | f + 1, pos, h => by
    have hl : s.data.toList.length = s.size := Array.length_toList
    unfold Lib.idxFuncFrom
    by_cases hp : pos < s.size
    · rw [if_pos hp, List.drop_eq_getElem_cons (by omega), List.all_cons]
      have eb : s.data.toList[pos]'(by omega) = s[pos]'hp := rfl
      rw [eb]
      by_cases ha : (s[pos]'hp).toNat < 128
      · rw [decode_ascii s pos hp ha]
        have hn := notL_of (b := s[pos]'hp)
        rw [hn]
        cases hc : letter (s[pos]'hp)
        · have : ¬ (pos : Int) < 0 := by omega
          simp [this]
        · simp only [Bool.not_true, Bool.false_eq_true, if_false, Bool.true_and]
          exact idx_from s f (pos + 1) (by omega)
      · have hd := decode_high s pos hp (by omega)
        have hn : notL (Utf8.decode s pos).1 = true := by
          have : 122 < (Utf8.decode s pos).1 := by omega
          simp [notL, this]
        rw [if_pos hn]
        have hc : letter (s[pos]'hp) = false := by
          have : ¬ (s[pos]'hp).toNat ≤ 122 := by omega
          simp [letter, this]
        have : ¬ (pos : Int) < 0 := by omega
        simp [this, hc]
    · rw [if_neg hp, List.drop_eq_nil_of_le (by omega)]
      rfl
theorem idx_letters (s : ByteArray) : decide (Lib.idxFunc notL true s < 0) = letters s := by
  have := idx_from s s.size 0 (by omega)
  rw [List.drop_zero] at this
  exact this
def nameB (s : ByteArray) : Bool := decide (1 ≤ s.size) && decide (s.size ≤ 6) && letters s
def wordB (s : ByteArray) : Bool := decide (s.size ≤ 8) && letters s
def ltS (a b : ByteArray) : Bool := Op.bytesLess a.toList b.toList
def stepOk (zs : List E) (i : Nat) : Bool := nameB (at' zs i).1 && wordB (at' zs i).2 && decide (0 < (at' zs i).2.size) && (i == 0 || ltS (at' zs (i - 1)).1 (at' zs i).1)
def okTo (zs : List E) (k : Nat) : Bool := (List.range k).all (stepOk zs)
def ok (zs : List E) : Bool := decide (1 ≤ zs.length) && decide (zs.length ≤ 4) && okTo zs zs.length
theorem okTo_succ (zs : List E) (k : Nat) : okTo zs (k + 1) = (okTo zs k && stepOk zs k) := by simp [okTo, List.range_succ]
theorem ok_of_bad {zs : List E} {k : Nat} (hk : k < zs.length) (h : stepOk zs k = false) : ok zs = false := by
  have : okTo zs zs.length = false := by unfold okTo; rw [List.all_eq_false]; exact ⟨k, List.mem_range.2 hk, by simp [h]⟩
  unfold ok; rw [this, Bool.and_false]
theorem ok_of_len {zs : List E} (h : zs.length < 1 ∨ 4 < zs.length) : ok zs = false := by
  unfold ok
  rcases h with h | h
  · have : decide (1 ≤ zs.length) = false := decide_eq_false (by omega)
    rw [this]; rfl
  · have : decide (zs.length ≤ 4) = false := decide_eq_false (by omega)
    rw [this, Bool.and_false]; rfl
theorem ok_all {zs : List E} (h1 : 1 ≤ zs.length) (h4 : zs.length ≤ 4) (h : okTo zs zs.length = true) : ok zs = true := by
  unfold ok; rw [decide_eq_true h1, decide_eq_true h4, h]; rfl
theorem step_yes {zs : List E} {k : Nat} (h1 : nameB (at' zs k).1 = true) (h2 : wordB (at' zs k).2 = true) (h3 : 0 < (at' zs k).2.size) (h4 : k = 0 ∨ ltS (at' zs (k - 1)).1 (at' zs k).1 = true) : stepOk zs k = true := by
  unfold stepOk
  rw [h1, h2, decide_eq_true h3]
  rcases h4 with rfl | h4
  · rfl
  · rw [h4, Bool.or_true]; rfl
theorem step_name {zs : List E} {k : Nat} (h : nameB (at' zs k).1 = false) : stepOk zs k = false := by unfold stepOk; rw [h]; rfl
theorem step_word {zs : List E} {k : Nat} (h : wordB (at' zs k).2 = false) : stepOk zs k = false := by unfold stepOk; rw [h, Bool.and_false]; rfl
theorem step_empty {zs : List E} {k : Nat} (h : (at' zs k).2.size = 0) : stepOk zs k = false := by unfold stepOk; rw [h, show decide (0 < 0) = false from rfl, Bool.and_false]; rfl
theorem step_late {zs : List E} {k : Nat} (hk : 0 < k) (h : ltS (at' zs (k - 1)).1 (at' zs k).1 = false) : stepOk zs k = false := by
  have h0 : (k == 0) = false := by simp; omega
  unfold stepOk; rw [h, h0, Bool.false_or, Bool.and_false]
end Go.Proofs.YtlboekimnhgfdaaGreat.Lab

/- How texts and labels stand to each other, as plain mathematics. No condition. -/
namespace Go.Proofs.YtlboekimnhgfdaaGreat.Lab
open Go.RowKit Rw
theorem less_irrefl : ∀ a : List UInt8, Op.bytesLess a a = false
  | [] => rfl
  | x :: a => by unfold Op.bytesLess; rw [less_irrefl a]; simp
theorem cmp_less : ∀ a b : List UInt8, Lib.compareBytes a b = if Op.bytesLess a b = true then -1 else if a = b then 0 else 1
  | [], [] => by simp [Lib.compareBytes, Op.bytesLess]
  | [], y :: b => by simp [Lib.compareBytes, Op.bytesLess]
  | x :: a, [] => by simp [Lib.compareBytes, Op.bytesLess]
  | x :: a, y :: b => by
    rw [Lib.compareBytes, Op.bytesLess, cmp_less a b]
    by_cases h1 : x < y
    · simp [h1]
    · by_cases h2 : y < x
      · have hne : x ≠ y := fun e => by subst e; exact h1 h2
        simp [h1, h2, hne]
      · have e : x = y := by
          have a1 : ¬ x.toNat < y.toNat := fun h => h1 (UInt8.lt_iff_toNat_lt.2 h)
          have a2 : ¬ y.toNat < x.toNat := fun h => h2 (UInt8.lt_iff_toNat_lt.2 h)
          exact UInt8.toNat_inj.1 (by omega)
        subst e
        simp [h1]
def cmpS (a b : ByteArray) : Int := Lib.compareBytes a.data.toList b.data.toList
theorem cmpS_eq (a b : ByteArray) : cmpS a b = if ltS a b = true then -1 else if a.toList = b.toList then 0 else 1 := by
  unfold cmpS ltS
  rw [ByteArray.toList_eq, ByteArray.toList_eq]
  exact cmp_less _ _
theorem cmpS_range (a b : ByteArray) : -1 ≤ cmpS a b ∧ cmpS a b ≤ 1 := by
  rw [cmpS_eq]; split
  · omega
  · split <;> omega
def cmpE (x y : E) : Int := if cmpS x.1 y.1 ≠ 0 then cmpS x.1 y.1 else cmpS x.2 y.2
theorem cmpE_range (x y : E) : -1 ≤ cmpE x y ∧ cmpE x y ≤ 1 := by
  unfold cmpE; split
  · exact cmpS_range _ _
  · exact cmpS_range _ _
def cmpL : List E → List E → Int
  | [], [] => 0
  | [], _ :: _ => -1
  | _ :: _, [] => 1
  | x :: a, y :: b => if cmpE x y ≠ 0 then cmpE x y else cmpL a b
theorem cmpL_range : ∀ a b : List E, -1 ≤ cmpL a b ∧ cmpL a b ≤ 1
  | [], [] => by simp [cmpL]
  | [], _ :: _ => by simp [cmpL]
  | _ :: _, [] => by simp [cmpL]
  | x :: a, y :: b => by
    rw [cmpL]; split
    · exact cmpE_range x y
    · exact cmpL_range a b
theorem drop_at (zs : List E) (i : Nat) (h : i < zs.length) : zs.drop i = at' zs i :: zs.drop (i + 1) := by
  rw [List.drop_eq_getElem_cons h, at_get zs i h]
/-- what the loops keep -/
def CLeft (a b : List E) (i : Nat) : Prop := cmpL a b = cmpL (a.drop i) (b.drop i)
theorem left_start (a b : List E) : CLeft a b 0 := by simp [CLeft]
theorem left_next {a b : List E} {i : Nat} (h : CLeft a b i) (hi : i < a.length) (hj : i < b.length) (he : cmpE (at' a i) (at' b i) = 0) : CLeft a b (i + 1) := by
  unfold CLeft at *
  rw [h, drop_at a i hi, drop_at b i hj, cmpL, if_neg (by simp [he])]
theorem left_stop {a b : List E} {i : Nat} (h : CLeft a b i) (hi : i < a.length) (hj : i < b.length) (he : cmpE (at' a i) (at' b i) ≠ 0) : cmpL a b = cmpE (at' a i) (at' b i) := by
  unfold CLeft at *
  rw [h, drop_at a i hi, drop_at b i hj, cmpL, if_pos he]
theorem left_long {a b : List E} {i : Nat} (h : CLeft a b i) (hi : i < a.length) (hj : b.length ≤ i) : cmpL a b = 1 := by
  unfold CLeft at *
  rw [h, drop_at a i hi, List.drop_eq_nil_of_le hj, cmpL]
theorem left_short {a b : List E} {i : Nat} (h : CLeft a b i) (hi : a.length ≤ i) (hj : i < b.length) : cmpL a b = -1 := by
  unfold CLeft at *
  rw [h, drop_at b i hj, List.drop_eq_nil_of_le hi, cmpL]
theorem left_same {a b : List E} {i : Nat} (h : CLeft a b i) (hi : a.length ≤ i) (hj : b.length ≤ i) : cmpL a b = 0 := by
  unfold CLeft at *
  rw [h, List.drop_eq_nil_of_le hj, List.drop_eq_nil_of_le hi, cmpL]
/-- what LabelsCmp answers -/
def cmp (a b : List E) : Int := if ok a = true ∧ ok b = true then cmpL a b else 0
theorem cmp_bad {a b : List E} (h : ok a = false ∨ ok b = false) : cmp a b = 0 := by
  unfold cmp; rw [if_neg]; rintro ⟨h1, h2⟩; rcases h with h | h <;> simp_all
theorem cmp_ok {a b : List E} (h1 : ok a = true) (h2 : ok b = true) : cmp a b = cmpL a b := by unfold cmp; rw [if_pos ⟨h1, h2⟩]
end Go.Proofs.YtlboekimnhgfdaaGreat.Lab
