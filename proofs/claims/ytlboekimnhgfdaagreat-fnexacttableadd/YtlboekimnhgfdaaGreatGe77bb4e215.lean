/- My own texts of one claim, laid together by program: SampFlat, DrawSamp, EntLaw, PutMath. -/
import Derived.Test.YtlboekimnhgfdaaGreatGced19cb9cc
import Derived.Test.YtlboekimnhgfdaaGreatGb649170687
import Derived.Test.YtlboekimnhgfdaaGreatG75cb14c5d8
import Derived.Test.YtlboekimnhgfdaaGreatG5987eed685
import Derived.Test.YtlboekimnhgfdaaGreatG46e89f6f83
import Derived.Lib.Join
/- Samples as cells, one behind the other. No condition. -/
namespace Go.Proofs.YtlboekimnhgfdaaGreat.Samp
open Go.RowKit SampMath Rw
set_option linter.unusedVariables false
/-- the cells of samples, one behind the other -/
def flat (zs : List S) : List Value := zs.flatMap fun x => [.int .i64 x.1, .int .i64 x.2]
theorem flat_nil : flat [] = [] := rfl
theorem flat_append (a b : List S) : flat (a ++ b) = flat a ++ flat b := by simp [flat]
theorem flat_one (x : S) : flat [x] = [.int .i64 x.1, .int .i64 x.2] := rfl
theorem flat_length (zs : List S) : (flat zs).length = zs.length * 2 := by
  induction zs with
  | nil => rfl
  | cons x zs ih => show (Value.int .i64 x.1 :: Value.int .i64 x.2 :: flat zs).length = _; simp only [List.length_cons, ih]; omega
theorem flat_get : ∀ (zs : List S) (i : Nat), i < zs.length → (flat zs)[i * 2]? = some (.int .i64 (at' zs i).1) ∧ (flat zs)[i * 2 + 1]? = some (.int .i64 (at' zs i).2)
  | x :: zs, 0, _ => ⟨rfl, rfl⟩
  | x :: zs, i + 1, h => by
    have := flat_get zs i (by simpa using h)
    have e1 : (i + 1) * 2 = i * 2 + 1 + 1 := by omega
    show (Value.int .i64 x.1 :: Value.int .i64 x.2 :: flat zs)[(i + 1) * 2]? = _ ∧ (Value.int .i64 x.1 :: Value.int .i64 x.2 :: flat zs)[(i + 1) * 2 + 1]? = _
    rw [e1]
    simpa [at', List.getD] using this
theorem flat_oneCell (zs : List S) : ∀ u ∈ flat zs, u.oneCell' = true := by
  intro u hu
  obtain ⟨x, _, hx⟩ := List.mem_flatMap.1 hu
  simp only [List.mem_cons, List.not_mem_nil, or_false] at hx
  rcases hx with rfl | rfl <;> rfl
/-- a row of the call's own that holds samples -/
theorem smp_of_own {w : World} {base : Nat} {v : Value} {zs : List S} (h : w.ownsRow base 106 2 v zs.length (flat zs)) : Smp w v zs := by
  rcases h.2 with ⟨h1, h2⟩ | ⟨g, cap, cur, rfl, hb, hg, h3, h4, h5, h6⟩
  · exact .inl ⟨h1, List.eq_nil_of_length_eq_zero h2⟩
  · have hlt : g < w.heap.size := by
      rcases Nat.lt_or_ge g w.heap.size with hl | hl
      · exact hl
      · rw [Array.getElem?_eq_none hl] at hg; cases hg
    refine .inr ⟨g, 0, cap, rfl, h3, h4, hlt, fun i hi => ?_⟩
    have c0 := h.cellAt (i * 2) (by omega)
    have c1 := h.cellAt (i * 2 + 1) (by omega)
    rw [(flat_get zs i hi).1] at c0
    rw [(flat_get zs i hi).2] at c1
    exact ⟨by rw [Nat.zero_add]; exact c0, by rw [Nat.zero_add]; exact c1⟩
theorem pairs_at {w : World} {a : Option Addr} {len cap : Nat} {z : List S} (h : IsPairs w a len cap z) :
    len ≤ cap ∧ cap ≤ maxLen ∧ (z.take len).length = len ∧ (len = 0 ∨ ∃ b off, a = some ⟨b, off, none⟩ ∧ b < w.heap.size ∧ Reads w b off (z.take len)) := by
  rcases h with ⟨rfl, rfl, rfl, rfl⟩ | ⟨x, rfl, h1, h2, h3, h4, _⟩
  · exact ⟨Nat.le_refl _, Nat.zero_le _, rfl, .inl rfl⟩
  · refine ⟨h1, h2, by simp; omega, ?_⟩
    by_cases h0 : len = 0
    · exact .inl h0
    · right
      obtain ⟨b, off, spot⟩ := x
      have c0 := (h4 0 (by omega)).1
      have hspot : spot = none := by simpa [Addr.add] using World.cell?_spot c0
      subst hspot
      refine ⟨b, off, rfl, World.block_lt_of_cell? w ⟨b, _, none⟩ c0, fun i hi => ?_⟩
      have hi' : i < len := by simp at hi; omega
      have e : at' (z.take len) i = z.getD i (0, 0) := by simp [at', List.getD, hi']
      rw [e, ← Go.WideShapes.add_plain, show off + i * 2 + 1 = off + (i * 2 + 1) from rfl, ← Go.WideShapes.add_plain]
      exact h4 i (by omega)
theorem set_two (A : List Value) (u0 u1 x y : Value) (B : List Value) (k : Nat) (h : A.length = k) : ((A ++ u0 :: u1 :: B).set k x).set (k + 1) y = A ++ [x, y] ++ B := by
  subst h
  rw [List.set_append_right _ _ (Nat.le_refl _), Nat.sub_self, List.set_cons_zero, List.set_append_right _ _ (by omega), show A.length + 1 - A.length = 1 from by omega]
  simp
theorem split_two (r : List Value) (n : Nat) (h : r.length = (n + 1) * 2) : ∃ u0 u1 B, r = u0 :: u1 :: B ∧ B.length = n * 2 := by
  match r, h with
  | u0 :: u1 :: B, h => exact ⟨u0, u1, B, rfl, by simp only [List.length_cons] at h; omega⟩
  | [_], h => simp at h; omega
  | [], h => simp at h
end Go.Proofs.YtlboekimnhgfdaaGreat.Samp

/- Samples are drawn. -/
namespace Go.Proofs.YtlboekimnhgfdaaGreat.Draw
open Go.RowKit Samp SampMath Rw
set_option linter.unusedVariables false
attribute [local go_sem ↓] Go.wp_at_zero Go.wp_at_succ
set_option maxRecDepth 100000 in
set_option maxHeartbeats 2000000 in
theorem value_any (rb p : Nat) (w : World) (h : Rd w rb p) (hp : p ≤ 800000) :
    Calls Tryz.prog 143 #[.pointer (some ⟨rb, 0, none⟩)] w fun e w' => ∃ x : Int, e = .returned (.int .i64 x) ∧ 0 ≤ x ∧ x ≤ 2147483647 ∧ Rd w' rb (p + 6) ∧ w.grownBy w' (some rb) := by
  have HR := hide h
  clear h
  go_enter Tryz.func143, Tryz.ntmps143
  go_wp2_with fail
  refine (pick_any rb p _ _ (unhide HR) (by omega) (by omega)).mono ?_
  rintro e w1 ⟨x, rfl, x0, x1, -, r1, g1⟩
  have x2 : x < 10 := x1 (by omega)
  clear x1 HR
  go_wp2_with fail
  refine (big_any rb (p + 1) 16777216 _ r1 (by omega) (by omega) (by omega)).mono ?_
  rintro e w2 ⟨y, rfl, y2, r2, g2⟩
  have q2 := grown_trans g1 g2
  clear r1 g1 g2
  go_wp2_with fail
  refine (pick_any rb (p + 1 + 3) _ _ r2 (by omega) (by omega)).mono ?_
  rintro e w3 ⟨z, rfl, z0, z1, -, r3, g3⟩
  have z2 : z < 4 := z1 (by omega)
  have q3 := grown_trans q2 g3
  clear z1 r2 q2 g3
  go_wp2_with fail
  have hone := one_new rb (p + 1 + 3 + 1) [x, (y : Int), 2147483647, 0, 1073741824, z * 1000] _ r3 (by omega) (by simp) (by simp)
  simp only [List.map_cons, List.map_nil, List.length_cons, List.length_nil, Nat.zero_add, Nat.reduceAdd] at hone
  refine hone.mono ?_
  clear hone
  rintro e w4 ⟨u, rfl, hu, r4, g4⟩
  have u0 : 0 ≤ u ∧ u ≤ 2147483647 := by
    simp only [List.mem_cons, List.not_mem_nil, or_false] at hu
    omega
  have q4 := grown_trans q3 g4
  clear hu
  go_wp2
  go_ret
  exact ⟨u, rfl, u0.1, u0.2, r4, q4⟩
set_option maxRecDepth 100000 in
set_option maxHeartbeats 4000000 in
theorem samples_any (rb p most : Nat) (w : World) (h : Rd w rb p) (hp : p ≤ 700000) (hmost : most ≤ 1000) :
    Calls Tryz.prog 151 #[.pointer (some ⟨rb, 0, none⟩), .int .i64 most] w fun e w' => ∃ (zs : List S) (g cp : Nat), e = .returned (.slice (some ⟨g, 0, none⟩) zs.length cp) ∧ zs.length ≤ most ∧ w'.ownsRow w.heap.size 106 2 (.slice (some ⟨g, 0, none⟩) zs.length cp) zs.length (flat zs) ∧ (∃ p', p' ≤ p + 9 + 8 * most ∧ Rd w' rb p') ∧ w.grownBy w' (some rb) := by
  obtain ⟨i0, hi, hz0, hz1, hz2⟩ := info_parts info_sample
  have hrl := h.lt
  have HR := hide h
  clear h
  go_enter Tryz.func151, Tryz.ntmps151
  go_wp2_with fail
  refine (pick_any rb p _ _ ((unhide HR).below ((Below.refl _ _).alloc (Nat.le_refl _) _)) (by omega) (by omega)).mono ?_
  rintro e w1 ⟨x, rfl, x0, x1, -, r1, g1⟩
  have x2 : x < 300 := x1 (by omega)
  have o1 := own_kept (own_empty (w := w) (base := w.heap.size) (e := 106) (size := 2) (Nat.le_refl _)) g1 hrl
  have q1 : w.grownBy w1 (some rb) := grown_trans (grown_below ((Below.refl _ _).alloc (Nat.le_refl _) _)) g1
  clear x1 HR g1
  go_wp2_with fail
  have hone := one_new rb (p + 1) [0, x, 9000, 5000] _ r1 (by omega) (by simp) (by simp)
  simp only [List.map_cons, List.map_nil, List.length_cons, List.length_nil, Nat.zero_add, Nat.reduceAdd] at hone
  refine hone.mono ?_
  clear hone
  rintro e w2 ⟨t, rfl, ht, r2, g2⟩
  have t0 : 0 ≤ t ∧ t ≤ 9000 := by
    simp only [List.mem_cons, List.not_mem_nil, or_false] at ht
    omega
  have o2 := own_kept o1 g2 hrl
  have q2 := grown_trans q1 g2
  clear ht o1 q1 r1 g2
  go_wp2_with fail
  refine (value_any rb (p + 1 + 1) _ r2 (by omega)).mono ?_
  rintro e w3 ⟨v, rfl, v0, v1, r3, g3⟩
  have o3 := own_kept o2 g3 hrl
  have q3 := grown_trans q2 g3
  clear o2 q2 r2 g3
  go_wp2_with fail
  refine (pick_any rb (p + 1 + 1 + 6) _ _ r3 (by omega) (by omega)).mono ?_
  rintro e w4 ⟨n, rfl, n0, n1, -, r4, g4⟩
  have n2 : n < (most : Int) + 1 := n1 (by omega)
  have o4 := own_kept o3 g4 hrl
  have q4 := grown_trans q3 g4
  clear o3 q3 r3 g4 n1
  go_wp2_with fail
  go_loopw [5, 6, 7, 8] (fun ov tv vv nv wr => ∃ (k : Nat) (L : List S) (p' g cp : Nat) (T V : Int), nv = .int .i64 (k : Int) ∧ L.length + k ≤ most ∧ p' ≤ p + 9 + 8 * L.length ∧ ov = .slice (some ⟨g, 0, none⟩) L.length cp ∧ tv = .int .i64 T ∧ vv = .int .i64 V ∧ 0 ≤ T ∧ T ≤ 20000 ∧ wr.ownsRow w.heap.size 106 2 ov L.length (flat L) ∧ Rd wr rb p' ∧ w.grownBy wr (some rb)) (fun _ _ _ nv _ => (intOf nv).toNat)
  case atStart => exact ⟨n.toNat, [], p + 1 + 1 + 6 + 1, w.heap.size, 0, t, v, by rw [Int.toNat_of_nonneg n0], by simp; omega, by simp, rfl, rfl, rfl, t0.1, by omega, o4, r4, q4⟩
  case round =>
    clear o4 q4 r4
    obtain ⟨k, L, p', g, cp, T, V, rfl, hk, hp', rfl, rfl, rfl, hT0, hT1, hown, hrd, hg⟩ := hrel
    have hsz := hg.size
    by_cases hk0 : 0 < k
    · have hk1 : (0 : Int) < (k : Int) := by omega
      by_cases hT9 : T ≤ 9999
      · go_wp2_with (at_builtin; refine wpList_append_lies _ rfl _ _ _ rfl w.heap.size 106 i0 _ 2 16 Tryz.underlying91 hi hz0 hz1 hz2 rfl (by omega) _ L.length _ rfl (hown.alloc _) _ 1 1 [.int .i64 T, .int .i64 V] rfl rfl (World.news_of_block (cs := #[.int .i64 T, .int .i64 V]) (t := 106) (fr := (0, 0)) (heap_alloc_new _ _)) (by simp [Value.oneCell']) (by omega) (by unfold maxLen; omega) (by omega) (by simp; omega) _ rfl ?_; intro gg cap2 w9 hown2 hgrow hat hlt2)
        have ge := own_ge hown
        have gA : wr.grownBy (wr.alloc (.cells #[.int .i64 T, .int .i64 V] 106)) (some rb) := grown_below ((Below.refl _ _).alloc (Nat.le_refl _) _)
        have R : w.grownBy w9 (some rb) := grown_other (grown_trans hg gA) hgrow ge
        have R1 : Rd w9 rb p' := (hrd.below ((Below.refl _ _).alloc (Nat.le_refl _) _)).grown hgrow (fun k hk => by have := ge k hk; omega)
        have R2 : w9.ownsRow w.heap.size 106 2 (.slice (some ⟨gg, 0, none⟩) (L.length + 1) cap2) (L ++ [(T, V)]).length (flat (L ++ [(T, V)])) := by
          rw [List.length_append, flat_append]; exact hown2
        clear hown2 hgrow ge gA hown hg hrd
        have hone := one_new rb p' [1, 1, 10, 10, 10, 63, 64, 65, 130, 700] _ R1 (by omega) (by simp) (by simp)
        simp only [List.map_cons, List.map_nil, List.length_cons, List.length_nil, Nat.zero_add, Nat.reduceAdd] at hone
        refine hone.mono ?_
        clear hone
        rintro e w5 ⟨d, rfl, hd, r5, g5⟩
        have d0 : 1 ≤ d ∧ d ≤ 700 := by
          simp only [List.mem_cons, List.not_mem_nil, or_false] at hd
          omega
        obtain ⟨d1, d2⟩ := d0
        have o5 := own_kept R2 g5 hrl
        have q5 := grown_trans R g5
        clear hd R R1 R2 g5
        go_wp2_with fail
        refine (pick_any rb (p' + 1) _ _ r5 (by omega) (by omega)).mono ?_
        rintro e w6 ⟨m, rfl, m0, m1, -, r6, g6⟩
        have o6 := own_kept o5 g6 hrl
        have q6 := grown_trans q5 g6
        clear o5 q5 r5 g6 m1
        by_cases hm : 0 < m
        · go_wp2_with fail
          refine (value_any rb (p' + 1 + 1) _ r6 (by omega)).mono ?_
          rintro e w7 ⟨v', rfl, v0', v1', r7, g7⟩
          have o7 := own_kept o6 g7 hrl
          have q7 := grown_trans q6 g7
          have HO := hide o7
          clear o6 q6 r6 g7 o7
          go_wp2
          go_roundw
          case rel => exact ⟨k - 1, L ++ [(T, V)], p' + 1 + 1 + 6, gg, cap2, T + d, v', by go_num, by simp; omega, by simp; omega, by simp, by go_num, rfl, by omega, by omega, by simpa using unhide HO, r7, q7⟩
          case measure => simp [intOf]; omega
        · have HO := hide o6
          clear o6
          go_wp2
          go_roundw
          case rel => exact ⟨k - 1, L ++ [(T, V)], p' + 1 + 1, gg, cap2, T + d, V, by go_num, by simp; omega, by simp; omega, by simp, by go_num, rfl, by omega, by omega, by simpa using unhide HO, r6, q6⟩
          case measure => simp [intOf]; omega
      · go_wp2
        go_ret
        exact ⟨L, g, cp, rfl, by omega, hown, ⟨p', by omega, hrd⟩, hg⟩
    · go_wp2
      go_ret
      exact ⟨L, g, cp, rfl, by omega, hown, ⟨p', by omega, hrd⟩, hg⟩
end Go.Proofs.YtlboekimnhgfdaaGreat.Draw

/- What the laws' own helpers do with slices of impl.Entry, whose elements hold slices: they are copied, held against each other, and counted. -/
namespace Go.Proofs.YtlboekimnhgfdaaGreat.Ent
open Go.RowKit Rw
set_option linter.unusedVariables false
attribute [local go_sem ↓] Go.wp_at_zero Go.wp_at_succ
abbrev E := List Lab.E × Int × Int
abbrev C := Value × Value × Value
def cl (c : C) : List Value := [c.1, c.2.1, c.2.2]
theorem clk (c : C) : (cl c).length = 3 := rfl
def at' (zs : List E) (i : Nat) : E := zs.getD i default
def cat (cs : List C) (i : Nat) : C := cs.getD i default
theorem at_get (zs : List E) (i : Nat) (h : i < zs.length) : at' zs i = zs[i] := by simp [at', List.getD, h]
theorem at_snoc (zs : List E) (i : Nat) (h : i < zs.length) : zs.take (i + 1) = zs.take i ++ [at' zs i] := by rw [List.take_succ_eq_append_getElem h, at_get zs i h]
theorem at_mem (zs : List E) (i : Nat) (h : i < zs.length) : at' zs i ∈ zs := by rw [at_get zs i h]; exact List.getElem_mem _
theorem cat_get (zs : List C) (i : Nat) (h : i < zs.length) : cat zs i = zs[i] := by simp [cat, List.getD, h]
theorem cat_lt (zs : List C) (c : C) (i : Nat) (h : i < zs.length) : cat (zs ++ [c]) i = cat zs i := by simp [cat, List.getD, List.getElem?_append_left h]
theorem cat_last (zs : List C) (c : C) : cat (zs ++ [c]) zs.length = c := by simp [cat, List.getD]
def Elem (w : World) (c : C) (x : E) : Prop := Lab.Is w (c.1) (x.1) ∧ c.2.1 = .int .i64 (x.2.1) ∧ c.2.2 = .int .i64 (x.2.2)
theorem Elem.below {w w' : World} {c : C} {x : E} (h : Elem w c x) (hb : Below w.heap.size w w') : Elem w' c x := ⟨(h.1).below hb, h.2.1, h.2.2⟩
def far (B : Nat) (c : C) : Prop := (∀ k, (c.1).ownBlock = some k → B ≤ k)
theorem far.mono {A B : Nat} {c : C} (hf : far B c) (h : A ≤ B) : far A c := fun k hk => Nat.le_trans h (hf k hk)
theorem Elem.only {g : Nat} {w w' : World} {c : C} {x : E} (h : Elem w c x) (ho : OnlyAt g w w') (hf : far (g + 1) c) : Elem w' c x := ⟨ho.lies (h.1) (fun k hk => by have := hf k hk; omega), h.2.1, h.2.2⟩
def Is (w : World) (v : Value) (zs : List E) : Prop := ∃ cs : List C, cs.length = zs.length ∧ Lies w v zs.length 3 (flatOf cl cs) ∧ ∀ i, i < zs.length → Elem w (cat cs i) (at' zs i)
theorem Is.below {w w' : World} {v : Value} {zs : List E} (h : Is w v zs) (hb : Below w.heap.size w w') : Is w' v zs := by
  obtain ⟨cs, h1, h2, h3⟩ := h
  exact ⟨cs, h1, h2.below hb, fun i hi => (h3 i hi).below hb⟩
/-- the same, all of it in blocks from B on -/
def IsF (B : Nat) (w : World) (v : Value) (zs : List E) : Prop := ∃ cs : List C, cs.length = zs.length ∧ Lies w v zs.length 3 (flatOf cl cs) ∧ (∀ k, v.ownBlock = some k → B ≤ k) ∧ ∀ i, i < zs.length → Elem w (cat cs i) (at' zs i) ∧ far B (cat cs i)
theorem IsF.is {B : Nat} {w : World} {v : Value} {zs : List E} (h : IsF B w v zs) : Is w v zs := by
  obtain ⟨cs, h1, h2, h3, h4⟩ := h
  exact ⟨cs, h1, h2, fun i hi => (h4 i hi).1⟩
theorem IsF.below {B : Nat} {w w' : World} {v : Value} {zs : List E} (h : IsF B w v zs) (hb : Below w.heap.size w w') : IsF B w' v zs := by
  obtain ⟨cs, h1, h2, h3, h4⟩ := h
  exact ⟨cs, h1, h2.below hb, h3, fun i hi => ⟨(h4 i hi).1.below hb, (h4 i hi).2⟩⟩
theorem IsF.only {B g : Nat} {w w' : World} {v : Value} {zs : List E} (h : IsF B w v zs) (ho : OnlyAt g w w') (hg : g < B) : IsF B w' v zs := by
  obtain ⟨cs, h1, h2, h3, h4⟩ := h
  exact ⟨cs, h1, ho.lies h2 (fun k hk => by have := h3 k hk; omega), h3, fun i hi => ⟨(h4 i hi).1.only ho ((h4 i hi).2.mono hg), (h4 i hi).2⟩⟩
theorem IsF.mono {A B : Nat} {w : World} {v : Value} {zs : List E} (h : IsF B w v zs) (hA : A ≤ B) : IsF A w v zs := by
  obtain ⟨cs, h1, h2, h3, h4⟩ := h
  exact ⟨cs, h1, h2, fun k hk => Nat.le_trans hA (h3 k hk), fun i hi => ⟨(h4 i hi).1, (h4 i hi).2.mono hA⟩⟩
theorem flat_at (cs : List C) (i : Nat) (h : i < cs.length) : (flatOf cl cs)[i * 3]? = some ((cat cs i).1) ∧ (flatOf cl cs)[i * 3 + 1]? = some ((cat cs i).2.1) ∧ (flatOf cl cs)[i * 3 + 2]? = some ((cat cs i).2.2) := by
  rw [cat_get cs i h]
  exact ⟨flatOf_get clk cs i 0 h (by omega), flatOf_get clk cs i 1 h (by omega), flatOf_get clk cs i 2 h (by omega)⟩
def good (x : E) : Prop := ((x.1).length ≤ maxLen ∧ ∀ y ∈ x.1, Lab.good y) ∧ (Lit.int .i64 (x.2.1)).wf = true ∧ (Lit.int .i64 (x.2.2)).wf = true
set_option maxRecDepth 100000 in
theorem open_arg {H : Type} {enc : TypeId × Value → H} {W : World} {a : Option Addr} {len cap : Nat} {d : DataW H} {p : List MemPlace}
    (h : DataW.Trod enc Tryz.prog W 0 (fun _ => true) true 25 (.slice a len cap) d p) : ∃ zs : List E, zs.length = len ∧ len ≤ maxLen ∧ Is W (.slice a len cap) zs ∧ ∀ x ∈ zs, good x := by
  have ck : Tryz.prog.cellsOf 69 = 3 := by kernel_rfl
  obtain ⟨cs, h1, h2, h3, h4⟩ := open_flat (e := 69) (good := fun c => ∃ x : E, Elem W c x ∧ good x) clk Tryz.underlying25 ck (by
    intro n cs y hl ht
    obtain ⟨xs, m, -, -, -, hxl, hf⟩ := DataW.trod_struct Tryz.underlying69 ht
    match cs, hl, xs, hxl with
    | [c0, c1, c2], _, [y0, y1, y2], _ =>
      have g0 := hf 0 _ rfl
      have g1 := hf 1 _ rfl
      have g2 := hf 2 _ rfl
      have ce0 : Tryz.prog.cellsOf 67 = 1 := by kernel_rfl
      have ce1 : Tryz.prog.cellsOf 3 = 1 := by kernel_rfl
      simp [ce0, ce1] at g0 g1 g2
      obtain ⟨a0, l0, k0, e0, t0⟩ := slice_cell Tryz.underlying67 g0
      obtain ⟨s0, n0, m0, i0, w0⟩ := Lab.open_arg t0
      rw [← n0] at i0
      obtain ⟨s1, e1, -, w1⟩ := DataW.trod_int Tryz.underlying3 g1
      simp only [List.cons.injEq, and_true] at e1
      obtain ⟨s2, e2, -, w2⟩ := DataW.trod_int Tryz.underlying3 g2
      simp only [List.cons.injEq, and_true] at e2
      subst e0 e1 e2
      subst n0
      exact ⟨(.slice a0 s0.length k0, .int .i64 s1, .int .i64 s2), rfl, (s0, s1, s2), ⟨i0, rfl, rfl⟩, ⟨⟨m0, w0⟩, w1, w2⟩⟩) (by omega) h
  obtain ⟨zs, hz, hP⟩ := choose_list cs h4
  refine ⟨zs, by omega, h2, ⟨cs, hz.symm, by rw [hz, h1]; exact h3, fun i hi => (hP i (by omega)).1⟩, fun x hx => ?_⟩
  obtain ⟨i, hi, rfl⟩ := List.getElem_of_mem hx
  have := (hP i (by omega)).2
  rwa [show zs.getD i default = zs[i] from at_get zs i hi] at this
theorem info_e : (Tryz.prog.info? 62).map (fun i => (i.zero, i.size, i.bytes)) = some (some (.agg #[.slice none 0 0, .int .i64 0, .int .i64 0]), 3, 40) := by kernel_rfl
def tiny (x : E) : Prop := (x.1).length ≤ 4194304
end Go.Proofs.YtlboekimnhgfdaaGreat.Ent

/- Texts with a sign between, as plain mathematics. No condition. -/
namespace Go.Proofs.YtlboekimnhgfdaaGreat.PutMath
def joinB (ps : List ByteArray) : List UInt8 := Lib.join (ps.map (·.data.toList)) [44]
theorem joinB_nil : joinB [] = [] := rfl
theorem joinTail_snoc (sep : List UInt8) (r : List (List UInt8)) (y : List UInt8) : Lib.joinTail sep (r ++ [y]) = Lib.joinTail sep r ++ (sep ++ y) := by simp [Lib.joinTail]
theorem joinB_snoc (ps : List ByteArray) (p : ByteArray) : joinB (ps ++ [p]) = (if ps.length = 0 then [] else joinB ps ++ [44]) ++ p.data.toList := by
  unfold joinB
  cases ps with
  | nil => simp [Lib.join_one]
  | cons x r => simp [Lib.join_cons, joinTail_snoc]
theorem joinB_len (ps : List ByteArray) (M : Nat) (h : ∀ p ∈ ps, p.size ≤ M) : (joinB ps).length ≤ ps.length * (M + 1) := by
  have t : ∀ (r : List ByteArray), (∀ p ∈ r, p.size ≤ M) → (Lib.joinTail [44] (r.map (·.data.toList))).length ≤ r.length * (M + 1) := by
    intro r
    induction r with
    | nil => intro _; simp [Lib.joinTail]
    | cons x r ih =>
      intro hr
      have h1 := ih (fun p hp => hr p (List.mem_cons_of_mem _ hp))
      have h2 := hr x (List.mem_cons_self ..)
      have hl : x.data.toList.length = x.size := Array.length_toList
      have e : Lib.joinTail [44] ((x :: r).map (·.data.toList)) = [44] ++ x.data.toList ++ Lib.joinTail [44] (r.map (·.data.toList)) := by simp [Lib.joinTail]
      have e2 : (x :: r).length * (M + 1) = r.length * (M + 1) + (M + 1) := by rw [List.length_cons, Nat.add_mul, Nat.one_mul]
      rw [e, e2, List.length_append, List.length_append, hl]
      simp only [List.length_cons, List.length_nil]
      omega
  unfold joinB
  cases ps with
  | nil => simp [Lib.join_nil]
  | cons x r =>
    have h1 := t r (fun p hp => h p (List.mem_cons_of_mem _ hp))
    have h2 := h x (List.mem_cons_self ..)
    have hl : x.data.toList.length = x.size := Array.length_toList
    rw [List.map_cons, Lib.join_cons, List.length_append, List.length_cons, Nat.add_mul, hl]
    omega
theorem app_toList (a b : ByteArray) : (a ++ b).data.toList = a.data.toList ++ b.data.toList := by simp [ByteArray.data_append]
theorem of_toList (l : List UInt8) : (⟨l.toArray⟩ : ByteArray).data.toList = l := by simp
theorem size_of (l : List UInt8) : (⟨l.toArray⟩ : ByteArray).size = l.length := by simp [ByteArray.size]
/-- open, what stands between, shut -/
def wrap (o s : UInt8) (ps : List ByteArray) : ByteArray := ⟨(o :: joinB ps ++ [s]).toArray⟩
/-- the text of the loop that puts one part behind the other -/
def out (o : UInt8) (ps : List ByteArray) : ByteArray := ⟨(o :: joinB ps).toArray⟩
theorem out_size (o : UInt8) (ps : List ByteArray) : (out o ps).size = (joinB ps).length + 1 := by rw [out, size_of, List.length_cons]
theorem wrap_join (o s : UInt8) (ps : List ByteArray) : (⟨#[o]⟩ ++ (⟨(joinB ps).toArray⟩ : ByteArray)) ++ ⟨#[s]⟩ = wrap o s ps := by
  apply Go.WideShapes.bytes_inj
  rw [app_toList, app_toList]
  simp [wrap]
theorem wrap_out (o s : UInt8) (ps : List ByteArray) : out o ps ++ ⟨#[s]⟩ = wrap o s ps := by
  apply Go.WideShapes.bytes_inj
  rw [app_toList]
  simp [wrap, out]
theorem out_first (o : UInt8) : out o [] = ⟨#[o]⟩ := by simp [out, joinB_nil]
theorem out_next (o : UInt8) (ps : List ByteArray) (p q : ByteArray) (h : (if ps.length = 0 then out o ps else out o ps ++ ⟨#[44]⟩) = q) : q ++ p = out o (ps ++ [p]) := by
  subst h
  apply Go.WideShapes.bytes_inj
  have e : (out o (ps ++ [p])).data.toList = o :: joinB (ps ++ [p]) := by unfold out; rw [of_toList]
  have e0 : (out o ps).data.toList = o :: joinB ps := by unfold out; rw [of_toList]
  rw [app_toList, e, joinB_snoc]
  by_cases h0 : ps.length = 0
  · obtain rfl : ps = [] := List.eq_nil_of_length_eq_zero h0
    simp [out, joinB_nil]
  · rw [if_neg h0, if_neg h0, app_toList, e0]
    simp
theorem app_assoc (a b c : ByteArray) : a ++ b ++ c = a ++ (b ++ c) := by
  apply Go.WideShapes.bytes_inj
  rw [app_toList, app_toList, app_toList, app_toList, List.append_assoc]
theorem app_size (a b : ByteArray) : (a ++ b).size = a.size + b.size := by
  have h : ∀ x : ByteArray, x.data.toList.length = x.size := fun x => Array.length_toList
  rw [← h, ← h a, ← h b, app_toList, List.length_append]
end Go.Proofs.YtlboekimnhgfdaaGreat.PutMath
