/- My own texts of one claim, laid together by program: EntLaw, EntSz, EntTo, EntEq. -/
import Derived.Test.YtamjliaeikoemaaDoorGdc7c71843d
/- What the laws' own helpers do with slices of impl.Entry, whose elements hold slices: they are copied, held against each other, and counted. -/
namespace Go.Proofs.YtamjliaeikoemaaDoor.Ent
open Go.RowKit Rw
set_option linter.unusedVariables false
attribute [local go_sem ↓] Go.wp_at_zero Go.wp_at_succ
abbrev E := List Lab.E × Int × Int
abbrev C := Value × Value × Value
def cl (c : C) : List Value := [c.1, c.2.1, c.2.2]
theorem clk (c : C) : (cl c).length = 3 := rfl
def at' (zs : List E) (i : Nat) : E := zs.getD i default
def cat (cs : List C) (i : Nat) : C := cs.getD i default
theorem at_get (zs : List E) (i : Nat) (h : i < zs.length) : at' zs i = zs[i] := by simp [at', List.getD, h]
theorem at_snoc (zs : List E) (i : Nat) (h : i < zs.length) : zs.take (i + 1) = zs.take i ++ [at' zs i] := by rw [List.take_succ_eq_append_getElem h, at_get zs i h]
theorem at_mem (zs : List E) (i : Nat) (h : i < zs.length) : at' zs i ∈ zs := by rw [at_get zs i h]; exact List.getElem_mem _
theorem cat_get (zs : List C) (i : Nat) (h : i < zs.length) : cat zs i = zs[i] := by simp [cat, List.getD, h]
theorem cat_lt (zs : List C) (c : C) (i : Nat) (h : i < zs.length) : cat (zs ++ [c]) i = cat zs i := by simp [cat, List.getD, List.getElem?_append_left h]
theorem cat_last (zs : List C) (c : C) : cat (zs ++ [c]) zs.length = c := by simp [cat, List.getD]
def Elem (w : World) (c : C) (x : E) : Prop := Lab.Is w (c.1) (x.1) ∧ c.2.1 = .int .i64 (x.2.1) ∧ c.2.2 = .int .i64 (x.2.2)
theorem Elem.below {w w' : World} {c : C} {x : E} (h : Elem w c x) (hb : Below w.heap.size w w') : Elem w' c x := ⟨(h.1).below hb, h.2.1, h.2.2⟩
def far (B : Nat) (c : C) : Prop := (∀ k, (c.1).ownBlock = some k → B ≤ k)
theorem far.mono {A B : Nat} {c : C} (hf : far B c) (h : A ≤ B) : far A c := fun k hk => Nat.le_trans h (hf k hk)
theorem Elem.only {g : Nat} {w w' : World} {c : C} {x : E} (h : Elem w c x) (ho : OnlyAt g w w') (hf : far (g + 1) c) : Elem w' c x := ⟨ho.lies (h.1) (fun k hk => by have := hf k hk; omega), h.2.1, h.2.2⟩
def Is (w : World) (v : Value) (zs : List E) : Prop := ∃ cs : List C, cs.length = zs.length ∧ Lies w v zs.length 3 (flatOf cl cs) ∧ ∀ i, i < zs.length → Elem w (cat cs i) (at' zs i)
theorem Is.below {w w' : World} {v : Value} {zs : List E} (h : Is w v zs) (hb : Below w.heap.size w w') : Is w' v zs := by
  obtain ⟨cs, h1, h2, h3⟩ := h
  exact ⟨cs, h1, h2.below hb, fun i hi => (h3 i hi).below hb⟩
/-- the same, all of it in blocks from B on -/
def IsF (B : Nat) (w : World) (v : Value) (zs : List E) : Prop := ∃ cs : List C, cs.length = zs.length ∧ Lies w v zs.length 3 (flatOf cl cs) ∧ (∀ k, v.ownBlock = some k → B ≤ k) ∧ ∀ i, i < zs.length → Elem w (cat cs i) (at' zs i) ∧ far B (cat cs i)
theorem IsF.is {B : Nat} {w : World} {v : Value} {zs : List E} (h : IsF B w v zs) : Is w v zs := by
  obtain ⟨cs, h1, h2, h3, h4⟩ := h
  exact ⟨cs, h1, h2, fun i hi => (h4 i hi).1⟩
theorem IsF.below {B : Nat} {w w' : World} {v : Value} {zs : List E} (h : IsF B w v zs) (hb : Below w.heap.size w w') : IsF B w' v zs := by
  obtain ⟨cs, h1, h2, h3, h4⟩ := h
  exact ⟨cs, h1, h2.below hb, h3, fun i hi => ⟨(h4 i hi).1.below hb, (h4 i hi).2⟩⟩
theorem IsF.only {B g : Nat} {w w' : World} {v : Value} {zs : List E} (h : IsF B w v zs) (ho : OnlyAt g w w') (hg : g < B) : IsF B w' v zs := by
  obtain ⟨cs, h1, h2, h3, h4⟩ := h
  exact ⟨cs, h1, ho.lies h2 (fun k hk => by have := h3 k hk; omega), h3, fun i hi => ⟨(h4 i hi).1.only ho ((h4 i hi).2.mono hg), (h4 i hi).2⟩⟩
theorem IsF.mono {A B : Nat} {w : World} {v : Value} {zs : List E} (h : IsF B w v zs) (hA : A ≤ B) : IsF A w v zs := by
  obtain ⟨cs, h1, h2, h3, h4⟩ := h
  exact ⟨cs, h1, h2, fun k hk => Nat.le_trans hA (h3 k hk), fun i hi => ⟨(h4 i hi).1, (h4 i hi).2.mono hA⟩⟩
theorem flat_at (cs : List C) (i : Nat) (h : i < cs.length) : (flatOf cl cs)[i * 3]? = some ((cat cs i).1) ∧ (flatOf cl cs)[i * 3 + 1]? = some ((cat cs i).2.1) ∧ (flatOf cl cs)[i * 3 + 2]? = some ((cat cs i).2.2) := by
  rw [cat_get cs i h]
  exact ⟨flatOf_get clk cs i 0 h (by omega), flatOf_get clk cs i 1 h (by omega), flatOf_get clk cs i 2 h (by omega)⟩
def good (x : E) : Prop := ((x.1).length ≤ maxLen ∧ ∀ y ∈ x.1, Lab.good y) ∧ (Lit.int .i64 (x.2.1)).wf = true ∧ (Lit.int .i64 (x.2.2)).wf = true
set_option maxRecDepth 100000 in
theorem open_arg {H : Type} {enc : TypeId × Value → H} {W : World} {a : Option Addr} {len cap : Nat} {d : DataW H} {p : List MemPlace}
    (h : DataW.Trod enc Tryd.prog W 0 (fun _ => true) true 22 (.slice a len cap) d p) : ∃ zs : List E, zs.length = len ∧ len ≤ maxLen ∧ Is W (.slice a len cap) zs ∧ ∀ x ∈ zs, good x := by
  have ck : Tryd.prog.cellsOf 53 = 3 := by kernel_rfl
  obtain ⟨cs, h1, h2, h3, h4⟩ := open_flat (e := 53) (good := fun c => ∃ x : E, Elem W c x ∧ good x) clk Tryd.underlying22 ck (by
    intro n cs y hl ht
    obtain ⟨xs, m, -, -, -, hxl, hf⟩ := DataW.trod_struct Tryd.underlying53 ht
    match cs, hl, xs, hxl with
    | [c0, c1, c2], _, [y0, y1, y2], _ =>
      have g0 := hf 0 _ rfl
      have g1 := hf 1 _ rfl
      have g2 := hf 2 _ rfl
      have ce0 : Tryd.prog.cellsOf 51 = 1 := by kernel_rfl
      have ce1 : Tryd.prog.cellsOf 3 = 1 := by kernel_rfl
      simp [ce0, ce1] at g0 g1 g2
      obtain ⟨a0, l0, k0, e0, t0⟩ := slice_cell Tryd.underlying51 g0
      obtain ⟨s0, n0, m0, i0, w0⟩ := Lab.open_arg t0
      rw [← n0] at i0
      obtain ⟨s1, e1, -, w1⟩ := DataW.trod_int Tryd.underlying3 g1
      simp only [List.cons.injEq, and_true] at e1
      obtain ⟨s2, e2, -, w2⟩ := DataW.trod_int Tryd.underlying3 g2
      simp only [List.cons.injEq, and_true] at e2
      subst e0 e1 e2
      subst n0
      exact ⟨(.slice a0 s0.length k0, .int .i64 s1, .int .i64 s2), rfl, (s0, s1, s2), ⟨i0, rfl, rfl⟩, ⟨⟨m0, w0⟩, w1, w2⟩⟩) (by omega) h
  obtain ⟨zs, hz, hP⟩ := choose_list cs h4
  refine ⟨zs, by omega, h2, ⟨cs, hz.symm, by rw [hz, h1]; exact h3, fun i hi => (hP i (by omega)).1⟩, fun x hx => ?_⟩
  obtain ⟨i, hi, rfl⟩ := List.getElem_of_mem hx
  have := (hP i (by omega)).2
  rwa [show zs.getD i default = zs[i] from at_get zs i hi] at this
theorem info_e : (Tryd.prog.info? 62).map (fun i => (i.zero, i.size, i.bytes)) = some (some (.agg #[.slice none 0 0, .int .i64 0, .int .i64 0]), 3, 40) := by kernel_rfl
def tiny (x : E) : Prop := (x.1).length ≤ 4194304
end Go.Proofs.YtamjliaeikoemaaDoor.Ent

/- How much slices hold, counted: of impl.Entry. -/
namespace Go.Proofs.YtamjliaeikoemaaDoor.Ent
open Go.RowKit Rw
set_option linter.unusedVariables false
attribute [local go_sem ↓] Go.wp_at_zero Go.wp_at_succ
def szOf (x : E) : Nat := Lab.tot (x.1)
def tot (zs : List E) : Nat := zs.foldl (fun a x => a + szOf x) zs.length
def totTo (zs : List E) (j : Nat) : Nat := (zs.take j).foldl (fun a x => a + szOf x) zs.length
theorem totTo_succ (zs : List E) (j : Nat) (h : j < zs.length) : totTo zs (j + 1) = totTo zs j + szOf (at' zs j) := by
  unfold totTo
  rw [at_snoc zs j h, List.foldl_append]
  rfl
theorem totTo_mono (zs : List E) : ∀ (i j : Nat), i ≤ j → j ≤ zs.length → totTo zs i ≤ totTo zs j
  | i, 0, h, _ => by obtain rfl : i = 0 := by omega
                     exact Nat.le_refl _
  | i, j + 1, h, hj => by
    by_cases e : i = j + 1
    · subst e; exact Nat.le_refl _
    · have h1 := totTo_mono zs i j (by omega) (by omega)
      rw [totTo_succ zs j (by omega)]
      omega
theorem totTo_all (zs : List E) : totTo zs zs.length = tot zs := by unfold totTo tot; rw [List.take_of_length_le (Nat.le_refl _)]
theorem tot_len (zs : List E) : zs.length ≤ tot zs := by have := totTo_mono zs 0 zs.length (Nat.zero_le _) (Nat.le_refl _); rw [totTo_all] at this; unfold totTo at this; simpa using this
theorem tot_at (zs : List E) (j : Nat) (h : j < zs.length) : szOf (at' zs j) ≤ tot zs := by
  have h1 := totTo_succ zs j h
  have h2 := totTo_mono zs (j + 1) zs.length (by omega) (Nat.le_refl _)
  rw [totTo_all] at h2
  omega
set_option maxHeartbeats 2000000 in
theorem sz_one {c : C} {x : E} {w : World} (left : Int) (h : Elem w c x) (hg : good x) (h0 : 0 ≤ left) (h1 : left ≤ 1048576) :
    Calls Tryd.prog 27 #[.agg #[c.1, c.2.1, c.2.2], .int .i64 left] w fun e w' => e = .returned (.int .i64 (if left - (szOf x : Int) < 0 then -1 else left - (szOf x : Int))) ∧ Below w.heap.size w w' := by
  obtain ⟨c0, c1, c2⟩ := c
  obtain ⟨e0, e1, e2⟩ := h
  obtain ⟨g0, g1, g2⟩ := hg
  simp only at e0 e1 e2
  subst e1
  subst e2
  have T0 := hide (fun W (hb : Below w.heap.size w W) (l : Int) (p0 : 0 ≤ l) (p1 : l ≤ 1048576) => Lab.sz_any l (e0.below hb) g0.1 g0.2 p0 p1)
  obtain ⟨t0, ht0⟩ : ∃ t, t = Lab.tot (x.1) := ⟨_, rfl⟩
  rw [← ht0] at T0
  have HS : szOf x = t0 := by unfold szOf; rw [ht0]
  rw [HS]
  clear HS ht0 e0 g0 g1 g2
  have B := (Below.refl w.heap.size w).alloc (Nat.le_refl _) (.cells #[c0, .int .i64 (x.2.1), .int .i64 (x.2.2)] 53)
  by_cases k0 : left - (t0 : Int) < 0
  · rw [if_pos (by omega)]
    go_enter Tryd.func27, Tryd.ntmps27
    go_wp2_with fail
    refine (unhide T0 _ B (left) (by omega) (by omega)).mono ?_
    rintro e v0 ⟨rfl, b0⟩
    have B0 := B.trans (b0.mono B.size)
    obtain ⟨bc0, bf0⟩ := bcell b0
    have z0 := b0.size
    simp only [World.size_alloc] at z0 bc0 bf0
    rw [if_pos (by omega)]
    go_wp2_with fail
    go_ret
    exact ⟨rfl, B0⟩
  rw [if_neg (by omega), show left - ((t0 : Nat) : Int) = left - (t0 : Int) from by omega]
  go_enter Tryd.func27, Tryd.ntmps27
  go_wp2_with fail
  refine (unhide T0 _ B (left) (by omega) (by omega)).mono ?_
  rintro e v0 ⟨rfl, b0⟩
  have B0 := B.trans (b0.mono B.size)
  obtain ⟨bc0, bf0⟩ := bcell b0
  have z0 := b0.size
  simp only [World.size_alloc] at z0 bc0 bf0
  rw [if_neg (by omega)]
  have n0 : 0 ≤ left - (t0 : Int) := by omega
  go_wp2_with fail
  go_ret
  exact ⟨rfl, B0⟩
set_option maxRecDepth 100000 in
set_option maxHeartbeats 2000000 in
theorem sz_any {w : World} {v : Value} {zs : List E} (left : Int) (h : Is w v zs) (hlm : zs.length ≤ maxLen) (hg : ∀ x ∈ zs, good x) (h0 : 0 ≤ left) (h1 : left ≤ 1048576) :
    Calls Tryd.prog 12 #[v, .int .i64 left] w fun e w' => e = .returned (.int .i64 (if left - (tot zs : Int) < 0 then -1 else left - (tot zs : Int))) ∧ Below w.heap.size w w' := by
  obtain ⟨cs, hcs, hL, hE⟩ := h
  have HE := hide hE
  obtain ⟨-, a, cap, rfl, hc, hm, -, hr⟩ := hL
  have HT := hide (tot_len zs)
  unfold maxLen at hm hlm
  obtain ⟨n, hn⟩ : ∃ n, n = zs.length := ⟨_, rfl⟩
  rw [← hn] at hc hr hlm hcs ⊢
  have HN := hide hn
  have HC := hide hcs
  have HG := hide hg
  have T0 := hide (show totTo zs 0 = n by rw [hn]; rfl)
  clear hn hg hE hcs
  by_cases hn0 : left - (n : Int) < 0
  · rw [if_pos (by have := unhide HT; have := unhide HN; omega)]
    go_enter Tryd.func12, Tryd.ntmps12
    go_wp2
    go_ret
    exact ⟨rfl, Below.refl _ _⟩
  obtain ⟨R, hR⟩ : ∃ R : Int, R = if left - (tot zs : Int) < 0 then -1 else left - (tot zs : Int) := ⟨_, rfl⟩
  rw [← hR]
  have HR := hide hR
  clear hR
  go_enter Tryd.func12, Tryd.ntmps12
  go_wp2
  go_loopw [1, 5] (fun lv i wr => ∃ (j : Nat), j ≤ n ∧ i = .int .i64 j ∧ lv = .int .i64 (left - (totTo zs j : Int)) ∧ 0 ≤ left - (totTo zs j : Int) ∧ Below w.heap.size w wr) (fun _ i _ => n - (intOf i).toNat)
  case atStart => exact ⟨0, Nat.zero_le _, rfl, by rw [unhide T0], by rw [unhide T0]; omega, Below.refl _ _⟩
  case round =>
    obtain ⟨j, hj, rfl, rfl, hleft, hbel⟩ := hrel
    have hsz := hbel.size
    by_cases hlt : j < n
    · obtain ⟨b, off, rfl, hl, hcells⟩ := hr (by omega)
      have fa := flat_at cs j (by have := unhide HC; omega)
      have HTS := hide (totTo_succ zs j (by have := unhide HN; omega))
      have HLe := hide (show totTo zs (j + 1) ≤ tot zs by rw [← totTo_all]; exact totTo_mono zs _ _ (by have := unhide HN; omega) (Nat.le_refl _))
      have HO := hide (sz_one (left - (totTo zs j : Int)) ((unhide HE j (by have := unhide HN; omega)).below hbel) (unhide HG _ (at_mem zs j (by have := unhide HN; omega))) hleft (by omega))
      obtain ⟨c0, c1, c2, hX⟩ : ∃ c0 c1 c2, (c0, c1, c2) = cat cs j := ⟨_, _, _, rfl⟩
      rw [← hX] at fa HO
      have hc0 : wr.cell? ⟨b, off + j * 3, none⟩ = some c0 := (hbel.cell (p := ⟨b, _, none⟩) hl).trans (hcells (j * 3) _ fa.1)
      have hc1 : wr.cell? ⟨b, off + j * 3 + 1, none⟩ = some c1 := (hbel.cell (p := ⟨b, _, none⟩) hl).trans (hcells (j * 3 + 1) _ fa.2.1)
      have hc2 : wr.cell? ⟨b, off + j * 3 + 2, none⟩ = some c2 := (hbel.cell (p := ⟨b, _, none⟩) hl).trans (hcells (j * 3 + 2) _ fa.2.2)
      have hk0 : (0 : Int) ≤ (j : Int) := Int.natCast_nonneg _
      have hk1 : (j : Int) < (n : Int) := by omega
      clear hX fa
      simp only at HO
      obtain ⟨M, hM⟩ : ∃ M, M = szOf (at' zs j) := ⟨_, rfl⟩
      rw [← hM] at HO HTS
      clear hM
      generalize totTo zs j = Q at *
      go_wp2_with fail
      refine (unhide HO).mono ?_
      rintro e w2 ⟨rfl, b2⟩
      by_cases hneg : left - (Q : Int) - (M : Int) < 0
      · rw [if_pos hneg]
        have HRn := hide (show R = -1 by rw [unhide HR, if_pos]; have := unhide HLe; have := unhide HTS; omega)
        go_wp2
        go_ret
        exact ⟨ret_int (unhide HRn).symm, hbel.trans (b2.mono hsz)⟩
      · rw [if_neg hneg]
        have hle0 : 0 ≤ left - (Q : Int) - (M : Int) := by omega
        go_wp2
        go_roundw
        case rel => exact ⟨j + 1, by omega, by go_num, by rw [unhide HTS]; go_num, by rw [unhide HTS]; omega, hbel.trans (b2.mono hsz)⟩
        case measure => simp [intOf]; omega
    · obtain rfl : j = n := by omega
      have HRp := hide (show R = left - (totTo zs j : Int) by rw [unhide HR]; have e := totTo_all zs; rw [← unhide HN] at e; rw [← e, if_neg (by omega)])
      go_wp2
      go_ret
      exact ⟨ret_int (unhide HRp).symm, hbel⟩
end Go.Proofs.YtamjliaeikoemaaDoor.Ent

/- The laws' copies of slices of impl.Entry. -/
namespace Go.Proofs.YtamjliaeikoemaaDoor.Ent
open Go.RowKit Rw
set_option linter.unusedVariables false
attribute [local go_sem ↓] Go.wp_at_zero Go.wp_at_succ
theorem set_e (A : List Value) (u0 u1 u2 x0 x1 x2 : Value) (L : List Value) (k : Nat) (h : A.length = k) : ((((A ++ u0 :: u1 :: u2 :: L).set k x0).set (k + 1) x1).set (k + 2) x2) = A ++ [x0, x1, x2] ++ L := by
  subst h
  simp [List.set_append_right]
theorem split_e (r : List Value) (n : Nat) (h : r.length = (n + 1) * 3) : ∃ u0 u1 u2 L, r = u0 :: u1 :: u2 :: L ∧ L.length = n * 3 := by
  match r, h with
  | u0 :: u1 :: u2 :: L, h => exact ⟨u0, u1, u2, L, rfl, by simp only [List.length_cons] at h; omega⟩
  | [], h => simp at h <;> omega
  | [_], h => simp at h <;> omega
  | [_, _], h => simp at h <;> omega
set_option maxHeartbeats 2000000 in
theorem to_one {c : C} {x : E} {w : World} (h : Elem w c x) (ht : tiny x) : Calls Tryd.prog 35 #[.agg #[c.1, c.2.1, c.2.2]] w fun e w' => ∃ c' : C, e = .returned (.agg #[c'.1, c'.2.1, c'.2.2]) ∧ Elem w' c' x ∧ far w.heap.size c' ∧ Below w.heap.size w w' := by
  obtain ⟨c0, c1, c2⟩ := c
  obtain ⟨h0, h1, h2⟩ := h
  simp only at h0 h1 h2
  subst h1
  subst h2
  have T0 := hide (fun W (hb : Below w.heap.size w W) => Lab.to_any (h0.below hb) (ht))
  clear h0 ht
  obtain ⟨l0, hl0⟩ : ∃ l, l = (x.1).length := ⟨_, rfl⟩
  rw [← hl0] at T0
  have HL0 := hide hl0
  clear hl0
  have B := (((Below.refl w.heap.size w).alloc (Nat.le_refl _) (.cells #[c0, .int .i64 (x.2.1), .int .i64 (x.2.2)] 53)).alloc (by simp) (.cells #[.slice none 0 0, .int .i64 0, .int .i64 0] 62)).alloc (by simp; omega) (.cells #[.slice none 0 0, .int .i64 0, .int .i64 0] 62)
  go_enter Tryd.func35, Tryd.ntmps35
  go_wp2_with fail
  refine (unhide T0 _ B).mono ?_
  rintro e v0 ⟨rfl, r0, b0⟩
  obtain ⟨bc0, bf0⟩ := bcell b0
  have z0 := b0.size
  have B0 := B.trans (b0.mono B.size)
  simp only [World.size_alloc] at z0 bc0 bf0 r0 ⊢
  clear b0
  have I0 := hide (show Lab.Is v0 (.slice (some ⟨w.heap.size + 1 + 1 + 1, 0, none⟩) l0 l0) (x.1) by rw [unhide HL0] at r0 ⊢; exact Lab.is_of_own r0)
  clear r0
  have Bs0 := B0.setCell (p := ⟨w.heap.size + 1 + 1, 0, none⟩) (by show w.heap.size ≤ w.heap.size + 1 + 1; omega) (.slice (some ⟨w.heap.size + 1 + 1 + 1, 0, none⟩) l0 l0)
  clear B0
  have I0 := hide (((OnlyAt.refl (w.heap.size + 1 + 1) _).setCell 0 (.slice (some ⟨w.heap.size + 1 + 1 + 1, 0, none⟩) l0 l0)).lies (unhide I0) (fun k hk => by cases hk; dsimp only; omega))
  have Bs1 := Bs0.setCell (p := ⟨w.heap.size + 1 + 1, 1, none⟩) (by show w.heap.size ≤ w.heap.size + 1 + 1; omega) (.int .i64 (x.2.1))
  clear Bs0
  have I0 := hide (((OnlyAt.refl (w.heap.size + 1 + 1) _).setCell 1 (.int .i64 (x.2.1))).lies (unhide I0) (fun k hk => by cases hk; dsimp only; omega))
  have Bs2 := Bs1.setCell (p := ⟨w.heap.size + 1 + 1, 2, none⟩) (by show w.heap.size ≤ w.heap.size + 1 + 1; omega) (.int .i64 (x.2.2))
  clear Bs1
  have I0 := hide (((OnlyAt.refl (w.heap.size + 1 + 1) _).setCell 2 (.int .i64 (x.2.2))).lies (unhide I0) (fun k hk => by cases hk; dsimp only; omega))
  have Br0 := Bs2.setCell (p := ⟨w.heap.size + 1, 0, none⟩) (by show w.heap.size ≤ w.heap.size + 1; omega) (.slice (some ⟨w.heap.size + 1 + 1 + 1, 0, none⟩) l0 l0)
  clear Bs2
  have I0 := hide (((OnlyAt.refl (w.heap.size + 1) _).setCell 0 (.slice (some ⟨w.heap.size + 1 + 1 + 1, 0, none⟩) l0 l0)).lies (unhide I0) (fun k hk => by cases hk; dsimp only; omega))
  have Br1 := Br0.setCell (p := ⟨w.heap.size + 1, 1, none⟩) (by show w.heap.size ≤ w.heap.size + 1; omega) (.int .i64 (x.2.1))
  clear Br0
  have I0 := hide (((OnlyAt.refl (w.heap.size + 1) _).setCell 1 (.int .i64 (x.2.1))).lies (unhide I0) (fun k hk => by cases hk; dsimp only; omega))
  have Br2 := Br1.setCell (p := ⟨w.heap.size + 1, 2, none⟩) (by show w.heap.size ≤ w.heap.size + 1; omega) (.int .i64 (x.2.2))
  clear Br1
  have I0 := hide (((OnlyAt.refl (w.heap.size + 1) _).setCell 2 (.int .i64 (x.2.2))).lies (unhide I0) (fun k hk => by cases hk; dsimp only; omega))
  go_wp2
  refine bodyPost_ret (v := .agg #[(.slice (some ⟨w.heap.size + 1 + 1 + 1, 0, none⟩) l0 l0), (.int .i64 (x.2.1)), (.int .i64 (x.2.2))]) (by simp [results, Tryd.results35, go_sem, bc0]) rfl ⟨((.slice (some ⟨w.heap.size + 1 + 1 + 1, 0, none⟩) l0 l0), (.int .i64 (x.2.1)), (.int .i64 (x.2.2))), rfl, ⟨unhide I0, rfl, rfl⟩, fun k hk => by cases hk; dsimp only; omega, Br2⟩
set_option maxRecDepth 100000 in
set_option maxHeartbeats 4000000 in
theorem to_any {w : World} {v : Value} {zs : List E} (h : Is w v zs) (hlen : zs.length ≤ 2097152) (ht : ∀ x ∈ zs, tiny x) :
    Calls Tryd.prog 16 #[v] w fun e w' => e = .returned (.slice (some ⟨w.heap.size, 0, none⟩) zs.length zs.length) ∧ IsF w.heap.size w' (.slice (some ⟨w.heap.size, 0, none⟩) zs.length zs.length) zs ∧ Below w.heap.size w w' := by
  obtain ⟨i0, hi, hz0, hz1, hz2⟩ := info_parts info_e
  obtain ⟨cs, hcs, hL, hE⟩ := h
  have HE := hide hE
  have HTt := hide ht
  obtain ⟨-, a, cap, rfl, hc, hm, -, hr⟩ := hL
  unfold maxLen at hm
  obtain ⟨n, hn⟩ : ∃ n, n = zs.length := ⟨_, rfl⟩
  rw [← hn] at hc hr hlen hcs ⊢
  have HN := hide hn
  have HC := hide hcs
  clear hn hE ht hcs
  go_enter Tryd.func16, Tryd.ntmps16
  go_wp2_with (at_make; refine wpList_make_full _ rfl _ _ _ rfl w.heap.size 62 i0 (.agg #[.slice none 0 0, .int .i64 0, .int .i64 0]) 3 Tryd.underlying28 hi hz0 hz1 .i64 .i64 _ _ n rfl rfl rfl rfl (by rw [hz2]; omega) (by unfold maxLen; omega) (Nat.le_refl _) ?_; intro w1 hown1 hgrow1)
  go_loopw [4] (fun i wr => ∃ (j : Nat) (r : List Value) (ds : List C), j ≤ n ∧ i = .int .i64 j ∧ r.length = (n - j) * 3 ∧ ds.length = j ∧ wr.ownsRow w.heap.size 62 3 (.slice (some ⟨w.heap.size, 0, none⟩) n n) n (flatOf cl ds ++ r) ∧ Hid (∀ i, i < j → Elem wr (cat ds i) (at' zs i) ∧ far (w.heap.size + 1) (cat ds i)) ∧ Below w.heap.size w wr) (fun i _ => n - (intOf i).toNat)
  case atStart =>
    refine ⟨0, _, [], Nat.zero_le _, rfl, ?_, rfl, hown1, hide (fun i h => by omega), below_grown (Below.refl _ _) (Nat.le_refl _) hgrow1 (by simp)⟩
    have := hown1.1
    simpa using this
  case round =>
    obtain ⟨j, r, ds, hj, rfl, hrl, hdl, hown, HD, hbel⟩ := hrel
    have hsz := own_lt hown
    by_cases hlt : j < n
    · obtain ⟨u0, u1, u2, L, rfl, hB⟩ := split_e r (n - j - 1) (by rw [hrl]; omega)
      obtain ⟨b, off, rfl, hl, hcells⟩ := hr (by omega)
      have fa := flat_at cs j (by have := unhide HC; omega)
      have hc0 : wr.cell? ⟨b, off + j * 3, none⟩ = some ((cat cs j).1) := (hbel.cell (p := ⟨b, _, none⟩) hl).trans (hcells (j * 3) _ fa.1)
      have hc1 : wr.cell? ⟨b, off + j * 3 + 1, none⟩ = some ((cat cs j).2.1) := (hbel.cell (p := ⟨b, _, none⟩) hl).trans (hcells (j * 3 + 1) _ fa.2.1)
      have hc2 : wr.cell? ⟨b, off + j * 3 + 2, none⟩ = some ((cat cs j).2.2) := (hbel.cell (p := ⟨b, _, none⟩) hl).trans (hcells (j * 3 + 2) _ fa.2.2)
      have fln : (flatOf cl ds).length = j * 3 := by rw [flatOf_length clk, hdl]
      have hd0 : wr.cell? ⟨w.heap.size, j * 3, none⟩ = some u0 := by rw [hown.cellAt (j * 3) (by omega)]; simp [fln]
      have hf0 := hown.frozenAt (j * 3)
      have hd1 : wr.cell? ⟨w.heap.size, j * 3 + 1, none⟩ = some u1 := by rw [hown.cellAt (j * 3 + 1) (by omega)]; simp [fln]
      have hf1 := hown.frozenAt (j * 3 + 1)
      have hd2 : wr.cell? ⟨w.heap.size, j * 3 + 2, none⟩ = some u2 := by rw [hown.cellAt (j * 3 + 2) (by omega)]; simp [fln]
      have hf2 := hown.frozenAt (j * 3 + 2)
      have hk0 : (0 : Int) ≤ (j : Int) := Int.natCast_nonneg _
      have hk1 : (j : Int) < (n : Int) := by omega
      have HO := hide (to_one ((unhide HE j (by have := unhide HN; omega)).below hbel) (unhide HTt _ (at_mem zs j (by have := unhide HN; omega))))
      obtain ⟨c0, c1, c2, hX⟩ : ∃ c0 c1 c2, (c0, c1, c2) = cat cs j := ⟨_, _, _, rfl⟩
      rw [← hX] at hc0 hc1 hc2 HO
      clear hX fa
      have HF := hide fln
      clear fln
      simp only at HO
      go_wp2_with (go_at_call 35; refine (unhide HO).mono ?_; rintro e w2 ⟨⟨d0, d1, d2⟩, rfl, hE2, hF2, hb2⟩; obtain ⟨bc, bf⟩ := bcell hb2; obtain ⟨a0, q0, f0, -, -⟩ := hE2.1.form; simp only at f0; subst f0; have f1 := hE2.2.1; simp only at f1; subst f1; have f2 := hE2.2.2; simp only at f2; subst f2)
      have o0 := ((own_below hown hb2).stored (j * 3) (.slice a0 ((at' zs j).1).length q0)).1
      have o1 := (o0.stored (j * 3 + 1) (.int .i64 ((at' zs j).2.1))).1
      have o2 := (o1.stored (j * 3 + 2) (.int .i64 ((at' zs j).2.2))).1
      rw [set_e _ _ _ _ _ _ _ _ _ (unhide HF)] at o2
      have e2 : flatOf cl (ds ++ [((.slice a0 ((at' zs j).1).length q0), (.int .i64 ((at' zs j).2.1)), (.int .i64 ((at' zs j).2.2)))]) = flatOf cl ds ++ [(.slice a0 ((at' zs j).1).length q0), (.int .i64 ((at' zs j).2.1)), (.int .i64 ((at' zs j).2.2))] := by rw [flatOf_append, flatOf_one]; rfl
      rw [← e2] at o2
      have R := hide ((((hbel.trans (hb2.mono (by omega))).setCell (p := ⟨w.heap.size, j * 3, none⟩) (Nat.le_refl _) (.slice a0 ((at' zs j).1).length q0)).setCell (p := ⟨w.heap.size, j * 3 + 1, none⟩) (Nat.le_refl _) (.int .i64 ((at' zs j).2.1))).setCell (p := ⟨w.heap.size, j * 3 + 2, none⟩) (Nat.le_refl _) (.int .i64 ((at' zs j).2.2)))
      have O := hide o2
      have oa := hide ((((OnlyAt.refl w.heap.size w2).setCell (j * 3) (.slice a0 ((at' zs j).1).length q0)).setCell (j * 3 + 1) (.int .i64 ((at' zs j).2.1))).setCell (j * 3 + 2) (.int .i64 ((at' zs j).2.2)))
      have HD' := hide (show ∀ i, i < j + 1 → Elem _ (cat (ds ++ [((.slice a0 ((at' zs j).1).length q0), (.int .i64 ((at' zs j).2.1)), (.int .i64 ((at' zs j).2.2)))]) i) (at' zs i) ∧ far (w.heap.size + 1) (cat (ds ++ [((.slice a0 ((at' zs j).1).length q0), (.int .i64 ((at' zs j).2.1)), (.int .i64 ((at' zs j).2.2)))]) i) from fun i hi => by
        by_cases hij : i < j
        · have h := unhide HD i hij
          rw [cat_lt _ _ _ (by omega)]
          exact ⟨(h.1.below hb2).only (unhide oa) h.2, h.2⟩
        · obtain rfl : i = j := by omega
          have hF3 := hF2.mono (show w.heap.size + 1 ≤ wr.heap.size from hsz)
          rw [show i = ds.length from hdl.symm, cat_last]
          rw [hdl]
          exact ⟨hE2.only (unhide oa) hF3, hF3⟩)
      clear o0 o1 o2 e2 hown bc bf hd0 hf0 hd1 hf1 hd2 hf2 hE2 hF2 HD oa
      go_wp2_with fail
      go_roundw
      case rel => exact ⟨j + 1, L, ds ++ [((.slice a0 ((at' zs j).1).length q0), (.int .i64 ((at' zs j).2.1)), (.int .i64 ((at' zs j).2.2)))], by omega, by go_num, by omega, by simp [hdl], unhide O, HD', unhide R⟩
      case measure => simp [intOf]; omega
    · obtain rfl : j = n := by omega
      obtain rfl : r = [] := List.eq_nil_of_length_eq_zero (by rw [hrl]; omega)
      rw [List.append_nil] at hown
      have hI := hide (show IsF w.heap.size wr (.slice (some ⟨w.heap.size, 0, none⟩) j j) zs from ⟨ds, by have := unhide HN; omega, by rw [← unhide HN]; exact lies_of_own hown, own_ge hown, fun i hi => ⟨(unhide HD i (by have := unhide HN; omega)).1, (unhide HD i (by have := unhide HN; omega)).2.mono (Nat.le_succ _)⟩⟩)
      clear hown HD
      go_wp2
      go_ret
      exact ⟨rfl, unhide hI, hbel⟩
end Go.Proofs.YtamjliaeikoemaaDoor.Ent

/- Whether slices are the same: of impl.Entry. -/
namespace Go.Proofs.YtamjliaeikoemaaDoor.Ent
open Go.RowKit Rw
set_option linter.unusedVariables false
attribute [local go_sem ↓] Go.wp_at_zero Go.wp_at_succ
set_option maxHeartbeats 2000000 in
theorem eq_one {c d : C} {x : E} {w : World} (h : Elem w c x) (h' : Elem w d x) : Calls Tryd.prog 48 #[.agg #[c.1, c.2.1, c.2.2], .agg #[d.1, d.2.1, d.2.2]] w fun e w' => e = .returned (.bool true) ∧ Below w.heap.size w w' := by
  obtain ⟨c0, c1, c2⟩ := c
  obtain ⟨d0, d1, d2⟩ := d
  obtain ⟨h0, h1, h2⟩ := h
  obtain ⟨g0, g1, g2⟩ := h'
  simp only at h0 h1 h2 g0 g1 g2
  subst h1 g1
  subst h2 g2
  have T0 := hide (fun W (hb : Below w.heap.size w W) => Lab.eq_any (h0.below hb) (g0.below hb))
  clear h0 g0
  have B := ((Below.refl w.heap.size w).alloc (Nat.le_refl _) (.cells #[c0, .int .i64 (x.2.1), .int .i64 (x.2.2)] 62)).alloc (by simp) (.cells #[d0, .int .i64 (x.2.1), .int .i64 (x.2.2)] 62)
  go_enter Tryd.func48, Tryd.ntmps48
  go_wp2_with fail
  refine (unhide T0 _ B).mono ?_
  rintro e v0 ⟨rfl, b0⟩
  obtain ⟨bc0, bf0⟩ := bcell b0
  have z0 := b0.size
  have B0 := B.trans (b0.mono B.size)
  simp only [World.size_alloc] at z0 bc0 bf0
  go_wp2
  go_ret
  exact ⟨rfl, B0⟩
set_option maxRecDepth 100000 in
set_option maxHeartbeats 2000000 in
theorem eq_any {v u : Value} {zs : List E} {w : World} (h : Is w v zs) (h' : Is w u zs) : Calls Tryd.prog 22 #[v, u] w fun e w' => e = .returned (.bool true) ∧ Below w.heap.size w w' := by
  obtain ⟨cs, hcs, hL, hE⟩ := h
  obtain ⟨ds, hds, hL', hE'⟩ := h'
  have HE := hide hE
  have HE' := hide hE'
  obtain ⟨-, a, cap, rfl, hc, hm, -, hr⟩ := hL
  obtain ⟨-, a', cap', rfl, hc', hm', -, hr'⟩ := hL'
  unfold maxLen at hm hm'
  obtain ⟨n, hn⟩ : ∃ n, n = zs.length := ⟨_, rfl⟩
  rw [← hn] at hc hr hc' hr' hcs hds ⊢
  have HN := hide hn
  have HC := hide hcs
  have HD := hide hds
  clear hn hE hE' hcs hds
  go_enter Tryd.func22, Tryd.ntmps22
  go_wp2
  go_loopw [5] (fun i wr => ∃ (j : Nat), j ≤ n ∧ i = .int .i64 j ∧ Below w.heap.size w wr) (fun i _ => n - (intOf i).toNat)
  case atStart => exact ⟨0, Nat.zero_le _, rfl, Below.refl _ _⟩
  case round =>
    obtain ⟨j, hj, rfl, hbel⟩ := hrel
    have hsz := hbel.size
    by_cases hlt : j < n
    · obtain ⟨b, off, rfl, hl, hcells⟩ := hr (by omega)
      obtain ⟨b', off', rfl, hl', hcells'⟩ := hr' (by omega)
      have fa := flat_at cs j (by have := unhide HC; omega)
      have fb := flat_at ds j (by have := unhide HD; omega)
      have HO := hide (fun x : Cls wr.heap.size wr => eq_one (((unhide HE j (by have := unhide HN; omega)).below hbel).below x.isBelow) (((unhide HE' j (by have := unhide HN; omega)).below hbel).below x.isBelow))
      obtain ⟨c0, c1, c2, hX⟩ : ∃ c0 c1 c2, (c0, c1, c2) = cat cs j := ⟨_, _, _, rfl⟩
      obtain ⟨d0, d1, d2, hY⟩ : ∃ d0 d1 d2, (d0, d1, d2) = cat ds j := ⟨_, _, _, rfl⟩
      rw [← hX] at fa HO
      rw [← hY] at fb HO
      have hq0 : ∀ x : Cls wr.heap.size wr, x.val.cell? ⟨b, off + j * 3, none⟩ = some c0 := fun x => by rw [x.cell (by omega)]; exact (hbel.cell (p := ⟨b, _, none⟩) hl).trans (hcells (j * 3) _ fa.1)
      have hp0 : ∀ x : Cls wr.heap.size wr, x.val.cell? ⟨b', off' + j * 3, none⟩ = some d0 := fun x => by rw [x.cell (by omega)]; exact (hbel.cell (p := ⟨b', _, none⟩) hl').trans (hcells' (j * 3) _ fb.1)
      have hq1 : ∀ x : Cls wr.heap.size wr, x.val.cell? ⟨b, off + j * 3 + 1, none⟩ = some c1 := fun x => by rw [x.cell (by omega)]; exact (hbel.cell (p := ⟨b, _, none⟩) hl).trans (hcells (j * 3 + 1) _ fa.2.1)
      have hp1 : ∀ x : Cls wr.heap.size wr, x.val.cell? ⟨b', off' + j * 3 + 1, none⟩ = some d1 := fun x => by rw [x.cell (by omega)]; exact (hbel.cell (p := ⟨b', _, none⟩) hl').trans (hcells' (j * 3 + 1) _ fb.2.1)
      have hq2 : ∀ x : Cls wr.heap.size wr, x.val.cell? ⟨b, off + j * 3 + 2, none⟩ = some c2 := fun x => by rw [x.cell (by omega)]; exact (hbel.cell (p := ⟨b, _, none⟩) hl).trans (hcells (j * 3 + 2) _ fa.2.2)
      have hp2 : ∀ x : Cls wr.heap.size wr, x.val.cell? ⟨b', off' + j * 3 + 2, none⟩ = some d2 := fun x => by rw [x.cell (by omega)]; exact (hbel.cell (p := ⟨b', _, none⟩) hl').trans (hcells' (j * 3 + 2) _ fb.2.2)
      have hk0 : (0 : Int) ≤ (j : Int) := Int.natCast_nonneg _
      have hk1 : (j : Int) < (n : Int) := by omega
      clear hX hY fa fb
      have hne := cls_nonempty wr.heap.size wr
      go_wp2_with fail
      refine region_cls (by kernel_rfl) (by kernel_rfl) ?_
      repeat (go_big_quiet_step ((go_at_call 48; exact cls_call (Nat.le_refl _) (unhide HO _))))
      refine wpQuiet_nil ?_
      rintro wq ⟨⟨_, hq⟩, rfl⟩
      go_wp2
      go_roundw
      case rel => exact ⟨j + 1, by omega, by go_num, hbel.trans (hq.mono hsz)⟩
      case measure => simp [intOf]; omega
    · go_wp2
      go_ret
      exact ⟨rfl, hbel⟩
end Go.Proofs.YtamjliaeikoemaaDoor.Ent
