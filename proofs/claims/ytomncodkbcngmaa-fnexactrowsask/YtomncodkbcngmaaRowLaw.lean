/- What the laws' own helpers do with slices of impl.Row, whose elements hold slices: they are copied, held against each other, and counted. -/
import Derived.Test.YtomncodkbcngmaaNest
import Derived.Test.YtomncodkbcngmaaLabLaw
import Derived.Test.YtomncodkbcngmaaSamLaw
namespace Go.Proofs.Ytomncodkbcngmaa.Row
open Go.RowKit Rw
set_option linter.unusedVariables false
attribute [local go_sem ↓] Go.wp_at_zero Go.wp_at_succ
abbrev E := List Lab.E × List Sam.E
abbrev C := Value × Value
def cl (c : C) : List Value := [c.1, c.2]
theorem clk (c : C) : (cl c).length = 2 := rfl
def at' (zs : List E) (i : Nat) : E := zs.getD i default
def cat (cs : List C) (i : Nat) : C := cs.getD i default
theorem at_get (zs : List E) (i : Nat) (h : i < zs.length) : at' zs i = zs[i] := by simp [at', List.getD, h]
theorem at_snoc (zs : List E) (i : Nat) (h : i < zs.length) : zs.take (i + 1) = zs.take i ++ [at' zs i] := by rw [List.take_succ_eq_append_getElem h, at_get zs i h]
theorem at_mem (zs : List E) (i : Nat) (h : i < zs.length) : at' zs i ∈ zs := by rw [at_get zs i h]; exact List.getElem_mem _
theorem cat_get (zs : List C) (i : Nat) (h : i < zs.length) : cat zs i = zs[i] := by simp [cat, List.getD, h]
theorem cat_lt (zs : List C) (c : C) (i : Nat) (h : i < zs.length) : cat (zs ++ [c]) i = cat zs i := by simp [cat, List.getD, List.getElem?_append_left h]
theorem cat_last (zs : List C) (c : C) : cat (zs ++ [c]) zs.length = c := by simp [cat, List.getD]
def Elem (w : World) (c : C) (x : E) : Prop := Lab.Is w (c.1) (x.1) ∧ Sam.Is w (c.2) (x.2)
theorem Elem.below {w w' : World} {c : C} {x : E} (h : Elem w c x) (hb : Below w.heap.size w w') : Elem w' c x := ⟨(h.1).below hb, (h.2).below hb⟩
def far (B : Nat) (c : C) : Prop := (∀ k, (c.1).ownBlock = some k → B ≤ k) ∧ (∀ k, (c.2).ownBlock = some k → B ≤ k)
theorem far.mono {A B : Nat} {c : C} (hf : far B c) (h : A ≤ B) : far A c := ⟨fun k hk => Nat.le_trans h (hf.1 k hk), fun k hk => Nat.le_trans h (hf.2 k hk)⟩
theorem Elem.only {g : Nat} {w w' : World} {c : C} {x : E} (h : Elem w c x) (ho : OnlyAt g w w') (hf : far (g + 1) c) : Elem w' c x := ⟨ho.lies (h.1) (fun k hk => by have := hf.1 k hk; omega), ho.lies (h.2) (fun k hk => by have := hf.2 k hk; omega)⟩
def Is (w : World) (v : Value) (zs : List E) : Prop := ∃ cs : List C, cs.length = zs.length ∧ Lies w v zs.length 2 (flatOf cl cs) ∧ ∀ i, i < zs.length → Elem w (cat cs i) (at' zs i)
theorem Is.below {w w' : World} {v : Value} {zs : List E} (h : Is w v zs) (hb : Below w.heap.size w w') : Is w' v zs := by
  obtain ⟨cs, h1, h2, h3⟩ := h
  exact ⟨cs, h1, h2.below hb, fun i hi => (h3 i hi).below hb⟩
/-- the same, all of it in blocks from B on -/
def IsF (B : Nat) (w : World) (v : Value) (zs : List E) : Prop := ∃ cs : List C, cs.length = zs.length ∧ Lies w v zs.length 2 (flatOf cl cs) ∧ (∀ k, v.ownBlock = some k → B ≤ k) ∧ ∀ i, i < zs.length → Elem w (cat cs i) (at' zs i) ∧ far B (cat cs i)
theorem IsF.is {B : Nat} {w : World} {v : Value} {zs : List E} (h : IsF B w v zs) : Is w v zs := by
  obtain ⟨cs, h1, h2, h3, h4⟩ := h
  exact ⟨cs, h1, h2, fun i hi => (h4 i hi).1⟩
theorem IsF.below {B : Nat} {w w' : World} {v : Value} {zs : List E} (h : IsF B w v zs) (hb : Below w.heap.size w w') : IsF B w' v zs := by
  obtain ⟨cs, h1, h2, h3, h4⟩ := h
  exact ⟨cs, h1, h2.below hb, h3, fun i hi => ⟨(h4 i hi).1.below hb, (h4 i hi).2⟩⟩
theorem IsF.only {B g : Nat} {w w' : World} {v : Value} {zs : List E} (h : IsF B w v zs) (ho : OnlyAt g w w') (hg : g < B) : IsF B w' v zs := by
  obtain ⟨cs, h1, h2, h3, h4⟩ := h
  exact ⟨cs, h1, ho.lies h2 (fun k hk => by have := h3 k hk; omega), h3, fun i hi => ⟨(h4 i hi).1.only ho ((h4 i hi).2.mono hg), (h4 i hi).2⟩⟩
theorem IsF.mono {A B : Nat} {w : World} {v : Value} {zs : List E} (h : IsF B w v zs) (hA : A ≤ B) : IsF A w v zs := by
  obtain ⟨cs, h1, h2, h3, h4⟩ := h
  exact ⟨cs, h1, h2, fun k hk => Nat.le_trans hA (h3 k hk), fun i hi => ⟨(h4 i hi).1, (h4 i hi).2.mono hA⟩⟩
theorem flat_at (cs : List C) (i : Nat) (h : i < cs.length) : (flatOf cl cs)[i * 2]? = some ((cat cs i).1) ∧ (flatOf cl cs)[i * 2 + 1]? = some ((cat cs i).2) := by
  rw [cat_get cs i h]
  exact ⟨flatOf_get clk cs i 0 h (by omega), flatOf_get clk cs i 1 h (by omega)⟩
def good (x : E) : Prop := ((x.1).length ≤ maxLen ∧ ∀ y ∈ x.1, Lab.good y) ∧ ((x.2).length ≤ maxLen ∧ ∀ y ∈ x.2, Sam.good y)
set_option maxRecDepth 100000 in
theorem open_arg {H : Type} {enc : TypeId × Value → H} {W : World} {a : Option Addr} {len cap : Nat} {d : DataW H} {p : List MemPlace}
    (h : DataW.Trod enc Try.prog W 0 (fun _ => true) true 22 (.slice a len cap) d p) : ∃ zs : List E, zs.length = len ∧ len ≤ maxLen ∧ Is W (.slice a len cap) zs ∧ ∀ x ∈ zs, good x := by
  have ck : Try.prog.cellsOf 59 = 2 := by kernel_rfl
  obtain ⟨cs, h1, h2, h3, h4⟩ := open_flat (e := 59) (good := fun c => ∃ x : E, Elem W c x ∧ good x) clk Try.underlying22 ck (by
    intro n cs y hl ht
    obtain ⟨xs, m, -, -, -, hxl, hf⟩ := DataW.trod_struct Try.underlying59 ht
    match cs, hl, xs, hxl with
    | [c0, c1], _, [y0, y1], _ =>
      have g0 := hf 0 _ rfl
      have g1 := hf 1 _ rfl
      have ce0 : Try.prog.cellsOf 39 = 1 := by kernel_rfl
      have ce1 : Try.prog.cellsOf 57 = 1 := by kernel_rfl
      simp [ce0, ce1] at g0 g1
      obtain ⟨a0, l0, k0, e0, t0⟩ := slice_cell Try.underlying39 g0
      obtain ⟨s0, n0, m0, i0, w0⟩ := Lab.open_arg t0
      rw [← n0] at i0
      obtain ⟨a1, l1, k1, e1, t1⟩ := slice_cell Try.underlying57 g1
      obtain ⟨s1, n1, m1, i1, w1⟩ := Sam.open_arg t1
      rw [← n1] at i1
      subst e0 e1
      subst n0
      subst n1
      exact ⟨(.slice a0 s0.length k0, .slice a1 s1.length k1), rfl, (s0, s1), ⟨i0, i1⟩, ⟨⟨m0, w0⟩, ⟨m1, w1⟩⟩⟩) (by omega) h
  obtain ⟨zs, hz, hP⟩ := choose_list cs h4
  refine ⟨zs, by omega, h2, ⟨cs, hz.symm, by rw [hz, h1]; exact h3, fun i hi => (hP i (by omega)).1⟩, fun x hx => ?_⟩
  obtain ⟨i, hi, rfl⟩ := List.getElem_of_mem hx
  have := (hP i (by omega)).2
  rwa [show zs.getD i default = zs[i] from at_get zs i hi] at this
theorem info_e : (Try.prog.info? 67).map (fun i => (i.zero, i.size, i.bytes)) = some (some (.agg #[.slice none 0 0, .slice none 0 0]), 2, 48) := by kernel_rfl
def tiny (x : E) : Prop := (x.1).length ≤ 4194304 ∧ (x.2).length ≤ 4194304
end Go.Proofs.Ytomncodkbcngmaa.Row
