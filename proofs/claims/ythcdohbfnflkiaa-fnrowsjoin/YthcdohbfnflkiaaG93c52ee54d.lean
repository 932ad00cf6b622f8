/- My own texts of one claim, laid together by program: SMap, SampLaw, SampMark. -/
import Derived.Test.YthcdohbfnflkiaaGe5588b9b89
import Derived.Maps.OwnSet
import Derived.Test.YthcdohbfnflkiaaGa7ba4cdec9
/- A map from texts to rows that the call made itself: what it holds at each key, what a look-up finds, what a store turns. No condition. -/
namespace Go.Proofs.Ythcdohbfnflkiaa.SMap
open Go.RowKit Rw Go.Maps
/-- an element reads as itself -/
def rdV (v : Value) : Option (DataW Value × List MemPlace) := some (.held v, [])
def slit (s : ByteArray) : Lit := .string s.data.toList
theorem slit_inj {a b : ByteArray} (h : slit a = slit b) : a = b := by
  unfold slit at h
  exact Go.WideShapes.bytes_inj (Lit.string.inj h)
theorem slit_key (s : ByteArray) : WideAt.IsKeyLit (slit s) := by unfold slit; trivial
/-- block b is a map of at most n entries, that holds M -/
def MapIs (w : World) (b n : Nat) (M : ByteArray → Option Value) : Prop := ∃ D : DataW Value, w.ownsMap Try.prog 9 rdV b n D ∧ ∀ s, Maps.has D (slit s) = (M s).isSome ∧ ∀ v, M s = some v → ∀ z, D.atKey (slit s) z = .held v
theorem keyed : Keyed Try.prog 9 := string_keyed Try.underlying9
theorem made (w : World) : MapIs (w.alloc (.map #[] 0)) w.heap.size 0 (fun _ => none) := ⟨.map [], World.ownsMap_made w _ _ _, fun s => ⟨rfl, fun v h => by cases h⟩⟩
theorem MapIs.lt {w : World} {b n : Nat} {M : ByteArray → Option Value} (h : MapIs w b n M) : b < w.heap.size := by obtain ⟨D, h1, -⟩ := h; exact h1.lt
theorem MapIs.block {w w' : World} {b n : Nat} {M : ByteArray → Option Value} (h : MapIs w b n M) (hb : w'.heap[b]? = w.heap[b]?) : MapIs w' b n M := by
  obtain ⟨D, ⟨es, clock, h1, h2⟩, h3⟩ := h
  exact ⟨D, ⟨es, clock, by rw [hb]; exact h1, h2⟩, h3⟩
theorem MapIs.below {w w' : World} {b n : Nat} {M : ByteArray → Option Value} (h : MapIs w b n M) (hb : Below w.heap.size w w') : MapIs w' b n M := h.block (hb.block b h.lt)
theorem zeroRow (w : World) : (zeroValue 42).run Try.prog w = .ok (.agg #[.slice none 0 0, .slice none 0 0]) w := by kernel_rfl
/-- 'row, there := m[key]' -/
theorem MapIs.look_ok {w : World} {b n : Nat} {M : ByteArray → Option Value} (h : MapIs w b n M) {s : ByteArray} (hs : s.size ≤ maxLen) :
    (Instr.lookup 67 (.map (some b)) (.string s) true).run Try.prog w = .ok (.tuple #[(M s).getD (.agg #[.slice none 0 0, .slice none 0 0]), .bool (M s).isSome]) w := by
  obtain ⟨D, h1, h2⟩ := h
  obtain ⟨v, ps, hr, hv⟩ := h1.look_ok keyed Try.underlying67 (zeroRow w) (show rdV _ = some (.held _, []) from rfl) (Go.WideMaps.keyOf_string_mk Try.underlying9 hs)
  rw [hr]
  have hg := h2 s
  have e1 : Maps.has D (Lit.string s.data.toList) = (M s).isSome := hg.1
  rw [e1]
  have e2 : DataW.held v = D.atKey (slit s) (.held (.agg #[.slice none 0 0, .slice none 0 0])) := by simpa [rdV, slit] using congrArg (fun x => x.map Prod.fst) hv
  cases hM : M s with
  | none =>
    have h0 : Maps.has D (slit s) = false := by rw [hg.1, hM]; rfl
    rw [atKey_of_not_has h0] at e2
    rw [DataW.held.inj e2]; rfl
  | some u =>
    rw [hg.2 u hM] at e2
    rw [DataW.held.inj e2]; rfl
/-- 'm[key]' -/
theorem MapIs.look {w : World} {b n : Nat} {M : ByteArray → Option Value} (h : MapIs w b n M) {s : ByteArray} (hs : s.size ≤ maxLen) :
    (Instr.lookup 67 (.map (some b)) (.string s) false).run Try.prog w = .ok ((M s).getD (.agg #[.slice none 0 0, .slice none 0 0])) w := by
  obtain ⟨D, h1, h2⟩ := h
  obtain ⟨v, ps, hr, hv⟩ := h1.lookup keyed Try.underlying67 (zeroRow w) (show rdV _ = some (.held _, []) from rfl) (Go.WideMaps.keyOf_string_mk Try.underlying9 hs)
  rw [hr]
  have hg := h2 s
  have e2 : DataW.held v = D.atKey (slit s) (.held (.agg #[.slice none 0 0, .slice none 0 0])) := by simpa [rdV, slit] using congrArg (fun x => x.map Prod.fst) hv
  cases hM : M s with
  | none =>
    have h0 : Maps.has D (slit s) = false := by rw [hg.1, hM]; rfl
    rw [atKey_of_not_has h0] at e2
    rw [DataW.held.inj e2]; rfl
  | some u =>
    rw [hg.2 u hM] at e2
    rw [DataW.held.inj e2]; rfl
/-- 'm[key] = row' -/
theorem MapIs.store {w : World} {b n : Nat} {M : ByteArray → Option Value} (h : MapIs w b n M) {s : ByteArray} (hs : s.size ≤ maxLen) (hn : n < maxLen) (u : Value) :
    ∃ w', (Instr.mapUpdate 67 (.map (some b)) (.string s) u).run Try.prog w = .ok () w' ∧ MapIs w' b (n + 1) (fun t => if t = s then some u else M t) ∧ OnlyAt b w w' := by
  obtain ⟨D, h1, h2⟩ := h
  obtain ⟨w', hr, h3, h4⟩ := h1.store keyed Try.underlying67 hn (Go.WideMaps.keyOf_string_mk Try.underlying9 hs) (show rdV u = some (.held u, []) from rfl)
  have hsz : w'.heap.size = w.heap.size := by
    obtain ⟨es, clock, es', clock', -, rfl⟩ := h4
    simp [Go.ChangeMaps.setBlock]
  have hgr := h4.grown
  refine ⟨w', hr, ⟨_, h3, fun t => ?_⟩, ⟨hgr.os, hgr.tape, hgr.output, hsz, fun k hk => ?_⟩⟩
  · by_cases e : t = s
    · subst e
      refine ⟨by simp only [if_true]; exact has_put_same h1.isMap (slit_key t) _, fun v hv z => ?_⟩
      simp only [if_true] at hv
      cases hv
      exact atKey_put_same h1.isMap (slit_key t) _ z
    · have hne : slit t ≠ slit s := fun h => e (slit_inj h)
      refine ⟨by simp only [if_neg e]; exact (has_put_other hne _).trans (h2 t).1, fun v hv z => ?_⟩
      simp only [if_neg e] at hv
      exact (atKey_put_other hne _ z).trans ((h2 t).2 v hv z)
  · rcases Nat.lt_or_ge k w.heap.size with hl | hl
    · exact hgr.block k hl (fun e => hk (Option.some.inj e))
    · rw [Array.getElem?_eq_none hl, Array.getElem?_eq_none (by rw [hsz]; exact hl)]
end Go.Proofs.Ythcdohbfnflkiaa.SMap

/- What the laws' own helpers do with slices of samples: they are copied, held against each other, marked and looked at again. -/
namespace Go.Proofs.Ythcdohbfnflkiaa.Samp
open Go.RowKit SampMath Rw
set_option linter.unusedVariables false
attribute [local go_sem ↓] Go.wp_at_zero Go.wp_at_succ
end Go.Proofs.Ythcdohbfnflkiaa.Samp

/- Marking samples of the call's own, and looking whether the marks are still there. -/
namespace Go.Proofs.Ythcdohbfnflkiaa.Samp
open Go.RowKit SampMath Rw
set_option linter.unusedVariables false
attribute [local go_sem ↓] Go.wp_at_zero Go.wp_at_succ
def marks (k0 : Int) (n : Nat) : List S := (List.range n).map fun i : Nat => (k0 + 2 * (i : Int), k0 + 2 * (i : Int) + 1)
theorem marks_length (k0 : Int) (n : Nat) : (marks k0 n).length = n := by simp [marks]
theorem marks_succ (k0 : Int) (n : Nat) : marks k0 (n + 1) = marks k0 n ++ [(k0 + 2 * (n : Int), k0 + 2 * (n : Int) + 1)] := by simp [marks, List.range_succ]
theorem marks_at (k0 : Int) (n i : Nat) (h : i < n) : at' (marks k0 n) i = (k0 + 2 * (i : Int), k0 + 2 * (i : Int) + 1) := by simp [marks, at', List.getD, h]
theorem smp_only {g : Nat} {a b : World} (h : OnlyAt g a b) {v : Value} {zs : List S} (hs : Smp a v zs) (hv : ∀ k, v.ownBlock = some k → k ≠ g) : Smp b v zs := by
  rcases hs with hs | ⟨c, off, cap, h1, h2, h3, h4, h5⟩
  · exact .inl hs
  · have hc : c ≠ g := hv c (by rw [h1]; rfl)
    have hcell : ∀ o, b.cell? ⟨c, o, none⟩ = a.cell? ⟨c, o, none⟩ := fun o => World.cell?_of_block (a := ⟨c, o, none⟩) (h.block c hc)
    exact .inr ⟨c, off, cap, h1, h2, h3, by rw [h.size]; exact h4, fun i hi => ⟨(hcell _).trans (h5 i hi).1, (hcell _).trans (h5 i hi).2⟩⟩
theorem own_marks {base : Nat} {v : Value} {n : Nat} {k0 : Int} {w : World} (h : w.ownsRow base 26 2 v n (flat (marks k0 n))) : Smp w v (marks k0 n) := by
  exact smp_of_own (by rw [marks_length]; exact h)
end Go.Proofs.Ythcdohbfnflkiaa.Samp
