/- My own texts of one claim, laid together by program: RowKey, SMap, SampFlat, SampLaw. -/
import Derived.Test.YtlboekimnhgfdaaGreatGe6c639e8f1
import Derived.Test.YtlboekimnhgfdaaGreatGf0e2395e35
import Derived.Test.YtlboekimnhgfdaaGreatG54bfd16f94
import Derived.Test.YtlboekimnhgfdaaGreatG2376b3578a
import Derived.Maps.OwnSet
import Derived.Test.YtlboekimnhgfdaaGreatG0fdbb44230
/- A copy of labels, and the key of a row: the program's labelsCopy and rowKey. -/
namespace Go.Proofs.YtlboekimnhgfdaaGreat.Lab
open Go.RowKit Rw PutMath
set_option linter.unusedVariables false
attribute [local go_sem ↓] Go.wp_at_zero Go.wp_at_succ
set_option maxRecDepth 100000 in
set_option maxHeartbeats 4000000 in
theorem copy_any {w : World} {v : Value} {zs : List E} (h : Is w v zs) (hsm : small zs) : Calls Tryz.prog 121 #[v] w fun e w' => ∃ r, e = .returned r ∧ w'.ownsRow w.heap.size 64 2 r zs.length (flat zs) ∧ Below w.heap.size w w' := by
  obtain ⟨i0, hi, hz0, hz1, hz2⟩ := info_parts info_e
  have hlen := hsm.1
  have hg := hsm.2
  obtain ⟨-, a, cap, rfl, hc, hm, -, hr⟩ := h
  unfold maxLen at hm
  obtain ⟨n, hn⟩ : ∃ n, n = zs.length := ⟨_, rfl⟩
  rw [← hn] at hc hr hlen ⊢
  have HN := hide hn
  have HG := hide hg
  clear hn hg
  go_enter Tryz.func121, Tryz.ntmps121
  go_wp2_with fail
  go_loopw [3, 8] (fun pv i wr => ∃ (k : Nat) (pa : Option Addr) (pc : Nat), k ≤ n ∧ i = .int .i64 k ∧ pv = .slice pa k pc ∧ wr.ownsRow w.heap.size 64 2 pv k (flat (zs.take k)) ∧ Below w.heap.size w wr) (fun _ i _ => n - (intOf i).toNat)
  case atStart => exact ⟨0, none, 0, Nat.zero_le _, rfl, rfl, World.ownsRow_nil _ _ _ _, Below.refl _ _⟩
  case round =>
    obtain ⟨k, pa, pc, hk, rfl, rfl, hown, hbel⟩ := hrel
    have hsz := hbel.size
    have hk0 : (0 : Int) ≤ (k : Int) := Int.natCast_nonneg _
    by_cases hlt : k < n
    · obtain ⟨b, off, rfl, hl, hcells⟩ := hr (by omega)
      have fa := flat_at zs k (by have := unhide HN; omega)
      have gd := unhide HG (at' zs k) (by rw [at_get zs k (by have := unhide HN; omega)]; exact List.getElem_mem _)
      have HPS := hide (show flat (zs.take (k + 1)) = flat (zs.take k) ++ fl (at' zs k) by rw [at_snoc zs k (by have := unhide HN; omega)]; unfold flat; rw [flatOf_append, flatOf_one])
      obtain ⟨A, B, hX⟩ : ∃ A B, (A, B) = at' zs k := ⟨_, _, rfl⟩
      rw [← hX] at fa gd HPS
      simp only at gd
      simp only [fl] at HPS
      have hc0 : wr.cell? ⟨b, off + k * 2, none⟩ = some (.string A) := (hbel.cell (p := ⟨b, _, none⟩) hl).trans (hcells (k * 2) _ fa.1)
      have hc1 : wr.cell? ⟨b, off + k * 2 + 1, none⟩ = some (.string B) := (hbel.cell (p := ⟨b, _, none⟩) hl).trans (hcells (k * 2 + 1) _ fa.2)
      have HA := hide (fun W => Str.clone_any A W (by omega))
      have HB := hide (fun W => Str.clone_any B W (by omega))
      clear hX fa gd
      have hk1 : (k : Int) < (n : Int) := by omega
      have hmx : 1 ≤ maxLen := by unfold maxLen; omega
      obtain ⟨W, hW⟩ : ∃ W, W = wr.alloc (.cells #[.string A, .string B] 64) := ⟨_, rfl⟩
      have bW : Below wr.heap.size wr W := by rw [hW]; exact (Below.refl _ _).alloc (Nat.le_refl _) _
      have zW : wr.heap.size < W.heap.size := by rw [hW]; simp
      have S6 : (fun w' : World => w'.cell? ⟨wr.heap.size, 0, none⟩ = some (.string A) ∧ w'.cell? ⟨wr.heap.size, 1, none⟩ = some (.string B)) W.drew := by rw [hW]; exact ⟨by simp, by simp⟩
      have oW : W.drew.ownsRow w.heap.size 64 2 (.slice pa k pc) k (flat (zs.take k)) := World.ownsRow.drew (own_below hown bW)
      have hbW : Below w.heap.size w W.drew := (hbel.trans (bW.mono hsz)).drew
      have hob := fun e => Nat.lt_irrefl _ (own_block_lt hown wr.heap.size (Eq.symm e))
      clear bW
      go_wp2_with fail
      rw [← hW]
      clear hW
      go_region_held3 (fun w' => w'.cell? ⟨wr.heap.size, 0, none⟩ = some (.string A) ∧ w'.cell? ⟨wr.heap.size, 1, none⟩ = some (.string B)) (first | exact S6 | exact S7 | exact S8 | exact S9 _ | exact S10) ((first | (go_at_call_of 148 A; refine (unhide HA _).mono ?_; rintro e w7 ⟨rfl, b7⟩; have z7 := b7.size; simp only [World.size_drew] at z7; have S7 : (fun w' : World => w'.cell? ⟨wr.heap.size, 0, none⟩ = some (.string A) ∧ w'.cell? ⟨wr.heap.size, 1, none⟩ = some (.string B)) w7 := ⟨(b7.cell (p := ⟨_, _, none⟩) (by first | (simp; done) | (simp; omega) | omega)).trans S6.1, (b7.cell (p := ⟨_, _, none⟩) (by first | (simp; done) | (simp; omega) | omega)).trans S6.2⟩) | (go_at_call_of 148 B; refine (unhide HB _).mono ?_; rintro e w8 ⟨rfl, b8⟩; have z8 := b8.size; have S8 : (fun w' : World => w'.cell? ⟨wr.heap.size, 0, none⟩ = some (.string A) ∧ w'.cell? ⟨wr.heap.size, 1, none⟩ = some (.string B)) w8 := ⟨(b8.cell (p := ⟨_, _, none⟩) (by first | (simp; done) | (simp; omega) | omega)).trans S7.1, (b8.cell (p := ⟨_, _, none⟩) (by first | (simp; done) | (simp; omega) | omega)).trans S7.2⟩; have S9 : ∀ o, (fun w' : World => w'.cell? ⟨wr.heap.size, 0, none⟩ = some (.string A) ∧ w'.cell? ⟨wr.heap.size, 1, none⟩ = some (.string B)) (w8.alloc o) := fun o => ⟨(((Below.refl _ _).alloc (Nat.le_refl _) _).cell (p := ⟨_, _, none⟩) (by first | (simp; done) | (simp; omega) | omega)).trans S8.1, (((Below.refl _ _).alloc (Nat.le_refl _) _).cell (p := ⟨_, _, none⟩) (by first | (simp; done) | (simp; omega) | omega)).trans S8.2⟩) | (refine app_step _ (by rfl) _ _ _ (by rfl) w.heap.size 64 i0 _ 2 32 Tryz.underlying60 hi hz0 hz1 hz2 rfl (by omega) _ k _ (by rfl) (World.ownsRow.alloc (own_below (own_below oW b7) b8) _) _ 1 [.string A, .string B] (by rfl) (lies_new (w := w8) (by simp) rfl hmx) (by simp [Value.oneCell']) (by unfold maxLen; omega) (by omega) (by simp <;> omega) ?_; intro vn wn on gn an; have S10 : (fun w' : World => w'.cell? ⟨wr.heap.size, 0, none⟩ = some (.string A) ∧ w'.cell? ⟨wr.heap.size, 1, none⟩ = some (.string B)) wn := ⟨by rw [gn.cell_far _ (by simp <;> omega) hob]; exact (S9 _).1, by rw [gn.cell_far _ (by simp <;> omega) hob]; exact (S9 _).2⟩)))
      have hb8 : Below w.heap.size w w8 := (hbW.trans (b7.mono hbW.size)).trans (b8.mono (by omega))
      have R9 : Below w.heap.size w wn := below_grown (hb8.alloc (by omega) _) (by simp <;> omega) gn (own_ge hown)
      have R2 := hide (show wn.ownsRow w.heap.size 64 2 vn (k + 1) (flat (zs.take (k + 1))) by rw [unhide HPS]; exact on)
      obtain ⟨an', cn, hvn⟩ : ∃ a c, vn = .slice a (k + 1) c := by obtain ⟨-, a, c, e, -⟩ := lies_of_own on; exact ⟨a, c, e⟩
      have HV := hide hvn
      clear on gn an hown hvn hob S6 S7 S8 S9 S10 oW hbW b7 b8 hb8
      go_wp2_with fail
      go_roundw
      case rel => exact ⟨k + 1, an', cn, by omega, by go_num, unhide HV, unhide R2, R9⟩
      case measure => simp [intOf]; omega
    · obtain rfl : k = n := by omega
      rw [List.take_of_length_le (by have := unhide HN; omega)] at hown
      go_wp2
      go_ret
      exact ⟨_, rfl, hown, hbel⟩
/-- the key of a row -/
def keyOf (zs : List E) : ByteArray := ⟨(keyL zs).toArray⟩
theorem trim_key {zs : List E} (h : ok zs = true) : (⟨(Lib.trimSuffix (put zs).data.toList [125]).toArray⟩ : ByteArray) = keyOf zs := by
  have e : (put zs).data.toList = keyL zs ++ [125] := by
    unfold put
    rw [if_pos h]
    unfold wrap keyL
    rw [of_toList]
    unfold parts
    rw [show List.map partOf zs = zs.map (fun x => x.1 ++ ⟨#[61]⟩ ++ x.2) from rfl, join_body]
  unfold keyOf
  rw [e]
  congr 2
  simp [Lib.trimSuffix, Lib.hasSuffix]
theorem rowKey_any {w : World} {v : Value} {zs : List E} (h : Is w v zs) (hg : ∀ x ∈ zs, good x) (ho : ok zs = true) : Calls Tryz.prog 133 #[v] w fun e w' => e = .returned (.string (keyOf zs)) ∧ Below w.heap.size w w' := by
  have H1 := hide (impl_put h hg)
  have hs : (put zs).size ≤ 2002002 := by
    unfold put
    rw [if_pos ho]
    unfold wrap
    rw [size_of]
    have := join_small (ok_small ho) zs.length
    rw [List.take_of_length_le (Nat.le_refl _)] at this
    simp only [List.length_append, List.length_cons, List.length_nil]
    omega
  have H2 := hide (fun W => Tryz.strings_TrimSuffix (put zs) ⟨#[125]⟩ W (by omega))
  rw [show (⟨#[125]⟩ : ByteArray).data.toList = [125] from rfl, trim_key ho] at H2
  clear h hg ho
  generalize put zs = P at H1 H2
  generalize keyOf zs = K at H2 ⊢
  go_enter Tryz.func133, Tryz.ntmps133
  go_wp2_with fail
  refine (unhide H1).mono ?_
  rintro e w1 ⟨rfl, b1⟩
  go_wp2_with fail
  refine (unhide H2 _).mono ?_
  rintro e w2 ⟨rfl, rfl⟩
  go_wp2_with fail
  go_ret
  exact ⟨rfl, b1⟩
end Go.Proofs.YtlboekimnhgfdaaGreat.Lab

/- A map from texts to rows that the call made itself: what it holds at each key, what a look-up finds, what a store turns. No condition. -/
namespace Go.Proofs.YtlboekimnhgfdaaGreat.SMap
open Go.RowKit Rw Go.Maps
/-- an element reads as itself -/
def rdV (v : Value) : Option (DataW Value × List MemPlace) := some (.held v, [])
def slit (s : ByteArray) : Lit := .string s.data.toList
theorem slit_inj {a b : ByteArray} (h : slit a = slit b) : a = b := by
  unfold slit at h
  exact Go.WideShapes.bytes_inj (Lit.string.inj h)
theorem slit_key (s : ByteArray) : WideAt.IsKeyLit (slit s) := by unfold slit; trivial
/-- block b is a map of at most n entries, that holds M -/
def MapIs (w : World) (b n : Nat) (M : ByteArray → Option Value) : Prop := ∃ D : DataW Value, w.ownsMap Tryz.prog 9 rdV b n D ∧ ∀ s, Maps.has D (slit s) = (M s).isSome ∧ ∀ v, M s = some v → ∀ z, D.atKey (slit s) z = .held v
theorem keyed : Keyed Tryz.prog 9 := string_keyed Tryz.underlying9
theorem made (w : World) : MapIs (w.alloc (.map #[] 0)) w.heap.size 0 (fun _ => none) := ⟨.map [], World.ownsMap_made w _ _ _, fun s => ⟨rfl, fun v h => by cases h⟩⟩
theorem MapIs.lt {w : World} {b n : Nat} {M : ByteArray → Option Value} (h : MapIs w b n M) : b < w.heap.size := by obtain ⟨D, h1, -⟩ := h; exact h1.lt
theorem MapIs.block {w w' : World} {b n : Nat} {M : ByteArray → Option Value} (h : MapIs w b n M) (hb : w'.heap[b]? = w.heap[b]?) : MapIs w' b n M := by
  obtain ⟨D, ⟨es, clock, h1, h2⟩, h3⟩ := h
  exact ⟨D, ⟨es, clock, by rw [hb]; exact h1, h2⟩, h3⟩
theorem MapIs.below {w w' : World} {b n : Nat} {M : ByteArray → Option Value} (h : MapIs w b n M) (hb : Below w.heap.size w w') : MapIs w' b n M := h.block (hb.block b h.lt)
theorem zeroRow (w : World) : (zeroValue 93).run Tryz.prog w = .ok (.agg #[.slice none 0 0, .slice none 0 0]) w := by kernel_rfl
/-- 'row, there := m[key]' -/
theorem MapIs.look_ok {w : World} {b n : Nat} {M : ByteArray → Option Value} (h : MapIs w b n M) {s : ByteArray} (hs : s.size ≤ maxLen) :
    (Instr.lookup 97 (.map (some b)) (.string s) true).run Tryz.prog w = .ok (.tuple #[(M s).getD (.agg #[.slice none 0 0, .slice none 0 0]), .bool (M s).isSome]) w := by
  obtain ⟨D, h1, h2⟩ := h
  obtain ⟨v, ps, hr, hv⟩ := h1.look_ok keyed Tryz.underlying97 (zeroRow w) (show rdV _ = some (.held _, []) from rfl) (Go.WideMaps.keyOf_string_mk Tryz.underlying9 hs)
  rw [hr]
  have hg := h2 s
  have e1 : Maps.has D (Lit.string s.data.toList) = (M s).isSome := hg.1
  rw [e1]
  have e2 : DataW.held v = D.atKey (slit s) (.held (.agg #[.slice none 0 0, .slice none 0 0])) := by simpa [rdV, slit] using congrArg (fun x => x.map Prod.fst) hv
  cases hM : M s with
  | none =>
    have h0 : Maps.has D (slit s) = false := by rw [hg.1, hM]; rfl
    rw [atKey_of_not_has h0] at e2
    rw [DataW.held.inj e2]; rfl
  | some u =>
    rw [hg.2 u hM] at e2
    rw [DataW.held.inj e2]; rfl
/-- 'm[key]' -/
theorem MapIs.look {w : World} {b n : Nat} {M : ByteArray → Option Value} (h : MapIs w b n M) {s : ByteArray} (hs : s.size ≤ maxLen) :
    (Instr.lookup 97 (.map (some b)) (.string s) false).run Tryz.prog w = .ok ((M s).getD (.agg #[.slice none 0 0, .slice none 0 0])) w := by
  obtain ⟨D, h1, h2⟩ := h
  obtain ⟨v, ps, hr, hv⟩ := h1.lookup keyed Tryz.underlying97 (zeroRow w) (show rdV _ = some (.held _, []) from rfl) (Go.WideMaps.keyOf_string_mk Tryz.underlying9 hs)
  rw [hr]
  have hg := h2 s
  have e2 : DataW.held v = D.atKey (slit s) (.held (.agg #[.slice none 0 0, .slice none 0 0])) := by simpa [rdV, slit] using congrArg (fun x => x.map Prod.fst) hv
  cases hM : M s with
  | none =>
    have h0 : Maps.has D (slit s) = false := by rw [hg.1, hM]; rfl
    rw [atKey_of_not_has h0] at e2
    rw [DataW.held.inj e2]; rfl
  | some u =>
    rw [hg.2 u hM] at e2
    rw [DataW.held.inj e2]; rfl
/-- 'm[key] = row' -/
theorem MapIs.store {w : World} {b n : Nat} {M : ByteArray → Option Value} (h : MapIs w b n M) {s : ByteArray} (hs : s.size ≤ maxLen) (hn : n < maxLen) (u : Value) :
    ∃ w', (Instr.mapUpdate 97 (.map (some b)) (.string s) u).run Tryz.prog w = .ok () w' ∧ MapIs w' b (n + 1) (fun t => if t = s then some u else M t) ∧ OnlyAt b w w' := by
  obtain ⟨D, h1, h2⟩ := h
  obtain ⟨w', hr, h3, h4⟩ := h1.store keyed Tryz.underlying97 hn (Go.WideMaps.keyOf_string_mk Tryz.underlying9 hs) (show rdV u = some (.held u, []) from rfl)
  have hsz : w'.heap.size = w.heap.size := by
    obtain ⟨es, clock, es', clock', -, rfl⟩ := h4
    simp [Go.ChangeMaps.setBlock]
  have hgr := h4.grown
  refine ⟨w', hr, ⟨_, h3, fun t => ?_⟩, ⟨hgr.os, hgr.tape, hgr.output, hsz, fun k hk => ?_⟩⟩
  · by_cases e : t = s
    · subst e
      refine ⟨by simp only [if_true]; exact has_put_same h1.isMap (slit_key t) _, fun v hv z => ?_⟩
      simp only [if_true] at hv
      cases hv
      exact atKey_put_same h1.isMap (slit_key t) _ z
    · have hne : slit t ≠ slit s := fun h => e (slit_inj h)
      refine ⟨by simp only [if_neg e]; exact (has_put_other hne _).trans (h2 t).1, fun v hv z => ?_⟩
      simp only [if_neg e] at hv
      exact (atKey_put_other hne _ z).trans ((h2 t).2 v hv z)
  · rcases Nat.lt_or_ge k w.heap.size with hl | hl
    · exact hgr.block k hl (fun e => hk (Option.some.inj e))
    · rw [Array.getElem?_eq_none hl, Array.getElem?_eq_none (by rw [hsz]; exact hl)]
end Go.Proofs.YtlboekimnhgfdaaGreat.SMap

/- Samples as cells, one behind the other. No condition. -/
namespace Go.Proofs.YtlboekimnhgfdaaGreat.Samp
open Go.RowKit SampMath Rw
set_option linter.unusedVariables false
/-- the cells of samples, one behind the other -/
def flat (zs : List S) : List Value := zs.flatMap fun x => [.int .i64 x.1, .int .i64 x.2]
theorem flat_nil : flat [] = [] := rfl
theorem flat_append (a b : List S) : flat (a ++ b) = flat a ++ flat b := by simp [flat]
theorem flat_one (x : S) : flat [x] = [.int .i64 x.1, .int .i64 x.2] := rfl
theorem flat_length (zs : List S) : (flat zs).length = zs.length * 2 := by
  induction zs with
  | nil => rfl
  | cons x zs ih => show (Value.int .i64 x.1 :: Value.int .i64 x.2 :: flat zs).length = _; simp only [List.length_cons, ih]; omega
theorem flat_get : ∀ (zs : List S) (i : Nat), i < zs.length → (flat zs)[i * 2]? = some (.int .i64 (at' zs i).1) ∧ (flat zs)[i * 2 + 1]? = some (.int .i64 (at' zs i).2)
  | x :: zs, 0, _ => ⟨rfl, rfl⟩
  | x :: zs, i + 1, h => by
    have := flat_get zs i (by simpa using h)
    have e1 : (i + 1) * 2 = i * 2 + 1 + 1 := by omega
    show (Value.int .i64 x.1 :: Value.int .i64 x.2 :: flat zs)[(i + 1) * 2]? = _ ∧ (Value.int .i64 x.1 :: Value.int .i64 x.2 :: flat zs)[(i + 1) * 2 + 1]? = _
    rw [e1]
    simpa [at', List.getD] using this
theorem flat_oneCell (zs : List S) : ∀ u ∈ flat zs, u.oneCell' = true := by
  intro u hu
  obtain ⟨x, _, hx⟩ := List.mem_flatMap.1 hu
  simp only [List.mem_cons, List.not_mem_nil, or_false] at hx
  rcases hx with rfl | rfl <;> rfl
/-- a row of the call's own that holds samples -/
theorem smp_of_own {w : World} {base : Nat} {v : Value} {zs : List S} (h : w.ownsRow base 106 2 v zs.length (flat zs)) : Smp w v zs := by
  rcases h.2 with ⟨h1, h2⟩ | ⟨g, cap, cur, rfl, hb, hg, h3, h4, h5, h6⟩
  · exact .inl ⟨h1, List.eq_nil_of_length_eq_zero h2⟩
  · have hlt : g < w.heap.size := by
      rcases Nat.lt_or_ge g w.heap.size with hl | hl
      · exact hl
      · rw [Array.getElem?_eq_none hl] at hg; cases hg
    refine .inr ⟨g, 0, cap, rfl, h3, h4, hlt, fun i hi => ?_⟩
    have c0 := h.cellAt (i * 2) (by omega)
    have c1 := h.cellAt (i * 2 + 1) (by omega)
    rw [(flat_get zs i hi).1] at c0
    rw [(flat_get zs i hi).2] at c1
    exact ⟨by rw [Nat.zero_add]; exact c0, by rw [Nat.zero_add]; exact c1⟩
theorem pairs_at {w : World} {a : Option Addr} {len cap : Nat} {z : List S} (h : IsPairs w a len cap z) :
    len ≤ cap ∧ cap ≤ maxLen ∧ (z.take len).length = len ∧ (len = 0 ∨ ∃ b off, a = some ⟨b, off, none⟩ ∧ b < w.heap.size ∧ Reads w b off (z.take len)) := by
  rcases h with ⟨rfl, rfl, rfl, rfl⟩ | ⟨x, rfl, h1, h2, h3, h4, _⟩
  · exact ⟨Nat.le_refl _, Nat.zero_le _, rfl, .inl rfl⟩
  · refine ⟨h1, h2, by simp; omega, ?_⟩
    by_cases h0 : len = 0
    · exact .inl h0
    · right
      obtain ⟨b, off, spot⟩ := x
      have c0 := (h4 0 (by omega)).1
      have hspot : spot = none := by simpa [Addr.add] using World.cell?_spot c0
      subst hspot
      refine ⟨b, off, rfl, World.block_lt_of_cell? w ⟨b, _, none⟩ c0, fun i hi => ?_⟩
      have hi' : i < len := by simp at hi; omega
      have e : at' (z.take len) i = z.getD i (0, 0) := by simp [at', List.getD, hi']
      rw [e, ← Go.WideShapes.add_plain, show off + i * 2 + 1 = off + (i * 2 + 1) from rfl, ← Go.WideShapes.add_plain]
      exact h4 i (by omega)
theorem set_two (A : List Value) (u0 u1 x y : Value) (B : List Value) (k : Nat) (h : A.length = k) : ((A ++ u0 :: u1 :: B).set k x).set (k + 1) y = A ++ [x, y] ++ B := by
  subst h
  rw [List.set_append_right _ _ (Nat.le_refl _), Nat.sub_self, List.set_cons_zero, List.set_append_right _ _ (by omega), show A.length + 1 - A.length = 1 from by omega]
  simp
theorem split_two (r : List Value) (n : Nat) (h : r.length = (n + 1) * 2) : ∃ u0 u1 B, r = u0 :: u1 :: B ∧ B.length = n * 2 := by
  match r, h with
  | u0 :: u1 :: B, h => exact ⟨u0, u1, B, rfl, by simp only [List.length_cons] at h; omega⟩
  | [_], h => simp at h; omega
  | [], h => simp at h
end Go.Proofs.YtlboekimnhgfdaaGreat.Samp

/- What the laws' own helpers do with slices of samples: they are copied, held against each other, marked and looked at again. -/
namespace Go.Proofs.YtlboekimnhgfdaaGreat.Samp
open Go.RowKit SampMath Rw
set_option linter.unusedVariables false
attribute [local go_sem ↓] Go.wp_at_zero Go.wp_at_succ
theorem to_one (t v : Int) (w : World) : Calls Tryz.prog 147 #[.agg #[.int .i64 t, .int .i64 v]] w fun e w' => e = .returned (.agg #[.int .i64 t, .int .i64 v]) ∧ Below w.heap.size w w' := by
  go_enter Tryz.func147, Tryz.ntmps147
  go_wp2
  refine bodyPost_ret (v := .agg #[.int .i64 t, .int .i64 v]) (by simp [results, Tryz.results147, go_sem]) rfl ⟨rfl, ?_⟩
  exact (((Below.refl _ _).alloc (Nat.le_refl _) _).alloc (by simp) _).alloc (by simp; omega) _
set_option maxRecDepth 100000 in
set_option maxHeartbeats 1000000 in
theorem to_some (b off len cap : Nat) (zs : List S) (w : World) (hz : zs.length = len) (hc : len ≤ cap) (hm : cap ≤ maxLen) (hlen : len ≤ 2097152) (hbl : b < w.heap.size) (hr : Reads w b off zs) :
    Calls Tryz.prog 119 #[.slice (some ⟨b, off, none⟩) len cap] w fun e w' => e = .returned (.slice (some ⟨w.heap.size, 0, none⟩) len len) ∧
      w'.ownsRow w.heap.size 106 2 (.slice (some ⟨w.heap.size, 0, none⟩) len len) len (flat zs) ∧ Below w.heap.size w w' := by
  obtain ⟨i0, hi, hz0, hz1, hz2⟩ := info_parts info_sample
  unfold maxLen at hm
  go_enter Tryz.func119, Tryz.ntmps119
  go_wp2_with (at_make; refine wpList_make_full _ rfl _ _ _ rfl w.heap.size 106 i0 (.agg #[.int .i64 0, .int .i64 0]) 2 Tryz.underlying91 hi hz0 hz1 .i64 .i64 _ _ len rfl rfl rfl rfl (by rw [hz2]; omega) (by unfold maxLen; omega) (Nat.le_refl _) ?_; intro w1 hown1 hgrow1)
  go_loopw [4] (fun i wr => ∃ (k : Nat) (r : List Value), k ≤ len ∧ i = .int .i64 k ∧ r.length = (len - k) * 2 ∧ wr.ownsRow w.heap.size 106 2 (.slice (some ⟨w.heap.size, 0, none⟩) len len) len (flat (zs.take k) ++ r) ∧ Below w.heap.size w wr) (fun i _ => len - (intOf i).toNat)
  case atStart =>
    refine ⟨0, _, Nat.zero_le _, rfl, ?_, hown1, below_grown (Below.refl _ _) (Nat.le_refl _) hgrow1 (by simp)⟩
    have := hown1.1
    simpa using this
  case round =>
    obtain ⟨k, r, hk, rfl, hrl, hown, hbel⟩ := hrel
    have hsz := own_lt hown
    by_cases hlt : k < len
    · obtain ⟨u0, u1, B, rfl, hB⟩ := split_two r (len - k - 1) (by rw [hrl]; omega)
      have hc0 : wr.cell? ⟨b, off + k * 2, none⟩ = some (.int .i64 (at' zs k).1) := (hbel.cell (p := ⟨b, _, none⟩) hbl).trans (hr k (by omega)).1
      have hc1 : wr.cell? ⟨b, off + k * 2 + 1, none⟩ = some (.int .i64 (at' zs k).2) := (hbel.cell (p := ⟨b, _, none⟩) hbl).trans (hr k (by omega)).2
      have fl := flat_length (zs.take k)
      have tl : (zs.take k).length = k := by simp; omega
      have hd0 : wr.cell? ⟨w.heap.size, k * 2, none⟩ = some u0 := by rw [hown.cellAt (k * 2) (by omega)]; simp [fl, tl]
      have hd1 : wr.cell? ⟨w.heap.size, k * 2 + 1, none⟩ = some u1 := by rw [hown.cellAt (k * 2 + 1) (by omega)]; simp [fl, tl]
      have hf0 := hown.frozenAt (k * 2)
      have hf1 := hown.frozenAt (k * 2 + 1)
      have hk0 : (0 : Int) ≤ (k : Int) := Int.natCast_nonneg _
      have hk1 : (k : Int) < (len : Int) := by omega
      have HE := hide (show (flat (zs.take k)).length = k * 2 by rw [fl, tl])
      have HS := hide (at_snoc zs k (by omega))
      obtain ⟨T, hT⟩ : ∃ T, T = (at' zs k).1 := ⟨_, rfl⟩
      obtain ⟨V, hV⟩ : ∃ V, V = (at' zs k).2 := ⟨_, rfl⟩
      rw [← hT] at hc0
      rw [← hV] at hc1
      have HT := hide hT
      have HV := hide hV
      clear fl tl hT hV
      go_wp2_with (go_at_call 147; refine (to_one _ _ _).mono ?_; rintro e w2 ⟨rfl, hb2⟩; obtain ⟨bc, bf⟩ := bcell hb2)
      have o1 := ((own_below hown hb2).stored (k * 2) (.int .i64 T)).1
      have o2 := (o1.stored (k * 2 + 1) (.int .i64 V)).1
      rw [set_two _ _ _ _ _ _ _ (unhide HE)] at o2
      have e2 : flat (zs.take (k + 1)) = flat (zs.take k) ++ [.int .i64 T, .int .i64 V] := by rw [unhide HS, flat_append, flat_one, unhide HT, unhide HV]
      rw [← e2] at o2
      have R := ((hbel.trans (hb2.mono (by omega))).setCell (p := ⟨w.heap.size, k * 2, none⟩) (Nat.le_refl _) (.int .i64 T)).setCell (p := ⟨w.heap.size, k * 2 + 1, none⟩) (Nat.le_refl _) (.int .i64 V)
      clear o1 e2 hown bc bf hd0 hd1 hf0 hf1
      go_roundw
      case rel => exact ⟨k + 1, B, by omega, by go_num, by omega, o2, R⟩
      case measure => simp [intOf]; omega
    · obtain rfl : k = len := by omega
      obtain rfl : r = [] := List.eq_nil_of_length_eq_zero (by rw [hrl]; omega)
      rw [List.append_nil, List.take_of_length_le (by omega)] at hown
      go_wp2
      go_ret
      exact ⟨rfl, hown, hbel⟩
set_option maxHeartbeats 1000000 in
theorem to_zero (a : Option Addr) (cap : Nat) (w : World) :
    Calls Tryz.prog 119 #[.slice a 0 cap] w fun e w' => e = .returned (.slice (some ⟨w.heap.size, 0, none⟩) 0 0) ∧
      w'.ownsRow w.heap.size 106 2 (.slice (some ⟨w.heap.size, 0, none⟩) 0 0) 0 (flat []) ∧ Below w.heap.size w w' := by
  obtain ⟨i0, hi, hz0, hz1, hz2⟩ := info_parts info_sample
  go_enter Tryz.func119, Tryz.ntmps119
  go_wp2_with (at_make; refine wpList_make_full _ rfl _ _ _ rfl w.heap.size 106 i0 (.agg #[.int .i64 0, .int .i64 0]) 2 Tryz.underlying91 hi hz0 hz1 .i64 .i64 _ _ 0 rfl rfl rfl rfl (by omega) (by unfold maxLen; omega) (Nat.le_refl _) ?_; intro w1 hown1 hgrow1)
  refine wp_loop_rounds 1 ?_
  rw [rounds_succ]
  go_wp2
  go_ret
  have e0 : (madeCells (Value.agg #[Value.int IntKind.i64 0, Value.int IntKind.i64 0]).cells (0 * 2)).toList = flat [] := by simp [madeCells, flat]
  rw [e0] at hown1
  exact ⟨rfl, hown1, below_grown (Below.refl _ _) (Nat.le_refl _) hgrow1 (by simp)⟩
/-- a slice that came in, copied: new memory of the call's own -/
theorem to_any {a : Option Addr} {len cap : Nat} {z : List S} (w w0 : World) (h : IsPairs w0 a len cap z) (hlen : len ≤ 2097152) (hb : Below w0.heap.size w0 w) :
    Calls Tryz.prog 119 #[.slice a len cap] w fun e w' => e = .returned (.slice (some ⟨w.heap.size, 0, none⟩) len len) ∧
      w'.ownsRow w.heap.size 106 2 (.slice (some ⟨w.heap.size, 0, none⟩) len len) (z.take len).length (flat (z.take len)) ∧ Below w.heap.size w w' := by
  obtain ⟨h1, h2, h3, h4⟩ := pairs_at h
  rcases h4 with rfl | ⟨b, off, rfl, hbl, hr⟩
  · have e : z.take 0 = [] := rfl
    rw [e]
    exact to_zero a cap w
  · rw [h3]
    exact to_some b off len cap (z.take len) w h3 h1 h2 hlen (by have := hb.size; omega) (hr.below hb hbl)
theorem eq_one (t v : Int) (w : World) : Calls Tryz.prog 150 #[.agg #[.int .i64 t, .int .i64 v], .agg #[.int .i64 t, .int .i64 v]] w fun e w' => e = .returned (.bool true) ∧ Below w.heap.size w w' := by
  go_enter Tryz.func150, Tryz.ntmps150
  go_wp2
  go_ret
  exact ⟨rfl, ((Below.refl _ _).alloc (Nat.le_refl _) _).alloc (by simp) _⟩
theorem eq_zero (a a' : Option Addr) (c c' : Nat) (w : World) : Calls Tryz.prog 126 #[.slice a 0 c, .slice a' 0 c'] w fun e w' => e = .returned (.bool true) ∧ Below w.heap.size w w' := by
  go_enter Tryz.func126, Tryz.ntmps126
  go_wp2
  refine wp_loop_rounds 1 ?_
  rw [rounds_succ]
  go_wp2
  go_ret
  exact ⟨rfl, Below.refl _ _⟩
set_option maxRecDepth 100000 in
set_option maxHeartbeats 1000000 in
theorem eq_some (b off b' off' len cap cap' : Nat) (zs : List S) (w : World) (hz : zs.length = len) (h1 : len ≤ cap) (h2 : cap ≤ maxLen) (hbl : b < w.heap.size) (hr : Reads w b off zs) (h1' : len ≤ cap') (h2' : cap' ≤ maxLen) (hbl' : b' < w.heap.size) (hr' : Reads w b' off' zs) :
    Calls Tryz.prog 126 #[.slice (some ⟨b, off, none⟩) len cap, .slice (some ⟨b', off', none⟩) len cap'] w fun e w' => e = .returned (.bool true) ∧ Below w.heap.size w w' := by
  unfold maxLen at h2 h2'
  go_enter Tryz.func126, Tryz.ntmps126
  go_wp2
  go_loopw [5] (fun i wr => ∃ (k : Nat), k ≤ len ∧ i = .int .i64 k ∧ Below w.heap.size w wr) (fun i _ => len - (intOf i).toNat)
  case atStart => exact ⟨0, Nat.zero_le _, rfl, Below.refl _ _⟩
  case round =>
    obtain ⟨k, hk, rfl, hbel⟩ := hrel
    have hsz := hbel.size
    by_cases hlt : k < len
    · obtain ⟨T, hT⟩ : ∃ T, T = (at' zs k).1 := ⟨_, rfl⟩
      obtain ⟨V, hV⟩ : ∃ V, V = (at' zs k).2 := ⟨_, rfl⟩
      have hq0 : ∀ x : Cls wr.heap.size wr, x.val.cell? ⟨b, off + k * 2, none⟩ = some (.int .i64 T) := fun x => by rw [x.cell (by omega), hT]; exact (hbel.cell (p := ⟨b, _, none⟩) hbl).trans (hr k (by omega)).1
      have hq1 : ∀ x : Cls wr.heap.size wr, x.val.cell? ⟨b, off + k * 2 + 1, none⟩ = some (.int .i64 V) := fun x => by rw [x.cell (by omega), hV]; exact (hbel.cell (p := ⟨b, _, none⟩) hbl).trans (hr k (by omega)).2
      have hp0 : ∀ x : Cls wr.heap.size wr, x.val.cell? ⟨b', off' + k * 2, none⟩ = some (.int .i64 T) := fun x => by rw [x.cell (by omega), hT]; exact (hbel.cell (p := ⟨b', _, none⟩) hbl').trans (hr' k (by omega)).1
      have hp1 : ∀ x : Cls wr.heap.size wr, x.val.cell? ⟨b', off' + k * 2 + 1, none⟩ = some (.int .i64 V) := fun x => by rw [x.cell (by omega), hV]; exact (hbel.cell (p := ⟨b', _, none⟩) hbl').trans (hr' k (by omega)).2
      have hk0 : (0 : Int) ≤ (k : Int) := Int.natCast_nonneg _
      have hk1 : (k : Int) < (len : Int) := by omega
      clear hT hV
      have hne := cls_nonempty wr.heap.size wr
      go_wp2_with fail
      refine region_cls (by kernel_rfl) (by kernel_rfl) ?_
      repeat (go_big_quiet_step ((go_at_call 150; exact cls_call (Nat.le_refl _) (eq_one _ _ _))))
      refine wpQuiet_nil ?_
      rintro _ ⟨⟨wq, hq⟩, rfl⟩
      go_wp2
      go_roundw
      case rel => exact ⟨k + 1, by omega, by go_num, hbel.trans (hq.mono hsz)⟩
      case measure => simp [intOf]; omega
    · go_wp2
      go_ret
      exact ⟨rfl, hbel⟩
theorem eq_any {v u : Value} {zs : List S} {w : World} (h : Smp w v zs) (h' : Smp w u zs) : Calls Tryz.prog 126 #[v, u] w fun e w' => e = .returned (.bool true) ∧ Below w.heap.size w w' := by
  rcases h with ⟨rfl, rfl⟩ | ⟨b, off, cap, rfl, h2, h3, h4, h5⟩
  · rcases h' with ⟨rfl, _⟩ | ⟨b', off', cap', rfl, _, _, _, _⟩
    · exact eq_zero _ _ _ _ w
    · exact eq_zero _ _ _ _ w
  · rcases h' with ⟨rfl, rfl⟩ | ⟨b', off', cap', rfl, g2, g3, g4, g5⟩
    · exact eq_zero _ _ _ _ w
    · exact eq_some b off b' off' _ cap cap' zs w rfl h2 h3 h4 h5 g2 g3 g4 g5
/-- so many are left, or none -/
theorem sz_any (a : Option Addr) (len cap : Nat) (left : Int) (w : World) (h : len ≤ 9223372036854775807) (h1 : 0 ≤ left) (h2 : left ≤ 1048576) :
    Calls Tryz.prog 114 #[.slice a len cap, .int .i64 left] w fun e w' => e = .returned (.int .i64 (if left - len < 0 then -1 else left - len)) ∧ w' = w := by
  by_cases hl : left - len < 0
  · rw [if_pos hl]
    go_enter Tryz.func114, Tryz.ntmps114
    go_wp2
    go_ret
    exact ⟨rfl, rfl⟩
  · rw [if_neg hl]
    go_enter Tryz.func114, Tryz.ntmps114
    go_wp2
    go_ret
    exact ⟨rfl, rfl⟩
end Go.Proofs.YtlboekimnhgfdaaGreat.Samp
