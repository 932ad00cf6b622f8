/- My own texts of one claim, laid together by program: RowKey, SMap, In. -/
import Derived.Test.YtdggffcibcggoaaG3290633b17
import Derived.Test.YtdggffcibcggoaaG5a3b2cdbef
import Derived.Test.YtdggffcibcggoaaGe700692cf9
import Derived.Test.YtdggffcibcggoaaG7d15f82076
import Derived.Maps.OwnSet
import Derived.Test.YtdggffcibcggoaaG0d6505fa7f
/- A copy of labels, and the key of a row: the program's labelsCopy and rowKey. -/
namespace Go.Proofs.Ytdggffcibcggoaa.Lab
open Go.RowKit Rw PutMath
set_option linter.unusedVariables false
attribute [local go_sem ↓] Go.wp_at_zero Go.wp_at_succ
set_option maxRecDepth 100000 in
set_option maxHeartbeats 4000000 in
theorem copy_any {w : World} {v : Value} {zs : List E} (h : Is w v zs) (hsm : small zs) : Calls Try.prog 109 #[v] w fun e w' => ∃ r, e = .returned r ∧ w'.ownsRow w.heap.size 86 2 r zs.length (flat zs) ∧ Below w.heap.size w w' := by
  obtain ⟨i0, hi, hz0, hz1, hz2⟩ := info_parts info_e
  have hlen := hsm.1
  have hg := hsm.2
  obtain ⟨-, a, cap, rfl, hc, hm, -, hr⟩ := h
  unfold maxLen at hm
  obtain ⟨n, hn⟩ : ∃ n, n = zs.length := ⟨_, rfl⟩
  rw [← hn] at hc hr hlen ⊢
  have HN := hide hn
  have HG := hide hg
  clear hn hg
  go_enter Try.func109, Try.ntmps109
  go_wp2_with fail
  go_loopw [3, 8] (fun pv i wr => ∃ (k : Nat) (pa : Option Addr) (pc : Nat), k ≤ n ∧ i = .int .i64 k ∧ pv = .slice pa k pc ∧ wr.ownsRow w.heap.size 86 2 pv k (flat (zs.take k)) ∧ Below w.heap.size w wr) (fun _ i _ => n - (intOf i).toNat)
  case atStart => exact ⟨0, none, 0, Nat.zero_le _, rfl, rfl, World.ownsRow_nil _ _ _ _, Below.refl _ _⟩
  case round =>
    obtain ⟨k, pa, pc, hk, rfl, rfl, hown, hbel⟩ := hrel
    have hsz := hbel.size
    have hk0 : (0 : Int) ≤ (k : Int) := Int.natCast_nonneg _
    by_cases hlt : k < n
    · obtain ⟨b, off, rfl, hl, hcells⟩ := hr (by omega)
      have fa := flat_at zs k (by have := unhide HN; omega)
      have gd := unhide HG (at' zs k) (by rw [at_get zs k (by have := unhide HN; omega)]; exact List.getElem_mem _)
      have HPS := hide (show flat (zs.take (k + 1)) = flat (zs.take k) ++ fl (at' zs k) by rw [at_snoc zs k (by have := unhide HN; omega)]; unfold flat; rw [flatOf_append, flatOf_one])
      obtain ⟨A, B, hX⟩ : ∃ A B, (A, B) = at' zs k := ⟨_, _, rfl⟩
      rw [← hX] at fa gd HPS
      simp only at gd
      simp only [fl] at HPS
      have hc0 : wr.cell? ⟨b, off + k * 2, none⟩ = some (.string A) := (hbel.cell (p := ⟨b, _, none⟩) hl).trans (hcells (k * 2) _ fa.1)
      have hc1 : wr.cell? ⟨b, off + k * 2 + 1, none⟩ = some (.string B) := (hbel.cell (p := ⟨b, _, none⟩) hl).trans (hcells (k * 2 + 1) _ fa.2)
      have HA := hide (fun W => Str.clone_any A W (by omega))
      have HB := hide (fun W => Str.clone_any B W (by omega))
      clear hX fa gd
      have hk1 : (k : Int) < (n : Int) := by omega
      have hmx : 1 ≤ maxLen := by unfold maxLen; omega
      obtain ⟨W, hW⟩ : ∃ W, W = wr.alloc (.cells #[.string A, .string B] 86) := ⟨_, rfl⟩
      have bW : Below wr.heap.size wr W := by rw [hW]; exact (Below.refl _ _).alloc (Nat.le_refl _) _
      have zW : wr.heap.size < W.heap.size := by rw [hW]; simp
      have S6 : (fun w' : World => w'.cell? ⟨wr.heap.size, 0, none⟩ = some (.string A) ∧ w'.cell? ⟨wr.heap.size, 1, none⟩ = some (.string B)) W.drew := by rw [hW]; exact ⟨by simp, by simp⟩
      have oW : W.drew.ownsRow w.heap.size 86 2 (.slice pa k pc) k (flat (zs.take k)) := World.ownsRow.drew (own_below hown bW)
      have hbW : Below w.heap.size w W.drew := (hbel.trans (bW.mono hsz)).drew
      have hob := fun e => Nat.lt_irrefl _ (own_block_lt hown wr.heap.size (Eq.symm e))
      clear bW
      go_wp2_with fail
      rw [← hW]
      clear hW
      go_region_held3 (fun w' => w'.cell? ⟨wr.heap.size, 0, none⟩ = some (.string A) ∧ w'.cell? ⟨wr.heap.size, 1, none⟩ = some (.string B)) (first | exact S6 | exact S7 | exact S8 | exact S9 _ | exact S10) ((first | (go_at_call_of 140 A; refine (unhide HA _).mono ?_; rintro e w7 ⟨rfl, b7⟩; have z7 := b7.size; simp only [World.size_drew] at z7; have S7 : (fun w' : World => w'.cell? ⟨wr.heap.size, 0, none⟩ = some (.string A) ∧ w'.cell? ⟨wr.heap.size, 1, none⟩ = some (.string B)) w7 := ⟨(b7.cell (p := ⟨_, _, none⟩) (by first | (simp; done) | (simp; omega) | omega)).trans S6.1, (b7.cell (p := ⟨_, _, none⟩) (by first | (simp; done) | (simp; omega) | omega)).trans S6.2⟩) | (go_at_call_of 140 B; refine (unhide HB _).mono ?_; rintro e w8 ⟨rfl, b8⟩; have z8 := b8.size; have S8 : (fun w' : World => w'.cell? ⟨wr.heap.size, 0, none⟩ = some (.string A) ∧ w'.cell? ⟨wr.heap.size, 1, none⟩ = some (.string B)) w8 := ⟨(b8.cell (p := ⟨_, _, none⟩) (by first | (simp; done) | (simp; omega) | omega)).trans S7.1, (b8.cell (p := ⟨_, _, none⟩) (by first | (simp; done) | (simp; omega) | omega)).trans S7.2⟩; have S9 : ∀ o, (fun w' : World => w'.cell? ⟨wr.heap.size, 0, none⟩ = some (.string A) ∧ w'.cell? ⟨wr.heap.size, 1, none⟩ = some (.string B)) (w8.alloc o) := fun o => ⟨(((Below.refl _ _).alloc (Nat.le_refl _) _).cell (p := ⟨_, _, none⟩) (by first | (simp; done) | (simp; omega) | omega)).trans S8.1, (((Below.refl _ _).alloc (Nat.le_refl _) _).cell (p := ⟨_, _, none⟩) (by first | (simp; done) | (simp; omega) | omega)).trans S8.2⟩) | (refine app_step _ (by rfl) _ _ _ (by rfl) w.heap.size 86 i0 _ 2 32 Try.underlying36 hi hz0 hz1 hz2 rfl (by omega) _ k _ (by rfl) (World.ownsRow.alloc (own_below (own_below oW b7) b8) _) _ 1 [.string A, .string B] (by rfl) (lies_new (w := w8) (by simp) rfl hmx) (by simp [Value.oneCell']) (by unfold maxLen; omega) (by omega) (by simp <;> omega) ?_; intro vn wn on gn an; have S10 : (fun w' : World => w'.cell? ⟨wr.heap.size, 0, none⟩ = some (.string A) ∧ w'.cell? ⟨wr.heap.size, 1, none⟩ = some (.string B)) wn := ⟨by rw [gn.cell_far _ (by simp <;> omega) hob]; exact (S9 _).1, by rw [gn.cell_far _ (by simp <;> omega) hob]; exact (S9 _).2⟩)))
      have hb8 : Below w.heap.size w w8 := (hbW.trans (b7.mono hbW.size)).trans (b8.mono (by omega))
      have R9 : Below w.heap.size w wn := below_grown (hb8.alloc (by omega) _) (by simp <;> omega) gn (own_ge hown)
      have R2 := hide (show wn.ownsRow w.heap.size 86 2 vn (k + 1) (flat (zs.take (k + 1))) by rw [unhide HPS]; exact on)
      obtain ⟨an', cn, hvn⟩ : ∃ a c, vn = .slice a (k + 1) c := by obtain ⟨-, a, c, e, -⟩ := lies_of_own on; exact ⟨a, c, e⟩
      have HV := hide hvn
      clear on gn an hown hvn hob S6 S7 S8 S9 S10 oW hbW b7 b8 hb8
      go_wp2_with fail
      go_roundw
      case rel => exact ⟨k + 1, an', cn, by omega, by go_num, unhide HV, unhide R2, R9⟩
      case measure => simp [intOf]; omega
    · obtain rfl : k = n := by omega
      rw [List.take_of_length_le (by have := unhide HN; omega)] at hown
      go_wp2
      go_ret
      exact ⟨_, rfl, hown, hbel⟩
/-- the key of a row -/
def keyOf (zs : List E) : ByteArray := ⟨(keyL zs).toArray⟩
theorem trim_key {zs : List E} (h : ok zs = true) : (⟨(Lib.trimSuffix (put zs).data.toList [125]).toArray⟩ : ByteArray) = keyOf zs := by
  have e : (put zs).data.toList = keyL zs ++ [125] := by
    unfold put
    rw [if_pos h]
    unfold wrap keyL
    rw [of_toList]
    unfold parts
    rw [show List.map partOf zs = zs.map (fun x => x.1 ++ ⟨#[61]⟩ ++ x.2) from rfl, join_body]
  unfold keyOf
  rw [e]
  congr 2
  simp [Lib.trimSuffix, Lib.hasSuffix]
theorem rowKey_any {w : World} {v : Value} {zs : List E} (h : Is w v zs) (hg : ∀ x ∈ zs, good x) (ho : ok zs = true) : Calls Try.prog 131 #[v] w fun e w' => e = .returned (.string (keyOf zs)) ∧ Below w.heap.size w w' := by
  have H1 := hide (impl_put h hg)
  have hs : (put zs).size ≤ 2002002 := by
    unfold put
    rw [if_pos ho]
    unfold wrap
    rw [size_of]
    have := join_small (ok_small ho) zs.length
    rw [List.take_of_length_le (Nat.le_refl _)] at this
    simp only [List.length_append, List.length_cons, List.length_nil]
    omega
  have H2 := hide (fun W => Try.strings_TrimSuffix (put zs) ⟨#[125]⟩ W (by omega))
  rw [show (⟨#[125]⟩ : ByteArray).data.toList = [125] from rfl, trim_key ho] at H2
  clear h hg ho
  generalize put zs = P at H1 H2
  generalize keyOf zs = K at H2 ⊢
  go_enter Try.func131, Try.ntmps131
  go_wp2_with fail
  refine (unhide H1).mono ?_
  rintro e w1 ⟨rfl, b1⟩
  go_wp2_with fail
  refine (unhide H2 _).mono ?_
  rintro e w2 ⟨rfl, rfl⟩
  go_wp2_with fail
  go_ret
  exact ⟨rfl, b1⟩
end Go.Proofs.Ytdggffcibcggoaa.Lab

/- A map from texts to rows that the call made itself: what it holds at each key, what a look-up finds, what a store turns. No condition. -/
namespace Go.Proofs.Ytdggffcibcggoaa.SMap
open Go.RowKit Rw Go.Maps
/-- an element reads as itself -/
def rdV (v : Value) : Option (DataW Value × List MemPlace) := some (.held v, [])
def slit (s : ByteArray) : Lit := .string s.data.toList
theorem slit_inj {a b : ByteArray} (h : slit a = slit b) : a = b := by
  unfold slit at h
  exact Go.WideShapes.bytes_inj (Lit.string.inj h)
theorem slit_key (s : ByteArray) : WideAt.IsKeyLit (slit s) := by unfold slit; trivial
/-- block b is a map of at most n entries, that holds M -/
def MapIs (w : World) (b n : Nat) (M : ByteArray → Option Value) : Prop := ∃ D : DataW Value, w.ownsMap Try.prog 9 rdV b n D ∧ ∀ s, Maps.has D (slit s) = (M s).isSome ∧ ∀ v, M s = some v → ∀ z, D.atKey (slit s) z = .held v
theorem keyed : Keyed Try.prog 9 := string_keyed Try.underlying9
theorem made (w : World) : MapIs (w.alloc (.map #[] 0)) w.heap.size 0 (fun _ => none) := ⟨.map [], World.ownsMap_made w _ _ _, fun s => ⟨rfl, fun v h => by cases h⟩⟩
theorem MapIs.lt {w : World} {b n : Nat} {M : ByteArray → Option Value} (h : MapIs w b n M) : b < w.heap.size := by obtain ⟨D, h1, -⟩ := h; exact h1.lt
theorem MapIs.block {w w' : World} {b n : Nat} {M : ByteArray → Option Value} (h : MapIs w b n M) (hb : w'.heap[b]? = w.heap[b]?) : MapIs w' b n M := by
  obtain ⟨D, ⟨es, clock, h1, h2⟩, h3⟩ := h
  exact ⟨D, ⟨es, clock, by rw [hb]; exact h1, h2⟩, h3⟩
theorem MapIs.below {w w' : World} {b n : Nat} {M : ByteArray → Option Value} (h : MapIs w b n M) (hb : Below w.heap.size w w') : MapIs w' b n M := h.block (hb.block b h.lt)
theorem zeroRow (w : World) : (zeroValue 61).run Try.prog w = .ok (.agg #[.slice none 0 0, .slice none 0 0]) w := by kernel_rfl
/-- 'row, there := m[key]' -/
theorem MapIs.look_ok {w : World} {b n : Nat} {M : ByteArray → Option Value} (h : MapIs w b n M) {s : ByteArray} (hs : s.size ≤ maxLen) :
    (Instr.lookup 72 (.map (some b)) (.string s) true).run Try.prog w = .ok (.tuple #[(M s).getD (.agg #[.slice none 0 0, .slice none 0 0]), .bool (M s).isSome]) w := by
  obtain ⟨D, h1, h2⟩ := h
  obtain ⟨v, ps, hr, hv⟩ := h1.look_ok keyed Try.underlying72 (zeroRow w) (show rdV _ = some (.held _, []) from rfl) (Go.WideMaps.keyOf_string_mk Try.underlying9 hs)
  rw [hr]
  have hg := h2 s
  have e1 : Maps.has D (Lit.string s.data.toList) = (M s).isSome := hg.1
  rw [e1]
  have e2 : DataW.held v = D.atKey (slit s) (.held (.agg #[.slice none 0 0, .slice none 0 0])) := by simpa [rdV, slit] using congrArg (fun x => x.map Prod.fst) hv
  cases hM : M s with
  | none =>
    have h0 : Maps.has D (slit s) = false := by rw [hg.1, hM]; rfl
    rw [atKey_of_not_has h0] at e2
    rw [DataW.held.inj e2]; rfl
  | some u =>
    rw [hg.2 u hM] at e2
    rw [DataW.held.inj e2]; rfl
/-- 'm[key]' -/
theorem MapIs.look {w : World} {b n : Nat} {M : ByteArray → Option Value} (h : MapIs w b n M) {s : ByteArray} (hs : s.size ≤ maxLen) :
    (Instr.lookup 72 (.map (some b)) (.string s) false).run Try.prog w = .ok ((M s).getD (.agg #[.slice none 0 0, .slice none 0 0])) w := by
  obtain ⟨D, h1, h2⟩ := h
  obtain ⟨v, ps, hr, hv⟩ := h1.lookup keyed Try.underlying72 (zeroRow w) (show rdV _ = some (.held _, []) from rfl) (Go.WideMaps.keyOf_string_mk Try.underlying9 hs)
  rw [hr]
  have hg := h2 s
  have e2 : DataW.held v = D.atKey (slit s) (.held (.agg #[.slice none 0 0, .slice none 0 0])) := by simpa [rdV, slit] using congrArg (fun x => x.map Prod.fst) hv
  cases hM : M s with
  | none =>
    have h0 : Maps.has D (slit s) = false := by rw [hg.1, hM]; rfl
    rw [atKey_of_not_has h0] at e2
    rw [DataW.held.inj e2]; rfl
  | some u =>
    rw [hg.2 u hM] at e2
    rw [DataW.held.inj e2]; rfl
/-- 'm[key] = row' -/
theorem MapIs.store {w : World} {b n : Nat} {M : ByteArray → Option Value} (h : MapIs w b n M) {s : ByteArray} (hs : s.size ≤ maxLen) (hn : n < maxLen) (u : Value) :
    ∃ w', (Instr.mapUpdate 72 (.map (some b)) (.string s) u).run Try.prog w = .ok () w' ∧ MapIs w' b (n + 1) (fun t => if t = s then some u else M t) ∧ OnlyAt b w w' := by
  obtain ⟨D, h1, h2⟩ := h
  obtain ⟨w', hr, h3, h4⟩ := h1.store keyed Try.underlying72 hn (Go.WideMaps.keyOf_string_mk Try.underlying9 hs) (show rdV u = some (.held u, []) from rfl)
  have hsz : w'.heap.size = w.heap.size := by
    obtain ⟨es, clock, es', clock', -, rfl⟩ := h4
    simp [Go.ChangeMaps.setBlock]
  have hgr := h4.grown
  refine ⟨w', hr, ⟨_, h3, fun t => ?_⟩, ⟨hgr.os, hgr.tape, hgr.output, hsz, fun k hk => ?_⟩⟩
  · by_cases e : t = s
    · subst e
      refine ⟨by simp only [if_true]; exact has_put_same h1.isMap (slit_key t) _, fun v hv z => ?_⟩
      simp only [if_true] at hv
      cases hv
      exact atKey_put_same h1.isMap (slit_key t) _ z
    · have hne : slit t ≠ slit s := fun h => e (slit_inj h)
      refine ⟨by simp only [if_neg e]; exact (has_put_other hne _).trans (h2 t).1, fun v hv z => ?_⟩
      simp only [if_neg e] at hv
      exact (atKey_put_other hne _ z).trans ((h2 t).2 v hv z)
  · rcases Nat.lt_or_ge k w.heap.size with hl | hl
    · exact hgr.block k hl (fun e => hk (Option.some.inj e))
    · rw [Array.getElem?_eq_none hl, Array.getElem?_eq_none (by rw [hsz]; exact hl)]
end Go.Proofs.Ytdggffcibcggoaa.SMap

/- Whether a number lies between two others: spec.l1In. No condition. -/
namespace Go.Proofs.Ytdggffcibcggoaa.Zig
open Go.RowKit
def inB (n lo hi : Int) : Bool := decide (lo ≤ n) && decide (n ≤ hi)
theorem in_yes (n lo hi : Int) (w : World) (h1 : lo ≤ n) (h2 : n ≤ hi) : Calls Try.prog 69 #[.int .i64 n, .int .i64 lo, .int .i64 hi] w fun e w' => e = .returned (.bool true) ∧ w' = w := by
  go_enter Try.func69, Try.ntmps69
  go_wp2
  go_ret
  exact ⟨rfl, rfl⟩
theorem in_low (n lo hi : Int) (w : World) (h1 : n < lo) : Calls Try.prog 69 #[.int .i64 n, .int .i64 lo, .int .i64 hi] w fun e w' => e = .returned (.bool false) ∧ w' = w := by
  go_enter Try.func69, Try.ntmps69
  go_wp2
  go_ret
  exact ⟨rfl, rfl⟩
theorem in_high (n lo hi : Int) (w : World) (h0 : lo ≤ n) (h1 : hi < n) : Calls Try.prog 69 #[.int .i64 n, .int .i64 lo, .int .i64 hi] w fun e w' => e = .returned (.bool false) ∧ w' = w := by
  go_enter Try.func69, Try.ntmps69
  go_wp2
  go_ret
  exact ⟨ret_bool (by simpa using h1), rfl⟩
theorem in_any (n lo hi : Int) (w : World) : Calls Try.prog 69 #[.int .i64 n, .int .i64 lo, .int .i64 hi] w fun e w' => e = .returned (.bool (inB n lo hi)) ∧ w' = w := by
  unfold inB
  by_cases h1 : lo ≤ n
  · by_cases h2 : n ≤ hi
    · rw [decide_eq_true h1, decide_eq_true h2]; exact in_yes n lo hi w h1 h2
    · rw [decide_eq_false h2, Bool.and_false]; exact in_high n lo hi w h1 (by omega)
  · rw [decide_eq_false h1, Bool.false_and]; exact in_low n lo hi w (by omega)
end Go.Proofs.Ytdggffcibcggoaa.Zig
