/- My own texts of one claim, laid together by program: IntsImpl, IntsPut, DrawList, SamBox. -/
import Derived.Test.YtncjagdnebpaaaaG09cfc669da
import Derived.Deep.RegionLaw
import Derived.Test.YtncjagdnebpaaaaGffb30f2161
import Derived.Test.YtncjagdnebpaaaaGad602209f6
import Derived.Test.YtncjagdnebpaaaaG3907c7d8cb
/- ListBoth, ListEither, ListLess of the program; l4Has, ListBoth and ListLess of the model. -/
namespace Go.Proofs.Ytncjagdnebpaaaa.Ints
open Go.RowKit ListMath Rw
set_option linter.unusedVariables false
attribute [local go_sem ↓] Go.wp_at_zero Go.wp_at_succ
theorem inEither_any (p q : Bool) (W : World) : Calls Try.prog 64 #[.bool p, .bool q] W fun e w' => e = .returned (.bool (either p q)) ∧ w' = W := by
  cases p <;> cases q <;> (go_enter Try.func64, Try.ntmps64; go_wp2; go_ret; exact ⟨rfl, rfl⟩)
abbrev Gives (f : Nat) (k : Bool → Bool → Bool) : Prop := ∀ {w : World} {v u : Value} {zs ys : List Int}, Is w v zs → Is w u ys → zs.length ≤ 4194304 → ys.length ≤ 4194304 →
    Calls Try.prog f #[v, u] w fun e w' => ∃ r, e = .returned r ∧ w'.ownsRow w.heap.size 3 1 r (res k zs ys).length (flat (res k zs ys)) ∧ Below w.heap.size w w'
theorem has_succ (zs : List Int) (x : Int) (k : Nat) (hk : k < zs.length) (h : has (zs.take k) x = false) (hx : at' zs k ≠ x) : has (zs.take (k + 1)) x = false := by
  rw [at_snoc zs k hk]
  simp only [has_iff, decide_eq_false_iff_not, List.mem_append, List.mem_singleton, not_or] at h ⊢
  exact ⟨h, fun e => hx e.symm⟩
theorem has_hit (zs : List Int) (x : Int) (k : Nat) (hk : k < zs.length) (hx : at' zs k = x) : has zs x = true := by
  simp only [has_iff, decide_eq_true_eq]
  have e : at' zs k = zs[k] := by simp [at', List.getD, hk]
  rw [← hx, e]
  exact List.getElem_mem hk
theorem filter_snoc (zs : List Int) (f : Int → Bool) (k : Nat) (h : k < zs.length) : (zs.take (k + 1)).filter f = (zs.take k).filter f ++ one (f (at' zs k)) (at' zs k) := by
  rw [at_snoc zs k h, List.filter_append]
  cases hh : f (at' zs k) <;> simp [hh, one]
theorem filter_take_le (zs : List Int) (f : Int → Bool) (k : Nat) : ((zs.take k).filter f).length ≤ k := by
  have h1 := List.length_filter_le f (zs.take k)
  have h2 := List.length_take_le k zs
  omega
end Go.Proofs.Ytncjagdnebpaaaa.Ints

/- l4Put and ListEither of the model. -/
namespace Go.Proofs.Ytncjagdnebpaaaa.Ints
open Go.RowKit ListMath Rw
set_option linter.unusedVariables false
attribute [local go_sem ↓] Go.wp_at_zero Go.wp_at_succ
theorem own_empty' {w : World} {base B : Nat} {e : TypeId} {size : Nat} (hb : base ≤ w.heap.size) (hB : B = w.heap.size) : (w.alloc (.cells #[] e)).ownsRow base e size (.slice (some ⟨B, 0, none⟩) 0 0) 0 [] := by
  subst hB; exact own_empty hb
theorem putAt_of : ∀ (l : List Int) (x : Int) (k : Nat), k ≤ l.length → (∀ j, j < k → at' l j < x) → (k < l.length → ¬ at' l k < x) → putAt l x = k
  | [], x, k, h, _, _ => by simp at h; subst h; rfl
  | y :: l, x, 0, _, _, h => by
    have := h (by simp)
    have e : at' (y :: l) 0 = y := rfl
    rw [e] at this
    simp [putAt, this]
  | y :: l, x, k + 1, h, h1, h2 => by
    have hy : y < x := h1 0 (by omega)
    have ih := putAt_of l x k (by simpa using h) (fun j hj => by have := h1 (j + 1) (by omega); simpa [at', List.getD] using this) (fun hk => by have := h2 (by simpa using hk); simpa [at', List.getD] using this)
    unfold putAt at ih ⊢
    simp [hy, ih]
theorem put_there {l : List Int} {x : Int} {k : Nat} (hk : k < l.length) (h : putAt l x = k) (he : at' l k = x) : put l x = l := by
  unfold put
  rw [h, if_pos ⟨by intro e; have := congrArg List.length e; simp at this; omega, he⟩]
theorem put_new {l : List Int} {x : Int} {k : Nat} (h : putAt l x = k) (he : k < l.length → at' l k ≠ x) : put l x = l.take k ++ x :: l.drop k := by
  unfold put
  rw [h, if_neg]
  rintro ⟨h1, h2⟩
  refine he ?_ h2
  rcases Nat.lt_or_ge k l.length with hl | hl
  · exact hl
  · exact absurd (List.drop_eq_nil_of_le hl) h1
theorem head_ok {w : World} {a : Option Addr} {N cap k : Nat} {xs : List Value} (h : Lies w (.slice a N cap) N 1 xs) (h0 : k ≤ N) :
    ∃ R, (∀ W, (Instr.slice 63 (.slice a N cap) none (some (.int .i64 (k : Int))) none).run Try.prog W = .ok R W) ∧ Lies w R k 1 (xs.take k) := by
  have hc : N ≤ cap := by obtain ⟨-, a', cap', h1, h2, -⟩ := h; simp only [Value.slice.injEq, true_and] at h1; omega
  have h1 := take_lies (k := k) (cut_lies h (i := 0) (by omega)) (by omega)
  rw [Nat.zero_mul, List.drop_zero, Nat.mul_one] at h1
  refine ⟨_, fun W => ?_, h1⟩
  have e := run_slice_h (P := Try.prog) W 63 a N cap (by kernel_rfl) .i64 (k : Int) (by omega) (by omega)
  rw [e]
  show ((sizeOf (Try.prog.elem 63)).run Try.prog W).andThen _ = _
  rw [size_int]
  simp [sliced]
theorem rest_ok {w : World} {a : Option Addr} {N cap k : Nat} {xs : List Value} (h : Lies w (.slice a N cap) N 1 xs) (h0 : k ≤ N) :
    ∃ R, (∀ W, (Instr.slice 63 (.slice a N cap) (some (.int .i64 (k : Int))) none none).run Try.prog W = .ok R W) ∧ Lies w R (N - k) 1 (xs.drop k) := by
  have hc : N ≤ cap := by obtain ⟨-, a', cap', h1, h2, -⟩ := h; simp only [Value.slice.injEq, true_and] at h1; omega
  refine ⟨_, fun W => ?_, by have := cut_lies h (i := k) (by omega); rw [Nat.mul_one] at this; exact this⟩
  have e := run_slice_l (P := Try.prog) W 63 a N cap (by kernel_rfl) .i64 (k : Int) (by omega) (by omega)
  rw [e]
  show ((sizeOf (Try.prog.elem 63)).run Try.prog W).andThen _ = _
  rw [size_int]
  simp [sliced]
theorem puts_snoc (l zs : List Int) (k : Nat) (h : k < zs.length) : (zs.take (k + 1)).foldl put l = put ((zs.take k).foldl put l) (at' zs k) := by rw [at_snoc zs k h, List.foldl_append]; rfl
theorem puts_take_le (l zs : List Int) (k : Nat) : ((zs.take k).foldl put l).length ≤ l.length + k := by
  have h1 := puts_le (zs.take k) l
  have h2 := List.length_take_le k zs
  omega
end Go.Proofs.Ytncjagdnebpaaaa.Ints

/- Lists of numbers are drawn; the same numbers are the same. -/
namespace Go.Proofs.Ytncjagdnebpaaaa.Draw
open Go.RowKit Rw Ints ListMath
set_option linter.unusedVariables false
attribute [local go_sem ↓] Go.wp_at_zero Go.wp_at_succ
theorem own_new {w : World} {cs : Array Value} {t : TypeId} {n size base B : Nat} (hB : B = w.heap.size) (h : cs.size = n * size) (hn : n ≤ maxLen) (hb : base ≤ w.heap.size) : (w.alloc (.cells cs t)).ownsRow base t size (.slice (some ⟨B, 0, none⟩) n n) n cs.toList := by
  subst hB
  exact ⟨by simpa using h, .inr ⟨w.heap.size, n, cs, rfl, hb, heap_alloc_new w _, Nat.le_refl _, hn, h, by rw [← h, ← Array.length_toList]; exact List.take_length⟩⟩
end Go.Proofs.Ytncjagdnebpaaaa.Draw

/- A sample's box, as draws carry it; rows read at a place; a row more. No condition. -/
namespace Go.Proofs.Ytncjagdnebpaaaa.Draw
open Go.RowKit Rw
set_option linter.unusedVariables false
abbrev SB (base : Nat) (w : World) (q : Nat) (x y : Value) : Prop := w.ownsRow base 26 2 (.slice (some ⟨q, 0, none⟩) 1 1) 1 [x, y]
theorem sbox_new {w : World} {base : Nat} (x y : Value) (hb : base ≤ w.heap.size) : SB base (w.alloc (.cells #[x, y] 26)) w.heap.size x y := own_new (cs := #[x, y]) rfl rfl (by unfold maxLen; omega) hb
theorem sbox_two {w : World} {base q : Nat} {x y : Value} (h : SB base w q x y) : w.cell? ⟨q, 0, none⟩ = some x ∧ w.cell? ⟨q, 1, none⟩ = some y ∧ w.frozen? ⟨q, 0, none⟩ = false ∧ w.frozen? ⟨q, 1, none⟩ = false :=
  ⟨by rw [h.cellAt 0 (by omega)]; rfl, by rw [h.cellAt 1 (by omega)]; rfl, h.frozenAt 0, h.frozenAt 1⟩
theorem sbox_put {w : World} {base q : Nat} {a b : Value} (x y : Value) (h : SB base w q a b) :
    (w.setCell ⟨q, 0, none⟩ x).cell? ⟨q, 1, none⟩ = some b ∧ (w.setCell ⟨q, 0, none⟩ x).frozen? ⟨q, 1, none⟩ = false ∧ SB base ((w.setCell ⟨q, 0, none⟩ x).setCell ⟨q, 1, none⟩ y) q x y ∧ OnlyAt q w ((w.setCell ⟨q, 0, none⟩ x).setCell ⟨q, 1, none⟩ y) := by
  have h2 : SB base (w.setCell ⟨q, 0, none⟩ x) q x b := (h.stored 0 x).1
  have h3 := (h2.stored 1 y).1
  exact ⟨by rw [h2.cellAt 1 (by omega)]; rfl, h2.frozenAt 1, h3, ((OnlyAt.refl q w).setCell 0 x).setCell 1 y⟩
theorem sbox_kept {w w' : World} {base q rb : Nat} {x y : Value} (h : SB base w q x y) (hg : w.grownBy w' (some rb)) (hne : q ≠ rb) : SB base w' q x y :=
  h.kept hg (.inr (fun e => by simp only [Value.ownBlock, Option.some.injEq] at e; omega))
theorem sbox_only {w w' : World} {base q g : Nat} {x y : Value} (h : SB base w q x y) (ho : OnlyAt g w w') (hne : q ≠ g) : SB base w' q x y :=
  ho.own h (fun k hk e => by simp only [Value.ownBlock, Option.some.injEq] at hk; omega)
end Go.Proofs.Ytncjagdnebpaaaa.Draw
namespace Go.Proofs.Ytncjagdnebpaaaa.Row
open Go.RowKit Rw
theorem IsF.at {B n q k : Nat} {a : Option Addr} {w : World} {L : List E} (h : IsF B w (.slice a n q) L) (hn : n = L.length) (hk : k < L.length) : ∃ (b off : Nat) (a0 : Option Addr) (l0 q0 : Nat) (a1 : Option Addr) (l1 q1 : Nat), a = some ⟨b, off, none⟩ ∧ b < w.heap.size ∧ B ≤ b ∧ n ≤ q ∧ w.cell? ⟨b, off + k * 2, none⟩ = some (.slice a0 l0 q0) ∧ w.cell? ⟨b, off + k * 2 + 1, none⟩ = some (.slice a1 l1 q1) ∧
    Hid (l0 = (at' L k).1.length ∧ l1 = (at' L k).2.length) ∧ Hid (Lab.Is w (.slice a0 l0 q0) (at' L k).1 ∧ Sam.Is w (.slice a1 l1 q1) (at' L k).2) ∧ Hid ((∀ j, (Value.slice a0 l0 q0).ownBlock = some j → B ≤ j) ∧ (∀ j, (Value.slice a1 l1 q1).ownBlock = some j → B ≤ j)) := by
  subst hn
  obtain ⟨cs, h1, h2, h3, h4⟩ := h
  obtain ⟨⟨e1, e2⟩, f1, f2⟩ := h4 k hk
  obtain ⟨-, a', cap, e, hc, hm, -, hr⟩ := h2
  simp only [Value.slice.injEq, true_and] at e
  obtain ⟨rfl, rfl⟩ := e
  obtain ⟨b, off, rfl, hb, hcells⟩ := hr (by omega)
  have fa := flat_at cs k (by omega)
  have u0 := hcells (k * 2) _ fa.1
  have u1 := hcells (k * 2 + 1) _ fa.2
  obtain ⟨-, a0, q0, g0, -⟩ := id e1
  obtain ⟨-, a1, q1, g1, -⟩ := id e2
  rw [g0] at u0 e1 f1
  rw [g1] at u1 e2 f2
  exact ⟨b, off, a0, _, q0, a1, _, q1, rfl, hb, h3 b rfl, hc, u0, u1, hide ⟨rfl, rfl⟩, hide ⟨e1, e2⟩, hide ⟨f1, f2⟩⟩
theorem Dn.snoc {lo : Nat} {w wn : World} {pv vn vl xv : Value} {L : List E} {cs : List C} {x : E} (h1 : cs.length = L.length) (h2 : w.ownsRow lo 44 2 pv L.length (flatOf cl cs))
    (h7 : ∀ i, i < L.length → w.ownsRow lo 47 2 (cat cs i).1 (at' L i).1.length (Lab.flat (at' L i).1) ∧ w.ownsRow lo 26 2 (cat cs i).2 (at' L i).2.length (Sam.flat (at' L i).2))
    (gn : w.grownBy wn pv.ownBlock) (on : wn.ownsRow lo 44 2 vn (L.length + 1) (flatOf cl cs ++ [vl, xv])) (hl : w.ownsRow lo 47 2 vl x.1.length (Lab.flat x.1)) (hx : w.ownsRow lo 26 2 xv x.2.length (Sam.flat x.2)) : Dn lo wn vn (L ++ [x]) := by
  have keepL : ∀ {n v} {xs : List Value}, w.ownsRow lo 47 2 v n xs → wn.ownsRow lo 47 2 v n xs := fun ho => own_grown gn ho (fun k hk e => own_ne_type ho h2 (by decide) k hk e)
  have keepS : ∀ {n v} {xs : List Value}, w.ownsRow lo 26 2 v n xs → wn.ownsRow lo 26 2 v n xs := fun ho => own_grown gn ho (fun k hk e => own_ne_type ho h2 (by decide) k hk e)
  refine ⟨cs ++ [(vl, xv)], by simp [h1], by rw [List.length_append, flatOf_append, flatOf_one]; exact on, fun i hi => ?_⟩
  rw [List.length_append, List.length_cons, List.length_nil] at hi
  by_cases hi' : i < L.length
  · rw [cat_lt _ _ _ (by omega), at_lt _ _ _ hi']
    have := h7 i hi'
    exact ⟨keepL this.1, keepS this.2⟩
  · obtain rfl : i = L.length := by omega
    rw [at_last, show cat (cs ++ [(vl, xv)]) L.length = (vl, xv) by rw [← h1]; exact cat_last _ _]
    exact ⟨keepL hl, keepS hx⟩
end Go.Proofs.Ytncjagdnebpaaaa.Row
