/- My own texts of one claim, laid together by program: Rw, Flat, MatLaw, Rd. -/
import Derived.Test.YtkmoekbicbjdmaaDoorGbf620389e9
import Derived.Deep.AppendLies
import Derived.Laws.AppendOwnNone
import Derived.Maps.AppendAt
import Derived.Deep.Slices
import Derived.ChangeArms
/- Slices in memory, whatever their elements: what lies in them, what a row of the call's own keeps, what a store into one block leaves. No condition. -/
namespace Go.Proofs.YtkmoekbicbjdmaaDoor.Rw
open Go.RowKit
theorem alloc_at {W : World} {o : Obj} {B : Nat} (h : B = W.heap.size) : (W.alloc o).heap[B]? = some o := by rw [h]; exact heap_alloc_new W o
/-- a slice of n elements of so many cells each, which hold xs; its address is open, where there are some it has one -/
def Lies (w : World) (v : Value) (n size : Nat) (xs : List Value) : Prop :=
  xs.length = n * size ∧ ∃ a cap, v = .slice a n cap ∧ n ≤ cap ∧ cap ≤ maxLen ∧ (a = none → cap = 0) ∧
    (0 < n → ∃ b off, a = some ⟨b, off, none⟩ ∧ b < w.heap.size ∧ ∀ (j : Nat) u, xs[j]? = some u → w.cell? ⟨b, off + j, none⟩ = some u)
theorem Lies.below {w w' : World} {v : Value} {n size : Nat} {xs : List Value} (h : Lies w v n size xs) (hb : Below w.heap.size w w') : Lies w' v n size xs := by
  obtain ⟨h0, a, cap, h1, h2, h3, h4, h5⟩ := h
  refine ⟨h0, a, cap, h1, h2, h3, h4, fun hn => ?_⟩
  obtain ⟨b, off, e, hl, hc⟩ := h5 hn
  exact ⟨b, off, e, by have := hb.size; omega, fun j u hj => (hb.cell (p := ⟨b, off + j, none⟩) hl).trans (hc j u hj)⟩
theorem own_lt {w : World} {base : Nat} {e : TypeId} {size g n cap m : Nat} {xs : List Value} (h : w.ownsRow base e size (.slice (some ⟨g, 0, none⟩) n cap) m xs) : g < w.heap.size := by
  rcases h.2 with ⟨h1, _⟩ | ⟨g', cap', cur, h1, _, hg, _⟩
  · cases h1
  · simp only [Value.slice.injEq, Option.some.injEq, Addr.mk.injEq, and_true] at h1
    rcases Nat.lt_or_ge g w.heap.size with hl | hl
    · exact hl
    · rw [h1.1] at hl
      rw [Array.getElem?_eq_none hl] at hg; cases hg
theorem own_block_lt {w : World} {base : Nat} {e : TypeId} {size n : Nat} {v : Value} {xs : List Value} (h : w.ownsRow base e size v n xs) : ∀ k, v.ownBlock = some k → k < w.heap.size := by
  intro k hk
  rcases h.2 with ⟨rfl, _⟩ | ⟨g, cap, cur, rfl, _, hg, _⟩
  · cases hk
  · simp only [Value.ownBlock, Option.some.injEq] at hk
    subst hk
    rcases Nat.lt_or_ge g w.heap.size with hl | hl
    · exact hl
    · rw [Array.getElem?_eq_none hl] at hg; cases hg
theorem own_below {w w' : World} {base : Nat} {e : TypeId} {size n : Nat} {v : Value} {xs : List Value} (h : w.ownsRow base e size v n xs) (hb : Below w.heap.size w w') : w'.ownsRow base e size v n xs := by
  refine ⟨h.1, ?_⟩
  rcases h.2 with h1 | ⟨g, cap, cur, h1, h2, hg, h3⟩
  · exact .inl h1
  · right
    refine ⟨g, cap, cur, h1, h2, ?_, h3⟩
    rw [hb.block g ?_]
    · exact hg
    · rcases Nat.lt_or_ge g w.heap.size with hl | hl
      · exact hl
      · rw [Array.getElem?_eq_none hl] at hg; cases hg
theorem own_mono {w : World} {b b' : Nat} {e : TypeId} {size n : Nat} {v : Value} {xs : List Value} (h : w.ownsRow b e size v n xs) (hb : b' ≤ b) : w.ownsRow b' e size v n xs := by
  refine ⟨h.1, ?_⟩
  rcases h.2 with h1 | ⟨g, cap, cur, h1, h2, h3⟩
  · exact .inl h1
  · exact .inr ⟨g, cap, cur, h1, by omega, h3⟩
/-- a row of the call's own lies there -/
theorem lies_of_own {w : World} {base : Nat} {e : TypeId} {size n : Nat} {v : Value} {xs : List Value} (h : w.ownsRow base e size v n xs) : Lies w v n size xs := by
  refine ⟨h.1, ?_⟩
  rcases h.2 with ⟨h1, h2⟩ | ⟨g, cap, cur, rfl, hb, hg, h3, h4, h5, h6⟩
  · subst h1 h2
    exact ⟨none, 0, rfl, Nat.le_refl _, Nat.zero_le _, fun _ => rfl, fun h => by omega⟩
  · have hlt : g < w.heap.size := by
      rcases Nat.lt_or_ge g w.heap.size with hl | hl
      · exact hl
      · rw [Array.getElem?_eq_none hl] at hg; cases hg
    refine ⟨_, cap, rfl, h3, h4, fun e => (by cases e), fun _ => ⟨g, 0, rfl, hlt, fun j u hu => ?_⟩⟩
    rw [Nat.zero_add]
    have hj := (List.getElem?_eq_some_iff.1 hu).1
    have := h.1
    rw [h.cellAt j (by omega)]
    exact hu
/-- all but block g is as it was -/
structure OnlyAt (g : Nat) (w w' : World) : Prop where
  os : w'.os = w.os
  tape : w'.tape = w.tape
  output : w'.output = w.output
  size : w'.heap.size = w.heap.size
  block : ∀ k, k ≠ g → w'.heap[k]? = w.heap[k]?
theorem OnlyAt.refl (g : Nat) (w : World) : OnlyAt g w w := ⟨rfl, rfl, rfl, rfl, fun _ _ => rfl⟩
theorem OnlyAt.trans {g : Nat} {a b c : World} (h : OnlyAt g a b) (h' : OnlyAt g b c) : OnlyAt g a c :=
  ⟨h'.os.trans h.os, h'.tape.trans h.tape, h'.output.trans h.output, h'.size.trans h.size, fun k hk => (h'.block k hk).trans (h.block k hk)⟩
theorem OnlyAt.setCell {g : Nat} {a b : World} (h : OnlyAt g a b) (j : Nat) (u : Value) : OnlyAt g a (b.setCell ⟨g, j, none⟩ u) :=
  h.trans ⟨rfl, rfl, rfl, by simp [World.setCell], fun k hk => Below.heap_setCell _ _ _ _ hk⟩
theorem OnlyAt.below {g B : Nat} {a b : World} (h : OnlyAt g a b) (hB : B ≤ g) : Below B a b :=
  ⟨h.os, h.tape, h.output, Nat.le_of_eq h.size.symm, fun k hk => h.block k (by omega)⟩
theorem OnlyAt.lies {g : Nat} {a b : World} (h : OnlyAt g a b) {v : Value} {n size : Nat} {xs : List Value} (hs : Lies a v n size xs) (hv : ∀ k, v.ownBlock = some k → k ≠ g) : Lies b v n size xs := by
  obtain ⟨h0, ad, cap, h1, h2, h3, h4, h5⟩ := hs
  refine ⟨h0, ad, cap, h1, h2, h3, h4, fun hn => ?_⟩
  obtain ⟨c, off, e, hl, hc⟩ := h5 hn
  have hne : c ≠ g := hv c (by rw [h1, e]; rfl)
  exact ⟨c, off, e, by rw [h.size]; exact hl, fun j u hj => (World.cell?_of_block (a := ⟨c, off + j, none⟩) (h.block c hne)).trans (hc j u hj)⟩
theorem OnlyAt.own {g : Nat} {a b : World} (h : OnlyAt g a b) {base n size : Nat} {e : TypeId} {v : Value} {xs : List Value} (ho : a.ownsRow base e size v n xs) (hv : ∀ k, v.ownBlock = some k → k ≠ g) : b.ownsRow base e size v n xs := by
  refine ⟨ho.1, ?_⟩
  rcases ho.2 with h1 | ⟨c, cap, cur, h1, h2, h3, h4⟩
  · exact .inl h1
  · exact .inr ⟨c, cap, cur, h1, h2, by rw [h.block c (hv c (by rw [h1]; rfl))]; exact h3, h4⟩
/-- append of whatever slice onto a row of the call's own -/
theorem run_app {P : Program} (w : World) (base : Nat) (t ty e : TypeId) (i : TypeInfo) (z : Value) (size bytes : Nat) (ht : P.underlying t = some (.slice e)) (hi : P.info? e = some i) (hz : i.zero = some z)
    (hsize : i.size = size) (hby : i.bytes = bytes) (hzs : z.cells.size = size) (hsz : 0 < size)
    (v : Value) (n : Nat) (xs : List Value) (hown : w.ownsRow base e size v n xs) (X : Value) (m : Nat) (news : List Value) (hX : Lies w X m size news) (h1 : ∀ u ∈ news, u.oneCell' = true)
    (h63 : n + m ≤ maxLen) (hbytes : (n + m) * bytes ≤ 140737488355328) (hbase : base ≤ w.heap.size) :
    ∃ v' w', (Builtin.append_ #[t, t] ty #[v, X]).run P w = .ok v' w' ∧ w'.ownsRow base e size v' (n + m) (xs ++ news) ∧ w.grownBy w' v.ownBlock ∧ (v'.ownBlock = v.ownBlock ∨ v'.ownBlock = some w.heap.size) := by
  obtain ⟨h0, a, c, rfl, hc, hm, hn, hr⟩ := hX
  cases a with
  | none =>
    obtain rfl : c = 0 := hn rfl
    obtain rfl : m = 0 := by omega
    obtain rfl : news = [] := List.eq_nil_of_length_eq_zero (by omega)
    refine ⟨v, w, run_append_owned_none (P := P) (w := w) base t ty e i size ht hi v n xs hown, by rw [List.append_nil]; exact hown, ⟨rfl, rfl, rfl, Nat.le_refl _, fun _ _ _ => rfl⟩, .inl rfl⟩
  | some ad =>
    obtain ⟨v', w', hr', h2, h3, _, h5⟩ := run_append_own_at (P := P) w base t ty e i z size bytes ht hi hz hsize hby hzs hsz v n xs hown ad m c news h0 (by
      intro j u hu
      by_cases h0m : 0 < m
      · obtain ⟨b, off, e, _, hcell⟩ := hr h0m
        cases e
        rw [Go.WideShapes.add_plain]
        exact hcell j u hu
      · obtain rfl : m = 0 := by omega
        obtain rfl : news = [] := List.eq_nil_of_length_eq_zero (by omega)
        simp at hu) h1 h63 hbytes hbase
    exact ⟨v', w', hr', h2, h3, h5⟩
theorem app_wp {P : Program} (w : World) {ops : Array Oper} {rest : List Oper} {o : Oper} {a : Act} {Q : Exit → Act → World → Prop} (hgd : o.guard = none) (s x : Operand) (t : TypeId)
    (ho : o.op = .call { callee := .builtin .append, args := #[s, x], argTypes := #[t, t] })
    (base : Nat) (e : TypeId) (i : TypeInfo) (z : Value) (size bytes : Nat) (ht : P.underlying t = some (.slice e)) (hi : P.info? e = some i) (hz : i.zero = some z)
    (hsize : i.size = size) (hby : i.bytes = bytes) (hzs : z.cells.size = size) (hsz : 0 < size)
    (v : Value) (n : Nat) (xs : List Value) (hs : a.eval s = v) (hown : w.ownsRow base e size v n xs)
    (X : Value) (m : Nat) (news : List Value) (hx : a.eval x = X) (hX : Lies w X m size news) (h1 : ∀ u ∈ news, u.oneCell' = true)
    (h63 : n + m ≤ maxLen) (hbytes : (n + m) * bytes ≤ 140737488355328) (hbase : base ≤ w.heap.size)
    (h : ∀ v' w', w'.ownsRow base e size v' (n + m) (xs ++ news) → w.grownBy w' v.ownBlock → (v'.ownBlock = v.ownBlock ∨ v'.ownBlock = some w.heap.size) → wpList P ops Q rest (a.put o.dst v') w') : wpList P ops Q (o :: rest) a w := by
  refine wpList_plain hgd fun K hK => ?_
  obtain ⟨v', w', hr, h2, h3, h4⟩ := run_app (P := P) w base t o.type e i z size bytes ht hi hz hsize hby hzs hsz v n xs hown X m news hX h1 h63 hbytes hbase
  unfold Oper.wp execOp
  simp only [ho, resolve, invoke, builtin, Sem.run_bind, Sem.run_pure, Result.andThen_ok, List.map_toArray, List.map_cons, List.map_nil, hs, hx, hr]
  exact hK _ _ (h v' w' h2 h3 h4)
theorem app_step {P : Program} (w : World) {ops : Array Oper} {o : Oper} {a : Act} {K : Act → World → Prop} {Q : Exit → Act → World → Prop} {E : Prop} (hgd : o.guard = none) (s x : Operand) (t : TypeId)
    (ho : o.op = .call { callee := .builtin .append, args := #[s, x], argTypes := #[t, t] })
    (base : Nat) (e : TypeId) (i : TypeInfo) (z : Value) (size bytes : Nat) (ht : P.underlying t = some (.slice e)) (hi : P.info? e = some i) (hz : i.zero = some z)
    (hsize : i.size = size) (hby : i.bytes = bytes) (hzs : z.cells.size = size) (hsz : 0 < size)
    (v : Value) (n : Nat) (xs : List Value) (hs : a.eval s = v) (hown : w.ownsRow base e size v n xs)
    (X : Value) (m : Nat) (news : List Value) (hx : a.eval x = X) (hX : Lies w X m size news) (h1 : ∀ u ∈ news, u.oneCell' = true)
    (h63 : n + m ≤ maxLen) (hbytes : (n + m) * bytes ≤ 140737488355328) (hbase : base ≤ w.heap.size)
    (h : ∀ v' w', w'.ownsRow base e size v' (n + m) (xs ++ news) → w.grownBy w' v.ownBlock → (v'.ownBlock = v.ownBlock ∨ v'.ownBlock = some w.heap.size) → K (a.put o.dst v') w') :
    if Region.wanted o (yielded ops a.tmps) = true then Oper.wp P o a w K Q else E := by
  have hw : Region.wanted o (yielded ops a.tmps) = true := by simp [Region.wanted, hgd]
  rw [if_pos hw]
  obtain ⟨v', w', hr, h2, h3, h4⟩ := run_app (P := P) w base t o.type e i z size bytes ht hi hz hsize hby hzs hsz v n xs hown X m news hX h1 h63 hbytes hbase
  unfold Oper.wp execOp
  simp only [ho, resolve, invoke, builtin, Sem.run_bind, Sem.run_pure, Result.andThen_ok, List.map_toArray, List.map_cons, List.map_nil, hs, hx, hr]
  exact h v' w' h2 h3 h4
/-- what a new block of cells holds, as a slice of one element, or of several -/
theorem lies_new {w : World} {cs : Array Value} {t : TypeId} {n size B : Nat} (hB : B = w.heap.size) (h : cs.size = n * size) (hn : n ≤ maxLen) : Lies (w.alloc (.cells cs t)) (.slice (some ⟨B, 0, none⟩) n n) n size cs.toList := by
  subst hB
  refine ⟨by simpa using h, _, n, rfl, Nat.le_refl _, hn, fun e => (by cases e), fun _ => ⟨_, 0, rfl, by simp, fun j u hu => ?_⟩⟩
  have := World.news_of_block (heap_alloc_new w (.cells cs t)) j u hu
  rw [Nat.zero_add]
  rwa [Go.WideShapes.add_plain, Nat.zero_add] at this
theorem Lies.drew {w : World} {v : Value} {n size : Nat} {xs : List Value} (h : Lies w v n size xs) : Lies w.drew v n size xs := h.below (Below.refl _ _).drew
theorem Lies.alloc {w : World} {v : Value} {n size : Nat} {xs : List Value} (h : Lies w v n size xs) (o : Obj) : Lies (w.alloc o) v n size xs := h.below ((Below.refl _ _).alloc (Nat.le_refl _) _)
/-- what lies elsewhere than in the row that grew lies there still -/
theorem Lies.grown {w w' : World} {v : Value} {n size : Nat} {xs : List Value} {row : Option Nat} (h : Lies w v n size xs) (hg : w.grownBy w' row) (hne : ∀ k, v.ownBlock = some k → row ≠ some k) : Lies w' v n size xs := by
  obtain ⟨h0, a, cap, h1, h2, h3, h4, h5⟩ := h
  refine ⟨h0, a, cap, h1, h2, h3, h4, fun hn => ?_⟩
  obtain ⟨b, off, e, hl, hc⟩ := h5 hn
  have hz := hg.size
  exact ⟨b, off, e, by omega, fun j u hj => (hg.cell_far ⟨b, off + j, none⟩ hl (fun e' => hne b (by rw [h1, e]; rfl) e'.symm)).trans (hc j u hj)⟩
/-- what a slice of n elements is cut to from i on -/
theorem cut_lies {w : World} {a : Option Addr} {n cap size i : Nat} {xs : List Value} (h : Lies w (.slice a n cap) n size xs) (hi : i ≤ n) :
    Lies w (.slice (if cap = i then a else a.map (·.add (i * size))) (n - i) (cap - i)) (n - i) size (xs.drop (i * size)) := by
  obtain ⟨h0, a', cap', h1, h2, h3, h4, h5⟩ := h
  simp only [Value.slice.injEq, true_and] at h1
  obtain ⟨rfl, rfl⟩ := h1
  refine ⟨by rw [List.length_drop, h0, Nat.sub_mul], _, _, rfl, by omega, by omega, ?_, fun hn => ?_⟩
  · intro hnone
    have ha : a = none := by
      split at hnone
      · exact hnone
      · simpa using hnone
    have := h4 ha
    omega
  · obtain ⟨b, off, e, hl, hc⟩ := h5 (by omega)
    subst e
    rw [if_neg (by omega)]
    refine ⟨b, off + i * size, by simp [Go.WideShapes.add_plain], hl, fun j u hj => ?_⟩
    rw [List.getElem?_drop] at hj
    have := hc _ u hj
    rwa [← Nat.add_assoc] at this
theorem take_lies {w : World} {a : Option Addr} {N cap size k : Nat} {xs : List Value} (h : Lies w (.slice a N cap) N size xs) (hk : k ≤ N) : Lies w (.slice a k cap) k size (xs.take (k * size)) := by
  obtain ⟨hl, a', cap', h1, hc, hm, hnn, hr⟩ := h
  simp only [Value.slice.injEq, true_and] at h1
  obtain ⟨rfl, rfl⟩ := h1
  refine ⟨by rw [List.length_take, hl]; exact Nat.min_eq_left (Nat.mul_le_mul_right _ hk), a, cap, rfl, by omega, hm, hnn, fun h0 => ?_⟩
  obtain ⟨b, off, e, hb, hcell⟩ := hr (by omega)
  refine ⟨b, off, e, hb, fun j u hj => hcell j u ?_⟩
  rw [List.getElem?_take] at hj
  split at hj
  · exact hj
  · cases hj
end Go.Proofs.YtkmoekbicbjdmaaDoor.Rw

/- Slices of elements of some cells each, told by what each element's cells hold: a slice that came in, opened. No condition. -/
namespace Go.Proofs.YtkmoekbicbjdmaaDoor.Rw
open Go.RowKit Go.ChangeShapes Go.WideShapes
def flatOf {α : Type} (fl : α → List Value) (zs : List α) : List Value := zs.flatMap fl
theorem flatOf_nil {α : Type} (fl : α → List Value) : flatOf fl [] = [] := rfl
theorem flatOf_append {α : Type} (fl : α → List Value) (a b : List α) : flatOf fl (a ++ b) = flatOf fl a ++ flatOf fl b := by simp [flatOf]
theorem flatOf_one {α : Type} (fl : α → List Value) (x : α) : flatOf fl [x] = fl x := by simp [flatOf]
theorem flatOf_cons {α : Type} (fl : α → List Value) (x : α) (zs : List α) : flatOf fl (x :: zs) = fl x ++ flatOf fl zs := by simp [flatOf]
theorem flatOf_length {α : Type} {fl : α → List Value} {k : Nat} (hk : ∀ x, (fl x).length = k) (zs : List α) : (flatOf fl zs).length = zs.length * k := by
  induction zs with
  | nil => simp [flatOf]
  | cons x zs ih => rw [show x :: zs = [x] ++ zs from rfl, flatOf_append, List.length_append, ih, flatOf_one, hk, List.length_append, Nat.add_mul]; simp
theorem flatOf_get {α : Type} {fl : α → List Value} {k : Nat} (hk : ∀ x, (fl x).length = k) : ∀ (zs : List α) (i c : Nat) (h : i < zs.length), c < k → (flatOf fl zs)[i * k + c]? = (fl zs[i])[c]?
  | x :: zs, 0, c, _, hc => by
    rw [flatOf_cons, Nat.zero_mul, Nat.zero_add, List.getElem?_append_left (by rw [hk]; exact hc)]
    rfl
  | x :: zs, i + 1, c, h, hc => by
    have ih := flatOf_get hk zs i c (by simpa using h) hc
    rw [flatOf_cons, List.getElem?_append_right (by rw [hk, Nat.add_mul]; omega), hk, show (i + 1) * k + c - k = i * k + c from by rw [Nat.add_mul]; omega, ih]
    rfl
theorem flatOf_drop {α : Type} {fl : α → List Value} {k : Nat} (hk : ∀ x, (fl x).length = k) (zs : List α) (i : Nat) : flatOf fl (zs.drop i) = (flatOf fl zs).drop (i * k) := by
  induction i generalizing zs with
  | zero => simp
  | succ i ih =>
    cases zs with
    | nil => simp [flatOf]
    | cons x zs =>
      rw [List.drop_succ_cons, ih zs, show x :: zs = [x] ++ zs from rfl, flatOf_append, flatOf_one, Nat.add_mul, Nat.one_mul, Nat.add_comm, ← List.drop_drop, List.drop_left' (hk x)]
theorem flatOf_take {α : Type} {fl : α → List Value} {k : Nat} (hk : ∀ x, (fl x).length = k) (zs : List α) (i : Nat) : flatOf fl (zs.take i) = (flatOf fl zs).take (i * k) := by
  have h := flatOf_append fl (zs.take i) (zs.drop i)
  rw [List.take_append_drop] at h
  rw [h]
  rcases Nat.lt_or_ge zs.length i with hl | hl
  · rw [List.take_of_length_le (by omega), List.drop_eq_nil_of_le (by omega), flatOf_nil, List.append_nil, List.take_of_length_le]
    rw [flatOf_length hk]; exact Nat.mul_le_mul_right _ (by omega)
  · have : (flatOf fl (zs.take i)).length = i * k := by rw [flatOf_length hk, List.length_take, Nat.min_eq_left hl]
    rw [← this, List.take_left]
/-- a slice that came in, its elements decoded one by one -/
theorem open_flat {H : Type} {enc : TypeId × Value → H} {W : World} {t e : TypeId} {a : Option Addr} {len cap k : Nat} {d : DataW H} {p : List MemPlace} {α : Type} {fl : α → List Value} {good : α → Prop} [Inhabited α]
    (hk : ∀ x, (fl x).length = k) (ht : Tryd.prog.underlying t = some (.slice e)) (ce : Tryd.prog.cellsOf e = k)
    (dec : ∀ (n : Nat) (cs : List Value) y, cs.length = k → DataW.trod enc Tryd.prog W 0 (fun _ => true) true n e cs = some y → ∃ x : α, cs = fl x ∧ good x) (hk0 : 0 < k)
    (h : DataW.Trod enc Tryd.prog W 0 (fun _ => true) true t (.slice a len cap) d p) : ∃ zs : List α, zs.length = len ∧ len ≤ maxLen ∧ Lies W (.slice a len cap) len k (flatOf fl zs) ∧ ∀ x ∈ zs, good x := by
  obtain ⟨fuel, hf⟩ := h
  rcases Go.Deep.open_slice ht hf with ⟨hcs, _⟩ | ⟨x, l, c, m, n, D, Pl, hcs, _, hl, hm, hmm, _, hx⟩
  · simp [Value.cells] at hcs
    obtain ⟨rfl, rfl, rfl⟩ := hcs
    exact ⟨[], rfl, Nat.zero_le _, ⟨by simp [flatOf], none, 0, rfl, Nat.le_refl _, Nat.zero_le _, fun _ => rfl, fun h => by omega⟩, fun x hx => by cases hx⟩
  · simp [Value.cells] at hcs
    obtain ⟨rfl, rfl, rfl⟩ := hcs
    simp only [if_true] at hmm
    subst hmm
    have each : ∀ i, i < m → ∃ q : α, (∀ j u, (fl q)[j]? = some u → W.cell? (x.add (i * k + j)) = some u) ∧ good q := by
      intro i hi
      obtain ⟨cs', h1, h2⟩ := hx i hi
      rw [ce] at h1
      obtain ⟨_, hlen, hcell⟩ := World.cells?_some h1
      obtain ⟨q, hq, hg⟩ := dec n cs' _ hlen h2
      refine ⟨q, fun j u hj => ?_, hg⟩
      have hj' := (List.getElem?_eq_some_iff.1 hj).1
      rw [hk] at hj'
      have e0 := hcell j hj'
      rw [Go.Deep.add_add] at e0
      rw [e0, hq, hj]
    obtain ⟨q, hq⟩ := Go.Deep.choose_lt each
    refine ⟨(List.range len).map q, by simp, by omega, ⟨by rw [flatOf_length hk]; simp, some x, m, rfl, hl, hm, fun e => (by cases e), fun h0 => ?_⟩, ?_⟩
    · obtain ⟨b, off, spot⟩ := x
      have c0 : ∃ u, W.cell? ((⟨b, off, spot⟩ : Addr).add 0) = some u := by
        have hlk : 0 < (fl (q 0)).length := by rw [hk]; exact hk0
        refine ⟨(fl (q 0))[0], ?_⟩
        have := (hq 0 (by omega)).1 0 _ (List.getElem?_eq_getElem hlk)
        simpa using this
      obtain ⟨u0, c0⟩ := c0
      have hspot : spot = none := by simpa [Addr.add] using World.cell?_spot c0
      subst hspot
      refine ⟨b, off, rfl, World.block_lt_of_cell? W ⟨b, _, none⟩ c0, fun j u hj => ?_⟩
      have hj' := (List.getElem?_eq_some_iff.1 hj).1
      rw [flatOf_length hk] at hj'
      simp only [List.length_map, List.length_range] at hj'
      have hdiv : j / k < len := Nat.div_lt_of_lt_mul (by rw [Nat.mul_comm]; exact hj')
      have hmod : j % k < k := Nat.mod_lt _ hk0
      have hdm : j / k * k + j % k = j := by rw [Nat.mul_comm]; exact Nat.div_add_mod j k
      have hg := flatOf_get hk ((List.range len).map q) (j / k) (j % k) (by simpa using hdiv) hmod
      rw [hdm] at hg
      rw [hg] at hj
      have hx' : ((List.range len).map q)[j / k]'(by simpa using hdiv) = q (j / k) := by simp
      rw [hx'] at hj
      have := (hq (j / k) (by omega)).1 _ u hj
      rw [hdm] at this
      rwa [add_plain] at this
    · intro y hy
      obtain ⟨i, hi, rfl⟩ := List.mem_map.1 hy
      exact (hq i (by have := List.mem_range.1 hi; omega)).2
end Go.Proofs.YtkmoekbicbjdmaaDoor.Rw

/- What the laws' own helpers do with slices of impl.Match: they are copied, held against each other, and counted. -/
namespace Go.Proofs.YtkmoekbicbjdmaaDoor.Mat
open Go.RowKit Rw
set_option linter.unusedVariables false
attribute [local go_sem ↓] Go.wp_at_zero Go.wp_at_succ
abbrev E := Int × ByteArray × ByteArray
def fl (x : E) : List Value := [.int .i64 (x.1), .string (x.2.1), .string (x.2.2)]
theorem flk (x : E) : (fl x).length = 3 := rfl
def at' (zs : List E) (i : Nat) : E := zs.getD i default
abbrev flat (zs : List E) : List Value := flatOf fl zs
abbrev Is (w : World) (v : Value) (zs : List E) : Prop := Lies w v zs.length 3 (flat zs)
theorem flat_length (zs : List E) : (flat zs).length = zs.length * 3 := flatOf_length flk zs
theorem flat_oneCell (zs : List E) : ∀ u ∈ flat zs, u.oneCell' = true := by
  intro u hu
  obtain ⟨x, _, hx⟩ := List.mem_flatMap.1 hu
  simp only [fl, List.mem_cons, List.not_mem_nil, or_false] at hx
  rcases hx with rfl | rfl | rfl <;> rfl
theorem at_get (zs : List E) (i : Nat) (h : i < zs.length) : at' zs i = zs[i] := by simp [at', List.getD, h]
theorem at_snoc (zs : List E) (i : Nat) (h : i < zs.length) : zs.take (i + 1) = zs.take i ++ [at' zs i] := by rw [List.take_succ_eq_append_getElem h, at_get zs i h]
theorem flat_at (zs : List E) (i : Nat) (h : i < zs.length) : (flat zs)[i * 3]? = some (.int .i64 ((at' zs i).1)) ∧ (flat zs)[i * 3 + 1]? = some (.string ((at' zs i).2.1)) ∧ (flat zs)[i * 3 + 2]? = some (.string ((at' zs i).2.2)) := by
  rw [at_get zs i h]
  exact ⟨flatOf_get flk zs i 0 h (by omega), flatOf_get flk zs i 1 h (by omega), flatOf_get flk zs i 2 h (by omega)⟩
theorem is_of_own {w : World} {base : Nat} {v : Value} {zs : List E} (h : w.ownsRow base 61 3 v zs.length (flat zs)) : Is w v zs := lies_of_own h
theorem info_e : (Tryd.prog.info? 61).map (fun i => (i.zero, i.size, i.bytes)) = some (some (.agg #[.int .i64 0, .string ByteArray.empty, .string ByteArray.empty]), 3, 40) := by kernel_rfl
def good (x : E) : Prop := (Lit.int .i64 (x.1)).wf = true ∧ (x.2.1).size ≤ maxLen ∧ (x.2.2).size ≤ maxLen
theorem set_e (A : List Value) (u0 u1 u2 x0 x1 x2 : Value) (L : List Value) (k : Nat) (h : A.length = k) : ((((A ++ u0 :: u1 :: u2 :: L).set k x0).set (k + 1) x1).set (k + 2) x2) = A ++ [x0, x1, x2] ++ L := by
  subst h
  simp [List.set_append_right]
theorem split_e (r : List Value) (n : Nat) (h : r.length = (n + 1) * 3) : ∃ u0 u1 u2 L, r = u0 :: u1 :: u2 :: L ∧ L.length = n * 3 := by
  match r, h with
  | u0 :: u1 :: u2 :: L, h => exact ⟨u0, u1, u2, L, rfl, by simp only [List.length_cons] at h; omega⟩
  | [], h => simp at h <;> omega
  | [_], h => simp at h <;> omega
  | [_, _], h => simp at h <;> omega
theorem eq_one (A : Int) (B : ByteArray) (C : ByteArray) (w : World) : Calls Tryd.prog 56 #[.agg #[.int .i64 A, .string B, .string C], .agg #[.int .i64 A, .string B, .string C]] w fun e w' => e = .returned (.bool true) ∧ Below w.heap.size w w' := by
  go_enter Tryd.func56, Tryd.ntmps56
  go_wp2
  go_ret
  exact ⟨rfl, ((Below.refl _ _).alloc (Nat.le_refl _) _).alloc (by simp) _⟩
set_option maxRecDepth 100000 in
set_option maxHeartbeats 2000000 in
theorem eq_any {v u : Value} {zs : List E} {w : World} (h : Is w v zs) (h' : Is w u zs) : Calls Tryd.prog 28 #[v, u] w fun e w' => e = .returned (.bool true) ∧ Below w.heap.size w w' := by
  obtain ⟨-, a, cap, rfl, hc, hm, -, hr⟩ := h
  obtain ⟨-, a', cap', rfl, hc', hm', -, hr'⟩ := h'
  unfold maxLen at hm hm'
  obtain ⟨n, hn⟩ : ∃ n, n = zs.length := ⟨_, rfl⟩
  rw [← hn] at hc hr hc' hr' ⊢
  have HN := hide hn
  clear hn
  go_enter Tryd.func28, Tryd.ntmps28
  go_wp2
  go_loopw [5] (fun i wr => ∃ (j : Nat), j ≤ n ∧ i = .int .i64 j ∧ Below w.heap.size w wr) (fun i _ => n - (intOf i).toNat)
  case atStart => exact ⟨0, Nat.zero_le _, rfl, Below.refl _ _⟩
  case round =>
    obtain ⟨j, hj, rfl, hbel⟩ := hrel
    have hsz := hbel.size
    by_cases hlt : j < n
    · obtain ⟨b, off, rfl, hl, hcells⟩ := hr (by omega)
      obtain ⟨b', off', rfl, hl', hcells'⟩ := hr' (by omega)
      have fa := flat_at zs j (by have := unhide HN; omega)
      obtain ⟨A, B, C, hX⟩ : ∃ A B C, (A, B, C) = at' zs j := ⟨_, _, _, rfl⟩
      rw [← hX] at fa
      have hq0 : ∀ x : Cls wr.heap.size wr, x.val.cell? ⟨b, off + j * 3, none⟩ = some (.int .i64 A) := fun x => by rw [x.cell (by omega)]; exact (hbel.cell (p := ⟨b, _, none⟩) hl).trans (hcells (j * 3) _ fa.1)
      have hp0 : ∀ x : Cls wr.heap.size wr, x.val.cell? ⟨b', off' + j * 3, none⟩ = some (.int .i64 A) := fun x => by rw [x.cell (by omega)]; exact (hbel.cell (p := ⟨b', _, none⟩) hl').trans (hcells' (j * 3) _ fa.1)
      have hq1 : ∀ x : Cls wr.heap.size wr, x.val.cell? ⟨b, off + j * 3 + 1, none⟩ = some (.string B) := fun x => by rw [x.cell (by omega)]; exact (hbel.cell (p := ⟨b, _, none⟩) hl).trans (hcells (j * 3 + 1) _ fa.2.1)
      have hp1 : ∀ x : Cls wr.heap.size wr, x.val.cell? ⟨b', off' + j * 3 + 1, none⟩ = some (.string B) := fun x => by rw [x.cell (by omega)]; exact (hbel.cell (p := ⟨b', _, none⟩) hl').trans (hcells' (j * 3 + 1) _ fa.2.1)
      have hq2 : ∀ x : Cls wr.heap.size wr, x.val.cell? ⟨b, off + j * 3 + 2, none⟩ = some (.string C) := fun x => by rw [x.cell (by omega)]; exact (hbel.cell (p := ⟨b, _, none⟩) hl).trans (hcells (j * 3 + 2) _ fa.2.2)
      have hp2 : ∀ x : Cls wr.heap.size wr, x.val.cell? ⟨b', off' + j * 3 + 2, none⟩ = some (.string C) := fun x => by rw [x.cell (by omega)]; exact (hbel.cell (p := ⟨b', _, none⟩) hl').trans (hcells' (j * 3 + 2) _ fa.2.2)
      have hk0 : (0 : Int) ≤ (j : Int) := Int.natCast_nonneg _
      have hk1 : (j : Int) < (n : Int) := by omega
      clear hX fa
      have hne := cls_nonempty wr.heap.size wr
      go_wp2_with fail
      refine region_cls (by kernel_rfl) (by kernel_rfl) ?_
      repeat (go_big_quiet_step ((go_at_call 56; exact cls_call (Nat.le_refl _) (eq_one _ _ _ _))))
      refine wpQuiet_nil ?_
      rintro wq ⟨⟨_, hq⟩, rfl⟩
      go_wp2
      go_roundw
      case rel => exact ⟨j + 1, by omega, by go_num, hbel.trans (hq.mono hsz)⟩
      case measure => simp [intOf]; omega
    · go_wp2
      go_ret
      exact ⟨rfl, hbel⟩
def tot (zs : List E) : Nat := zs.foldl (fun a x => a + ((x.2.1).size + (x.2.2).size)) zs.length
def totTo (zs : List E) (j : Nat) : Nat := (zs.take j).foldl (fun a x => a + ((x.2.1).size + (x.2.2).size)) zs.length
theorem totTo_succ (zs : List E) (j : Nat) (h : j < zs.length) : totTo zs (j + 1) = totTo zs j + (((at' zs j).2.1).size + ((at' zs j).2.2).size) := by
  unfold totTo
  rw [at_snoc zs j h, List.foldl_append]
  rfl
theorem totTo_mono (zs : List E) : ∀ (i j : Nat), i ≤ j → j ≤ zs.length → totTo zs i ≤ totTo zs j
  | i, 0, h, _ => by obtain rfl : i = 0 := by omega
                     exact Nat.le_refl _
  | i, j + 1, h, hj => by
    by_cases e : i = j + 1
    · subst e; exact Nat.le_refl _
    · have h1 := totTo_mono zs i j (by omega) (by omega)
      rw [totTo_succ zs j (by omega)]
      omega
theorem totTo_all (zs : List E) : totTo zs zs.length = tot zs := by unfold totTo tot; rw [List.take_of_length_le (Nat.le_refl _)]
theorem tot_len (zs : List E) : zs.length ≤ tot zs := by have := totTo_mono zs 0 zs.length (Nat.zero_le _) (Nat.le_refl _); rw [totTo_all] at this; unfold totTo at this; simpa using this
theorem tot_at (zs : List E) (j : Nat) (h : j < zs.length) : ((at' zs j).2.1).size + ((at' zs j).2.2).size ≤ tot zs := by
  have h1 := totTo_succ zs j h
  have h2 := totTo_mono zs (j + 1) zs.length (by omega) (Nat.le_refl _)
  rw [totTo_all] at h2
  omega
end Go.Proofs.YtkmoekbicbjdmaaDoor.Mat

/- The laws draw their inputs from bytes: what is drawn lies within bounds, and nothing that lay there is turned. -/
namespace Go.Proofs.YtkmoekbicbjdmaaDoor.Draw
open Go.RowKit Rw
set_option linter.unusedVariables false
attribute [local go_sem ↓] Go.wp_at_zero Go.wp_at_succ
/-- bytes that can be read -/
def Bytes (w : World) (rb : Nat) (a : Option Addr) (len : Nat) : Prop :=
  len ≤ 2000 ∧ (0 < len → ∃ b off, a = some ⟨b, off, none⟩ ∧ b < rb ∧ ∀ i, i < len → ∃ c : Nat, c < 256 ∧ w.cell? ⟨b, off + i, none⟩ = some (.int .u8 (c : Int)))
/-- a reader at place p, in block rb -/
def Rd (w : World) (rb p : Nat) : Prop := ∃ a len cap, w.heap[rb]? = some (.cells #[.slice a len cap, .int .i64 (p : Int)] 74 (0, 0)) ∧ len ≤ cap ∧ cap ≤ maxLen ∧ Bytes w rb a len
theorem Rd.lt {w : World} {rb p : Nat} (h : Rd w rb p) : rb < w.heap.size := by
  obtain ⟨a, len, cap, hb, _⟩ := h
  rcases Nat.lt_or_ge rb w.heap.size with hl | hl
  · exact hl
  · rw [Array.getElem?_eq_none hl] at hb; cases hb
theorem Rd.below {w w' : World} {rb p : Nat} (h : Rd w rb p) (hb : Below w.heap.size w w') : Rd w' rb p := by
  have hl := h.lt
  obtain ⟨a, len, cap, h1, h2, h3, h4, h5⟩ := h
  refine ⟨a, len, cap, by rw [hb.block rb hl]; exact h1, h2, h3, h4, fun h0 => ?_⟩
  obtain ⟨b, off, e, hbr, hc⟩ := h5 h0
  exact ⟨b, off, e, hbr, fun i hi => by obtain ⟨c, hc1, hc2⟩ := hc i hi; exact ⟨c, hc1, (hb.cell (p := ⟨b, off + i, none⟩) (show b < w.heap.size by omega)).trans hc2⟩⟩
/-- behind the step of the reader's place -/
theorem rd_step {w : World} {rb p : Nat} {a : Option Addr} {len cap : Nat} (h1 : w.heap[rb]? = some (.cells #[.slice a len cap, .int .i64 (p : Int)] 74 (0, 0))) (h2 : len ≤ cap) (h3 : cap ≤ maxLen) (hB : Bytes w rb a len) (v : Int) (hv : v = ((p + 1 : Nat) : Int)) :
    Rd (w.setCell ⟨rb, 1, none⟩ (.int .i64 v)) rb (p + 1) ∧ OnlyAt rb w (w.setCell ⟨rb, 1, none⟩ (.int .i64 v)) := by
  subst hv
  refine ⟨⟨a, len, cap, ?_, h2, h3, hB.1, fun h0 => ?_⟩, (OnlyAt.refl _ _).setCell 1 _⟩
  · rw [heap_setCell_same w rb 1 _ _ _ h1]; rfl
  · obtain ⟨b, off, e, hbr, hc⟩ := hB.2 h0
    refine ⟨b, off, e, hbr, fun i hi => ?_⟩
    obtain ⟨c, hc1, hc2⟩ := hc i hi
    refine ⟨c, hc1, ?_⟩
    rw [← hc2]
    exact World.cell?_of_block (a := ⟨b, off + i, none⟩) (heap_setCell_other w ⟨rb, 1, none⟩ b _ (by show b ≠ rb; omega))
theorem grown_trans {a b c : World} {r : Option Nat} (h : a.grownBy b r) (h' : b.grownBy c r) : a.grownBy c r :=
  ⟨h'.os.trans h.os, h'.tape.trans h.tape, h'.output.trans h.output, Nat.le_trans h.size h'.size, fun k hk hr => (h'.block k (Nat.lt_of_lt_of_le hk h.size) hr).trans (h.block k hk hr)⟩
theorem grown_only {a b : World} {g : Nat} (h : OnlyAt g a b) : a.grownBy b (some g) := ⟨h.os, h.tape, h.output, Nat.le_of_eq h.size.symm, fun k _ hr => h.block k (fun e => hr (by rw [e]))⟩
theorem grown_below {a b : World} {r : Option Nat} (h : Below a.heap.size a b) : a.grownBy b r := ⟨h.os, h.tape, h.output, h.size, fun k hk _ => h.block k hk⟩
theorem grown_refl (a : World) (r : Option Nat) : a.grownBy a r := ⟨rfl, rfl, rfl, Nat.le_refl _, fun _ _ _ => rfl⟩
theorem below_of_grown {a b : World} {g B : Nat} (h : a.grownBy b (some g)) (hB : B ≤ g) (hs : B ≤ a.heap.size) : Below B a b := ⟨h.os, h.tape, h.output, h.size, fun k hk => h.block k (by omega) (by simp; omega)⟩
theorem grown_cell {a b : World} {g c o : Nat} (h : a.grownBy b (some g)) (hc : c < a.heap.size) (hne : c ≠ g) : b.cell? ⟨c, o, none⟩ = a.cell? ⟨c, o, none⟩ := World.cell?_of_block (a := ⟨c, o, none⟩) (h.block c hc (by simpa using hne))
theorem rd_drew {w : World} {rb p : Nat} (h : Rd w rb p) : Rd w.drew rb p := h.below ((Below.refl _ _).drew)
theorem OnlyAt.drew {g : Nat} {a b : World} (h : OnlyAt g a b) : OnlyAt g a b.drew := ⟨h.os, h.tape, h.output, h.size, h.block⟩
theorem xor64_nat (X : Nat) (h : X < 9223372036854775808) : ∃ Y : Nat, Y < 9223372036854775808 ∧ bits .xor .i64 (X : Int) ((X : Int) / 64) = (Y : Int) := by
  refine ⟨X ^^^ (X / 64), ?_, ?_⟩
  · exact Nat.xor_lt_two_pow (n := 63) h (by omega)
  · rw [← i64_xor_nat X (X / 64) h (by omega)]; rfl
set_option maxRecDepth 100000 in
set_option maxHeartbeats 2000000 in
theorem pick_any (rb p : Nat) (n : Int) (w : World) (h : Rd w rb p) (hp : p ≤ 1000000) (hn : n ≤ 4294967296) :
    Calls Tryd.prog 44 #[.pointer (some ⟨rb, 0, none⟩), .int .i64 n] w fun e w' => ∃ x : Int, e = .returned (.int .i64 x) ∧ 0 ≤ x ∧ (1 ≤ n → x < n) ∧ (n < 1 → x = 0) ∧ Rd w' rb (p + 1) ∧ w.grownBy w' (some rb) := by
  obtain ⟨a, len, cap, h1, h2, h3, h4⟩ := h
  have c0 : w.cell? ⟨rb, 0, none⟩ = some (.slice a len cap) := by rw [cell_of_row w rb 0 _ _ _ h1]; rfl
  have c1 : w.cell? ⟨rb, 1, none⟩ = some (.int .i64 (p : Int)) := by rw [cell_of_row w rb 1 _ _ _ h1]; rfl
  have f1 : w.frozen? ⟨rb, 1, none⟩ = false := frozen_of_row w rb 1 _ _ h1
  have st := rd_step h1 h2 h3 h4 ((p : Int) + 1) (by omega)
  have HS := hide st
  have h5 := h4.1
  have H4 := hide h4
  clear st h1 h4
  unfold maxLen at h3
  have p0 : (0 : Int) ≤ (p : Int) := Int.natCast_nonneg _
  by_cases hn1 : n < 1
  · go_enter Tryd.func44, Tryd.ntmps44
    go_wp2
    go_ret
    exact ⟨0, rfl, by omega, by omega, by omega, (unhide HS).1, grown_only (unhide HS).2⟩
  by_cases hl0 : len = 0
  · have hz : ((len : Int) == 0) = true := by simp [hl0]
    go_enter Tryd.func44, Tryd.ntmps44
    go_wp2
    go_ret
    exact ⟨0, rfl, by omega, by omega, by omega, (unhide HS).1, grown_only (unhide HS).2⟩
  have hz : ((len : Int) == 0) = false := by simp; omega
  obtain ⟨b, off, rfl, hbr, hc⟩ := (unhide H4).2 (by omega)
  by_cases hpl : p < len
  · obtain ⟨c, hc1, hc2⟩ := hc p hpl
    have q0 : (p : Int) < (len : Int) := by omega
    have hbn : b ≠ rb := by omega
    clear hc
    go_enter Tryd.func44, Tryd.ntmps44
    go_wp2
    go_ret
    refine ⟨_, rfl, ?_, ?_, ?_, (unhide HS).1, grown_only (unhide HS).2⟩
    · exact Int.emod_nonneg _ (by omega)
    · exact Int.emod_lt_of_pos _ (by omega)
    · omega
  · have m1 : p % len < len := Nat.mod_lt _ (by omega)
    have m2 : (p * 7 + 3) % len < len := Nat.mod_lt _ (by omega)
    obtain ⟨c, hc1, hc2⟩ := hc (p % len) m1
    obtain ⟨d, hd1, hd2⟩ := hc ((p * 7 + 3) % len) m2
    obtain ⟨W, hW⟩ : ∃ W, W = w.setCell ⟨rb, 1, none⟩ (.int .i64 ((p : Int) + 1)) := ⟨_, rfl⟩
    have ho := (unhide HS).2
    rw [← hW] at ho
    have hlt := (unhide HS).1.lt
    rw [← hW] at hlt
    have hob : ∀ o, W.cell? ⟨b, o, none⟩ = w.cell? ⟨b, o, none⟩ := fun o => World.cell?_of_block (a := ⟨b, o, none⟩) (ho.block b (by omega))
    have q0 : ∀ x : Cls W.heap.size W, x.val.cell? ⟨rb, 0, none⟩ = some (.slice (some ⟨b, off, none⟩) len cap) := fun x => by
      rw [x.cell hlt, hW]
      rw [World.cell?_setCell_other _ _ _ _ (by simp)]
      exact c0
    have q1 : ∀ x : Cls W.heap.size W, x.val.cell? ⟨b, off + p % len, none⟩ = some (.int .u8 (c : Int)) := fun x => by rw [x.cell (by omega), hob]; exact hc2
    have q2 : ∀ x : Cls W.heap.size W, x.val.cell? ⟨b, off + (p * 7 + 3) % len, none⟩ = some (.int .u8 (d : Int)) := fun x => by rw [x.cell (by omega), hob]; exact hd2
    have hne := cls_nonempty W.heap.size W
    have HW := hide hW
    have hlen : 0 < len := by omega
    have i1 : (0 : Int) ≤ (p : Int) % (len : Int) := Int.emod_nonneg _ (by omega)
    have i2 : (p : Int) % (len : Int) < (len : Int) := Int.emod_lt_of_pos _ (by omega)
    have i3 : (0 : Int) ≤ ((p : Int) * 7 + 3) % (len : Int) := Int.emod_nonneg _ (by omega)
    have i4 : ((p : Int) * 7 + 3) % (len : Int) < (len : Int) := Int.emod_lt_of_pos _ (by omega)
    have i5 : (0 : Int) ≤ (p : Int) / (len : Int) := Int.ediv_nonneg (by omega) (by omega)
    have i6 : (p : Int) / (len : Int) ≤ 1000000 := Int.le_trans (Int.ediv_le_self _ (by omega)) (by omega)
    obtain ⟨Y, hY, hx⟩ := xor64_nat (c * 131 + d * 1117 + p * 29 + p / len * 53) (by
      have : p / len ≤ p := Nat.div_le_self _ _
      omega)
    have hx' : bits .xor .i64 ((c : Int) * 131 + (d : Int) * 1117 + (p : Int) * 29 + (p : Int) / (len : Int) * 53) (((c : Int) * 131 + (d : Int) * 1117 + (p : Int) * 29 + (p : Int) / (len : Int) * 53) / 64) = (Y : Int) := by rw [← hx]; rfl
    clear hc hob hW ho m1 m2 hc2 hd2 hx
    go_enter Tryd.func44, Tryd.ntmps44
    go_wp2_with fail
    rw [← unhide HW]
    refine region_cls (by kernel_rfl) (by kernel_rfl) ?_
    repeat (go_big_quiet_step (fail))
    refine wpQuiet_nil ?_
    rintro wq ⟨⟨_, hq⟩, rfl⟩
    have R1 := (unhide HS).1
    have R2 := (unhide HS).2
    rw [← unhide HW] at R1 R2
    have R3 := R1.below hq
    clear R1 q0 q1 q2
    go_wp2
    go_ret
    exact ⟨(Y : Int) % n, rfl, Int.emod_nonneg _ (by omega), fun _ => Int.emod_lt_of_pos _ (by omega), by omega, R3, grown_trans (grown_only R2) (grown_below hq)⟩
theorem row_bytes {w : World} {a : Option Addr} {len cap : Nat} {zs : List Int} (h : IsRow .u8 w a len cap zs) :
    len ≤ cap ∧ cap ≤ maxLen ∧ (len = 0 ∨ ∃ b off, a = some ⟨b, off, none⟩ ∧ b < w.heap.size ∧ ∀ i, i < len → ∃ c : Nat, c < 256 ∧ w.cell? ⟨b, off + i, none⟩ = some (.int .u8 (c : Int))) := by
  rcases h with ⟨rfl, rfl, rfl, rfl⟩ | ⟨x, rfl, h1, h2, h3, h4, h5⟩
  · exact ⟨Nat.le_refl _, Nat.zero_le _, .inl rfl⟩
  · refine ⟨h1, h2, ?_⟩
    by_cases h0 : len = 0
    · exact .inl h0
    · right
      obtain ⟨b, off, rfl, hc⟩ := ints_at h4 (by omega)
      refine ⟨b, off, rfl, World.block_lt_of_cell? w ⟨b, off + 0, none⟩ (hc 0 (by omega)), fun i hi => ?_⟩
      have hw : (Lit.int .u8 (zs.getD i 0)).wf = true := h5 _ (by simp [List.getD, show i < zs.length by omega])
      have hr : 0 ≤ zs.getD i 0 ∧ zs.getD i 0 ≤ 255 := by simpa [Lit.wf, IntKind.min, IntKind.max, IntKind.signed, IntKind.bits] using hw
      refine ⟨(zs.getD i 0).toNat, by omega, ?_⟩
      rw [hc i (by omega), show ((zs.getD i 0).toNat : Int) = zs.getD i 0 from by omega]
theorem open_zero (a : Option Addr) (cap : Nat) (w : World) (hc : cap ≤ maxLen) : Calls Tryd.prog 32 #[.slice a 0 cap] w fun e w' => e = .returned (.pointer (some ⟨w.heap.size, 0, none⟩)) ∧ Rd w' w.heap.size 0 ∧ Below w.heap.size w w' := by
  go_enter Tryd.func32, Tryd.ntmps32
  go_wp2
  go_ret
  exact ⟨rfl, ⟨a, 0, cap, heap_alloc_new w _, Nat.zero_le _, hc, Nat.zero_le _, fun h => by omega⟩, (Below.refl _ _).alloc (Nat.le_refl _) _⟩
theorem open_some (b off len cap : Nat) (w : World) (h1 : len ≤ cap) (h2 : cap ≤ maxLen) (hl : 0 < len) (hb : b < w.heap.size) (hc : ∀ i, i < len → ∃ c : Nat, c < 256 ∧ w.cell? ⟨b, off + i, none⟩ = some (.int .u8 (c : Int))) :
    Calls Tryd.prog 32 #[.slice (some ⟨b, off, none⟩) len cap] w fun e w' => e = .returned (.pointer (some ⟨w.heap.size, 0, none⟩)) ∧ Rd w' w.heap.size 0 ∧ Below w.heap.size w w' := by
  have HC := hide hc
  have h3 := h2
  unfold maxLen at h3
  clear hc
  by_cases hlen : 2000 < len
  · go_enter Tryd.func32, Tryd.ntmps32
    go_wp2
    all_goals go_ret
    all_goals first
      | (refine ⟨rfl, ⟨some ⟨b, off, none⟩, 2000, cap, ?_, by omega, h2, Nat.le_refl _, fun _ => ⟨b, off, rfl, hb, fun i hi => ?_⟩⟩, (Below.refl _ _).alloc (Nat.le_refl _) _⟩
         · exact heap_alloc_new w _
         · obtain ⟨c, hc1, hc2⟩ := unhide HC i (by omega)
           exact ⟨c, hc1, (((Below.refl w.heap.size w).alloc (Nat.le_refl _) _).cell (p := ⟨b, off + i, none⟩) hb).trans hc2⟩)
      | go_show
  · go_enter Tryd.func32, Tryd.ntmps32
    go_wp2
    go_ret
    refine ⟨rfl, ⟨some ⟨b, off, none⟩, len, cap, heap_alloc_new w _, h1, h2, by omega, fun _ => ⟨b, off, rfl, hb, fun i hi => ?_⟩⟩, (Below.refl _ _).alloc (Nat.le_refl _) _⟩
    obtain ⟨c, hc1, hc2⟩ := unhide HC i (by omega)
    exact ⟨c, hc1, (((Below.refl w.heap.size w).alloc (Nat.le_refl _) _).cell (p := ⟨b, off + i, none⟩) hb).trans hc2⟩
theorem open_any {a : Option Addr} {len cap : Nat} {zs : List Int} (w0 w : World) (h : IsRow .u8 w0 a len cap zs) (hB : Below w0.heap.size w0 w) :
    Calls Tryd.prog 32 #[.slice a len cap] w fun e w' => e = .returned (.pointer (some ⟨w.heap.size, 0, none⟩)) ∧ Rd w' w.heap.size 0 ∧ Below w.heap.size w w' := by
  obtain ⟨h1, h2, h3⟩ := row_bytes h
  by_cases h0 : len = 0
  · subst h0; exact open_zero a cap w h2
  · rcases h3 with h3 | ⟨b, off, rfl, hb, hc⟩
    · exact absurd h3 h0
    · refine open_some b off len cap w h1 h2 (by omega) (by have := hB.size; omega) fun i hi => ?_
      obtain ⟨c, hc1, hc2⟩ := hc i hi
      exact ⟨c, hc1, (hB.cell (p := ⟨b, off + i, none⟩) hb).trans hc2⟩
theorem Rd.grown {w w' : World} {rb p : Nat} {row : Option Nat} (h : Rd w rb p) (hg : w.grownBy w' row) (hr : ∀ k, row = some k → rb < k) : Rd w' rb p := by
  have hl := h.lt
  obtain ⟨a, len, cap, h1, h2, h3, h4, h5⟩ := h
  refine ⟨a, len, cap, by rw [hg.block rb hl (fun e => by have := hr rb e.symm; omega)]; exact h1, h2, h3, h4, fun h0 => ?_⟩
  obtain ⟨b, off, e, hbr, hc⟩ := h5 h0
  refine ⟨b, off, e, hbr, fun i hi => ?_⟩
  obtain ⟨c, hc1, hc2⟩ := hc i hi
  exact ⟨c, hc1, (World.cell?_of_block (a := ⟨b, off + i, none⟩) (hg.block b (show b < w.heap.size by omega) (fun e => by have := hr b e.symm; omega))).trans hc2⟩
theorem grown_other {a b c : World} {r row : Option Nat} (h : a.grownBy b r) (h' : b.grownBy c row) (hr : ∀ k, row = some k → a.heap.size ≤ k) : a.grownBy c r :=
  ⟨h'.os.trans h.os, h'.tape.trans h.tape, h'.output.trans h.output, Nat.le_trans h.size h'.size, fun k hk hne => (h'.block k (Nat.lt_of_lt_of_le hk h.size) (fun e => by have := hr k e.symm; omega)).trans (h.block k hk hne)⟩
theorem own_kept {w w' : World} {base : Nat} {e : TypeId} {size n : Nat} {v : Value} {xs : List Value} {rb : Nat} (h : w.ownsRow base e size v n xs) (hg : w.grownBy w' (some rb)) (hr : rb < base) : w'.ownsRow base e size v n xs :=
  h.kept hg (by
    cases hv : v.ownBlock with
    | none => exact .inl rfl
    | some k => right; intro e; have := own_ge h k hv; simp only [Option.some.injEq] at e; omega)
end Go.Proofs.YtkmoekbicbjdmaaDoor.Draw
