/- My own texts of one claim, laid together by program: Rw, Flat, Nest, LabLaw. -/
import Derived.Test.YtamjliaeikoemaaDoorG32791d0450
import Derived.Deep.AppendLies
import Derived.Laws.AppendOwnNone
import Derived.Maps.AppendAt
import Derived.Deep.Slices
import Derived.ChangeArms
/- Slices in memory, whatever their elements: what lies in them, what a row of the call's own keeps, what a store into one block leaves. No condition. -/
namespace Go.Proofs.YtamjliaeikoemaaDoor.Rw
open Go.RowKit
theorem alloc_at {W : World} {o : Obj} {B : Nat} (h : B = W.heap.size) : (W.alloc o).heap[B]? = some o := by rw [h]; exact heap_alloc_new W o
/-- a slice of n elements of so many cells each, which hold xs; its address is open, where there are some it has one -/
def Lies (w : World) (v : Value) (n size : Nat) (xs : List Value) : Prop :=
  xs.length = n * size ∧ ∃ a cap, v = .slice a n cap ∧ n ≤ cap ∧ cap ≤ maxLen ∧ (a = none → cap = 0) ∧
    (0 < n → ∃ b off, a = some ⟨b, off, none⟩ ∧ b < w.heap.size ∧ ∀ (j : Nat) u, xs[j]? = some u → w.cell? ⟨b, off + j, none⟩ = some u)
theorem Lies.below {w w' : World} {v : Value} {n size : Nat} {xs : List Value} (h : Lies w v n size xs) (hb : Below w.heap.size w w') : Lies w' v n size xs := by
  obtain ⟨h0, a, cap, h1, h2, h3, h4, h5⟩ := h
  refine ⟨h0, a, cap, h1, h2, h3, h4, fun hn => ?_⟩
  obtain ⟨b, off, e, hl, hc⟩ := h5 hn
  exact ⟨b, off, e, by have := hb.size; omega, fun j u hj => (hb.cell (p := ⟨b, off + j, none⟩) hl).trans (hc j u hj)⟩
theorem own_lt {w : World} {base : Nat} {e : TypeId} {size g n cap m : Nat} {xs : List Value} (h : w.ownsRow base e size (.slice (some ⟨g, 0, none⟩) n cap) m xs) : g < w.heap.size := by
  rcases h.2 with ⟨h1, _⟩ | ⟨g', cap', cur, h1, _, hg, _⟩
  · cases h1
  · simp only [Value.slice.injEq, Option.some.injEq, Addr.mk.injEq, and_true] at h1
    rcases Nat.lt_or_ge g w.heap.size with hl | hl
    · exact hl
    · rw [h1.1] at hl
      rw [Array.getElem?_eq_none hl] at hg; cases hg
theorem own_block_lt {w : World} {base : Nat} {e : TypeId} {size n : Nat} {v : Value} {xs : List Value} (h : w.ownsRow base e size v n xs) : ∀ k, v.ownBlock = some k → k < w.heap.size := by
  intro k hk
  rcases h.2 with ⟨rfl, _⟩ | ⟨g, cap, cur, rfl, _, hg, _⟩
  · cases hk
  · simp only [Value.ownBlock, Option.some.injEq] at hk
    subst hk
    rcases Nat.lt_or_ge g w.heap.size with hl | hl
    · exact hl
    · rw [Array.getElem?_eq_none hl] at hg; cases hg
theorem own_below {w w' : World} {base : Nat} {e : TypeId} {size n : Nat} {v : Value} {xs : List Value} (h : w.ownsRow base e size v n xs) (hb : Below w.heap.size w w') : w'.ownsRow base e size v n xs := by
  refine ⟨h.1, ?_⟩
  rcases h.2 with h1 | ⟨g, cap, cur, h1, h2, hg, h3⟩
  · exact .inl h1
  · right
    refine ⟨g, cap, cur, h1, h2, ?_, h3⟩
    rw [hb.block g ?_]
    · exact hg
    · rcases Nat.lt_or_ge g w.heap.size with hl | hl
      · exact hl
      · rw [Array.getElem?_eq_none hl] at hg; cases hg
theorem own_mono {w : World} {b b' : Nat} {e : TypeId} {size n : Nat} {v : Value} {xs : List Value} (h : w.ownsRow b e size v n xs) (hb : b' ≤ b) : w.ownsRow b' e size v n xs := by
  refine ⟨h.1, ?_⟩
  rcases h.2 with h1 | ⟨g, cap, cur, h1, h2, h3⟩
  · exact .inl h1
  · exact .inr ⟨g, cap, cur, h1, by omega, h3⟩
/-- a row of the call's own lies there -/
theorem lies_of_own {w : World} {base : Nat} {e : TypeId} {size n : Nat} {v : Value} {xs : List Value} (h : w.ownsRow base e size v n xs) : Lies w v n size xs := by
  refine ⟨h.1, ?_⟩
  rcases h.2 with ⟨h1, h2⟩ | ⟨g, cap, cur, rfl, hb, hg, h3, h4, h5, h6⟩
  · subst h1 h2
    exact ⟨none, 0, rfl, Nat.le_refl _, Nat.zero_le _, fun _ => rfl, fun h => by omega⟩
  · have hlt : g < w.heap.size := by
      rcases Nat.lt_or_ge g w.heap.size with hl | hl
      · exact hl
      · rw [Array.getElem?_eq_none hl] at hg; cases hg
    refine ⟨_, cap, rfl, h3, h4, fun e => (by cases e), fun _ => ⟨g, 0, rfl, hlt, fun j u hu => ?_⟩⟩
    rw [Nat.zero_add]
    have hj := (List.getElem?_eq_some_iff.1 hu).1
    have := h.1
    rw [h.cellAt j (by omega)]
    exact hu
/-- all but block g is as it was -/
structure OnlyAt (g : Nat) (w w' : World) : Prop where
  os : w'.os = w.os
  tape : w'.tape = w.tape
  output : w'.output = w.output
  size : w'.heap.size = w.heap.size
  block : ∀ k, k ≠ g → w'.heap[k]? = w.heap[k]?
theorem OnlyAt.refl (g : Nat) (w : World) : OnlyAt g w w := ⟨rfl, rfl, rfl, rfl, fun _ _ => rfl⟩
theorem OnlyAt.trans {g : Nat} {a b c : World} (h : OnlyAt g a b) (h' : OnlyAt g b c) : OnlyAt g a c :=
  ⟨h'.os.trans h.os, h'.tape.trans h.tape, h'.output.trans h.output, h'.size.trans h.size, fun k hk => (h'.block k hk).trans (h.block k hk)⟩
theorem OnlyAt.setCell {g : Nat} {a b : World} (h : OnlyAt g a b) (j : Nat) (u : Value) : OnlyAt g a (b.setCell ⟨g, j, none⟩ u) :=
  h.trans ⟨rfl, rfl, rfl, by simp [World.setCell], fun k hk => Below.heap_setCell _ _ _ _ hk⟩
theorem OnlyAt.below {g B : Nat} {a b : World} (h : OnlyAt g a b) (hB : B ≤ g) : Below B a b :=
  ⟨h.os, h.tape, h.output, Nat.le_of_eq h.size.symm, fun k hk => h.block k (by omega)⟩
theorem OnlyAt.lies {g : Nat} {a b : World} (h : OnlyAt g a b) {v : Value} {n size : Nat} {xs : List Value} (hs : Lies a v n size xs) (hv : ∀ k, v.ownBlock = some k → k ≠ g) : Lies b v n size xs := by
  obtain ⟨h0, ad, cap, h1, h2, h3, h4, h5⟩ := hs
  refine ⟨h0, ad, cap, h1, h2, h3, h4, fun hn => ?_⟩
  obtain ⟨c, off, e, hl, hc⟩ := h5 hn
  have hne : c ≠ g := hv c (by rw [h1, e]; rfl)
  exact ⟨c, off, e, by rw [h.size]; exact hl, fun j u hj => (World.cell?_of_block (a := ⟨c, off + j, none⟩) (h.block c hne)).trans (hc j u hj)⟩
theorem OnlyAt.own {g : Nat} {a b : World} (h : OnlyAt g a b) {base n size : Nat} {e : TypeId} {v : Value} {xs : List Value} (ho : a.ownsRow base e size v n xs) (hv : ∀ k, v.ownBlock = some k → k ≠ g) : b.ownsRow base e size v n xs := by
  refine ⟨ho.1, ?_⟩
  rcases ho.2 with h1 | ⟨c, cap, cur, h1, h2, h3, h4⟩
  · exact .inl h1
  · exact .inr ⟨c, cap, cur, h1, h2, by rw [h.block c (hv c (by rw [h1]; rfl))]; exact h3, h4⟩
/-- append of whatever slice onto a row of the call's own -/
theorem run_app {P : Program} (w : World) (base : Nat) (t ty e : TypeId) (i : TypeInfo) (z : Value) (size bytes : Nat) (ht : P.underlying t = some (.slice e)) (hi : P.info? e = some i) (hz : i.zero = some z)
    (hsize : i.size = size) (hby : i.bytes = bytes) (hzs : z.cells.size = size) (hsz : 0 < size)
    (v : Value) (n : Nat) (xs : List Value) (hown : w.ownsRow base e size v n xs) (X : Value) (m : Nat) (news : List Value) (hX : Lies w X m size news) (h1 : ∀ u ∈ news, u.oneCell' = true)
    (h63 : n + m ≤ maxLen) (hbytes : (n + m) * bytes ≤ 140737488355328) (hbase : base ≤ w.heap.size) :
    ∃ v' w', (Builtin.append_ #[t, t] ty #[v, X]).run P w = .ok v' w' ∧ w'.ownsRow base e size v' (n + m) (xs ++ news) ∧ w.grownBy w' v.ownBlock ∧ (v'.ownBlock = v.ownBlock ∨ v'.ownBlock = some w.heap.size) := by
  obtain ⟨h0, a, c, rfl, hc, hm, hn, hr⟩ := hX
  cases a with
  | none =>
    obtain rfl : c = 0 := hn rfl
    obtain rfl : m = 0 := by omega
    obtain rfl : news = [] := List.eq_nil_of_length_eq_zero (by omega)
    refine ⟨v, w, run_append_owned_none (P := P) (w := w) base t ty e i size ht hi v n xs hown, by rw [List.append_nil]; exact hown, ⟨rfl, rfl, rfl, Nat.le_refl _, fun _ _ _ => rfl⟩, .inl rfl⟩
  | some ad =>
    obtain ⟨v', w', hr', h2, h3, _, h5⟩ := run_append_own_at (P := P) w base t ty e i z size bytes ht hi hz hsize hby hzs hsz v n xs hown ad m c news h0 (by
      intro j u hu
      by_cases h0m : 0 < m
      · obtain ⟨b, off, e, _, hcell⟩ := hr h0m
        cases e
        rw [Go.WideShapes.add_plain]
        exact hcell j u hu
      · obtain rfl : m = 0 := by omega
        obtain rfl : news = [] := List.eq_nil_of_length_eq_zero (by omega)
        simp at hu) h1 h63 hbytes hbase
    exact ⟨v', w', hr', h2, h3, h5⟩
theorem app_wp {P : Program} (w : World) {ops : Array Oper} {rest : List Oper} {o : Oper} {a : Act} {Q : Exit → Act → World → Prop} (hgd : o.guard = none) (s x : Operand) (t : TypeId)
    (ho : o.op = .call { callee := .builtin .append, args := #[s, x], argTypes := #[t, t] })
    (base : Nat) (e : TypeId) (i : TypeInfo) (z : Value) (size bytes : Nat) (ht : P.underlying t = some (.slice e)) (hi : P.info? e = some i) (hz : i.zero = some z)
    (hsize : i.size = size) (hby : i.bytes = bytes) (hzs : z.cells.size = size) (hsz : 0 < size)
    (v : Value) (n : Nat) (xs : List Value) (hs : a.eval s = v) (hown : w.ownsRow base e size v n xs)
    (X : Value) (m : Nat) (news : List Value) (hx : a.eval x = X) (hX : Lies w X m size news) (h1 : ∀ u ∈ news, u.oneCell' = true)
    (h63 : n + m ≤ maxLen) (hbytes : (n + m) * bytes ≤ 140737488355328) (hbase : base ≤ w.heap.size)
    (h : ∀ v' w', w'.ownsRow base e size v' (n + m) (xs ++ news) → w.grownBy w' v.ownBlock → (v'.ownBlock = v.ownBlock ∨ v'.ownBlock = some w.heap.size) → wpList P ops Q rest (a.put o.dst v') w') : wpList P ops Q (o :: rest) a w := by
  refine wpList_plain hgd fun K hK => ?_
  obtain ⟨v', w', hr, h2, h3, h4⟩ := run_app (P := P) w base t o.type e i z size bytes ht hi hz hsize hby hzs hsz v n xs hown X m news hX h1 h63 hbytes hbase
  unfold Oper.wp execOp
  simp only [ho, resolve, invoke, builtin, Sem.run_bind, Sem.run_pure, Result.andThen_ok, List.map_toArray, List.map_cons, List.map_nil, hs, hx, hr]
  exact hK _ _ (h v' w' h2 h3 h4)
theorem app_step {P : Program} (w : World) {ops : Array Oper} {o : Oper} {a : Act} {K : Act → World → Prop} {Q : Exit → Act → World → Prop} {E : Prop} (hgd : o.guard = none) (s x : Operand) (t : TypeId)
    (ho : o.op = .call { callee := .builtin .append, args := #[s, x], argTypes := #[t, t] })
    (base : Nat) (e : TypeId) (i : TypeInfo) (z : Value) (size bytes : Nat) (ht : P.underlying t = some (.slice e)) (hi : P.info? e = some i) (hz : i.zero = some z)
    (hsize : i.size = size) (hby : i.bytes = bytes) (hzs : z.cells.size = size) (hsz : 0 < size)
    (v : Value) (n : Nat) (xs : List Value) (hs : a.eval s = v) (hown : w.ownsRow base e size v n xs)
    (X : Value) (m : Nat) (news : List Value) (hx : a.eval x = X) (hX : Lies w X m size news) (h1 : ∀ u ∈ news, u.oneCell' = true)
    (h63 : n + m ≤ maxLen) (hbytes : (n + m) * bytes ≤ 140737488355328) (hbase : base ≤ w.heap.size)
    (h : ∀ v' w', w'.ownsRow base e size v' (n + m) (xs ++ news) → w.grownBy w' v.ownBlock → (v'.ownBlock = v.ownBlock ∨ v'.ownBlock = some w.heap.size) → K (a.put o.dst v') w') :
    if Region.wanted o (yielded ops a.tmps) = true then Oper.wp P o a w K Q else E := by
  have hw : Region.wanted o (yielded ops a.tmps) = true := by simp [Region.wanted, hgd]
  rw [if_pos hw]
  obtain ⟨v', w', hr, h2, h3, h4⟩ := run_app (P := P) w base t o.type e i z size bytes ht hi hz hsize hby hzs hsz v n xs hown X m news hX h1 h63 hbytes hbase
  unfold Oper.wp execOp
  simp only [ho, resolve, invoke, builtin, Sem.run_bind, Sem.run_pure, Result.andThen_ok, List.map_toArray, List.map_cons, List.map_nil, hs, hx, hr]
  exact h v' w' h2 h3 h4
/-- what a new block of cells holds, as a slice of one element, or of several -/
theorem lies_new {w : World} {cs : Array Value} {t : TypeId} {n size B : Nat} (hB : B = w.heap.size) (h : cs.size = n * size) (hn : n ≤ maxLen) : Lies (w.alloc (.cells cs t)) (.slice (some ⟨B, 0, none⟩) n n) n size cs.toList := by
  subst hB
  refine ⟨by simpa using h, _, n, rfl, Nat.le_refl _, hn, fun e => (by cases e), fun _ => ⟨_, 0, rfl, by simp, fun j u hu => ?_⟩⟩
  have := World.news_of_block (heap_alloc_new w (.cells cs t)) j u hu
  rw [Nat.zero_add]
  rwa [Go.WideShapes.add_plain, Nat.zero_add] at this
theorem Lies.drew {w : World} {v : Value} {n size : Nat} {xs : List Value} (h : Lies w v n size xs) : Lies w.drew v n size xs := h.below (Below.refl _ _).drew
theorem Lies.alloc {w : World} {v : Value} {n size : Nat} {xs : List Value} (h : Lies w v n size xs) (o : Obj) : Lies (w.alloc o) v n size xs := h.below ((Below.refl _ _).alloc (Nat.le_refl _) _)
/-- what lies elsewhere than in the row that grew lies there still -/
theorem Lies.grown {w w' : World} {v : Value} {n size : Nat} {xs : List Value} {row : Option Nat} (h : Lies w v n size xs) (hg : w.grownBy w' row) (hne : ∀ k, v.ownBlock = some k → row ≠ some k) : Lies w' v n size xs := by
  obtain ⟨h0, a, cap, h1, h2, h3, h4, h5⟩ := h
  refine ⟨h0, a, cap, h1, h2, h3, h4, fun hn => ?_⟩
  obtain ⟨b, off, e, hl, hc⟩ := h5 hn
  have hz := hg.size
  exact ⟨b, off, e, by omega, fun j u hj => (hg.cell_far ⟨b, off + j, none⟩ hl (fun e' => hne b (by rw [h1, e]; rfl) e'.symm)).trans (hc j u hj)⟩
/-- what a slice of n elements is cut to from i on -/
theorem cut_lies {w : World} {a : Option Addr} {n cap size i : Nat} {xs : List Value} (h : Lies w (.slice a n cap) n size xs) (hi : i ≤ n) :
    Lies w (.slice (if cap = i then a else a.map (·.add (i * size))) (n - i) (cap - i)) (n - i) size (xs.drop (i * size)) := by
  obtain ⟨h0, a', cap', h1, h2, h3, h4, h5⟩ := h
  simp only [Value.slice.injEq, true_and] at h1
  obtain ⟨rfl, rfl⟩ := h1
  refine ⟨by rw [List.length_drop, h0, Nat.sub_mul], _, _, rfl, by omega, by omega, ?_, fun hn => ?_⟩
  · intro hnone
    have ha : a = none := by
      split at hnone
      · exact hnone
      · simpa using hnone
    have := h4 ha
    omega
  · obtain ⟨b, off, e, hl, hc⟩ := h5 (by omega)
    subst e
    rw [if_neg (by omega)]
    refine ⟨b, off + i * size, by simp [Go.WideShapes.add_plain], hl, fun j u hj => ?_⟩
    rw [List.getElem?_drop] at hj
    have := hc _ u hj
    rwa [← Nat.add_assoc] at this
theorem take_lies {w : World} {a : Option Addr} {N cap size k : Nat} {xs : List Value} (h : Lies w (.slice a N cap) N size xs) (hk : k ≤ N) : Lies w (.slice a k cap) k size (xs.take (k * size)) := by
  obtain ⟨hl, a', cap', h1, hc, hm, hnn, hr⟩ := h
  simp only [Value.slice.injEq, true_and] at h1
  obtain ⟨rfl, rfl⟩ := h1
  refine ⟨by rw [List.length_take, hl]; exact Nat.min_eq_left (Nat.mul_le_mul_right _ hk), a, cap, rfl, by omega, hm, hnn, fun h0 => ?_⟩
  obtain ⟨b, off, e, hb, hcell⟩ := hr (by omega)
  refine ⟨b, off, e, hb, fun j u hj => hcell j u ?_⟩
  rw [List.getElem?_take] at hj
  split at hj
  · exact hj
  · cases hj
end Go.Proofs.YtamjliaeikoemaaDoor.Rw

/- Slices of elements of some cells each, told by what each element's cells hold: a slice that came in, opened. No condition. -/
namespace Go.Proofs.YtamjliaeikoemaaDoor.Rw
open Go.RowKit Go.ChangeShapes Go.WideShapes
def flatOf {α : Type} (fl : α → List Value) (zs : List α) : List Value := zs.flatMap fl
theorem flatOf_nil {α : Type} (fl : α → List Value) : flatOf fl [] = [] := rfl
theorem flatOf_append {α : Type} (fl : α → List Value) (a b : List α) : flatOf fl (a ++ b) = flatOf fl a ++ flatOf fl b := by simp [flatOf]
theorem flatOf_one {α : Type} (fl : α → List Value) (x : α) : flatOf fl [x] = fl x := by simp [flatOf]
theorem flatOf_cons {α : Type} (fl : α → List Value) (x : α) (zs : List α) : flatOf fl (x :: zs) = fl x ++ flatOf fl zs := by simp [flatOf]
theorem flatOf_length {α : Type} {fl : α → List Value} {k : Nat} (hk : ∀ x, (fl x).length = k) (zs : List α) : (flatOf fl zs).length = zs.length * k := by
  induction zs with
  | nil => simp [flatOf]
  | cons x zs ih => rw [show x :: zs = [x] ++ zs from rfl, flatOf_append, List.length_append, ih, flatOf_one, hk, List.length_append, Nat.add_mul]; simp
theorem flatOf_get {α : Type} {fl : α → List Value} {k : Nat} (hk : ∀ x, (fl x).length = k) : ∀ (zs : List α) (i c : Nat) (h : i < zs.length), c < k → (flatOf fl zs)[i * k + c]? = (fl zs[i])[c]?
  | x :: zs, 0, c, _, hc => by
    rw [flatOf_cons, Nat.zero_mul, Nat.zero_add, List.getElem?_append_left (by rw [hk]; exact hc)]
    rfl
  | x :: zs, i + 1, c, h, hc => by
    have ih := flatOf_get hk zs i c (by simpa using h) hc
    rw [flatOf_cons, List.getElem?_append_right (by rw [hk, Nat.add_mul]; omega), hk, show (i + 1) * k + c - k = i * k + c from by rw [Nat.add_mul]; omega, ih]
    rfl
theorem flatOf_drop {α : Type} {fl : α → List Value} {k : Nat} (hk : ∀ x, (fl x).length = k) (zs : List α) (i : Nat) : flatOf fl (zs.drop i) = (flatOf fl zs).drop (i * k) := by
  induction i generalizing zs with
  | zero => simp
  | succ i ih =>
    cases zs with
    | nil => simp [flatOf]
    | cons x zs =>
      rw [List.drop_succ_cons, ih zs, show x :: zs = [x] ++ zs from rfl, flatOf_append, flatOf_one, Nat.add_mul, Nat.one_mul, Nat.add_comm, ← List.drop_drop, List.drop_left' (hk x)]
theorem flatOf_take {α : Type} {fl : α → List Value} {k : Nat} (hk : ∀ x, (fl x).length = k) (zs : List α) (i : Nat) : flatOf fl (zs.take i) = (flatOf fl zs).take (i * k) := by
  have h := flatOf_append fl (zs.take i) (zs.drop i)
  rw [List.take_append_drop] at h
  rw [h]
  rcases Nat.lt_or_ge zs.length i with hl | hl
  · rw [List.take_of_length_le (by omega), List.drop_eq_nil_of_le (by omega), flatOf_nil, List.append_nil, List.take_of_length_le]
    rw [flatOf_length hk]; exact Nat.mul_le_mul_right _ (by omega)
  · have : (flatOf fl (zs.take i)).length = i * k := by rw [flatOf_length hk, List.length_take, Nat.min_eq_left hl]
    rw [← this, List.take_left]
/-- a slice that came in, its elements decoded one by one -/
theorem open_flat {H : Type} {enc : TypeId × Value → H} {W : World} {t e : TypeId} {a : Option Addr} {len cap k : Nat} {d : DataW H} {p : List MemPlace} {α : Type} {fl : α → List Value} {good : α → Prop} [Inhabited α]
    (hk : ∀ x, (fl x).length = k) (ht : Tryd.prog.underlying t = some (.slice e)) (ce : Tryd.prog.cellsOf e = k)
    (dec : ∀ (n : Nat) (cs : List Value) y, cs.length = k → DataW.trod enc Tryd.prog W 0 (fun _ => true) true n e cs = some y → ∃ x : α, cs = fl x ∧ good x) (hk0 : 0 < k)
    (h : DataW.Trod enc Tryd.prog W 0 (fun _ => true) true t (.slice a len cap) d p) : ∃ zs : List α, zs.length = len ∧ len ≤ maxLen ∧ Lies W (.slice a len cap) len k (flatOf fl zs) ∧ ∀ x ∈ zs, good x := by
  obtain ⟨fuel, hf⟩ := h
  rcases Go.Deep.open_slice ht hf with ⟨hcs, _⟩ | ⟨x, l, c, m, n, D, Pl, hcs, _, hl, hm, hmm, _, hx⟩
  · simp [Value.cells] at hcs
    obtain ⟨rfl, rfl, rfl⟩ := hcs
    exact ⟨[], rfl, Nat.zero_le _, ⟨by simp [flatOf], none, 0, rfl, Nat.le_refl _, Nat.zero_le _, fun _ => rfl, fun h => by omega⟩, fun x hx => by cases hx⟩
  · simp [Value.cells] at hcs
    obtain ⟨rfl, rfl, rfl⟩ := hcs
    simp only [if_true] at hmm
    subst hmm
    have each : ∀ i, i < m → ∃ q : α, (∀ j u, (fl q)[j]? = some u → W.cell? (x.add (i * k + j)) = some u) ∧ good q := by
      intro i hi
      obtain ⟨cs', h1, h2⟩ := hx i hi
      rw [ce] at h1
      obtain ⟨_, hlen, hcell⟩ := World.cells?_some h1
      obtain ⟨q, hq, hg⟩ := dec n cs' _ hlen h2
      refine ⟨q, fun j u hj => ?_, hg⟩
      have hj' := (List.getElem?_eq_some_iff.1 hj).1
      rw [hk] at hj'
      have e0 := hcell j hj'
      rw [Go.Deep.add_add] at e0
      rw [e0, hq, hj]
    obtain ⟨q, hq⟩ := Go.Deep.choose_lt each
    refine ⟨(List.range len).map q, by simp, by omega, ⟨by rw [flatOf_length hk]; simp, some x, m, rfl, hl, hm, fun e => (by cases e), fun h0 => ?_⟩, ?_⟩
    · obtain ⟨b, off, spot⟩ := x
      have c0 : ∃ u, W.cell? ((⟨b, off, spot⟩ : Addr).add 0) = some u := by
        have hlk : 0 < (fl (q 0)).length := by rw [hk]; exact hk0
        refine ⟨(fl (q 0))[0], ?_⟩
        have := (hq 0 (by omega)).1 0 _ (List.getElem?_eq_getElem hlk)
        simpa using this
      obtain ⟨u0, c0⟩ := c0
      have hspot : spot = none := by simpa [Addr.add] using World.cell?_spot c0
      subst hspot
      refine ⟨b, off, rfl, World.block_lt_of_cell? W ⟨b, _, none⟩ c0, fun j u hj => ?_⟩
      have hj' := (List.getElem?_eq_some_iff.1 hj).1
      rw [flatOf_length hk] at hj'
      simp only [List.length_map, List.length_range] at hj'
      have hdiv : j / k < len := Nat.div_lt_of_lt_mul (by rw [Nat.mul_comm]; exact hj')
      have hmod : j % k < k := Nat.mod_lt _ hk0
      have hdm : j / k * k + j % k = j := by rw [Nat.mul_comm]; exact Nat.div_add_mod j k
      have hg := flatOf_get hk ((List.range len).map q) (j / k) (j % k) (by simpa using hdiv) hmod
      rw [hdm] at hg
      rw [hg] at hj
      have hx' : ((List.range len).map q)[j / k]'(by simpa using hdiv) = q (j / k) := by simp
      rw [hx'] at hj
      have := (hq (j / k) (by omega)).1 _ u hj
      rw [hdm] at this
      rwa [add_plain] at this
    · intro y hy
      obtain ⟨i, hi, rfl⟩ := List.mem_map.1 hy
      exact (hq i (by have := List.mem_range.1 hi; omega)).2
end Go.Proofs.YtamjliaeikoemaaDoor.Rw

/- Slices whose elements hold slices: small things that serve every such type. No condition. -/
namespace Go.Proofs.YtamjliaeikoemaaDoor.Rw
open Go.RowKit Go.ChangeShapes Go.WideShapes
theorem choose_list {α β : Type} [Inhabited α] [Inhabited β] {P : α → β → Prop} : ∀ (cs : List α), (∀ c ∈ cs, ∃ x, P c x) → ∃ zs : List β, zs.length = cs.length ∧ ∀ i, i < cs.length → P (cs.getD i default) (zs.getD i default)
  | [], _ => ⟨[], rfl, fun i h => by cases h⟩
  | c :: cs, h => by
    obtain ⟨x, hx⟩ := h c (by simp)
    obtain ⟨zs, hl, hz⟩ := choose_list cs (fun d hd => h d (by simp [hd]))
    refine ⟨x :: zs, by simp [hl], fun i hi => ?_⟩
    cases i with
    | zero => simpa using hx
    | succ i =>
      have := hz i (by simpa using hi)
      simpa using this
/-- a slice that came in, by its one cell -/
theorem slice_cell {H : Type} {enc : TypeId × Value → H} {W : World} {t e : TypeId} {n : Nat} {c : Value} {y : DataW H × List MemPlace} (ht : Tryd.prog.underlying t = some (.slice e))
    (h : DataW.trod enc Tryd.prog W 0 (fun _ => true) true n t [c] = some y) : ∃ a l k, c = .slice a l k ∧ DataW.Trod enc Tryd.prog W 0 (fun _ => true) true t (.slice a l k) y.1 y.2 := by
  rcases Go.Deep.open_slice ht h with ⟨hcs, _⟩ | ⟨x, l, k, m, n', D, Pl, hcs, _⟩
  · simp only [List.cons.injEq, and_true] at hcs
    subst hcs
    exact ⟨none, 0, 0, rfl, n, h⟩
  · simp only [List.cons.injEq, and_true] at hcs
    subst hcs
    exact ⟨some x, l, k, rfl, n, h⟩
theorem Lies.form {w : World} {v : Value} {n size : Nat} {xs : List Value} (h : Lies w v n size xs) : ∃ a cap, v = .slice a n cap ∧ n ≤ cap ∧ cap ≤ maxLen := by
  obtain ⟨_, a, cap, h1, h2, h3, _⟩ := h
  exact ⟨a, cap, h1, h2, h3⟩
end Go.Proofs.YtamjliaeikoemaaDoor.Rw

/- What the laws' own helpers do with slices of impl.Label: they are copied, held against each other, and counted. -/
namespace Go.Proofs.YtamjliaeikoemaaDoor.Lab
open Go.RowKit Rw
set_option linter.unusedVariables false
attribute [local go_sem ↓] Go.wp_at_zero Go.wp_at_succ
abbrev E := ByteArray × ByteArray
def fl (x : E) : List Value := [.string (x.1), .string (x.2)]
theorem flk (x : E) : (fl x).length = 2 := rfl
def at' (zs : List E) (i : Nat) : E := zs.getD i default
abbrev flat (zs : List E) : List Value := flatOf fl zs
abbrev Is (w : World) (v : Value) (zs : List E) : Prop := Lies w v zs.length 2 (flat zs)
theorem flat_length (zs : List E) : (flat zs).length = zs.length * 2 := flatOf_length flk zs
theorem flat_oneCell (zs : List E) : ∀ u ∈ flat zs, u.oneCell' = true := by
  intro u hu
  obtain ⟨x, _, hx⟩ := List.mem_flatMap.1 hu
  simp only [fl, List.mem_cons, List.not_mem_nil, or_false] at hx
  rcases hx with rfl | rfl <;> rfl
theorem at_get (zs : List E) (i : Nat) (h : i < zs.length) : at' zs i = zs[i] := by simp [at', List.getD, h]
theorem at_snoc (zs : List E) (i : Nat) (h : i < zs.length) : zs.take (i + 1) = zs.take i ++ [at' zs i] := by rw [List.take_succ_eq_append_getElem h, at_get zs i h]
theorem flat_at (zs : List E) (i : Nat) (h : i < zs.length) : (flat zs)[i * 2]? = some (.string ((at' zs i).1)) ∧ (flat zs)[i * 2 + 1]? = some (.string ((at' zs i).2)) := by
  rw [at_get zs i h]
  exact ⟨flatOf_get flk zs i 0 h (by omega), flatOf_get flk zs i 1 h (by omega)⟩
theorem is_of_own {w : World} {base : Nat} {v : Value} {zs : List E} (h : w.ownsRow base 95 2 v zs.length (flat zs)) : Is w v zs := lies_of_own h
theorem info_e : (Tryd.prog.info? 95).map (fun i => (i.zero, i.size, i.bytes)) = some (some (.agg #[.string ByteArray.empty, .string ByteArray.empty]), 2, 32) := by kernel_rfl
def good (x : E) : Prop := (x.1).size ≤ maxLen ∧ (x.2).size ≤ maxLen
set_option maxRecDepth 100000 in
theorem open_arg {H : Type} {enc : TypeId × Value → H} {W : World} {a : Option Addr} {len cap : Nat} {d : DataW H} {p : List MemPlace}
    (h : DataW.Trod enc Tryd.prog W 0 (fun _ => true) true 51 (.slice a len cap) d p) : ∃ zs : List E, zs.length = len ∧ len ≤ maxLen ∧ Lies W (.slice a len cap) len 2 (flat zs) ∧ ∀ x ∈ zs, good x := by
  have ck : Tryd.prog.cellsOf 108 = 2 := by kernel_rfl
  refine open_flat (e := 108) (good := good) flk Tryd.underlying51 ck ?_ (by omega) h
  intro n cs y hl ht
  obtain ⟨xs, m, -, -, -, hxl, hf⟩ := DataW.trod_struct Tryd.underlying108 ht
  match cs, hl, xs, hxl with
  | [c0, c1], _, [y0, y1], _ =>
    have g0 := hf 0 _ rfl
    have g1 := hf 1 _ rfl
    have ces : Tryd.prog.cellsOf 9 = 1 := by kernel_rfl
    simp [ces] at g0 g1
    obtain ⟨s0, e0, -, w0⟩ := DataW.trod_string Tryd.underlying9 g0
    obtain ⟨s1, e1, -, w1⟩ := DataW.trod_string Tryd.underlying9 g1
    simp only [List.cons.injEq, and_true] at e0 e1
    exact ⟨(s0, s1), by rw [e0, e1]; rfl, w0, w1⟩
theorem to_one (A : ByteArray) (B : ByteArray) (w : World) : Calls Tryd.prog 68 #[.agg #[.string A, .string B]] w fun e w' => e = .returned (.agg #[.string A, .string B]) ∧ Below w.heap.size w w' := by
  go_enter Tryd.func68, Tryd.ntmps68
  go_wp2
  refine bodyPost_ret (v := .agg #[.string A, .string B]) (by simp [results, Tryd.results68, go_sem]) rfl ⟨rfl, ?_⟩
  exact (((Below.refl _ _).alloc (Nat.le_refl _) _).alloc (by simp) _).alloc (by simp; omega) _
theorem set_e (A : List Value) (u0 u1 x0 x1 : Value) (L : List Value) (k : Nat) (h : A.length = k) : (((A ++ u0 :: u1 :: L).set k x0).set (k + 1) x1) = A ++ [x0, x1] ++ L := by
  subst h
  simp [List.set_append_right]
theorem split_e (r : List Value) (n : Nat) (h : r.length = (n + 1) * 2) : ∃ u0 u1 L, r = u0 :: u1 :: L ∧ L.length = n * 2 := by
  match r, h with
  | u0 :: u1 :: L, h => exact ⟨u0, u1, L, rfl, by simp only [List.length_cons] at h; omega⟩
  | [], h => simp at h <;> omega
  | [_], h => simp at h <;> omega
set_option maxRecDepth 100000 in
set_option maxHeartbeats 2000000 in
theorem to_any {w : World} {v : Value} {zs : List E} (h : Is w v zs) (hlen : zs.length ≤ 4194304) :
    Calls Tryd.prog 57 #[v] w fun e w' => e = .returned (.slice (some ⟨w.heap.size, 0, none⟩) zs.length zs.length) ∧
      w'.ownsRow w.heap.size 95 2 (.slice (some ⟨w.heap.size, 0, none⟩) zs.length zs.length) zs.length (flat zs) ∧ Below w.heap.size w w' := by
  obtain ⟨i0, hi, hz0, hz1, hz2⟩ := info_parts info_e
  obtain ⟨-, a, cap, rfl, hc, hm, -, hr⟩ := h
  unfold maxLen at hm
  obtain ⟨n, hn⟩ : ∃ n, n = zs.length := ⟨_, rfl⟩
  rw [← hn] at hc hr hlen ⊢
  have HN := hide hn
  clear hn
  go_enter Tryd.func57, Tryd.ntmps57
  go_wp2_with (at_make; refine wpList_make_full _ rfl _ _ _ rfl w.heap.size 95 i0 (.agg #[.string ByteArray.empty, .string ByteArray.empty]) 2 Tryd.underlying60 hi hz0 hz1 .i64 .i64 _ _ n rfl rfl rfl rfl (by rw [hz2]; omega) (by unfold maxLen; omega) (Nat.le_refl _) ?_; intro w1 hown1 hgrow1)
  go_loopw [4] (fun i wr => ∃ (j : Nat) (r : List Value), j ≤ n ∧ i = .int .i64 j ∧ r.length = (n - j) * 2 ∧ wr.ownsRow w.heap.size 95 2 (.slice (some ⟨w.heap.size, 0, none⟩) n n) n (flat (zs.take j) ++ r) ∧ Below w.heap.size w wr) (fun i _ => n - (intOf i).toNat)
  case atStart =>
    refine ⟨0, _, Nat.zero_le _, rfl, ?_, hown1, below_grown (Below.refl _ _) (Nat.le_refl _) hgrow1 (by simp)⟩
    have := hown1.1
    simpa using this
  case round =>
    obtain ⟨j, r, hj, rfl, hrl, hown, hbel⟩ := hrel
    have hsz := own_lt hown
    by_cases hlt : j < n
    · obtain ⟨u0, u1, L, rfl, hB⟩ := split_e r (n - j - 1) (by rw [hrl]; omega)
      obtain ⟨b, off, rfl, hl, hcells⟩ := hr (by omega)
      have fa := flat_at zs j (by have := unhide HN; omega)
      have hc0 : wr.cell? ⟨b, off + j * 2, none⟩ = some (.string ((at' zs j).1)) := (hbel.cell (p := ⟨b, _, none⟩) hl).trans (hcells (j * 2) _ fa.1)
      have hc1 : wr.cell? ⟨b, off + j * 2 + 1, none⟩ = some (.string ((at' zs j).2)) := (hbel.cell (p := ⟨b, _, none⟩) hl).trans (hcells (j * 2 + 1) _ fa.2)
      have fln : (flat (zs.take j)).length = j * 2 := by rw [flat_length]; simp; have := unhide HN; omega
      have hd0 : wr.cell? ⟨w.heap.size, j * 2, none⟩ = some u0 := by rw [hown.cellAt (j * 2) (by omega)]; simp [fln]
      have hf0 := hown.frozenAt (j * 2)
      have hd1 : wr.cell? ⟨w.heap.size, j * 2 + 1, none⟩ = some u1 := by rw [hown.cellAt (j * 2 + 1) (by omega)]; simp [fln]
      have hf1 := hown.frozenAt (j * 2 + 1)
      have hk0 : (0 : Int) ≤ (j : Int) := Int.natCast_nonneg _
      have hk1 : (j : Int) < (n : Int) := by omega
      have HS := hide (at_snoc zs j (by have := unhide HN; omega))
      obtain ⟨A, B, hX⟩ : ∃ A B, (A, B) = at' zs j := ⟨_, _, rfl⟩
      rw [← hX] at hc0 hc1
      have HX := hide hX
      have HF := hide fln
      clear hX fln fa
      go_wp2_with (go_at_call 68; refine (to_one _ _ _).mono ?_; rintro e w2 ⟨rfl, hb2⟩; obtain ⟨bc, bf⟩ := bcell hb2)
      have o0 := ((own_below hown hb2).stored (j * 2) (.string A)).1
      have o1 := (o0.stored (j * 2 + 1) (.string B)).1
      rw [set_e _ _ _ _ _ _ _ (unhide HF)] at o1
      have e2 : flat (zs.take (j + 1)) = flat (zs.take j) ++ [.string A, .string B] := by rw [unhide HS]; unfold flat; rw [flatOf_append, flatOf_one, ← unhide HX]; rfl
      rw [← e2] at o1
      have R := hide (((hbel.trans (hb2.mono (by omega))).setCell (p := ⟨w.heap.size, j * 2, none⟩) (Nat.le_refl _) (.string A)).setCell (p := ⟨w.heap.size, j * 2 + 1, none⟩) (Nat.le_refl _) (.string B))
      have O := hide o1
      clear o0 o1 e2 hown bc bf hd0 hf0 hd1 hf1
      go_wp2_with fail
      go_roundw
      case rel => exact ⟨j + 1, L, by omega, by go_num, by omega, unhide O, unhide R⟩
      case measure => simp [intOf]; omega
    · obtain rfl : j = n := by omega
      obtain rfl : r = [] := List.eq_nil_of_length_eq_zero (by rw [hrl]; omega)
      rw [List.append_nil, List.take_of_length_le (by have := unhide HN; omega)] at hown
      go_wp2
      go_ret
      exact ⟨rfl, hown, hbel⟩
theorem eq_one (A : ByteArray) (B : ByteArray) (w : World) : Calls Tryd.prog 76 #[.agg #[.string A, .string B], .agg #[.string A, .string B]] w fun e w' => e = .returned (.bool true) ∧ Below w.heap.size w w' := by
  go_enter Tryd.func76, Tryd.ntmps76
  go_wp2
  go_ret
  exact ⟨rfl, ((Below.refl _ _).alloc (Nat.le_refl _) _).alloc (by simp) _⟩
set_option maxRecDepth 100000 in
set_option maxHeartbeats 2000000 in
theorem eq_any {v u : Value} {zs : List E} {w : World} (h : Is w v zs) (h' : Is w u zs) : Calls Tryd.prog 66 #[v, u] w fun e w' => e = .returned (.bool true) ∧ Below w.heap.size w w' := by
  obtain ⟨-, a, cap, rfl, hc, hm, -, hr⟩ := h
  obtain ⟨-, a', cap', rfl, hc', hm', -, hr'⟩ := h'
  unfold maxLen at hm hm'
  obtain ⟨n, hn⟩ : ∃ n, n = zs.length := ⟨_, rfl⟩
  rw [← hn] at hc hr hc' hr' ⊢
  have HN := hide hn
  clear hn
  go_enter Tryd.func66, Tryd.ntmps66
  go_wp2
  go_loopw [5] (fun i wr => ∃ (j : Nat), j ≤ n ∧ i = .int .i64 j ∧ Below w.heap.size w wr) (fun i _ => n - (intOf i).toNat)
  case atStart => exact ⟨0, Nat.zero_le _, rfl, Below.refl _ _⟩
  case round =>
    obtain ⟨j, hj, rfl, hbel⟩ := hrel
    have hsz := hbel.size
    by_cases hlt : j < n
    · obtain ⟨b, off, rfl, hl, hcells⟩ := hr (by omega)
      obtain ⟨b', off', rfl, hl', hcells'⟩ := hr' (by omega)
      have fa := flat_at zs j (by have := unhide HN; omega)
      obtain ⟨A, B, hX⟩ : ∃ A B, (A, B) = at' zs j := ⟨_, _, rfl⟩
      rw [← hX] at fa
      have hq0 : ∀ x : Cls wr.heap.size wr, x.val.cell? ⟨b, off + j * 2, none⟩ = some (.string A) := fun x => by rw [x.cell (by omega)]; exact (hbel.cell (p := ⟨b, _, none⟩) hl).trans (hcells (j * 2) _ fa.1)
      have hp0 : ∀ x : Cls wr.heap.size wr, x.val.cell? ⟨b', off' + j * 2, none⟩ = some (.string A) := fun x => by rw [x.cell (by omega)]; exact (hbel.cell (p := ⟨b', _, none⟩) hl').trans (hcells' (j * 2) _ fa.1)
      have hq1 : ∀ x : Cls wr.heap.size wr, x.val.cell? ⟨b, off + j * 2 + 1, none⟩ = some (.string B) := fun x => by rw [x.cell (by omega)]; exact (hbel.cell (p := ⟨b, _, none⟩) hl).trans (hcells (j * 2 + 1) _ fa.2)
      have hp1 : ∀ x : Cls wr.heap.size wr, x.val.cell? ⟨b', off' + j * 2 + 1, none⟩ = some (.string B) := fun x => by rw [x.cell (by omega)]; exact (hbel.cell (p := ⟨b', _, none⟩) hl').trans (hcells' (j * 2 + 1) _ fa.2)
      have hk0 : (0 : Int) ≤ (j : Int) := Int.natCast_nonneg _
      have hk1 : (j : Int) < (n : Int) := by omega
      clear hX fa
      have hne := cls_nonempty wr.heap.size wr
      go_wp2_with fail
      refine region_cls (by kernel_rfl) (by kernel_rfl) ?_
      repeat (go_big_quiet_step ((go_at_call 76; exact cls_call (Nat.le_refl _) (eq_one _ _ _))))
      refine wpQuiet_nil ?_
      rintro wq ⟨⟨_, hq⟩, rfl⟩
      go_wp2
      go_roundw
      case rel => exact ⟨j + 1, by omega, by go_num, hbel.trans (hq.mono hsz)⟩
      case measure => simp [intOf]; omega
    · go_wp2
      go_ret
      exact ⟨rfl, hbel⟩
def tot (zs : List E) : Nat := zs.foldl (fun a x => a + ((x.1).size + (x.2).size)) zs.length
def totTo (zs : List E) (j : Nat) : Nat := (zs.take j).foldl (fun a x => a + ((x.1).size + (x.2).size)) zs.length
theorem totTo_succ (zs : List E) (j : Nat) (h : j < zs.length) : totTo zs (j + 1) = totTo zs j + (((at' zs j).1).size + ((at' zs j).2).size) := by
  unfold totTo
  rw [at_snoc zs j h, List.foldl_append]
  rfl
theorem totTo_mono (zs : List E) : ∀ (i j : Nat), i ≤ j → j ≤ zs.length → totTo zs i ≤ totTo zs j
  | i, 0, h, _ => by obtain rfl : i = 0 := by omega
                     exact Nat.le_refl _
  | i, j + 1, h, hj => by
    by_cases e : i = j + 1
    · subst e; exact Nat.le_refl _
    · have h1 := totTo_mono zs i j (by omega) (by omega)
      rw [totTo_succ zs j (by omega)]
      omega
theorem totTo_all (zs : List E) : totTo zs zs.length = tot zs := by unfold totTo tot; rw [List.take_of_length_le (Nat.le_refl _)]
theorem tot_len (zs : List E) : zs.length ≤ tot zs := by have := totTo_mono zs 0 zs.length (Nat.zero_le _) (Nat.le_refl _); rw [totTo_all] at this; unfold totTo at this; simpa using this
theorem tot_at (zs : List E) (j : Nat) (h : j < zs.length) : ((at' zs j).1).size + ((at' zs j).2).size ≤ tot zs := by
  have h1 := totTo_succ zs j h
  have h2 := totTo_mono zs (j + 1) zs.length (by omega) (Nat.le_refl _)
  rw [totTo_all] at h2
  omega
theorem sz_one (A : ByteArray) (B : ByteArray) (left : Int) (w : World) (h0 : 0 ≤ left) (h1 : left ≤ 1048576) (g0 : A.size ≤ maxLen) (g1 : B.size ≤ maxLen) :
    Calls Tryd.prog 67 #[.agg #[.string A, .string B], .int .i64 left] w fun e w' => e = .returned (.int .i64 (if left - (A.size : Int) - (B.size : Int) < 0 then -1 else left - (A.size : Int) - (B.size : Int))) ∧ Below w.heap.size w w' := by
  unfold maxLen at g0 g1
  by_cases c0 : left - (A.size : Int) < 0
  · rw [if_pos (by omega)]
    go_enter Tryd.func67, Tryd.ntmps67
    go_wp2
    go_ret
    exact ⟨rfl, (Below.refl _ _).alloc (Nat.le_refl _) _⟩
  by_cases c1 : left - (A.size : Int) - (B.size : Int) < 0
  · rw [if_pos (by omega)]
    go_enter Tryd.func67, Tryd.ntmps67
    go_wp2
    go_ret
    exact ⟨rfl, (Below.refl _ _).alloc (Nat.le_refl _) _⟩
  rw [if_neg (by omega)]
  go_enter Tryd.func67, Tryd.ntmps67
  go_wp2
  go_ret
  exact ⟨rfl, (Below.refl _ _).alloc (Nat.le_refl _) _⟩
set_option maxRecDepth 100000 in
set_option maxHeartbeats 2000000 in
theorem sz_any {w : World} {v : Value} {zs : List E} (left : Int) (h : Is w v zs) (hlm : zs.length ≤ maxLen) (hg : ∀ x ∈ zs, good x) (h0 : 0 ≤ left) (h1 : left ≤ 1048576) :
    Calls Tryd.prog 51 #[v, .int .i64 left] w fun e w' => e = .returned (.int .i64 (if left - (tot zs : Int) < 0 then -1 else left - (tot zs : Int))) ∧ Below w.heap.size w w' := by
  obtain ⟨-, a, cap, rfl, hc, hm, -, hr⟩ := h
  have HT := hide (tot_len zs)
  unfold maxLen at hm hlm
  obtain ⟨n, hn⟩ : ∃ n, n = zs.length := ⟨_, rfl⟩
  rw [← hn] at hc hr hlm ⊢
  have HN := hide hn
  have HG := hide hg
  have T0 := hide (show totTo zs 0 = n by rw [hn]; rfl)
  clear hn hg
  by_cases hn0 : left - (n : Int) < 0
  · rw [if_pos (by have := unhide HT; have := unhide HN; omega)]
    go_enter Tryd.func51, Tryd.ntmps51
    go_wp2
    go_ret
    exact ⟨rfl, Below.refl _ _⟩
  obtain ⟨R, hR⟩ : ∃ R : Int, R = if left - (tot zs : Int) < 0 then -1 else left - (tot zs : Int) := ⟨_, rfl⟩
  rw [← hR]
  have HR := hide hR
  clear hR
  go_enter Tryd.func51, Tryd.ntmps51
  go_wp2
  go_loopw [1, 5] (fun lv i wr => ∃ (j : Nat), j ≤ n ∧ i = .int .i64 j ∧ lv = .int .i64 (left - (totTo zs j : Int)) ∧ 0 ≤ left - (totTo zs j : Int) ∧ Below w.heap.size w wr) (fun _ i _ => n - (intOf i).toNat)
  case atStart => exact ⟨0, Nat.zero_le _, rfl, by rw [unhide T0], by rw [unhide T0]; omega, Below.refl _ _⟩
  case round =>
    obtain ⟨j, hj, rfl, rfl, hleft, hbel⟩ := hrel
    have hsz := hbel.size
    by_cases hlt : j < n
    · obtain ⟨b, off, rfl, hl, hcells⟩ := hr (by omega)
      have fa := flat_at zs j (by have := unhide HN; omega)
      have HTS := totTo_succ zs j (by have := unhide HN; omega)
      have gd := unhide HG (at' zs j) (by rw [at_get zs j (by have := unhide HN; omega)]; exact List.getElem_mem _)
      have HLe := hide (show totTo zs (j + 1) ≤ tot zs by rw [← totTo_all]; exact totTo_mono zs _ _ (by have := unhide HN; omega) (Nat.le_refl _))
      obtain ⟨A, B, hX⟩ : ∃ A B, (A, B) = at' zs j := ⟨_, _, rfl⟩
      rw [← hX] at fa HTS gd
      have hc0 : wr.cell? ⟨b, off + j * 2, none⟩ = some (.string A) := (hbel.cell (p := ⟨b, _, none⟩) hl).trans (hcells (j * 2) _ fa.1)
      have hc1 : wr.cell? ⟨b, off + j * 2 + 1, none⟩ = some (.string B) := (hbel.cell (p := ⟨b, _, none⟩) hl).trans (hcells (j * 2 + 1) _ fa.2)
      have hk0 : (0 : Int) ≤ (j : Int) := Int.natCast_nonneg _
      have hk1 : (j : Int) < (n : Int) := by omega
      have HTS' := hide (show totTo zs (j + 1) = totTo zs j + (A.size + B.size) from HTS)
      have HOne := hide (fun W => sz_one A B (left - (totTo zs j : Int)) W hleft (by omega) gd.1 gd.2)
      clear hX fa HTS gd
      generalize totTo zs j = Q at *
      go_wp2_with fail
      refine (unhide HOne _).mono ?_
      rintro e w2 ⟨rfl, b2⟩
      by_cases hneg : left - (Q : Int) - (A.size : Int) - (B.size : Int) < 0
      · rw [if_pos hneg]
        have HRn := hide (show R = -1 by rw [unhide HR, if_pos]; have := unhide HLe; have := unhide HTS'; omega)
        go_wp2
        go_ret
        exact ⟨ret_int (unhide HRn).symm, hbel.trans (b2.mono hsz)⟩
      · rw [if_neg hneg]
        have hle0 : 0 ≤ left - (Q : Int) - (A.size : Int) - (B.size : Int) := by omega
        go_wp2
        go_roundw
        case rel => exact ⟨j + 1, by omega, by go_num, by rw [unhide HTS']; go_num, by rw [unhide HTS']; omega, hbel.trans (b2.mono hsz)⟩
        case measure => simp [intOf]; omega
    · obtain rfl : j = n := by omega
      have HRp := hide (show R = left - (totTo zs j : Int) by rw [unhide HR]; have e := totTo_all zs; rw [← unhide HN] at e; rw [← e, if_neg (by omega)])
      go_wp2
      go_ret
      exact ⟨ret_int (unhide HRp).symm, hbel⟩
end Go.Proofs.YtamjliaeikoemaaDoor.Lab
