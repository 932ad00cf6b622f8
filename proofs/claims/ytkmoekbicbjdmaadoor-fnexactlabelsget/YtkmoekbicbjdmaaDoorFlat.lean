/- Slices of elements of some cells each, told by what each element's cells hold: a slice that came in, opened. No condition. -/
import Derived.Test.YtkmoekbicbjdmaaDoorRw
import Derived.Deep.Slices
namespace Go.Proofs.YtkmoekbicbjdmaaDoor.Rw
open Go.RowKit Go.ChangeShapes Go.WideShapes
def flatOf {α : Type} (fl : α → List Value) (zs : List α) : List Value := zs.flatMap fl
theorem flatOf_nil {α : Type} (fl : α → List Value) : flatOf fl [] = [] := rfl
theorem flatOf_append {α : Type} (fl : α → List Value) (a b : List α) : flatOf fl (a ++ b) = flatOf fl a ++ flatOf fl b := by simp [flatOf]
theorem flatOf_one {α : Type} (fl : α → List Value) (x : α) : flatOf fl [x] = fl x := by simp [flatOf]
theorem flatOf_cons {α : Type} (fl : α → List Value) (x : α) (zs : List α) : flatOf fl (x :: zs) = fl x ++ flatOf fl zs := by simp [flatOf]
theorem flatOf_length {α : Type} {fl : α → List Value} {k : Nat} (hk : ∀ x, (fl x).length = k) (zs : List α) : (flatOf fl zs).length = zs.length * k := by
  induction zs with
  | nil => simp [flatOf]
  | cons x zs ih => rw [show x :: zs = [x] ++ zs from rfl, flatOf_append, List.length_append, ih, flatOf_one, hk, List.length_append, Nat.add_mul]; simp
theorem flatOf_get {α : Type} {fl : α → List Value} {k : Nat} (hk : ∀ x, (fl x).length = k) : ∀ (zs : List α) (i c : Nat) (h : i < zs.length), c < k → (flatOf fl zs)[i * k + c]? = (fl zs[i])[c]?
  | x :: zs, 0, c, _, hc => by
    rw [flatOf_cons, Nat.zero_mul, Nat.zero_add, List.getElem?_append_left (by rw [hk]; exact hc)]
    rfl
  | x :: zs, i + 1, c, h, hc => by
    have ih := flatOf_get hk zs i c (by simpa using h) hc
    rw [flatOf_cons, List.getElem?_append_right (by rw [hk, Nat.add_mul]; omega), hk, show (i + 1) * k + c - k = i * k + c from by rw [Nat.add_mul]; omega, ih]
    rfl
theorem flatOf_drop {α : Type} {fl : α → List Value} {k : Nat} (hk : ∀ x, (fl x).length = k) (zs : List α) (i : Nat) : flatOf fl (zs.drop i) = (flatOf fl zs).drop (i * k) := by
  induction i generalizing zs with
  | zero => simp
  | succ i ih =>
    cases zs with
    | nil => simp [flatOf]
    | cons x zs =>
      rw [List.drop_succ_cons, ih zs, show x :: zs = [x] ++ zs from rfl, flatOf_append, flatOf_one, Nat.add_mul, Nat.one_mul, Nat.add_comm, ← List.drop_drop, List.drop_left' (hk x)]
theorem flatOf_take {α : Type} {fl : α → List Value} {k : Nat} (hk : ∀ x, (fl x).length = k) (zs : List α) (i : Nat) : flatOf fl (zs.take i) = (flatOf fl zs).take (i * k) := by
  have h := flatOf_append fl (zs.take i) (zs.drop i)
  rw [List.take_append_drop] at h
  rw [h]
  rcases Nat.lt_or_ge zs.length i with hl | hl
  · rw [List.take_of_length_le (by omega), List.drop_eq_nil_of_le (by omega), flatOf_nil, List.append_nil, List.take_of_length_le]
    rw [flatOf_length hk]; exact Nat.mul_le_mul_right _ (by omega)
  · have : (flatOf fl (zs.take i)).length = i * k := by rw [flatOf_length hk, List.length_take, Nat.min_eq_left hl]
    rw [← this, List.take_left]
/-- a slice that came in, its elements decoded one by one -/
theorem open_flat {H : Type} {enc : TypeId × Value → H} {W : World} {t e : TypeId} {a : Option Addr} {len cap k : Nat} {d : DataW H} {p : List MemPlace} {α : Type} {fl : α → List Value} {good : α → Prop} [Inhabited α]
    (hk : ∀ x, (fl x).length = k) (ht : Tryd.prog.underlying t = some (.slice e)) (ce : Tryd.prog.cellsOf e = k)
    (dec : ∀ (n : Nat) (cs : List Value) y, cs.length = k → DataW.trod enc Tryd.prog W 0 (fun _ => true) true n e cs = some y → ∃ x : α, cs = fl x ∧ good x) (hk0 : 0 < k)
    (h : DataW.Trod enc Tryd.prog W 0 (fun _ => true) true t (.slice a len cap) d p) : ∃ zs : List α, zs.length = len ∧ len ≤ maxLen ∧ Lies W (.slice a len cap) len k (flatOf fl zs) ∧ ∀ x ∈ zs, good x := by
  obtain ⟨fuel, hf⟩ := h
  rcases Go.Deep.open_slice ht hf with ⟨hcs, _⟩ | ⟨x, l, c, m, n, D, Pl, hcs, _, hl, hm, hmm, _, hx⟩
  · simp [Value.cells] at hcs
    obtain ⟨rfl, rfl, rfl⟩ := hcs
    exact ⟨[], rfl, Nat.zero_le _, ⟨by simp [flatOf], none, 0, rfl, Nat.le_refl _, Nat.zero_le _, fun _ => rfl, fun h => by omega⟩, fun x hx => by cases hx⟩
  · simp [Value.cells] at hcs
    obtain ⟨rfl, rfl, rfl⟩ := hcs
    simp only [if_true] at hmm
    subst hmm
    have each : ∀ i, i < m → ∃ q : α, (∀ j u, (fl q)[j]? = some u → W.cell? (x.add (i * k + j)) = some u) ∧ good q := by
      intro i hi
      obtain ⟨cs', h1, h2⟩ := hx i hi
      rw [ce] at h1
      obtain ⟨_, hlen, hcell⟩ := World.cells?_some h1
      obtain ⟨q, hq, hg⟩ := dec n cs' _ hlen h2
      refine ⟨q, fun j u hj => ?_, hg⟩
      have hj' := (List.getElem?_eq_some_iff.1 hj).1
      rw [hk] at hj'
      have e0 := hcell j hj'
      rw [Go.Deep.add_add] at e0
      rw [e0, hq, hj]
    obtain ⟨q, hq⟩ := Go.Deep.choose_lt each
    refine ⟨(List.range len).map q, by simp, by omega, ⟨by rw [flatOf_length hk]; simp, some x, m, rfl, hl, hm, fun e => (by cases e), fun h0 => ?_⟩, ?_⟩
    · obtain ⟨b, off, spot⟩ := x
      have c0 : ∃ u, W.cell? ((⟨b, off, spot⟩ : Addr).add 0) = some u := by
        have hlk : 0 < (fl (q 0)).length := by rw [hk]; exact hk0
        refine ⟨(fl (q 0))[0], ?_⟩
        have := (hq 0 (by omega)).1 0 _ (List.getElem?_eq_getElem hlk)
        simpa using this
      obtain ⟨u0, c0⟩ := c0
      have hspot : spot = none := by simpa [Addr.add] using World.cell?_spot c0
      subst hspot
      refine ⟨b, off, rfl, World.block_lt_of_cell? W ⟨b, _, none⟩ c0, fun j u hj => ?_⟩
      have hj' := (List.getElem?_eq_some_iff.1 hj).1
      rw [flatOf_length hk] at hj'
      simp only [List.length_map, List.length_range] at hj'
      have hdiv : j / k < len := Nat.div_lt_of_lt_mul (by rw [Nat.mul_comm]; exact hj')
      have hmod : j % k < k := Nat.mod_lt _ hk0
      have hdm : j / k * k + j % k = j := by rw [Nat.mul_comm]; exact Nat.div_add_mod j k
      have hg := flatOf_get hk ((List.range len).map q) (j / k) (j % k) (by simpa using hdiv) hmod
      rw [hdm] at hg
      rw [hg] at hj
      have hx' : ((List.range len).map q)[j / k]'(by simpa using hdiv) = q (j / k) := by simp
      rw [hx'] at hj
      have := (hq (j / k) (by omega)).1 _ u hj
      rw [hdm] at this
      rwa [add_plain] at this
    · intro y hy
      obtain ⟨i, hi, rfl⟩ := List.mem_map.1 hy
      exact (hq i (by have := List.mem_range.1 hi; omega)).2
end Go.Proofs.YtkmoekbicbjdmaaDoor.Rw
