/- What impl.BitsGet answers: its iterator, and its caller. -/
import Derived.RangeFuncNested
import Derived.RangeFuncBound
import Derived.RangeFuncCalls
import Derived.RangeFuncLeaves
import Derived.Shelf.Abstract
import Derived.Shelf.RegionOpen
import Derived.WalkKit
import Derived.OwnWalkIn
import Derived.TacticsInMore
import Derived.LoopNIn
import Derived.LoopIn
import Derived.Test.YtkaepjngmgicaaaBitGet
namespace Go.Proofs.Ytkaepjngmgicaaa.BitIter
open Go.RowKit Go.Shelf
attribute [local go_sem] Oper.semAt_some
def val (l : List (Fin 2)) : Nat := l.foldl (fun a b => a * 2 + b.val) 0
theorem val_snoc (l : List (Fin 2)) (x : Fin 2) : val (l ++ [x]) = val l * 2 + x.val := by simp [val]
theorem val_lt (l : List (Fin 2)) : ∀ n a, a < 2 ^ n → l.foldl (fun a b => a * 2 + b.val) a < 2 ^ (n + l.length) := by
  induction l with
  | nil => intro n a h; simpa using h
  | cons x l ih =>
    intro n a h
    have := x.isLt
    have h2 := ih (n + 1) (a * 2 + x.val) (by rw [Nat.pow_succ]; omega)
    rw [List.foldl_cons, List.length_cons, show n + (l.length + 1) = n + 1 + l.length by omega]
    exact h2
theorem val_le (l : List (Fin 2)) (h : l.length ≤ 32) : val l < 4294967296 := by
  have h1 := val_lt l 0 0 (by decide)
  have h2 : 2 ^ (0 + l.length) ≤ 2 ^ 32 := Nat.pow_le_pow_right (by decide) (by omega)
  exact Nat.lt_of_lt_of_le h1 h2
/-- the bits from p on -/
def upto (s : ByteArray) (p k : Nat) : List (Fin 2) := (List.range k).map (fun j => ⟨BitMath.bit s.data.toList (p + j), BitMath.bit_lt _ _⟩)
theorem upto_succ (s : ByteArray) (p k : Nat) : upto s p (k + 1) = upto s p k ++ [⟨BitMath.bit s.data.toList (p + k), BitMath.bit_lt _ _⟩] := by
  unfold upto
  rw [List.range_succ, List.map_append]
  rfl
theorem upto_prefix (s : ByteArray) (p : Nat) {a b : Nat} (h : a ≤ b) : upto s p a <+: upto s p b := by
  obtain ⟨d, rfl⟩ : ∃ d, b = a + d := ⟨b - a, by omega⟩
  clear h
  induction d with
  | zero => exact List.prefix_refl _
  | succ d ih => rw [show a + (d + 1) = a + d + 1 by omega, upto_succ]; exact List.IsPrefix.trans ih (List.prefix_append _ _)
theorem upto_length (s : ByteArray) (p k : Nat) : (upto s p k).length = k := by simp [upto]
theorem upto_val (s : ByteArray) (p : Nat) : ∀ k, val (upto s p k) = BitMath.num s.data.toList p k
  | 0 => rfl
  | k + 1 => by rw [upto_succ, val_snoc, upto_val s p k]; rfl
/-- what a round keeps: the iterator's own boxes -/
def Keep (m n2 : Nat) (W W' : World) : Prop := ∀ k, m ≤ k → k < n2 → W'.heap[k]? = W.heap[k]?
theorem Keep.cell {m n2 : Nat} {W W' : World} (h : Keep m n2 W W') {k o : Nat} (h1 : m ≤ k) (h2 : k < n2) : W'.cell? ⟨k, o, none⟩ = W.cell? ⟨k, o, none⟩ := World.cell?_of_block (a := ⟨k, o, none⟩) (h k h1 h2)
set_option maxRecDepth 100000 in
set_option maxHeartbeats 2000000 in
theorem iter_in (F : Fence) (n : Nat) (hf : F.fn 86) (hro : F.round = none) (hn : 1 ≤ n) (l m n2 : Nat) (hm : n2 = m + 3) (s : ByteArray) (p q : Nat) (hs : s.size ≤ 751) (hq : q ≤ 32) (hp : p + q ≤ 8 * s.size) (J Jx : List (Fin 2) → World → Prop)
    (hY : ∀ pre x W, J pre W → pre.length < q → YieldAt F (n - 1) Try.prog l #[.int .i64 (x.val : Int)] W fun e W' =>
      (e = .returned (.bool true) ∧ J (pre ++ [x]) W' ∧ Keep m n2 W W') ∨ (e = .returned (.bool false) ∧ Jx (pre ++ [x]) W'))
    (W : World) (c1 : W.cell? ⟨m, 0, none⟩ = some (.string s)) (c2 : W.cell? ⟨m + 1, 0, none⟩ = some (.int .i64 p)) (c3 : W.cell? ⟨m + 2, 0, none⟩ = some (.int .i64 q)) (h0 : J [] W) :
    CallsIn F n Try.prog 86 #[.func (.yield l) #[] #[], .pointer (some ⟨m + 1, 0, none⟩), .pointer (some ⟨m + 2, 0, none⟩), .pointer (some ⟨m, 0, none⟩)] W fun e W' => (∃ v, e = .returned v) ∧
      ((∃ ys, ys = upto s p q ∧ J ys W') ∨ (∃ pre, pre <+: upto s p q ∧ Jx pre W')) := by
  refine callsIn_of_wp Try.func86 rfl hf ?_ hro
  simp only [Try.ntmps86, List.size_toArray, List.length_cons, List.length_nil, Nat.reduceAdd, Nat.reduceSub, Array.replicate_succ, Array.replicate_zero, List.push_toArray, List.append_toArray, List.nil_append, List.cons_append]
  gi_wp2
  gi_loopw [5] (fun iv wr => ∃ k : Nat, iv = .int .i64 ((p + k : Nat) : Int) ∧ k ≤ q ∧ wr.cell? ⟨m, 0, none⟩ = some (.string s) ∧ wr.cell? ⟨m + 1, 0, none⟩ = some (.int .i64 p) ∧ wr.cell? ⟨m + 2, 0, none⟩ = some (.int .i64 q) ∧ J (upto s p k) wr)
    (fun iv _ => p + q - (intOf iv).toNat)
  case atStart => exact ⟨0, rfl, Nat.zero_le _, c1, c2, c3, h0⟩
  case round =>
    clear c1 c2 c3
    obtain ⟨k, rfl, hk, c1, c2, c3, hJ⟩ := hrel
    by_cases hkq : k < q
    · obtain ⟨J1, m1, c, B, hJ1, hm1, hc, e1, e2, e3, e4, hr, hB, hb1, hb2, hb⟩ := BitGet.round_facts s (p + k) (by omega) (by omega)
      have e5 : ((p + k : Nat) : Int) = (p : Int) + (k : Int) := by omega
      rw [e5] at e1 e2 e3 e4
      clear e5
      obtain ⟨fn, tmps, assign, body, hy, hR⟩ := hY (upto s p k) ⟨B, hB⟩ wr hJ (by rw [upto_length]; exact hkq)
      dsimp only at hy
      gi_wp2
      refine hR.mono ?_
      rintro e W3 (⟨rfl, hJ3, hk3⟩ | ⟨rfl, hJx3⟩)
      · have d1 := (hk3.cell (k := m) (o := 0) (by omega) (by omega)).trans c1
        have d2 := (hk3.cell (k := m + 1) (o := 0) (by omega) (by omega)).trans c2
        have d3 := (hk3.cell (k := m + 2) (o := 0) (by omega) (by omega)).trans c3
        have hJ4 := hide (show J (upto s p (k + 1)) W3 by
          have eB : (⟨B, hB⟩ : Fin 2) = ⟨BitMath.bit s.data.toList (p + k), BitMath.bit_lt _ _⟩ := Fin.ext (unhide hb)
          rw [upto_succ, ← eB]
          exact hJ3)
        clear hJ3 hk3 hR hJ c1 c2 c3
        gi_wp2
        go_roundw
        case rel => exact ⟨k + 1, by go_num, by omega, d1, d2, d3, unhide hJ4⟩
        case measure => simp [intOf]; omega
      · gi_wp2
        refine bodyPost_ret (results_none rfl _ _ _) rfl ?_
        refine ⟨⟨_, rfl⟩, .inr ⟨upto s p k ++ [⟨B, hB⟩], ?_, hJx3⟩⟩
        have eB : (⟨B, hB⟩ : Fin 2) = ⟨BitMath.bit s.data.toList (p + k), BitMath.bit_lt _ _⟩ := Fin.ext (unhide hb)
        rw [eB, ← upto_succ]
        exact upto_prefix s p (by omega)
    · obtain rfl : k = q := by omega
      gi_wp2
      go_end0
      exact ⟨⟨_, rfl⟩, .inl ⟨_, rfl, hJ⟩⟩
theorem Keep.b {m n2 : Nat} {w : World} (hn : n2 ≤ w.heap.size) (W : World) (l : Nat) (o o' : Obj) (hl : w.heap.size ≤ l) (h : W.heap[l]? = some o) (_ : o.isCells = false) (_ : o.isWalk = false) : Keep m n2 W (W.putObj l o') := fun k _ h2 =>
  (belowK_b (n₀ := n2) hn W l o o' hl h ‹_› ‹_›).block k h2
theorem iter_stops (F : Fence) (n : Nat) (hf : F.fn 86) (hro : F.round = none) (hn : 1 ≤ n) (m n2 : Nat) (hm : n2 = m + 3) (s : ByteArray) (p q : Nat) (hs : s.size ≤ 751) (hq : q ≤ 32) (hp : p + q ≤ 8 * s.size)
    (w : World) (hw : n2 ≤ w.heap.size) (c1 : w.cell? ⟨m, 0, none⟩ = some (.string s)) (c2 : w.cell? ⟨m + 1, 0, none⟩ = some (.int .i64 p)) (c3 : w.cell? ⟨m + 2, 0, none⟩ = some (.int .i64 q)) :
    SeqStopsK F n Try.prog 86 #[.pointer (some ⟨m + 1, 0, none⟩), .pointer (some ⟨m + 2, 0, none⟩), .pointer (some ⟨m, 0, none⟩)] (fun x : Fin 2 => #[Value.int .i64 (x.val : Int)]) (Keep m n2) (fun ys => ys = upto s p q) (fun pre => pre <+: upto s p q) q w := fun l J Jx W hW _ _ hY h0 =>
  iter_in F n hf hro hn l m n2 hm s p q hs hq hp J Jx hY W ((hW.cell (p := ⟨m, 0, none⟩) (show m < _ by omega)).trans c1) ((hW.cell (p := ⟨m + 1, 0, none⟩) (show m + 1 < _ by omega)).trans c2) ((hW.cell (p := ⟨m + 2, 0, none⟩) (show m + 2 < _ by omega)).trans c3) h0
theorem from_in (F : Fence) (n : Nat) (hf : F.fn 70) (hro : F.round = none) (s : ByteArray) (p q : Int) (w : World) :
    CallsIn F n Try.prog 70 #[.string s, .int .i64 p, .int .i64 q] w fun e w' => e = .returned (.func (.func 86) #[] #[.pointer (some ⟨w.heap.size + 1, 0, none⟩), .pointer (some ⟨w.heap.size + 2, 0, none⟩), .pointer (some ⟨w.heap.size, 0, none⟩)]) ∧ w' = ((w.alloc (.cells #[.string s] 9)).alloc (.cells #[.int .i64 p] 3)).alloc (.cells #[.int .i64 q] 3) := by
  refine callsIn_of_wp Try.func70 rfl hf ?_ hro
  simp only [Try.ntmps70, List.size_toArray, List.length_cons, List.length_nil, Nat.reduceAdd, Nat.reduceSub, Array.replicate_succ, Array.replicate_zero, List.push_toArray, List.append_toArray, List.nil_append, List.cons_append]
  gi_wp2
  go_ret
  exact ⟨rfl, rfl⟩
theorem wide_true (F : Fence) (n : Nat) (hf : F.fn 69) (hro : F.round = none) (q : Int) (w : World) (h1 : 1 ≤ q) (h2 : q ≤ 32) : CallsIn F n Try.prog 69 #[.int .i64 q] w fun e w' => e = .returned (.bool true) ∧ w' = w := by
  refine callsIn_of_wp Try.func69 rfl hf ?_ hro
  simp only [Try.ntmps69, List.size_toArray, List.length_cons, List.length_nil, Nat.reduceAdd, Nat.reduceSub, Array.replicate_succ, Array.replicate_zero, List.push_toArray, List.append_toArray, List.nil_append, List.cons_append]
  gi_wp2
  go_ret
  exact ⟨rfl, rfl⟩
theorem cell_of_box_l {W : World} {B : Nat} {v : Value} {t : TypeId} (h : W.heap[B]? = some (.cells #[v] t (0, 0))) : W.cell? ⟨B, 0, none⟩ = some v ∧ W.frozen? ⟨B, 0, none⟩ = false := by
  constructor <;> simp [World.cell?, World.frozen?, h]
theorem cell_new_l (W : World) (v : Value) (t : TypeId) : (W.alloc (.cells #[v] t)).cell? ⟨W.heap.size, 0, none⟩ = some v ∧ (W.alloc (.cells #[v] t)).frozen? ⟨W.heap.size, 0, none⟩ = false :=
  cell_of_box_l (World.alloc_heap_new W _)
theorem cell_alloc_l {W : World} {a : Addr} {v : Value} (o : Obj) (h : W.cell? a = some v) : (W.alloc o).cell? a = some v := cell_kept h (World.grownBy_alloc W o none) (fun r e => by cases e)
theorem frozen_alloc_l {W : World} {a : Addr} {v : Value} (o : Obj) (h : W.cell? a = some v) (hf : W.frozen? a = false) : (W.alloc o).frozen? a = false := (frozen_kept h (World.grownBy_alloc W o none) (fun r e => by cases e)).trans hf
set_option maxRecDepth 100000 in
set_option maxHeartbeats 2000000 in
theorem yes_in (s : ByteArray) (p q : Nat) (w : World) (hs : s.size ≤ 751) (hq1 : 1 ≤ q) (hq : q ≤ 32) (hp : p + q ≤ 8 * s.size) :
    CallsIn Fence.wide 3 Try.prog 23 #[.string s, .int .i64 p, .int .i64 q] w fun e w' => e = .returned (.tuple #[.int .i64 (BitMath.num s.data.toList p q), .bool true]) ∧ Below w.heap.size w w' := by
  have hro : Fence.wide.round = none := rfl
  have h1 : 1 ≤ 3 := by omega
  refine callsIn_of_wp_marks Try.func23 rfl trivial ?_ hro
  simp only [Try.ntmps23, List.size_toArray, List.length_cons, List.length_nil, Nat.reduceAdd, Nat.reduceSub, Array.replicate_succ, Array.replicate_zero, List.push_toArray, List.append_toArray, List.nil_append, List.cons_append]
  gi_wp2_with (first | (refine ⟨trivial, ?_⟩; gi_at_call 69; refine (wide_true _ _ trivial rfl _ _ (by omega) (by omega)).mono ?_; rintro e w' ⟨rfl, rfl⟩) | (refine ⟨trivial, ?_⟩; gi_at_call 70; refine (from_in _ _ trivial rfl _ _ _ _).mono ?_; rintro e w' ⟨rfl, rfl⟩))
  have z0 := cell_new_l w' (.int .i64 0) 3
  have z1 := cell_new_l (w'.alloc (.cells #[.int .i64 0] 3)) (.string s) 9
  have z2 := cell_new_l ((w'.alloc (.cells #[.int .i64 0] 3)).alloc (.cells #[.string s] 9)) (.int .i64 p) 3
  have z3 := cell_new_l (((w'.alloc (.cells #[.int .i64 0] 3)).alloc (.cells #[.string s] 9)).alloc (.cells #[.int .i64 p] 3)) (.int .i64 q) 3
  simp only [World.size_alloc] at z1 z2 z3
  have hB0 : Below w'.heap.size w' ((((w'.alloc (.cells #[.int .i64 0] 3)).alloc (.cells #[.string s] 9)).alloc (.cells #[.int .i64 p] 3)).alloc (.cells #[.int .i64 q] 3)) := ((((Below.refl _ w').alloc (Nat.le_refl _) _).alloc (by simp) _).alloc (by simp; omega) _).alloc (by simp; omega) _
  refine wpIn_rangeFunc_ownF hro h1 (gf := 86) (lb := #[.pointer (some ⟨w'.heap.size + 1 + 1, 0, none⟩), .pointer (some ⟨w'.heap.size + 1 + 2, 0, none⟩), .pointer (some ⟨w'.heap.size + 1, 0, none⟩)]) rfl trivial (enters_of Try.func86 (by kernel_rfl) rfl)
    (iter_stops Fence.wide (3 - 1) trivial hro (by omega) (w'.heap.size + 1) (w'.heap.size + 1 + 3) rfl s p q hs hq hp _ (by simp) (cell_alloc_l _ (cell_alloc_l _ z1.1)) (cell_alloc_l _ z2.1) z3.1)
    (fun h h' k a b => (h' k a b).trans (h k a b)) (Keep.b (by simp)) (Below.refl _ _) (fun _ => rfl)
    (fun pre W => (W.cell? ⟨w'.heap.size, 0, none⟩ = some (.int .i64 (val pre : Int)) ∧ W.frozen? ⟨w'.heap.size, 0, none⟩ = false) ∧ Below w'.heap.size w' W)
    (fun _ _ _ => False)
    (OwnFrom.and (Own.from (fun s A B row hs hg hr => ⟨cell_kept hs.1 hg hr, (frozen_kept hs.1 hg hr).trans hs.2⟩) _) (ownFrom_below (Nat.le_refl _) (by simp; omega)))
    (fun _ _ _ _ _ hs _ _ => hs)
    ⟨⟨cell_alloc_l _ (cell_alloc_l _ (cell_alloc_l _ z0.1)), frozen_alloc_l _ (cell_alloc_l _ (cell_alloc_l _ z0.1)) (frozen_alloc_l _ (cell_alloc_l _ z0.1) (frozen_alloc_l _ z0.1 z0.2))⟩, hB0⟩
    (fun x => { tmps := #[.string s, .int .i64 p, .int .i64 q, undef, undef, undef,
        .int .i64 0, .bool false, .pointer (some ⟨w'.heap.size, 0, none⟩), .int .i64 (x.val : Int),
        .int .i64 q, .bool true, .bool false, .bool false, .string s,
        .int .i64 s.size, .bool (decide (751 < (s.size : Int))), .bool (decide (751 < (s.size : Int))),
        .int .i64 p, .bool (decide ((p : Int) < 0)), .bool (decide ((p : Int) < 0)), .int .i64 p,
        .string s, .int .i64 s.size, .int .i64 ((s.size : Int) * 8), .int .i64 q,
        .int .i64 ((s.size : Int) * 8 - (q : Int)), .bool (decide ((s.size : Int) * 8 - (q : Int) < (p : Int))),
        .bool (decide ((p : Int) < 0) || decide ((s.size : Int) * 8 - (q : Int) < (p : Int))), .string s, .int .i64 p,
        .int .i64 q,
        .func (.func 86) #[] #[.pointer (some ⟨w'.heap.size + 1 + 1, 0, none⟩), .pointer (some ⟨w'.heap.size + 1 + 2, 0, none⟩), .pointer (some ⟨w'.heap.size + 1, 0, none⟩)],
        .int .i64 (x.val : Int), undef, undef, undef, undef, undef], defers := [] }) ?assign ?body ?done ?stop
  case assign =>
    intro l x W K hK
    gi_wp2
    exact hK
  case body =>
    rintro l pre ⟨X, hx⟩ W ⟨⟨hc, hf⟩, hB⟩ hlen
    have hv := val_le pre (by omega)
    have HV := hide (show val (pre ++ [⟨X, hx⟩]) = val pre * 2 + X from val_snoc pre ⟨X, hx⟩)
    dsimp only
    gi_wp2
    have ew : (val pre : Int) * 2 + (X : Int) = (val (pre ++ [⟨X, hx⟩]) : Int) := by
      have h1 := unhide HV
      omega
    rw [ew]
    exact ⟨KeepsOthers.setCell _ _ _, fun k a b => Below.heap_setCell _ _ _ _ (by show k ≠ w'.heap.size; omega), ⟨World.cell?_setCell_same' _ _ _ (by rw [hc]; rfl), by rw [World.frozen?_setCell]; exact hf⟩, hB.setCell (p := ⟨w'.heap.size, 0, none⟩) (Nat.le_refl _) _⟩
  case done =>
    rintro D ys W hD rfl ⟨⟨hc, _⟩, hB⟩ hK
    rw [upto_val] at hc
    gi_wp2
    refine ⟨by simp, .inl ⟨_, _, rfl, run_takeDeferred hK, ?_⟩⟩
    exact ⟨_, results_tmp2 rfl _ _ _, rfl, hB.trans (belowK_b (w := w') (Nat.le_refl _) W D _ _ (by simp at hD; omega) hK rfl rfl)⟩
  case stop =>
    rintro D c pre W _ _ h _
    exact h.elim
end Go.Proofs.Ytkaepjngmgicaaa.BitIter
