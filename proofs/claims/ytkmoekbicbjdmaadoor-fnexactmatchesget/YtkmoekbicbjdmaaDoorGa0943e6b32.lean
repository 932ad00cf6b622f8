/- My own texts of one claim, laid together by program: IntsPut, Rd, DrawList, CutWalk. -/
import Derived.Test.YtkmoekbicbjdmaaDoorG7c318c251b
import Derived.Deep.RegionLaw
import Derived.Test.YtkmoekbicbjdmaaDoorGeeb769b86e
import Derived.Test.YtkmoekbicbjdmaaDoorGacf6adc661
import Derived.Test.YtkmoekbicbjdmaaDoorG0d305fe6f9
/- l4Put and ListEither of the model. -/
namespace Go.Proofs.YtkmoekbicbjdmaaDoor.Ints
open Go.RowKit ListMath Rw
set_option linter.unusedVariables false
attribute [local go_sem ↓] Go.wp_at_zero Go.wp_at_succ
theorem own_empty' {w : World} {base B : Nat} {e : TypeId} {size : Nat} (hb : base ≤ w.heap.size) (hB : B = w.heap.size) : (w.alloc (.cells #[] e)).ownsRow base e size (.slice (some ⟨B, 0, none⟩) 0 0) 0 [] := by
  subst hB; exact own_empty hb
theorem putAt_of : ∀ (l : List Int) (x : Int) (k : Nat), k ≤ l.length → (∀ j, j < k → at' l j < x) → (k < l.length → ¬ at' l k < x) → putAt l x = k
  | [], x, k, h, _, _ => by simp at h; subst h; rfl
  | y :: l, x, 0, _, _, h => by
    have := h (by simp)
    have e : at' (y :: l) 0 = y := rfl
    rw [e] at this
    simp [putAt, this]
  | y :: l, x, k + 1, h, h1, h2 => by
    have hy : y < x := h1 0 (by omega)
    have ih := putAt_of l x k (by simpa using h) (fun j hj => by have := h1 (j + 1) (by omega); simpa [at', List.getD] using this) (fun hk => by have := h2 (by simpa using hk); simpa [at', List.getD] using this)
    unfold putAt at ih ⊢
    simp [hy, ih]
theorem put_there {l : List Int} {x : Int} {k : Nat} (hk : k < l.length) (h : putAt l x = k) (he : at' l k = x) : put l x = l := by
  unfold put
  rw [h, if_pos ⟨by intro e; have := congrArg List.length e; simp at this; omega, he⟩]
theorem put_new {l : List Int} {x : Int} {k : Nat} (h : putAt l x = k) (he : k < l.length → at' l k ≠ x) : put l x = l.take k ++ x :: l.drop k := by
  unfold put
  rw [h, if_neg]
  rintro ⟨h1, h2⟩
  refine he ?_ h2
  rcases Nat.lt_or_ge k l.length with hl | hl
  · exact hl
  · exact absurd (List.drop_eq_nil_of_le hl) h1
theorem head_ok {w : World} {a : Option Addr} {N cap k : Nat} {xs : List Value} (h : Lies w (.slice a N cap) N 1 xs) (h0 : k ≤ N) :
    ∃ R, (∀ W, (Instr.slice 89 (.slice a N cap) none (some (.int .i64 (k : Int))) none).run Tryd.prog W = .ok R W) ∧ Lies w R k 1 (xs.take k) := by
  have hc : N ≤ cap := by obtain ⟨-, a', cap', h1, h2, -⟩ := h; simp only [Value.slice.injEq, true_and] at h1; omega
  have h1 := take_lies (k := k) (cut_lies h (i := 0) (by omega)) (by omega)
  rw [Nat.zero_mul, List.drop_zero, Nat.mul_one] at h1
  refine ⟨_, fun W => ?_, h1⟩
  have e := run_slice_h (P := Tryd.prog) W 89 a N cap (by kernel_rfl) .i64 (k : Int) (by omega) (by omega)
  rw [e]
  show ((sizeOf (Tryd.prog.elem 89)).run Tryd.prog W).andThen _ = _
  rw [size_int]
  simp [sliced]
theorem rest_ok {w : World} {a : Option Addr} {N cap k : Nat} {xs : List Value} (h : Lies w (.slice a N cap) N 1 xs) (h0 : k ≤ N) :
    ∃ R, (∀ W, (Instr.slice 89 (.slice a N cap) (some (.int .i64 (k : Int))) none none).run Tryd.prog W = .ok R W) ∧ Lies w R (N - k) 1 (xs.drop k) := by
  have hc : N ≤ cap := by obtain ⟨-, a', cap', h1, h2, -⟩ := h; simp only [Value.slice.injEq, true_and] at h1; omega
  refine ⟨_, fun W => ?_, by have := cut_lies h (i := k) (by omega); rw [Nat.mul_one] at this; exact this⟩
  have e := run_slice_l (P := Tryd.prog) W 89 a N cap (by kernel_rfl) .i64 (k : Int) (by omega) (by omega)
  rw [e]
  show ((sizeOf (Tryd.prog.elem 89)).run Tryd.prog W).andThen _ = _
  rw [size_int]
  simp [sliced]
theorem puts_snoc (l zs : List Int) (k : Nat) (h : k < zs.length) : (zs.take (k + 1)).foldl put l = put ((zs.take k).foldl put l) (at' zs k) := by rw [at_snoc zs k h, List.foldl_append]; rfl
theorem puts_take_le (l zs : List Int) (k : Nat) : ((zs.take k).foldl put l).length ≤ l.length + k := by
  have h1 := puts_le (zs.take k) l
  have h2 := List.length_take_le k zs
  omega
end Go.Proofs.YtkmoekbicbjdmaaDoor.Ints

/- The laws draw their inputs from bytes: what is drawn lies within bounds, and nothing that lay there is turned. -/
namespace Go.Proofs.YtkmoekbicbjdmaaDoor.Draw
open Go.RowKit Rw
set_option linter.unusedVariables false
attribute [local go_sem ↓] Go.wp_at_zero Go.wp_at_succ
/-- bytes that can be read -/
def Bytes (w : World) (rb : Nat) (a : Option Addr) (len : Nat) : Prop :=
  len ≤ 2000 ∧ (0 < len → ∃ b off, a = some ⟨b, off, none⟩ ∧ b < rb ∧ ∀ i, i < len → ∃ c : Nat, c < 256 ∧ w.cell? ⟨b, off + i, none⟩ = some (.int .u8 (c : Int)))
/-- a reader at place p, in block rb -/
def Rd (w : World) (rb p : Nat) : Prop := ∃ a len cap, w.heap[rb]? = some (.cells #[.slice a len cap, .int .i64 (p : Int)] 74 (0, 0)) ∧ len ≤ cap ∧ cap ≤ maxLen ∧ Bytes w rb a len
theorem Rd.lt {w : World} {rb p : Nat} (h : Rd w rb p) : rb < w.heap.size := by
  obtain ⟨a, len, cap, hb, _⟩ := h
  rcases Nat.lt_or_ge rb w.heap.size with hl | hl
  · exact hl
  · rw [Array.getElem?_eq_none hl] at hb; cases hb
theorem Rd.below {w w' : World} {rb p : Nat} (h : Rd w rb p) (hb : Below w.heap.size w w') : Rd w' rb p := by
  have hl := h.lt
  obtain ⟨a, len, cap, h1, h2, h3, h4, h5⟩ := h
  refine ⟨a, len, cap, by rw [hb.block rb hl]; exact h1, h2, h3, h4, fun h0 => ?_⟩
  obtain ⟨b, off, e, hbr, hc⟩ := h5 h0
  exact ⟨b, off, e, hbr, fun i hi => by obtain ⟨c, hc1, hc2⟩ := hc i hi; exact ⟨c, hc1, (hb.cell (p := ⟨b, off + i, none⟩) (show b < w.heap.size by omega)).trans hc2⟩⟩
/-- behind the step of the reader's place -/
theorem rd_step {w : World} {rb p : Nat} {a : Option Addr} {len cap : Nat} (h1 : w.heap[rb]? = some (.cells #[.slice a len cap, .int .i64 (p : Int)] 74 (0, 0))) (h2 : len ≤ cap) (h3 : cap ≤ maxLen) (hB : Bytes w rb a len) (v : Int) (hv : v = ((p + 1 : Nat) : Int)) :
    Rd (w.setCell ⟨rb, 1, none⟩ (.int .i64 v)) rb (p + 1) ∧ OnlyAt rb w (w.setCell ⟨rb, 1, none⟩ (.int .i64 v)) := by
  subst hv
  refine ⟨⟨a, len, cap, ?_, h2, h3, hB.1, fun h0 => ?_⟩, (OnlyAt.refl _ _).setCell 1 _⟩
  · rw [heap_setCell_same w rb 1 _ _ _ h1]; rfl
  · obtain ⟨b, off, e, hbr, hc⟩ := hB.2 h0
    refine ⟨b, off, e, hbr, fun i hi => ?_⟩
    obtain ⟨c, hc1, hc2⟩ := hc i hi
    refine ⟨c, hc1, ?_⟩
    rw [← hc2]
    exact World.cell?_of_block (a := ⟨b, off + i, none⟩) (heap_setCell_other w ⟨rb, 1, none⟩ b _ (by show b ≠ rb; omega))
theorem grown_trans {a b c : World} {r : Option Nat} (h : a.grownBy b r) (h' : b.grownBy c r) : a.grownBy c r :=
  ⟨h'.os.trans h.os, h'.tape.trans h.tape, h'.output.trans h.output, Nat.le_trans h.size h'.size, fun k hk hr => (h'.block k (Nat.lt_of_lt_of_le hk h.size) hr).trans (h.block k hk hr)⟩
theorem grown_only {a b : World} {g : Nat} (h : OnlyAt g a b) : a.grownBy b (some g) := ⟨h.os, h.tape, h.output, Nat.le_of_eq h.size.symm, fun k _ hr => h.block k (fun e => hr (by rw [e]))⟩
theorem grown_below {a b : World} {r : Option Nat} (h : Below a.heap.size a b) : a.grownBy b r := ⟨h.os, h.tape, h.output, h.size, fun k hk _ => h.block k hk⟩
theorem grown_refl (a : World) (r : Option Nat) : a.grownBy a r := ⟨rfl, rfl, rfl, Nat.le_refl _, fun _ _ _ => rfl⟩
theorem below_of_grown {a b : World} {g B : Nat} (h : a.grownBy b (some g)) (hB : B ≤ g) (hs : B ≤ a.heap.size) : Below B a b := ⟨h.os, h.tape, h.output, h.size, fun k hk => h.block k (by omega) (by simp; omega)⟩
theorem grown_cell {a b : World} {g c o : Nat} (h : a.grownBy b (some g)) (hc : c < a.heap.size) (hne : c ≠ g) : b.cell? ⟨c, o, none⟩ = a.cell? ⟨c, o, none⟩ := World.cell?_of_block (a := ⟨c, o, none⟩) (h.block c hc (by simpa using hne))
theorem rd_drew {w : World} {rb p : Nat} (h : Rd w rb p) : Rd w.drew rb p := h.below ((Below.refl _ _).drew)
theorem OnlyAt.drew {g : Nat} {a b : World} (h : OnlyAt g a b) : OnlyAt g a b.drew := ⟨h.os, h.tape, h.output, h.size, h.block⟩
theorem xor64_nat (X : Nat) (h : X < 9223372036854775808) : ∃ Y : Nat, Y < 9223372036854775808 ∧ bits .xor .i64 (X : Int) ((X : Int) / 64) = (Y : Int) := by
  refine ⟨X ^^^ (X / 64), ?_, ?_⟩
  · exact Nat.xor_lt_two_pow (n := 63) h (by omega)
  · rw [← i64_xor_nat X (X / 64) h (by omega)]; rfl
set_option maxRecDepth 100000 in
set_option maxHeartbeats 2000000 in
theorem pick_any (rb p : Nat) (n : Int) (w : World) (h : Rd w rb p) (hp : p ≤ 1000000) (hn : n ≤ 4294967296) :
    Calls Tryd.prog 44 #[.pointer (some ⟨rb, 0, none⟩), .int .i64 n] w fun e w' => ∃ x : Int, e = .returned (.int .i64 x) ∧ 0 ≤ x ∧ (1 ≤ n → x < n) ∧ (n < 1 → x = 0) ∧ Rd w' rb (p + 1) ∧ w.grownBy w' (some rb) := by
  obtain ⟨a, len, cap, h1, h2, h3, h4⟩ := h
  have c0 : w.cell? ⟨rb, 0, none⟩ = some (.slice a len cap) := by rw [cell_of_row w rb 0 _ _ _ h1]; rfl
  have c1 : w.cell? ⟨rb, 1, none⟩ = some (.int .i64 (p : Int)) := by rw [cell_of_row w rb 1 _ _ _ h1]; rfl
  have f1 : w.frozen? ⟨rb, 1, none⟩ = false := frozen_of_row w rb 1 _ _ h1
  have st := rd_step h1 h2 h3 h4 ((p : Int) + 1) (by omega)
  have HS := hide st
  have h5 := h4.1
  have H4 := hide h4
  clear st h1 h4
  unfold maxLen at h3
  have p0 : (0 : Int) ≤ (p : Int) := Int.natCast_nonneg _
  by_cases hn1 : n < 1
  · go_enter Tryd.func44, Tryd.ntmps44
    go_wp2
    go_ret
    exact ⟨0, rfl, by omega, by omega, by omega, (unhide HS).1, grown_only (unhide HS).2⟩
  by_cases hl0 : len = 0
  · have hz : ((len : Int) == 0) = true := by simp [hl0]
    go_enter Tryd.func44, Tryd.ntmps44
    go_wp2
    go_ret
    exact ⟨0, rfl, by omega, by omega, by omega, (unhide HS).1, grown_only (unhide HS).2⟩
  have hz : ((len : Int) == 0) = false := by simp; omega
  obtain ⟨b, off, rfl, hbr, hc⟩ := (unhide H4).2 (by omega)
  by_cases hpl : p < len
  · obtain ⟨c, hc1, hc2⟩ := hc p hpl
    have q0 : (p : Int) < (len : Int) := by omega
    have hbn : b ≠ rb := by omega
    clear hc
    go_enter Tryd.func44, Tryd.ntmps44
    go_wp2
    go_ret
    refine ⟨_, rfl, ?_, ?_, ?_, (unhide HS).1, grown_only (unhide HS).2⟩
    · exact Int.emod_nonneg _ (by omega)
    · exact Int.emod_lt_of_pos _ (by omega)
    · omega
  · have m1 : p % len < len := Nat.mod_lt _ (by omega)
    have m2 : (p * 7 + 3) % len < len := Nat.mod_lt _ (by omega)
    obtain ⟨c, hc1, hc2⟩ := hc (p % len) m1
    obtain ⟨d, hd1, hd2⟩ := hc ((p * 7 + 3) % len) m2
    obtain ⟨W, hW⟩ : ∃ W, W = w.setCell ⟨rb, 1, none⟩ (.int .i64 ((p : Int) + 1)) := ⟨_, rfl⟩
    have ho := (unhide HS).2
    rw [← hW] at ho
    have hlt := (unhide HS).1.lt
    rw [← hW] at hlt
    have hob : ∀ o, W.cell? ⟨b, o, none⟩ = w.cell? ⟨b, o, none⟩ := fun o => World.cell?_of_block (a := ⟨b, o, none⟩) (ho.block b (by omega))
    have q0 : ∀ x : Cls W.heap.size W, x.val.cell? ⟨rb, 0, none⟩ = some (.slice (some ⟨b, off, none⟩) len cap) := fun x => by
      rw [x.cell hlt, hW]
      rw [World.cell?_setCell_other _ _ _ _ (by simp)]
      exact c0
    have q1 : ∀ x : Cls W.heap.size W, x.val.cell? ⟨b, off + p % len, none⟩ = some (.int .u8 (c : Int)) := fun x => by rw [x.cell (by omega), hob]; exact hc2
    have q2 : ∀ x : Cls W.heap.size W, x.val.cell? ⟨b, off + (p * 7 + 3) % len, none⟩ = some (.int .u8 (d : Int)) := fun x => by rw [x.cell (by omega), hob]; exact hd2
    have hne := cls_nonempty W.heap.size W
    have HW := hide hW
    have hlen : 0 < len := by omega
    have i1 : (0 : Int) ≤ (p : Int) % (len : Int) := Int.emod_nonneg _ (by omega)
    have i2 : (p : Int) % (len : Int) < (len : Int) := Int.emod_lt_of_pos _ (by omega)
    have i3 : (0 : Int) ≤ ((p : Int) * 7 + 3) % (len : Int) := Int.emod_nonneg _ (by omega)
    have i4 : ((p : Int) * 7 + 3) % (len : Int) < (len : Int) := Int.emod_lt_of_pos _ (by omega)
    have i5 : (0 : Int) ≤ (p : Int) / (len : Int) := Int.ediv_nonneg (by omega) (by omega)
    have i6 : (p : Int) / (len : Int) ≤ 1000000 := Int.le_trans (Int.ediv_le_self _ (by omega)) (by omega)
    obtain ⟨Y, hY, hx⟩ := xor64_nat (c * 131 + d * 1117 + p * 29 + p / len * 53) (by
      have : p / len ≤ p := Nat.div_le_self _ _
      omega)
    have hx' : bits .xor .i64 ((c : Int) * 131 + (d : Int) * 1117 + (p : Int) * 29 + (p : Int) / (len : Int) * 53) (((c : Int) * 131 + (d : Int) * 1117 + (p : Int) * 29 + (p : Int) / (len : Int) * 53) / 64) = (Y : Int) := by rw [← hx]; rfl
    clear hc hob hW ho m1 m2 hc2 hd2 hx
    go_enter Tryd.func44, Tryd.ntmps44
    go_wp2_with fail
    rw [← unhide HW]
    refine region_cls (by kernel_rfl) (by kernel_rfl) ?_
    repeat (go_big_quiet_step (fail))
    refine wpQuiet_nil ?_
    rintro wq ⟨⟨_, hq⟩, rfl⟩
    have R1 := (unhide HS).1
    have R2 := (unhide HS).2
    rw [← unhide HW] at R1 R2
    have R3 := R1.below hq
    clear R1 q0 q1 q2
    go_wp2
    go_ret
    exact ⟨(Y : Int) % n, rfl, Int.emod_nonneg _ (by omega), fun _ => Int.emod_lt_of_pos _ (by omega), by omega, R3, grown_trans (grown_only R2) (grown_below hq)⟩
theorem row_bytes {w : World} {a : Option Addr} {len cap : Nat} {zs : List Int} (h : IsRow .u8 w a len cap zs) :
    len ≤ cap ∧ cap ≤ maxLen ∧ (len = 0 ∨ ∃ b off, a = some ⟨b, off, none⟩ ∧ b < w.heap.size ∧ ∀ i, i < len → ∃ c : Nat, c < 256 ∧ w.cell? ⟨b, off + i, none⟩ = some (.int .u8 (c : Int))) := by
  rcases h with ⟨rfl, rfl, rfl, rfl⟩ | ⟨x, rfl, h1, h2, h3, h4, h5⟩
  · exact ⟨Nat.le_refl _, Nat.zero_le _, .inl rfl⟩
  · refine ⟨h1, h2, ?_⟩
    by_cases h0 : len = 0
    · exact .inl h0
    · right
      obtain ⟨b, off, rfl, hc⟩ := ints_at h4 (by omega)
      refine ⟨b, off, rfl, World.block_lt_of_cell? w ⟨b, off + 0, none⟩ (hc 0 (by omega)), fun i hi => ?_⟩
      have hw : (Lit.int .u8 (zs.getD i 0)).wf = true := h5 _ (by simp [List.getD, show i < zs.length by omega])
      have hr : 0 ≤ zs.getD i 0 ∧ zs.getD i 0 ≤ 255 := by simpa [Lit.wf, IntKind.min, IntKind.max, IntKind.signed, IntKind.bits] using hw
      refine ⟨(zs.getD i 0).toNat, by omega, ?_⟩
      rw [hc i (by omega), show ((zs.getD i 0).toNat : Int) = zs.getD i 0 from by omega]
theorem open_zero (a : Option Addr) (cap : Nat) (w : World) (hc : cap ≤ maxLen) : Calls Tryd.prog 32 #[.slice a 0 cap] w fun e w' => e = .returned (.pointer (some ⟨w.heap.size, 0, none⟩)) ∧ Rd w' w.heap.size 0 ∧ Below w.heap.size w w' := by
  go_enter Tryd.func32, Tryd.ntmps32
  go_wp2
  go_ret
  exact ⟨rfl, ⟨a, 0, cap, heap_alloc_new w _, Nat.zero_le _, hc, Nat.zero_le _, fun h => by omega⟩, (Below.refl _ _).alloc (Nat.le_refl _) _⟩
theorem open_some (b off len cap : Nat) (w : World) (h1 : len ≤ cap) (h2 : cap ≤ maxLen) (hl : 0 < len) (hb : b < w.heap.size) (hc : ∀ i, i < len → ∃ c : Nat, c < 256 ∧ w.cell? ⟨b, off + i, none⟩ = some (.int .u8 (c : Int))) :
    Calls Tryd.prog 32 #[.slice (some ⟨b, off, none⟩) len cap] w fun e w' => e = .returned (.pointer (some ⟨w.heap.size, 0, none⟩)) ∧ Rd w' w.heap.size 0 ∧ Below w.heap.size w w' := by
  have HC := hide hc
  have h3 := h2
  unfold maxLen at h3
  clear hc
  by_cases hlen : 2000 < len
  · go_enter Tryd.func32, Tryd.ntmps32
    go_wp2
    all_goals go_ret
    all_goals first
      | (refine ⟨rfl, ⟨some ⟨b, off, none⟩, 2000, cap, ?_, by omega, h2, Nat.le_refl _, fun _ => ⟨b, off, rfl, hb, fun i hi => ?_⟩⟩, (Below.refl _ _).alloc (Nat.le_refl _) _⟩
         · exact heap_alloc_new w _
         · obtain ⟨c, hc1, hc2⟩ := unhide HC i (by omega)
           exact ⟨c, hc1, (((Below.refl w.heap.size w).alloc (Nat.le_refl _) _).cell (p := ⟨b, off + i, none⟩) hb).trans hc2⟩)
      | go_show
  · go_enter Tryd.func32, Tryd.ntmps32
    go_wp2
    go_ret
    refine ⟨rfl, ⟨some ⟨b, off, none⟩, len, cap, heap_alloc_new w _, h1, h2, by omega, fun _ => ⟨b, off, rfl, hb, fun i hi => ?_⟩⟩, (Below.refl _ _).alloc (Nat.le_refl _) _⟩
    obtain ⟨c, hc1, hc2⟩ := unhide HC i (by omega)
    exact ⟨c, hc1, (((Below.refl w.heap.size w).alloc (Nat.le_refl _) _).cell (p := ⟨b, off + i, none⟩) hb).trans hc2⟩
theorem open_any {a : Option Addr} {len cap : Nat} {zs : List Int} (w0 w : World) (h : IsRow .u8 w0 a len cap zs) (hB : Below w0.heap.size w0 w) :
    Calls Tryd.prog 32 #[.slice a len cap] w fun e w' => e = .returned (.pointer (some ⟨w.heap.size, 0, none⟩)) ∧ Rd w' w.heap.size 0 ∧ Below w.heap.size w w' := by
  obtain ⟨h1, h2, h3⟩ := row_bytes h
  by_cases h0 : len = 0
  · subst h0; exact open_zero a cap w h2
  · rcases h3 with h3 | ⟨b, off, rfl, hb, hc⟩
    · exact absurd h3 h0
    · refine open_some b off len cap w h1 h2 (by omega) (by have := hB.size; omega) fun i hi => ?_
      obtain ⟨c, hc1, hc2⟩ := hc i hi
      exact ⟨c, hc1, (hB.cell (p := ⟨b, off + i, none⟩) hb).trans hc2⟩
theorem Rd.grown {w w' : World} {rb p : Nat} {row : Option Nat} (h : Rd w rb p) (hg : w.grownBy w' row) (hr : ∀ k, row = some k → rb < k) : Rd w' rb p := by
  have hl := h.lt
  obtain ⟨a, len, cap, h1, h2, h3, h4, h5⟩ := h
  refine ⟨a, len, cap, by rw [hg.block rb hl (fun e => by have := hr rb e.symm; omega)]; exact h1, h2, h3, h4, fun h0 => ?_⟩
  obtain ⟨b, off, e, hbr, hc⟩ := h5 h0
  refine ⟨b, off, e, hbr, fun i hi => ?_⟩
  obtain ⟨c, hc1, hc2⟩ := hc i hi
  exact ⟨c, hc1, (World.cell?_of_block (a := ⟨b, off + i, none⟩) (hg.block b (show b < w.heap.size by omega) (fun e => by have := hr b e.symm; omega))).trans hc2⟩
theorem grown_other {a b c : World} {r row : Option Nat} (h : a.grownBy b r) (h' : b.grownBy c row) (hr : ∀ k, row = some k → a.heap.size ≤ k) : a.grownBy c r :=
  ⟨h'.os.trans h.os, h'.tape.trans h.tape, h'.output.trans h.output, Nat.le_trans h.size h'.size, fun k hk hne => (h'.block k (Nat.lt_of_lt_of_le hk h.size) (fun e => by have := hr k e.symm; omega)).trans (h.block k hk hne)⟩
theorem own_kept {w w' : World} {base : Nat} {e : TypeId} {size n : Nat} {v : Value} {xs : List Value} {rb : Nat} (h : w.ownsRow base e size v n xs) (hg : w.grownBy w' (some rb)) (hr : rb < base) : w'.ownsRow base e size v n xs :=
  h.kept hg (by
    cases hv : v.ownBlock with
    | none => exact .inl rfl
    | some k => right; intro e; have := own_ge h k hv; simp only [Option.some.injEq] at e; omega)
end Go.Proofs.YtkmoekbicbjdmaaDoor.Draw

/- Lists of numbers are drawn; the same numbers are the same. -/
namespace Go.Proofs.YtkmoekbicbjdmaaDoor.Draw
open Go.RowKit Rw Ints ListMath
set_option linter.unusedVariables false
attribute [local go_sem ↓] Go.wp_at_zero Go.wp_at_succ
theorem own_new {w : World} {cs : Array Value} {t : TypeId} {n size base B : Nat} (hB : B = w.heap.size) (h : cs.size = n * size) (hn : n ≤ maxLen) (hb : base ≤ w.heap.size) : (w.alloc (.cells cs t)).ownsRow base t size (.slice (some ⟨B, 0, none⟩) n n) n cs.toList := by
  subst hB
  exact ⟨by simpa using h, .inr ⟨w.heap.size, n, cs, rfl, hb, heap_alloc_new w _, Nat.le_refl _, hn, h, by rw [← h, ← Array.length_toList]; exact List.take_length⟩⟩
end Go.Proofs.YtkmoekbicbjdmaaDoor.Draw

/- The model's cut of a text at each byte. No condition but the text's length. -/
namespace Go.Proofs.YtkmoekbicbjdmaaDoor.Lab
open Go.RowKit Rw PutMath CutText
set_option linter.unusedVariables false
attribute [local go_sem ↓] Go.wp_at_zero Go.wp_at_succ
theorem ext_list (s : ByteArray) (f k : Nat) : (s.extract f k).data.toList = (s.data.toList.drop f).take (k - f) := by
  rw [ByteArray.data_extract, Array.toList_extract]
theorem ext_eq (s : ByteArray) (f k : Nat) : s.extract f k = ⟨((s.data.toList.drop f).take (k - f)).toArray⟩ := by
  apply Go.WideShapes.bytes_inj
  rw [ext_list, of_toList]
def CutRel (b : UInt8) (s : ByteArray) (f k : Nat) (L : List ByteArray) : Prop := cutL b s.data.toList = L.map (·.data.toList) ++ pre ((s.data.toList.drop f).take (k - f)) (cutL b (s.data.toList.drop k))
theorem cut_start (b : UInt8) (s : ByteArray) : CutRel b s 0 0 [] := by
  unfold CutRel
  simp [pre_nil (cutL_ne b _)]
theorem byte_at (s : ByteArray) (k : Nat) (h : k < s.size) : s.data.toList.drop k = s[k] :: s.data.toList.drop (k + 1) := by
  rw [List.drop_eq_getElem_cons (by simpa using h)]; rfl
theorem cut_hit {b : UInt8} {s : ByteArray} {f k : Nat} {L : List ByteArray} (h : CutRel b s f k L) (hk : k < s.size) (e : s[k] = b) : CutRel b s (k + 1) (k + 1) (L ++ [s.extract f k]) := by
  unfold CutRel at h ⊢
  rw [h, byte_at s k hk, e, cutL_eq, Nat.sub_self, List.take_zero, pre_nil (cutL_ne b _), List.map_append, List.append_assoc, List.map_cons, List.map_nil, ext_list]
  simp [pre]
theorem cut_pass {b : UInt8} {s : ByteArray} {f k : Nat} {L : List ByteArray} (h : CutRel b s f k L) (hf : f ≤ k) (hk : k < s.size) (e : s[k] ≠ b) : CutRel b s f (k + 1) L := by
  unfold CutRel at h ⊢
  have hl : k < s.data.toList.length := by simpa using hk
  have e2 : (s.data.toList.drop f).take (k + 1 - f) = (s.data.toList.drop f).take (k - f) ++ [s[k]] := by
    rw [show k + 1 - f = (k - f) + 1 by omega, List.take_succ_eq_append_getElem (by rw [List.length_drop]; omega)]
    congr 2
    rw [List.getElem_drop]
    have e3 : f + (k - f) = k := by omega
    simp only [e3]
    rfl
  rw [h, byte_at s k hk, cutL_ne' e, pre_pre, e2]
theorem cut_end {b : UInt8} {s : ByteArray} {f : Nat} {L : List ByteArray} (h : CutRel b s f s.size L) : cutB b s = L ++ [s.extract f s.size] := by
  unfold CutRel at h
  have hl : s.data.toList.length = s.size := Array.length_toList
  have e0 : s.data.toList.drop s.size = [] := List.drop_eq_nil_of_le (by omega)
  rw [e0] at h
  unfold cutB
  rw [h, List.map_append, List.map_map]
  simp only [cutL, pre, List.append_nil, List.map_cons, List.map_nil]
  rw [← ext_eq]
  congr 1
  conv => rhs; rw [← List.map_id L]
  exact List.map_congr_left (fun p _ => Go.WideShapes.bytes_inj (of_toList _))
set_option maxRecDepth 100000 in
set_option maxHeartbeats 4000000 in
theorem l3Cut_any (s : ByteArray) (b : UInt8) (c : Int) (hc : c = (b.toNat : Int)) (w : World) (hs : s.size ≤ 4194304) :
    Calls Tryd.prog 46 #[.string s, .int .u8 c] w fun e w' => ∃ v, e = .returned v ∧ w'.ownsRow w.heap.size 9 1 v (cutB b s).length (flatS (cutB b s)) ∧ Below w.heap.size w w' := by
  obtain ⟨i0, hi, hz0, hz1, hz2⟩ := info_parts info_str
  subst hc
  have HNil := hide (Draw.own_new (w := w) (cs := #[]) (t := 9) (n := 0) (size := 1) (base := w.heap.size) rfl rfl (Nat.zero_le _) (Nat.le_refl _))
  have H0 := hide (cut_start b s)
  go_enter Tryd.func46, Tryd.ntmps46
  go_wp2_with fail
  go_loopw [5, 6, 7] (fun ov fv i wr => ∃ (k f q : Nat) (L : List ByteArray) (a : Option Addr), k ≤ s.size ∧ f ≤ k ∧ L.length ≤ k ∧ fv = .int .i64 f ∧ i = .int .i64 k ∧ ov = .slice a L.length q ∧ wr.ownsRow w.heap.size 9 1 (.slice a L.length q) L.length (flatS L) ∧ Hid (CutRel b s f k L) ∧ Below w.heap.size w wr) (fun _ _ i _ => s.size - (intOf i).toNat)
  case atStart => exact ⟨0, 0, 0, [], _, Nat.zero_le _, Nat.zero_le _, Nat.zero_le _, rfl, rfl, rfl, unhide HNil, unhide H0, (Below.refl _ _).alloc (Nat.le_refl _) _⟩
  case round =>
    obtain ⟨k, f, q, L, a, hk, hf, hL, rfl, rfl, rfl, hown, HR, hbel⟩ := hrel
    clear HNil H0
    have hsz := hbel.size
    have hk0 : (0 : Int) ≤ (k : Int) := Int.natCast_nonneg _
    have hf0 : (0 : Int) ≤ (f : Int) := Int.natCast_nonneg _
    have hmx : 1 ≤ maxLen := by unfold maxLen; omega
    by_cases hlt : k < s.size
    · by_cases hx : s[k] = b
      · have HC := hide (cut_hit (unhide HR) hlt hx)
        have hq1 : ((s[k].toNat : Int) == (b.toNat : Int)) = true := by rw [hx]; simp
        have hq2 : s[k].toNat = b.toNat := by rw [hx]
        have hfk : (f : Int) ≤ (k : Int) := by omega
        clear hx
        go_wp2_with (at_builtin; refine app_wp _ rfl _ _ _ rfl w.heap.size 9 i0 _ 1 16 Tryd.underlying45 hi hz0 hz1 hz2 rfl (by omega) _ L.length _ rfl (hown.alloc _) _ 1 [.string (s.extract f k)] rfl (lies_new (by simp) rfl hmx) (by simp [Value.oneCell']) (by unfold maxLen; omega) (by omega) (by simp; omega) ?_; intro vn wn on gn an)
        have R9 : Below w.heap.size w wn := below_grown (hbel.alloc hsz _) (by simp; omega) gn (own_ge hown)
        have hle : (L ++ [s.extract f k]).length = L.length + 1 := by simp
        have on2 : wn.ownsRow w.heap.size 9 1 vn (L ++ [s.extract f k]).length (flatS (L ++ [s.extract f k])) := by rw [hle, flatS_append]; exact on
        obtain ⟨an', cn, hvn⟩ : ∃ a c, vn = .slice a (L ++ [s.extract f k]).length c := by obtain ⟨-, a, c, e, -⟩ := lies_of_own on2; exact ⟨a, c, e⟩
        have R2 := hide on2
        have HV := hide hvn
        have hle' : (L ++ [s.extract f k]).length ≤ k + 1 := by omega
        obtain ⟨L', hL'⟩ : ∃ L', L' = L ++ [s.extract f k] := ⟨_, rfl⟩
        rw [← hL'] at R2 HV HC hle'
        clear on on2 gn an hown hvn hle hL' HR
        go_wp2_with fail
        go_roundw
        case rel => exact ⟨k + 1, k + 1, cn, L', an', by omega, Nat.le_refl _, hle', by go_num, by go_num, unhide HV, by rw [← unhide HV]; exact unhide R2, unhide HC, R9⟩
        case measure => simp [intOf]; omega
      · have HC := hide (cut_pass (unhide HR) hf hlt hx)
        have hne : s[k].toNat ≠ b.toNat := fun e => hx (UInt8.toNat_inj.1 e)
        have hq1 : ((s[k].toNat : Int) == (b.toNat : Int)) = false := beq_eq_false_iff_ne.2 (by omega)
        have hq2 : (s[k].toNat == b.toNat) = false := by simpa using hne
        have hq3 : decide (s[k].toNat = b.toNat) = false := by simpa using hne
        clear hx hne
        go_wp2_with fail
        go_roundw
        case rel => exact ⟨k + 1, f, q, L, a, by omega, by omega, by omega, rfl, by go_num, rfl, hown, unhide HC, hbel⟩
        case measure => simp [intOf]; omega
    · obtain rfl : k = s.size := by omega
      have hge : decide ((s.size : Int) < (s.size : Int)) = false := by simp
      have HE := hide (cut_end (unhide HR))
      have hfk : (f : Int) ≤ (s.size : Int) := by omega
      go_wp2_with (at_builtin; refine app_wp _ rfl _ _ _ rfl w.heap.size 9 i0 _ 1 16 Tryd.underlying45 hi hz0 hz1 hz2 rfl (by omega) _ L.length _ rfl (hown.alloc _) _ 1 [.string (s.extract f s.size)] rfl (lies_new (by simp) rfl hmx) (by simp [Value.oneCell']) (by unfold maxLen; omega) (by omega) (by simp; omega) ?_; intro vn wn on gn an)
      have R9 : Below w.heap.size w wn := below_grown (hbel.alloc hsz _) (by simp; omega) gn (own_ge hown)
      have R2 := hide (show wn.ownsRow w.heap.size 9 1 vn (cutB b s).length (flatS (cutB b s)) by rw [unhide HE, flatS_append, List.length_append]; exact on)
      clear on gn an hown HE HR
      go_wp2_with fail
      go_ret
      exact ⟨_, rfl, unhide R2, R9⟩
end Go.Proofs.YtkmoekbicbjdmaaDoor.Lab
