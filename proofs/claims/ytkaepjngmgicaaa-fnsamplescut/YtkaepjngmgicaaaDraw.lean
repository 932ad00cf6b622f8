/- The laws draw their inputs from bytes: what is drawn lies within bounds, and nothing that lay there is turned. -/
import Derived.Test.YtkaepjngmgicaaaSampMark
namespace Go.Proofs.Ytkaepjngmgicaaa.Draw
open Go.RowKit Samp
set_option linter.unusedVariables false
attribute [local go_sem ↓] Go.wp_at_zero Go.wp_at_succ
/-- bytes that can be read -/
def Bytes (w : World) (rb : Nat) (a : Option Addr) (len : Nat) : Prop :=
  len ≤ 2000 ∧ (0 < len → ∃ b off, a = some ⟨b, off, none⟩ ∧ b < rb ∧ ∀ i, i < len → ∃ c : Nat, c < 256 ∧ w.cell? ⟨b, off + i, none⟩ = some (.int .u8 (c : Int)))
/-- a reader at place p, in block rb -/
def Rd (w : World) (rb p : Nat) : Prop := ∃ a len cap, w.heap[rb]? = some (.cells #[.slice a len cap, .int .i64 (p : Int)] 99 (0, 0)) ∧ len ≤ cap ∧ cap ≤ maxLen ∧ Bytes w rb a len
theorem Rd.lt {w : World} {rb p : Nat} (h : Rd w rb p) : rb < w.heap.size := by
  obtain ⟨a, len, cap, hb, _⟩ := h
  rcases Nat.lt_or_ge rb w.heap.size with hl | hl
  · exact hl
  · rw [Array.getElem?_eq_none hl] at hb; cases hb
theorem Rd.below {w w' : World} {rb p : Nat} (h : Rd w rb p) (hb : Below w.heap.size w w') : Rd w' rb p := by
  have hl := h.lt
  obtain ⟨a, len, cap, h1, h2, h3, h4, h5⟩ := h
  refine ⟨a, len, cap, by rw [hb.block rb hl]; exact h1, h2, h3, h4, fun h0 => ?_⟩
  obtain ⟨b, off, e, hbr, hc⟩ := h5 h0
  exact ⟨b, off, e, hbr, fun i hi => by obtain ⟨c, hc1, hc2⟩ := hc i hi; exact ⟨c, hc1, (hb.cell (p := ⟨b, off + i, none⟩) (show b < w.heap.size by omega)).trans hc2⟩⟩
/-- behind the step of the reader's place -/
theorem rd_step {w : World} {rb p : Nat} {a : Option Addr} {len cap : Nat} (h1 : w.heap[rb]? = some (.cells #[.slice a len cap, .int .i64 (p : Int)] 99 (0, 0))) (h2 : len ≤ cap) (h3 : cap ≤ maxLen) (hB : Bytes w rb a len) (v : Int) (hv : v = ((p + 1 : Nat) : Int)) :
    Rd (w.setCell ⟨rb, 1, none⟩ (.int .i64 v)) rb (p + 1) ∧ OnlyAt rb w (w.setCell ⟨rb, 1, none⟩ (.int .i64 v)) := by
  subst hv
  refine ⟨⟨a, len, cap, ?_, h2, h3, hB.1, fun h0 => ?_⟩, (OnlyAt.refl _ _).setCell 1 _⟩
  · rw [heap_setCell_same w rb 1 _ _ _ h1]; rfl
  · obtain ⟨b, off, e, hbr, hc⟩ := hB.2 h0
    refine ⟨b, off, e, hbr, fun i hi => ?_⟩
    obtain ⟨c, hc1, hc2⟩ := hc i hi
    refine ⟨c, hc1, ?_⟩
    rw [← hc2]
    exact World.cell?_of_block (a := ⟨b, off + i, none⟩) (heap_setCell_other w ⟨rb, 1, none⟩ b _ (by show b ≠ rb; omega))
theorem grown_trans {a b c : World} {r : Option Nat} (h : a.grownBy b r) (h' : b.grownBy c r) : a.grownBy c r :=
  ⟨h'.os.trans h.os, h'.tape.trans h.tape, h'.output.trans h.output, Nat.le_trans h.size h'.size, fun k hk hr => (h'.block k (Nat.lt_of_lt_of_le hk h.size) hr).trans (h.block k hk hr)⟩
theorem grown_only {a b : World} {g : Nat} (h : OnlyAt g a b) : a.grownBy b (some g) := ⟨h.os, h.tape, h.output, Nat.le_of_eq h.size.symm, fun k _ hr => h.block k (fun e => hr (by rw [e]))⟩
theorem grown_below {a b : World} {r : Option Nat} (h : Below a.heap.size a b) : a.grownBy b r := ⟨h.os, h.tape, h.output, h.size, fun k hk _ => h.block k hk⟩
theorem grown_refl (a : World) (r : Option Nat) : a.grownBy a r := ⟨rfl, rfl, rfl, Nat.le_refl _, fun _ _ _ => rfl⟩
theorem below_of_grown {a b : World} {g B : Nat} (h : a.grownBy b (some g)) (hB : B ≤ g) (hs : B ≤ a.heap.size) : Below B a b := ⟨h.os, h.tape, h.output, h.size, fun k hk => h.block k (by omega) (by simp; omega)⟩
theorem grown_cell {a b : World} {g c o : Nat} (h : a.grownBy b (some g)) (hc : c < a.heap.size) (hne : c ≠ g) : b.cell? ⟨c, o, none⟩ = a.cell? ⟨c, o, none⟩ := World.cell?_of_block (a := ⟨c, o, none⟩) (h.block c hc (by simpa using hne))
theorem rd_drew {w : World} {rb p : Nat} (h : Rd w rb p) : Rd w.drew rb p := h.below ((Below.refl _ _).drew)
theorem OnlyAt.drew {g : Nat} {a b : World} (h : OnlyAt g a b) : OnlyAt g a b.drew := ⟨h.os, h.tape, h.output, h.size, h.block⟩
theorem xor64_nat (X : Nat) (h : X < 9223372036854775808) : ∃ Y : Nat, Y < 9223372036854775808 ∧ bits .xor .i64 (X : Int) ((X : Int) / 64) = (Y : Int) := by
  refine ⟨X ^^^ (X / 64), ?_, ?_⟩
  · exact Nat.xor_lt_two_pow (n := 63) h (by omega)
  · rw [← i64_xor_nat X (X / 64) h (by omega)]; rfl
set_option maxRecDepth 100000 in
set_option maxHeartbeats 2000000 in
theorem pick_any (rb p : Nat) (n : Int) (w : World) (h : Rd w rb p) (hp : p ≤ 1000000) (hn : n ≤ 4294967296) :
    Calls Try.prog 59 #[.pointer (some ⟨rb, 0, none⟩), .int .i64 n] w fun e w' => ∃ x : Int, e = .returned (.int .i64 x) ∧ 0 ≤ x ∧ (1 ≤ n → x < n) ∧ (n < 1 → x = 0) ∧ Rd w' rb (p + 1) ∧ w.grownBy w' (some rb) := by
  obtain ⟨a, len, cap, h1, h2, h3, h4⟩ := h
  have c0 : w.cell? ⟨rb, 0, none⟩ = some (.slice a len cap) := by rw [cell_of_row w rb 0 _ _ _ h1]; rfl
  have c1 : w.cell? ⟨rb, 1, none⟩ = some (.int .i64 (p : Int)) := by rw [cell_of_row w rb 1 _ _ _ h1]; rfl
  have f1 : w.frozen? ⟨rb, 1, none⟩ = false := frozen_of_row w rb 1 _ _ h1
  have st := rd_step h1 h2 h3 h4 ((p : Int) + 1) (by omega)
  have HS := hide st
  have h5 := h4.1
  have H4 := hide h4
  clear st h1 h4
  unfold maxLen at h3
  have p0 : (0 : Int) ≤ (p : Int) := Int.natCast_nonneg _
  by_cases hn1 : n < 1
  · go_enter Try.func59, Try.ntmps59
    go_wp2
    go_ret
    exact ⟨0, rfl, by omega, by omega, by omega, (unhide HS).1, grown_only (unhide HS).2⟩
  by_cases hl0 : len = 0
  · have hz : ((len : Int) == 0) = true := by simp [hl0]
    go_enter Try.func59, Try.ntmps59
    go_wp2
    go_ret
    exact ⟨0, rfl, by omega, by omega, by omega, (unhide HS).1, grown_only (unhide HS).2⟩
  have hz : ((len : Int) == 0) = false := by simp; omega
  obtain ⟨b, off, rfl, hbr, hc⟩ := (unhide H4).2 (by omega)
  by_cases hpl : p < len
  · obtain ⟨c, hc1, hc2⟩ := hc p hpl
    have q0 : (p : Int) < (len : Int) := by omega
    have hbn : b ≠ rb := by omega
    clear hc
    go_enter Try.func59, Try.ntmps59
    go_wp2
    go_ret
    refine ⟨_, rfl, ?_, ?_, ?_, (unhide HS).1, grown_only (unhide HS).2⟩
    · exact Int.emod_nonneg _ (by omega)
    · exact Int.emod_lt_of_pos _ (by omega)
    · omega
  · have m1 : p % len < len := Nat.mod_lt _ (by omega)
    have m2 : (p * 7 + 3) % len < len := Nat.mod_lt _ (by omega)
    obtain ⟨c, hc1, hc2⟩ := hc (p % len) m1
    obtain ⟨d, hd1, hd2⟩ := hc ((p * 7 + 3) % len) m2
    obtain ⟨W, hW⟩ : ∃ W, W = w.setCell ⟨rb, 1, none⟩ (.int .i64 ((p : Int) + 1)) := ⟨_, rfl⟩
    have ho := (unhide HS).2
    rw [← hW] at ho
    have hlt := (unhide HS).1.lt
    rw [← hW] at hlt
    have hob : ∀ o, W.cell? ⟨b, o, none⟩ = w.cell? ⟨b, o, none⟩ := fun o => World.cell?_of_block (a := ⟨b, o, none⟩) (ho.block b (by omega))
    have q0 : ∀ x : Cls W.heap.size W, x.val.cell? ⟨rb, 0, none⟩ = some (.slice (some ⟨b, off, none⟩) len cap) := fun x => by
      rw [x.cell hlt, hW]
      rw [World.cell?_setCell_other _ _ _ _ (by simp)]
      exact c0
    have q1 : ∀ x : Cls W.heap.size W, x.val.cell? ⟨b, off + p % len, none⟩ = some (.int .u8 (c : Int)) := fun x => by rw [x.cell (by omega), hob]; exact hc2
    have q2 : ∀ x : Cls W.heap.size W, x.val.cell? ⟨b, off + (p * 7 + 3) % len, none⟩ = some (.int .u8 (d : Int)) := fun x => by rw [x.cell (by omega), hob]; exact hd2
    have hne := cls_nonempty W.heap.size W
    have HW := hide hW
    have hlen : 0 < len := by omega
    have i1 : (0 : Int) ≤ (p : Int) % (len : Int) := Int.emod_nonneg _ (by omega)
    have i2 : (p : Int) % (len : Int) < (len : Int) := Int.emod_lt_of_pos _ (by omega)
    have i3 : (0 : Int) ≤ ((p : Int) * 7 + 3) % (len : Int) := Int.emod_nonneg _ (by omega)
    have i4 : ((p : Int) * 7 + 3) % (len : Int) < (len : Int) := Int.emod_lt_of_pos _ (by omega)
    have i5 : (0 : Int) ≤ (p : Int) / (len : Int) := Int.ediv_nonneg (by omega) (by omega)
    have i6 : (p : Int) / (len : Int) ≤ 1000000 := Int.le_trans (Int.ediv_le_self _ (by omega)) (by omega)
    obtain ⟨Y, hY, hx⟩ := xor64_nat (c * 131 + d * 1117 + p * 29 + p / len * 53) (by
      have : p / len ≤ p := Nat.div_le_self _ _
      omega)
    have hx' : bits .xor .i64 ((c : Int) * 131 + (d : Int) * 1117 + (p : Int) * 29 + (p : Int) / (len : Int) * 53) (((c : Int) * 131 + (d : Int) * 1117 + (p : Int) * 29 + (p : Int) / (len : Int) * 53) / 64) = (Y : Int) := by rw [← hx]; rfl
    clear hc hob hW ho m1 m2 hc2 hd2 hx
    go_enter Try.func59, Try.ntmps59
    go_wp2_with fail
    rw [← unhide HW]
    refine region_cls (by kernel_rfl) (by kernel_rfl) ?_
    repeat (go_big_quiet_step (fail))
    refine wpQuiet_nil ?_
    rintro wq ⟨⟨_, hq⟩, rfl⟩
    have R1 := (unhide HS).1
    have R2 := (unhide HS).2
    rw [← unhide HW] at R1 R2
    have R3 := R1.below hq
    clear R1 q0 q1 q2
    go_wp2
    go_ret
    exact ⟨(Y : Int) % n, rfl, Int.emod_nonneg _ (by omega), fun _ => Int.emod_lt_of_pos _ (by omega), by omega, R3, grown_trans (grown_only R2) (grown_below hq)⟩
/-- numbers that lie in a block of their own -/
def Ints (w : World) (g : Nat) (l : List Int) : Prop := ∀ i, i < l.length → w.cell? ⟨g, i, none⟩ = some (.int .i64 (l.getD i 0))
set_option maxHeartbeats 1000000 in
theorem one_any (rb p g : Nat) (l : List Int) (w : World) (h : Rd w rb p) (hp : p ≤ 1000000) (hl : 0 < l.length) (hl2 : l.length ≤ 1000) (hg : Ints w g l) (hgs : g < w.heap.size) (hne : g ≠ rb) :
    Calls Try.prog 60 #[.pointer (some ⟨rb, 0, none⟩), .slice (some ⟨g, 0, none⟩) l.length l.length] w fun e w' => ∃ x : Int, e = .returned (.int .i64 x) ∧ x ∈ l ∧ Rd w' rb (p + 1) ∧ w.grownBy w' (some rb) := by
  obtain ⟨n, hn⟩ : ∃ n, n = l.length := ⟨_, rfl⟩
  rw [← hn]
  have HN := hide hn
  have n1 : 0 < n := by omega
  have n2 : n ≤ 1000 := by omega
  have HP := hide (fun k (hk : k ≤ (4294967296 : Int)) => pick_any rb p k w h hp hk)
  clear h hn hl hl2
  go_enter Try.func60, Try.ntmps60
  go_wp2_with fail
  refine (unhide HP _ (by omega)).mono ?_
  rintro e w1 ⟨x, rfl, x0, x1, -, r1, g1⟩
  have x2 : x < (n : Int) := x1 (by omega)
  obtain ⟨k, rfl⟩ := Int.eq_ofNat_of_zero_le x0
  have hk : k < n := by omega
  have hc : w1.cell? ⟨g, k, none⟩ = some (.int .i64 (l.getD k 0)) := (grown_cell g1 hgs hne).trans (hg k (by have := unhide HN; omega))
  have hm := hide (show l.getD k 0 ∈ l by
    have hk' : k < l.length := by have := unhide HN; omega
    simp [List.getD, hk'])
  generalize l.getD k 0 = X at hc hm
  clear x1
  go_wp2
  go_ret
  exact ⟨X, rfl, unhide hm, r1, g1⟩
end Go.Proofs.Ytkaepjngmgicaaa.Draw
