/- My own texts of one claim, laid together by program: AskMath2, Rd, RdOf, DrawLab. -/
import Derived.Test.YtlboekimnhgfdaaGreatGd47510abb1
import Derived.Test.YtlboekimnhgfdaaGreatG7e0030f2cd
import Derived.Test.YtlboekimnhgfdaaGreatG54bfd16f94
/- What is asked for twice is asked for once. -/
namespace Go.Proofs.YtlboekimnhgfdaaGreat.Row
open Go.RowKit Rw
set_option linter.unusedVariables false
theorem outL_cons (g : E → List Sam.E) (x : E) (L : List E) : outL g (x :: L) = (if g x = [] then [] else [(x.1, g x)]) ++ outL g L := by unfold outL; rw [List.flatMap_cons]
theorem outL_in {g : E → List Sam.E} {L : List E} {y : E} (h : y ∈ outL g L) : ∃ x ∈ L, y = (x.1, g x) ∧ g x ≠ [] := by
  unfold outL at h
  obtain ⟨x, hx, hy⟩ := List.mem_flatMap.1 h
  split at hy
  · cases hy
  · rename_i hne; exact ⟨x, hx, by simpa using hy, hne⟩
theorem outL_fine {g : E → List Sam.E} : ∀ {L : List E}, Fine L → (∀ x ∈ L, SampMath.ok (g x) = true) → Fine (outL g L)
  | [], h, _ => by unfold outL; exact fine_nil
  | x :: L, h, hg => by
    have ih := outL_fine (fine_tail h) (fun y hy => hg y (List.mem_cons_of_mem _ hy))
    rw [outL_cons]
    split
    · exact ih
    · rename_i hne
      refine ⟨fun y hy => ?_, fun y hy => ?_, List.pairwise_cons.2 ⟨fun y hy => ?_, ih.up⟩⟩
      · rcases List.mem_cons.1 hy with rfl | hy
        · exact h.lab x (List.mem_cons_self ..)
        · exact ih.lab y hy
      · rcases List.mem_cons.1 hy with rfl | hy
        · exact ⟨hg x (List.mem_cons_self ..), hne⟩
        · exact ih.sam y hy
      · obtain ⟨z, hz, e, -⟩ := outL_in (show y ∈ outL g L from hy)
        rw [e]
        exact (List.pairwise_cons.1 h.up).1 z hz
theorem outL_okay {g : E → List Sam.E} {L : List E} (h : ok L = true) (hg : ∀ x ∈ L, SampMath.ok (g x) = true ∧ (g x).length ≤ 1000) : ok (outL g L) = true := by
  rw [ok_of (outL_fine (fine_ok h) (fun x hx => (hg x hx).1))]
  unfold sized
  rw [Bool.and_eq_true]
  refine ⟨decide_eq_true (by have := outL_len g L; have := ok_len h; omega), List.all_eq_true.2 fun y hy => decide_eq_true ?_⟩
  obtain ⟨x, hx, e, -⟩ := outL_in hy
  rw [e]
  exact (hg x hx).2
theorem outL_same {g g' : E → List Sam.E} : ∀ {L : List E}, (∀ x ∈ L, g' x = g x) → outL g' L = outL g L
  | [], _ => rfl
  | x :: L, h => by rw [outL_cons, outL_cons, h x (List.mem_cons_self ..), outL_same (fun y hy => h y (List.mem_cons_of_mem _ hy))]
theorem outL_id {g : E → List Sam.E} : ∀ {L : List E}, (∀ x ∈ L, g x = x.2 ∧ x.2 ≠ []) → outL g L = L
  | [], _ => rfl
  | x :: L, h => by
    have hx := h x (List.mem_cons_self ..)
    rw [outL_cons, hx.1, if_neg hx.2, outL_id (fun y hy => h y (List.mem_cons_of_mem _ hy))]; rfl
theorem row_bounds {L : List E} (h : ok L = true) {x : E} (hx : x ∈ L) : x.2.length ≤ 1000 := by
  obtain ⟨i, hi, rfl⟩ := List.getElem_of_mem hx
  have hst := step_is (ok_at h hi)
  rw [at_get L i hi] at hst
  exact hst.2.2.1
theorem cut_ok {x : E} (f t : Int) (h : SampMath.ok x.2 = true) : SampMath.ok (Samp.cutL x.2 f t) = true := SampMath.ok_sub h List.filter_sublist
theorem ask_ok {ms : List Mat.E} (f t : Int) {L : List E} (h : ok L = true) : ok (ask ms f t L) = true := by
  unfold ask
  rw [if_pos h]
  refine outL_okay h fun x hx => ?_
  unfold askG
  split
  · exact ⟨cut_ok f t ((fine_ok h).sam x hx).1, Nat.le_trans (List.length_filter_le _ _) (row_bounds h hx)⟩
  · exact ⟨rfl, by simp⟩
theorem cut_cut (zs : List Sam.E) (f t : Int) : Samp.cutL (Samp.cutL zs f t) f t = Samp.cutL zs f t := by
  unfold Samp.cutL
  rw [List.filter_filter]
  congr 1
  funext x
  simp
theorem ask_in {ms : List Mat.E} {f t : Int} {L : List E} (h : ok L = true) {y : E} (hy : y ∈ ask ms f t L) : Mat.mlet ms y.1 = true ∧ y.2 ≠ [] ∧ Samp.cutL y.2 f t = y.2 := by
  unfold ask at hy
  rw [if_pos h] at hy
  obtain ⟨x, hx, rfl, hne⟩ := outL_in hy
  unfold askG at hne
  split at hne
  · rename_i hm
    have e : askG ms f t x = Samp.cutL x.2 f t := by unfold askG; rw [if_pos hm]
    refine ⟨hm, ?_, ?_⟩
    · show askG ms f t x ≠ []
      rw [e]; exact hne
    · show Samp.cutL (askG ms f t x) f t = askG ms f t x
      rw [e, cut_cut]
  · exact absurd rfl hne
theorem ask_ask {ms : List Mat.E} (f t : Int) {L : List E} (h : ok L = true) : ask ms f t (ask ms f t L) = ask ms f t L := by
  have e : ask ms f t (ask ms f t L) = outL (askG ms f t) (ask ms f t L) := if_pos (ask_ok f t h)
  rw [e]
  refine outL_id fun x hx => ?_
  have := ask_in h hx
  refine ⟨?_, this.2.1⟩
  unfold askG
  rw [if_pos this.1, this.2.2]
theorem inR_all {zs : List Sam.E} (h : SampMath.ok zs = true) : Samp.cutL zs 0 10000 = zs := by
  unfold Samp.cutL
  rw [List.filter_eq_self]
  intro x hx
  obtain ⟨i, hi, rfl⟩ := List.getElem_of_mem hx
  have := SampMath.ok_range h hi
  have e : SampMath.at' zs i = zs[i] := by simp [SampMath.at', List.getD, hi]
  rw [e] at this
  unfold Samp.inT
  simp
  omega
theorem ask_all {L : List E} (h : ok L = true) : ask [] 0 10000 L = L := by
  unfold ask
  rw [if_pos h]
  have hf := fine_ok h
  refine outL_id fun x hx => ⟨?_, (hf.sam x hx).2⟩
  unfold askG
  have hm : Mat.mlet [] x.1 = true := by unfold Mat.mlet; rw [hf.lab x hx]; rfl
  rw [if_pos hm, inR_all (hf.sam x hx).1]
theorem cut_ends {y : E} {f t : Int} (h : Samp.cutL y.2 f t = y.2) {i : Nat} (hi : i < y.2.length) : f ≤ (SampMath.at' y.2 i).1 ∧ (SampMath.at' y.2 i).1 < t := by
  have e : SampMath.at' y.2 i = y.2[i] := by simp [SampMath.at', List.getD, hi]
  have hm : y.2[i] ∈ Samp.cutL y.2 f t := by rw [h]; exact List.getElem_mem hi
  have := (List.mem_filter.1 hm).2
  unfold Samp.inT at this
  rw [e]
  simpa using this
end Go.Proofs.YtlboekimnhgfdaaGreat.Row

/- The laws draw their inputs from bytes: what is drawn lies within bounds, and nothing that lay there is turned. -/
namespace Go.Proofs.YtlboekimnhgfdaaGreat.Draw
open Go.RowKit Rw
set_option linter.unusedVariables false
attribute [local go_sem ↓] Go.wp_at_zero Go.wp_at_succ
/-- bytes that can be read -/
def Bytes (w : World) (rb : Nat) (a : Option Addr) (len : Nat) : Prop :=
  len ≤ 2000 ∧ (0 < len → ∃ b off, a = some ⟨b, off, none⟩ ∧ b < rb ∧ ∀ i, i < len → ∃ c : Nat, c < 256 ∧ w.cell? ⟨b, off + i, none⟩ = some (.int .u8 (c : Int)))
/-- a reader at place p, in block rb -/
def Rd (w : World) (rb p : Nat) : Prop := ∃ a len cap, w.heap[rb]? = some (.cells #[.slice a len cap, .int .i64 (p : Int)] 125 (0, 0)) ∧ len ≤ cap ∧ cap ≤ maxLen ∧ Bytes w rb a len
theorem Rd.lt {w : World} {rb p : Nat} (h : Rd w rb p) : rb < w.heap.size := by
  obtain ⟨a, len, cap, hb, _⟩ := h
  rcases Nat.lt_or_ge rb w.heap.size with hl | hl
  · exact hl
  · rw [Array.getElem?_eq_none hl] at hb; cases hb
theorem Rd.below {w w' : World} {rb p : Nat} (h : Rd w rb p) (hb : Below w.heap.size w w') : Rd w' rb p := by
  have hl := h.lt
  obtain ⟨a, len, cap, h1, h2, h3, h4, h5⟩ := h
  refine ⟨a, len, cap, by rw [hb.block rb hl]; exact h1, h2, h3, h4, fun h0 => ?_⟩
  obtain ⟨b, off, e, hbr, hc⟩ := h5 h0
  exact ⟨b, off, e, hbr, fun i hi => by obtain ⟨c, hc1, hc2⟩ := hc i hi; exact ⟨c, hc1, (hb.cell (p := ⟨b, off + i, none⟩) (show b < w.heap.size by omega)).trans hc2⟩⟩
/-- behind the step of the reader's place -/
theorem rd_step {w : World} {rb p : Nat} {a : Option Addr} {len cap : Nat} (h1 : w.heap[rb]? = some (.cells #[.slice a len cap, .int .i64 (p : Int)] 125 (0, 0))) (h2 : len ≤ cap) (h3 : cap ≤ maxLen) (hB : Bytes w rb a len) (v : Int) (hv : v = ((p + 1 : Nat) : Int)) :
    Rd (w.setCell ⟨rb, 1, none⟩ (.int .i64 v)) rb (p + 1) ∧ OnlyAt rb w (w.setCell ⟨rb, 1, none⟩ (.int .i64 v)) := by
  subst hv
  refine ⟨⟨a, len, cap, ?_, h2, h3, hB.1, fun h0 => ?_⟩, (OnlyAt.refl _ _).setCell 1 _⟩
  · rw [heap_setCell_same w rb 1 _ _ _ h1]; rfl
  · obtain ⟨b, off, e, hbr, hc⟩ := hB.2 h0
    refine ⟨b, off, e, hbr, fun i hi => ?_⟩
    obtain ⟨c, hc1, hc2⟩ := hc i hi
    refine ⟨c, hc1, ?_⟩
    rw [← hc2]
    exact World.cell?_of_block (a := ⟨b, off + i, none⟩) (heap_setCell_other w ⟨rb, 1, none⟩ b _ (by show b ≠ rb; omega))
theorem grown_trans {a b c : World} {r : Option Nat} (h : a.grownBy b r) (h' : b.grownBy c r) : a.grownBy c r :=
  ⟨h'.os.trans h.os, h'.tape.trans h.tape, h'.output.trans h.output, Nat.le_trans h.size h'.size, fun k hk hr => (h'.block k (Nat.lt_of_lt_of_le hk h.size) hr).trans (h.block k hk hr)⟩
theorem grown_only {a b : World} {g : Nat} (h : OnlyAt g a b) : a.grownBy b (some g) := ⟨h.os, h.tape, h.output, Nat.le_of_eq h.size.symm, fun k _ hr => h.block k (fun e => hr (by rw [e]))⟩
theorem grown_below {a b : World} {r : Option Nat} (h : Below a.heap.size a b) : a.grownBy b r := ⟨h.os, h.tape, h.output, h.size, fun k hk _ => h.block k hk⟩
theorem grown_refl (a : World) (r : Option Nat) : a.grownBy a r := ⟨rfl, rfl, rfl, Nat.le_refl _, fun _ _ _ => rfl⟩
theorem below_of_grown {a b : World} {g B : Nat} (h : a.grownBy b (some g)) (hB : B ≤ g) (hs : B ≤ a.heap.size) : Below B a b := ⟨h.os, h.tape, h.output, h.size, fun k hk => h.block k (by omega) (by simp; omega)⟩
theorem grown_cell {a b : World} {g c o : Nat} (h : a.grownBy b (some g)) (hc : c < a.heap.size) (hne : c ≠ g) : b.cell? ⟨c, o, none⟩ = a.cell? ⟨c, o, none⟩ := World.cell?_of_block (a := ⟨c, o, none⟩) (h.block c hc (by simpa using hne))
theorem rd_drew {w : World} {rb p : Nat} (h : Rd w rb p) : Rd w.drew rb p := h.below ((Below.refl _ _).drew)
theorem OnlyAt.drew {g : Nat} {a b : World} (h : OnlyAt g a b) : OnlyAt g a b.drew := ⟨h.os, h.tape, h.output, h.size, h.block⟩
theorem xor64_nat (X : Nat) (h : X < 9223372036854775808) : ∃ Y : Nat, Y < 9223372036854775808 ∧ bits .xor .i64 (X : Int) ((X : Int) / 64) = (Y : Int) := by
  refine ⟨X ^^^ (X / 64), ?_, ?_⟩
  · exact Nat.xor_lt_two_pow (n := 63) h (by omega)
  · rw [← i64_xor_nat X (X / 64) h (by omega)]; rfl
set_option maxRecDepth 100000 in
set_option maxHeartbeats 2000000 in
theorem pick_any (rb p : Nat) (n : Int) (w : World) (h : Rd w rb p) (hp : p ≤ 1000000) (hn : n ≤ 4294967296) :
    Calls Tryz.prog 93 #[.pointer (some ⟨rb, 0, none⟩), .int .i64 n] w fun e w' => ∃ x : Int, e = .returned (.int .i64 x) ∧ 0 ≤ x ∧ (1 ≤ n → x < n) ∧ (n < 1 → x = 0) ∧ Rd w' rb (p + 1) ∧ w.grownBy w' (some rb) := by
  obtain ⟨a, len, cap, h1, h2, h3, h4⟩ := h
  have c0 : w.cell? ⟨rb, 0, none⟩ = some (.slice a len cap) := by rw [cell_of_row w rb 0 _ _ _ h1]; rfl
  have c1 : w.cell? ⟨rb, 1, none⟩ = some (.int .i64 (p : Int)) := by rw [cell_of_row w rb 1 _ _ _ h1]; rfl
  have f1 : w.frozen? ⟨rb, 1, none⟩ = false := frozen_of_row w rb 1 _ _ h1
  have st := rd_step h1 h2 h3 h4 ((p : Int) + 1) (by omega)
  have HS := hide st
  have h5 := h4.1
  have H4 := hide h4
  clear st h1 h4
  unfold maxLen at h3
  have p0 : (0 : Int) ≤ (p : Int) := Int.natCast_nonneg _
  by_cases hn1 : n < 1
  · go_enter Tryz.func93, Tryz.ntmps93
    go_wp2
    go_ret
    exact ⟨0, rfl, by omega, by omega, by omega, (unhide HS).1, grown_only (unhide HS).2⟩
  by_cases hl0 : len = 0
  · have hz : ((len : Int) == 0) = true := by simp [hl0]
    go_enter Tryz.func93, Tryz.ntmps93
    go_wp2
    go_ret
    exact ⟨0, rfl, by omega, by omega, by omega, (unhide HS).1, grown_only (unhide HS).2⟩
  have hz : ((len : Int) == 0) = false := by simp; omega
  obtain ⟨b, off, rfl, hbr, hc⟩ := (unhide H4).2 (by omega)
  by_cases hpl : p < len
  · obtain ⟨c, hc1, hc2⟩ := hc p hpl
    have q0 : (p : Int) < (len : Int) := by omega
    have hbn : b ≠ rb := by omega
    clear hc
    go_enter Tryz.func93, Tryz.ntmps93
    go_wp2
    go_ret
    refine ⟨_, rfl, ?_, ?_, ?_, (unhide HS).1, grown_only (unhide HS).2⟩
    · exact Int.emod_nonneg _ (by omega)
    · exact Int.emod_lt_of_pos _ (by omega)
    · omega
  · have m1 : p % len < len := Nat.mod_lt _ (by omega)
    have m2 : (p * 7 + 3) % len < len := Nat.mod_lt _ (by omega)
    obtain ⟨c, hc1, hc2⟩ := hc (p % len) m1
    obtain ⟨d, hd1, hd2⟩ := hc ((p * 7 + 3) % len) m2
    obtain ⟨W, hW⟩ : ∃ W, W = w.setCell ⟨rb, 1, none⟩ (.int .i64 ((p : Int) + 1)) := ⟨_, rfl⟩
    have ho := (unhide HS).2
    rw [← hW] at ho
    have hlt := (unhide HS).1.lt
    rw [← hW] at hlt
    have hob : ∀ o, W.cell? ⟨b, o, none⟩ = w.cell? ⟨b, o, none⟩ := fun o => World.cell?_of_block (a := ⟨b, o, none⟩) (ho.block b (by omega))
    have q0 : ∀ x : Cls W.heap.size W, x.val.cell? ⟨rb, 0, none⟩ = some (.slice (some ⟨b, off, none⟩) len cap) := fun x => by
      rw [x.cell hlt, hW]
      rw [World.cell?_setCell_other _ _ _ _ (by simp)]
      exact c0
    have q1 : ∀ x : Cls W.heap.size W, x.val.cell? ⟨b, off + p % len, none⟩ = some (.int .u8 (c : Int)) := fun x => by rw [x.cell (by omega), hob]; exact hc2
    have q2 : ∀ x : Cls W.heap.size W, x.val.cell? ⟨b, off + (p * 7 + 3) % len, none⟩ = some (.int .u8 (d : Int)) := fun x => by rw [x.cell (by omega), hob]; exact hd2
    have hne := cls_nonempty W.heap.size W
    have HW := hide hW
    have hlen : 0 < len := by omega
    have i1 : (0 : Int) ≤ (p : Int) % (len : Int) := Int.emod_nonneg _ (by omega)
    have i2 : (p : Int) % (len : Int) < (len : Int) := Int.emod_lt_of_pos _ (by omega)
    have i3 : (0 : Int) ≤ ((p : Int) * 7 + 3) % (len : Int) := Int.emod_nonneg _ (by omega)
    have i4 : ((p : Int) * 7 + 3) % (len : Int) < (len : Int) := Int.emod_lt_of_pos _ (by omega)
    have i5 : (0 : Int) ≤ (p : Int) / (len : Int) := Int.ediv_nonneg (by omega) (by omega)
    have i6 : (p : Int) / (len : Int) ≤ 1000000 := Int.le_trans (Int.ediv_le_self _ (by omega)) (by omega)
    obtain ⟨Y, hY, hx⟩ := xor64_nat (c * 131 + d * 1117 + p * 29 + p / len * 53) (by
      have : p / len ≤ p := Nat.div_le_self _ _
      omega)
    have hx' : bits .xor .i64 ((c : Int) * 131 + (d : Int) * 1117 + (p : Int) * 29 + (p : Int) / (len : Int) * 53) (((c : Int) * 131 + (d : Int) * 1117 + (p : Int) * 29 + (p : Int) / (len : Int) * 53) / 64) = (Y : Int) := by rw [← hx]; rfl
    clear hc hob hW ho m1 m2 hc2 hd2 hx
    go_enter Tryz.func93, Tryz.ntmps93
    go_wp2_with fail
    rw [← unhide HW]
    refine region_cls (by kernel_rfl) (by kernel_rfl) ?_
    repeat (go_big_quiet_step (fail))
    refine wpQuiet_nil ?_
    rintro wq ⟨⟨_, hq⟩, rfl⟩
    have R1 := (unhide HS).1
    have R2 := (unhide HS).2
    rw [← unhide HW] at R1 R2
    have R3 := R1.below hq
    clear R1 q0 q1 q2
    go_wp2
    go_ret
    exact ⟨(Y : Int) % n, rfl, Int.emod_nonneg _ (by omega), fun _ => Int.emod_lt_of_pos _ (by omega), by omega, R3, grown_trans (grown_only R2) (grown_below hq)⟩
theorem row_bytes {w : World} {a : Option Addr} {len cap : Nat} {zs : List Int} (h : IsRow .u8 w a len cap zs) :
    len ≤ cap ∧ cap ≤ maxLen ∧ (len = 0 ∨ ∃ b off, a = some ⟨b, off, none⟩ ∧ b < w.heap.size ∧ ∀ i, i < len → ∃ c : Nat, c < 256 ∧ w.cell? ⟨b, off + i, none⟩ = some (.int .u8 (c : Int))) := by
  rcases h with ⟨rfl, rfl, rfl, rfl⟩ | ⟨x, rfl, h1, h2, h3, h4, h5⟩
  · exact ⟨Nat.le_refl _, Nat.zero_le _, .inl rfl⟩
  · refine ⟨h1, h2, ?_⟩
    by_cases h0 : len = 0
    · exact .inl h0
    · right
      obtain ⟨b, off, rfl, hc⟩ := ints_at h4 (by omega)
      refine ⟨b, off, rfl, World.block_lt_of_cell? w ⟨b, off + 0, none⟩ (hc 0 (by omega)), fun i hi => ?_⟩
      have hw : (Lit.int .u8 (zs.getD i 0)).wf = true := h5 _ (by simp [List.getD, show i < zs.length by omega])
      have hr : 0 ≤ zs.getD i 0 ∧ zs.getD i 0 ≤ 255 := by simpa [Lit.wf, IntKind.min, IntKind.max, IntKind.signed, IntKind.bits] using hw
      refine ⟨(zs.getD i 0).toNat, by omega, ?_⟩
      rw [hc i (by omega), show ((zs.getD i 0).toNat : Int) = zs.getD i 0 from by omega]
theorem open_zero (a : Option Addr) (cap : Nat) (w : World) (hc : cap ≤ maxLen) : Calls Tryz.prog 51 #[.slice a 0 cap] w fun e w' => e = .returned (.pointer (some ⟨w.heap.size, 0, none⟩)) ∧ Rd w' w.heap.size 0 ∧ Below w.heap.size w w' := by
  go_enter Tryz.func51, Tryz.ntmps51
  go_wp2
  go_ret
  exact ⟨rfl, ⟨a, 0, cap, heap_alloc_new w _, Nat.zero_le _, hc, Nat.zero_le _, fun h => by omega⟩, (Below.refl _ _).alloc (Nat.le_refl _) _⟩
theorem open_some (b off len cap : Nat) (w : World) (h1 : len ≤ cap) (h2 : cap ≤ maxLen) (hl : 0 < len) (hb : b < w.heap.size) (hc : ∀ i, i < len → ∃ c : Nat, c < 256 ∧ w.cell? ⟨b, off + i, none⟩ = some (.int .u8 (c : Int))) :
    Calls Tryz.prog 51 #[.slice (some ⟨b, off, none⟩) len cap] w fun e w' => e = .returned (.pointer (some ⟨w.heap.size, 0, none⟩)) ∧ Rd w' w.heap.size 0 ∧ Below w.heap.size w w' := by
  have HC := hide hc
  have h3 := h2
  unfold maxLen at h3
  clear hc
  by_cases hlen : 2000 < len
  · go_enter Tryz.func51, Tryz.ntmps51
    go_wp2
    all_goals go_ret
    all_goals first
      | (refine ⟨rfl, ⟨some ⟨b, off, none⟩, 2000, cap, ?_, by omega, h2, Nat.le_refl _, fun _ => ⟨b, off, rfl, hb, fun i hi => ?_⟩⟩, (Below.refl _ _).alloc (Nat.le_refl _) _⟩
         · exact heap_alloc_new w _
         · obtain ⟨c, hc1, hc2⟩ := unhide HC i (by omega)
           exact ⟨c, hc1, (((Below.refl w.heap.size w).alloc (Nat.le_refl _) _).cell (p := ⟨b, off + i, none⟩) hb).trans hc2⟩)
      | go_show
  · go_enter Tryz.func51, Tryz.ntmps51
    go_wp2
    go_ret
    refine ⟨rfl, ⟨some ⟨b, off, none⟩, len, cap, heap_alloc_new w _, h1, h2, by omega, fun _ => ⟨b, off, rfl, hb, fun i hi => ?_⟩⟩, (Below.refl _ _).alloc (Nat.le_refl _) _⟩
    obtain ⟨c, hc1, hc2⟩ := unhide HC i (by omega)
    exact ⟨c, hc1, (((Below.refl w.heap.size w).alloc (Nat.le_refl _) _).cell (p := ⟨b, off + i, none⟩) hb).trans hc2⟩
theorem open_any {a : Option Addr} {len cap : Nat} {zs : List Int} (w0 w : World) (h : IsRow .u8 w0 a len cap zs) (hB : Below w0.heap.size w0 w) :
    Calls Tryz.prog 51 #[.slice a len cap] w fun e w' => e = .returned (.pointer (some ⟨w.heap.size, 0, none⟩)) ∧ Rd w' w.heap.size 0 ∧ Below w.heap.size w w' := by
  obtain ⟨h1, h2, h3⟩ := row_bytes h
  by_cases h0 : len = 0
  · subst h0; exact open_zero a cap w h2
  · rcases h3 with h3 | ⟨b, off, rfl, hb, hc⟩
    · exact absurd h3 h0
    · refine open_some b off len cap w h1 h2 (by omega) (by have := hB.size; omega) fun i hi => ?_
      obtain ⟨c, hc1, hc2⟩ := hc i hi
      exact ⟨c, hc1, (hB.cell (p := ⟨b, off + i, none⟩) hb).trans hc2⟩
theorem Rd.grown {w w' : World} {rb p : Nat} {row : Option Nat} (h : Rd w rb p) (hg : w.grownBy w' row) (hr : ∀ k, row = some k → rb < k) : Rd w' rb p := by
  have hl := h.lt
  obtain ⟨a, len, cap, h1, h2, h3, h4, h5⟩ := h
  refine ⟨a, len, cap, by rw [hg.block rb hl (fun e => by have := hr rb e.symm; omega)]; exact h1, h2, h3, h4, fun h0 => ?_⟩
  obtain ⟨b, off, e, hbr, hc⟩ := h5 h0
  refine ⟨b, off, e, hbr, fun i hi => ?_⟩
  obtain ⟨c, hc1, hc2⟩ := hc i hi
  exact ⟨c, hc1, (World.cell?_of_block (a := ⟨b, off + i, none⟩) (hg.block b (show b < w.heap.size by omega) (fun e => by have := hr b e.symm; omega))).trans hc2⟩
theorem grown_other {a b c : World} {r row : Option Nat} (h : a.grownBy b r) (h' : b.grownBy c row) (hr : ∀ k, row = some k → a.heap.size ≤ k) : a.grownBy c r :=
  ⟨h'.os.trans h.os, h'.tape.trans h.tape, h'.output.trans h.output, Nat.le_trans h.size h'.size, fun k hk hne => (h'.block k (Nat.lt_of_lt_of_le hk h.size) (fun e => by have := hr k e.symm; omega)).trans (h.block k hk hne)⟩
theorem own_kept {w w' : World} {base : Nat} {e : TypeId} {size n : Nat} {v : Value} {xs : List Value} {rb : Nat} (h : w.ownsRow base e size v n xs) (hg : w.grownBy w' (some rb)) (hr : rb < base) : w'.ownsRow base e size v n xs :=
  h.kept hg (by
    cases hv : v.ownBlock with
    | none => exact .inl rfl
    | some k => right; intro e; have := own_ge h k hv; simp only [Option.some.injEq] at e; omega)
end Go.Proofs.YtlboekimnhgfdaaGreat.Draw

/- A word of some is drawn. -/
namespace Go.Proofs.YtlboekimnhgfdaaGreat.Draw
open Go.RowKit Rw
set_option linter.unusedVariables false
attribute [local go_sem ↓] Go.wp_at_zero Go.wp_at_succ
/-- words that lie in a block of their own -/
def Strs (w : World) (g : Nat) (l : List ByteArray) : Prop := ∀ i, i < l.length → w.cell? ⟨g, i, none⟩ = some (.string (l.getD i ByteArray.empty))
set_option maxHeartbeats 1000000 in
theorem of_any (rb p g : Nat) (l : List ByteArray) (w : World) (h : Rd w rb p) (hp : p ≤ 1000000) (hl : 0 < l.length) (hl2 : l.length ≤ 1000) (hg : Strs w g l) (hgs : g < w.heap.size) (hne : g ≠ rb) :
    Calls Tryz.prog 96 #[.pointer (some ⟨rb, 0, none⟩), .slice (some ⟨g, 0, none⟩) l.length l.length] w fun e w' => ∃ x : ByteArray, e = .returned (.string x) ∧ x ∈ l ∧ Rd w' rb (p + 1) ∧ w.grownBy w' (some rb) := by
  obtain ⟨n, hn⟩ : ∃ n, n = l.length := ⟨_, rfl⟩
  rw [← hn]
  have HN := hide hn
  have n1 : 0 < n := by omega
  have n2 : n ≤ 1000 := by omega
  have HP := hide (fun k (hk : k ≤ (4294967296 : Int)) => pick_any rb p k w h hp hk)
  clear h hn hl hl2
  go_enter Tryz.func96, Tryz.ntmps96
  go_wp2_with fail
  refine (unhide HP _ (by omega)).mono ?_
  rintro e w1 ⟨x, rfl, x0, x1, -, r1, g1⟩
  have x2 : x < (n : Int) := x1 (by omega)
  obtain ⟨k, rfl⟩ := Int.eq_ofNat_of_zero_le x0
  have hk : k < n := by omega
  have hc : w1.cell? ⟨g, k, none⟩ = some (.string (l.getD k ByteArray.empty)) := (grown_cell g1 hgs hne).trans (hg k (by have := unhide HN; omega))
  have hm := hide (show l.getD k ByteArray.empty ∈ l by
    have hk' : k < l.length := by have := unhide HN; omega
    simp [List.getD, hk'])
  generalize l.getD k ByteArray.empty = X at hc hm
  clear x1
  go_wp2
  go_ret
  exact ⟨X, rfl, unhide hm, r1, g1⟩
theorem strs_block {w : World} {g : Nat} {l : List ByteArray} {t : TypeId} (h : w.heap[g]? = some (.cells (l.map Value.string).toArray t (0, 0))) : Strs w g l := fun i hi => by
  rw [cell_of_row w g i _ _ _ h]
  simp [List.getD, hi]
theorem of_new (rb p : Nat) (l : List ByteArray) (w : World) (h : Rd w rb p) (hp : p ≤ 1000000) (hl : 0 < l.length) (hl2 : l.length ≤ 1000) :
    Calls Tryz.prog 96 #[.pointer (some ⟨rb, 0, none⟩), .slice (some ⟨w.heap.size, 0, none⟩) l.length l.length] (w.alloc (.cells (l.map Value.string).toArray 9)) fun e w' => ∃ x : ByteArray, e = .returned (.string x) ∧ x ∈ l ∧ Rd w' rb (p + 1) ∧ w.grownBy w' (some rb) := by
  have hb : Below w.heap.size w (w.alloc (.cells (l.map Value.string).toArray 9)) := (Below.refl _ _).alloc (Nat.le_refl _) _
  refine (of_any rb p w.heap.size l _ (h.below hb) hp hl hl2 (strs_block (heap_alloc_new w _)) (by simp) (by have := h.lt; omega)).mono ?_
  rintro e w' ⟨x, rfl, hx, hr, hg⟩
  exact ⟨x, rfl, hx, hr, grown_trans (grown_below hb) hg⟩
end Go.Proofs.YtlboekimnhgfdaaGreat.Draw

/- Labels are drawn. -/
namespace Go.Proofs.YtlboekimnhgfdaaGreat.Draw
open Go.RowKit Rw Lab
set_option linter.unusedVariables false
attribute [local go_sem ↓] Go.wp_at_zero Go.wp_at_succ
/-- what is drawn is small -/
def nobody : ByteArray := ⟨#[110, 111, 98, 111, 100, 121]⟩
def smallL (x : Lab.E) : Prop := x.1.size ≤ 100 ∧ x.2.size ≤ 100 ∧ x.1 ≠ nobody
theorem good_smallL {x : Lab.E} (h : smallL x) : Lab.good x := by
  obtain ⟨h1, h2, -⟩ := h
  exact ⟨by unfold maxLen; omega, by unfold maxLen; omega⟩
theorem flat_snocL (L : List Lab.E) (x : Lab.E) : Lab.flat (L ++ [x]) = Lab.flat L ++ Lab.fl x := by unfold Lab.flat; rw [flatOf_append, flatOf_one]
theorem small_snocL {L : List Lab.E} {x : Lab.E} (h : ∀ y ∈ L, smallL y) (hx : smallL x) : ∀ y ∈ L ++ [x], smallL y := by
  intro y hy
  rw [List.mem_append, List.mem_singleton] at hy
  rcases hy with hy | rfl
  · exact h y hy
  · exact hx
theorem strs_grown {w w' : World} {g : Nat} {l : List ByteArray} {row : Option Nat} (h : Strs w g l) (hg : w.grownBy w' row) (hl : g < w.heap.size) (hr : ∀ k, row = some k → k ≠ g) : Strs w' g l := fun i hi =>
  (World.cell?_of_block (a := ⟨g, i, none⟩) (hg.block g hl (fun e => hr g e.symm rfl))).trans (h i hi)
def names3 : List ByteArray := [⟨#[97, 112, 112]⟩, ⟨#[104, 111, 115, 116]⟩, ⟨#[122, 111, 110, 101]⟩]
/-- labels drawn so far; the names lie beside them, in block nb -/
def LS (w wr : World) (rb nb p : Nat) (ov : Value) (L : List Lab.E) : Prop :=
  (∀ x ∈ L, smallL x) ∧ wr.ownsRow w.heap.size 64 2 ov L.length (Lab.flat L) ∧ (∀ k, ov.ownBlock = some k → k ≠ nb) ∧ Strs wr nb names3 ∧ (nb < wr.heap.size ∧ w.heap.size ≤ nb) ∧ Rd wr rb p ∧ w.grownBy wr (some rb) ∧ rb < w.heap.size
theorem LS.pick {w wr w' : World} {rb nb p p' : Nat} {ov : Value} {L : List Lab.E} (h : LS w wr rb nb p ov L) (hr : Rd w' rb p') (hg : wr.grownBy w' (some rb)) : LS w w' rb nb p' ov L := by
  obtain ⟨h1, h2, h3, h4, ⟨h5, h6⟩, h7, h8, h9⟩ := h
  exact ⟨h1, own_kept h2 hg h9, h3, strs_grown h4 hg h5 (fun k hk => by have := Option.some.inj hk; omega), ⟨Nat.lt_of_lt_of_le h5 hg.size, h6⟩, hr, grown_trans h8 hg, h9⟩
theorem LS.app {w wr w9 : World} {rb nb p : Nat} {ov vn : Value} {L : List Lab.E} {x : Lab.E} {c : Array Value} {n : Nat} {xs : List Value} (h : LS w wr rb nb p ov L) (hx : smallL x) (hn : n = L.length + 1) (hxs : xs = Lab.flat L ++ Lab.fl x)
    (on : w9.ownsRow w.heap.size 64 2 vn n xs) (gn : (wr.alloc (.cells c 64)).grownBy w9 ov.ownBlock) (an : vn.ownBlock = ov.ownBlock ∨ vn.ownBlock = some (wr.alloc (.cells c 64)).heap.size) : LS w w9 rb nb p vn (L ++ [x]) := by
  obtain ⟨h1, h2, h3, h4, ⟨h5, h6⟩, h7, h8, h9⟩ := h
  have ge := own_ge h2
  have hb : Below wr.heap.size wr (wr.alloc (.cells c 64)) := (Below.refl _ _).alloc (Nat.le_refl _) _
  have hs : (wr.alloc (.cells c 64)).heap.size = wr.heap.size + 1 := by simp
  refine ⟨small_snocL h1 hx, ?_, ?_, ?_, ⟨?_, h6⟩, ?_, ?_, h9⟩
  · rw [List.length_append, flat_snocL, ← hxs]; rw [hn] at on; exact on
  · intro k hk e
    rcases an with an | an
    · exact h3 k (an.symm.trans hk) e
    · rw [hk] at an
      have := Option.some.inj an
      omega
  · exact strs_grown (strs_grown (row := some rb) h4 (grown_below hb) h5 (fun k hk => by have := Option.some.inj hk; omega)) gn (by rw [hs]; omega) h3
  · have := gn.size; omega
  · exact (h7.below hb).grown gn (fun k hk => by have := ge k hk; omega)
  · exact grown_other (grown_trans h8 (grown_below hb)) gn ge
set_option maxRecDepth 100000 in
set_option maxHeartbeats 4000000 in
theorem labels_any (rb p : Nat) (w : World) (h : Rd w rb p) (hp : p ≤ 700000) :
    Calls Tryz.prog 142 #[.pointer (some ⟨rb, 0, none⟩)] w fun e w' => ∃ (zs : List Lab.E) (v : Value), e = .returned v ∧ 0 < zs.length ∧ zs.length ≤ 3 ∧ (∀ x ∈ zs, smallL x) ∧ w'.ownsRow w.heap.size 64 2 v zs.length (Lab.flat zs) ∧ (∃ p', p' ≤ p + 10 ∧ Rd w' rb p') ∧ w.grownBy w' (some rb) := by
  obtain ⟨i0, hi, hz0, hz1, hz2⟩ := info_parts Lab.info_e
  have hrl := h.lt
  have hmx : 1 ≤ maxLen := by unfold maxLen; omega
  have hb1 : Below w.heap.size w (w.alloc (.cells #[] 64)) := (Below.refl _ _).alloc (Nat.le_refl _) _
  have hb2 : Below (w.alloc (.cells #[] 64)).heap.size (w.alloc (.cells #[] 64)) ((w.alloc (.cells #[] 64)).alloc (.cells (names3.map Value.string).toArray 9)) := (Below.refl _ _).alloc (Nat.le_refl _) _
  have S0 := hide (show LS w ((w.alloc (.cells #[] 64)).alloc (.cells (names3.map Value.string).toArray 9)) rb (w.alloc (.cells #[] 64)).heap.size p (.slice (some ⟨w.heap.size, 0, none⟩) 0 0) [] from
    ⟨by simp, (own_empty (w := w) (base := w.heap.size) (e := 64) (size := 2) (Nat.le_refl _)).alloc _, fun k hk => by have := Option.some.inj hk; simp at this ⊢; omega, strs_block (heap_alloc_new _ _), ⟨by simp, by simp⟩, (h.below hb1).below hb2, grown_trans (grown_below hb1) (grown_below hb2), hrl⟩)
  clear h hb1 hb2
  go_enter Tryz.func142, Tryz.ntmps142
  go_wp2_with fail
  go_loopw [3, 9] (fun ov iv wr => ∃ (i : Nat) (L : List Lab.E) (p' : Nat), iv = .int .i64 (i : Int) ∧ i ≤ 3 ∧ L.length ≤ i ∧ p' ≤ p + 3 * i ∧ LS w wr rb (w.heap.size + 1) p' ov L) (fun _ iv _ => 3 - (intOf iv).toNat)
  case atStart => exact ⟨0, [], p, rfl, by omega, by simp, by omega, by simpa [names3] using unhide S0⟩
  case round =>
    clear S0
    obtain ⟨i, L, p', rfl, hi3, hL, hp', hS⟩ := hrel
    by_cases h3 : i < 3
    · rcases (show i = 0 ∨ i = 1 ∨ i = 2 from by omega) with rfl | rfl | rfl
      · have hc : wr.cell? ⟨w.heap.size + 1, 0, none⟩ = some (.string ⟨#[97, 112, 112]⟩) := hS.2.2.2.1 0 (by decide)
        have HS := hide hS
        clear hS
        go_wp2_with fail
        refine (pick_any rb p' _ _ (unhide HS).2.2.2.2.2.1 (by omega) (by omega)).mono ?_
        rintro e w1 ⟨x, rfl, x0, x1, -, r1, g1⟩
        have HS1 := hide ((unhide HS).pick r1 g1)
        clear HS hc r1 g1 x1
        by_cases hx : x = 0
        · subst hx
          go_wp2_with fail
          have hof := of_new rb (p' + 1) [⟨#[97]⟩, ⟨#[97, 98]⟩, ⟨#[98]⟩, ⟨#[97]⟩, ⟨#[97]⟩] _ (unhide HS1).2.2.2.2.2.1 (by omega) (by simp) (by simp)
          simp only [List.map_cons, List.map_nil, List.length_cons, List.length_nil, Nat.zero_add, Nat.reduceAdd] at hof
          refine hof.mono ?_
          clear hof
          rintro e w3 ⟨B, rfl, hB, r3, g3⟩
          have B0 := hide (show B.size ≤ 100 by
            simp only [List.mem_cons, List.not_mem_nil, or_false] at hB
            rcases hB with rfl | rfl | rfl | rfl | rfl <;> decide)
          have HT := hide ((unhide HS1).pick r3 g3)
          clear HS1 r3 g3 hB
          go_wp2_with (at_builtin; refine app_wp _ rfl _ _ _ rfl w.heap.size 64 i0 _ 2 32 Tryz.underlying60 hi hz0 hz1 hz2 rfl (by omega) _ L.length _ rfl ((unhide HT).2.1.alloc _) _ 1 [.string ⟨#[97, 112, 112]⟩, .string B] rfl (lies_new rfl rfl hmx) (by simp [Value.oneCell']) (by unfold maxLen; omega) (by omega) (by have := (unhide HT).2.2.2.2.1; simp; omega) ?_; intro vn w9 on gn an)
          have HU := hide ((unhide HT).app (x := (⟨#[97, 112, 112]⟩, B)) ⟨by show ByteArray.size ⟨#[97, 112, 112]⟩ ≤ 100; decide, unhide B0, by show (⟨#[97, 112, 112]⟩ : ByteArray) ≠ nobody; decide⟩ rfl rfl on gn an)
          clear on gn an HT
          go_wp2_with fail
          go_roundw
          case rel => exact ⟨1, L ++ [(⟨#[97, 112, 112]⟩, B)], p' + 1 + 1, by go_num, by omega, by rw [List.length_append]; exact Nat.add_le_add_right hL 1, by omega, unhide HU⟩
          case measure => simp [intOf]
        · have hxf : (x == 0) = false := by simpa using hx
          go_wp2_with fail
          refine (pick_any rb (p' + 1) _ _ (unhide HS1).2.2.2.2.2.1 (by omega) (by omega)).mono ?_
          rintro e w2 ⟨y, rfl, y0, y1, -, r2, g2⟩
          have HS2 := hide ((unhide HS1).pick r2 g2)
          clear HS1 r2 g2 y1
          by_cases hy : 0 < y
          · go_wp2_with fail
            have hof := of_new rb (p' + 1 + 1) [⟨#[97]⟩, ⟨#[97, 98]⟩, ⟨#[98]⟩, ⟨#[97]⟩, ⟨#[97]⟩] _ (unhide HS2).2.2.2.2.2.1 (by omega) (by simp) (by simp)
            simp only [List.map_cons, List.map_nil, List.length_cons, List.length_nil, Nat.zero_add, Nat.reduceAdd] at hof
            refine hof.mono ?_
            clear hof
            rintro e w3 ⟨B, rfl, hB, r3, g3⟩
            have B0 := hide (show B.size ≤ 100 by
              simp only [List.mem_cons, List.not_mem_nil, or_false] at hB
              rcases hB with rfl | rfl | rfl | rfl | rfl <;> decide)
            have HT := hide ((unhide HS2).pick r3 g3)
            clear HS2 r3 g3 hB
            go_wp2_with (at_builtin; refine app_wp _ rfl _ _ _ rfl w.heap.size 64 i0 _ 2 32 Tryz.underlying60 hi hz0 hz1 hz2 rfl (by omega) _ L.length _ rfl ((unhide HT).2.1.alloc _) _ 1 [.string ⟨#[97, 112, 112]⟩, .string B] rfl (lies_new rfl rfl hmx) (by simp [Value.oneCell']) (by unfold maxLen; omega) (by omega) (by have := (unhide HT).2.2.2.2.1; simp; omega) ?_; intro vn w9 on gn an)
            have HU := hide ((unhide HT).app (x := (⟨#[97, 112, 112]⟩, B)) ⟨by show ByteArray.size ⟨#[97, 112, 112]⟩ ≤ 100; decide, unhide B0, by show (⟨#[97, 112, 112]⟩ : ByteArray) ≠ nobody; decide⟩ rfl rfl on gn an)
            clear on gn an HT
            go_wp2_with fail
            go_roundw
            case rel => exact ⟨1, L ++ [(⟨#[97, 112, 112]⟩, B)], p' + 1 + 1 + 1, by go_num, by omega, by rw [List.length_append]; exact Nat.add_le_add_right hL 1, by omega, unhide HU⟩
            case measure => simp [intOf]
          · have hyf : decide (0 < y) = false := by simpa using hy
            go_wp2_with fail
            go_roundw
            case rel => exact ⟨1, L, p' + 1 + 1, by go_num, by omega, by omega, by omega, unhide HS2⟩
            case measure => simp [intOf]
      · have hc : wr.cell? ⟨w.heap.size + 1, 1, none⟩ = some (.string ⟨#[104, 111, 115, 116]⟩) := hS.2.2.2.1 1 (by decide)
        have HS := hide hS
        clear hS
        go_wp2_with fail
        refine (pick_any rb p' _ _ (unhide HS).2.2.2.2.2.1 (by omega) (by omega)).mono ?_
        rintro e w1 ⟨x, rfl, x0, x1, -, r1, g1⟩
        have HS1 := hide ((unhide HS).pick r1 g1)
        clear HS hc r1 g1 x1
        by_cases hx : x = 0
        · subst hx
          go_wp2_with fail
          have hof := of_new rb (p' + 1) [⟨#[97]⟩, ⟨#[97, 98]⟩, ⟨#[98]⟩, ⟨#[97]⟩, ⟨#[97]⟩] _ (unhide HS1).2.2.2.2.2.1 (by omega) (by simp) (by simp)
          simp only [List.map_cons, List.map_nil, List.length_cons, List.length_nil, Nat.zero_add, Nat.reduceAdd] at hof
          refine hof.mono ?_
          clear hof
          rintro e w3 ⟨B, rfl, hB, r3, g3⟩
          have B0 := hide (show B.size ≤ 100 by
            simp only [List.mem_cons, List.not_mem_nil, or_false] at hB
            rcases hB with rfl | rfl | rfl | rfl | rfl <;> decide)
          have HT := hide ((unhide HS1).pick r3 g3)
          clear HS1 r3 g3 hB
          go_wp2_with (at_builtin; refine app_wp _ rfl _ _ _ rfl w.heap.size 64 i0 _ 2 32 Tryz.underlying60 hi hz0 hz1 hz2 rfl (by omega) _ L.length _ rfl ((unhide HT).2.1.alloc _) _ 1 [.string ⟨#[104, 111, 115, 116]⟩, .string B] rfl (lies_new rfl rfl hmx) (by simp [Value.oneCell']) (by unfold maxLen; omega) (by omega) (by have := (unhide HT).2.2.2.2.1; simp; omega) ?_; intro vn w9 on gn an)
          have HU := hide ((unhide HT).app (x := (⟨#[104, 111, 115, 116]⟩, B)) ⟨by show ByteArray.size ⟨#[104, 111, 115, 116]⟩ ≤ 100; decide, unhide B0, by show (⟨#[104, 111, 115, 116]⟩ : ByteArray) ≠ nobody; decide⟩ rfl rfl on gn an)
          clear on gn an HT
          go_wp2_with fail
          go_roundw
          case rel => exact ⟨2, L ++ [(⟨#[104, 111, 115, 116]⟩, B)], p' + 1 + 1, by go_num, by omega, by rw [List.length_append]; exact Nat.add_le_add_right hL 1, by omega, unhide HU⟩
          case measure => simp [intOf]
        · have hxf : (x == 0) = false := by simpa using hx
          go_wp2_with fail
          go_roundw
          case rel => exact ⟨2, L, p' + 1, by go_num, by omega, by omega, by omega, unhide HS1⟩
          case measure => simp [intOf]
      · have hc : wr.cell? ⟨w.heap.size + 1, 2, none⟩ = some (.string ⟨#[122, 111, 110, 101]⟩) := hS.2.2.2.1 2 (by decide)
        have HS := hide hS
        clear hS
        go_wp2_with fail
        refine (pick_any rb p' _ _ (unhide HS).2.2.2.2.2.1 (by omega) (by omega)).mono ?_
        rintro e w1 ⟨x, rfl, x0, x1, -, r1, g1⟩
        have HS1 := hide ((unhide HS).pick r1 g1)
        clear HS hc r1 g1 x1
        by_cases hx : x = 0
        · subst hx
          go_wp2_with fail
          have hof := of_new rb (p' + 1) [⟨#[97]⟩, ⟨#[97, 98]⟩, ⟨#[98]⟩, ⟨#[97]⟩, ⟨#[97]⟩] _ (unhide HS1).2.2.2.2.2.1 (by omega) (by simp) (by simp)
          simp only [List.map_cons, List.map_nil, List.length_cons, List.length_nil, Nat.zero_add, Nat.reduceAdd] at hof
          refine hof.mono ?_
          clear hof
          rintro e w3 ⟨B, rfl, hB, r3, g3⟩
          have B0 := hide (show B.size ≤ 100 by
            simp only [List.mem_cons, List.not_mem_nil, or_false] at hB
            rcases hB with rfl | rfl | rfl | rfl | rfl <;> decide)
          have HT := hide ((unhide HS1).pick r3 g3)
          clear HS1 r3 g3 hB
          go_wp2_with (at_builtin; refine app_wp _ rfl _ _ _ rfl w.heap.size 64 i0 _ 2 32 Tryz.underlying60 hi hz0 hz1 hz2 rfl (by omega) _ L.length _ rfl ((unhide HT).2.1.alloc _) _ 1 [.string ⟨#[122, 111, 110, 101]⟩, .string B] rfl (lies_new rfl rfl hmx) (by simp [Value.oneCell']) (by unfold maxLen; omega) (by omega) (by have := (unhide HT).2.2.2.2.1; simp; omega) ?_; intro vn w9 on gn an)
          have HU := hide ((unhide HT).app (x := (⟨#[122, 111, 110, 101]⟩, B)) ⟨by show ByteArray.size ⟨#[122, 111, 110, 101]⟩ ≤ 100; decide, unhide B0, by show (⟨#[122, 111, 110, 101]⟩ : ByteArray) ≠ nobody; decide⟩ rfl rfl on gn an)
          clear on gn an HT
          go_wp2_with fail
          go_roundw
          case rel => exact ⟨3, L ++ [(⟨#[122, 111, 110, 101]⟩, B)], p' + 1 + 1, by go_num, by omega, by rw [List.length_append]; exact Nat.add_le_add_right hL 1, by omega, unhide HU⟩
          case measure => simp [intOf]
        · have hxf : (x == 0) = false := by simpa using hx
          go_wp2_with fail
          go_roundw
          case rel => exact ⟨3, L, p' + 1, by go_num, by omega, by omega, by omega, unhide HS1⟩
          case measure => simp [intOf]
    · obtain rfl : i = 3 := by omega
      obtain ⟨-, am, cm, rfl, -⟩ := lies_of_own hS.2.1
      have HS := hide hS
      clear hS
      by_cases hl0 : L.length = 0
      · have hz : ((L.length : Int) == 0) = true := by simp [hl0]
        go_wp2_with (at_builtin; refine app_wp _ rfl _ _ _ rfl w.heap.size 64 i0 _ 2 32 Tryz.underlying60 hi hz0 hz1 hz2 rfl (by omega) _ L.length _ rfl ((unhide HS).2.1.alloc _) _ 1 [.string ⟨#[106, 111, 98]⟩, .string ⟨#[120]⟩] rfl (lies_new rfl rfl hmx) (by simp [Value.oneCell']) (by unfold maxLen; omega) (by omega) (by have := (unhide HS).2.2.2.2.1; simp; omega) ?_; intro vn w9 on gn an)
        have HU := hide ((unhide HS).app (x := (⟨#[106, 111, 98]⟩, ⟨#[120]⟩)) ⟨by show ByteArray.size ⟨#[106, 111, 98]⟩ ≤ 100; decide, by show ByteArray.size ⟨#[120]⟩ ≤ 100; decide, by show (⟨#[106, 111, 98]⟩ : ByteArray) ≠ nobody; decide⟩ rfl rfl on gn an)
        clear on gn an HS
        go_wp2_with fail
        go_ret
        obtain ⟨h1, h2, -, -, -, h7, h8, -⟩ := unhide HU
        exact ⟨_, _, rfl, by rw [List.length_append]; exact Nat.succ_pos _, by rw [List.length_append, hl0]; decide, h1, h2, ⟨p', by omega, h7⟩, h8⟩
      · have hz : ((L.length : Int) == 0) = false := beq_false_of_ne (by omega)
        go_wp2_with fail
        go_ret
        obtain ⟨h1, h2, -, -, -, h7, h8, -⟩ := unhide HS
        exact ⟨_, _, rfl, by omega, by omega, h1, h2, ⟨p', by omega, h7⟩, h8⟩
end Go.Proofs.YtlboekimnhgfdaaGreat.Draw
