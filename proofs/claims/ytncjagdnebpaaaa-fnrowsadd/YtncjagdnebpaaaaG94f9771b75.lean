/- My own texts of one claim, laid together by program: AlSamp, AlRows, AlCount, DropMath2. -/
import Derived.Test.YtncjagdnebpaaaaG0c04a85d21
import Derived.Test.YtncjagdnebpaaaaG4464f45ed3
import Derived.Test.YtncjagdnebpaaaaG228b1de602
import Derived.Test.YtncjagdnebpaaaaG99766444a5
import Derived.Test.YtncjagdnebpaaaaGe17f946c16
/- Samples and times are drawn; the same samples are the same. -/
namespace Go.Proofs.Ytncjagdnebpaaaa.Draw
open Go.RowKit Samp SampMath Rw
set_option linter.unusedVariables false
attribute [local go_sem ↓] Go.wp_at_zero Go.wp_at_succ
set_option maxRecDepth 100000 in
set_option maxHeartbeats 2000000 in
theorem al_some (b off b' off' len cap cap' : Nat) (zs : List S) (w : World) (hz : zs.length = len) (h1 : len ≤ cap) (h2 : cap ≤ maxLen) (hbl : b < w.heap.size) (hr : Reads w b off zs) (h1' : len ≤ cap') (h2' : cap' ≤ maxLen) (hbl' : b' < w.heap.size) (hr' : Reads w b' off' zs) :
    Calls Try.prog 28 #[.slice (some ⟨b, off, none⟩) len cap, .slice (some ⟨b', off', none⟩) len cap'] w fun e w' => e = .returned (.bool true) ∧ Below w.heap.size w w' := by
  unfold maxLen at h2 h2'
  go_enter Try.func28, Try.ntmps28
  go_wp2_with fail
  go_loopw [5] (fun i wr => ∃ (k : Nat), k ≤ len ∧ i = .int .i64 k ∧ Below w.heap.size w wr) (fun i _ => len - (intOf i).toNat)
  case atStart => exact ⟨0, Nat.zero_le _, rfl, Below.refl _ _⟩
  case round =>
    obtain ⟨k, hk, rfl, hbel⟩ := hrel
    have hsz := hbel.size
    by_cases hlt : k < len
    · obtain ⟨T, hT⟩ : ∃ T, T = (at' zs k).1 := ⟨_, rfl⟩
      obtain ⟨V, hV⟩ : ∃ V, V = (at' zs k).2 := ⟨_, rfl⟩
      have hq0 : ∀ x : Cls wr.heap.size wr, x.val.cell? ⟨b, off + k * 2, none⟩ = some (.int .i64 T) := fun x => by rw [x.cell (by omega), hT]; exact (hbel.cell (p := ⟨b, _, none⟩) hbl).trans (hr k (by omega)).1
      have hq1 : ∀ x : Cls wr.heap.size wr, x.val.cell? ⟨b, off + k * 2 + 1, none⟩ = some (.int .i64 V) := fun x => by rw [x.cell (by omega), hV]; exact (hbel.cell (p := ⟨b, _, none⟩) hbl).trans (hr k (by omega)).2
      have hp0 : ∀ x : Cls wr.heap.size wr, x.val.cell? ⟨b', off' + k * 2, none⟩ = some (.int .i64 T) := fun x => by rw [x.cell (by omega), hT]; exact (hbel.cell (p := ⟨b', _, none⟩) hbl').trans (hr' k (by omega)).1
      have hp1 : ∀ x : Cls wr.heap.size wr, x.val.cell? ⟨b', off' + k * 2 + 1, none⟩ = some (.int .i64 V) := fun x => by rw [x.cell (by omega), hV]; exact (hbel.cell (p := ⟨b', _, none⟩) hbl').trans (hr' k (by omega)).2
      have hk0 : (0 : Int) ≤ (k : Int) := Int.natCast_nonneg _
      have hk1 : (k : Int) < (len : Int) := by omega
      clear hT hV
      have hne := cls_nonempty wr.heap.size wr
      go_wp2_with fail
      refine region_cls (by kernel_rfl) (by kernel_rfl) ?_
      repeat (go_big_quiet_step ((fail)))
      refine wpQuiet_nil ?_
      rintro wq ⟨⟨_, hq⟩, rfl⟩
      go_wp2
      go_roundw
      case rel => exact ⟨k + 1, by omega, by go_num, hbel.trans (hq.mono hsz)⟩
      case measure => simp [intOf]; omega
    · go_wp2
      go_ret
      exact ⟨rfl, hbel⟩
theorem al_zero (a a' : Option Addr) (c c' : Nat) (w : World) : Calls Try.prog 28 #[.slice a 0 c, .slice a' 0 c'] w fun e w' => e = .returned (.bool true) ∧ Below w.heap.size w w' := by
  go_enter Try.func28, Try.ntmps28
  go_wp2
  refine wp_loop_rounds 1 ?_
  rw [rounds_succ]
  go_wp2
  go_ret
  exact ⟨rfl, Below.refl _ _⟩
theorem al_same {v u : Value} {zs : List S} {w : World} (h : Smp w v zs) (h' : Smp w u zs) : Calls Try.prog 28 #[v, u] w fun e w' => e = .returned (.bool true) ∧ Below w.heap.size w w' := by
  rcases h with ⟨rfl, rfl⟩ | ⟨b, off, cap, rfl, h2, h3, h4, h5⟩
  · rcases h' with ⟨rfl, _⟩ | ⟨b', off', cap', rfl, _, _, _, _⟩
    · exact al_zero _ _ _ _ w
    · exact al_zero _ _ _ _ w
  · rcases h' with ⟨rfl, rfl⟩ | ⟨b', off', cap', rfl, g2, g3, g4, g5⟩
    · exact al_zero _ _ _ _ w
    · exact al_some b off b' off' _ cap cap' zs w rfl h2 h3 h4 h5 g2 g3 g4 g5
end Go.Proofs.Ytncjagdnebpaaaa.Draw

/- Rows are told to be the same; how many samples there are. -/
namespace Go.Proofs.Ytncjagdnebpaaaa.Row
open Go.RowKit Rw
set_option linter.unusedVariables false
attribute [local go_sem ↓] Go.wp_at_zero Go.wp_at_succ
theorem al_lab {v u : Value} {zs : List Lab.E} {w : World} (h : Lab.Is w v zs) (h' : Lab.Is w u zs) : Calls Try.prog 27 #[v, u] w fun e w' => e = .returned (.bool true) ∧ Below w.heap.size w w' :=
  (Lab.al_any h h').mono fun e w' ⟨R, h1, h2, h3⟩ => ⟨by rw [h1, h2.2 rfl], h3⟩
theorem al_sam {v u : Value} {zs : List Sam.E} {w : World} (h : Sam.Is w v zs) (h' : Sam.Is w u zs) : Calls Try.prog 28 #[v, u] w fun e w' => e = .returned (.bool true) ∧ Below w.heap.size w w' := by
  by_cases h0 : zs = []
  · subst h0
    obtain ⟨-, a, cap, rfl, -⟩ := h
    obtain ⟨-, a', cap', rfl, -⟩ := h'
    exact Draw.al_zero a a' cap cap' w
  · exact Draw.al_same (smp_of_lies h h0) (smp_of_lies h' h0)
set_option maxRecDepth 100000 in
set_option maxHeartbeats 4000000 in
theorem al_rows {v u : Value} {zs : List E} {w : World} (h : Is w v zs) (h' : Is w u zs) : Calls Try.prog 7 #[v, u] w fun e w' => e = .returned (.bool true) ∧ Below w.heap.size w w' := by
  obtain ⟨cs, hcs, hL, hE⟩ := h
  obtain ⟨ds, hds, hL', hE'⟩ := h'
  have HE := hide hE
  have HE' := hide hE'
  obtain ⟨-, a, cap, rfl, hc, hm, -, hr⟩ := hL
  obtain ⟨-, a', cap', rfl, hc', hm', -, hr'⟩ := hL'
  unfold maxLen at hm hm'
  obtain ⟨n, hn⟩ : ∃ n, n = zs.length := ⟨_, rfl⟩
  rw [← hn] at hc hr hc' hr' hcs hds ⊢
  have HN := hide hn
  have HC := hide hcs
  have HD := hide hds
  clear hn hE hE' hcs hds
  go_enter Try.func7, Try.ntmps7
  go_wp2
  go_loopw [5] (fun i wr => ∃ (j : Nat), j ≤ n ∧ i = .int .i64 j ∧ Below w.heap.size w wr) (fun i _ => n - (intOf i).toNat)
  case atStart => exact ⟨0, Nat.zero_le _, rfl, Below.refl _ _⟩
  case round =>
    obtain ⟨j, hj, rfl, hbel⟩ := hrel
    have hsz := hbel.size
    by_cases hlt : j < n
    · obtain ⟨b, off, rfl, hl, hcells⟩ := hr (by omega)
      obtain ⟨b', off', rfl, hl', hcells'⟩ := hr' (by omega)
      have fa := flat_at cs j (by have := unhide HC; omega)
      have fb := flat_at ds j (by have := unhide HD; omega)
      have hE1 := unhide HE j (by have := unhide HN; omega)
      have hE2 := unhide HE' j (by have := unhide HN; omega)
      have HO1 := hide (fun x : Cls wr.heap.size wr => al_lab ((hE1.1.below hbel).below x.isBelow) ((hE2.1.below hbel).below x.isBelow))
      have HO2 := hide (fun x : Cls wr.heap.size wr => al_sam ((hE1.2.below hbel).below x.isBelow) ((hE2.2.below hbel).below x.isBelow))
      obtain ⟨c0, c1, hX⟩ : ∃ c0 c1, (c0, c1) = cat cs j := ⟨_, _, rfl⟩
      obtain ⟨d0, d1, hY⟩ : ∃ d0 d1, (d0, d1) = cat ds j := ⟨_, _, rfl⟩
      rw [← hX] at fa HO1 HO2
      rw [← hY] at fb HO1 HO2
      have hq0 : ∀ x : Cls wr.heap.size wr, x.val.cell? ⟨b, off + j * 2, none⟩ = some c0 := fun x => by rw [x.cell (by omega)]; exact (hbel.cell (p := ⟨b, _, none⟩) hl).trans (hcells (j * 2) _ fa.1)
      have hp0 : ∀ x : Cls wr.heap.size wr, x.val.cell? ⟨b', off' + j * 2, none⟩ = some d0 := fun x => by rw [x.cell (by omega)]; exact (hbel.cell (p := ⟨b', _, none⟩) hl').trans (hcells' (j * 2) _ fb.1)
      have hq1 : ∀ x : Cls wr.heap.size wr, x.val.cell? ⟨b, off + j * 2 + 1, none⟩ = some c1 := fun x => by rw [x.cell (by omega)]; exact (hbel.cell (p := ⟨b, _, none⟩) hl).trans (hcells (j * 2 + 1) _ fa.2)
      have hp1 : ∀ x : Cls wr.heap.size wr, x.val.cell? ⟨b', off' + j * 2 + 1, none⟩ = some d1 := fun x => by rw [x.cell (by omega)]; exact (hbel.cell (p := ⟨b', _, none⟩) hl').trans (hcells' (j * 2 + 1) _ fb.2)
      have hk0 : (0 : Int) ≤ (j : Int) := Int.natCast_nonneg _
      have hk1 : (j : Int) < (n : Int) := by omega
      clear hX hY fa fb hE1 hE2
      have hne := cls_nonempty wr.heap.size wr
      go_wp2_with fail
      refine region_cls (by kernel_rfl) (by kernel_rfl) ?_
      repeat (go_big_quiet_step ((first | (go_at_call 27; exact cls_call (Nat.le_refl _) (unhide HO1 _)) | (go_at_call 28; exact cls_call (Nat.le_refl _) (unhide HO2 _)))))
      refine wpQuiet_nil ?_
      rintro w2 ⟨⟨_, hq⟩, rfl⟩
      have R := hbel.trans (hq.mono hsz)
      clear hq0 hp0 hq1 hp1 hne HO1 HO2
      go_wp2_with fail
      go_roundw
      case rel => exact ⟨j + 1, by omega, by go_num, R⟩
      case measure => simp [intOf]; omega
    · obtain rfl : j = n := by omega
      go_wp2
      go_ret
      exact ⟨rfl, hbel⟩
end Go.Proofs.Ytncjagdnebpaaaa.Row

/- How many samples there are in rows. -/
namespace Go.Proofs.Ytncjagdnebpaaaa.Row
open Go.RowKit Rw
set_option linter.unusedVariables false
attribute [local go_sem ↓] Go.wp_at_zero Go.wp_at_succ
def cntS (zs : List E) : Nat := (zs.map fun x => x.2.length).sum
theorem cntS_cons (x : E) (zs : List E) : cntS (x :: zs) = x.2.length + cntS zs := by simp [cntS]
theorem cntS_snoc (zs : List E) (k : Nat) (h : k < zs.length) : cntS (zs.take (k + 1)) = cntS (zs.take k) + (at' zs k).2.length := by
  unfold cntS
  rw [List.take_succ_eq_append_getElem h, List.map_append, List.sum_append, at_get zs k h]
  simp
theorem cntS_le {zs : List E} (h : ∀ x ∈ zs, x.2.length ≤ 1000) : cntS zs ≤ zs.length * 1000 := by
  induction zs with
  | nil => simp [cntS]
  | cons x zs ih =>
    have h1 := h x (List.mem_cons_self ..)
    have h2 := ih (fun y hy => h y (List.mem_cons_of_mem _ hy))
    rw [cntS_cons, List.length_cons, Nat.succ_mul]
    omega
set_option maxRecDepth 100000 in
set_option maxHeartbeats 4000000 in
theorem al_count {v : Value} {zs : List E} {w : World} (h : Is w v zs) (hl : zs.length ≤ 1000) (hx : ∀ x ∈ zs, x.2.length ≤ 1000) : Calls Try.prog 11 #[v] w fun e w' => e = .returned (.int .i64 (cntS zs : Int)) ∧ Below w.heap.size w w' := by
  obtain ⟨cs, hcs, hL, hE⟩ := h
  have HE := hide hE
  have HX := hide hx
  obtain ⟨-, a, cap, rfl, hc, hm, -, hr⟩ := hL
  unfold maxLen at hm
  obtain ⟨n, hn⟩ : ∃ n, n = zs.length := ⟨_, rfl⟩
  rw [← hn] at hc hr hcs hl ⊢
  have HN := hide hn
  have HC := hide hcs
  clear hn hE hcs hx
  go_enter Try.func11, Try.ntmps11
  go_wp2
  go_loopw [3, 4] (fun cv i wr => ∃ (j c : Nat), j ≤ n ∧ i = .int .i64 j ∧ cv = .int .i64 (c : Int) ∧ Hid (c = cntS (zs.take j)) ∧ Below w.heap.size w wr) (fun _ i _ => n - (intOf i).toNat)
  case atStart => exact ⟨0, 0, Nat.zero_le _, rfl, rfl, rfl, Below.refl _ _⟩
  case round =>
    obtain ⟨j, c, hj, rfl, rfl, HCt, hbel⟩ := hrel
    have hsz := hbel.size
    by_cases hlt : j < n
    · obtain ⟨b, off, rfl, hl', hcells⟩ := hr (by omega)
      have hjz : j < zs.length := by rw [← unhide HN]; exact hlt
      have fa := flat_at cs j (by have := unhide HC; omega)
      have hE1 := (unhide HE j hjz).2
      have hc1 : wr.cell? ⟨b, off + j * 2 + 1, none⟩ = some (cat cs j).2 := (hbel.cell (p := ⟨b, _, none⟩) hl').trans (hcells (j * 2 + 1) _ fa.2)
      obtain ⟨-, p1, q1, f1, -⟩ := hE1
      rw [f1] at hc1
      have hlen := unhide HX _ (at_mem zs j hjz)
      have hsn := cntS_snoc zs j hjz
      have hct := unhide HCt
      have hb := cntS_le (zs := zs.take j) (fun x hx => unhide HX x (List.mem_of_mem_take hx))
      rw [List.length_take] at hb
      have hcb : c ≤ 1000000 := by
        have h1 : min j zs.length ≤ 1000 := by omega
        have h2 : min j zs.length * 1000 ≤ 1000 * 1000 := Nat.mul_le_mul_right _ h1
        omega
      obtain ⟨m, hm'⟩ : ∃ m, m = (at' zs j).2.length := ⟨_, rfl⟩
      rw [← hm'] at hc1 hlen hsn
      have HS := hide (show c + m = cntS (zs.take (j + 1)) by omega)
      have hk0 : (0 : Int) ≤ (j : Int) := Int.natCast_nonneg _
      have hk1 : (j : Int) < (n : Int) := by omega
      clear fa f1 hsn hct hb hm'
      go_wp2_with fail
      go_roundw
      case rel => exact ⟨j + 1, c + m, by omega, by go_num, by go_num, HS, hbel⟩
      case measure => simp [intOf]; omega
    · obtain rfl : j = n := by omega
      have HS := hide (show c = cntS zs by have := unhide HCt; rwa [List.take_of_length_le (by have := unhide HN; omega)] at this)
      clear HCt
      go_wp2
      go_ret
      exact ⟨ret_int (congrArg (fun n : Nat => (n : Int)) (unhide HS)), hbel⟩
end Go.Proofs.Ytncjagdnebpaaaa.Row

/- What is dropped, and what is left, are all, and nothing is in both. -/
namespace Go.Proofs.Ytncjagdnebpaaaa.Row
open Go.RowKit Rw
set_option linter.unusedVariables false
/-- rows that are put together of two parts of each -/
theorem insAll_ahead : ∀ (b : List E) {x : E} {M : List E}, (∀ y ∈ b, Lab.cmpL x.1 y.1 < 0) → insAll (x :: M) b = (insAll M b).map (x :: ·)
  | [], x, M, _ => rfl
  | y :: b, x, M, h => by
    rw [insAll, insAll, ins_lt M (h y (List.mem_cons_self ..))]
    cases e : ins M y with
    | none => rfl
    | some R => simp only [Option.map_some, Option.bind_some]; exact insAll_ahead b (fun z hz => h z (List.mem_cons_of_mem _ hz))
theorem ins_front {M : List E} {x : E} (h : ∀ y ∈ M, Lab.cmpL x.1 y.1 < 0) : ins M x = some (x :: M) := by
  cases M with
  | nil => rfl
  | cons y M => exact ins_gt M (by have := h y (List.mem_cons_self ..); have := Lab.ordL.anti x.1 y.1; omega)
theorem insAll_parts (d a : E → List Sam.E) : ∀ {L : List E}, Fine L → (∀ x ∈ L, (d x = [] → a x = x.2) ∧ (a x = [] → d x = x.2) ∧ SampMath.join (d x) (a x) = (x.2, true)) → insAll (outL d L) (outL a L) = some L
  | [], _, _ => rfl
  | x :: L, hL, h => by
    have ih := insAll_parts d a (fine_tail hL) (fun y hy => h y (List.mem_cons_of_mem _ hy))
    obtain ⟨h1, h2, h3⟩ := h x (List.mem_cons_self ..)
    have hne := (hL.sam x (List.mem_cons_self ..)).2
    have up := (List.pairwise_cons.1 hL.up).1
    have upD : ∀ (g : E → List Sam.E) (z : List Sam.E), ∀ y ∈ outL g L, Lab.cmpL (x.1, z).1 y.1 < 0 := fun g z y hy => by
      obtain ⟨u, hu, e, -⟩ := outL_in hy
      rw [e]; exact up u hu
    rw [outL_cons, outL_cons]
    by_cases ha : a x = []
    · have hd := h2 ha
      rw [if_pos ha, if_neg (by rw [hd]; exact hne), hd]
      show insAll ((x.1, x.2) :: outL d L) ([] ++ outL a L) = _
      rw [List.nil_append, insAll_ahead _ (upD a x.2), ih]; rfl
    · by_cases hd : d x = []
      · have ha' := h1 hd
        rw [if_pos hd, if_neg ha, ha', List.nil_append]
        show insAll (outL d L) ((x.1, x.2) :: outL a L) = _
        rw [insAll, ins_front (upD d x.2), Option.bind_some, insAll_ahead _ (upD a x.2), ih]; rfl
      · rw [if_neg hd, if_neg ha]
        show insAll ((x.1, d x) :: outL d L) ((x.1, a x) :: outL a L) = _
        have hj : jn (x.1, d x) (a x) = some (x.1, x.2) := by unfold jn; rw [h3]; rfl
        rw [insAll, ins_eq (y := (x.1, d x)) (x := (x.1, a x)) _ (Lab.ordL.self x.1)]
        simp only [hj, Option.map_some, Option.bind_some]
        rw [insAll_ahead _ (upD a x.2), ih]; rfl
theorem cnt_outL (g : E → List Sam.E) : ∀ L : List E, cntS (outL g L) = (L.map fun x => (g x).length).sum
  | [] => rfl
  | x :: L => by
    rw [outL_cons]
    split
    · rename_i h
      rw [List.nil_append, cnt_outL g L, List.map_cons, List.sum_cons, h]; simp
    · rw [List.singleton_append, cntS_cons, cnt_outL g L, List.map_cons, List.sum_cons]
theorem cnt_parts (d a : E → List Sam.E) : ∀ {L : List E}, (∀ x ∈ L, (d x).length + (a x).length = x.2.length) → cntS (outL d L) + cntS (outL a L) = cntS L
  | [], _ => rfl
  | x :: L, h => by
    have ih := cnt_parts d a (fun y hy => h y (List.mem_cons_of_mem _ hy))
    rw [cnt_outL, cnt_outL] at ih ⊢
    rw [List.map_cons, List.map_cons, List.sum_cons, List.sum_cons, cntS_cons]
    have := h x (List.mem_cons_self ..)
    omega
/-- both sides and what is between -/
theorem in_sides {xs : List Sam.E} (h : SampMath.ok xs = true) (f t : Int) {z : Sam.E} (hz : z ∈ xs) : (Samp.inT 0 f z || Samp.inT t 10000 z) = !Samp.inT f t z := by
  have := ((Samp.ok_iff xs).1 h).1 z hz
  rw [SampMath.inR_iff] at this
  unfold Samp.inT
  rw [Bool.eq_iff_iff]
  simp only [Bool.or_eq_true, Bool.and_eq_true, decide_eq_true_eq, Bool.not_eq_true', Bool.and_eq_false_iff, decide_eq_false_iff_not]
  omega
theorem sides_not {xs : List Sam.E} (h : SampMath.ok xs = true) (f t : Int) : Samp.sides xs f t = xs.filter fun z => !Samp.inT f t z := by
  unfold Samp.sides
  exact List.filter_congr fun z hz => in_sides h f t hz
theorem filter_len (xs : List Sam.E) (p : Sam.E → Bool) : (xs.filter fun z => !p z).length + (xs.filter p).length = xs.length := by
  induction xs with
  | nil => rfl
  | cons x xs ih => cases e : p x <;> simp [e] <;> omega
theorem parts_of (ms : List Mat.E) (f t : Int) {x : E} (h : SampMath.ok x.2 = true) (hne : x.2 ≠ []) :
    ((dropG ms f t x = [] → askG ms f t x = x.2) ∧ (askG ms f t x = [] → dropG ms f t x = x.2) ∧ SampMath.join (dropG ms f t x) (askG ms f t x) = (x.2, true)) ∧ (dropG ms f t x).length + (askG ms f t x).length = x.2.length := by
  unfold dropG askG
  cases hm : Mat.mlet ms x.1
  · simp only [Bool.false_eq_true, if_false]
    exact ⟨⟨fun e => absurd e hne, fun _ => (by first | rfl | trivial), by rw [SampMath.join_comm]; exact RSet.join_first h⟩, by simp⟩
  · simp only [if_true]
    rw [sides_not h]
    unfold Samp.cutL
    have hl := filter_len x.2 (Samp.inT f t)
    refine ⟨⟨fun e => ?_, fun e => ?_, ?_⟩, hl⟩
    · rw [e] at hl
      exact List.filter_eq_self.2 (fun z hz => by
        have : z ∉ x.2.filter fun z => !Samp.inT f t z := by rw [e]; simp
        rw [List.mem_filter] at this
        cases hi : Samp.inT f t z
        · exact absurd ⟨hz, by rw [hi]; rfl⟩ this
        · rfl)
    · exact List.filter_eq_self.2 (fun z hz => by
        have : z ∉ x.2.filter (Samp.inT f t) := by rw [e]; simp
        rw [List.mem_filter] at this
        cases hi : Samp.inT f t z
        · rfl
        · exact absurd ⟨hz, hi⟩ this)
    · have hmg := Samp.merge_filter x.2 (fun z => !Samp.inT f t z) (Samp.inT f t) ((Samp.ok_iff _).1 h).2
      have hall : (x.2.filter fun z => (!Samp.inT f t z) || Samp.inT f t z) = x.2 := List.filter_eq_self.2 (fun z _ => by cases Samp.inT f t z <;> rfl)
      rw [hall] at hmg
      exact SampMath.join_some (SampMath.ok_sub h List.filter_sublist) (SampMath.ok_sub h List.filter_sublist) hmg
theorem drop_is {ms : List Mat.E} (f t : Int) {L : List E} (h : ok L = true) (hm : Mat.ok ms = true) : drop ms f t L = outL (dropG ms f t) L := by unfold drop; rw [if_pos ⟨h, hm⟩]
theorem drop_ok {ms : List Mat.E} (f t : Int) {L : List E} (h : ok L = true) (hm : Mat.ok ms = true) : ok (drop ms f t L) = true := by
  rw [drop_is f t h hm]
  refine outL_okay h fun x hx => ?_
  have hx' := (fine_ok h).sam x hx
  have hb := row_bounds h hx
  unfold dropG
  split
  · rw [sides_not hx'.1]; exact ⟨SampMath.ok_sub hx'.1 List.filter_sublist, Nat.le_trans (List.length_filter_le _ _) hb⟩
  · exact ⟨hx'.1, hb⟩
theorem drop_join {ms : List Mat.E} (f t : Int) {L : List E} (h : ok L = true) (hm : Mat.ok ms = true) : join (drop ms f t L) (ask ms f t L) = (L, true) := by
  refine join_yes (drop_ok f t h hm) (ask_ok f t h) ?_ h
  rw [drop_is f t h hm, show ask ms f t L = outL (askG ms f t) L from if_pos h]
  exact insAll_parts _ _ (fine_ok h) (fun x hx => (parts_of ms f t ((fine_ok h).sam x hx).1 ((fine_ok h).sam x hx).2).1)
theorem drop_cnt2 {ms : List Mat.E} (f t : Int) {L : List E} (h : ok L = true) (hm : Mat.ok ms = true) : cntS (drop ms f t L) + cntS (ask ms f t L) = cntS L := by
  rw [drop_is f t h hm, show ask ms f t L = outL (askG ms f t) L from if_pos h]
  exact cnt_parts _ _ (fun x hx => (parts_of ms f t ((fine_ok h).sam x hx).1 ((fine_ok h).sam x hx).2).2)
theorem drop_in {ms : List Mat.E} {f t : Int} {L : List E} (h : ok L = true) (hm : Mat.ok ms = true) {y : E} (hy : y ∈ drop ms f t L) : y.2 ≠ [] ∧ (Mat.mlet ms y.1 = true → ∀ z ∈ y.2, Samp.inT f t z = false) := by
  rw [drop_is f t h hm] at hy
  obtain ⟨x, hx, rfl, hne⟩ := outL_in hy
  refine ⟨hne, fun hl z hz => ?_⟩
  have e : dropG ms f t x = Samp.sides x.2 f t := by unfold dropG; rw [if_pos hl]
  have hz' : z ∈ dropG ms f t x := hz
  rw [e, sides_not ((fine_ok h).sam x hx).1] at hz'
  have := (List.mem_filter.1 hz').2
  simpa using this
theorem drop_asked {ms : List Mat.E} (f t : Int) {L : List E} (h : ok L = true) (hm : Mat.ok ms = true) : ask ms f t (drop ms f t L) = [] := by
  have e : ask ms f t (drop ms f t L) = outL (askG ms f t) (drop ms f t L) := if_pos (drop_ok f t h hm)
  rw [e]
  have : ∀ x ∈ drop ms f t L, askG ms f t x = [] := fun x hx => by
    unfold askG
    split
    · rename_i hl
      unfold Samp.cutL
      rw [List.filter_eq_nil_iff]
      intro z hz
      rw [(drop_in h hm hx).2 hl z hz]; simp
    · rfl
  generalize drop ms f t L = M at this
  clear e
  induction M with
  | nil => rfl
  | cons x M ih => rw [outL_cons, if_pos (this x (List.mem_cons_self ..)), List.nil_append]; exact ih (fun y hy => this y (List.mem_cons_of_mem _ hy))
theorem drop_drop {ms : List Mat.E} (f t : Int) {L : List E} (h : ok L = true) (hm : Mat.ok ms = true) : drop ms f t (drop ms f t L) = drop ms f t L := by
  have hd := drop_ok f t h hm
  have e : drop ms f t (drop ms f t L) = outL (dropG ms f t) (drop ms f t L) := drop_is f t hd hm
  rw [e]
  refine outL_id fun x hx => ?_
  have hi := drop_in h hm hx
  refine ⟨?_, hi.1⟩
  unfold dropG
  split
  · rename_i hl
    rw [sides_not ((fine_ok hd).sam x hx).1]
    exact List.filter_eq_self.2 (fun z hz => by rw [hi.2 hl z hz]; rfl)
  · rfl
end Go.Proofs.Ytncjagdnebpaaaa.Row
