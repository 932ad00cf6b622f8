/- My own texts of one claim, laid together by program: CutMath, MatLaw. -/
import Derived.Test.YtomncodkbcngmaaG9c62ad2676
import Derived.Test.YtomncodkbcngmaaG2fd04f338f
import Derived.Test.YtomncodkbcngmaaGa22695bb04
import Derived.ChangeArms
/- What is cut and joined again is the whole. No condition. -/
namespace Go.Proofs.Ytomncodkbcngmaa.Samp
open SampMath
set_option linter.unusedVariables false
theorem ok_iff (zs : List S) : ok zs = true ↔ (∀ z ∈ zs, inR z.1 z.2 = true) ∧ zs.Pairwise (fun a b => a.1 < b.1) := by
  constructor
  · intro h
    constructor
    · intro z hz
      obtain ⟨i, hi, rfl⟩ := List.getElem_of_mem hz
      have h1 := ok_at h hi
      have e : at' zs i = zs[i] := by simp [at', List.getD, hi]
      unfold stepOk at h1
      rw [e] at h1
      simp only [Bool.and_eq_true] at h1
      exact h1.1
    · rw [List.pairwise_iff_getElem]
      intro i j hi hj hij
      have := ok_lt h hij hj
      have e1 : at' zs i = zs[i] := by simp [at', List.getD, hi]
      have e2 : at' zs j = zs[j] := by simp [at', List.getD, hj]
      rw [e1, e2] at this
      exact this
  · rintro ⟨h1, h2⟩
    unfold ok okTo
    rw [List.all_eq_true]
    intro i hi
    have hi' : i < zs.length := by simpa using hi
    have e : at' zs i = zs[i] := by simp [at', List.getD, hi']
    have hr := h1 zs[i] (List.getElem_mem hi')
    rcases Nat.eq_zero_or_pos i with h0 | h0
    · subst h0
      exact stepOk_first (by rw [e]; exact hr)
    · refine stepOk_next (by rw [e]; exact hr) ?_
      have hp : i - 1 < zs.length := by omega
      have e1 : at' zs (i - 1) = zs[i - 1] := by simp [at', List.getD, hp]
      rw [e, e1]
      exact (List.pairwise_iff_getElem.1 h2) (i - 1) i hp hi' (by omega)
theorem ok_filter {zs : List S} (h : ok zs = true) (f : S → Bool) : ok (zs.filter f) = true := by
  rw [ok_iff] at h ⊢
  exact ⟨fun z hz => h.1 z ((List.mem_filter.1 hz).1), h.2.filter _⟩
theorem merge_apart : ∀ (a b : List S), (∀ x ∈ a, ∀ y ∈ b, x.1 < y.1) → merge a b = some (a ++ b)
  | [], b, _ => by rw [merge_nil]; rfl
  | x :: a, [], _ => by rw [merge_nil_right, List.append_nil]
  | x :: a, y :: b, h => by
    have hlt : x.1 < y.1 := h x (by simp) y (by simp)
    rw [merge, if_pos hlt, merge_apart a (y :: b) (fun u hu v hv => h u (by simp [hu]) v hv)]
    rfl
theorem filter_parts : ∀ (zs : List S) (f : Int), zs.Pairwise (fun a b => a.1 < b.1) → (zs.filter fun z => decide (z.1 < f)) ++ (zs.filter fun z => decide (f ≤ z.1)) = zs
  | [], _, _ => rfl
  | z :: zs, f, h => by
    rw [List.pairwise_cons] at h
    by_cases hz : z.1 < f
    · rw [List.filter_cons_of_pos (by simpa using hz), List.filter_cons_of_neg (by simp; omega), List.cons_append, filter_parts zs f h.2]
    · rw [List.filter_cons_of_neg (by simpa using hz), List.filter_cons_of_pos (by simp; omega)]
      have e1 : zs.filter (fun z => decide (z.1 < f)) = [] := by
        rw [List.filter_eq_nil_iff]
        intro y hy
        have := h.1 y hy
        simp
        omega
      have e2 : zs.filter (fun z => decide (f ≤ z.1)) = zs := by
        rw [List.filter_eq_self]
        intro y hy
        have := h.1 y hy
        simp
        omega
      rw [e1, e2]
      rfl
/-- both sides of a cut together are all -/
theorem join_sides {zs : List S} (h : ok zs = true) (f : Int) : join (cut zs 0 f) (cut zs f 10000) = (zs, true) := by
  have h' := (ok_iff zs).1 h
  have ea : cut zs 0 f = zs.filter fun z => decide (z.1 < f) := by
    unfold cut cutL
    rw [if_pos h]
    refine List.filter_congr fun z hz => ?_
    have := inR_iff.1 (h'.1 z hz)
    unfold inT
    rw [decide_eq_true this.1, Bool.true_and]
  have eb : cut zs f 10000 = zs.filter fun z => decide (f ≤ z.1) := by
    unfold cut cutL
    rw [if_pos h]
    refine List.filter_congr fun z hz => ?_
    have := inR_iff.1 (h'.1 z hz)
    unfold inT
    rw [decide_eq_true (show z.1 < 10000 by omega), Bool.and_true]
  rw [ea, eb]
  refine join_some (ok_filter h _) (ok_filter h _) ?_
  rw [merge_apart _ _ (fun x hx y hy => by
    have h1 := (List.mem_filter.1 hx).2
    have h2 := (List.mem_filter.1 hy).2
    simp at h1 h2
    omega), filter_parts zs f h'.2]
theorem cut_cut {zs : List S} (h : ok zs = true) (f t : Int) : cut (cut zs f t) f t = cut zs f t := by
  have e : cut zs f t = cutL zs f t := by unfold cut; rw [if_pos h]
  have h2 : ok (cutL zs f t) = true := ok_filter h _
  rw [e]
  unfold cut
  rw [if_pos h2]
  unfold cutL
  rw [List.filter_filter]
  simp
theorem cut_in {zs : List S} (h : ok zs = true) (f t : Int) (i : Nat) (hi : i < (cut zs f t).length) : f ≤ (at' (cut zs f t) i).1 ∧ (at' (cut zs f t) i).1 < t := by
  have e : at' (cut zs f t) i = (cut zs f t)[i] := by simp [at', List.getD, hi]
  have hm := List.getElem_mem hi
  rw [e]
  have e2 : cut zs f t = cutL zs f t := by unfold cut; rw [if_pos h]
  generalize (cut zs f t)[i] = y at hm
  rw [e2] at hm
  have := (List.mem_filter.1 hm).2
  unfold inT at this
  simpa using this
end Go.Proofs.Ytomncodkbcngmaa.Samp

/- What the laws' own helpers do with slices of impl.Match: they are copied, held against each other, and counted. -/
namespace Go.Proofs.Ytomncodkbcngmaa.Mat
open Go.RowKit Rw
set_option linter.unusedVariables false
attribute [local go_sem ↓] Go.wp_at_zero Go.wp_at_succ
abbrev E := Int × ByteArray × ByteArray
def fl (x : E) : List Value := [.int .i64 (x.1), .string (x.2.1), .string (x.2.2)]
theorem flk (x : E) : (fl x).length = 3 := rfl
def at' (zs : List E) (i : Nat) : E := zs.getD i default
abbrev flat (zs : List E) : List Value := flatOf fl zs
abbrev Is (w : World) (v : Value) (zs : List E) : Prop := Lies w v zs.length 3 (flat zs)
theorem flat_length (zs : List E) : (flat zs).length = zs.length * 3 := flatOf_length flk zs
theorem flat_oneCell (zs : List E) : ∀ u ∈ flat zs, u.oneCell' = true := by
  intro u hu
  obtain ⟨x, _, hx⟩ := List.mem_flatMap.1 hu
  simp only [fl, List.mem_cons, List.not_mem_nil, or_false] at hx
  rcases hx with rfl | rfl | rfl <;> rfl
theorem at_get (zs : List E) (i : Nat) (h : i < zs.length) : at' zs i = zs[i] := by simp [at', List.getD, h]
theorem at_snoc (zs : List E) (i : Nat) (h : i < zs.length) : zs.take (i + 1) = zs.take i ++ [at' zs i] := by rw [List.take_succ_eq_append_getElem h, at_get zs i h]
theorem flat_at (zs : List E) (i : Nat) (h : i < zs.length) : (flat zs)[i * 3]? = some (.int .i64 ((at' zs i).1)) ∧ (flat zs)[i * 3 + 1]? = some (.string ((at' zs i).2.1)) ∧ (flat zs)[i * 3 + 2]? = some (.string ((at' zs i).2.2)) := by
  rw [at_get zs i h]
  exact ⟨flatOf_get flk zs i 0 h (by omega), flatOf_get flk zs i 1 h (by omega), flatOf_get flk zs i 2 h (by omega)⟩
theorem is_of_own {w : World} {base : Nat} {v : Value} {zs : List E} (h : w.ownsRow base 69 3 v zs.length (flat zs)) : Is w v zs := lies_of_own h
theorem info_e : (Try.prog.info? 69).map (fun i => (i.zero, i.size, i.bytes)) = some (some (.agg #[.int .i64 0, .string ByteArray.empty, .string ByteArray.empty]), 3, 40) := by kernel_rfl
def good (x : E) : Prop := (Lit.int .i64 (x.1)).wf = true ∧ (x.2.1).size ≤ maxLen ∧ (x.2.2).size ≤ maxLen
set_option maxRecDepth 100000 in
theorem open_arg {H : Type} {enc : TypeId × Value → H} {W : World} {a : Option Addr} {len cap : Nat} {d : DataW H} {p : List MemPlace}
    (h : DataW.Trod enc Try.prog W 0 (fun _ => true) true 23 (.slice a len cap) d p) : ∃ zs : List E, zs.length = len ∧ len ≤ maxLen ∧ Lies W (.slice a len cap) len 3 (flat zs) ∧ ∀ x ∈ zs, good x := by
  have ck : Try.prog.cellsOf 62 = 3 := by kernel_rfl
  refine open_flat (e := 62) (good := good) flk Try.underlying23 ck ?_ (by omega) h
  intro n cs y hl ht
  obtain ⟨xs, m, -, -, -, hxl, hf⟩ := DataW.trod_struct Try.underlying62 ht
  match cs, hl, xs, hxl with
  | [c0, c1, c2], _, [y0, y1, y2], _ =>
    have g0 := hf 0 _ rfl
    have g1 := hf 1 _ rfl
    have g2 := hf 2 _ rfl
    have cei : Try.prog.cellsOf 3 = 1 := by kernel_rfl
    have ces : Try.prog.cellsOf 9 = 1 := by kernel_rfl
    simp [cei, ces] at g0 g1 g2
    obtain ⟨s0, e0, -, w0⟩ := DataW.trod_int Try.underlying3 g0
    obtain ⟨s1, e1, -, w1⟩ := DataW.trod_string Try.underlying9 g1
    obtain ⟨s2, e2, -, w2⟩ := DataW.trod_string Try.underlying9 g2
    simp only [List.cons.injEq, and_true] at e0 e1 e2
    exact ⟨(s0, s1, s2), by rw [e0, e1, e2]; rfl, w0, w1, w2⟩
theorem to_one (A : Int) (B : ByteArray) (C : ByteArray) (w : World) : Calls Try.prog 41 #[.agg #[.int .i64 A, .string B, .string C]] w fun e w' => e = .returned (.agg #[.int .i64 A, .string B, .string C]) ∧ Below w.heap.size w w' := by
  go_enter Try.func41, Try.ntmps41
  go_wp2
  refine bodyPost_ret (v := .agg #[.int .i64 A, .string B, .string C]) (by simp [results, Try.results41, go_sem]) rfl ⟨rfl, ?_⟩
  exact (((Below.refl _ _).alloc (Nat.le_refl _) _).alloc (by simp) _).alloc (by simp; omega) _
theorem set_e (A : List Value) (u0 u1 u2 x0 x1 x2 : Value) (L : List Value) (k : Nat) (h : A.length = k) : ((((A ++ u0 :: u1 :: u2 :: L).set k x0).set (k + 1) x1).set (k + 2) x2) = A ++ [x0, x1, x2] ++ L := by
  subst h
  simp [List.set_append_right]
theorem split_e (r : List Value) (n : Nat) (h : r.length = (n + 1) * 3) : ∃ u0 u1 u2 L, r = u0 :: u1 :: u2 :: L ∧ L.length = n * 3 := by
  match r, h with
  | u0 :: u1 :: u2 :: L, h => exact ⟨u0, u1, u2, L, rfl, by simp only [List.length_cons] at h; omega⟩
  | [], h => simp at h <;> omega
  | [_], h => simp at h <;> omega
  | [_, _], h => simp at h <;> omega
set_option maxRecDepth 100000 in
set_option maxHeartbeats 2000000 in
theorem to_any {w : World} {v : Value} {zs : List E} (h : Is w v zs) (hlen : zs.length ≤ 4194304) :
    Calls Try.prog 12 #[v] w fun e w' => e = .returned (.slice (some ⟨w.heap.size, 0, none⟩) zs.length zs.length) ∧
      w'.ownsRow w.heap.size 69 3 (.slice (some ⟨w.heap.size, 0, none⟩) zs.length zs.length) zs.length (flat zs) ∧ Below w.heap.size w w' := by
  obtain ⟨i0, hi, hz0, hz1, hz2⟩ := info_parts info_e
  obtain ⟨-, a, cap, rfl, hc, hm, -, hr⟩ := h
  unfold maxLen at hm
  obtain ⟨n, hn⟩ : ∃ n, n = zs.length := ⟨_, rfl⟩
  rw [← hn] at hc hr hlen ⊢
  have HN := hide hn
  clear hn
  go_enter Try.func12, Try.ntmps12
  go_wp2_with (at_make; refine wpList_make_full _ rfl _ _ _ rfl w.heap.size 69 i0 (.agg #[.int .i64 0, .string ByteArray.empty, .string ByteArray.empty]) 3 Try.underlying29 hi hz0 hz1 .i64 .i64 _ _ n rfl rfl rfl rfl (by rw [hz2]; omega) (by unfold maxLen; omega) (Nat.le_refl _) ?_; intro w1 hown1 hgrow1)
  go_loopw [4] (fun i wr => ∃ (j : Nat) (r : List Value), j ≤ n ∧ i = .int .i64 j ∧ r.length = (n - j) * 3 ∧ wr.ownsRow w.heap.size 69 3 (.slice (some ⟨w.heap.size, 0, none⟩) n n) n (flat (zs.take j) ++ r) ∧ Below w.heap.size w wr) (fun i _ => n - (intOf i).toNat)
  case atStart =>
    refine ⟨0, _, Nat.zero_le _, rfl, ?_, hown1, below_grown (Below.refl _ _) (Nat.le_refl _) hgrow1 (by simp)⟩
    have := hown1.1
    simpa using this
  case round =>
    obtain ⟨j, r, hj, rfl, hrl, hown, hbel⟩ := hrel
    have hsz := own_lt hown
    by_cases hlt : j < n
    · obtain ⟨u0, u1, u2, L, rfl, hB⟩ := split_e r (n - j - 1) (by rw [hrl]; omega)
      obtain ⟨b, off, rfl, hl, hcells⟩ := hr (by omega)
      have fa := flat_at zs j (by have := unhide HN; omega)
      have hc0 : wr.cell? ⟨b, off + j * 3, none⟩ = some (.int .i64 ((at' zs j).1)) := (hbel.cell (p := ⟨b, _, none⟩) hl).trans (hcells (j * 3) _ fa.1)
      have hc1 : wr.cell? ⟨b, off + j * 3 + 1, none⟩ = some (.string ((at' zs j).2.1)) := (hbel.cell (p := ⟨b, _, none⟩) hl).trans (hcells (j * 3 + 1) _ fa.2.1)
      have hc2 : wr.cell? ⟨b, off + j * 3 + 2, none⟩ = some (.string ((at' zs j).2.2)) := (hbel.cell (p := ⟨b, _, none⟩) hl).trans (hcells (j * 3 + 2) _ fa.2.2)
      have fln : (flat (zs.take j)).length = j * 3 := by rw [flat_length]; simp; have := unhide HN; omega
      have hd0 : wr.cell? ⟨w.heap.size, j * 3, none⟩ = some u0 := by rw [hown.cellAt (j * 3) (by omega)]; simp [fln]
      have hf0 := hown.frozenAt (j * 3)
      have hd1 : wr.cell? ⟨w.heap.size, j * 3 + 1, none⟩ = some u1 := by rw [hown.cellAt (j * 3 + 1) (by omega)]; simp [fln]
      have hf1 := hown.frozenAt (j * 3 + 1)
      have hd2 : wr.cell? ⟨w.heap.size, j * 3 + 2, none⟩ = some u2 := by rw [hown.cellAt (j * 3 + 2) (by omega)]; simp [fln]
      have hf2 := hown.frozenAt (j * 3 + 2)
      have hk0 : (0 : Int) ≤ (j : Int) := Int.natCast_nonneg _
      have hk1 : (j : Int) < (n : Int) := by omega
      have HS := hide (at_snoc zs j (by have := unhide HN; omega))
      obtain ⟨A, B, C, hX⟩ : ∃ A B C, (A, B, C) = at' zs j := ⟨_, _, _, rfl⟩
      rw [← hX] at hc0 hc1 hc2
      have HX := hide hX
      have HF := hide fln
      clear hX fln fa
      go_wp2_with (go_at_call 41; refine (to_one _ _ _ _).mono ?_; rintro e w2 ⟨rfl, hb2⟩; obtain ⟨bc, bf⟩ := bcell hb2)
      have o0 := ((own_below hown hb2).stored (j * 3) (.int .i64 A)).1
      have o1 := (o0.stored (j * 3 + 1) (.string B)).1
      have o2 := (o1.stored (j * 3 + 2) (.string C)).1
      rw [set_e _ _ _ _ _ _ _ _ _ (unhide HF)] at o2
      have e2 : flat (zs.take (j + 1)) = flat (zs.take j) ++ [.int .i64 A, .string B, .string C] := by rw [unhide HS]; unfold flat; rw [flatOf_append, flatOf_one, ← unhide HX]; rfl
      rw [← e2] at o2
      have R := hide ((((hbel.trans (hb2.mono (by omega))).setCell (p := ⟨w.heap.size, j * 3, none⟩) (Nat.le_refl _) (.int .i64 A)).setCell (p := ⟨w.heap.size, j * 3 + 1, none⟩) (Nat.le_refl _) (.string B)).setCell (p := ⟨w.heap.size, j * 3 + 2, none⟩) (Nat.le_refl _) (.string C))
      have O := hide o2
      clear o0 o1 o2 e2 hown bc bf hd0 hf0 hd1 hf1 hd2 hf2
      go_wp2_with fail
      go_roundw
      case rel => exact ⟨j + 1, L, by omega, by go_num, by omega, unhide O, unhide R⟩
      case measure => simp [intOf]; omega
    · obtain rfl : j = n := by omega
      obtain rfl : r = [] := List.eq_nil_of_length_eq_zero (by rw [hrl]; omega)
      rw [List.append_nil, List.take_of_length_le (by have := unhide HN; omega)] at hown
      go_wp2
      go_ret
      exact ⟨rfl, hown, hbel⟩
theorem eq_one (A : Int) (B : ByteArray) (C : ByteArray) (w : World) : Calls Try.prog 49 #[.agg #[.int .i64 A, .string B, .string C], .agg #[.int .i64 A, .string B, .string C]] w fun e w' => e = .returned (.bool true) ∧ Below w.heap.size w w' := by
  go_enter Try.func49, Try.ntmps49
  go_wp2
  go_ret
  exact ⟨rfl, ((Below.refl _ _).alloc (Nat.le_refl _) _).alloc (by simp) _⟩
set_option maxRecDepth 100000 in
set_option maxHeartbeats 2000000 in
theorem eq_any {v u : Value} {zs : List E} {w : World} (h : Is w v zs) (h' : Is w u zs) : Calls Try.prog 15 #[v, u] w fun e w' => e = .returned (.bool true) ∧ Below w.heap.size w w' := by
  obtain ⟨-, a, cap, rfl, hc, hm, -, hr⟩ := h
  obtain ⟨-, a', cap', rfl, hc', hm', -, hr'⟩ := h'
  unfold maxLen at hm hm'
  obtain ⟨n, hn⟩ : ∃ n, n = zs.length := ⟨_, rfl⟩
  rw [← hn] at hc hr hc' hr' ⊢
  have HN := hide hn
  clear hn
  go_enter Try.func15, Try.ntmps15
  go_wp2
  go_loopw [5] (fun i wr => ∃ (j : Nat), j ≤ n ∧ i = .int .i64 j ∧ Below w.heap.size w wr) (fun i _ => n - (intOf i).toNat)
  case atStart => exact ⟨0, Nat.zero_le _, rfl, Below.refl _ _⟩
  case round =>
    obtain ⟨j, hj, rfl, hbel⟩ := hrel
    have hsz := hbel.size
    by_cases hlt : j < n
    · obtain ⟨b, off, rfl, hl, hcells⟩ := hr (by omega)
      obtain ⟨b', off', rfl, hl', hcells'⟩ := hr' (by omega)
      have fa := flat_at zs j (by have := unhide HN; omega)
      obtain ⟨A, B, C, hX⟩ : ∃ A B C, (A, B, C) = at' zs j := ⟨_, _, _, rfl⟩
      rw [← hX] at fa
      have hq0 : ∀ x : Cls wr.heap.size wr, x.val.cell? ⟨b, off + j * 3, none⟩ = some (.int .i64 A) := fun x => by rw [x.cell (by omega)]; exact (hbel.cell (p := ⟨b, _, none⟩) hl).trans (hcells (j * 3) _ fa.1)
      have hp0 : ∀ x : Cls wr.heap.size wr, x.val.cell? ⟨b', off' + j * 3, none⟩ = some (.int .i64 A) := fun x => by rw [x.cell (by omega)]; exact (hbel.cell (p := ⟨b', _, none⟩) hl').trans (hcells' (j * 3) _ fa.1)
      have hq1 : ∀ x : Cls wr.heap.size wr, x.val.cell? ⟨b, off + j * 3 + 1, none⟩ = some (.string B) := fun x => by rw [x.cell (by omega)]; exact (hbel.cell (p := ⟨b, _, none⟩) hl).trans (hcells (j * 3 + 1) _ fa.2.1)
      have hp1 : ∀ x : Cls wr.heap.size wr, x.val.cell? ⟨b', off' + j * 3 + 1, none⟩ = some (.string B) := fun x => by rw [x.cell (by omega)]; exact (hbel.cell (p := ⟨b', _, none⟩) hl').trans (hcells' (j * 3 + 1) _ fa.2.1)
      have hq2 : ∀ x : Cls wr.heap.size wr, x.val.cell? ⟨b, off + j * 3 + 2, none⟩ = some (.string C) := fun x => by rw [x.cell (by omega)]; exact (hbel.cell (p := ⟨b, _, none⟩) hl).trans (hcells (j * 3 + 2) _ fa.2.2)
      have hp2 : ∀ x : Cls wr.heap.size wr, x.val.cell? ⟨b', off' + j * 3 + 2, none⟩ = some (.string C) := fun x => by rw [x.cell (by omega)]; exact (hbel.cell (p := ⟨b', _, none⟩) hl').trans (hcells' (j * 3 + 2) _ fa.2.2)
      have hk0 : (0 : Int) ≤ (j : Int) := Int.natCast_nonneg _
      have hk1 : (j : Int) < (n : Int) := by omega
      clear hX fa
      have hne := cls_nonempty wr.heap.size wr
      go_wp2_with fail
      refine region_cls (by kernel_rfl) (by kernel_rfl) ?_
      repeat (go_big_quiet_step ((go_at_call 49; exact cls_call (Nat.le_refl _) (eq_one _ _ _ _))))
      refine wpQuiet_nil ?_
      rintro wq ⟨⟨_, hq⟩, rfl⟩
      go_wp2
      go_roundw
      case rel => exact ⟨j + 1, by omega, by go_num, hbel.trans (hq.mono hsz)⟩
      case measure => simp [intOf]; omega
    · go_wp2
      go_ret
      exact ⟨rfl, hbel⟩
def tot (zs : List E) : Nat := zs.foldl (fun a x => a + ((x.2.1).size + (x.2.2).size)) zs.length
def totTo (zs : List E) (j : Nat) : Nat := (zs.take j).foldl (fun a x => a + ((x.2.1).size + (x.2.2).size)) zs.length
theorem totTo_succ (zs : List E) (j : Nat) (h : j < zs.length) : totTo zs (j + 1) = totTo zs j + (((at' zs j).2.1).size + ((at' zs j).2.2).size) := by
  unfold totTo
  rw [at_snoc zs j h, List.foldl_append]
  rfl
theorem totTo_mono (zs : List E) : ∀ (i j : Nat), i ≤ j → j ≤ zs.length → totTo zs i ≤ totTo zs j
  | i, 0, h, _ => by obtain rfl : i = 0 := by omega
                     exact Nat.le_refl _
  | i, j + 1, h, hj => by
    by_cases e : i = j + 1
    · subst e; exact Nat.le_refl _
    · have h1 := totTo_mono zs i j (by omega) (by omega)
      rw [totTo_succ zs j (by omega)]
      omega
theorem totTo_all (zs : List E) : totTo zs zs.length = tot zs := by unfold totTo tot; rw [List.take_of_length_le (Nat.le_refl _)]
theorem tot_len (zs : List E) : zs.length ≤ tot zs := by have := totTo_mono zs 0 zs.length (Nat.zero_le _) (Nat.le_refl _); rw [totTo_all] at this; unfold totTo at this; simpa using this
theorem tot_at (zs : List E) (j : Nat) (h : j < zs.length) : ((at' zs j).2.1).size + ((at' zs j).2.2).size ≤ tot zs := by
  have h1 := totTo_succ zs j h
  have h2 := totTo_mono zs (j + 1) zs.length (by omega) (Nat.le_refl _)
  rw [totTo_all] at h2
  omega
theorem sz_one (A : Int) (B : ByteArray) (C : ByteArray) (left : Int) (w : World) (h0 : 0 ≤ left) (h1 : left ≤ 1048576) (g1 : B.size ≤ maxLen) (g2 : C.size ≤ maxLen) :
    Calls Try.prog 36 #[.agg #[.int .i64 A, .string B, .string C], .int .i64 left] w fun e w' => e = .returned (.int .i64 (if left - (B.size : Int) - (C.size : Int) < 0 then -1 else left - (B.size : Int) - (C.size : Int))) ∧ Below w.heap.size w w' := by
  unfold maxLen at g1 g2
  by_cases c1 : left - (B.size : Int) < 0
  · rw [if_pos (by omega)]
    go_enter Try.func36, Try.ntmps36
    go_wp2
    go_ret
    exact ⟨rfl, (Below.refl _ _).alloc (Nat.le_refl _) _⟩
  by_cases c2 : left - (B.size : Int) - (C.size : Int) < 0
  · rw [if_pos (by omega)]
    go_enter Try.func36, Try.ntmps36
    go_wp2
    go_ret
    exact ⟨rfl, (Below.refl _ _).alloc (Nat.le_refl _) _⟩
  rw [if_neg (by omega)]
  go_enter Try.func36, Try.ntmps36
  go_wp2
  go_ret
  exact ⟨rfl, (Below.refl _ _).alloc (Nat.le_refl _) _⟩
set_option maxRecDepth 100000 in
set_option maxHeartbeats 2000000 in
theorem sz_any {w : World} {v : Value} {zs : List E} (left : Int) (h : Is w v zs) (hlm : zs.length ≤ maxLen) (hg : ∀ x ∈ zs, good x) (h0 : 0 ≤ left) (h1 : left ≤ 1048576) :
    Calls Try.prog 9 #[v, .int .i64 left] w fun e w' => e = .returned (.int .i64 (if left - (tot zs : Int) < 0 then -1 else left - (tot zs : Int))) ∧ Below w.heap.size w w' := by
  obtain ⟨-, a, cap, rfl, hc, hm, -, hr⟩ := h
  have HT := hide (tot_len zs)
  unfold maxLen at hm hlm
  obtain ⟨n, hn⟩ : ∃ n, n = zs.length := ⟨_, rfl⟩
  rw [← hn] at hc hr hlm ⊢
  have HN := hide hn
  have HG := hide hg
  have T0 := hide (show totTo zs 0 = n by rw [hn]; rfl)
  clear hn hg
  by_cases hn0 : left - (n : Int) < 0
  · rw [if_pos (by have := unhide HT; have := unhide HN; omega)]
    go_enter Try.func9, Try.ntmps9
    go_wp2
    go_ret
    exact ⟨rfl, Below.refl _ _⟩
  obtain ⟨R, hR⟩ : ∃ R : Int, R = if left - (tot zs : Int) < 0 then -1 else left - (tot zs : Int) := ⟨_, rfl⟩
  rw [← hR]
  have HR := hide hR
  clear hR
  go_enter Try.func9, Try.ntmps9
  go_wp2
  go_loopw [1, 5] (fun lv i wr => ∃ (j : Nat), j ≤ n ∧ i = .int .i64 j ∧ lv = .int .i64 (left - (totTo zs j : Int)) ∧ 0 ≤ left - (totTo zs j : Int) ∧ Below w.heap.size w wr) (fun _ i _ => n - (intOf i).toNat)
  case atStart => exact ⟨0, Nat.zero_le _, rfl, by rw [unhide T0], by rw [unhide T0]; omega, Below.refl _ _⟩
  case round =>
    obtain ⟨j, hj, rfl, rfl, hleft, hbel⟩ := hrel
    have hsz := hbel.size
    by_cases hlt : j < n
    · obtain ⟨b, off, rfl, hl, hcells⟩ := hr (by omega)
      have fa := flat_at zs j (by have := unhide HN; omega)
      have HTS := totTo_succ zs j (by have := unhide HN; omega)
      have gd := unhide HG (at' zs j) (by rw [at_get zs j (by have := unhide HN; omega)]; exact List.getElem_mem _)
      have HLe := hide (show totTo zs (j + 1) ≤ tot zs by rw [← totTo_all]; exact totTo_mono zs _ _ (by have := unhide HN; omega) (Nat.le_refl _))
      obtain ⟨A, B, C, hX⟩ : ∃ A B C, (A, B, C) = at' zs j := ⟨_, _, _, rfl⟩
      rw [← hX] at fa HTS gd
      have hc0 : wr.cell? ⟨b, off + j * 3, none⟩ = some (.int .i64 A) := (hbel.cell (p := ⟨b, _, none⟩) hl).trans (hcells (j * 3) _ fa.1)
      have hc1 : wr.cell? ⟨b, off + j * 3 + 1, none⟩ = some (.string B) := (hbel.cell (p := ⟨b, _, none⟩) hl).trans (hcells (j * 3 + 1) _ fa.2.1)
      have hc2 : wr.cell? ⟨b, off + j * 3 + 2, none⟩ = some (.string C) := (hbel.cell (p := ⟨b, _, none⟩) hl).trans (hcells (j * 3 + 2) _ fa.2.2)
      have hk0 : (0 : Int) ≤ (j : Int) := Int.natCast_nonneg _
      have hk1 : (j : Int) < (n : Int) := by omega
      have HTS' := hide (show totTo zs (j + 1) = totTo zs j + (B.size + C.size) from HTS)
      have HOne := hide (fun W => sz_one A B C (left - (totTo zs j : Int)) W hleft (by omega) gd.2.1 gd.2.2)
      clear hX fa HTS gd
      generalize totTo zs j = Q at *
      go_wp2_with fail
      refine (unhide HOne _).mono ?_
      rintro e w2 ⟨rfl, b2⟩
      by_cases hneg : left - (Q : Int) - (B.size : Int) - (C.size : Int) < 0
      · rw [if_pos hneg]
        have HRn := hide (show R = -1 by rw [unhide HR, if_pos]; have := unhide HLe; have := unhide HTS'; omega)
        go_wp2
        go_ret
        exact ⟨ret_int (unhide HRn).symm, hbel.trans (b2.mono hsz)⟩
      · rw [if_neg hneg]
        have hle0 : 0 ≤ left - (Q : Int) - (B.size : Int) - (C.size : Int) := by omega
        go_wp2
        go_roundw
        case rel => exact ⟨j + 1, by omega, by go_num, by rw [unhide HTS']; go_num, by rw [unhide HTS']; omega, hbel.trans (b2.mono hsz)⟩
        case measure => simp [intOf]; omega
    · obtain rfl : j = n := by omega
      have HRp := hide (show R = left - (totTo zs j : Int) by rw [unhide HR]; have e := totTo_all zs; rw [← unhide HN] at e; rw [← e, if_neg (by omega)])
      go_wp2
      go_ret
      exact ⟨ret_int (unhide HRp).symm, hbel⟩
end Go.Proofs.Ytomncodkbcngmaa.Mat
