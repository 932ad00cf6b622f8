/- My own texts of one claim, laid together by program: LabLaw, LssLaw. -/
import Derived.Test.YtbkolpiekcifpaaG95a324441e
import Derived.ChangeArms
import Derived.Test.YtbkolpiekcifpaaG2c0415635f
/- What the laws' own helpers do with slices of impl.Label: they are copied, held against each other, and counted. -/
namespace Go.Proofs.Ytbkolpiekcifpaa.Lab
open Go.RowKit Rw
set_option linter.unusedVariables false
attribute [local go_sem ↓] Go.wp_at_zero Go.wp_at_succ
abbrev E := ByteArray × ByteArray
def fl (x : E) : List Value := [.string (x.1), .string (x.2)]
theorem flk (x : E) : (fl x).length = 2 := rfl
def at' (zs : List E) (i : Nat) : E := zs.getD i default
abbrev flat (zs : List E) : List Value := flatOf fl zs
abbrev Is (w : World) (v : Value) (zs : List E) : Prop := Lies w v zs.length 2 (flat zs)
theorem flat_length (zs : List E) : (flat zs).length = zs.length * 2 := flatOf_length flk zs
theorem flat_oneCell (zs : List E) : ∀ u ∈ flat zs, u.oneCell' = true := by
  intro u hu
  obtain ⟨x, _, hx⟩ := List.mem_flatMap.1 hu
  simp only [fl, List.mem_cons, List.not_mem_nil, or_false] at hx
  rcases hx with rfl | rfl <;> rfl
theorem at_get (zs : List E) (i : Nat) (h : i < zs.length) : at' zs i = zs[i] := by simp [at', List.getD, h]
theorem at_snoc (zs : List E) (i : Nat) (h : i < zs.length) : zs.take (i + 1) = zs.take i ++ [at' zs i] := by rw [List.take_succ_eq_append_getElem h, at_get zs i h]
theorem flat_at (zs : List E) (i : Nat) (h : i < zs.length) : (flat zs)[i * 2]? = some (.string ((at' zs i).1)) ∧ (flat zs)[i * 2 + 1]? = some (.string ((at' zs i).2)) := by
  rw [at_get zs i h]
  exact ⟨flatOf_get flk zs i 0 h (by omega), flatOf_get flk zs i 1 h (by omega)⟩
theorem is_of_own {w : World} {base : Nat} {v : Value} {zs : List E} (h : w.ownsRow base 56 2 v zs.length (flat zs)) : Is w v zs := lies_of_own h
theorem info_e : (Try.prog.info? 56).map (fun i => (i.zero, i.size, i.bytes)) = some (some (.agg #[.string ByteArray.empty, .string ByteArray.empty]), 2, 32) := by kernel_rfl
def good (x : E) : Prop := (x.1).size ≤ maxLen ∧ (x.2).size ≤ maxLen
set_option maxRecDepth 100000 in
theorem open_arg {H : Type} {enc : TypeId × Value → H} {W : World} {a : Option Addr} {len cap : Nat} {d : DataW H} {p : List MemPlace}
    (h : DataW.Trod enc Try.prog W 0 (fun _ => true) true 52 (.slice a len cap) d p) : ∃ zs : List E, zs.length = len ∧ len ≤ maxLen ∧ Lies W (.slice a len cap) len 2 (flat zs) ∧ ∀ x ∈ zs, good x := by
  have ck : Try.prog.cellsOf 82 = 2 := by kernel_rfl
  refine open_flat (e := 82) (good := good) flk Try.underlying52 ck ?_ (by omega) h
  intro n cs y hl ht
  obtain ⟨xs, m, -, -, -, hxl, hf⟩ := DataW.trod_struct Try.underlying82 ht
  match cs, hl, xs, hxl with
  | [c0, c1], _, [y0, y1], _ =>
    have g0 := hf 0 _ rfl
    have g1 := hf 1 _ rfl
    have ces : Try.prog.cellsOf 9 = 1 := by kernel_rfl
    simp [ces] at g0 g1
    obtain ⟨s0, e0, -, w0⟩ := DataW.trod_string Try.underlying9 g0
    obtain ⟨s1, e1, -, w1⟩ := DataW.trod_string Try.underlying9 g1
    simp only [List.cons.injEq, and_true] at e0 e1
    exact ⟨(s0, s1), by rw [e0, e1]; rfl, w0, w1⟩
theorem to_one (A : ByteArray) (B : ByteArray) (w : World) : Calls Try.prog 53 #[.agg #[.string A, .string B]] w fun e w' => e = .returned (.agg #[.string A, .string B]) ∧ Below w.heap.size w w' := by
  go_enter Try.func53, Try.ntmps53
  go_wp2
  refine bodyPost_ret (v := .agg #[.string A, .string B]) (by simp [results, Try.results53, go_sem]) rfl ⟨rfl, ?_⟩
  exact (((Below.refl _ _).alloc (Nat.le_refl _) _).alloc (by simp) _).alloc (by simp; omega) _
theorem set_e (A : List Value) (u0 u1 x0 x1 : Value) (L : List Value) (k : Nat) (h : A.length = k) : (((A ++ u0 :: u1 :: L).set k x0).set (k + 1) x1) = A ++ [x0, x1] ++ L := by
  subst h
  simp [List.set_append_right]
theorem split_e (r : List Value) (n : Nat) (h : r.length = (n + 1) * 2) : ∃ u0 u1 L, r = u0 :: u1 :: L ∧ L.length = n * 2 := by
  match r, h with
  | u0 :: u1 :: L, h => exact ⟨u0, u1, L, rfl, by simp only [List.length_cons] at h; omega⟩
  | [], h => simp at h <;> omega
  | [_], h => simp at h <;> omega
set_option maxRecDepth 100000 in
set_option maxHeartbeats 2000000 in
theorem to_any {w : World} {v : Value} {zs : List E} (h : Is w v zs) (hlen : zs.length ≤ 4194304) :
    Calls Try.prog 27 #[v] w fun e w' => e = .returned (.slice (some ⟨w.heap.size, 0, none⟩) zs.length zs.length) ∧
      w'.ownsRow w.heap.size 56 2 (.slice (some ⟨w.heap.size, 0, none⟩) zs.length zs.length) zs.length (flat zs) ∧ Below w.heap.size w w' := by
  obtain ⟨i0, hi, hz0, hz1, hz2⟩ := info_parts info_e
  obtain ⟨-, a, cap, rfl, hc, hm, -, hr⟩ := h
  unfold maxLen at hm
  obtain ⟨n, hn⟩ : ∃ n, n = zs.length := ⟨_, rfl⟩
  rw [← hn] at hc hr hlen ⊢
  have HN := hide hn
  clear hn
  go_enter Try.func27, Try.ntmps27
  go_wp2_with (at_make; refine wpList_make_full _ rfl _ _ _ rfl w.heap.size 56 i0 (.agg #[.string ByteArray.empty, .string ByteArray.empty]) 2 Try.underlying44 hi hz0 hz1 .i64 .i64 _ _ n rfl rfl rfl rfl (by rw [hz2]; omega) (by unfold maxLen; omega) (Nat.le_refl _) ?_; intro w1 hown1 hgrow1)
  go_loopw [4] (fun i wr => ∃ (j : Nat) (r : List Value), j ≤ n ∧ i = .int .i64 j ∧ r.length = (n - j) * 2 ∧ wr.ownsRow w.heap.size 56 2 (.slice (some ⟨w.heap.size, 0, none⟩) n n) n (flat (zs.take j) ++ r) ∧ Below w.heap.size w wr) (fun i _ => n - (intOf i).toNat)
  case atStart =>
    refine ⟨0, _, Nat.zero_le _, rfl, ?_, hown1, below_grown (Below.refl _ _) (Nat.le_refl _) hgrow1 (by simp)⟩
    have := hown1.1
    simpa using this
  case round =>
    obtain ⟨j, r, hj, rfl, hrl, hown, hbel⟩ := hrel
    have hsz := own_lt hown
    by_cases hlt : j < n
    · obtain ⟨u0, u1, L, rfl, hB⟩ := split_e r (n - j - 1) (by rw [hrl]; omega)
      obtain ⟨b, off, rfl, hl, hcells⟩ := hr (by omega)
      have fa := flat_at zs j (by have := unhide HN; omega)
      have hc0 : wr.cell? ⟨b, off + j * 2, none⟩ = some (.string ((at' zs j).1)) := (hbel.cell (p := ⟨b, _, none⟩) hl).trans (hcells (j * 2) _ fa.1)
      have hc1 : wr.cell? ⟨b, off + j * 2 + 1, none⟩ = some (.string ((at' zs j).2)) := (hbel.cell (p := ⟨b, _, none⟩) hl).trans (hcells (j * 2 + 1) _ fa.2)
      have fln : (flat (zs.take j)).length = j * 2 := by rw [flat_length]; simp; have := unhide HN; omega
      have hd0 : wr.cell? ⟨w.heap.size, j * 2, none⟩ = some u0 := by rw [hown.cellAt (j * 2) (by omega)]; simp [fln]
      have hf0 := hown.frozenAt (j * 2)
      have hd1 : wr.cell? ⟨w.heap.size, j * 2 + 1, none⟩ = some u1 := by rw [hown.cellAt (j * 2 + 1) (by omega)]; simp [fln]
      have hf1 := hown.frozenAt (j * 2 + 1)
      have hk0 : (0 : Int) ≤ (j : Int) := Int.natCast_nonneg _
      have hk1 : (j : Int) < (n : Int) := by omega
      have HS := hide (at_snoc zs j (by have := unhide HN; omega))
      obtain ⟨A, B, hX⟩ : ∃ A B, (A, B) = at' zs j := ⟨_, _, rfl⟩
      rw [← hX] at hc0 hc1
      have HX := hide hX
      have HF := hide fln
      clear hX fln fa
      go_wp2_with (go_at_call 53; refine (to_one _ _ _).mono ?_; rintro e w2 ⟨rfl, hb2⟩; obtain ⟨bc, bf⟩ := bcell hb2)
      have o0 := ((own_below hown hb2).stored (j * 2) (.string A)).1
      have o1 := (o0.stored (j * 2 + 1) (.string B)).1
      rw [set_e _ _ _ _ _ _ _ (unhide HF)] at o1
      have e2 : flat (zs.take (j + 1)) = flat (zs.take j) ++ [.string A, .string B] := by rw [unhide HS]; unfold flat; rw [flatOf_append, flatOf_one, ← unhide HX]; rfl
      rw [← e2] at o1
      have R := hide (((hbel.trans (hb2.mono (by omega))).setCell (p := ⟨w.heap.size, j * 2, none⟩) (Nat.le_refl _) (.string A)).setCell (p := ⟨w.heap.size, j * 2 + 1, none⟩) (Nat.le_refl _) (.string B))
      have O := hide o1
      clear o0 o1 e2 hown bc bf hd0 hf0 hd1 hf1
      go_wp2_with fail
      go_roundw
      case rel => exact ⟨j + 1, L, by omega, by go_num, by omega, unhide O, unhide R⟩
      case measure => simp [intOf]; omega
    · obtain rfl : j = n := by omega
      obtain rfl : r = [] := List.eq_nil_of_length_eq_zero (by rw [hrl]; omega)
      rw [List.append_nil, List.take_of_length_le (by have := unhide HN; omega)] at hown
      go_wp2
      go_ret
      exact ⟨rfl, hown, hbel⟩
theorem eq_one (A : ByteArray) (B : ByteArray) (w : World) : Calls Try.prog 62 #[.agg #[.string A, .string B], .agg #[.string A, .string B]] w fun e w' => e = .returned (.bool true) ∧ Below w.heap.size w w' := by
  go_enter Try.func62, Try.ntmps62
  go_wp2
  go_ret
  exact ⟨rfl, ((Below.refl _ _).alloc (Nat.le_refl _) _).alloc (by simp) _⟩
set_option maxRecDepth 100000 in
set_option maxHeartbeats 2000000 in
theorem eq_any {v u : Value} {zs : List E} {w : World} (h : Is w v zs) (h' : Is w u zs) : Calls Try.prog 34 #[v, u] w fun e w' => e = .returned (.bool true) ∧ Below w.heap.size w w' := by
  obtain ⟨-, a, cap, rfl, hc, hm, -, hr⟩ := h
  obtain ⟨-, a', cap', rfl, hc', hm', -, hr'⟩ := h'
  unfold maxLen at hm hm'
  obtain ⟨n, hn⟩ : ∃ n, n = zs.length := ⟨_, rfl⟩
  rw [← hn] at hc hr hc' hr' ⊢
  have HN := hide hn
  clear hn
  go_enter Try.func34, Try.ntmps34
  go_wp2
  go_loopw [5] (fun i wr => ∃ (j : Nat), j ≤ n ∧ i = .int .i64 j ∧ Below w.heap.size w wr) (fun i _ => n - (intOf i).toNat)
  case atStart => exact ⟨0, Nat.zero_le _, rfl, Below.refl _ _⟩
  case round =>
    obtain ⟨j, hj, rfl, hbel⟩ := hrel
    have hsz := hbel.size
    by_cases hlt : j < n
    · obtain ⟨b, off, rfl, hl, hcells⟩ := hr (by omega)
      obtain ⟨b', off', rfl, hl', hcells'⟩ := hr' (by omega)
      have fa := flat_at zs j (by have := unhide HN; omega)
      obtain ⟨A, B, hX⟩ : ∃ A B, (A, B) = at' zs j := ⟨_, _, rfl⟩
      rw [← hX] at fa
      have hq0 : ∀ x : Cls wr.heap.size wr, x.val.cell? ⟨b, off + j * 2, none⟩ = some (.string A) := fun x => by rw [x.cell (by omega)]; exact (hbel.cell (p := ⟨b, _, none⟩) hl).trans (hcells (j * 2) _ fa.1)
      have hp0 : ∀ x : Cls wr.heap.size wr, x.val.cell? ⟨b', off' + j * 2, none⟩ = some (.string A) := fun x => by rw [x.cell (by omega)]; exact (hbel.cell (p := ⟨b', _, none⟩) hl').trans (hcells' (j * 2) _ fa.1)
      have hq1 : ∀ x : Cls wr.heap.size wr, x.val.cell? ⟨b, off + j * 2 + 1, none⟩ = some (.string B) := fun x => by rw [x.cell (by omega)]; exact (hbel.cell (p := ⟨b, _, none⟩) hl).trans (hcells (j * 2 + 1) _ fa.2)
      have hp1 : ∀ x : Cls wr.heap.size wr, x.val.cell? ⟨b', off' + j * 2 + 1, none⟩ = some (.string B) := fun x => by rw [x.cell (by omega)]; exact (hbel.cell (p := ⟨b', _, none⟩) hl').trans (hcells' (j * 2 + 1) _ fa.2)
      have hk0 : (0 : Int) ≤ (j : Int) := Int.natCast_nonneg _
      have hk1 : (j : Int) < (n : Int) := by omega
      clear hX fa
      have hne := cls_nonempty wr.heap.size wr
      go_wp2_with fail
      refine region_cls (by kernel_rfl) (by kernel_rfl) ?_
      repeat (go_big_quiet_step ((go_at_call 62; exact cls_call (Nat.le_refl _) (eq_one _ _ _))))
      refine wpQuiet_nil ?_
      rintro wq ⟨⟨_, hq⟩, rfl⟩
      go_wp2
      go_roundw
      case rel => exact ⟨j + 1, by omega, by go_num, hbel.trans (hq.mono hsz)⟩
      case measure => simp [intOf]; omega
    · go_wp2
      go_ret
      exact ⟨rfl, hbel⟩
def tot (zs : List E) : Nat := zs.foldl (fun a x => a + ((x.1).size + (x.2).size)) zs.length
def totTo (zs : List E) (j : Nat) : Nat := (zs.take j).foldl (fun a x => a + ((x.1).size + (x.2).size)) zs.length
theorem totTo_succ (zs : List E) (j : Nat) (h : j < zs.length) : totTo zs (j + 1) = totTo zs j + (((at' zs j).1).size + ((at' zs j).2).size) := by
  unfold totTo
  rw [at_snoc zs j h, List.foldl_append]
  rfl
theorem totTo_mono (zs : List E) : ∀ (i j : Nat), i ≤ j → j ≤ zs.length → totTo zs i ≤ totTo zs j
  | i, 0, h, _ => by obtain rfl : i = 0 := by omega
                     exact Nat.le_refl _
  | i, j + 1, h, hj => by
    by_cases e : i = j + 1
    · subst e; exact Nat.le_refl _
    · have h1 := totTo_mono zs i j (by omega) (by omega)
      rw [totTo_succ zs j (by omega)]
      omega
theorem totTo_all (zs : List E) : totTo zs zs.length = tot zs := by unfold totTo tot; rw [List.take_of_length_le (Nat.le_refl _)]
theorem tot_len (zs : List E) : zs.length ≤ tot zs := by have := totTo_mono zs 0 zs.length (Nat.zero_le _) (Nat.le_refl _); rw [totTo_all] at this; unfold totTo at this; simpa using this
theorem tot_at (zs : List E) (j : Nat) (h : j < zs.length) : ((at' zs j).1).size + ((at' zs j).2).size ≤ tot zs := by
  have h1 := totTo_succ zs j h
  have h2 := totTo_mono zs (j + 1) zs.length (by omega) (Nat.le_refl _)
  rw [totTo_all] at h2
  omega
theorem sz_one (A : ByteArray) (B : ByteArray) (left : Int) (w : World) (h0 : 0 ≤ left) (h1 : left ≤ 1048576) (g0 : A.size ≤ maxLen) (g1 : B.size ≤ maxLen) :
    Calls Try.prog 51 #[.agg #[.string A, .string B], .int .i64 left] w fun e w' => e = .returned (.int .i64 (if left - (A.size : Int) - (B.size : Int) < 0 then -1 else left - (A.size : Int) - (B.size : Int))) ∧ Below w.heap.size w w' := by
  unfold maxLen at g0 g1
  by_cases c0 : left - (A.size : Int) < 0
  · rw [if_pos (by omega)]
    go_enter Try.func51, Try.ntmps51
    go_wp2
    go_ret
    exact ⟨rfl, (Below.refl _ _).alloc (Nat.le_refl _) _⟩
  by_cases c1 : left - (A.size : Int) - (B.size : Int) < 0
  · rw [if_pos (by omega)]
    go_enter Try.func51, Try.ntmps51
    go_wp2
    go_ret
    exact ⟨rfl, (Below.refl _ _).alloc (Nat.le_refl _) _⟩
  rw [if_neg (by omega)]
  go_enter Try.func51, Try.ntmps51
  go_wp2
  go_ret
  exact ⟨rfl, (Below.refl _ _).alloc (Nat.le_refl _) _⟩
set_option maxRecDepth 100000 in
set_option maxHeartbeats 2000000 in
theorem sz_any {w : World} {v : Value} {zs : List E} (left : Int) (h : Is w v zs) (hlm : zs.length ≤ maxLen) (hg : ∀ x ∈ zs, good x) (h0 : 0 ≤ left) (h1 : left ≤ 1048576) :
    Calls Try.prog 24 #[v, .int .i64 left] w fun e w' => e = .returned (.int .i64 (if left - (tot zs : Int) < 0 then -1 else left - (tot zs : Int))) ∧ Below w.heap.size w w' := by
  obtain ⟨-, a, cap, rfl, hc, hm, -, hr⟩ := h
  have HT := hide (tot_len zs)
  unfold maxLen at hm hlm
  obtain ⟨n, hn⟩ : ∃ n, n = zs.length := ⟨_, rfl⟩
  rw [← hn] at hc hr hlm ⊢
  have HN := hide hn
  have HG := hide hg
  have T0 := hide (show totTo zs 0 = n by rw [hn]; rfl)
  clear hn hg
  by_cases hn0 : left - (n : Int) < 0
  · rw [if_pos (by have := unhide HT; have := unhide HN; omega)]
    go_enter Try.func24, Try.ntmps24
    go_wp2
    go_ret
    exact ⟨rfl, Below.refl _ _⟩
  obtain ⟨R, hR⟩ : ∃ R : Int, R = if left - (tot zs : Int) < 0 then -1 else left - (tot zs : Int) := ⟨_, rfl⟩
  rw [← hR]
  have HR := hide hR
  clear hR
  go_enter Try.func24, Try.ntmps24
  go_wp2
  go_loopw [1, 5] (fun lv i wr => ∃ (j : Nat), j ≤ n ∧ i = .int .i64 j ∧ lv = .int .i64 (left - (totTo zs j : Int)) ∧ 0 ≤ left - (totTo zs j : Int) ∧ Below w.heap.size w wr) (fun _ i _ => n - (intOf i).toNat)
  case atStart => exact ⟨0, Nat.zero_le _, rfl, by rw [unhide T0], by rw [unhide T0]; omega, Below.refl _ _⟩
  case round =>
    obtain ⟨j, hj, rfl, rfl, hleft, hbel⟩ := hrel
    have hsz := hbel.size
    by_cases hlt : j < n
    · obtain ⟨b, off, rfl, hl, hcells⟩ := hr (by omega)
      have fa := flat_at zs j (by have := unhide HN; omega)
      have HTS := totTo_succ zs j (by have := unhide HN; omega)
      have gd := unhide HG (at' zs j) (by rw [at_get zs j (by have := unhide HN; omega)]; exact List.getElem_mem _)
      have HLe := hide (show totTo zs (j + 1) ≤ tot zs by rw [← totTo_all]; exact totTo_mono zs _ _ (by have := unhide HN; omega) (Nat.le_refl _))
      obtain ⟨A, B, hX⟩ : ∃ A B, (A, B) = at' zs j := ⟨_, _, rfl⟩
      rw [← hX] at fa HTS gd
      have hc0 : wr.cell? ⟨b, off + j * 2, none⟩ = some (.string A) := (hbel.cell (p := ⟨b, _, none⟩) hl).trans (hcells (j * 2) _ fa.1)
      have hc1 : wr.cell? ⟨b, off + j * 2 + 1, none⟩ = some (.string B) := (hbel.cell (p := ⟨b, _, none⟩) hl).trans (hcells (j * 2 + 1) _ fa.2)
      have hk0 : (0 : Int) ≤ (j : Int) := Int.natCast_nonneg _
      have hk1 : (j : Int) < (n : Int) := by omega
      have HTS' := hide (show totTo zs (j + 1) = totTo zs j + (A.size + B.size) from HTS)
      have HOne := hide (fun W => sz_one A B (left - (totTo zs j : Int)) W hleft (by omega) gd.1 gd.2)
      clear hX fa HTS gd
      generalize totTo zs j = Q at *
      go_wp2_with fail
      refine (unhide HOne _).mono ?_
      rintro e w2 ⟨rfl, b2⟩
      by_cases hneg : left - (Q : Int) - (A.size : Int) - (B.size : Int) < 0
      · rw [if_pos hneg]
        have HRn := hide (show R = -1 by rw [unhide HR, if_pos]; have := unhide HLe; have := unhide HTS'; omega)
        go_wp2
        go_ret
        exact ⟨ret_int (unhide HRn).symm, hbel.trans (b2.mono hsz)⟩
      · rw [if_neg hneg]
        have hle0 : 0 ≤ left - (Q : Int) - (A.size : Int) - (B.size : Int) := by omega
        go_wp2
        go_roundw
        case rel => exact ⟨j + 1, by omega, by go_num, by rw [unhide HTS']; go_num, by rw [unhide HTS']; omega, hbel.trans (b2.mono hsz)⟩
        case measure => simp [intOf]; omega
    · obtain rfl : j = n := by omega
      have HRp := hide (show R = left - (totTo zs j : Int) by rw [unhide HR]; have e := totTo_all zs; rw [← unhide HN] at e; rw [← e, if_neg (by omega)])
      go_wp2
      go_ret
      exact ⟨ret_int (unhide HRp).symm, hbel⟩
end Go.Proofs.Ytbkolpiekcifpaa.Lab

/- Slices of slices of labels, as the laws' helpers meet them. -/
namespace Go.Proofs.Ytbkolpiekcifpaa.Lss
open Go.RowKit Rw
set_option linter.unusedVariables false
attribute [local go_sem ↓] Go.wp_at_zero Go.wp_at_succ
abbrev E := List Lab.E
abbrev C := Value
def cl (c : C) : List Value := [c]
theorem clk (c : C) : (cl c).length = 1 := rfl
def at' (zs : List E) (i : Nat) : E := zs.getD i default
def cat (cs : List C) (i : Nat) : C := cs.getD i default
theorem at_get (zs : List E) (i : Nat) (h : i < zs.length) : at' zs i = zs[i] := by simp [at', List.getD, h]
theorem at_snoc (zs : List E) (i : Nat) (h : i < zs.length) : zs.take (i + 1) = zs.take i ++ [at' zs i] := by rw [List.take_succ_eq_append_getElem h, at_get zs i h]
theorem at_mem (zs : List E) (i : Nat) (h : i < zs.length) : at' zs i ∈ zs := by rw [at_get zs i h]; exact List.getElem_mem _
theorem cat_get (zs : List C) (i : Nat) (h : i < zs.length) : cat zs i = zs[i] := by simp [cat, List.getD, h]
theorem cat_lt (zs : List C) (c : C) (i : Nat) (h : i < zs.length) : cat (zs ++ [c]) i = cat zs i := by simp [cat, List.getD, List.getElem?_append_left h]
theorem cat_last (zs : List C) (c : C) : cat (zs ++ [c]) zs.length = c := by simp [cat, List.getD]
abbrev Elem (w : World) (c : C) (x : E) : Prop := Lab.Is w c x
def Is (w : World) (v : Value) (zs : List E) : Prop := ∃ cs : List C, cs.length = zs.length ∧ Lies w v zs.length 1 (flatOf cl cs) ∧ ∀ i, i < zs.length → Elem w (cat cs i) (at' zs i)
theorem Is.below {w w' : World} {v : Value} {zs : List E} (h : Is w v zs) (hb : Below w.heap.size w w') : Is w' v zs := by
  obtain ⟨cs, h1, h2, h3⟩ := h
  exact ⟨cs, h1, h2.below hb, fun i hi => (h3 i hi).below hb⟩
/-- the same, each slice of labels a row of its own, all of it in blocks from lo on, ahead of hi -/
def Own (lo hi : Nat) (w : World) (v : Value) (zs : List E) : Prop := ∃ cs : List C, cs.length = zs.length ∧ w.ownsRow lo 44 1 v zs.length (flatOf cl cs) ∧ (∀ k, v.ownBlock = some k → k < hi) ∧ hi ≤ w.heap.size ∧ Apart cs ∧
  ∀ i, i < zs.length → w.ownsRow lo 56 2 (cat cs i) (at' zs i).length (Lab.flat (at' zs i)) ∧ ∀ k, (cat cs i).ownBlock = some k → lo ≤ k ∧ k < hi
theorem Own.is {lo hi : Nat} {w : World} {v : Value} {zs : List E} (h : Own lo hi w v zs) : Is w v zs := by
  obtain ⟨cs, h1, h2, h3, h4, h6, h5⟩ := h
  exact ⟨cs, h1, lies_of_own h2, fun i hi => Lab.is_of_own (h5 i hi).1⟩
theorem Own.below {lo hi : Nat} {w w' : World} {v : Value} {zs : List E} (h : Own lo hi w v zs) (hb : Below w.heap.size w w') : Own lo hi w' v zs := by
  obtain ⟨cs, h1, h2, h3, h4, h6, h5⟩ := h
  exact ⟨cs, h1, own_below h2 hb, h3, Nat.le_trans h4 hb.size, h6, fun i hi => ⟨own_below (h5 i hi).1 hb, (h5 i hi).2⟩⟩
theorem Own.zone {lo hi a b : Nat} {w w' : World} {v : Value} {zs : List E} (h : Own lo hi w v zs) (hz : Zone a b w w') (ho : hi ≤ a ∨ b ≤ lo) : Own lo hi w' v zs := by
  obtain ⟨cs, h1, h2, h3, h4, h6, h5⟩ := h
  exact ⟨cs, h1, hz.own h2 (fun k hk => by have := h3 k hk; have := own_ge h2 k hk; omega), h3, Nat.le_trans h4 hz.size, h6, fun i hi => ⟨hz.own (h5 i hi).1 (fun k hk => by have := (h5 i hi).2 k hk; omega), (h5 i hi).2⟩⟩
theorem flat_at (cs : List C) (i : Nat) (h : i < cs.length) : (flatOf cl cs)[i]? = some (cat cs i) := by
  rw [cat_get cs i h]
  have := flatOf_get clk cs i 0 h (by omega)
  rw [Nat.mul_one, Nat.add_zero] at this
  exact this
def good (x : E) : Prop := x.length ≤ maxLen ∧ ∀ y ∈ x, Lab.good y
set_option maxRecDepth 100000 in
theorem open_arg {H : Type} {enc : TypeId × Value → H} {W : World} {a : Option Addr} {len cap : Nat} {d : DataW H} {p : List MemPlace}
    (h : DataW.Trod enc Try.prog W 0 (fun _ => true) true 22 (.slice a len cap) d p) : ∃ zs : List E, zs.length = len ∧ len ≤ maxLen ∧ Is W (.slice a len cap) zs ∧ ∀ x ∈ zs, good x := by
  have ck : Try.prog.cellsOf 52 = 1 := by kernel_rfl
  obtain ⟨cs, h1, h2, h3, h4⟩ := open_flat (e := 52) (good := fun c => ∃ x : E, Elem W c x ∧ good x) clk Try.underlying22 ck (by
    intro n cs y hl ht
    match cs, hl with
    | [c0], _ =>
      obtain ⟨a0, l0, k0, e0, t0⟩ := slice_cell Try.underlying52 ht
      obtain ⟨s0, n0, m0, i0, w0⟩ := Lab.open_arg t0
      rw [← n0] at i0
      subst e0
      subst n0
      exact ⟨.slice a0 s0.length k0, rfl, s0, i0, ⟨m0, w0⟩⟩) (by omega) h
  obtain ⟨zs, hz, hP⟩ := choose_list cs h4
  refine ⟨zs, by omega, h2, ⟨cs, hz.symm, by rw [hz, h1]; exact h3, fun i hi => (hP i (by omega)).1⟩, fun x hx => ?_⟩
  obtain ⟨i, hi, rfl⟩ := List.getElem_of_mem hx
  have := (hP i (by omega)).2
  rwa [show zs.getD i default = zs[i] from at_get zs i hi] at this
theorem info_e : (Try.prog.info? 44).map (fun i => (i.zero, i.size, i.bytes)) = some (some (.slice none 0 0), 1, 24) := by kernel_rfl
theorem set_e (A : List Value) (u0 x0 : Value) (L : List Value) (k : Nat) (h : A.length = k) : (A ++ u0 :: L).set k x0 = A ++ [x0] ++ L := by
  subst h
  simp [List.set_append_right]
theorem split_e (r : List Value) (n : Nat) (h : r.length = n + 1) : ∃ u0 L, r = u0 :: L ∧ L.length = n := by
  match r, h with
  | u0 :: L, h => exact ⟨u0, L, rfl, by simpa using h⟩
  | [], h => simp at h
def tiny (x : E) : Prop := x.length ≤ 4194304
end Go.Proofs.Ytbkolpiekcifpaa.Lss
