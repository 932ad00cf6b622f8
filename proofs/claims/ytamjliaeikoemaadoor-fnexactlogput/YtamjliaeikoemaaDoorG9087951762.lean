/- My own texts of one claim, laid together by program: EntTiny, MatLaw, RecLaw, LabMath. -/
import Derived.Test.YtamjliaeikoemaaDoorG4e318a559d
import Derived.Test.YtamjliaeikoemaaDoorGdc7c71843d
import Derived.ChangeArms
import Derived.Shelf.GgClosure.StringsIndexFunc
import Derived.Laws.RangeAny
import Derived.Laws.RangeString
/- What is counted is small enough to be copied. No condition. -/
namespace Go.Proofs.YtamjliaeikoemaaDoor.Ent
open Go.RowKit Rw
theorem tiny_of {zs : List E} (h : tot zs ≤ 1048576) : zs.length ≤ 2097152 ∧ ∀ x ∈ zs, tiny x := by
  refine ⟨by have := tot_len zs; omega, fun x hx => ?_⟩
  obtain ⟨i, hi, rfl⟩ := List.getElem_of_mem hx
  have h1 := tot_at zs i hi
  rw [at_get zs i hi] at h1
  have h2 := Lab.tot_len (zs[i]).1
  unfold szOf at h1
  exact (show (zs[i]).1.length ≤ 4194304 by omega)
end Go.Proofs.YtamjliaeikoemaaDoor.Ent

/- What the laws' own helpers do with slices of impl.Match: they are copied, held against each other, and counted. -/
namespace Go.Proofs.YtamjliaeikoemaaDoor.Mat
open Go.RowKit Rw
set_option linter.unusedVariables false
attribute [local go_sem ↓] Go.wp_at_zero Go.wp_at_succ
abbrev E := Int × ByteArray × ByteArray
def fl (x : E) : List Value := [.int .i64 (x.1), .string (x.2.1), .string (x.2.2)]
theorem flk (x : E) : (fl x).length = 3 := rfl
def at' (zs : List E) (i : Nat) : E := zs.getD i default
abbrev flat (zs : List E) : List Value := flatOf fl zs
abbrev Is (w : World) (v : Value) (zs : List E) : Prop := Lies w v zs.length 3 (flat zs)
theorem flat_length (zs : List E) : (flat zs).length = zs.length * 3 := flatOf_length flk zs
theorem flat_oneCell (zs : List E) : ∀ u ∈ flat zs, u.oneCell' = true := by
  intro u hu
  obtain ⟨x, _, hx⟩ := List.mem_flatMap.1 hu
  simp only [fl, List.mem_cons, List.not_mem_nil, or_false] at hx
  rcases hx with rfl | rfl | rfl <;> rfl
theorem at_get (zs : List E) (i : Nat) (h : i < zs.length) : at' zs i = zs[i] := by simp [at', List.getD, h]
theorem at_snoc (zs : List E) (i : Nat) (h : i < zs.length) : zs.take (i + 1) = zs.take i ++ [at' zs i] := by rw [List.take_succ_eq_append_getElem h, at_get zs i h]
theorem flat_at (zs : List E) (i : Nat) (h : i < zs.length) : (flat zs)[i * 3]? = some (.int .i64 ((at' zs i).1)) ∧ (flat zs)[i * 3 + 1]? = some (.string ((at' zs i).2.1)) ∧ (flat zs)[i * 3 + 2]? = some (.string ((at' zs i).2.2)) := by
  rw [at_get zs i h]
  exact ⟨flatOf_get flk zs i 0 h (by omega), flatOf_get flk zs i 1 h (by omega), flatOf_get flk zs i 2 h (by omega)⟩
theorem is_of_own {w : World} {base : Nat} {v : Value} {zs : List E} (h : w.ownsRow base 65 3 v zs.length (flat zs)) : Is w v zs := lies_of_own h
theorem info_e : (Tryd.prog.info? 65).map (fun i => (i.zero, i.size, i.bytes)) = some (some (.agg #[.int .i64 0, .string ByteArray.empty, .string ByteArray.empty]), 3, 40) := by kernel_rfl
def good (x : E) : Prop := (Lit.int .i64 (x.1)).wf = true ∧ (x.2.1).size ≤ maxLen ∧ (x.2.2).size ≤ maxLen
set_option maxRecDepth 100000 in
theorem open_arg {H : Type} {enc : TypeId × Value → H} {W : World} {a : Option Addr} {len cap : Nat} {d : DataW H} {p : List MemPlace}
    (h : DataW.Trod enc Tryd.prog W 0 (fun _ => true) true 23 (.slice a len cap) d p) : ∃ zs : List E, zs.length = len ∧ len ≤ maxLen ∧ Lies W (.slice a len cap) len 3 (flat zs) ∧ ∀ x ∈ zs, good x := by
  have ck : Tryd.prog.cellsOf 56 = 3 := by kernel_rfl
  refine open_flat (e := 56) (good := good) flk Tryd.underlying23 ck ?_ (by omega) h
  intro n cs y hl ht
  obtain ⟨xs, m, -, -, -, hxl, hf⟩ := DataW.trod_struct Tryd.underlying56 ht
  match cs, hl, xs, hxl with
  | [c0, c1, c2], _, [y0, y1, y2], _ =>
    have g0 := hf 0 _ rfl
    have g1 := hf 1 _ rfl
    have g2 := hf 2 _ rfl
    have cei : Tryd.prog.cellsOf 3 = 1 := by kernel_rfl
    have ces : Tryd.prog.cellsOf 9 = 1 := by kernel_rfl
    simp [cei, ces] at g0 g1 g2
    obtain ⟨s0, e0, -, w0⟩ := DataW.trod_int Tryd.underlying3 g0
    obtain ⟨s1, e1, -, w1⟩ := DataW.trod_string Tryd.underlying9 g1
    obtain ⟨s2, e2, -, w2⟩ := DataW.trod_string Tryd.underlying9 g2
    simp only [List.cons.injEq, and_true] at e0 e1 e2
    exact ⟨(s0, s1, s2), by rw [e0, e1, e2]; rfl, w0, w1, w2⟩
theorem to_one (A : Int) (B : ByteArray) (C : ByteArray) (w : World) : Calls Tryd.prog 36 #[.agg #[.int .i64 A, .string B, .string C]] w fun e w' => e = .returned (.agg #[.int .i64 A, .string B, .string C]) ∧ Below w.heap.size w w' := by
  go_enter Tryd.func36, Tryd.ntmps36
  go_wp2
  refine bodyPost_ret (v := .agg #[.int .i64 A, .string B, .string C]) (by simp [results, Tryd.results36, go_sem]) rfl ⟨rfl, ?_⟩
  exact (((Below.refl _ _).alloc (Nat.le_refl _) _).alloc (by simp) _).alloc (by simp; omega) _
theorem set_e (A : List Value) (u0 u1 u2 x0 x1 x2 : Value) (L : List Value) (k : Nat) (h : A.length = k) : ((((A ++ u0 :: u1 :: u2 :: L).set k x0).set (k + 1) x1).set (k + 2) x2) = A ++ [x0, x1, x2] ++ L := by
  subst h
  simp [List.set_append_right]
theorem split_e (r : List Value) (n : Nat) (h : r.length = (n + 1) * 3) : ∃ u0 u1 u2 L, r = u0 :: u1 :: u2 :: L ∧ L.length = n * 3 := by
  match r, h with
  | u0 :: u1 :: u2 :: L, h => exact ⟨u0, u1, u2, L, rfl, by simp only [List.length_cons] at h; omega⟩
  | [], h => simp at h <;> omega
  | [_], h => simp at h <;> omega
  | [_, _], h => simp at h <;> omega
set_option maxRecDepth 100000 in
set_option maxHeartbeats 2000000 in
theorem to_any {w : World} {v : Value} {zs : List E} (h : Is w v zs) (hlen : zs.length ≤ 4194304) :
    Calls Tryd.prog 17 #[v] w fun e w' => e = .returned (.slice (some ⟨w.heap.size, 0, none⟩) zs.length zs.length) ∧
      w'.ownsRow w.heap.size 65 3 (.slice (some ⟨w.heap.size, 0, none⟩) zs.length zs.length) zs.length (flat zs) ∧ Below w.heap.size w w' := by
  obtain ⟨i0, hi, hz0, hz1, hz2⟩ := info_parts info_e
  obtain ⟨-, a, cap, rfl, hc, hm, -, hr⟩ := h
  unfold maxLen at hm
  obtain ⟨n, hn⟩ : ∃ n, n = zs.length := ⟨_, rfl⟩
  rw [← hn] at hc hr hlen ⊢
  have HN := hide hn
  clear hn
  go_enter Tryd.func17, Tryd.ntmps17
  go_wp2_with (at_make; refine wpList_make_full _ rfl _ _ _ rfl w.heap.size 65 i0 (.agg #[.int .i64 0, .string ByteArray.empty, .string ByteArray.empty]) 3 Tryd.underlying29 hi hz0 hz1 .i64 .i64 _ _ n rfl rfl rfl rfl (by rw [hz2]; omega) (by unfold maxLen; omega) (Nat.le_refl _) ?_; intro w1 hown1 hgrow1)
  go_loopw [4] (fun i wr => ∃ (j : Nat) (r : List Value), j ≤ n ∧ i = .int .i64 j ∧ r.length = (n - j) * 3 ∧ wr.ownsRow w.heap.size 65 3 (.slice (some ⟨w.heap.size, 0, none⟩) n n) n (flat (zs.take j) ++ r) ∧ Below w.heap.size w wr) (fun i _ => n - (intOf i).toNat)
  case atStart =>
    refine ⟨0, _, Nat.zero_le _, rfl, ?_, hown1, below_grown (Below.refl _ _) (Nat.le_refl _) hgrow1 (by simp)⟩
    have := hown1.1
    simpa using this
  case round =>
    obtain ⟨j, r, hj, rfl, hrl, hown, hbel⟩ := hrel
    have hsz := own_lt hown
    by_cases hlt : j < n
    · obtain ⟨u0, u1, u2, L, rfl, hB⟩ := split_e r (n - j - 1) (by rw [hrl]; omega)
      obtain ⟨b, off, rfl, hl, hcells⟩ := hr (by omega)
      have fa := flat_at zs j (by have := unhide HN; omega)
      have hc0 : wr.cell? ⟨b, off + j * 3, none⟩ = some (.int .i64 ((at' zs j).1)) := (hbel.cell (p := ⟨b, _, none⟩) hl).trans (hcells (j * 3) _ fa.1)
      have hc1 : wr.cell? ⟨b, off + j * 3 + 1, none⟩ = some (.string ((at' zs j).2.1)) := (hbel.cell (p := ⟨b, _, none⟩) hl).trans (hcells (j * 3 + 1) _ fa.2.1)
      have hc2 : wr.cell? ⟨b, off + j * 3 + 2, none⟩ = some (.string ((at' zs j).2.2)) := (hbel.cell (p := ⟨b, _, none⟩) hl).trans (hcells (j * 3 + 2) _ fa.2.2)
      have fln : (flat (zs.take j)).length = j * 3 := by rw [flat_length]; simp; have := unhide HN; omega
      have hd0 : wr.cell? ⟨w.heap.size, j * 3, none⟩ = some u0 := by rw [hown.cellAt (j * 3) (by omega)]; simp [fln]
      have hf0 := hown.frozenAt (j * 3)
      have hd1 : wr.cell? ⟨w.heap.size, j * 3 + 1, none⟩ = some u1 := by rw [hown.cellAt (j * 3 + 1) (by omega)]; simp [fln]
      have hf1 := hown.frozenAt (j * 3 + 1)
      have hd2 : wr.cell? ⟨w.heap.size, j * 3 + 2, none⟩ = some u2 := by rw [hown.cellAt (j * 3 + 2) (by omega)]; simp [fln]
      have hf2 := hown.frozenAt (j * 3 + 2)
      have hk0 : (0 : Int) ≤ (j : Int) := Int.natCast_nonneg _
      have hk1 : (j : Int) < (n : Int) := by omega
      have HS := hide (at_snoc zs j (by have := unhide HN; omega))
      obtain ⟨A, B, C, hX⟩ : ∃ A B C, (A, B, C) = at' zs j := ⟨_, _, _, rfl⟩
      rw [← hX] at hc0 hc1 hc2
      have HX := hide hX
      have HF := hide fln
      clear hX fln fa
      go_wp2_with (go_at_call 36; refine (to_one _ _ _ _).mono ?_; rintro e w2 ⟨rfl, hb2⟩; obtain ⟨bc, bf⟩ := bcell hb2)
      have o0 := ((own_below hown hb2).stored (j * 3) (.int .i64 A)).1
      have o1 := (o0.stored (j * 3 + 1) (.string B)).1
      have o2 := (o1.stored (j * 3 + 2) (.string C)).1
      rw [set_e _ _ _ _ _ _ _ _ _ (unhide HF)] at o2
      have e2 : flat (zs.take (j + 1)) = flat (zs.take j) ++ [.int .i64 A, .string B, .string C] := by rw [unhide HS]; unfold flat; rw [flatOf_append, flatOf_one, ← unhide HX]; rfl
      rw [← e2] at o2
      have R := hide ((((hbel.trans (hb2.mono (by omega))).setCell (p := ⟨w.heap.size, j * 3, none⟩) (Nat.le_refl _) (.int .i64 A)).setCell (p := ⟨w.heap.size, j * 3 + 1, none⟩) (Nat.le_refl _) (.string B)).setCell (p := ⟨w.heap.size, j * 3 + 2, none⟩) (Nat.le_refl _) (.string C))
      have O := hide o2
      clear o0 o1 o2 e2 hown bc bf hd0 hf0 hd1 hf1 hd2 hf2
      go_wp2_with fail
      go_roundw
      case rel => exact ⟨j + 1, L, by omega, by go_num, by omega, unhide O, unhide R⟩
      case measure => simp [intOf]; omega
    · obtain rfl : j = n := by omega
      obtain rfl : r = [] := List.eq_nil_of_length_eq_zero (by rw [hrl]; omega)
      rw [List.append_nil, List.take_of_length_le (by have := unhide HN; omega)] at hown
      go_wp2
      go_ret
      exact ⟨rfl, hown, hbel⟩
theorem eq_one (A : Int) (B : ByteArray) (C : ByteArray) (w : World) : Calls Tryd.prog 49 #[.agg #[.int .i64 A, .string B, .string C], .agg #[.int .i64 A, .string B, .string C]] w fun e w' => e = .returned (.bool true) ∧ Below w.heap.size w w' := by
  go_enter Tryd.func49, Tryd.ntmps49
  go_wp2
  go_ret
  exact ⟨rfl, ((Below.refl _ _).alloc (Nat.le_refl _) _).alloc (by simp) _⟩
set_option maxRecDepth 100000 in
set_option maxHeartbeats 2000000 in
theorem eq_any {v u : Value} {zs : List E} {w : World} (h : Is w v zs) (h' : Is w u zs) : Calls Tryd.prog 23 #[v, u] w fun e w' => e = .returned (.bool true) ∧ Below w.heap.size w w' := by
  obtain ⟨-, a, cap, rfl, hc, hm, -, hr⟩ := h
  obtain ⟨-, a', cap', rfl, hc', hm', -, hr'⟩ := h'
  unfold maxLen at hm hm'
  obtain ⟨n, hn⟩ : ∃ n, n = zs.length := ⟨_, rfl⟩
  rw [← hn] at hc hr hc' hr' ⊢
  have HN := hide hn
  clear hn
  go_enter Tryd.func23, Tryd.ntmps23
  go_wp2
  go_loopw [5] (fun i wr => ∃ (j : Nat), j ≤ n ∧ i = .int .i64 j ∧ Below w.heap.size w wr) (fun i _ => n - (intOf i).toNat)
  case atStart => exact ⟨0, Nat.zero_le _, rfl, Below.refl _ _⟩
  case round =>
    obtain ⟨j, hj, rfl, hbel⟩ := hrel
    have hsz := hbel.size
    by_cases hlt : j < n
    · obtain ⟨b, off, rfl, hl, hcells⟩ := hr (by omega)
      obtain ⟨b', off', rfl, hl', hcells'⟩ := hr' (by omega)
      have fa := flat_at zs j (by have := unhide HN; omega)
      obtain ⟨A, B, C, hX⟩ : ∃ A B C, (A, B, C) = at' zs j := ⟨_, _, _, rfl⟩
      rw [← hX] at fa
      have hq0 : ∀ x : Cls wr.heap.size wr, x.val.cell? ⟨b, off + j * 3, none⟩ = some (.int .i64 A) := fun x => by rw [x.cell (by omega)]; exact (hbel.cell (p := ⟨b, _, none⟩) hl).trans (hcells (j * 3) _ fa.1)
      have hp0 : ∀ x : Cls wr.heap.size wr, x.val.cell? ⟨b', off' + j * 3, none⟩ = some (.int .i64 A) := fun x => by rw [x.cell (by omega)]; exact (hbel.cell (p := ⟨b', _, none⟩) hl').trans (hcells' (j * 3) _ fa.1)
      have hq1 : ∀ x : Cls wr.heap.size wr, x.val.cell? ⟨b, off + j * 3 + 1, none⟩ = some (.string B) := fun x => by rw [x.cell (by omega)]; exact (hbel.cell (p := ⟨b, _, none⟩) hl).trans (hcells (j * 3 + 1) _ fa.2.1)
      have hp1 : ∀ x : Cls wr.heap.size wr, x.val.cell? ⟨b', off' + j * 3 + 1, none⟩ = some (.string B) := fun x => by rw [x.cell (by omega)]; exact (hbel.cell (p := ⟨b', _, none⟩) hl').trans (hcells' (j * 3 + 1) _ fa.2.1)
      have hq2 : ∀ x : Cls wr.heap.size wr, x.val.cell? ⟨b, off + j * 3 + 2, none⟩ = some (.string C) := fun x => by rw [x.cell (by omega)]; exact (hbel.cell (p := ⟨b, _, none⟩) hl).trans (hcells (j * 3 + 2) _ fa.2.2)
      have hp2 : ∀ x : Cls wr.heap.size wr, x.val.cell? ⟨b', off' + j * 3 + 2, none⟩ = some (.string C) := fun x => by rw [x.cell (by omega)]; exact (hbel.cell (p := ⟨b', _, none⟩) hl').trans (hcells' (j * 3 + 2) _ fa.2.2)
      have hk0 : (0 : Int) ≤ (j : Int) := Int.natCast_nonneg _
      have hk1 : (j : Int) < (n : Int) := by omega
      clear hX fa
      have hne := cls_nonempty wr.heap.size wr
      go_wp2_with fail
      refine region_cls (by kernel_rfl) (by kernel_rfl) ?_
      repeat (go_big_quiet_step ((go_at_call 49; exact cls_call (Nat.le_refl _) (eq_one _ _ _ _))))
      refine wpQuiet_nil ?_
      rintro wq ⟨⟨_, hq⟩, rfl⟩
      go_wp2
      go_roundw
      case rel => exact ⟨j + 1, by omega, by go_num, hbel.trans (hq.mono hsz)⟩
      case measure => simp [intOf]; omega
    · go_wp2
      go_ret
      exact ⟨rfl, hbel⟩
def tot (zs : List E) : Nat := zs.foldl (fun a x => a + ((x.2.1).size + (x.2.2).size)) zs.length
def totTo (zs : List E) (j : Nat) : Nat := (zs.take j).foldl (fun a x => a + ((x.2.1).size + (x.2.2).size)) zs.length
theorem totTo_succ (zs : List E) (j : Nat) (h : j < zs.length) : totTo zs (j + 1) = totTo zs j + (((at' zs j).2.1).size + ((at' zs j).2.2).size) := by
  unfold totTo
  rw [at_snoc zs j h, List.foldl_append]
  rfl
theorem totTo_mono (zs : List E) : ∀ (i j : Nat), i ≤ j → j ≤ zs.length → totTo zs i ≤ totTo zs j
  | i, 0, h, _ => by obtain rfl : i = 0 := by omega
                     exact Nat.le_refl _
  | i, j + 1, h, hj => by
    by_cases e : i = j + 1
    · subst e; exact Nat.le_refl _
    · have h1 := totTo_mono zs i j (by omega) (by omega)
      rw [totTo_succ zs j (by omega)]
      omega
theorem totTo_all (zs : List E) : totTo zs zs.length = tot zs := by unfold totTo tot; rw [List.take_of_length_le (Nat.le_refl _)]
theorem tot_len (zs : List E) : zs.length ≤ tot zs := by have := totTo_mono zs 0 zs.length (Nat.zero_le _) (Nat.le_refl _); rw [totTo_all] at this; unfold totTo at this; simpa using this
theorem tot_at (zs : List E) (j : Nat) (h : j < zs.length) : ((at' zs j).2.1).size + ((at' zs j).2.2).size ≤ tot zs := by
  have h1 := totTo_succ zs j h
  have h2 := totTo_mono zs (j + 1) zs.length (by omega) (Nat.le_refl _)
  rw [totTo_all] at h2
  omega
theorem sz_one (A : Int) (B : ByteArray) (C : ByteArray) (left : Int) (w : World) (h0 : 0 ≤ left) (h1 : left ≤ 1048576) (g1 : B.size ≤ maxLen) (g2 : C.size ≤ maxLen) :
    Calls Tryd.prog 28 #[.agg #[.int .i64 A, .string B, .string C], .int .i64 left] w fun e w' => e = .returned (.int .i64 (if left - (B.size : Int) - (C.size : Int) < 0 then -1 else left - (B.size : Int) - (C.size : Int))) ∧ Below w.heap.size w w' := by
  unfold maxLen at g1 g2
  by_cases c1 : left - (B.size : Int) < 0
  · rw [if_pos (by omega)]
    go_enter Tryd.func28, Tryd.ntmps28
    go_wp2
    go_ret
    exact ⟨rfl, (Below.refl _ _).alloc (Nat.le_refl _) _⟩
  by_cases c2 : left - (B.size : Int) - (C.size : Int) < 0
  · rw [if_pos (by omega)]
    go_enter Tryd.func28, Tryd.ntmps28
    go_wp2
    go_ret
    exact ⟨rfl, (Below.refl _ _).alloc (Nat.le_refl _) _⟩
  rw [if_neg (by omega)]
  go_enter Tryd.func28, Tryd.ntmps28
  go_wp2
  go_ret
  exact ⟨rfl, (Below.refl _ _).alloc (Nat.le_refl _) _⟩
set_option maxRecDepth 100000 in
set_option maxHeartbeats 2000000 in
theorem sz_any {w : World} {v : Value} {zs : List E} (left : Int) (h : Is w v zs) (hlm : zs.length ≤ maxLen) (hg : ∀ x ∈ zs, good x) (h0 : 0 ≤ left) (h1 : left ≤ 1048576) :
    Calls Tryd.prog 13 #[v, .int .i64 left] w fun e w' => e = .returned (.int .i64 (if left - (tot zs : Int) < 0 then -1 else left - (tot zs : Int))) ∧ Below w.heap.size w w' := by
  obtain ⟨-, a, cap, rfl, hc, hm, -, hr⟩ := h
  have HT := hide (tot_len zs)
  unfold maxLen at hm hlm
  obtain ⟨n, hn⟩ : ∃ n, n = zs.length := ⟨_, rfl⟩
  rw [← hn] at hc hr hlm ⊢
  have HN := hide hn
  have HG := hide hg
  have T0 := hide (show totTo zs 0 = n by rw [hn]; rfl)
  clear hn hg
  by_cases hn0 : left - (n : Int) < 0
  · rw [if_pos (by have := unhide HT; have := unhide HN; omega)]
    go_enter Tryd.func13, Tryd.ntmps13
    go_wp2
    go_ret
    exact ⟨rfl, Below.refl _ _⟩
  obtain ⟨R, hR⟩ : ∃ R : Int, R = if left - (tot zs : Int) < 0 then -1 else left - (tot zs : Int) := ⟨_, rfl⟩
  rw [← hR]
  have HR := hide hR
  clear hR
  go_enter Tryd.func13, Tryd.ntmps13
  go_wp2
  go_loopw [1, 5] (fun lv i wr => ∃ (j : Nat), j ≤ n ∧ i = .int .i64 j ∧ lv = .int .i64 (left - (totTo zs j : Int)) ∧ 0 ≤ left - (totTo zs j : Int) ∧ Below w.heap.size w wr) (fun _ i _ => n - (intOf i).toNat)
  case atStart => exact ⟨0, Nat.zero_le _, rfl, by rw [unhide T0], by rw [unhide T0]; omega, Below.refl _ _⟩
  case round =>
    obtain ⟨j, hj, rfl, rfl, hleft, hbel⟩ := hrel
    have hsz := hbel.size
    by_cases hlt : j < n
    · obtain ⟨b, off, rfl, hl, hcells⟩ := hr (by omega)
      have fa := flat_at zs j (by have := unhide HN; omega)
      have HTS := totTo_succ zs j (by have := unhide HN; omega)
      have gd := unhide HG (at' zs j) (by rw [at_get zs j (by have := unhide HN; omega)]; exact List.getElem_mem _)
      have HLe := hide (show totTo zs (j + 1) ≤ tot zs by rw [← totTo_all]; exact totTo_mono zs _ _ (by have := unhide HN; omega) (Nat.le_refl _))
      obtain ⟨A, B, C, hX⟩ : ∃ A B C, (A, B, C) = at' zs j := ⟨_, _, _, rfl⟩
      rw [← hX] at fa HTS gd
      have hc0 : wr.cell? ⟨b, off + j * 3, none⟩ = some (.int .i64 A) := (hbel.cell (p := ⟨b, _, none⟩) hl).trans (hcells (j * 3) _ fa.1)
      have hc1 : wr.cell? ⟨b, off + j * 3 + 1, none⟩ = some (.string B) := (hbel.cell (p := ⟨b, _, none⟩) hl).trans (hcells (j * 3 + 1) _ fa.2.1)
      have hc2 : wr.cell? ⟨b, off + j * 3 + 2, none⟩ = some (.string C) := (hbel.cell (p := ⟨b, _, none⟩) hl).trans (hcells (j * 3 + 2) _ fa.2.2)
      have hk0 : (0 : Int) ≤ (j : Int) := Int.natCast_nonneg _
      have hk1 : (j : Int) < (n : Int) := by omega
      have HTS' := hide (show totTo zs (j + 1) = totTo zs j + (B.size + C.size) from HTS)
      have HOne := hide (fun W => sz_one A B C (left - (totTo zs j : Int)) W hleft (by omega) gd.2.1 gd.2.2)
      clear hX fa HTS gd
      generalize totTo zs j = Q at *
      go_wp2_with fail
      refine (unhide HOne _).mono ?_
      rintro e w2 ⟨rfl, b2⟩
      by_cases hneg : left - (Q : Int) - (B.size : Int) - (C.size : Int) < 0
      · rw [if_pos hneg]
        have HRn := hide (show R = -1 by rw [unhide HR, if_pos]; have := unhide HLe; have := unhide HTS'; omega)
        go_wp2
        go_ret
        exact ⟨ret_int (unhide HRn).symm, hbel.trans (b2.mono hsz)⟩
      · rw [if_neg hneg]
        have hle0 : 0 ≤ left - (Q : Int) - (B.size : Int) - (C.size : Int) := by omega
        go_wp2
        go_roundw
        case rel => exact ⟨j + 1, by omega, by go_num, by rw [unhide HTS']; go_num, by rw [unhide HTS']; omega, hbel.trans (b2.mono hsz)⟩
        case measure => simp [intOf]; omega
    · obtain rfl : j = n := by omega
      have HRp := hide (show R = left - (totTo zs j : Int) by rw [unhide HR]; have e := totTo_all zs; rw [← unhide HN] at e; rw [← e, if_neg (by omega)])
      go_wp2
      go_ret
      exact ⟨ret_int (unhide HRp).symm, hbel⟩
end Go.Proofs.YtamjliaeikoemaaDoor.Mat

/- What the laws' own helpers do with impl.Rec: it is copied, held against another, and counted. -/
namespace Go.Proofs.YtamjliaeikoemaaDoor.Rec
open Go.RowKit Rw
set_option linter.unusedVariables false
attribute [local go_sem ↓] Go.wp_at_zero Go.wp_at_succ
abbrev E := Int × List Ent.E × List Mat.E × Int × Int
abbrev C := Value × Value × Value × Value × Value
def Elem (w : World) (c : C) (x : E) : Prop := c.1 = .int .i64 (x.1) ∧ Ent.Is w (c.2.1) (x.2.1) ∧ Mat.Is w (c.2.2.1) (x.2.2.1) ∧ c.2.2.2.1 = .int .i64 (x.2.2.2.1) ∧ c.2.2.2.2 = .int .i64 (x.2.2.2.2)
theorem Elem.below {w w' : World} {c : C} {x : E} (h : Elem w c x) (hb : Below w.heap.size w w') : Elem w' c x := ⟨h.1, (h.2.1).below hb, (h.2.2.1).below hb, h.2.2.2.1, h.2.2.2.2⟩
def good (x : E) : Prop := (Lit.int .i64 (x.1)).wf = true ∧ ((x.2.1).length ≤ maxLen ∧ ∀ y ∈ x.2.1, Ent.good y) ∧ ((x.2.2.1).length ≤ maxLen ∧ ∀ y ∈ x.2.2.1, Mat.good y) ∧ (Lit.int .i64 (x.2.2.2.1)).wf = true ∧ (Lit.int .i64 (x.2.2.2.2)).wf = true
set_option maxRecDepth 100000 in
theorem open_cells {H : Type} {enc : TypeId × Value → H} {W : World} {n : Nat} {cs : List Value} {y : DataW H × List MemPlace} (h : DataW.trod enc Tryd.prog W 0 (fun _ => true) true n 25 cs = some y) : ∃ (c : C) (x : E), cs = [c.1, c.2.1, c.2.2.1, c.2.2.2.1, c.2.2.2.2] ∧ Elem W c x ∧ good x := by
  have hl : cs.length = 5 := by
    obtain ⟨xs, m, -, -, hl, hxl, hf⟩ := DataW.trod_struct Tryd.underlying25 h
    rw [hl]; kernel_rfl
  obtain ⟨xs, m, -, -, -, hxl, hf⟩ := DataW.trod_struct Tryd.underlying25 h
  match cs, hl, xs, hxl with
  | [c0, c1, c2, c3, c4], _, [y0, y1, y2, y3, y4], _ =>
    have g0 := hf 0 _ rfl
    have g1 := hf 1 _ rfl
    have g2 := hf 2 _ rfl
    have g3 := hf 3 _ rfl
    have g4 := hf 4 _ rfl
    have ce0 : Tryd.prog.cellsOf 3 = 1 := by kernel_rfl
    have ce1 : Tryd.prog.cellsOf 22 = 1 := by kernel_rfl
    have ce2 : Tryd.prog.cellsOf 23 = 1 := by kernel_rfl
    simp [ce0, ce1, ce2] at g0 g1 g2 g3 g4
    obtain ⟨s0, e0, -, w0⟩ := DataW.trod_int Tryd.underlying3 g0
    simp only [List.cons.injEq, and_true] at e0
    obtain ⟨a1, l1, k1, e1, t1⟩ := slice_cell Tryd.underlying22 g1
    obtain ⟨s1, n1, m1, i1, w1⟩ := Ent.open_arg t1
    obtain ⟨a2, l2, k2, e2, t2⟩ := slice_cell Tryd.underlying23 g2
    obtain ⟨s2, n2, m2, i2, w2⟩ := Mat.open_arg t2
    rw [← n2] at i2
    obtain ⟨s3, e3, -, w3⟩ := DataW.trod_int Tryd.underlying3 g3
    simp only [List.cons.injEq, and_true] at e3
    obtain ⟨s4, e4, -, w4⟩ := DataW.trod_int Tryd.underlying3 g4
    simp only [List.cons.injEq, and_true] at e4
    subst e0 e1 e2 e3 e4
    subst n1
    subst n2
    exact ⟨(.int .i64 s0, .slice a1 s1.length k1, .slice a2 s2.length k2, .int .i64 s3, .int .i64 s4), (s0, s1, s2, s3, s4), rfl, ⟨rfl, i1, i2, rfl, rfl⟩, ⟨w0, ⟨m1, w1⟩, ⟨m2, w2⟩, w3, w4⟩⟩
def tiny (x : E) : Prop := ((x.2.1).length ≤ 2097152 ∧ ∀ y ∈ x.2.1, Ent.tiny y) ∧ (x.2.2.1).length ≤ 4194304
set_option maxHeartbeats 2000000 in
theorem to_one {c : C} {x : E} {w : World} (h : Elem w c x) (ht : tiny x) : Calls Tryd.prog 7 #[.agg #[c.1, c.2.1, c.2.2.1, c.2.2.2.1, c.2.2.2.2]] w fun e w' => ∃ c' : C, e = .returned (.agg #[c'.1, c'.2.1, c'.2.2.1, c'.2.2.2.1, c'.2.2.2.2]) ∧ Elem w' c' x ∧ Below w.heap.size w w' := by
  obtain ⟨c0, c1, c2, c3, c4⟩ := c
  obtain ⟨h0, h1, h2, h3, h4⟩ := h
  simp only at h0 h1 h2 h3 h4
  subst h0
  subst h3
  subst h4
  have T1 := hide (fun W (hb : Below w.heap.size w W) => Ent.to_any (h1.below hb) (ht.1).1 (ht.1).2)
  have T2 := hide (fun W (hb : Below w.heap.size w W) => Mat.to_any (h2.below hb) (ht.2))
  clear h1 h2 ht
  obtain ⟨l1, hl1⟩ : ∃ l, l = (x.2.1).length := ⟨_, rfl⟩
  rw [← hl1] at T1
  have HL1 := hide hl1
  clear hl1
  obtain ⟨l2, hl2⟩ : ∃ l, l = (x.2.2.1).length := ⟨_, rfl⟩
  rw [← hl2] at T2
  have HL2 := hide hl2
  clear hl2
  obtain ⟨N0, hN0⟩ : ∃ N, N = x.1 := ⟨_, rfl⟩
  rw [← hN0]
  have HN0 := hide hN0
  clear hN0
  obtain ⟨N3, hN3⟩ : ∃ N, N = x.2.2.2.1 := ⟨_, rfl⟩
  rw [← hN3]
  have HN3 := hide hN3
  clear hN3
  obtain ⟨N4, hN4⟩ : ∃ N, N = x.2.2.2.2 := ⟨_, rfl⟩
  rw [← hN4]
  have HN4 := hide hN4
  clear hN4
  have B := (((Below.refl w.heap.size w).alloc (Nat.le_refl _) (.cells #[.int .i64 N0, c1, c2, .int .i64 N3, .int .i64 N4] 25)).alloc (by simp) (.cells #[.int .i64 0, .slice none 0 0, .slice none 0 0, .int .i64 0, .int .i64 0] 31)).alloc (by simp; omega) (.cells #[.int .i64 N0, .slice none 0 0, .slice none 0 0, .int .i64 0, .int .i64 0] 31)
  go_enter Tryd.func7, Tryd.ntmps7
  go_wp2_with fail
  refine (unhide T1 _ B).mono ?_
  rintro e v1 ⟨rfl, r1, b1⟩
  obtain ⟨bc1, bf1⟩ := bcell b1
  have z1 := b1.size
  have B1 := B.trans (b1.mono B.size)
  simp only [World.size_alloc] at z1 bc1 bf1 r1 ⊢
  clear b1
  have I1 := hide r1
  clear r1
  have Bs1 := B1.setCell (p := ⟨w.heap.size + 1 + 1, 1, none⟩) (by show w.heap.size ≤ w.heap.size + 1 + 1; omega) (.slice (some ⟨w.heap.size + 1 + 1 + 1, 0, none⟩) l1 l1)
  clear B1
  have I1 := hide ((unhide I1).only ((OnlyAt.refl (w.heap.size + 1 + 1) _).setCell 1 (.slice (some ⟨w.heap.size + 1 + 1 + 1, 0, none⟩) l1 l1)) (by omega))
  go_wp2_with fail
  refine (unhide T2 _ Bs1).mono ?_
  rintro e v2 ⟨rfl, r2, b2⟩
  obtain ⟨bc2, bf2⟩ := bcell b2
  have z2 := b2.size
  have B2 := Bs1.trans (b2.mono Bs1.size)
  have I1 := hide ((unhide I1).below b2)
  simp only [World.size_setCell] at z2 bc2 bf2 r2 ⊢
  clear b2
  have bd2 : ∀ b o, b < w.heap.size + 1 + 1 + 1 → v2.cell? ⟨b, o, none⟩ = _ := fun b o h => bc2 b o (by omega)
  have be2 : ∀ b o, b < w.heap.size + 1 + 1 + 1 → v2.frozen? ⟨b, o, none⟩ = v1.frozen? ⟨b, o, none⟩ := fun b o h => (bf2 b o (by omega)).trans (World.frozen?_setCell _ _ _ _)
  clear bc2 bf2
  have I2 := hide (show Mat.Is v2 (.slice (some ⟨v1.heap.size, 0, none⟩) l2 l2) (x.2.2.1) by rw [unhide HL2] at r2 ⊢; exact Mat.is_of_own r2)
  clear r2
  have Bs2 := B2.setCell (p := ⟨w.heap.size + 1 + 1, 2, none⟩) (by show w.heap.size ≤ w.heap.size + 1 + 1; omega) (.slice (some ⟨v1.heap.size, 0, none⟩) l2 l2)
  clear B2
  have I1 := hide ((unhide I1).only ((OnlyAt.refl (w.heap.size + 1 + 1) _).setCell 2 (.slice (some ⟨v1.heap.size, 0, none⟩) l2 l2)) (by omega))
  have I2 := hide (((OnlyAt.refl (w.heap.size + 1 + 1) _).setCell 2 (.slice (some ⟨v1.heap.size, 0, none⟩) l2 l2)).lies (unhide I2) (fun k hk => by cases hk; dsimp only; omega))
  have Bs3 := Bs2.setCell (p := ⟨w.heap.size + 1 + 1, 3, none⟩) (by show w.heap.size ≤ w.heap.size + 1 + 1; omega) (.int .i64 N3)
  clear Bs2
  have I1 := hide ((unhide I1).only ((OnlyAt.refl (w.heap.size + 1 + 1) _).setCell 3 (.int .i64 N3)) (by omega))
  have I2 := hide (((OnlyAt.refl (w.heap.size + 1 + 1) _).setCell 3 (.int .i64 N3)).lies (unhide I2) (fun k hk => by cases hk; dsimp only; omega))
  have Bs4 := Bs3.setCell (p := ⟨w.heap.size + 1 + 1, 4, none⟩) (by show w.heap.size ≤ w.heap.size + 1 + 1; omega) (.int .i64 N4)
  clear Bs3
  have I1 := hide ((unhide I1).only ((OnlyAt.refl (w.heap.size + 1 + 1) _).setCell 4 (.int .i64 N4)) (by omega))
  have I2 := hide (((OnlyAt.refl (w.heap.size + 1 + 1) _).setCell 4 (.int .i64 N4)).lies (unhide I2) (fun k hk => by cases hk; dsimp only; omega))
  have Br0 := Bs4.setCell (p := ⟨w.heap.size + 1, 0, none⟩) (by show w.heap.size ≤ w.heap.size + 1; omega) (.int .i64 N0)
  clear Bs4
  have I1 := hide ((unhide I1).only ((OnlyAt.refl (w.heap.size + 1) _).setCell 0 (.int .i64 N0)) (by omega))
  have I2 := hide (((OnlyAt.refl (w.heap.size + 1) _).setCell 0 (.int .i64 N0)).lies (unhide I2) (fun k hk => by cases hk; dsimp only; omega))
  have Br1 := Br0.setCell (p := ⟨w.heap.size + 1, 1, none⟩) (by show w.heap.size ≤ w.heap.size + 1; omega) (.slice (some ⟨w.heap.size + 1 + 1 + 1, 0, none⟩) l1 l1)
  clear Br0
  have I1 := hide ((unhide I1).only ((OnlyAt.refl (w.heap.size + 1) _).setCell 1 (.slice (some ⟨w.heap.size + 1 + 1 + 1, 0, none⟩) l1 l1)) (by omega))
  have I2 := hide (((OnlyAt.refl (w.heap.size + 1) _).setCell 1 (.slice (some ⟨w.heap.size + 1 + 1 + 1, 0, none⟩) l1 l1)).lies (unhide I2) (fun k hk => by cases hk; dsimp only; omega))
  have Br2 := Br1.setCell (p := ⟨w.heap.size + 1, 2, none⟩) (by show w.heap.size ≤ w.heap.size + 1; omega) (.slice (some ⟨v1.heap.size, 0, none⟩) l2 l2)
  clear Br1
  have I1 := hide ((unhide I1).only ((OnlyAt.refl (w.heap.size + 1) _).setCell 2 (.slice (some ⟨v1.heap.size, 0, none⟩) l2 l2)) (by omega))
  have I2 := hide (((OnlyAt.refl (w.heap.size + 1) _).setCell 2 (.slice (some ⟨v1.heap.size, 0, none⟩) l2 l2)).lies (unhide I2) (fun k hk => by cases hk; dsimp only; omega))
  have Br3 := Br2.setCell (p := ⟨w.heap.size + 1, 3, none⟩) (by show w.heap.size ≤ w.heap.size + 1; omega) (.int .i64 N3)
  clear Br2
  have I1 := hide ((unhide I1).only ((OnlyAt.refl (w.heap.size + 1) _).setCell 3 (.int .i64 N3)) (by omega))
  have I2 := hide (((OnlyAt.refl (w.heap.size + 1) _).setCell 3 (.int .i64 N3)).lies (unhide I2) (fun k hk => by cases hk; dsimp only; omega))
  have Br4 := Br3.setCell (p := ⟨w.heap.size + 1, 4, none⟩) (by show w.heap.size ≤ w.heap.size + 1; omega) (.int .i64 N4)
  clear Br3
  have I1 := hide ((unhide I1).only ((OnlyAt.refl (w.heap.size + 1) _).setCell 4 (.int .i64 N4)) (by omega))
  have I2 := hide (((OnlyAt.refl (w.heap.size + 1) _).setCell 4 (.int .i64 N4)).lies (unhide I2) (fun k hk => by cases hk; dsimp only; omega))
  go_wp2
  refine bodyPost_ret (v := .agg #[(.int .i64 N0), (.slice (some ⟨w.heap.size + 1 + 1 + 1, 0, none⟩) l1 l1), (.slice (some ⟨v1.heap.size, 0, none⟩) l2 l2), (.int .i64 N3), (.int .i64 N4)]) (by simp [results, Tryd.results7, go_sem, bc1, bd2]) rfl ⟨((.int .i64 N0), (.slice (some ⟨w.heap.size + 1 + 1 + 1, 0, none⟩) l1 l1), (.slice (some ⟨v1.heap.size, 0, none⟩) l2 l2), (.int .i64 N3), (.int .i64 N4)), rfl, ⟨by simp only; rw [unhide HN0], (unhide I1).is, unhide I2, by simp only; rw [unhide HN3], by simp only; rw [unhide HN4]⟩, Br4⟩
set_option maxHeartbeats 2000000 in
theorem eq_one {c d : C} {x : E} {w : World} (h : Elem w c x) (h' : Elem w d x) : Calls Tryd.prog 9 #[.agg #[c.1, c.2.1, c.2.2.1, c.2.2.2.1, c.2.2.2.2], .agg #[d.1, d.2.1, d.2.2.1, d.2.2.2.1, d.2.2.2.2]] w fun e w' => e = .returned (.bool true) ∧ Below w.heap.size w w' := by
  obtain ⟨c0, c1, c2, c3, c4⟩ := c
  obtain ⟨d0, d1, d2, d3, d4⟩ := d
  obtain ⟨h0, h1, h2, h3, h4⟩ := h
  obtain ⟨g0, g1, g2, g3, g4⟩ := h'
  simp only at h0 h1 h2 h3 h4 g0 g1 g2 g3 g4
  subst h0 g0
  subst h3 g3
  subst h4 g4
  have T1 := hide (fun W (hb : Below w.heap.size w W) => Ent.eq_any (h1.below hb) (g1.below hb))
  have T2 := hide (fun W (hb : Below w.heap.size w W) => Mat.eq_any (h2.below hb) (g2.below hb))
  clear h1 g1 h2 g2
  generalize x.1 = N0
  generalize x.2.2.2.1 = N3
  generalize x.2.2.2.2 = N4
  have B := ((Below.refl w.heap.size w).alloc (Nat.le_refl _) (.cells #[.int .i64 N0, c1, c2, .int .i64 N3, .int .i64 N4] 31)).alloc (by simp) (.cells #[.int .i64 N0, d1, d2, .int .i64 N3, .int .i64 N4] 31)
  go_enter Tryd.func9, Tryd.ntmps9
  go_wp2_with fail
  refine (unhide T1 _ B).mono ?_
  rintro e v1 ⟨rfl, b1⟩
  obtain ⟨bc1, bf1⟩ := bcell b1
  have z1 := b1.size
  have B1 := B.trans (b1.mono B.size)
  simp only [World.size_alloc] at z1 bc1 bf1
  go_wp2_with fail
  refine (unhide T2 _ B1).mono ?_
  rintro e v2 ⟨rfl, b2⟩
  obtain ⟨bc2, bf2⟩ := bcell b2
  have z2 := b2.size
  have B2 := B1.trans (b2.mono B1.size)
  have bd2 : ∀ b o, b < w.heap.size + 1 + 1 → v2.cell? ⟨b, o, none⟩ = v1.cell? ⟨b, o, none⟩ := fun b o h => bc2 b o (by omega)
  clear bc2 bf2
  go_wp2
  go_ret
  exact ⟨rfl, B2⟩
def tot (x : E) : Nat := Ent.tot (x.2.1) + Mat.tot (x.2.2.1)
set_option maxHeartbeats 2000000 in
theorem sz_one {c : C} {x : E} {w : World} (left : Int) (h : Elem w c x) (hg : good x) (h0 : 0 ≤ left) (h1 : left ≤ 1048576) :
    Calls Tryd.prog 5 #[.agg #[c.1, c.2.1, c.2.2.1, c.2.2.2.1, c.2.2.2.2], .int .i64 left] w fun e w' => e = .returned (.int .i64 (if left - (tot x : Int) < 0 then -1 else left - (tot x : Int))) ∧ Below w.heap.size w w' := by
  obtain ⟨c0, c1, c2, c3, c4⟩ := c
  obtain ⟨e0, e1, e2, e3, e4⟩ := h
  obtain ⟨g0, g1, g2, g3, g4⟩ := hg
  simp only at e0 e1 e2 e3 e4
  subst e0
  subst e3
  subst e4
  have T1 := hide (fun W (hb : Below w.heap.size w W) (l : Int) (p0 : 0 ≤ l) (p1 : l ≤ 1048576) => Ent.sz_any l (e1.below hb) g1.1 g1.2 p0 p1)
  obtain ⟨t1, ht1⟩ : ∃ t, t = Ent.tot (x.2.1) := ⟨_, rfl⟩
  rw [← ht1] at T1
  have T2 := hide (fun W (hb : Below w.heap.size w W) (l : Int) (p0 : 0 ≤ l) (p1 : l ≤ 1048576) => Mat.sz_any l (e2.below hb) g2.1 g2.2 p0 p1)
  obtain ⟨t2, ht2⟩ : ∃ t, t = Mat.tot (x.2.2.1) := ⟨_, rfl⟩
  rw [← ht2] at T2
  have HS : tot x = t1 + t2 := by unfold tot; rw [ht1, ht2]
  rw [HS]
  clear HS ht1 e1 g1 ht2 e2 g2 g0 g3 g4
  generalize x.1 = N0
  generalize x.2.2.2.1 = N3
  generalize x.2.2.2.2 = N4
  have B := (Below.refl w.heap.size w).alloc (Nat.le_refl _) (.cells #[.int .i64 N0, c1, c2, .int .i64 N3, .int .i64 N4] 25)
  by_cases k1 : left - (t1 : Int) < 0
  · rw [if_pos (by omega)]
    go_enter Tryd.func5, Tryd.ntmps5
    go_wp2_with fail
    refine (unhide T1 _ B (left) (by omega) (by omega)).mono ?_
    rintro e v1 ⟨rfl, b1⟩
    have B1 := B.trans (b1.mono B.size)
    obtain ⟨bc1, bf1⟩ := bcell b1
    have z1 := b1.size
    simp only [World.size_alloc] at z1 bc1 bf1
    rw [if_pos (by omega)]
    go_wp2_with fail
    go_ret
    exact ⟨rfl, B1⟩
  by_cases k2 : left - (t1 : Int) - (t2 : Int) < 0
  · rw [if_pos (by omega)]
    go_enter Tryd.func5, Tryd.ntmps5
    go_wp2_with fail
    refine (unhide T1 _ B (left) (by omega) (by omega)).mono ?_
    rintro e v1 ⟨rfl, b1⟩
    have B1 := B.trans (b1.mono B.size)
    obtain ⟨bc1, bf1⟩ := bcell b1
    have z1 := b1.size
    simp only [World.size_alloc] at z1 bc1 bf1
    rw [if_neg (by omega)]
    have n1 : 0 ≤ left - (t1 : Int) := by omega
    go_wp2_with fail
    refine (unhide T2 _ B1 (left - (t1 : Int)) (by omega) (by omega)).mono ?_
    rintro e v2 ⟨rfl, b2⟩
    have B2 := B1.trans (b2.mono B1.size)
    obtain ⟨bc2, bf2⟩ := bcell b2
    have z2 := b2.size
    have bd2 : ∀ b o, b < w.heap.size + 1 → v2.cell? ⟨b, o, none⟩ = v1.cell? ⟨b, o, none⟩ := fun b o h => bc2 b o (by omega)
    clear bc2 bf2
    rw [if_pos (by omega)]
    go_wp2_with fail
    go_ret
    exact ⟨rfl, B2⟩
  rw [if_neg (by omega), show left - ((t1 + t2 : Nat) : Int) = left - (t1 : Int) - (t2 : Int) from by omega]
  go_enter Tryd.func5, Tryd.ntmps5
  go_wp2_with fail
  refine (unhide T1 _ B (left) (by omega) (by omega)).mono ?_
  rintro e v1 ⟨rfl, b1⟩
  have B1 := B.trans (b1.mono B.size)
  obtain ⟨bc1, bf1⟩ := bcell b1
  have z1 := b1.size
  simp only [World.size_alloc] at z1 bc1 bf1
  rw [if_neg (by omega)]
  have n1 : 0 ≤ left - (t1 : Int) := by omega
  go_wp2_with fail
  refine (unhide T2 _ B1 (left - (t1 : Int)) (by omega) (by omega)).mono ?_
  rintro e v2 ⟨rfl, b2⟩
  have B2 := B1.trans (b2.mono B1.size)
  obtain ⟨bc2, bf2⟩ := bcell b2
  have z2 := b2.size
  have bd2 : ∀ b o, b < w.heap.size + 1 → v2.cell? ⟨b, o, none⟩ = v1.cell? ⟨b, o, none⟩ := fun b o h => bc2 b o (by omega)
  clear bc2 bf2
  rw [if_neg (by omega)]
  have n2 : 0 ≤ left - (t1 : Int) - (t2 : Int) := by omega
  go_wp2_with fail
  go_ret
  exact ⟨rfl, B2⟩
end Go.Proofs.YtamjliaeikoemaaDoor.Rec

/- Letters, names, words and labels, as plain mathematics. No condition. -/
namespace Go.Proofs.YtamjliaeikoemaaDoor.Lab
open Go.RowKit Rw
def letter (b : UInt8) : Bool := decide (97 ≤ b.toNat) && decide (b.toNat ≤ 122)
def letters (s : ByteArray) : Bool := s.data.toList.all letter
def notL (r : Nat) : Bool := decide (r < 97) || decide (122 < r)
theorem notL_of {b : UInt8} : notL b.toNat = !letter b := by
  unfold notL letter
  by_cases h1 : 97 ≤ b.toNat <;> by_cases h2 : b.toNat ≤ 122
  · have a1 : ¬ b.toNat < 97 := by omega
    have a2 : ¬ 122 < b.toNat := by omega
    simp [h1, h2, a1, a2]
  · have a1 : ¬ b.toNat < 97 := by omega
    have a2 : 122 < b.toNat := by omega
    simp [h2, a2]
  · have a1 : b.toNat < 97 := by omega
    simp [h1, a1]
  · omega
theorem idx_from (s : ByteArray) : ∀ (f pos : Nat), s.size ≤ pos + f → decide (Lib.idxFuncFrom notL true s f pos < 0) = (s.data.toList.drop pos).all letter
  | 0, pos, h => by
    have hl : s.data.toList.length = s.size := Array.length_toList
    have e : s.data.toList.drop pos = [] := List.drop_eq_nil_of_le (by omega)
    rw [e]
    rfl
  | f + 1, pos, h => by
    have hl : s.data.toList.length = s.size := Array.length_toList
    unfold Lib.idxFuncFrom
    by_cases hp : pos < s.size
    · rw [if_pos hp, List.drop_eq_getElem_cons (by omega), List.all_cons]
      have eb : s.data.toList[pos]'(by omega) = s[pos]'hp := rfl
      rw [eb]
      by_cases ha : (s[pos]'hp).toNat < 128
      · rw [decode_ascii s pos hp ha]
        have hn := notL_of (b := s[pos]'hp)
        rw [hn]
        cases hc : letter (s[pos]'hp)
        · have : ¬ (pos : Int) < 0 := by omega
          simp [this]
        · simp only [Bool.not_true, Bool.false_eq_true, if_false, Bool.true_and]
          exact idx_from s f (pos + 1) (by omega)
      · have hd := decode_high s pos hp (by omega)
        have hn : notL (Utf8.decode s pos).1 = true := by
          have : 122 < (Utf8.decode s pos).1 := by omega
          simp [notL, this]
        rw [if_pos hn]
        have hc : letter (s[pos]'hp) = false := by
          have : ¬ (s[pos]'hp).toNat ≤ 122 := by omega
          simp [letter, this]
        have : ¬ (pos : Int) < 0 := by omega
        simp [this, hc]
    · rw [if_neg hp, List.drop_eq_nil_of_le (by omega)]
      rfl
theorem idx_letters (s : ByteArray) : decide (Lib.idxFunc notL true s < 0) = letters s := by
  have := idx_from s s.size 0 (by omega)
  rw [List.drop_zero] at this
  exact this
def nameB (s : ByteArray) : Bool := decide (1 ≤ s.size) && decide (s.size ≤ 6) && letters s
def wordB (s : ByteArray) : Bool := decide (s.size ≤ 8) && letters s
def ltS (a b : ByteArray) : Bool := Op.bytesLess a.toList b.toList
def stepOk (zs : List E) (i : Nat) : Bool := nameB (at' zs i).1 && wordB (at' zs i).2 && decide (0 < (at' zs i).2.size) && (i == 0 || ltS (at' zs (i - 1)).1 (at' zs i).1)
def okTo (zs : List E) (k : Nat) : Bool := (List.range k).all (stepOk zs)
def ok (zs : List E) : Bool := decide (1 ≤ zs.length) && decide (zs.length ≤ 4) && okTo zs zs.length
theorem okTo_succ (zs : List E) (k : Nat) : okTo zs (k + 1) = (okTo zs k && stepOk zs k) := by simp [okTo, List.range_succ]
theorem ok_of_bad {zs : List E} {k : Nat} (hk : k < zs.length) (h : stepOk zs k = false) : ok zs = false := by
  have : okTo zs zs.length = false := by unfold okTo; rw [List.all_eq_false]; exact ⟨k, List.mem_range.2 hk, by simp [h]⟩
  unfold ok; rw [this, Bool.and_false]
theorem ok_of_len {zs : List E} (h : zs.length < 1 ∨ 4 < zs.length) : ok zs = false := by
  unfold ok
  rcases h with h | h
  · have : decide (1 ≤ zs.length) = false := decide_eq_false (by omega)
    rw [this]; rfl
  · have : decide (zs.length ≤ 4) = false := decide_eq_false (by omega)
    rw [this, Bool.and_false]; rfl
theorem ok_all {zs : List E} (h1 : 1 ≤ zs.length) (h4 : zs.length ≤ 4) (h : okTo zs zs.length = true) : ok zs = true := by
  unfold ok; rw [decide_eq_true h1, decide_eq_true h4, h]; rfl
theorem step_yes {zs : List E} {k : Nat} (h1 : nameB (at' zs k).1 = true) (h2 : wordB (at' zs k).2 = true) (h3 : 0 < (at' zs k).2.size) (h4 : k = 0 ∨ ltS (at' zs (k - 1)).1 (at' zs k).1 = true) : stepOk zs k = true := by
  unfold stepOk
  rw [h1, h2, decide_eq_true h3]
  rcases h4 with rfl | h4
  · rfl
  · rw [h4, Bool.or_true]; rfl
theorem step_name {zs : List E} {k : Nat} (h : nameB (at' zs k).1 = false) : stepOk zs k = false := by unfold stepOk; rw [h]; rfl
theorem step_word {zs : List E} {k : Nat} (h : wordB (at' zs k).2 = false) : stepOk zs k = false := by unfold stepOk; rw [h, Bool.and_false]; rfl
theorem step_empty {zs : List E} {k : Nat} (h : (at' zs k).2.size = 0) : stepOk zs k = false := by unfold stepOk; rw [h, show decide (0 < 0) = false from rfl, Bool.and_false]; rfl
theorem step_late {zs : List E} {k : Nat} (hk : 0 < k) (h : ltS (at' zs (k - 1)).1 (at' zs k).1 = false) : stepOk zs k = false := by
  have h0 : (k == 0) = false := by simp; omega
  unfold stepOk; rw [h, h0, Bool.false_or, Bool.and_false]
end Go.Proofs.YtamjliaeikoemaaDoor.Lab
