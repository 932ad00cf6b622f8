/- My own texts of one claim, laid together by program: RowTop, RowTop2, RowTop3, FnTopWalk. -/
import Derived.Test.YtdggffcibcggoaaGc277121915
import Derived.Test.YtdggffcibcggoaaG0844c8478d
import Derived.Test.YtdggffcibcggoaaG13e63f4cee
import Derived.Test.YtdggffcibcggoaaG7f9f9a560f
import Derived.Test.YtdggffcibcggoaaG4e601fc9b0
/- What Top answers, of the program and of the model, at all rows. -/
namespace Go.Proofs.Ytdggffcibcggoaa.Row
open Go.RowKit Rw
set_option linter.unusedVariables false
attribute [local go_sem ↓] Go.wp_at_zero Go.wp_at_succ
structure At (w : World) (b off k : Nat) (x : E) (a0 : Option Addr) (ll q0 b1 o1 m q1 : Nat) : Prop where
  bl : b < w.heap.size
  c0 : w.cell? ⟨b, off + k * 2, none⟩ = some (.slice a0 ll q0)
  c1 : w.cell? ⟨b, off + k * 2 + 1, none⟩ = some (.slice (some ⟨b1, o1, none⟩) (m + 1) q1)
  b1l : b1 < w.heap.size
  le : m + 1 ≤ q1
  mx : q1 ≤ 9223372036854775807
  m9 : m ≤ 999
  last : w.cell? ⟨b1, o1 + m * 2 + 1, none⟩ = some (.int .i64 (lastV x))
  el : Elem w (.slice a0 ll q0, .slice (some ⟨b1, o1, none⟩) (m + 1) q1) x
theorem At.below {w w' : World} {b off k : Nat} {x : E} {a0 : Option Addr} {ll q0 b1 o1 m q1 : Nat} (h : At w b off k x a0 ll q0 b1 o1 m q1) (hb : Below w.heap.size w w') : At w' b off k x a0 ll q0 b1 o1 m q1 :=
  ⟨Nat.lt_of_lt_of_le h.bl hb.size, (hb.cell (p := ⟨b, _, none⟩) h.bl).trans h.c0, (hb.cell (p := ⟨b, _, none⟩) h.bl).trans h.c1, Nat.lt_of_lt_of_le h.b1l hb.size, h.le, h.mx, h.m9, (hb.cell (p := ⟨b1, _, none⟩) h.b1l).trans h.last, h.el.below hb⟩
theorem row_at {w : World} {a : Option Addr} {n cap : Nat} {zs : List E} (h : Is w (.slice a n cap) zs) (hok : ok zs = true) {k : Nat} (hk : k < zs.length) :
    ∃ b off, a = some ⟨b, off, none⟩ ∧ ∃ a0 ll q0 b1 o1 m q1, At w b off k (at' zs k) a0 ll q0 b1 o1 m q1 := by
  obtain ⟨cs, hcs, hL, hE⟩ := h
  obtain ⟨-, a', cap', e, hc, hmx, -, hr⟩ := hL
  simp only [Value.slice.injEq] at e
  obtain ⟨rfl, -, rfl⟩ := e
  obtain ⟨b, off, rfl, hbl, hcells⟩ := hr (by omega)
  have fa := flat_at cs k (by omega)
  have hc0 := hcells (k * 2) _ fa.1
  have hc1 := hcells (k * 2 + 1) _ fa.2
  have hEk := hE k hk
  have hst := step_is (ok_at hok hk)
  obtain ⟨c0, c1, hY⟩ : ∃ c0 c1, (c0, c1) = cat cs k := ⟨_, _, rfl⟩
  rw [← hY] at hc0 hc1 hEk
  have hE1 : Lab.Is w c0 (at' zs k).1 := hEk.1
  have hE2 : Sam.Is w c1 (at' zs k).2 := hEk.2
  obtain ⟨-, a0, q0, e0, -⟩ := id hE1
  obtain ⟨-, a1, q1, e1, h1, h2, -, h3⟩ := id hE2
  obtain ⟨b1, o1, ea, hb1, hx⟩ := h3 (by omega)
  obtain ⟨m, hm⟩ : ∃ m, (at' zs k).2.length = m + 1 := ⟨(at' zs k).2.length - 1, by omega⟩
  subst ea
  rw [hm] at e1 h1
  subst e0 e1
  unfold maxLen at h2
  refine ⟨b, off, rfl, a0, (at' zs k).1.length, q0, b1, o1, m, q1, hbl, hc0, hc1, hb1, h1, by omega, by omega, ?_, hEk⟩
  have f2 := (Sam.flat_at (at' zs k).2 m (by omega)).2
  have := hx (m * 2 + 1) _ f2
  unfold lastV
  rw [hm]
  exact this
set_option maxRecDepth 100000 in
theorem last_any (a0 : Option Addr) (ll q0 b1 o1 m q1 : Nat) (V : Int) (w : World) (hb : b1 < w.heap.size) (h1 : m + 1 ≤ q1) (h2 : q1 ≤ 9223372036854775807) (h9 : m ≤ 999) (hc : w.cell? ⟨b1, o1 + m * 2 + 1, none⟩ = some (.int .i64 V)) :
    Calls Try.prog 113 #[.agg #[.slice a0 ll q0, .slice (some ⟨b1, o1, none⟩) (m + 1) q1]] w fun e w' => e = .returned (.int .i64 V) ∧ Below w.heap.size w w' := by
  have b0 : Below w.heap.size w (w.alloc (.cells #[.slice a0 ll q0, .slice (some ⟨b1, o1, none⟩) (m + 1) q1] 61)) := (Below.refl _ _).alloc (Nat.le_refl _) _
  have hc' : (w.alloc (.cells #[.slice a0 ll q0, .slice (some ⟨b1, o1, none⟩) (m + 1) q1] 61)).cell? ⟨b1, o1 + m * 2 + 1, none⟩ = some (.int .i64 V) := (b0.cell (p := ⟨b1, _, none⟩) hb).trans hc
  have B0 := hide b0
  have hm0 : (0 : Int) ≤ (m : Int) := Int.natCast_nonneg _
  have hm1 : (m : Int) < (m : Int) + 1 := by omega
  clear b0
  go_enter Try.func113, Try.ntmps113
  go_wp2
  go_ret
  exact ⟨rfl, unhide B0⟩
theorem ahead_gt {zs : List E} {j i : Nat} (h : lastV (at' zs i) < lastV (at' zs j)) : ahead zs j i = true := by unfold ahead; rw [decide_eq_true h]; rfl
theorem ahead_lt {zs : List E} {j i : Nat} (h : lastV (at' zs j) < lastV (at' zs i)) : ahead zs j i = false := by unfold ahead; rw [decide_eq_false (by omega), decide_eq_false (show ¬ lastV (at' zs j) = lastV (at' zs i) by omega)]; rfl
theorem ahead_eq {zs : List E} {j i : Nat} (h : lastV (at' zs j) = lastV (at' zs i)) : ahead zs j i = decide (j < i) := by unfold ahead; rw [decide_eq_false (by omega), decide_eq_true h, Bool.false_or, Bool.true_and]
set_option maxRecDepth 100000 in
set_option maxHeartbeats 4000000 in
theorem place_any {w : World} {a : Option Addr} {l cap : Nat} {zs : List E} (i : Nat) (h : Is w (.slice a l cap) zs) (hl : l = zs.length) (hcap : l ≤ cap ∧ cap ≤ 9223372036854775807) (hok : ok zs = true) (hi : i < l) :
    Calls Try.prog 75 #[.slice a l cap, .int .i64 i] w fun e w' => e = .returned (.int .i64 (rankTo zs i l : Int)) ∧ Below w.heap.size w w' := by
  have hl10 := ok_len hok
  rw [← hl] at hl10
  obtain ⟨b, off, rfl, a0, ll, q0, b1, o1, m, q1, hA⟩ := row_at h hok (show i < zs.length by omega)
  have HAt := hide (fun k (hk : k < l) => row_at h hok (show k < zs.length by omega))
  have HN := hide hl
  have HL := hide (fun W (hb : Below w.heap.size w W) => last_any a0 ll q0 b1 o1 m q1 (lastV (at' zs i)) W (hA.below hb).b1l hA.le hA.mx hA.m9 (hA.below hb).last)
  have hc0 := hA.c0
  have hc1 := hA.c1
  have hi0 : (0 : Int) ≤ (i : Int) := Int.natCast_nonneg _
  have hi1 : (i : Int) < (l : Int) := by omega
  obtain ⟨O, hO⟩ : ∃ O, O = lastV (at' zs i) := ⟨_, rfl⟩
  rw [← hO] at HL
  have HO := hide hO
  clear hO hA h hl
  go_enter Try.func75, Try.ntmps75
  go_wp2_with fail
  refine (unhide HL w (Below.refl _ _)).mono ?_
  rintro e w1 ⟨rfl, hb1⟩
  clear hc0 hc1 HL
  go_wp2_with fail
  go_loopw [5, 17] (fun s iv wr => ∃ k : Nat, k ≤ l ∧ iv = .int .i64 k ∧ s = .int .i64 (rankTo zs i k : Int) ∧ Below w.heap.size w wr) (fun _ iv _ => l - (intOf iv).toNat)
  case atStart => exact ⟨0, Nat.zero_le _, rfl, rfl, hb1⟩
  case round =>
    obtain ⟨k, hk, rfl, rfl, hbel⟩ := hrel
    have hsz := hbel.size
    by_cases hlt : k < l
    · obtain ⟨b', off', e', a0', ll', q0', b1', o1', m', q1', hA'⟩ := unhide HAt k hlt
      cases e'
      have hB := hA'.below hbel
      have hc0 := hB.c0
      have hc1 := hB.c1
      have hr := rankTo_le zs i k
      have HL := hide (fun W (hb : Below wr.heap.size wr W) => last_any a0' ll' q0' b1' o1' m' q1' (lastV (at' zs k)) W (hB.below hb).b1l hB.le hB.mx hB.m9 (hB.below hb).last)
      have HY := hide (fun (h : ahead zs k i = true) => rank_yes h)
      have HNo := hide (fun (h : ahead zs k i = false) => rank_no h)
      obtain ⟨V, hV⟩ : ∃ V, V = lastV (at' zs k) := ⟨_, rfl⟩
      rw [← hV] at HL
      have HV := hide hV
      obtain ⟨W, hW⟩ : ∃ W, W = wr.alloc (.cells #[.slice a0' ll' q0', .slice (some ⟨b1', o1', none⟩) (m' + 1) q1'] 61) := ⟨_, rfl⟩
      have bW : Below wr.heap.size wr W := by rw [hW]; exact (Below.refl _ _).alloc (Nat.le_refl _) _
      have hk0 : (0 : Int) ≤ (k : Int) := Int.natCast_nonneg _
      have hk1 : (k : Int) < (l : Int) := by omega
      generalize rankTo zs i k = rk at hr HY HNo
      clear hV hA' hB
      go_wp2_with fail
      rw [← hW]
      clear hW
      refine (unhide HL W bW).mono ?_
      rintro e w2 ⟨rfl, hb2⟩
      have R := hbel.trans ((bW.trans (hb2.mono bW.size)).mono hsz)
      rcases (show O < V ∨ V < O ∨ (V = O ∧ k < i) ∨ (V = O ∧ ¬ k < i) by omega) with hc | hc | ⟨hc, hc'⟩ | ⟨hc, hc'⟩
      · have HF := hide (unhide HY (ahead_gt (by rw [← unhide HV, ← unhide HO]; exact hc)))
        go_wp2
        go_roundw
        case rel => exact ⟨k + 1, by omega, by go_num, by rw [unhide HF]; go_num, R⟩
        case measure => simp [intOf]; omega
      · have HF := hide (unhide HNo (ahead_lt (by rw [← unhide HV, ← unhide HO]; exact hc)))
        have d1 : decide (O < V) = false := by simp; omega
        have d2 : (V == O) = false := by simp; omega
        have d3 : decide (V = O) = false := by simp; omega
        go_wp2
        go_roundw
        case rel => exact ⟨k + 1, by omega, by go_num, by rw [unhide HF], R⟩
        case measure => simp [intOf]; omega
      · have HF := hide (unhide HY (by rw [ahead_eq (by rw [← unhide HV, ← unhide HO]; exact hc)]; exact decide_eq_true hc'))
        subst hc
        have d4 : decide (k < i) = true := by simp; omega
        go_wp2
        go_roundw
        case rel => exact ⟨k + 1, by omega, by go_num, by rw [unhide HF]; go_num, R⟩
        case measure => simp [intOf]; omega
      · have HF := hide (unhide HNo (by rw [ahead_eq (by rw [← unhide HV, ← unhide HO]; exact hc)]; exact decide_eq_false hc'))
        subst hc
        have d4 : decide (k < i) = false := by simp; omega
        go_wp2
        go_roundw
        case rel => exact ⟨k + 1, by omega, by go_num, by rw [unhide HF], R⟩
        case measure => simp [intOf]; omega
    · have HF := hide (show rankTo zs i k = rankTo zs i l by rw [show k = l by omega])
      go_wp2
      go_ret
      exact ⟨ret_int (by rw [unhide HF]), hbel⟩
end Go.Proofs.Ytdggffcibcggoaa.Row

/- What Top answers, of the program and of the model, at all rows: what stands ahead. -/
namespace Go.Proofs.Ytdggffcibcggoaa.Row
open Go.RowKit Rw
set_option linter.unusedVariables false
attribute [local go_sem ↓] Go.wp_at_zero Go.wp_at_succ
/-- rows of the call's own whose parts lie in old memory -/
def Sel (w wr : World) (ov : Value) (L : List E) : Prop := ∃ cs : List C, cs.length = L.length ∧ wr.ownsRow w.heap.size 61 2 ov L.length (flatOf cl cs) ∧ ∀ i, i < L.length → Elem w (cat cs i) (at' L i)
theorem Sel.nil (w : World) : Sel w w (.slice none 0 0) [] := ⟨[], rfl, World.ownsRow_nil _ _ _ _, fun i h => by simp at h⟩
theorem Sel.is {w wr : World} {ov : Value} {L : List E} (h : Sel w wr ov L) (hb : Below w.heap.size w wr) : Is wr ov L := by
  obtain ⟨cs, h1, h2, h3⟩ := h
  exact ⟨cs, h1, lies_of_own h2, fun i hi => (h3 i hi).below hb⟩
theorem at_snoc_lt (L : List E) (x : E) (i : Nat) (h : i < L.length) : at' (L ++ [x]) i = at' L i := by simp [at', List.getD, List.getElem?_append_left h]
theorem at_snoc_last (L : List E) (x : E) : at' (L ++ [x]) L.length = x := by simp [at', List.getD]
set_option maxRecDepth 100000 in
set_option maxHeartbeats 4000000 in
theorem l11ahead {w : World} {a : Option Addr} {l cap : Nat} {zs : List E} (j i : Nat) (h : Is w (.slice a l cap) zs) (hl : l = zs.length) (hcap : l ≤ cap ∧ cap ≤ 9223372036854775807) (hok : ok zs = true) (hj : j < l) (hi : i < l) :
    Calls Try.prog 74 #[.slice a l cap, .int .i64 j, .int .i64 i] w fun e w' => e = .returned (.bool (ahead zs j i)) ∧ Below w.heap.size w w' := by
  have hl10 := ok_len hok
  rw [← hl] at hl10
  obtain ⟨b, off, rfl, a0, ll, q0, b1, o1, m, q1, hA⟩ := row_at h hok (show j < zs.length by omega)
  obtain ⟨b', off', e', a0', ll', q0', b1', o1', m', q1', hA'⟩ := row_at h hok (show i < zs.length by omega)
  cases e'
  obtain ⟨V, hV⟩ : ∃ V, V = lastV (at' zs j) := ⟨_, rfl⟩
  obtain ⟨O, hO⟩ : ∃ O, O = lastV (at' zs i) := ⟨_, rfl⟩
  have k1 : ∀ x : Cls w.heap.size w, x.val.cell? ⟨b, off + j * 2 + 1, none⟩ = some (.slice (some ⟨b1, o1, none⟩) (m + 1) q1) := fun x => by rw [x.cell hA.bl]; exact hA.c1
  have k2 : ∀ x : Cls w.heap.size w, x.val.cell? ⟨b1, o1 + m * 2 + 1, none⟩ = some (.int .i64 V) := fun x => by rw [x.cell hA.b1l, hV]; exact hA.last
  have HA' := hide hA'
  have h1 := hA.le
  have h2 := hA.mx
  have h3 := hA.m9
  have h1' := hA'.le
  have h2' := hA'.mx
  have h3' := hA'.m9
  have hj0 : (0 : Int) ≤ (j : Int) := Int.natCast_nonneg _
  have hj1 : (j : Int) < (l : Int) := by omega
  have hi0 : (0 : Int) ≤ (i : Int) := Int.natCast_nonneg _
  have hi1 : (i : Int) < (l : Int) := by omega
  have hm0 : (0 : Int) ≤ (m : Int) := Int.natCast_nonneg _
  have hm1 : (m : Int) < (m : Int) + 1 := by omega
  have hm0' : (0 : Int) ≤ (m' : Int) := Int.natCast_nonneg _
  have hm1' : (m' : Int) < (m' : Int) + 1 := by omega
  have HV := hide hV
  have HO := hide hO
  clear hV hO hA hA' h hl
  have hne := cls_nonempty w.heap.size w
  go_enter Try.func74, Try.ntmps74
  go_wp2_with fail
  refine region_cls (by kernel_rfl) (by kernel_rfl) ?_
  repeat (go_big_quiet_step (fail))
  refine wpQuiet_nil ?_
  rintro wq ⟨⟨_, hq⟩, rfl⟩
  have hB := (unhide HA').below hq
  have k1' : ∀ x : Cls wq.heap.size wq, x.val.cell? ⟨b, off + i * 2 + 1, none⟩ = some (.slice (some ⟨b1', o1', none⟩) (m' + 1) q1') := fun x => by rw [x.cell hB.bl]; exact hB.c1
  have k2' : ∀ x : Cls wq.heap.size wq, x.val.cell? ⟨b1', o1' + m' * 2 + 1, none⟩ = some (.int .i64 O) := fun x => by rw [x.cell hB.b1l, unhide HO]; exact hB.last
  have hne' := cls_nonempty wq.heap.size wq
  clear k1 k2 hne hB
  go_wp2_with fail
  refine region_cls (by kernel_rfl) (by kernel_rfl) ?_
  repeat (go_big_quiet_step (fail))
  refine wpQuiet_nil ?_
  rintro w2 ⟨⟨_, hq2⟩, rfl⟩
  have R := hq.trans (hq2.mono hq.size)
  clear k1' k2' hne'
  rcases (show O < V ∨ V < O ∨ (V = O ∧ j < i) ∨ (V = O ∧ ¬ j < i) by omega) with hc | hc | ⟨hc, hc'⟩ | ⟨hc, hc'⟩
  · have HF := hide (show ahead zs j i = true from ahead_gt (by rw [← unhide HV, ← unhide HO]; exact hc))
    go_wp2
    go_ret
    exact ⟨ret_bool (unhide HF).symm, R⟩
  · have HF := hide (show ahead zs j i = false from ahead_lt (by rw [← unhide HV, ← unhide HO]; exact hc))
    have d1 : decide (O < V) = false := by simp; omega
    have d2 : (V == O) = false := by simp; omega
    have d3 : decide (V = O) = false := by simp; omega
    go_wp2
    go_ret
    exact ⟨ret_bool (unhide HF).symm, R⟩
  · have HF := hide (show ahead zs j i = true by rw [ahead_eq (by rw [← unhide HV, ← unhide HO]; exact hc)]; exact decide_eq_true hc')
    subst hc
    have d4 : decide (j < i) = true := by simp; omega
    go_wp2
    go_ret
    exact ⟨ret_bool (unhide HF).symm, R⟩
  · have HF := hide (show ahead zs j i = false by rw [ahead_eq (by rw [← unhide HV, ← unhide HO]; exact hc)]; exact decide_eq_false hc')
    subst hc
    have d4 : decide (j < i) = false := by simp; omega
    go_wp2
    go_ret
    exact ⟨ret_bool (unhide HF).symm, R⟩
end Go.Proofs.Ytdggffcibcggoaa.Row

/- What Top answers, of the program and of the model, at all rows: the loops. -/
namespace Go.Proofs.Ytdggffcibcggoaa.Row
open Go.RowKit Rw
set_option linter.unusedVariables false
attribute [local go_sem ↓] Go.wp_at_zero Go.wp_at_succ
theorem Own.wide2 {lo hi lo' hi' : Nat} {w : World} {v : Value} {zs : List E} (h : Own lo hi w v zs) (h1 : lo' ≤ lo) (h2 : hi ≤ hi') (h3 : hi' ≤ w.heap.size) : Own lo' hi' w v zs := by
  obtain ⟨cs, g1, g2, g3, g4, g5, g6, g7⟩ := h
  exact ⟨cs, g1, own_mono g2 h1, fun k hk => by have := g3 k hk; omega, h3, g5, g6, fun i hi => ⟨⟨own_mono (g7 i hi).1.1 h1, own_mono (g7 i hi).1.2 h1⟩, fun k hk => by have := (g7 i hi).2.1 k hk; omega, fun k hk => by have := (g7 i hi).2.2 k hk; omega⟩⟩
set_option maxRecDepth 100000 in
set_option maxHeartbeats 4000000 in
theorem impl_top {w : World} {v : Value} {zs : List E} (most : Int) (h : Is w v zs) (hg : ∀ x ∈ zs, good x) (hlen : zs.length ≤ maxLen) :
    Calls Try.prog 31 #[v, .int .i64 most] w fun e w' => ∃ r, e = .returned r ∧ Own w.heap.size w'.heap.size w' r (top most zs) ∧ Below w.heap.size w w' := by
  obtain ⟨i0, hi, hz0, hz1, hz2⟩ := info_parts Row.info_e
  have HOK := hide (impl_ok h hg hlen)
  obtain ⟨a, cap, ev, hcap⟩ : ∃ a cap, v = .slice a zs.length cap ∧ zs.length ≤ cap ∧ cap ≤ 9223372036854775807 := by
    obtain ⟨cs, -, hL, -⟩ := h
    obtain ⟨-, a, cap, e, h1, h2, -⟩ := hL
    unfold maxLen at h2
    exact ⟨a, cap, e, h1, by omega⟩
  subst ev
  obtain ⟨l, hl⟩ : ∃ l, l = zs.length := ⟨_, rfl⟩
  rw [← hl] at hcap h HOK ⊢
  have HN := hide hl
  cases hok : ok zs
  · have HR := hide (show top most zs = [] by unfold top; rw [hok]; rfl)
    rw [hok] at HOK
    clear hok h hg hlen hl
    go_enter Try.func31, Try.ntmps31
    go_wp2_with fail
    refine (unhide HOK).mono ?_
    rintro e w1 ⟨rfl, b1⟩
    go_wp2_with fail
    go_ret
    exact ⟨_, rfl, by rw [unhide HR]; have := own_nil w.heap.size w1; exact this, b1⟩
  · have HR := hide (show top most zs = topTo zs most l by unfold top; rw [hok, hl]; rfl)
    rw [hok] at HOK
    have hl10 := ok_len hok
    rw [← hl] at hl10
    have HI := hide h
    have HO := hide hok
    clear hok h hg hlen hl
    go_enter Try.func31, Try.ntmps31
    go_wp2_with fail
    refine (unhide HOK).mono ?_
    rintro e w1 ⟨rfl, b1⟩
    go_wp2_with fail
    go_loopw [5, 13] (fun ov iv wr => ∃ (k : Nat) (L : List E) (ao : Option Addr) (qo : Nat), k ≤ l ∧ iv = .int .i64 k ∧ ov = .slice ao L.length qo ∧ L = topTo zs most k ∧ Hid (Sel w wr ov L) ∧ Below w.heap.size w wr) (fun _ iv _ => l - (intOf iv).toNat)
    case atStart => exact ⟨0, [], _, _, Nat.zero_le _, rfl, rfl, rfl, hide ⟨[], rfl, World.ownsRow_nil _ _ _ _, fun i h => by simp at h⟩, b1⟩
    case round =>
      obtain ⟨k, L, ao, qo, hk, rfl, rfl, hL, HSel, hbel⟩ := hrel
      have hsz := hbel.size
      by_cases hlt : k < l
      · obtain ⟨b, off, rfl, a0, ll, q0, b1', o1, m, q1, hA⟩ := row_at (unhide HI) (unhide HO) (show k < zs.length by have := unhide HN; omega)
        have hLk := topTo_le zs most k
        rw [← hL] at hLk
        have hB := hA.below hbel
        have hc0 := hB.c0
        have hc1 := hB.c1
        have HEl := hide hA.el
        have HP := hide (fun W (hb : Below w.heap.size w W) => place_any k ((unhide HI).below hb) (unhide HN) hcap (unhide HO) hlt)
        have HY := hide (fun (h : (rankTo zs k l : Int) < most) => (show topTo zs most (k + 1) = L ++ [at' zs k] by rw [hL]; exact topTo_yes (by rw [← unhide HN]; exact h)))
        have HNo := hide (fun (h : ¬ (rankTo zs k l : Int) < most) => (show topTo zs most (k + 1) = L by rw [hL]; exact topTo_no (by rw [← unhide HN]; exact h)))
        obtain ⟨W, hW⟩ : ∃ W, W = wr.alloc (.cells #[.slice a0 ll q0, .slice (some ⟨b1', o1, none⟩) (m + 1) q1] 61) := ⟨_, rfl⟩
        have bW : Below wr.heap.size wr W := by rw [hW]; exact (Below.refl _ _).alloc (Nat.le_refl _) _
        have cW := hbel.trans (bW.mono hsz)
        have zW : wr.heap.size < W.heap.size := by rw [hW]; simp
        have n0 : W.cell? ⟨wr.heap.size, 0, none⟩ = some (.slice a0 ll q0) := by rw [hW]; simp
        have n1 : W.cell? ⟨wr.heap.size, 1, none⟩ = some (.slice (some ⟨b1', o1, none⟩) (m + 1) q1) := by rw [hW]; simp
        have hk0 : (0 : Int) ≤ (k : Int) := Int.natCast_nonneg _
        have hk1 : (k : Int) < (l : Int) := by omega
        generalize hrk : (rankTo zs k l : Int) = rk at HP HY HNo
        clear hrk hL hA hB
        go_wp2_with fail
        rw [← hW]
        clear hW
        refine (unhide HP W cW).mono ?_
        rintro e w2 ⟨rfl, b2⟩
        have b2' := bW.trans (b2.mono bW.size)
        have c2 := hbel.trans (b2'.mono hsz)
        have m0 := (b2.cell (p := ⟨wr.heap.size, 0, none⟩) zW).trans n0
        have m1 := (b2.cell (p := ⟨wr.heap.size, 1, none⟩) zW).trans n1
        have z2 := c2.size
        by_cases hlt2 : rk < most
        · have HF := hide (unhide HY hlt2)
          obtain ⟨cs, s1, s2, s3⟩ := unhide HSel
          have o2 := own_below s2 b2'
          have HS3 := hide s3
          have HS1 := hide s1
          clear s1 s2 s3 HSel n0 n1 hc0 hc1
          go_wp2_with (at_builtin; refine app_wp _ rfl _ _ _ rfl w.heap.size 61 i0 _ 2 48 Try.underlying24 hi hz0 hz1 hz2 rfl (by omega) _ _ _ rfl (o2.alloc _) _ 1 [.slice a0 ll q0, .slice (some ⟨b1', o1, none⟩) (m + 1) q1] rfl (lies_new rfl rfl (by unfold maxLen; omega)) (by simp [Value.oneCell']) (by unfold maxLen; omega) (by omega) (by simp; omega) ?_; intro vn wn on gn an)
          have R9 := below_grown (c2.alloc z2 _) (by simp; omega) gn (own_ge o2)
          have R2 : Sel w wn vn (L ++ [at' zs k]) := by
            refine ⟨cs ++ [(.slice a0 ll q0, .slice (some ⟨b1', o1, none⟩) (m + 1) q1)], by rw [List.length_append, List.length_append, unhide HS1]; rfl, by rw [flatOf_append, flatOf_one, List.length_append]; exact on, fun i hi => ?_⟩
            rw [List.length_append] at hi
            simp only [List.length_cons, List.length_nil] at hi
            by_cases e : i < L.length
            · rw [cat_lt cs _ i (by rw [unhide HS1]; exact e), at_snoc_lt L _ i e]; exact unhide HS3 i e
            · obtain rfl : i = L.length := by omega
              rw [at_snoc_last, ← unhide HS1, cat_last]; exact unhide HEl
          obtain ⟨an', qn', evn⟩ : ∃ a q, vn = Value.slice a (L ++ [at' zs k]).length q := by obtain ⟨_, -, o, -⟩ := R2; obtain ⟨-, a, q, e, -⟩ := lies_of_own o; exact ⟨a, q, e⟩
          have HR2 := hide R2
          clear on gn an R2 HS3
          go_wp2_with fail
          go_roundw
          case rel => exact ⟨k + 1, _, _, _, by omega, by go_num, evn, (unhide HF).symm, HR2, R9⟩
          case measure => simp [intOf]; omega
        · have HF := hide (unhide HNo (by omega))
          have hd : decide (rk < most) = false := by simp; omega
          have HR2 := hide (show Sel w w2 (.slice ao L.length qo) L by obtain ⟨cs, s1, s2, s3⟩ := unhide HSel; exact ⟨cs, s1, own_below s2 b2', s3⟩)
          clear HSel n0 n1 hc0 hc1
          go_wp2_with fail
          go_roundw
          case rel => exact ⟨k + 1, L, _, _, by omega, by go_num, rfl, (unhide HF).symm, HR2, c2⟩
          case measure => simp [intOf]; omega
      · have HF := hide (show L = top most zs by rw [unhide HR, hL, show k = l by omega])
        have HCp := hide (copy_any ((unhide HSel).is hbel) (by rw [hL, show k = zs.length by have := unhide HN; omega]; exact topTo_ok most (unhide HO)))
        clear HSel hL
        go_wp2_with fail
        refine (unhide HCp).mono ?_
        rintro e w3 ⟨r, rfl, o3, b3⟩
        have O3 := hide (o3.wide2 hsz (Nat.le_refl _) (Nat.le_refl _))
        have c3 := hbel.trans (b3.mono hsz)
        clear o3
        go_wp2_with fail
        go_ret
        exact ⟨r, rfl, by rw [← unhide HF]; exact unhide O3, c3⟩
set_option maxRecDepth 100000 in
set_option maxHeartbeats 4000000 in
theorem spec_top {w : World} {v : Value} {zs : List E} (most : Int) (h : Is w v zs) (hg : ∀ x ∈ zs, good x) (hlen : zs.length ≤ maxLen) :
    Calls Try.prog 30 #[v, .int .i64 most] w fun e w' => ∃ r, e = .returned r ∧ Own w.heap.size w'.heap.size w' r (top most zs) ∧ Below w.heap.size w w' := by
  obtain ⟨i0, hi, hz0, hz1, hz2⟩ := info_parts Row.info_e
  obtain ⟨W0, hW0⟩ : ∃ W0, W0 = w.alloc (.cells #[] 61) := ⟨_, rfl⟩
  have bW0 : Below w.heap.size w W0 := by rw [hW0]; exact (Below.refl _ _).alloc (Nat.le_refl _) _
  have oW0 : W0.ownsRow w.heap.size 61 2 (.slice (some ⟨w.heap.size, 0, none⟩) 0 0) 0 [] := by rw [hW0]; exact own_empty (Nat.le_refl _)
  have HOK := hide (spec_ok (h.below bW0) hg hlen)
  obtain ⟨a, cap, ev, hcap⟩ : ∃ a cap, v = .slice a zs.length cap ∧ zs.length ≤ cap ∧ cap ≤ 9223372036854775807 := by
    obtain ⟨cs, -, hL, -⟩ := h
    obtain ⟨-, a, cap, e, h1, h2, -⟩ := hL
    unfold maxLen at h2
    exact ⟨a, cap, e, h1, by omega⟩
  subst ev
  obtain ⟨l, hl⟩ : ∃ l, l = zs.length := ⟨_, rfl⟩
  rw [← hl] at hcap h HOK ⊢
  have HN := hide hl
  rw [hW0] at HOK
  have HW0 := hide hW0.symm
  clear hW0
  cases hok : ok zs
  · have HR := hide (show top most zs = [] by unfold top; rw [hok]; rfl)
    rw [hok] at HOK
    clear hok h hg hlen hl
    go_enter Try.func30, Try.ntmps30
    go_wp2_with fail
    refine (unhide HOK).mono ?_
    rintro e w1 ⟨rfl, b1⟩
    rw [unhide HW0] at b1
    have On := hide (show Own w.heap.size w1.heap.size w1 (.slice (some ⟨w.heap.size, 0, none⟩) 0 0) [] from ⟨[], rfl, own_below oW0 b1, own_block_lt (own_below oW0 b1), Nat.le_refl _, fun i j _ h => absurd h (Nat.not_lt_zero _), fun i j _ h => absurd h (Nat.not_lt_zero _), fun i hi => absurd hi (Nat.not_lt_zero _)⟩)
    go_wp2_with fail
    go_ret
    exact ⟨_, rfl, by rw [unhide HR]; exact unhide On, bW0.trans (b1.mono bW0.size)⟩
  · have HR := hide (show top most zs = topTo zs most l by unfold top; rw [hok, hl]; rfl)
    rw [hok] at HOK
    have hl10 := ok_len hok
    rw [← hl] at hl10
    have HI := hide h
    have HO := hide hok
    clear hok h hg hlen hl
    go_enter Try.func30, Try.ntmps30
    go_wp2_with fail
    refine (unhide HOK).mono ?_
    rintro e w1 ⟨rfl, b1⟩
    rw [unhide HW0] at b1
    have c1 := bW0.trans (b1.mono bW0.size)
    have o1 := own_below oW0 b1
    go_wp2_with fail
    go_loopw [5, 6] (fun ov iv wr => ∃ (k : Nat) (L : List E) (ao : Option Addr) (qo : Nat), k ≤ l ∧ iv = .int .i64 k ∧ ov = .slice ao L.length qo ∧ L = topTo zs most k ∧ Hid (Sel w wr ov L) ∧ Below w.heap.size w wr) (fun _ iv _ => l - (intOf iv).toNat)
    case atStart => exact ⟨0, [], _, _, Nat.zero_le _, rfl, rfl, rfl, hide ⟨[], rfl, o1, fun i h => by simp at h⟩, c1⟩
    case round =>
      obtain ⟨k, L, ao, qo, hk, rfl, rfl, hL, HSel, hbel⟩ := hrel
      obtain ⟨wo, hwo⟩ : ∃ wo, wo = wr := ⟨_, rfl⟩
      subst hwo
      have hsz := hbel.size
      by_cases hlt : k < l
      · have hLk := topTo_le zs most k
        rw [← hL] at hLk
        have HAh := hide (fun W (hb : Below w.heap.size w W) j (hj : j < l) => l11ahead j k ((unhide HI).below hb) (unhide HN) hcap (unhide HO) hj hlt)
        have HY := hide (fun (h : (rankTo zs k l : Int) < most) => (show topTo zs most (k + 1) = L ++ [at' zs k] by rw [hL]; exact topTo_yes (by rw [← unhide HN]; exact h)))
        have HNo := hide (fun (h : ¬ (rankTo zs k l : Int) < most) => (show topTo zs most (k + 1) = L by rw [hL]; exact topTo_no (by rw [← unhide HN]; exact h)))
        have hk0 : (0 : Int) ≤ (k : Int) := Int.natCast_nonneg _
        have hk1 : (k : Int) < (l : Int) := by omega
        have HHL := hide hL
        clear hL
        go_wp2_with fail
        go_loopw [7, 8] (fun s jv wr => ∃ j : Nat, j ≤ l ∧ jv = .int .i64 j ∧ s = .int .i64 (rankTo zs k j : Int) ∧ Below wo.heap.size wo wr) (fun _ jv _ => l - (intOf jv).toNat)
        case atStart => exact ⟨0, Nat.zero_le _, rfl, rfl, Below.refl _ _⟩
        case round =>
          obtain ⟨j, hj, rfl, rfl, hbj⟩ := hrel
          have cj := hbel.trans (hbj.mono hsz)
          have zj := hbj.size
          by_cases hjl : j < l
          · have hr := rankTo_le zs k j
            have HYj := hide (fun (h : ahead zs j k = true) => rank_yes h)
            have HNj := hide (fun (h : ahead zs j k = false) => rank_no h)
            have HA := hide (unhide HAh wr cj j hjl)
            generalize rankTo zs k j = rk at hr HYj HNj
            have hj0 : (0 : Int) ≤ (j : Int) := Int.natCast_nonneg _
            have hj1 : (j : Int) < (l : Int) := by omega
            go_wp2_with fail
            refine (unhide HA).mono ?_
            rintro e w2 ⟨rfl, b2⟩
            cases hah : ahead zs j k
            · have HF := hide (unhide HNj hah)
              go_wp2_with fail
              go_roundw
              case rel => exact ⟨j + 1, by omega, by go_num, by rw [unhide HF], hbj.trans (b2.mono zj)⟩
              case measure => simp [intOf]; omega
            · have HF := hide (unhide HYj hah)
              go_wp2_with fail
              go_roundw
              case rel => exact ⟨j + 1, by omega, by go_num, by rw [unhide HF]; go_num, hbj.trans (b2.mono zj)⟩
              case measure => simp [intOf]; omega
          · obtain rfl : j = l := by omega
            obtain ⟨b, off, rfl, a0, ll, q0, b1', o1, m, q1, hA⟩ := row_at (unhide HI) (unhide HO) (show k < zs.length by have := unhide HN; omega)
            have hB := hA.below cj
            have hc0 := hB.c0
            have hc1 := hB.c1
            have hbl := hB.bl
            have HEl := hide hA.el
            have z2 := cj.size
            generalize hrk : (rankTo zs k j : Int) = rk at HY HNo
            clear hrk hA hB HAh
            by_cases hlt2 : rk < most
            · have HF := hide (unhide HY hlt2)
              obtain ⟨cs, s1, s2, s3⟩ := unhide HSel
              have o2 := own_below s2 hbj
              have HS3 := hide s3
              have HS1 := hide s1
              clear s1 s2 s3 HSel
              go_wp2_with (at_builtin; refine app_wp _ rfl _ _ _ rfl w.heap.size 61 i0 _ 2 48 Try.underlying24 hi hz0 hz1 hz2 rfl (by omega) _ _ _ rfl (o2.alloc _) _ 1 [.slice a0 ll q0, .slice (some ⟨b1', o1, none⟩) (m + 1) q1] rfl (lies_new rfl rfl (by unfold maxLen; omega)) (by simp [Value.oneCell']) (by unfold maxLen; omega) (by omega) (by simp; omega) ?_; intro vn wn on gn an)
              have R9 := below_grown (cj.alloc z2 _) (by simp; omega) gn (own_ge o2)
              have R2 : Sel w wn vn (L ++ [at' zs k]) := by
                refine ⟨cs ++ [(.slice a0 ll q0, .slice (some ⟨b1', o1, none⟩) (m + 1) q1)], by rw [List.length_append, List.length_append, unhide HS1]; rfl, by rw [flatOf_append, flatOf_one, List.length_append]; exact on, fun i hi => ?_⟩
                rw [List.length_append] at hi
                simp only [List.length_cons, List.length_nil] at hi
                by_cases e : i < L.length
                · rw [cat_lt cs _ i (by rw [unhide HS1]; exact e), at_snoc_lt L _ i e]; exact unhide HS3 i e
                · obtain rfl : i = L.length := by omega
                  rw [at_snoc_last, ← unhide HS1, cat_last]; exact unhide HEl
              obtain ⟨an', qn', evn⟩ : ∃ a q, vn = Value.slice a (L ++ [at' zs k]).length q := by obtain ⟨_, -, o, -⟩ := R2; obtain ⟨-, a, q, e, -⟩ := lies_of_own o; exact ⟨a, q, e⟩
              have HR2 := hide R2
              clear on gn an R2 HS3
              go_wp2_with fail
              go_roundw
              case rel => exact ⟨k + 1, _, _, _, by omega, by go_num, evn, (unhide HF).symm, HR2, R9⟩
              case measure => simp [intOf]; omega
            · have HF := hide (unhide HNo (by omega))
              have hd : decide (rk < most) = false := by simp; omega
              have HR2 := hide (show Sel w wr (.slice ao L.length qo) L by obtain ⟨cs, s1, s2, s3⟩ := unhide HSel; exact ⟨cs, s1, own_below s2 hbj, s3⟩)
              clear HSel hc0 hc1
              go_wp2_with fail
              go_roundw
              case rel => exact ⟨k + 1, L, _, _, by omega, by go_num, rfl, (unhide HF).symm, HR2, cj⟩
              case measure => simp [intOf]; omega
      · have HF := hide (show L = top most zs by rw [unhide HR, hL, show k = l by omega])
        have HCp := hide (l5copy ((unhide HSel).is hbel) (by rw [hL, show k = zs.length by have := unhide HN; omega]; exact topTo_ok most (unhide HO)))
        clear HSel hL
        go_wp2_with fail
        refine (unhide HCp).mono ?_
        rintro e w3 ⟨r, rfl, o3, b3⟩
        have O3 := hide (o3.wide2 hsz (Nat.le_refl _) (Nat.le_refl _))
        have c3 := hbel.trans (b3.mono hsz)
        clear o3
        go_wp2_with fail
        go_ret
        exact ⟨r, rfl, by rw [← unhide HF]; exact unhide O3, c3⟩
end Go.Proofs.Ytdggffcibcggoaa.Row

/- FnTop returns true at every text of bytes. -/
namespace Go.Proofs.Ytdggffcibcggoaa.Draw
open Go.RowKit Rw
set_option linter.unusedVariables false
attribute [local go_sem ↓] Go.wp_at_zero Go.wp_at_succ
set_option maxRecDepth 100000 in
set_option maxHeartbeats 4000000 in
theorem draw_top {a : Option Addr} {len cap : Nat} {zs : List Int} (w0 w : World) (h : IsRow .u8 w0 a len cap zs) (hB : Below w0.heap.size w0 w) :
    Calls Try.prog 46 #[.slice a len cap] w fun e w' => ∃ (L : List Row.E) (v : Value) (M : Int), e = .returned (.tuple #[v, .int .i64 M]) ∧ RG L ∧ Row.Is w' v L ∧ (-1 ≤ M ∧ M ≤ 3) ∧ Below w.heap.size w w' := by
  have HO := hide (open_any w0 w h hB)
  clear h hB
  go_enter Try.func46, Try.ntmps46
  go_wp2_with fail
  refine (unhide HO).mono ?_
  rintro e w1 ⟨rfl, r1, b1⟩
  have hlt := r1.lt
  have hs1 := b1.size
  go_wp2_with fail
  refine (anyrows_any w.heap.size 0 0 _ r1 (by omega) (by omega) (by omega)).mono ?_
  rintro e w2 ⟨L, v, rfl, hRG, hF, ⟨p2, hp2, r2⟩, q2⟩
  have HRG := hide hRG
  have HF := hide hF
  obtain ⟨va, vn, vq, rfl⟩ : ∃ a n q, v = .slice a n q := by obtain ⟨cs, -, hL, -⟩ := hF; obtain ⟨-, a, q, e, -⟩ := hL; exact ⟨a, _, q, e⟩
  clear hRG hF r1 HO
  go_wp2_with fail
  refine (pick_any w.heap.size p2 _ _ r2 (by omega) (by omega)).mono ?_
  rintro e w3 ⟨x, rfl, x0, x1, -, r3, q3⟩
  have x2 : x < 5 := x1 (by omega)
  have HF3 := hide ((unhide HF).grown q3 hlt)
  have b3 : Below w.heap.size w w3 := b1.trans (below_of_grown (grown_trans q2 q3) (Nat.le_refl _) hs1)
  clear HF q2 q3 r2 r3 x1
  go_wp2_with fail
  go_ret2
  exact ⟨L, _, x - 1, by go_num, unhide HRG, (unhide HF3).is, by omega, b3⟩
end Go.Proofs.Ytdggffcibcggoaa.Draw
namespace Go.Proofs.Ytdggffcibcggoaa
open Go.RowKit Draw Rw
set_option linter.unusedVariables false
theorem Row.last_le {L : List Row.E} (h : Row.ok L = true) {i : Nat} (hi : i < L.length) : Row.lastV (Row.at' L i) ≤ 2147483647 := by
  have hst := Row.step_is (Row.ok_at h hi)
  unfold Row.lastV
  exact (SampMath.ok_range hst.2.2.2 (k := (Row.at' L i).2.length - 1) (by omega)).2.2.2
/-- labels of rows, held against labels -/
def anyAt (X : List Row.E) (ls : List Lab.E) (k : Nat) : Prop := ∃ j, j < k ∧ (Row.at' X j).1 = ls
def AnyS (X : List Row.E) (ls : List Lab.E) (k : Nat) (B : Bool) : Prop := B = true ↔ anyAt X ls k
set_option maxRecDepth 100000 in
set_option maxHeartbeats 16000000 in
theorem fnTop.walk (a0 : Option Addr) (len0 cap0 : Nat) (z0 : List Int) (w : World) (w0 : IsRow .u8 w a0 len0 cap0 z0) :
    Calls Try.prog 10 #[.slice a0 len0 cap0] w fun e w' => e = .returned (.bool true) ∧ Below w.heap.size w w' := by
  have l0 := (row_bytes w0)
  have c0 : len0 ≤ 9223372036854775807 := by have := l0.1; have := l0.2.1; unfold maxLen at this; omega
  have H0 := hide (draw_top w w w0 (Below.refl _ _))
  clear l0 w0
  by_cases hb0 : 1048576 < len0
  · go_enter Try.func10, Try.ntmps10
    go_wp2
    go_ret
    exact ⟨rfl, Below.refl _ _⟩
  go_enter Try.func10, Try.ntmps10
  go_wp2_with fail
  refine (unhide H0).mono ?_
  rintro e W1 ⟨L, v, M, rfl, hRG, hv, hAB, b1⟩
  have HG := hide hRG
  have hgL : Hid (∀ x ∈ L, Row.good x) := fun x hx => (hRG.2 x hx).1
  have hlL : Hid (L.length ≤ maxLen) := by have := hRG.1; show L.length ≤ maxLen; unfold maxLen; omega
  obtain ⟨va, vq, rfl⟩ := hv.form
  have HV := hide hv
  have HI := hide (fun W (hb : Below W1.heap.size W1 W) => Row.impl_top M (hv.below hb) (unhide hgL) (unhide hlL))
  have HS := hide (fun W (hb : Below W1.heap.size W1 W) => Row.spec_top M (hv.below hb) (unhide hgL) (unhide hlL))
  have HOk := hide (fun W (hb : Below W1.heap.size W1 W) => Row.spec_ok (hv.below hb) (unhide hgL) (unhide hlL))
  obtain ⟨vn, hvn⟩ : ∃ n, n = L.length := ⟨_, rfl⟩
  have hvn11 : vn ≤ 11 := by rw [hvn]; exact hRG.1
  have HVN := hide hvn
  rw [← hvn] at HI HS HOk ⊢
  clear hRG hv H0 hvn
  go_wp2_with fail
  refine (unhide HI W1 (Below.refl _ _)).mono ?_
  rintro e W2 ⟨x, rfl, ox, b2⟩
  have SX2 := hide ox.is
  obtain ⟨xa, xq, hx⟩ := ox.is.form
  obtain ⟨n, hn⟩ : ∃ n, n = (Row.top M L).length := ⟨_, rfl⟩
  rw [← hn] at hx
  have HNX := hide hn
  subst hx
  clear ox hn
  go_wp2_with fail
  refine (unhide HS W2 b2).mono ?_
  rintro e W3 ⟨y, rfl, oy, b3⟩
  have b13 := b2.trans (b3.mono b2.size)
  have HAl := hide (Row.al_rows ((unhide SX2).below b3) oy.is)
  have SX3 := hide ((unhide SX2).below b3)
  obtain ⟨ya, yn, yq, rfl⟩ := oy.form
  clear oy b3 SX2 b2
  go_wp2_with fail
  refine (unhide HAl).mono ?_
  rintro e W4 ⟨rfl, b4⟩
  have b14 := b13.trans (b4.mono b13.size)
  have SX4 := hide ((unhide SX3).below b4)
  clear HAl SX3 b4 b13
  go_wp2_with fail
  refine (unhide HOk W4 b14).mono ?_
  rintro e W5 ⟨rfl, b5⟩
  have b15 := b14.trans (b5.mono b14.size)
  have d5 := b1.trans (b15.mono b1.size)
  have SX5 := hide ((unhide SX4).below b5)
  clear SX4 b5 b14 HOk
  cases hok : Row.ok L
  · clear hok
    go_wp2_with fail
    refine (unhide HS W5 b15).mono ?_
    rintro e W6 ⟨y, rfl, oy, b6⟩
    have d6 := d5.trans (b6.mono d5.size)
    have HAl := hide (Row.al_rows ((unhide SX5).below b6) oy.is)
    obtain ⟨ya, yn, yq, rfl⟩ := oy.form
    clear oy b6
    go_wp2_with fail
    refine (unhide HAl).mono ?_
    rintro e W7 ⟨rfl, b7⟩
    have d7 := d6.trans (b7.mono d6.size)
    go_wp2
    go_ret
    exact ⟨rfl, d7⟩
  have HK := hide hok
  have SV5 := hide ((unhide HV).below b15)
  have HTop := hide (show Row.top M L = Row.topTo L M L.length from if_pos hok)
  have HXok := hide (show Row.ok (Row.top M L) = true by rw [unhide HTop]; exact Row.topTo_ok M hok)
  have HSub := hide (Row.top_sub M L)
  have HJo := hide (Row.join_sub (unhide HSub) hok)
  have HXX := hide (Row.top_top M hok)
  have HLen := hide (Row.top_len M hok)
  have HLeast := hide (fun y (hy : y ∈ Row.top M L) i (hi : i < L.length) (hn : Row.at' L i ∉ Row.top M L) => Row.top_least hok hy hi hn)
  clear hok HS
  generalize Row.top M L = X at SX5 HNX HXok HSub HJo HXX HLen HLeast HTop
  clear HTop
  have hn10 : n ≤ 10 := by rw [unhide HNX]; exact Row.ok_len (unhide HXok)
  have HLen := hide (show (n : Int) = if M < 0 then 0 else if (vn : Int) < M then (vn : Int) else M by have h := unhide HLen; rw [← unhide HNX, ← unhide HVN] at h; exact h)
  have hz5 := d5.size
  by_cases hM0 : M < 0
  · have hn00 : n ≤ 0 := by have := unhide HLen; rw [if_pos hM0] at this; omega
    have t1 : ((n : Int) == 0) = true := by simp; omega
    clear HLen
    go_wp2_with fail
    go_loopw [7, 8] (fun lv iv wr => ∃ (k : Nat) (T : Int), iv = .int .i64 (k : Int) ∧ k ≤ n ∧ lv = .int .i64 T ∧ Hid (T = 2147483647 ∨ ∃ y ∈ X, T = Row.lastV y) ∧ Below W5.heap.size W5 wr) (fun _ iv _ => n - (intOf iv).toNat)
    case atStart => exact ⟨0, 2147483647, rfl, Nat.zero_le _, rfl, .inl rfl, Below.refl _ _⟩
    case round =>
      obtain ⟨k, T, rfl, hk, rfl, HT, hbel⟩ := hrel
      have hsz := hbel.size
      have hk0 : (0 : Int) ≤ (k : Int) := Int.natCast_nonneg _
      by_cases hlt : k < n
      · exact absurd hlt (by omega)
      · obtain ⟨wo, hwo⟩ : ∃ wo, wo = wr := ⟨_, rfl⟩
        subst hwo
        have hkn : ¬ k < n := hlt
        clear hk0 hlt hk
        go_wp2_with fail
        go_loopw [10] (fun iv wr => ∃ (i : Nat), iv = .int .i64 (i : Int) ∧ i ≤ vn ∧ Below W5.heap.size W5 wr) (fun iv _ => vn - (intOf iv).toNat)
        case atStart => exact ⟨0, rfl, Nat.zero_le _, hbel⟩
        case round =>
          clear hbel hsz
          obtain ⟨i, rfl, hi, hbel⟩ := hrel
          have hi0 : (0 : Int) ≤ (i : Int) := Int.natCast_nonneg _
          by_cases hlt : i < vn
          · have hi1 : (i : Int) < (vn : Int) := by omega
            by_cases hx0 : 0 < n
            · exact absurd hx0 (by omega)
            · have hge' : decide ((i : Int) < (vn : Int)) = decide (i < vn) := by simp
              have b1w := b15.trans (hbel.mono b15.size)
              have dw := b1.trans (b1w.mono b1.size)
              have SXw := hide ((unhide SX5).below hbel)
              have SVw := hide ((unhide HV).below b1w)
              have hXg := Row.fine_good (Row.fine_ok (unhide HXok))
              have hmlX : X.length ≤ maxLen := by rw [← unhide HNX]; unfold maxLen; omega
              have HJn := hide (Row.impl_join (unhide SVw) (unhide SXw) (unhide hgL) (unhide hlL) hXg hmlX)
              rw [unhide HJo, ← unhide HVN] at HJn
              have HTp := hide (fun W (hb : Below wr.heap.size wr W) => Row.impl_top M ((unhide SXw).below hb) hXg hmlX)
              rw [unhide HXX] at HTp
              have t2 := of_decide_eq_true (p := True) rfl
              clear hXg hge' t2
              go_wp2_with fail
              refine (unhide HJn).mono ?_
              rintro e W7 ⟨r, rfl, orr, b7⟩
              have HAl := hide (Row.al_rows orr.is ((unhide SVw).below b7))
              rw [← unhide HVN] at HAl
              obtain ⟨ra, rn, rq, rfl⟩ := orr.form
              clear orr HJn
              go_wp2_with fail
              refine (unhide HAl).mono ?_
              rintro e W8 ⟨rfl, b8⟩
              have b78 := b7.trans (b8.mono b7.size)
              clear HAl b7 b8
              go_wp2_with fail
              refine (unhide HTp W8 b78).mono ?_
              rintro e W9 ⟨r2, rfl, or2, b9⟩
              have b79 := b78.trans (b9.mono b78.size)
              have HAl := hide (Row.al_rows or2.is ((unhide SXw).below b79))
              obtain ⟨ra2, rn2, rq2, rfl⟩ := or2.form
              clear or2 b9 b78 HTp
              go_wp2_with fail
              refine (unhide HAl).mono ?_
              rintro e W10 ⟨rfl, b10⟩
              have d10 := dw.trans ((b79.trans (b10.mono b79.size)).mono dw.size)
              go_wp2
              go_ret
              exact ⟨rfl, d10⟩
          · have hge' : decide ((i : Int) < (vn : Int)) = decide (i < vn) := by simp
            have b1w := b15.trans (hbel.mono b15.size)
            have dw := b1.trans (b1w.mono b1.size)
            have SXw := hide ((unhide SX5).below hbel)
            have SVw := hide ((unhide HV).below b1w)
            have hXg := Row.fine_good (Row.fine_ok (unhide HXok))
            have hmlX : X.length ≤ maxLen := by rw [← unhide HNX]; unfold maxLen; omega
            have HJn := hide (Row.impl_join (unhide SVw) (unhide SXw) (unhide hgL) (unhide hlL) hXg hmlX)
            rw [unhide HJo, ← unhide HVN] at HJn
            have HTp := hide (fun W (hb : Below wr.heap.size wr W) => Row.impl_top M ((unhide SXw).below hb) hXg hmlX)
            rw [unhide HXX] at HTp
            have t2 := of_decide_eq_true (p := True) rfl
            clear hXg hge' t2
            go_wp2_with fail
            refine (unhide HJn).mono ?_
            rintro e W7 ⟨r, rfl, orr, b7⟩
            have HAl := hide (Row.al_rows orr.is ((unhide SVw).below b7))
            rw [← unhide HVN] at HAl
            obtain ⟨ra, rn, rq, rfl⟩ := orr.form
            clear orr HJn
            go_wp2_with fail
            refine (unhide HAl).mono ?_
            rintro e W8 ⟨rfl, b8⟩
            have b78 := b7.trans (b8.mono b7.size)
            clear HAl b7 b8
            go_wp2_with fail
            refine (unhide HTp W8 b78).mono ?_
            rintro e W9 ⟨r2, rfl, or2, b9⟩
            have b79 := b78.trans (b9.mono b78.size)
            have HAl := hide (Row.al_rows or2.is ((unhide SXw).below b79))
            obtain ⟨ra2, rn2, rq2, rfl⟩ := or2.form
            clear or2 b9 b78 HTp
            go_wp2_with fail
            refine (unhide HAl).mono ?_
            rintro e W10 ⟨rfl, b10⟩
            have d10 := dw.trans ((b79.trans (b10.mono b79.size)).mono dw.size)
            go_wp2
            go_ret
            exact ⟨rfl, d10⟩
  have hMd : decide (M < 0) = false := by simp; omega
  by_cases hM1 : (vn : Int) < M
  · have hMd1 : decide ((vn : Int) < M) = true := by simp; omega
    have t1 : ((n : Int) == (vn : Int)) = true := by have := unhide HLen; rw [if_neg hM0, if_pos hM1] at this; simp; omega
    clear HLen hM0 hM1
    go_wp2_with fail
    go_loopw [7, 8] (fun lv iv wr => ∃ (k : Nat) (T : Int), iv = .int .i64 (k : Int) ∧ k ≤ n ∧ lv = .int .i64 T ∧ Hid (T = 2147483647 ∨ ∃ y ∈ X, T = Row.lastV y) ∧ Below W5.heap.size W5 wr) (fun _ iv _ => n - (intOf iv).toNat)
    case atStart => exact ⟨0, 2147483647, rfl, Nat.zero_le _, rfl, .inl rfl, Below.refl _ _⟩
    case round =>
      obtain ⟨k, T, rfl, hk, rfl, HT, hbel⟩ := hrel
      have hsz := hbel.size
      have hk0 : (0 : Int) ≤ (k : Int) := Int.natCast_nonneg _
      by_cases hlt : k < n
      · have hkz : k < X.length := by rw [← unhide HNX]; exact hlt
        obtain ⟨b, off, rfl, p0, ll, q0, b1', o1, m, q1, hA⟩ := Row.row_at (unhide SX5) (unhide HXok) hkz
        have hB := hA.below hbel
        obtain ⟨V, hV⟩ : ∃ V, V = Row.lastV (Row.at' X k) := ⟨_, rfl⟩
        have k1 : ∀ x : Cls wr.heap.size wr, x.val.cell? ⟨b, off + k * 2 + 1, none⟩ = some (.slice (some ⟨b1', o1, none⟩) (m + 1) q1) := fun x => by rw [x.cell hB.bl]; exact hB.c1
        have k2 : ∀ x : Cls wr.heap.size wr, x.val.cell? ⟨b1', o1 + m * 2 + 1, none⟩ = some (.int .i64 V) := fun x => by rw [x.cell hB.b1l, hV]; exact hB.last
        have g1 := hA.le
        have g2 := hA.mx
        have g3 := hA.m9
        have HT2 := hide (show V = 2147483647 ∨ ∃ y ∈ X, V = Row.lastV y from .inr ⟨_, Row.at_mem X k hkz, hV⟩)
        have hk1 : (k : Int) < (n : Int) := by omega
        have hm0 : (0 : Int) ≤ (m : Int) := Int.natCast_nonneg _
        have hm1 : (m : Int) < (m : Int) + 1 := by omega
        have hne := cls_nonempty wr.heap.size wr
        clear hA hB hV
        go_wp2_with fail
        refine region_cls (by kernel_rfl) (by kernel_rfl) ?_
        repeat (go_big_quiet_step (fail))
        refine wpQuiet_nil ?_
        rintro w7 ⟨⟨_, hq⟩, rfl⟩
        have c7 := hbel.trans (hq.mono hsz)
        clear k1 k2 hne
        by_cases hvt : V < T
        · go_wp2_with fail
          go_roundw
          case rel => exact ⟨k + 1, V, by go_num, by omega, rfl, HT2, c7⟩
          case measure => first | (simp [intOf]; done) | (simp [intOf]; omega)
        · have hvt' : decide (V < T) = false := by simp; omega
          go_wp2_with fail
          go_roundw
          case rel => exact ⟨k + 1, T, by go_num, by omega, rfl, HT, c7⟩
          case measure => first | (simp [intOf]; done) | (simp [intOf]; omega)
      · obtain ⟨wo, hwo⟩ : ∃ wo, wo = wr := ⟨_, rfl⟩
        subst hwo
        have hkn : ¬ k < n := hlt
        clear hk0 hlt hk
        go_wp2_with fail
        go_loopw [10] (fun iv wr => ∃ (i : Nat), iv = .int .i64 (i : Int) ∧ i ≤ vn ∧ Below W5.heap.size W5 wr) (fun iv _ => vn - (intOf iv).toNat)
        case atStart => exact ⟨0, rfl, Nat.zero_le _, hbel⟩
        case round =>
          clear hbel hsz
          obtain ⟨i, rfl, hi, hbel⟩ := hrel
          have hi0 : (0 : Int) ≤ (i : Int) := Int.natCast_nonneg _
          by_cases hlt : i < vn
          · have hi1 : (i : Int) < (vn : Int) := by omega
            by_cases hx0 : 0 < n
            · have hx1 : (0 : Int) < (n : Int) := by omega
              have hiz : i < L.length := by rw [← unhide HVN]; exact hlt
              obtain ⟨lb, loff, eva, lp0, lll, lq0, lb1, lo1, lm, lq1, hLA⟩ := Row.row_at (unhide SV5) (unhide HK) hiz
              subst eva
              have HLA := hide hLA
              have hl1 := hLA.le
              have hl2 := hLA.mx
              have hl3 := hLA.m9
              obtain ⟨LV, hLV⟩ : ∃ V, V = Row.lastV (Row.at' L i) := ⟨_, rfl⟩
              have HLV := hide hLV
              obtain ⟨ls, hls⟩ : ∃ l, l = (Row.at' L i).1 := ⟨_, rfl⟩
              have HLS := hide hls
              have hlm0 : (0 : Int) ≤ (lm : Int) := Int.natCast_nonneg _
              have hlm1 : (lm : Int) < (lm : Int) + 1 := by omega
              obtain ⟨wi, hwi⟩ : ∃ wi, wi = wr := ⟨_, rfl⟩
              subst hwi
              clear hLA hLV hls
              go_wp2_with fail
              go_loopw [11, 12] (fun bv jv wr => ∃ (j : Nat) (B : Bool), jv = .int .i64 (j : Int) ∧ j ≤ n ∧ bv = .bool B ∧ Hid (AnyS X ls j B) ∧ Below W5.heap.size W5 wr) (fun _ jv _ => n - (intOf jv).toNat)
              case atStart => exact ⟨0, false, rfl, Nat.zero_le _, rfl, ⟨fun h => (by cases h), fun ⟨j, hj, _⟩ => absurd hj (Nat.not_lt_zero _)⟩, hbel⟩
              case round =>
                clear hbel
                obtain ⟨j, B, rfl, hj, rfl, HAny, hbel⟩ := hrel
                have hsz := hbel.size
                have hj0 : (0 : Int) ≤ (j : Int) := Int.natCast_nonneg _
                have hLB := (unhide HLA).below hbel
                have hne := cls_nonempty wr.heap.size wr
                by_cases hlt2 : j < n
                · have hj1 : (j : Int) < (n : Int) := by omega
                  have hjz : j < X.length := by rw [← unhide HNX]; exact hlt2
                  cases B
                  · obtain ⟨b, off, exa, p0, ll, q0, b1', o1, m, q1, hA⟩ := Row.row_at (unhide SX5) (unhide HXok) hjz
                    subst exa
                    have hB := hA.below hbel
                    have k1 : ∀ x : Cls wr.heap.size wr, x.val.cell? ⟨b, off + j * 2, none⟩ = some (.slice p0 ll q0) := fun x => by rw [x.cell hB.bl]; exact hB.c0
                    have k2 : ∀ x : Cls wr.heap.size wr, x.val.cell? ⟨lb, loff + i * 2, none⟩ = some (.slice lp0 lll lq0) := fun x => by rw [x.cell hLB.bl]; exact hLB.c0
                    by_cases heq : (Row.at' X j).1 = ls
                    · have HC := hide (fun x : Cls wr.heap.size wr => Row.al_lab (v := .slice p0 ll q0) (u := .slice lp0 lll lq0) (zs := ls) (by rw [← heq]; exact hB.el.1.below x.isBelow) (by rw [unhide HLS]; exact hLB.el.1.below x.isBelow))
                      have HA2 := hide (show AnyS X ls (j + 1) true from ⟨fun _ => ⟨j, Nat.lt_succ_self j, heq⟩, fun _ => rfl⟩)
                      clear hA hB hLB
                      go_wp2_with fail
                      refine region_cls (by kernel_rfl) (by kernel_rfl) ?_
                      repeat (go_big_quiet_step ((go_at_call 47; exact cls_call (Nat.le_refl _) (unhide HC _))))
                      refine wpQuiet_nil ?_
                      rintro w7 ⟨⟨_, hq⟩, rfl⟩
                      have c7 := hbel.trans (hq.mono hsz)
                      clear k1 k2 hne HC
                      go_wp2_with fail
                      go_roundw
                      case rel => exact ⟨j + 1, true, by go_num, by omega, rfl, HA2, c7⟩
                      case measure => first | (simp [intOf]; done) | (simp [intOf]; omega)
                    · have HC := hide (fun x : Cls wr.heap.size wr => (Lab.al_any (v := .slice p0 ll q0) (u := .slice lp0 lll lq0) (zs := (Row.at' X j).1) (ys := ls) (hB.el.1.below x.isBelow) (by have := hLB.el.1.below x.isBelow; rw [← unhide HLS] at this; exact this)).mono fun e w' ⟨R, h1, h2, h3⟩ => show e = Ending.returned (.bool false) ∧ Below x.val.heap.size x.val w' from ⟨by rw [h1]; cases R; rfl; exact absurd (h2.1 rfl) heq, h3⟩)
                      have HA2 := hide (show AnyS X ls (j + 1) false from ⟨fun h => (by cases h), fun ⟨j', hj', e'⟩ => by
                        rcases Nat.lt_or_eq_of_le (Nat.le_of_lt_succ hj') with h | h
                        · exact (unhide HAny).2 ⟨j', h, e'⟩
                        · subst h; exact absurd e' heq⟩)
                      clear hA hB hLB
                      go_wp2_with fail
                      refine region_cls (by kernel_rfl) (by kernel_rfl) ?_
                      repeat (go_big_quiet_step ((go_at_call 47; exact cls_call (Nat.le_refl _) (unhide HC _))))
                      refine wpQuiet_nil ?_
                      rintro w7 ⟨⟨_, hq⟩, rfl⟩
                      have c7 := hbel.trans (hq.mono hsz)
                      clear k1 k2 hne HC
                      go_wp2_with fail
                      go_roundw
                      case rel => exact ⟨j + 1, false, by go_num, by omega, rfl, HA2, c7⟩
                      case measure => first | (simp [intOf]; done) | (simp [intOf]; omega)
                  · have HA2 := hide (show AnyS X ls (j + 1) true from ⟨fun _ => by obtain ⟨j', h, e'⟩ := (unhide HAny).1 rfl; exact ⟨j', by omega, e'⟩, fun _ => rfl⟩)
                    clear hLB
                    go_wp2_with fail
                    refine region_cls (by kernel_rfl) (by kernel_rfl) ?_
                    repeat (go_big_quiet_step (fail))
                    refine wpQuiet_nil ?_
                    rintro w7 ⟨⟨_, hq⟩, rfl⟩
                    have c7 := hbel.trans (hq.mono hsz)
                    clear hne
                    go_wp2_with fail
                    go_roundw
                    case rel => exact ⟨j + 1, true, by go_num, by omega, rfl, HA2, c7⟩
                    case measure => first | (simp [intOf]; done) | (simp [intOf]; omega)
                · obtain rfl : j = n := by omega
                  cases B
                  · have hle : LV ≤ T := by
                      have hni : Row.at' L i ∉ X := fun hin => by
                        obtain ⟨j', hj', e'⟩ := List.getElem_of_mem hin
                        have := (unhide HAny).2 ⟨j', by rw [unhide HNX]; exact hj', by rw [Row.at_get X j' hj', e', unhide HLS]⟩
                        cases this
                      rcases unhide HT with h | ⟨y, hy, h⟩
                      · have := Row.last_le (unhide HK) hiz
                        rw [unhide HLV, h]; exact this
                      · rw [unhide HLV, h]; exact unhide HLeast y hy i hiz hni
                    have k1 : ∀ x : Cls wr.heap.size wr, x.val.cell? ⟨lb, loff + i * 2 + 1, none⟩ = some (.slice (some ⟨lb1, lo1, none⟩) (lm + 1) lq1) := fun x => by rw [x.cell hLB.bl]; exact hLB.c1
                    have k2 : ∀ x : Cls wr.heap.size wr, x.val.cell? ⟨lb1, lo1 + lm * 2 + 1, none⟩ = some (.int .i64 LV) := fun x => by rw [x.cell hLB.b1l, unhide HLV]; exact hLB.last
                    have hd : decide (T < LV) = false := by simp; omega
                    clear hLB
                    go_wp2_with fail
                    refine region_cls (by kernel_rfl) (by kernel_rfl) ?_
                    repeat (go_big_quiet_step (fail))
                    refine wpQuiet_nil ?_
                    rintro w7 ⟨⟨_, hq⟩, rfl⟩
                    have c7 := hbel.trans (hq.mono hsz)
                    clear k1 k2 hne
                    go_wp2_with fail
                    go_roundw
                    case rel => exact ⟨i + 1, by go_num, by omega, c7⟩
                    case measure => first | (simp [intOf]; done) | (simp [intOf]; omega)
                  · clear hLB
                    go_wp2_with fail
                    refine region_cls (by kernel_rfl) (by kernel_rfl) ?_
                    repeat (go_big_quiet_step (fail))
                    refine wpQuiet_nil ?_
                    rintro w7 ⟨⟨_, hq⟩, rfl⟩
                    have c7 := hbel.trans (hq.mono hsz)
                    clear hne
                    go_wp2_with fail
                    go_roundw
                    case rel => exact ⟨i + 1, by go_num, by omega, c7⟩
                    case measure => first | (simp [intOf]; done) | (simp [intOf]; omega)
            · have hge' : decide ((i : Int) < (vn : Int)) = decide (i < vn) := by simp
              have b1w := b15.trans (hbel.mono b15.size)
              have dw := b1.trans (b1w.mono b1.size)
              have SXw := hide ((unhide SX5).below hbel)
              have SVw := hide ((unhide HV).below b1w)
              have hXg := Row.fine_good (Row.fine_ok (unhide HXok))
              have hmlX : X.length ≤ maxLen := by rw [← unhide HNX]; unfold maxLen; omega
              have HJn := hide (Row.impl_join (unhide SVw) (unhide SXw) (unhide hgL) (unhide hlL) hXg hmlX)
              rw [unhide HJo, ← unhide HVN] at HJn
              have HTp := hide (fun W (hb : Below wr.heap.size wr W) => Row.impl_top M ((unhide SXw).below hb) hXg hmlX)
              rw [unhide HXX] at HTp
              have t2 := of_decide_eq_true (p := True) rfl
              clear hXg hge' t2
              go_wp2_with fail
              refine (unhide HJn).mono ?_
              rintro e W7 ⟨r, rfl, orr, b7⟩
              have HAl := hide (Row.al_rows orr.is ((unhide SVw).below b7))
              rw [← unhide HVN] at HAl
              obtain ⟨ra, rn, rq, rfl⟩ := orr.form
              clear orr HJn
              go_wp2_with fail
              refine (unhide HAl).mono ?_
              rintro e W8 ⟨rfl, b8⟩
              have b78 := b7.trans (b8.mono b7.size)
              clear HAl b7 b8
              go_wp2_with fail
              refine (unhide HTp W8 b78).mono ?_
              rintro e W9 ⟨r2, rfl, or2, b9⟩
              have b79 := b78.trans (b9.mono b78.size)
              have HAl := hide (Row.al_rows or2.is ((unhide SXw).below b79))
              obtain ⟨ra2, rn2, rq2, rfl⟩ := or2.form
              clear or2 b9 b78 HTp
              go_wp2_with fail
              refine (unhide HAl).mono ?_
              rintro e W10 ⟨rfl, b10⟩
              have d10 := dw.trans ((b79.trans (b10.mono b79.size)).mono dw.size)
              go_wp2
              go_ret
              exact ⟨rfl, d10⟩
          · have hge' : decide ((i : Int) < (vn : Int)) = decide (i < vn) := by simp
            have b1w := b15.trans (hbel.mono b15.size)
            have dw := b1.trans (b1w.mono b1.size)
            have SXw := hide ((unhide SX5).below hbel)
            have SVw := hide ((unhide HV).below b1w)
            have hXg := Row.fine_good (Row.fine_ok (unhide HXok))
            have hmlX : X.length ≤ maxLen := by rw [← unhide HNX]; unfold maxLen; omega
            have HJn := hide (Row.impl_join (unhide SVw) (unhide SXw) (unhide hgL) (unhide hlL) hXg hmlX)
            rw [unhide HJo, ← unhide HVN] at HJn
            have HTp := hide (fun W (hb : Below wr.heap.size wr W) => Row.impl_top M ((unhide SXw).below hb) hXg hmlX)
            rw [unhide HXX] at HTp
            have t2 := of_decide_eq_true (p := True) rfl
            clear hXg hge' t2
            go_wp2_with fail
            refine (unhide HJn).mono ?_
            rintro e W7 ⟨r, rfl, orr, b7⟩
            have HAl := hide (Row.al_rows orr.is ((unhide SVw).below b7))
            rw [← unhide HVN] at HAl
            obtain ⟨ra, rn, rq, rfl⟩ := orr.form
            clear orr HJn
            go_wp2_with fail
            refine (unhide HAl).mono ?_
            rintro e W8 ⟨rfl, b8⟩
            have b78 := b7.trans (b8.mono b7.size)
            clear HAl b7 b8
            go_wp2_with fail
            refine (unhide HTp W8 b78).mono ?_
            rintro e W9 ⟨r2, rfl, or2, b9⟩
            have b79 := b78.trans (b9.mono b78.size)
            have HAl := hide (Row.al_rows or2.is ((unhide SXw).below b79))
            obtain ⟨ra2, rn2, rq2, rfl⟩ := or2.form
            clear or2 b9 b78 HTp
            go_wp2_with fail
            refine (unhide HAl).mono ?_
            rintro e W10 ⟨rfl, b10⟩
            have d10 := dw.trans ((b79.trans (b10.mono b79.size)).mono dw.size)
            go_wp2
            go_ret
            exact ⟨rfl, d10⟩
  have hMd1 : decide ((vn : Int) < M) = false := by simp; omega
  have t1 : ((n : Int) == M) = true := by have := unhide HLen; rw [if_neg hM0, if_neg hM1] at this; simp; omega
  clear HLen hM0 hM1
  go_wp2_with fail
  go_loopw [7, 8] (fun lv iv wr => ∃ (k : Nat) (T : Int), iv = .int .i64 (k : Int) ∧ k ≤ n ∧ lv = .int .i64 T ∧ Hid (T = 2147483647 ∨ ∃ y ∈ X, T = Row.lastV y) ∧ Below W5.heap.size W5 wr) (fun _ iv _ => n - (intOf iv).toNat)
  case atStart => exact ⟨0, 2147483647, rfl, Nat.zero_le _, rfl, .inl rfl, Below.refl _ _⟩
  case round =>
    obtain ⟨k, T, rfl, hk, rfl, HT, hbel⟩ := hrel
    have hsz := hbel.size
    have hk0 : (0 : Int) ≤ (k : Int) := Int.natCast_nonneg _
    by_cases hlt : k < n
    · have hkz : k < X.length := by rw [← unhide HNX]; exact hlt
      obtain ⟨b, off, rfl, p0, ll, q0, b1', o1, m, q1, hA⟩ := Row.row_at (unhide SX5) (unhide HXok) hkz
      have hB := hA.below hbel
      obtain ⟨V, hV⟩ : ∃ V, V = Row.lastV (Row.at' X k) := ⟨_, rfl⟩
      have k1 : ∀ x : Cls wr.heap.size wr, x.val.cell? ⟨b, off + k * 2 + 1, none⟩ = some (.slice (some ⟨b1', o1, none⟩) (m + 1) q1) := fun x => by rw [x.cell hB.bl]; exact hB.c1
      have k2 : ∀ x : Cls wr.heap.size wr, x.val.cell? ⟨b1', o1 + m * 2 + 1, none⟩ = some (.int .i64 V) := fun x => by rw [x.cell hB.b1l, hV]; exact hB.last
      have g1 := hA.le
      have g2 := hA.mx
      have g3 := hA.m9
      have HT2 := hide (show V = 2147483647 ∨ ∃ y ∈ X, V = Row.lastV y from .inr ⟨_, Row.at_mem X k hkz, hV⟩)
      have hk1 : (k : Int) < (n : Int) := by omega
      have hm0 : (0 : Int) ≤ (m : Int) := Int.natCast_nonneg _
      have hm1 : (m : Int) < (m : Int) + 1 := by omega
      have hne := cls_nonempty wr.heap.size wr
      clear hA hB hV
      go_wp2_with fail
      refine region_cls (by kernel_rfl) (by kernel_rfl) ?_
      repeat (go_big_quiet_step (fail))
      refine wpQuiet_nil ?_
      rintro w7 ⟨⟨_, hq⟩, rfl⟩
      have c7 := hbel.trans (hq.mono hsz)
      clear k1 k2 hne
      by_cases hvt : V < T
      · go_wp2_with fail
        go_roundw
        case rel => exact ⟨k + 1, V, by go_num, by omega, rfl, HT2, c7⟩
        case measure => first | (simp [intOf]; done) | (simp [intOf]; omega)
      · have hvt' : decide (V < T) = false := by simp; omega
        go_wp2_with fail
        go_roundw
        case rel => exact ⟨k + 1, T, by go_num, by omega, rfl, HT, c7⟩
        case measure => first | (simp [intOf]; done) | (simp [intOf]; omega)
    · obtain ⟨wo, hwo⟩ : ∃ wo, wo = wr := ⟨_, rfl⟩
      subst hwo
      have hkn : ¬ k < n := hlt
      clear hk0 hlt hk
      go_wp2_with fail
      go_loopw [10] (fun iv wr => ∃ (i : Nat), iv = .int .i64 (i : Int) ∧ i ≤ vn ∧ Below W5.heap.size W5 wr) (fun iv _ => vn - (intOf iv).toNat)
      case atStart => exact ⟨0, rfl, Nat.zero_le _, hbel⟩
      case round =>
        clear hbel hsz
        obtain ⟨i, rfl, hi, hbel⟩ := hrel
        have hi0 : (0 : Int) ≤ (i : Int) := Int.natCast_nonneg _
        by_cases hlt : i < vn
        · have hi1 : (i : Int) < (vn : Int) := by omega
          by_cases hx0 : 0 < n
          · have hx1 : (0 : Int) < (n : Int) := by omega
            have hiz : i < L.length := by rw [← unhide HVN]; exact hlt
            obtain ⟨lb, loff, eva, lp0, lll, lq0, lb1, lo1, lm, lq1, hLA⟩ := Row.row_at (unhide SV5) (unhide HK) hiz
            subst eva
            have HLA := hide hLA
            have hl1 := hLA.le
            have hl2 := hLA.mx
            have hl3 := hLA.m9
            obtain ⟨LV, hLV⟩ : ∃ V, V = Row.lastV (Row.at' L i) := ⟨_, rfl⟩
            have HLV := hide hLV
            obtain ⟨ls, hls⟩ : ∃ l, l = (Row.at' L i).1 := ⟨_, rfl⟩
            have HLS := hide hls
            have hlm0 : (0 : Int) ≤ (lm : Int) := Int.natCast_nonneg _
            have hlm1 : (lm : Int) < (lm : Int) + 1 := by omega
            obtain ⟨wi, hwi⟩ : ∃ wi, wi = wr := ⟨_, rfl⟩
            subst hwi
            clear hLA hLV hls
            go_wp2_with fail
            go_loopw [11, 12] (fun bv jv wr => ∃ (j : Nat) (B : Bool), jv = .int .i64 (j : Int) ∧ j ≤ n ∧ bv = .bool B ∧ Hid (AnyS X ls j B) ∧ Below W5.heap.size W5 wr) (fun _ jv _ => n - (intOf jv).toNat)
            case atStart => exact ⟨0, false, rfl, Nat.zero_le _, rfl, ⟨fun h => (by cases h), fun ⟨j, hj, _⟩ => absurd hj (Nat.not_lt_zero _)⟩, hbel⟩
            case round =>
              clear hbel
              obtain ⟨j, B, rfl, hj, rfl, HAny, hbel⟩ := hrel
              have hsz := hbel.size
              have hj0 : (0 : Int) ≤ (j : Int) := Int.natCast_nonneg _
              have hLB := (unhide HLA).below hbel
              have hne := cls_nonempty wr.heap.size wr
              by_cases hlt2 : j < n
              · have hj1 : (j : Int) < (n : Int) := by omega
                have hjz : j < X.length := by rw [← unhide HNX]; exact hlt2
                cases B
                · obtain ⟨b, off, exa, p0, ll, q0, b1', o1, m, q1, hA⟩ := Row.row_at (unhide SX5) (unhide HXok) hjz
                  subst exa
                  have hB := hA.below hbel
                  have k1 : ∀ x : Cls wr.heap.size wr, x.val.cell? ⟨b, off + j * 2, none⟩ = some (.slice p0 ll q0) := fun x => by rw [x.cell hB.bl]; exact hB.c0
                  have k2 : ∀ x : Cls wr.heap.size wr, x.val.cell? ⟨lb, loff + i * 2, none⟩ = some (.slice lp0 lll lq0) := fun x => by rw [x.cell hLB.bl]; exact hLB.c0
                  by_cases heq : (Row.at' X j).1 = ls
                  · have HC := hide (fun x : Cls wr.heap.size wr => Row.al_lab (v := .slice p0 ll q0) (u := .slice lp0 lll lq0) (zs := ls) (by rw [← heq]; exact hB.el.1.below x.isBelow) (by rw [unhide HLS]; exact hLB.el.1.below x.isBelow))
                    have HA2 := hide (show AnyS X ls (j + 1) true from ⟨fun _ => ⟨j, Nat.lt_succ_self j, heq⟩, fun _ => rfl⟩)
                    clear hA hB hLB
                    go_wp2_with fail
                    refine region_cls (by kernel_rfl) (by kernel_rfl) ?_
                    repeat (go_big_quiet_step ((go_at_call 47; exact cls_call (Nat.le_refl _) (unhide HC _))))
                    refine wpQuiet_nil ?_
                    rintro w7 ⟨⟨_, hq⟩, rfl⟩
                    have c7 := hbel.trans (hq.mono hsz)
                    clear k1 k2 hne HC
                    go_wp2_with fail
                    go_roundw
                    case rel => exact ⟨j + 1, true, by go_num, by omega, rfl, HA2, c7⟩
                    case measure => first | (simp [intOf]; done) | (simp [intOf]; omega)
                  · have HC := hide (fun x : Cls wr.heap.size wr => (Lab.al_any (v := .slice p0 ll q0) (u := .slice lp0 lll lq0) (zs := (Row.at' X j).1) (ys := ls) (hB.el.1.below x.isBelow) (by have := hLB.el.1.below x.isBelow; rw [← unhide HLS] at this; exact this)).mono fun e w' ⟨R, h1, h2, h3⟩ => show e = Ending.returned (.bool false) ∧ Below x.val.heap.size x.val w' from ⟨by rw [h1]; cases R; rfl; exact absurd (h2.1 rfl) heq, h3⟩)
                    have HA2 := hide (show AnyS X ls (j + 1) false from ⟨fun h => (by cases h), fun ⟨j', hj', e'⟩ => by
                      rcases Nat.lt_or_eq_of_le (Nat.le_of_lt_succ hj') with h | h
                      · exact (unhide HAny).2 ⟨j', h, e'⟩
                      · subst h; exact absurd e' heq⟩)
                    clear hA hB hLB
                    go_wp2_with fail
                    refine region_cls (by kernel_rfl) (by kernel_rfl) ?_
                    repeat (go_big_quiet_step ((go_at_call 47; exact cls_call (Nat.le_refl _) (unhide HC _))))
                    refine wpQuiet_nil ?_
                    rintro w7 ⟨⟨_, hq⟩, rfl⟩
                    have c7 := hbel.trans (hq.mono hsz)
                    clear k1 k2 hne HC
                    go_wp2_with fail
                    go_roundw
                    case rel => exact ⟨j + 1, false, by go_num, by omega, rfl, HA2, c7⟩
                    case measure => first | (simp [intOf]; done) | (simp [intOf]; omega)
                · have HA2 := hide (show AnyS X ls (j + 1) true from ⟨fun _ => by obtain ⟨j', h, e'⟩ := (unhide HAny).1 rfl; exact ⟨j', by omega, e'⟩, fun _ => rfl⟩)
                  clear hLB
                  go_wp2_with fail
                  refine region_cls (by kernel_rfl) (by kernel_rfl) ?_
                  repeat (go_big_quiet_step (fail))
                  refine wpQuiet_nil ?_
                  rintro w7 ⟨⟨_, hq⟩, rfl⟩
                  have c7 := hbel.trans (hq.mono hsz)
                  clear hne
                  go_wp2_with fail
                  go_roundw
                  case rel => exact ⟨j + 1, true, by go_num, by omega, rfl, HA2, c7⟩
                  case measure => first | (simp [intOf]; done) | (simp [intOf]; omega)
              · obtain rfl : j = n := by omega
                cases B
                · have hle : LV ≤ T := by
                    have hni : Row.at' L i ∉ X := fun hin => by
                      obtain ⟨j', hj', e'⟩ := List.getElem_of_mem hin
                      have := (unhide HAny).2 ⟨j', by rw [unhide HNX]; exact hj', by rw [Row.at_get X j' hj', e', unhide HLS]⟩
                      cases this
                    rcases unhide HT with h | ⟨y, hy, h⟩
                    · have := Row.last_le (unhide HK) hiz
                      rw [unhide HLV, h]; exact this
                    · rw [unhide HLV, h]; exact unhide HLeast y hy i hiz hni
                  have k1 : ∀ x : Cls wr.heap.size wr, x.val.cell? ⟨lb, loff + i * 2 + 1, none⟩ = some (.slice (some ⟨lb1, lo1, none⟩) (lm + 1) lq1) := fun x => by rw [x.cell hLB.bl]; exact hLB.c1
                  have k2 : ∀ x : Cls wr.heap.size wr, x.val.cell? ⟨lb1, lo1 + lm * 2 + 1, none⟩ = some (.int .i64 LV) := fun x => by rw [x.cell hLB.b1l, unhide HLV]; exact hLB.last
                  have hd : decide (T < LV) = false := by simp; omega
                  clear hLB
                  go_wp2_with fail
                  refine region_cls (by kernel_rfl) (by kernel_rfl) ?_
                  repeat (go_big_quiet_step (fail))
                  refine wpQuiet_nil ?_
                  rintro w7 ⟨⟨_, hq⟩, rfl⟩
                  have c7 := hbel.trans (hq.mono hsz)
                  clear k1 k2 hne
                  go_wp2_with fail
                  go_roundw
                  case rel => exact ⟨i + 1, by go_num, by omega, c7⟩
                  case measure => first | (simp [intOf]; done) | (simp [intOf]; omega)
                · clear hLB
                  go_wp2_with fail
                  refine region_cls (by kernel_rfl) (by kernel_rfl) ?_
                  repeat (go_big_quiet_step (fail))
                  refine wpQuiet_nil ?_
                  rintro w7 ⟨⟨_, hq⟩, rfl⟩
                  have c7 := hbel.trans (hq.mono hsz)
                  clear hne
                  go_wp2_with fail
                  go_roundw
                  case rel => exact ⟨i + 1, by go_num, by omega, c7⟩
                  case measure => first | (simp [intOf]; done) | (simp [intOf]; omega)
          · have hge' : decide ((i : Int) < (vn : Int)) = decide (i < vn) := by simp
            have b1w := b15.trans (hbel.mono b15.size)
            have dw := b1.trans (b1w.mono b1.size)
            have SXw := hide ((unhide SX5).below hbel)
            have SVw := hide ((unhide HV).below b1w)
            have hXg := Row.fine_good (Row.fine_ok (unhide HXok))
            have hmlX : X.length ≤ maxLen := by rw [← unhide HNX]; unfold maxLen; omega
            have HJn := hide (Row.impl_join (unhide SVw) (unhide SXw) (unhide hgL) (unhide hlL) hXg hmlX)
            rw [unhide HJo, ← unhide HVN] at HJn
            have HTp := hide (fun W (hb : Below wr.heap.size wr W) => Row.impl_top M ((unhide SXw).below hb) hXg hmlX)
            rw [unhide HXX] at HTp
            have t2 := of_decide_eq_true (p := True) rfl
            clear hXg hge' t2
            go_wp2_with fail
            refine (unhide HJn).mono ?_
            rintro e W7 ⟨r, rfl, orr, b7⟩
            have HAl := hide (Row.al_rows orr.is ((unhide SVw).below b7))
            rw [← unhide HVN] at HAl
            obtain ⟨ra, rn, rq, rfl⟩ := orr.form
            clear orr HJn
            go_wp2_with fail
            refine (unhide HAl).mono ?_
            rintro e W8 ⟨rfl, b8⟩
            have b78 := b7.trans (b8.mono b7.size)
            clear HAl b7 b8
            go_wp2_with fail
            refine (unhide HTp W8 b78).mono ?_
            rintro e W9 ⟨r2, rfl, or2, b9⟩
            have b79 := b78.trans (b9.mono b78.size)
            have HAl := hide (Row.al_rows or2.is ((unhide SXw).below b79))
            obtain ⟨ra2, rn2, rq2, rfl⟩ := or2.form
            clear or2 b9 b78 HTp
            go_wp2_with fail
            refine (unhide HAl).mono ?_
            rintro e W10 ⟨rfl, b10⟩
            have d10 := dw.trans ((b79.trans (b10.mono b79.size)).mono dw.size)
            go_wp2
            go_ret
            exact ⟨rfl, d10⟩
        · have hge' : decide ((i : Int) < (vn : Int)) = decide (i < vn) := by simp
          have b1w := b15.trans (hbel.mono b15.size)
          have dw := b1.trans (b1w.mono b1.size)
          have SXw := hide ((unhide SX5).below hbel)
          have SVw := hide ((unhide HV).below b1w)
          have hXg := Row.fine_good (Row.fine_ok (unhide HXok))
          have hmlX : X.length ≤ maxLen := by rw [← unhide HNX]; unfold maxLen; omega
          have HJn := hide (Row.impl_join (unhide SVw) (unhide SXw) (unhide hgL) (unhide hlL) hXg hmlX)
          rw [unhide HJo, ← unhide HVN] at HJn
          have HTp := hide (fun W (hb : Below wr.heap.size wr W) => Row.impl_top M ((unhide SXw).below hb) hXg hmlX)
          rw [unhide HXX] at HTp
          have t2 := of_decide_eq_true (p := True) rfl
          clear hXg hge' t2
          go_wp2_with fail
          refine (unhide HJn).mono ?_
          rintro e W7 ⟨r, rfl, orr, b7⟩
          have HAl := hide (Row.al_rows orr.is ((unhide SVw).below b7))
          rw [← unhide HVN] at HAl
          obtain ⟨ra, rn, rq, rfl⟩ := orr.form
          clear orr HJn
          go_wp2_with fail
          refine (unhide HAl).mono ?_
          rintro e W8 ⟨rfl, b8⟩
          have b78 := b7.trans (b8.mono b7.size)
          clear HAl b7 b8
          go_wp2_with fail
          refine (unhide HTp W8 b78).mono ?_
          rintro e W9 ⟨r2, rfl, or2, b9⟩
          have b79 := b78.trans (b9.mono b78.size)
          have HAl := hide (Row.al_rows or2.is ((unhide SXw).below b79))
          obtain ⟨ra2, rn2, rq2, rfl⟩ := or2.form
          clear or2 b9 b78 HTp
          go_wp2_with fail
          refine (unhide HAl).mono ?_
          rintro e W10 ⟨rfl, b10⟩
          have d10 := dw.trans ((b79.trans (b10.mono b79.size)).mono dw.size)
          go_wp2
          go_ret
          exact ⟨rfl, d10⟩
end Go.Proofs.Ytdggffcibcggoaa
