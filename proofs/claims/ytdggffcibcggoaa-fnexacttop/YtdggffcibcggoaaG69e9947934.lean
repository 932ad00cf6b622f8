/- My own texts of one claim, laid together by program: RowTop, RowTop2. -/
import Derived.Test.YtdggffcibcggoaaGb5fb0eedf8
/- What Top answers, of the program and of the model, at all rows. -/
namespace Go.Proofs.Ytdggffcibcggoaa.Row
open Go.RowKit Rw
set_option linter.unusedVariables false
attribute [local go_sem ↓] Go.wp_at_zero Go.wp_at_succ
structure At (w : World) (b off k : Nat) (x : E) (a0 : Option Addr) (ll q0 b1 o1 m q1 : Nat) : Prop where
  bl : b < w.heap.size
  c0 : w.cell? ⟨b, off + k * 2, none⟩ = some (.slice a0 ll q0)
  c1 : w.cell? ⟨b, off + k * 2 + 1, none⟩ = some (.slice (some ⟨b1, o1, none⟩) (m + 1) q1)
  b1l : b1 < w.heap.size
  le : m + 1 ≤ q1
  mx : q1 ≤ 9223372036854775807
  m9 : m ≤ 999
  last : w.cell? ⟨b1, o1 + m * 2 + 1, none⟩ = some (.int .i64 (lastV x))
  el : Elem w (.slice a0 ll q0, .slice (some ⟨b1, o1, none⟩) (m + 1) q1) x
theorem At.below {w w' : World} {b off k : Nat} {x : E} {a0 : Option Addr} {ll q0 b1 o1 m q1 : Nat} (h : At w b off k x a0 ll q0 b1 o1 m q1) (hb : Below w.heap.size w w') : At w' b off k x a0 ll q0 b1 o1 m q1 :=
  ⟨Nat.lt_of_lt_of_le h.bl hb.size, (hb.cell (p := ⟨b, _, none⟩) h.bl).trans h.c0, (hb.cell (p := ⟨b, _, none⟩) h.bl).trans h.c1, Nat.lt_of_lt_of_le h.b1l hb.size, h.le, h.mx, h.m9, (hb.cell (p := ⟨b1, _, none⟩) h.b1l).trans h.last, h.el.below hb⟩
theorem row_at {w : World} {a : Option Addr} {n cap : Nat} {zs : List E} (h : Is w (.slice a n cap) zs) (hok : ok zs = true) {k : Nat} (hk : k < zs.length) :
    ∃ b off, a = some ⟨b, off, none⟩ ∧ ∃ a0 ll q0 b1 o1 m q1, At w b off k (at' zs k) a0 ll q0 b1 o1 m q1 := by
  obtain ⟨cs, hcs, hL, hE⟩ := h
  obtain ⟨-, a', cap', e, hc, hmx, -, hr⟩ := hL
  simp only [Value.slice.injEq] at e
  obtain ⟨rfl, -, rfl⟩ := e
  obtain ⟨b, off, rfl, hbl, hcells⟩ := hr (by omega)
  have fa := flat_at cs k (by omega)
  have hc0 := hcells (k * 2) _ fa.1
  have hc1 := hcells (k * 2 + 1) _ fa.2
  have hEk := hE k hk
  have hst := step_is (ok_at hok hk)
  obtain ⟨c0, c1, hY⟩ : ∃ c0 c1, (c0, c1) = cat cs k := ⟨_, _, rfl⟩
  rw [← hY] at hc0 hc1 hEk
  have hE1 : Lab.Is w c0 (at' zs k).1 := hEk.1
  have hE2 : Sam.Is w c1 (at' zs k).2 := hEk.2
  obtain ⟨-, a0, q0, e0, -⟩ := id hE1
  obtain ⟨-, a1, q1, e1, h1, h2, -, h3⟩ := id hE2
  obtain ⟨b1, o1, ea, hb1, hx⟩ := h3 (by omega)
  obtain ⟨m, hm⟩ : ∃ m, (at' zs k).2.length = m + 1 := ⟨(at' zs k).2.length - 1, by omega⟩
  subst ea
  rw [hm] at e1 h1
  subst e0 e1
  unfold maxLen at h2
  refine ⟨b, off, rfl, a0, (at' zs k).1.length, q0, b1, o1, m, q1, hbl, hc0, hc1, hb1, h1, by omega, by omega, ?_, hEk⟩
  have f2 := (Sam.flat_at (at' zs k).2 m (by omega)).2
  have := hx (m * 2 + 1) _ f2
  unfold lastV
  rw [hm]
  exact this
set_option maxRecDepth 100000 in
theorem last_any (a0 : Option Addr) (ll q0 b1 o1 m q1 : Nat) (V : Int) (w : World) (hb : b1 < w.heap.size) (h1 : m + 1 ≤ q1) (h2 : q1 ≤ 9223372036854775807) (h9 : m ≤ 999) (hc : w.cell? ⟨b1, o1 + m * 2 + 1, none⟩ = some (.int .i64 V)) :
    Calls Try.prog 113 #[.agg #[.slice a0 ll q0, .slice (some ⟨b1, o1, none⟩) (m + 1) q1]] w fun e w' => e = .returned (.int .i64 V) ∧ Below w.heap.size w w' := by
  have b0 : Below w.heap.size w (w.alloc (.cells #[.slice a0 ll q0, .slice (some ⟨b1, o1, none⟩) (m + 1) q1] 61)) := (Below.refl _ _).alloc (Nat.le_refl _) _
  have hc' : (w.alloc (.cells #[.slice a0 ll q0, .slice (some ⟨b1, o1, none⟩) (m + 1) q1] 61)).cell? ⟨b1, o1 + m * 2 + 1, none⟩ = some (.int .i64 V) := (b0.cell (p := ⟨b1, _, none⟩) hb).trans hc
  have B0 := hide b0
  have hm0 : (0 : Int) ≤ (m : Int) := Int.natCast_nonneg _
  have hm1 : (m : Int) < (m : Int) + 1 := by omega
  clear b0
  go_enter Try.func113, Try.ntmps113
  go_wp2
  go_ret
  exact ⟨rfl, unhide B0⟩
theorem ahead_gt {zs : List E} {j i : Nat} (h : lastV (at' zs i) < lastV (at' zs j)) : ahead zs j i = true := by unfold ahead; rw [decide_eq_true h]; rfl
theorem ahead_lt {zs : List E} {j i : Nat} (h : lastV (at' zs j) < lastV (at' zs i)) : ahead zs j i = false := by unfold ahead; rw [decide_eq_false (by omega), decide_eq_false (show ¬ lastV (at' zs j) = lastV (at' zs i) by omega)]; rfl
theorem ahead_eq {zs : List E} {j i : Nat} (h : lastV (at' zs j) = lastV (at' zs i)) : ahead zs j i = decide (j < i) := by unfold ahead; rw [decide_eq_false (by omega), decide_eq_true h, Bool.false_or, Bool.true_and]
set_option maxRecDepth 100000 in
set_option maxHeartbeats 4000000 in
theorem place_any {w : World} {a : Option Addr} {l cap : Nat} {zs : List E} (i : Nat) (h : Is w (.slice a l cap) zs) (hl : l = zs.length) (hcap : l ≤ cap ∧ cap ≤ 9223372036854775807) (hok : ok zs = true) (hi : i < l) :
    Calls Try.prog 75 #[.slice a l cap, .int .i64 i] w fun e w' => e = .returned (.int .i64 (rankTo zs i l : Int)) ∧ Below w.heap.size w w' := by
  have hl10 := ok_len hok
  rw [← hl] at hl10
  obtain ⟨b, off, rfl, a0, ll, q0, b1, o1, m, q1, hA⟩ := row_at h hok (show i < zs.length by omega)
  have HAt := hide (fun k (hk : k < l) => row_at h hok (show k < zs.length by omega))
  have HN := hide hl
  have HL := hide (fun W (hb : Below w.heap.size w W) => last_any a0 ll q0 b1 o1 m q1 (lastV (at' zs i)) W (hA.below hb).b1l hA.le hA.mx hA.m9 (hA.below hb).last)
  have hc0 := hA.c0
  have hc1 := hA.c1
  have hi0 : (0 : Int) ≤ (i : Int) := Int.natCast_nonneg _
  have hi1 : (i : Int) < (l : Int) := by omega
  obtain ⟨O, hO⟩ : ∃ O, O = lastV (at' zs i) := ⟨_, rfl⟩
  rw [← hO] at HL
  have HO := hide hO
  clear hO hA h hl
  go_enter Try.func75, Try.ntmps75
  go_wp2_with fail
  refine (unhide HL w (Below.refl _ _)).mono ?_
  rintro e w1 ⟨rfl, hb1⟩
  clear hc0 hc1 HL
  go_wp2_with fail
  go_loopw [5, 17] (fun s iv wr => ∃ k : Nat, k ≤ l ∧ iv = .int .i64 k ∧ s = .int .i64 (rankTo zs i k : Int) ∧ Below w.heap.size w wr) (fun _ iv _ => l - (intOf iv).toNat)
  case atStart => exact ⟨0, Nat.zero_le _, rfl, rfl, hb1⟩
  case round =>
    obtain ⟨k, hk, rfl, rfl, hbel⟩ := hrel
    have hsz := hbel.size
    by_cases hlt : k < l
    · obtain ⟨b', off', e', a0', ll', q0', b1', o1', m', q1', hA'⟩ := unhide HAt k hlt
      cases e'
      have hB := hA'.below hbel
      have hc0 := hB.c0
      have hc1 := hB.c1
      have hr := rankTo_le zs i k
      have HL := hide (fun W (hb : Below wr.heap.size wr W) => last_any a0' ll' q0' b1' o1' m' q1' (lastV (at' zs k)) W (hB.below hb).b1l hB.le hB.mx hB.m9 (hB.below hb).last)
      have HY := hide (fun (h : ahead zs k i = true) => rank_yes h)
      have HNo := hide (fun (h : ahead zs k i = false) => rank_no h)
      obtain ⟨V, hV⟩ : ∃ V, V = lastV (at' zs k) := ⟨_, rfl⟩
      rw [← hV] at HL
      have HV := hide hV
      obtain ⟨W, hW⟩ : ∃ W, W = wr.alloc (.cells #[.slice a0' ll' q0', .slice (some ⟨b1', o1', none⟩) (m' + 1) q1'] 61) := ⟨_, rfl⟩
      have bW : Below wr.heap.size wr W := by rw [hW]; exact (Below.refl _ _).alloc (Nat.le_refl _) _
      have hk0 : (0 : Int) ≤ (k : Int) := Int.natCast_nonneg _
      have hk1 : (k : Int) < (l : Int) := by omega
      generalize rankTo zs i k = rk at hr HY HNo
      clear hV hA' hB
      go_wp2_with fail
      rw [← hW]
      clear hW
      refine (unhide HL W bW).mono ?_
      rintro e w2 ⟨rfl, hb2⟩
      have R := hbel.trans ((bW.trans (hb2.mono bW.size)).mono hsz)
      rcases (show O < V ∨ V < O ∨ (V = O ∧ k < i) ∨ (V = O ∧ ¬ k < i) by omega) with hc | hc | ⟨hc, hc'⟩ | ⟨hc, hc'⟩
      · have HF := hide (unhide HY (ahead_gt (by rw [← unhide HV, ← unhide HO]; exact hc)))
        go_wp2
        go_roundw
        case rel => exact ⟨k + 1, by omega, by go_num, by rw [unhide HF]; go_num, R⟩
        case measure => simp [intOf]; omega
      · have HF := hide (unhide HNo (ahead_lt (by rw [← unhide HV, ← unhide HO]; exact hc)))
        have d1 : decide (O < V) = false := by simp; omega
        have d2 : (V == O) = false := by simp; omega
        have d3 : decide (V = O) = false := by simp; omega
        go_wp2
        go_roundw
        case rel => exact ⟨k + 1, by omega, by go_num, by rw [unhide HF], R⟩
        case measure => simp [intOf]; omega
      · have HF := hide (unhide HY (by rw [ahead_eq (by rw [← unhide HV, ← unhide HO]; exact hc)]; exact decide_eq_true hc'))
        subst hc
        have d4 : decide (k < i) = true := by simp; omega
        go_wp2
        go_roundw
        case rel => exact ⟨k + 1, by omega, by go_num, by rw [unhide HF]; go_num, R⟩
        case measure => simp [intOf]; omega
      · have HF := hide (unhide HNo (by rw [ahead_eq (by rw [← unhide HV, ← unhide HO]; exact hc)]; exact decide_eq_false hc'))
        subst hc
        have d4 : decide (k < i) = false := by simp; omega
        go_wp2
        go_roundw
        case rel => exact ⟨k + 1, by omega, by go_num, by rw [unhide HF], R⟩
        case measure => simp [intOf]; omega
    · have HF := hide (show rankTo zs i k = rankTo zs i l by rw [show k = l by omega])
      go_wp2
      go_ret
      exact ⟨ret_int (by rw [unhide HF]), hbel⟩
end Go.Proofs.Ytdggffcibcggoaa.Row

/- What Top answers, of the program and of the model, at all rows: what stands ahead. -/
namespace Go.Proofs.Ytdggffcibcggoaa.Row
open Go.RowKit Rw
set_option linter.unusedVariables false
attribute [local go_sem ↓] Go.wp_at_zero Go.wp_at_succ
/-- rows of the call's own whose parts lie in old memory -/
def Sel (w wr : World) (ov : Value) (L : List E) : Prop := ∃ cs : List C, cs.length = L.length ∧ wr.ownsRow w.heap.size 61 2 ov L.length (flatOf cl cs) ∧ ∀ i, i < L.length → Elem w (cat cs i) (at' L i)
theorem Sel.nil (w : World) : Sel w w (.slice none 0 0) [] := ⟨[], rfl, World.ownsRow_nil _ _ _ _, fun i h => by simp at h⟩
theorem Sel.is {w wr : World} {ov : Value} {L : List E} (h : Sel w wr ov L) (hb : Below w.heap.size w wr) : Is wr ov L := by
  obtain ⟨cs, h1, h2, h3⟩ := h
  exact ⟨cs, h1, lies_of_own h2, fun i hi => (h3 i hi).below hb⟩
theorem at_snoc_lt (L : List E) (x : E) (i : Nat) (h : i < L.length) : at' (L ++ [x]) i = at' L i := by simp [at', List.getD, List.getElem?_append_left h]
theorem at_snoc_last (L : List E) (x : E) : at' (L ++ [x]) L.length = x := by simp [at', List.getD]
set_option maxRecDepth 100000 in
set_option maxHeartbeats 4000000 in
theorem l11ahead {w : World} {a : Option Addr} {l cap : Nat} {zs : List E} (j i : Nat) (h : Is w (.slice a l cap) zs) (hl : l = zs.length) (hcap : l ≤ cap ∧ cap ≤ 9223372036854775807) (hok : ok zs = true) (hj : j < l) (hi : i < l) :
    Calls Try.prog 74 #[.slice a l cap, .int .i64 j, .int .i64 i] w fun e w' => e = .returned (.bool (ahead zs j i)) ∧ Below w.heap.size w w' := by
  have hl10 := ok_len hok
  rw [← hl] at hl10
  obtain ⟨b, off, rfl, a0, ll, q0, b1, o1, m, q1, hA⟩ := row_at h hok (show j < zs.length by omega)
  obtain ⟨b', off', e', a0', ll', q0', b1', o1', m', q1', hA'⟩ := row_at h hok (show i < zs.length by omega)
  cases e'
  obtain ⟨V, hV⟩ : ∃ V, V = lastV (at' zs j) := ⟨_, rfl⟩
  obtain ⟨O, hO⟩ : ∃ O, O = lastV (at' zs i) := ⟨_, rfl⟩
  have k1 : ∀ x : Cls w.heap.size w, x.val.cell? ⟨b, off + j * 2 + 1, none⟩ = some (.slice (some ⟨b1, o1, none⟩) (m + 1) q1) := fun x => by rw [x.cell hA.bl]; exact hA.c1
  have k2 : ∀ x : Cls w.heap.size w, x.val.cell? ⟨b1, o1 + m * 2 + 1, none⟩ = some (.int .i64 V) := fun x => by rw [x.cell hA.b1l, hV]; exact hA.last
  have HA' := hide hA'
  have h1 := hA.le
  have h2 := hA.mx
  have h3 := hA.m9
  have h1' := hA'.le
  have h2' := hA'.mx
  have h3' := hA'.m9
  have hj0 : (0 : Int) ≤ (j : Int) := Int.natCast_nonneg _
  have hj1 : (j : Int) < (l : Int) := by omega
  have hi0 : (0 : Int) ≤ (i : Int) := Int.natCast_nonneg _
  have hi1 : (i : Int) < (l : Int) := by omega
  have hm0 : (0 : Int) ≤ (m : Int) := Int.natCast_nonneg _
  have hm1 : (m : Int) < (m : Int) + 1 := by omega
  have hm0' : (0 : Int) ≤ (m' : Int) := Int.natCast_nonneg _
  have hm1' : (m' : Int) < (m' : Int) + 1 := by omega
  have HV := hide hV
  have HO := hide hO
  clear hV hO hA hA' h hl
  have hne := cls_nonempty w.heap.size w
  go_enter Try.func74, Try.ntmps74
  go_wp2_with fail
  refine region_cls (by kernel_rfl) (by kernel_rfl) ?_
  repeat (go_big_quiet_step (fail))
  refine wpQuiet_nil ?_
  rintro wq ⟨⟨_, hq⟩, rfl⟩
  have hB := (unhide HA').below hq
  have k1' : ∀ x : Cls wq.heap.size wq, x.val.cell? ⟨b, off + i * 2 + 1, none⟩ = some (.slice (some ⟨b1', o1', none⟩) (m' + 1) q1') := fun x => by rw [x.cell hB.bl]; exact hB.c1
  have k2' : ∀ x : Cls wq.heap.size wq, x.val.cell? ⟨b1', o1' + m' * 2 + 1, none⟩ = some (.int .i64 O) := fun x => by rw [x.cell hB.b1l, unhide HO]; exact hB.last
  have hne' := cls_nonempty wq.heap.size wq
  clear k1 k2 hne hB
  go_wp2_with fail
  refine region_cls (by kernel_rfl) (by kernel_rfl) ?_
  repeat (go_big_quiet_step (fail))
  refine wpQuiet_nil ?_
  rintro w2 ⟨⟨_, hq2⟩, rfl⟩
  have R := hq.trans (hq2.mono hq.size)
  clear k1' k2' hne'
  rcases (show O < V ∨ V < O ∨ (V = O ∧ j < i) ∨ (V = O ∧ ¬ j < i) by omega) with hc | hc | ⟨hc, hc'⟩ | ⟨hc, hc'⟩
  · have HF := hide (show ahead zs j i = true from ahead_gt (by rw [← unhide HV, ← unhide HO]; exact hc))
    go_wp2
    go_ret
    exact ⟨ret_bool (unhide HF).symm, R⟩
  · have HF := hide (show ahead zs j i = false from ahead_lt (by rw [← unhide HV, ← unhide HO]; exact hc))
    have d1 : decide (O < V) = false := by simp; omega
    have d2 : (V == O) = false := by simp; omega
    have d3 : decide (V = O) = false := by simp; omega
    go_wp2
    go_ret
    exact ⟨ret_bool (unhide HF).symm, R⟩
  · have HF := hide (show ahead zs j i = true by rw [ahead_eq (by rw [← unhide HV, ← unhide HO]; exact hc)]; exact decide_eq_true hc')
    subst hc
    have d4 : decide (j < i) = true := by simp; omega
    go_wp2
    go_ret
    exact ⟨ret_bool (unhide HF).symm, R⟩
  · have HF := hide (show ahead zs j i = false by rw [ahead_eq (by rw [← unhide HV, ← unhide HO]; exact hc)]; exact decide_eq_false hc')
    subst hc
    have d4 : decide (j < i) = false := by simp; omega
    go_wp2
    go_ret
    exact ⟨ret_bool (unhide HF).symm, R⟩
end Go.Proofs.Ytdggffcibcggoaa.Row
