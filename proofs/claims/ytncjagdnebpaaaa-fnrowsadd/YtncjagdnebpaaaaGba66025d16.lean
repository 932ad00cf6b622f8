/- My own texts of one claim, laid together by program: RowsAdd, DrawRows, Many, DrawLab2. -/
import Derived.Test.YtncjagdnebpaaaaGd62be9a8fb
import Derived.Test.YtncjagdnebpaaaaGe597c8c423
import Derived.Test.YtncjagdnebpaaaaG0b5a214c69
import Derived.Test.YtncjagdnebpaaaaG6719f0bc30
import Derived.Test.YtncjagdnebpaaaaGae2850a088
import Derived.Test.YtncjagdnebpaaaaG0c04a85d21
import Derived.Test.YtncjagdnebpaaaaGffb30f2161
/- RowsAdd, of the program and of the model. -/
namespace Go.Proofs.Ytncjagdnebpaaaa.Row
open Go.RowKit Rw
set_option linter.unusedVariables false
attribute [local go_sem ↓] Go.wp_at_zero Go.wp_at_succ
/-- what RowsAdd answers -/
def radd (zs : List E) (ls : List Lab.E) (t v : Int) : List E × Bool :=
  if ok zs = true ∧ Lab.ok ls = true ∧ SampMath.inR t v = true then (match add zs (ls, [(t, v)]) with | some R => (R, true) | none => (zs, false)) else ([], false)
theorem one_ok (t v : Int) : SampMath.ok [(t, v)] = SampMath.inR t v := by
  simp [SampMath.ok, SampMath.okTo, SampMath.stepOk, SampMath.at']
theorem row_ok {ls : List Lab.E} {t v : Int} (h1 : Lab.ok ls = true) (h2 : SampMath.inR t v = true) : ok [(ls, [(t, v)])] = true := by
  rw [ok_iff]
  refine ⟨fun x hx => ?_, List.pairwise_singleton _ _, by simp⟩
  rw [List.mem_singleton.1 hx]
  unfold rowB
  rw [h1, one_ok, h2]
  rfl
theorem addAll_one (L : List E) (x : E) : addAll L [x] = add L x := by
  rw [addAll]
  cases add L x <;> rfl
theorem radd_yes {zs : List E} {ls : List Lab.E} {t v : Int} (h1 : ok zs = true) (h2 : Lab.ok ls = true) (h3 : SampMath.inR t v = true) : radd zs ls t v = match add zs (ls, [(t, v)]) with | some R => (R, true) | none => (zs, false) := by unfold radd; rw [if_pos ⟨h1, h2, h3⟩]
theorem radd_no {zs : List E} {ls : List Lab.E} {t v : Int} (h : ok zs = false ∨ Lab.ok ls = false ∨ SampMath.inR t v = false) : radd zs ls t v = ([], false) := by
  unfold radd
  rw [if_neg]
  rintro ⟨h1, h2, h3⟩
  rw [h1, h2, h3] at h
  simp at h
theorem join_one {zs : List E} {ls : List Lab.E} {t v : Int} (h1 : ok zs = true) (h2 : Lab.ok ls = true) (h3 : SampMath.inR t v = true) : join zs [(ls, [(t, v)])] = told (add zs (ls, [(t, v)])) := by
  unfold join; rw [if_pos ⟨h1, row_ok h2 h3⟩, addAll_one]
/-- a slice of a single row -/
theorem one_is {w : World} {B1 B2 : Nat} {u : Value} {ls : List Lab.E} {t v : Int} (hl : Lab.Is w u ls) (h1 : B1 = w.heap.size) (h2 : B2 = w.heap.size + 1) :
    Is ((w.alloc (.cells #[.int .i64 t, .int .i64 v] 26)).alloc (.cells #[u, .slice (some ⟨B1, 0, none⟩) 1 1] 44)) (.slice (some ⟨B2, 0, none⟩) 1 1) [(ls, [(t, v)])] := by
  subst h1 h2
  have hm : 1 ≤ maxLen := by unfold maxLen; omega
  have b1 : Below w.heap.size w (w.alloc (.cells #[.int .i64 t, .int .i64 v] 26)) := (Below.refl _ _).alloc (Nat.le_refl _) _
  have b2 : Below (w.alloc (.cells #[.int .i64 t, .int .i64 v] 26)).heap.size (w.alloc (.cells #[.int .i64 t, .int .i64 v] 26)) ((w.alloc (.cells #[.int .i64 t, .int .i64 v] 26)).alloc (.cells #[u, .slice (some ⟨w.heap.size, 0, none⟩) 1 1] 44)) := (Below.refl _ _).alloc (Nat.le_refl _) _
  have hs : Sam.Is (w.alloc (.cells #[.int .i64 t, .int .i64 v] 26)) (.slice (some ⟨w.heap.size, 0, none⟩) 1 1) [(t, v)] := lies_new (w := w) (cs := #[.int .i64 t, .int .i64 v]) (t := 26) (n := 1) (size := 2) rfl rfl hm
  refine ⟨[(u, .slice (some ⟨w.heap.size, 0, none⟩) 1 1)], rfl, lies_new (w := w.alloc (.cells #[.int .i64 t, .int .i64 v] 26)) (cs := #[u, .slice (some ⟨w.heap.size, 0, none⟩) 1 1]) (n := 1) (size := 2) (by simp) rfl hm, fun i hi => ?_⟩
  obtain rfl : i = 0 := by simp at hi; omega
  exact ⟨(hl.below b1).below b2, hs.below b2⟩
theorem good_one {ls : List Lab.E} {t v : Int} (h1 : Lab.ok ls = true) (h3 : SampMath.inR t v = true) : ∀ x ∈ ([(ls, [(t, v)])] : List E), good x := fine_good (fine_ok (row_ok h1 h3))
set_option maxRecDepth 100000 in
set_option maxHeartbeats 8000000 in
theorem impl_radd {w : World} {v u : Value} {zs : List E} {ls : List Lab.E} (T V : Int) (h : Is w v zs) (hg : ∀ x ∈ zs, good x) (hlen : zs.length ≤ maxLen) (hl : Lab.Is w u ls) (hlg : ∀ x ∈ ls, Lab.good x) :
    Calls Try.prog 5 #[v, u, .agg #[.int .i64 T, .int .i64 V]] w fun e w' => ∃ r, e = .returned (.tuple #[r, .bool (radd zs ls T V).2]) ∧ Own w.heap.size w'.heap.size w' r (radd zs ls T V).1 ∧ Below w.heap.size w w' := by
  obtain ⟨au, nu, qu, rfl⟩ : ∃ a n q, u = .slice a n q := by obtain ⟨-, a, q, e, -⟩ := hl; exact ⟨a, _, q, e⟩
  obtain ⟨wb, hwb⟩ : ∃ wb, wb = w.alloc (.cells #[.int .i64 T, .int .i64 V] 26) := ⟨_, rfl⟩
  have bb : Below w.heap.size w wb := by rw [hwb]; exact (Below.refl _ _).alloc (Nat.le_refl _) _
  have zb : w.heap.size < wb.heap.size := by rw [hwb]; simp
  have q0 : wb.cell? ⟨w.heap.size, 0, none⟩ = some (.int .i64 T) := by rw [hwb]; simp [go_sem]
  have q1 : wb.cell? ⟨w.heap.size, 1, none⟩ = some (.int .i64 V) := by rw [hwb]; simp [go_sem]
  have HO := hide (impl_ok (h.below bb) hg hlen)
  have HL := hide (fun W (hb : Below w.heap.size w W) => Lab.impl_ok (hl.below hb) hlg)
  have HC := hide (fun (hok : ok zs = true) W (hb : Below w.heap.size w W) => copy_any (h.below hb) hok)
  have HJ := hide (fun (h1 : ok zs = true) (h2 : Lab.ok ls = true) (h3 : SampMath.inR T V = true) W (hb : Below w.heap.size w W) => impl_join (w := (W.alloc (.cells #[.int .i64 T, .int .i64 V] 26)).alloc (.cells #[.slice au nu qu, .slice (some ⟨W.heap.size, 0, none⟩) 1 1] 44)) (h.below ((hb.alloc hb.size _).alloc (by simp; have := hb.size; omega) _)) (one_is (t := T) (v := V) (hl.below hb) rfl rfl) hg hlen (good_one h2 h3) (by simp [maxLen]))
  cases hok : ok zs
  · have HR := hide (radd_no (ls := ls) (t := T) (v := V) (.inl hok))
    rw [hok] at HO
    clear h hg hl hlg hok HC HJ HL
    go_enter Try.func5, Try.ntmps5
    go_wp2_with fail
    rw [← hwb]
    clear hwb
    refine (unhide HO).mono ?_
    rintro e w1 ⟨rfl, b1⟩
    have R1 := bb.trans (b1.mono bb.size)
    go_wp2_with fail
    go_ret2
    exact ⟨.slice none 0 0, by rw [unhide HR]; rfl, by rw [unhide HR]; exact own_nil w.heap.size w1, R1⟩
  cases hlo : Lab.ok ls
  · have HR := hide (radd_no (zs := zs) (t := T) (v := V) (.inr (.inl hlo)))
    rw [hok] at HO
    rw [hlo] at HL
    clear h hg hl hlg hok HC HJ hlo
    go_enter Try.func5, Try.ntmps5
    go_wp2_with fail
    rw [← hwb]
    clear hwb
    refine (unhide HO).mono ?_
    rintro e w1 ⟨rfl, b1⟩
    have R1 := bb.trans (b1.mono bb.size)
    go_wp2_with fail
    refine (unhide HL w1 R1).mono ?_
    rintro e w2 ⟨rfl, b2⟩
    have R2 := R1.trans (b2.mono R1.size)
    go_wp2_with fail
    go_ret2
    exact ⟨.slice none 0 0, by rw [unhide HR]; rfl, by rw [unhide HR]; exact own_nil w.heap.size w2, R2⟩
  cases hin : SampMath.inR T V
  · have HR := hide (radd_no (zs := zs) (ls := ls) (.inr (.inr hin)))
    rw [hok] at HO
    rw [hlo] at HL
    have HSm := hide (fun (W : World) => Samp.sampleOk_any T V W)
    rw [hin] at HSm
    clear h hg hl hlg hok HC HJ hlo hin
    go_enter Try.func5, Try.ntmps5
    go_wp2_with fail
    rw [← hwb]
    clear hwb
    refine (unhide HO).mono ?_
    rintro e w1 ⟨rfl, b1⟩
    have R1 := bb.trans (b1.mono bb.size)
    go_wp2_with fail
    refine (unhide HL w1 R1).mono ?_
    rintro e w2 ⟨rfl, b2⟩
    have R2 := R1.trans (b2.mono R1.size)
    have b12 := b1.trans (b2.mono b1.size)
    have q02 := (b12.cell (p := ⟨w.heap.size, 0, none⟩) zb).trans q0
    have q12 := (b12.cell (p := ⟨w.heap.size, 1, none⟩) zb).trans q1
    clear q0 q1
    go_wp2_with fail
    refine (unhide HSm w2).mono ?_
    rintro e w3 ⟨rfl, e3⟩
    have R3 : Below w.heap.size w w3 := by rw [e3]; exact R2.alloc R2.size _
    clear e3
    go_wp2_with fail
    go_ret2
    exact ⟨.slice none 0 0, by rw [unhide HR]; rfl, by rw [unhide HR]; exact own_nil w.heap.size w3, R3⟩
  have HR := hide (radd_yes hok hlo hin)
  rw [hok] at HO
  rw [hlo] at HL
  have HSm := hide (fun (W : World) => Samp.sampleOk_any T V W)
  rw [hin] at HSm
  have HJ1 := hide (fun W hb => unhide HJ hok hlo hin W hb)
  rw [join_one hok hlo hin] at HJ1
  have HC1 := hide (fun W hb => unhide HC hok W hb)
  clear h hg hl hlg hok HC HJ hlo hin
  go_enter Try.func5, Try.ntmps5
  go_wp2_with fail
  rw [← hwb]
  clear hwb
  refine (unhide HO).mono ?_
  rintro e w1 ⟨rfl, b1⟩
  have R1 := bb.trans (b1.mono bb.size)
  go_wp2_with fail
  refine (unhide HL w1 R1).mono ?_
  rintro e w2 ⟨rfl, b2⟩
  have R2 := R1.trans (b2.mono R1.size)
  have b12 := b1.trans (b2.mono b1.size)
  have q02 := (b12.cell (p := ⟨w.heap.size, 0, none⟩) zb).trans q0
  have q12 := (b12.cell (p := ⟨w.heap.size, 1, none⟩) zb).trans q1
  have zb2 := Nat.lt_of_lt_of_le zb b12.size
  clear q0 q1 b12 b1 b2 bb HL HO
  go_wp2_with fail
  refine (unhide HSm w2).mono ?_
  rintro e w3 ⟨rfl, e3⟩
  have b3 : Below w2.heap.size w2 w3 := by rw [e3]; exact (Below.refl _ _).alloc (Nat.le_refl _) _
  have R3 : Below w.heap.size w w3 := R2.trans (b3.mono R2.size)
  have q03 := (b3.cell (p := ⟨w.heap.size, 0, none⟩) zb2).trans q02
  have q13 := (b3.cell (p := ⟨w.heap.size, 1, none⟩) zb2).trans q12
  clear e3 q02 q12
  have zR := R3.size
  have HJ3 := hide (unhide HJ1 w3 R3)
  have HB3 := hide (show Below w.heap.size w ((w3.alloc (.cells #[.int .i64 T, .int .i64 V] 26)).alloc (.cells #[.slice au nu qu, .slice (some ⟨w3.heap.size, 0, none⟩) 1 1] 44)) from (R3.alloc zR _).alloc (by simp; omega) _)
  clear HJ1 HSm
  go_wp2_with fail
  refine (unhide HJ3).mono ?_
  rintro e w4 ⟨r, rfl, ho, b4⟩
  have R4 := (unhide HB3).trans (b4.mono (unhide HB3).size)
  have HOw := hide (own_wide ho (lo' := w.heap.size) (hi' := w4.heap.size) (unhide HB3).size (Nat.le_refl _) (Nat.le_refl _))
  obtain ⟨ra, rl, rq, rfl⟩ := ho.form
  clear ho b4 HJ3 HB3
  cases hadd : add zs (ls, [(T, V)]) with
  | none =>
    have HC4 := hide (unhide HC1 w4 R4)
    rw [hadd] at HR HOw
    clear HC1 hadd
    go_wp2_with fail
    refine (unhide HC4).mono ?_
    rintro e w5 ⟨r5, rfl, ho5, b5⟩
    have R5 := R4.trans (b5.mono R4.size)
    have HOw5 := hide (own_wide ho5 (lo' := w.heap.size) (hi' := w5.heap.size) R4.size (Nat.le_refl _) (Nat.le_refl _))
    obtain ⟨ra5, rl5, rq5, rfl⟩ := ho5.form
    clear ho5 b5 HC4 HOw
    go_wp2_with fail
    go_ret2
    exact ⟨.slice ra5 rl5 rq5, by rw [unhide HR]; rfl, by rw [unhide HR]; exact unhide HOw5, R5⟩
  | some R =>
    rw [hadd] at HR HOw
    clear HC1 hadd
    go_wp2_with fail
    go_ret2
    exact ⟨.slice ra rl rq, by rw [unhide HR]; rfl, by rw [unhide HR]; exact unhide HOw, R4⟩
set_option maxRecDepth 100000 in
set_option maxHeartbeats 8000000 in
theorem spec_radd {w : World} {v u : Value} {zs : List E} {ls : List Lab.E} (T V : Int) (h : Is w v zs) (hg : ∀ x ∈ zs, good x) (hlen : zs.length ≤ maxLen) (hl : Lab.Is w u ls) (hlg : ∀ x ∈ ls, Lab.good x) (hll : ls.length ≤ maxLen) :
    Calls Try.prog 6 #[v, u, .agg #[.int .i64 T, .int .i64 V]] w fun e w' => ∃ r, e = .returned (.tuple #[r, .bool (radd zs ls T V).2]) ∧ Own w.heap.size w'.heap.size w' r (radd zs ls T V).1 ∧ Below w.heap.size w w' := by
  obtain ⟨au, nu, qu, rfl⟩ : ∃ a n q, u = .slice a n q := by obtain ⟨-, a, q, e, -⟩ := hl; exact ⟨a, _, q, e⟩
  obtain ⟨wb, hwb⟩ : ∃ wb, wb = w.alloc (.cells #[.int .i64 T, .int .i64 V] 26) := ⟨_, rfl⟩
  have bb : Below w.heap.size w wb := by rw [hwb]; exact (Below.refl _ _).alloc (Nat.le_refl _) _
  have zb : w.heap.size < wb.heap.size := by rw [hwb]; simp
  have q0 : wb.cell? ⟨w.heap.size, 0, none⟩ = some (.int .i64 T) := by rw [hwb]; simp [go_sem]
  have q1 : wb.cell? ⟨w.heap.size, 1, none⟩ = some (.int .i64 V) := by rw [hwb]; simp [go_sem]
  have hm : 1 ≤ maxLen := by unfold maxLen; omega
  have HO := hide (spec_ok (h.below bb) hg hlen)
  have HL := hide (fun W (hb : Below w.heap.size w W) => Lab.spec_ok (hl.below hb) hlg hll)
  have HC := hide (fun (hok : ok zs = true) W (hb : Below w.heap.size w W) => l5copy (h.below hb) hok)
  have HSm := hide (fun (W : World) => Sam.l2ok (w := W.alloc (.cells #[.int .i64 T, .int .i64 V] 26)) (v := .slice (some ⟨W.heap.size, 0, none⟩) 1 1) (zs := [(T, V)]) (lies_new (w := W) (cs := #[.int .i64 T, .int .i64 V]) (t := 26) (n := 1) (size := 2) rfl rfl hm))
  rw [one_ok] at HSm
  have HA := hide (fun (h1 : ok zs = true) (h2 : Lab.ok ls = true) (h3 : SampMath.inR T V = true) W (hb : Below w.heap.size w W) => l5add (w := W.alloc (.cells #[.int .i64 T, .int .i64 V] 26)) (s := .slice (some ⟨W.heap.size, 0, none⟩) 1 1) (xs := [(T, V)]) (h.below (hb.alloc hb.size _)) h1 (hl.below (hb.alloc hb.size _)) h2 (lies_new (w := W) (cs := #[.int .i64 T, .int .i64 V]) (t := 26) (n := 1) (size := 2) rfl rfl hm) (by rw [one_ok]; exact h3))
  have HE0 := hide (fun (W : World) (hb : Below w.heap.size w W) => show Own w.heap.size (W.alloc (.cells #[] 44)).heap.size (W.alloc (.cells #[] 44)) (.slice (some ⟨W.heap.size, 0, none⟩) 0 0) [] from ⟨[], rfl, own_mono (own_empty (Nat.le_refl _)) hb.size, own_block_lt (own_empty (base := W.heap.size) (e := 44) (size := 2) (Nat.le_refl _)), Nat.le_refl _, fun i j _ h => absurd h (Nat.not_lt_zero _), fun i j _ h => absurd h (Nat.not_lt_zero _), fun i h => absurd h (Nat.not_lt_zero _)⟩)
  cases hok : ok zs
  · have HR := hide (radd_no (ls := ls) (t := T) (v := V) (.inl hok))
    rw [hok] at HO
    clear h hg hl hlg hok HC HA HL HSm
    go_enter Try.func6, Try.ntmps6
    go_wp2_with fail
    rw [← hwb]
    clear hwb
    refine (unhide HO).mono ?_
    rintro e w1 ⟨rfl, b1⟩
    have R1 := bb.trans (b1.mono bb.size)
    have R1' : Below w.heap.size w (w1.alloc (.cells #[] 44)) := R1.alloc R1.size _
    go_wp2_with fail
    go_ret2
    exact ⟨.slice (some ⟨w1.heap.size, 0, none⟩) 0 0, by rw [unhide HR]; rfl, by rw [unhide HR]; exact unhide HE0 w1 R1, R1'⟩
  cases hlo : Lab.ok ls
  · have HR := hide (radd_no (zs := zs) (t := T) (v := V) (.inr (.inl hlo)))
    rw [hok] at HO
    rw [hlo] at HL
    clear h hg hl hlg hok HC HA hlo HSm
    go_enter Try.func6, Try.ntmps6
    go_wp2_with fail
    rw [← hwb]
    clear hwb
    refine (unhide HO).mono ?_
    rintro e w1 ⟨rfl, b1⟩
    have R1 := bb.trans (b1.mono bb.size)
    go_wp2_with fail
    refine (unhide HL w1 R1).mono ?_
    rintro e w2 ⟨rfl, b2⟩
    have R2 := R1.trans (b2.mono R1.size)
    have R2' : Below w.heap.size w (w2.alloc (.cells #[] 44)) := R2.alloc R2.size _
    go_wp2_with fail
    go_ret2
    exact ⟨.slice (some ⟨w2.heap.size, 0, none⟩) 0 0, by rw [unhide HR]; rfl, by rw [unhide HR]; exact unhide HE0 w2 R2, R2'⟩
  cases hin : SampMath.inR T V
  · have HR := hide (radd_no (zs := zs) (ls := ls) (.inr (.inr hin)))
    rw [hok] at HO
    rw [hlo] at HL
    rw [hin] at HSm
    clear h hg hl hlg hok HC HA hlo hin
    go_enter Try.func6, Try.ntmps6
    go_wp2_with fail
    rw [← hwb]
    clear hwb
    refine (unhide HO).mono ?_
    rintro e w1 ⟨rfl, b1⟩
    have R1 := bb.trans (b1.mono bb.size)
    go_wp2_with fail
    refine (unhide HL w1 R1).mono ?_
    rintro e w2 ⟨rfl, b2⟩
    have R2 := R1.trans (b2.mono R1.size)
    have b12 := b1.trans (b2.mono b1.size)
    have q02 := (b12.cell (p := ⟨w.heap.size, 0, none⟩) zb).trans q0
    have q12 := (b12.cell (p := ⟨w.heap.size, 1, none⟩) zb).trans q1
    have R2a : Below w.heap.size w (w2.alloc (.cells #[.int .i64 T, .int .i64 V] 26)) := R2.alloc R2.size _
    clear q0 q1
    go_wp2_with fail
    refine (unhide HSm w2).mono ?_
    rintro e w3 ⟨rfl, b3⟩
    have R3 := R2a.trans (b3.mono R2a.size)
    have R3' : Below w.heap.size w (w3.alloc (.cells #[] 44)) := R3.alloc R3.size _
    clear q02 q12 b12
    go_wp2_with fail
    go_ret2
    exact ⟨.slice (some ⟨w3.heap.size, 0, none⟩) 0 0, by rw [unhide HR]; rfl, by rw [unhide HR]; exact unhide HE0 w3 R3, R3'⟩
  have HR := hide (radd_yes hok hlo hin)
  have HA1 := hide (fun W hb => unhide HA hok hlo hin W hb)
  have HC1 := hide (fun W hb => unhide HC hok W hb)
  rw [hok] at HO
  rw [hlo] at HL
  rw [hin] at HSm
  clear h hg hl hlg hok HC HA hlo hin HE0
  go_enter Try.func6, Try.ntmps6
  go_wp2_with fail
  rw [← hwb]
  clear hwb
  refine (unhide HO).mono ?_
  rintro e w1 ⟨rfl, b1⟩
  have R1 := bb.trans (b1.mono bb.size)
  go_wp2_with fail
  refine (unhide HL w1 R1).mono ?_
  rintro e w2 ⟨rfl, b2⟩
  have R2 := R1.trans (b2.mono R1.size)
  have b12 := b1.trans (b2.mono b1.size)
  have q02 := (b12.cell (p := ⟨w.heap.size, 0, none⟩) zb).trans q0
  have q12 := (b12.cell (p := ⟨w.heap.size, 1, none⟩) zb).trans q1
  have zb2 := Nat.lt_of_lt_of_le zb b12.size
  have ba2 : Below w2.heap.size w2 (w2.alloc (.cells #[.int .i64 T, .int .i64 V] 26)) := (Below.refl _ _).alloc (Nat.le_refl _) _
  clear q0 q1 b12 b1 b2 bb HL HO
  go_wp2_with fail
  refine (unhide HSm w2).mono ?_
  rintro e w3 ⟨rfl, b3'⟩
  have b3 := ba2.trans (b3'.mono ba2.size)
  have R3 : Below w.heap.size w w3 := R2.trans (b3.mono R2.size)
  have q03 := (b3.cell (p := ⟨w.heap.size, 0, none⟩) zb2).trans q02
  have q13 := (b3.cell (p := ⟨w.heap.size, 1, none⟩) zb2).trans q12
  clear q02 q12 b3' ba2 b3 HSm
  have zR := R3.size
  have HA3 := hide (unhide HA1 w3 R3)
  have HB3 := hide (show Below w.heap.size w (w3.alloc (.cells #[.int .i64 T, .int .i64 V] 26)) from R3.alloc zR _)
  clear HA1
  go_wp2_with fail
  refine (unhide HA3).mono ?_
  rintro e w4 ⟨r, rfl, ho, b4⟩
  have R4 := (unhide HB3).trans (b4.mono (unhide HB3).size)
  cases hadd : add zs (ls, [(T, V)]) with
  | none =>
    have HC4 := hide (unhide HC1 w4 R4)
    rw [hadd] at HR
    clear HC1 hadd ho b4 HA3 HB3
    go_wp2_with fail
    refine (unhide HC4).mono ?_
    rintro e w5 ⟨r5, rfl, ho5, b5⟩
    have R5 := R4.trans (b5.mono R4.size)
    have HOw5 := hide (own_wide ho5 (lo' := w.heap.size) (hi' := w5.heap.size) R4.size (Nat.le_refl _) (Nat.le_refl _))
    obtain ⟨ra5, rl5, rq5, rfl⟩ := ho5.form
    clear ho5 b5 HC4
    go_wp2_with fail
    go_ret2
    exact ⟨.slice ra5 rl5 rq5, by rw [unhide HR]; rfl, by rw [unhide HR]; exact unhide HOw5, R5⟩
  | some R =>
    have ho' := ho R hadd
    have HOw := hide (own_wide ho' (lo' := w.heap.size) (hi' := w4.heap.size) (unhide HB3).size (Nat.le_refl _) (Nat.le_refl _))
    obtain ⟨ra, rl, rq, rfl⟩ := ho'.form
    rw [hadd] at HR
    clear HC1 hadd ho ho' b4 HA3 HB3
    go_wp2_with fail
    go_ret2
    exact ⟨.slice ra rl rq, by rw [unhide HR]; rfl, by rw [unhide HR]; exact unhide HOw, R4⟩
end Go.Proofs.Ytncjagdnebpaaaa.Row

/- Rows are drawn: by the model, and ok. -/
namespace Go.Proofs.Ytncjagdnebpaaaa.Draw
open Go.RowKit Rw
set_option linter.unusedVariables false
attribute [local go_sem ↓] Go.wp_at_zero Go.wp_at_succ
theorem zone_of_grown {a b : World} {g : Nat} (h : a.grownBy b (some g)) : Zone g (g + 1) a b := ⟨h.os, h.tape, h.output, h.size, fun k hk ho => h.block k hk (fun e => by have := Option.some.inj e; omega)⟩
theorem row_kept {w w' : World} {lo hi rb : Nat} {v : Value} {zs : List Row.E} (h : Row.Own lo hi w v zs) (hg : w.grownBy w' (some rb)) (hr : rb < lo) : Row.Own lo hi w' v zs := h.zone (zone_of_grown hg) (.inr hr)
theorem own_nil' (lo : Nat) (W : World) (hb : lo ≤ W.heap.size) : Row.Own lo (W.alloc (.cells #[] 44)).heap.size (W.alloc (.cells #[] 44)) (.slice (some ⟨W.heap.size, 0, none⟩) 0 0) [] :=
  ⟨[], rfl, own_mono (own_empty (Nat.le_refl _)) hb, own_block_lt (own_empty (base := W.heap.size) (e := 44) (size := 2) (Nat.le_refl _)), Nat.le_refl _, fun i j _ h => absurd h (Nat.not_lt_zero _), fun i j _ h => absurd h (Nat.not_lt_zero _), fun i h => absurd h (Nat.not_lt_zero _)⟩
set_option maxRecDepth 100000 in
set_option maxHeartbeats 16000000 in
theorem rows_any (rb p : Nat) (fr : Int) (w : World) (h : Rd w rb p) (hp : p ≤ 600000) (h0 : 0 ≤ fr) (h1 : fr ≤ 20000) :
    Calls Try.prog 33 #[.pointer (some ⟨rb, 0, none⟩), .int .i64 fr] w fun e w' => ∃ (L : List Row.E) (v : Value), e = .returned v ∧ Row.ok L = true ∧ Row.Own w.heap.size w'.heap.size w' v L ∧ (∃ p', p' ≤ p + 200 ∧ Rd w' rb p') ∧ w.grownBy w' (some rb) := by
  have hrl := h.lt
  have HR := hide h
  have HE0 := hide (own_nil' w.heap.size w (Nat.le_refl _))
  have hb1 : Below w.heap.size w (w.alloc (.cells #[] 44)) := (Below.refl _ _).alloc (Nat.le_refl _) _
  clear h
  go_enter Try.func33, Try.ntmps33
  go_wp2_with fail
  refine (pick_any rb p _ _ ((unhide HR).below hb1) (by omega) (by omega)).mono ?_
  rintro e w1 ⟨x, rfl, x0, x1, -, r1, g1⟩
  have x2 : x < 4 := x1 (by omega)
  have q1 : w.grownBy w1 (some rb) := grown_trans (grown_below hb1) g1
  have O1 := hide (Row.own_wide (row_kept (unhide HE0) g1 hrl) (Nat.le_refl _) g1.size (Nat.le_refl _))
  obtain ⟨n, rfl⟩ := Int.eq_ofNat_of_zero_le x0
  clear x1 HR HE0 g1 hb1
  go_wp2_with fail
  go_loopw [5, 6] (fun ov nv wr => ∃ (n : Nat) (L : List Row.E) (p' : Nat) (a : Option Addr) (l q : Nat), nv = .int .i64 (n : Int) ∧ n ≤ 3 ∧ ov = .slice a l q ∧ Hid (Row.ok L = true) ∧ Hid (Row.Own w.heap.size wr.heap.size wr ov L) ∧ p' + 60 * n ≤ p + 190 ∧ Rd wr rb p' ∧ w.grownBy wr (some rb)) (fun _ nv _ => (intOf nv).toNat)
  case atStart => exact ⟨n, [], p + 1, _, _, _, rfl, by omega, rfl, (show Row.ok [] = true from rfl), O1, by omega, r1, q1⟩
  case round =>
    clear O1 q1 r1 x0 x2
    obtain ⟨n, L, p', a, l, q, rfl, hn3, rfl, HK, HO, hp', hrd, hg⟩ := hrel
    have hsz := hg.size
    by_cases hn0 : 0 < n
    · have hn1 : (0 : Int) < (n : Int) := by omega
      go_wp2_with fail
      refine (labels_ok rb p' _ hrd (by omega)).mono ?_
      rintro e w2 ⟨ls, lv, rfl, hl0, hl3, hlo, ol, ⟨p2, hp2, r2⟩, g2⟩
      obtain ⟨la, lq, rfl⟩ : ∃ a q, lv = .slice a ls.length q := by obtain ⟨-, a, q, e, -⟩ := lies_of_own ol; exact ⟨a, q, e⟩
      have z2 := g2.size
      have HO2 := hide (row_kept (unhide HO) g2 hrl)
      have q2 := grown_trans hg g2
      have HLo := hide hlo
      have HLn := hide (show ls.length = ls.length from rfl)
      have OL := hide (own_mono ol hsz)
      generalize hll : ls.length = ll at *
      have HLL := hide hll
      clear ol hlo hrd g2 hg HO hl0 hl3 HLn hll
      go_wp2_with fail
      refine (pick_any rb p2 _ _ r2 (by omega) (by omega)).mono ?_
      rintro e w3 ⟨y, rfl, y0, y1, -, r3, g3⟩
      have y2 : y < 120 := y1 (by omega)
      have HO3 := hide (row_kept (unhide HO2) g3 hrl)
      have OL3 := hide (own_kept (unhide OL) g3 hrl)
      have q3 := grown_trans q2 g3
      have z3 := g3.size
      clear y1 r2 g3 HO2 OL q2
      go_wp2_with fail
      refine (pick_any rb (p2 + 1) _ _ r3 (by omega) (by omega)).mono ?_
      rintro e w4 ⟨u, rfl, u0, u1, -, r4, g4⟩
      have u2 : u < 4 := u1 (by omega)
      have HO4 := hide (Row.own_wide (row_kept (unhide HO3) g4 hrl) (Nat.le_refl _) (Nat.le_trans (Nat.le_trans z2 z3) g4.size) (Nat.le_refl _))
      have OL4 := hide (own_kept (unhide OL3) g4 hrl)
      have q4 := grown_trans q3 g4
      have z4 := g4.size
      obtain ⟨k0, rfl⟩ := Int.eq_ofNat_of_zero_le u0
      obtain ⟨t, ht⟩ : ∃ t, t = fr + y := ⟨_, rfl⟩
      have ht0 : 0 ≤ t ∧ t ≤ 20120 := by omega
      have HP2 := hide hp2
      clear u1 r3 g4 HO3 OL3 q3 z2 z3 z4 hp2
      obtain ⟨wo, hwo⟩ : ∃ wo, wo = wr := ⟨_, rfl⟩
      subst hwo
      go_wp2_with fail
      go_loopw [5, 8, 9] (fun ov tv kv wi => ∃ (k : Nat) (L' : List Row.E) (p3 : Nat) (T : Int) (a : Option Addr) (l q : Nat), kv = .int .i64 (k : Int) ∧ k ≤ 4 ∧ tv = .int .i64 T ∧ 0 ≤ T ∧ T ≤ 20120 ∧ ov = .slice a l q ∧ Hid (Row.ok L' = true) ∧ Hid (Row.Own w.heap.size wi.heap.size wi ov L') ∧ Hid (wi.ownsRow w.heap.size 47 2 (.slice la ll lq) ll (Lab.flat ls)) ∧ p3 + 8 * k ≤ p2 + 2 + 32 ∧ Rd wi rb p3 ∧ w.grownBy wi (some rb)) (fun _ _ kv _ => (intOf kv).toNat)
      case atStart => exact ⟨k0 + 1, L, p2 + 1 + 1, t, _, _, _, by go_num, by omega, by rw [ht], ht0.1, ht0.2, rfl, HK, HO4, OL4, by omega, r4, q4⟩
      case round =>
        clear HK HO4 OL4 q4 r4 ht ht0 u0 u2 y0 y2
        obtain ⟨k, L', p3, T, a', l', q', rfl, hk4, rfl, hT0, hT1, rfl, HK, HO, OL, hp3, hrd3, hg3⟩ := hrel
        have hsz3 := hg3.size
        have hp2' := unhide HP2
        by_cases hk0 : 0 < k ∧ T ≤ 9999
        · obtain ⟨hk0, hT9⟩ := hk0
          have hk1 : (0 : Int) < (k : Int) := by omega
          go_wp2_with fail
          refine (value_any rb p3 _ hrd3 (by omega)).mono ?_
          rintro e w5 ⟨V, rfl, v0, v1, r5, g5⟩
          have q5 := grown_trans hg3 g5
          have z5 := q5.size
          have z5' := g5.size
          have HO5 := row_kept (unhide HO) g5 hrl
          have OL5 := own_kept (unhide OL) g5 hrl
          have b5 : Below w5.heap.size w5 (w5.alloc (.cells #[.int .i64 T, .int .i64 V] 26)) := (Below.refl _ _).alloc (Nat.le_refl _) _
          have hin : SampMath.inR T V = true := SampMath.inR_yes hT0 hT9 v0 v1
          have hLI : Lab.Is (w5.alloc (.cells #[.int .i64 T, .int .i64 V] 26)) (.slice la ll lq) ls := by
            have := lies_of_own (own_below OL5 b5)
            unfold Lab.Is
            rw [unhide HLL]
            exact this
          have HAd := hide (Row.l5add (w := w5.alloc (.cells #[.int .i64 T, .int .i64 V] 26)) (s := .slice (some ⟨w5.heap.size, 0, none⟩) 1 1) (xs := [(T, V)]) (HO5.is.below b5) (unhide HK) hLI (unhide HLo) (lies_new (w := w5) (cs := #[.int .i64 T, .int .i64 V]) (t := 26) (n := 1) (size := 2) rfl rfl (by unfold maxLen; omega)) (by rw [Row.one_ok]; exact hin))
          have HFx := hide (Row.fine_one (Row.fine_ok (Row.row_ok (unhide HLo) hin)) (List.mem_singleton.2 rfl))
          have HO5' := hide (HO5.below b5)
          have OL5' := hide (own_below OL5 b5)
          have r5' := r5.below b5
          have q5' := grown_trans q5 (grown_below b5)
          clear HO OL hrd3 hg3 r5 q5 HO5 OL5 hLI b5 hin g5
          go_wp2_with fail
          refine (unhide HAd).mono ?_
          rintro e w6 ⟨r, rfl, ho, b6⟩
          have r6 := r5'.below b6
          have q6 := grown_trans q5' (grown_below b6)
          have OL6 := hide (own_below (unhide OL5') b6)
          have z6 := b6.size
          simp only [World.size_alloc] at z6
          cases hadd : Row.add L' (ls, [(T, V)]) with
          | none =>
            have HO6 := hide (Row.own_wide ((unhide HO5').below b6) (Nat.le_refl _) (by omega) (Nat.le_refl _))
            rw [hadd] at ho
            clear ho b6 r5' q5' OL5' HO5' hadd HAd
            go_wp2_with fail
            refine (pick_any rb (p3 + 6) _ _ r6 (by omega) (by omega)).mono ?_
            rintro e w7 ⟨y, rfl, y0, y1, -, r7, g7⟩
            have y2 : y < 80 := y1 (by omega)
            have HO7 := hide (Row.own_wide (row_kept (unhide HO6) g7 hrl) (Nat.le_refl _) g7.size (Nat.le_refl _))
            have OL7 := hide (own_kept (unhide OL6) g7 hrl)
            have q7 := grown_trans q6 g7
            clear y1 r6 g7 HO6 OL6 q6
            go_wp2_with fail
            go_roundw
            case rel => exact ⟨k - 1, L', p3 + 6 + 1, T + 1 + y, _, _, _, by go_num, by omega, by go_num, by omega, by omega, rfl, HK, HO7, OL7, by omega, r7, q7⟩
            case measure => simp [intOf]; omega
          | some R =>
            have ho' := ho R hadd
            have HK' := hide (Row.add_ok (unhide HK) (unhide HFx) hadd)
            obtain ⟨ra, rl, rq, rfl⟩ := ho'.form
            have HO6 := hide (Row.own_wide ho' (lo' := w.heap.size) (hi' := w6.heap.size) (by simp; omega) (Nat.le_refl _) (Nat.le_refl _))
            clear ho ho' b6 r5' q5' OL5' HO5' hadd HAd
            go_wp2_with fail
            refine (pick_any rb (p3 + 6) _ _ r6 (by omega) (by omega)).mono ?_
            rintro e w7 ⟨y, rfl, y0, y1, -, r7, g7⟩
            have y2 : y < 80 := y1 (by omega)
            have HO7 := hide (Row.own_wide (row_kept (unhide HO6) g7 hrl) (Nat.le_refl _) g7.size (Nat.le_refl _))
            have OL7 := hide (own_kept (unhide OL6) g7 hrl)
            have q7 := grown_trans q6 g7
            clear y1 r6 g7 HO6 OL6 q6
            go_wp2_with fail
            go_roundw
            case rel => exact ⟨k - 1, R, p3 + 6 + 1, T + 1 + y, _, _, _, by go_num, by omega, by go_num, by omega, by omega, rfl, HK', HO7, OL7, by omega, r7, q7⟩
            case measure => simp [intOf]; omega
        · rcases (show k = 0 ∨ (0 < k ∧ 9999 < T) by omega) with rfl | ⟨hk1, hT9⟩
          · go_wp2_with fail
            go_roundw
            case rel => exact ⟨n - 1, L', p3, _, _, _, by go_num, by omega, rfl, HK, HO, by omega, hrd3, hg3⟩
            case measure => simp [intOf]; omega
          · have hk2 : (0 : Int) < (k : Int) := by omega
            go_wp2_with fail
            go_roundw
            case rel => exact ⟨n - 1, L', p3, _, _, _, by go_num, by omega, rfl, HK, HO, by omega, hrd3, hg3⟩
            case measure => simp [intOf]; omega
    · obtain rfl : n = 0 := by omega
      go_wp2_with fail
      go_ret
      exact ⟨L, _, rfl, unhide HK, unhide HO, ⟨p', by omega, hrd⟩, hg⟩
end Go.Proofs.Ytncjagdnebpaaaa.Draw

/- A letter, some times over. -/
namespace Go.Proofs.Ytncjagdnebpaaaa.Draw
open Go.RowKit Rw
set_option linter.unusedVariables false
attribute [local go_sem ↓] Go.wp_at_zero Go.wp_at_succ
set_option maxRecDepth 100000 in
set_option maxHeartbeats 1000000 in
theorem many_any (n : Nat) (w : World) (hn : n ≤ 4) : Calls Try.prog 16 #[.string ⟨#[122]⟩, .int .i64 (n : Int)] w fun e w' => ∃ B : ByteArray, e = .returned (.string B) ∧ B.size ≤ 50 ∧ w' = w := by
  go_enter Try.func16, Try.ntmps16
  go_wp2
  go_loop [0, 1, 5] (fun sv nv ov => ∃ (s o : ByteArray) (k : Nat), sv = .string s ∧ ov = .string o ∧ nv = .int .i64 (k : Int) ∧ k ≤ 4 ∧ (k = 4 → s.size ≤ 2 ∧ o.size ≤ 2) ∧ (2 ≤ k → s.size ≤ 4 ∧ o.size ≤ 4) ∧ (1 ≤ k → s.size ≤ 8 ∧ o.size ≤ 8) ∧ s.size ≤ 16 ∧ o.size ≤ 16) (fun _ nv _ => (intOf nv).toNat)
  case atStart => exact ⟨⟨#[122]⟩, ⟨#[]⟩, n, rfl, rfl, rfl, hn, fun _ => by decide, fun _ => by decide, fun _ => by decide, by decide, by decide⟩
  case round =>
    obtain ⟨s, o, k, rfl, rfl, rfl, hk, h4, h2, h1, hs, ho⟩ := hrel
    rcases (show k = 0 ∨ k = 1 ∨ k = 2 ∨ k = 3 ∨ k = 4 from by omega) with rfl | rfl | rfl | rfl | rfl
    · clear h4 h2 h1
      go_wp2
      go_ret
      exact ⟨o, rfl, by omega, rfl⟩
    · have e1 := ByteArray.size_append (a := s) (b := s)
      have e2 := ByteArray.size_append (a := o) (b := s)
      have E := hide (And.intro e1 (And.intro e2 (And.intro h4 (And.intro h2 h1))))
      clear e1 e2 h4 h2 h1
      go_wp2
      obtain ⟨e1, e2, h4, h2, h1⟩ := unhide E
      exact ⟨⟨s ++ s, o ++ s, 0, rfl, rfl, rfl, by omega, fun _ => by omega, fun _ => by omega, fun _ => by omega, by omega, by omega⟩, by simp [intOf]⟩
    · have e1 := ByteArray.size_append (a := s) (b := s)
      have e2 := ByteArray.size_append (a := o) (b := s)
      have E := hide (And.intro e1 (And.intro e2 (And.intro h4 (And.intro h2 h1))))
      clear e1 e2 h4 h2 h1
      go_wp2
      obtain ⟨e1, e2, h4, h2, h1⟩ := unhide E
      exact ⟨⟨s ++ s, o, 1, rfl, rfl, rfl, by omega, fun _ => by omega, fun _ => by omega, fun _ => by omega, by omega, by omega⟩, by simp [intOf]⟩
    · have e1 := ByteArray.size_append (a := s) (b := s)
      have e2 := ByteArray.size_append (a := o) (b := s)
      have E := hide (And.intro e1 (And.intro e2 (And.intro h4 (And.intro h2 h1))))
      clear e1 e2 h4 h2 h1
      go_wp2
      obtain ⟨e1, e2, h4, h2, h1⟩ := unhide E
      exact ⟨⟨s ++ s, o ++ s, 1, rfl, rfl, rfl, by omega, fun _ => by omega, fun _ => by omega, fun _ => by omega, by omega, by omega⟩, by simp [intOf]⟩
    · have e1 := ByteArray.size_append (a := s) (b := s)
      have e2 := ByteArray.size_append (a := o) (b := s)
      have E := hide (And.intro e1 (And.intro e2 (And.intro h4 (And.intro h2 h1))))
      clear e1 e2 h4 h2 h1
      go_wp2
      obtain ⟨e1, e2, h4, h2, h1⟩ := unhide E
      exact ⟨⟨s ++ s, o, 2, rfl, rfl, rfl, by omega, fun _ => by omega, fun _ => by omega, fun _ => by omega, by omega, by omega⟩, by simp [intOf]⟩
end Go.Proofs.Ytncjagdnebpaaaa.Draw

/- Labels are drawn, also such as are none. -/
namespace Go.Proofs.Ytncjagdnebpaaaa.Draw
open Go.RowKit Rw Lab
set_option linter.unusedVariables false
attribute [local go_sem ↓] Go.wp_at_zero Go.wp_at_succ
def slenL : Value → Nat
  | .slice _ n _ => n
  | _ => 0
theorem flat_setA (zs : List Lab.E) (k : Nat) (h : k < zs.length) (A : ByteArray) : Lab.flat (zs.set k (A, (at' zs k).2)) = (Lab.flat zs).set (k * 2) (.string A) := by
  induction zs generalizing k with
  | nil => simp at h
  | cons z zs ih =>
    rcases k with _ | k
    · simp [flatOf, fl, at']
    · have := ih k (by simpa using h)
      have e : (k + 1) * 2 = k * 2 + 1 + 1 := by omega
      have e2 : at' (z :: zs) (k + 1) = at' zs k := by simp [at']
      simp only [Lab.flat, flatOf, fl, List.set_cons_succ, List.flatMap_cons, List.cons_append, List.nil_append, e, e2] at this ⊢
      rw [this]
theorem flat_setB (zs : List Lab.E) (k : Nat) (h : k < zs.length) (B : ByteArray) : Lab.flat (zs.set k ((at' zs k).1, B)) = (Lab.flat zs).set (k * 2 + 1) (.string B) := by
  induction zs generalizing k with
  | nil => simp at h
  | cons z zs ih =>
    rcases k with _ | k
    · simp [flatOf, fl, at']
    · have := ih k (by simpa using h)
      have e : (k + 1) * 2 + 1 = k * 2 + 1 + 1 + 1 := by omega
      have e2 : at' (z :: zs) (k + 1) = at' zs k := by simp [at']
      simp only [Lab.flat, flatOf, fl, List.set_cons_succ, List.flatMap_cons, List.cons_append, List.nil_append, e, e2] at this ⊢
      rw [this]
theorem z_nobody (B : ByteArray) : (⟨#[122]⟩ : ByteArray) ++ B ≠ nobody := by
  intro e
  have := congrArg (fun x : ByteArray => x.data.toList.head?) e
  simp [nobody, ByteArray.data_append] at this
theorem small_set {L : List Lab.E} {k : Nat} {x : Lab.E} (h : ∀ y ∈ L, smallL y) (hx : smallL x) : ∀ y ∈ L.set k x, smallL y := by
  intro y hy
  rcases List.mem_or_eq_of_mem_set hy with hy | rfl
  · exact h y hy
  · exact hx
theorem small_at {L : List Lab.E} {k : Nat} (h : ∀ y ∈ L, smallL y) (hk : k < L.length) : smallL (at' L k) := by
  rw [at_get L k hk]; exact h _ (List.getElem_mem _)
set_option maxRecDepth 100000 in
set_option maxHeartbeats 4000000 in
theorem anylabels_any (rb p : Nat) (w : World) (h : Rd w rb p) (hp : p ≤ 700000) :
    Calls Try.prog 18 #[.pointer (some ⟨rb, 0, none⟩)] w fun e w' => ∃ (zs : List Lab.E) (v : Value), e = .returned v ∧ zs.length ≤ 20 ∧ (∀ x ∈ zs, smallL x) ∧ w'.ownsRow w.heap.size 47 2 v zs.length (Lab.flat zs) ∧ (∃ p', p' ≤ p + 100 ∧ Rd w' rb p') ∧ w.grownBy w' (some rb) := by
  obtain ⟨i0, hi, hz0, hz1, hz2⟩ := info_parts Lab.info_e
  have hrl := h.lt
  have hmx : 1 ≤ maxLen := by unfold maxLen; omega
  have HR := hide h
  clear h
  go_enter Try.func18, Try.ntmps18
  go_wp2_with fail
  refine (labels_any rb p _ (unhide HR) (by omega)).mono ?_
  rintro e w1 ⟨L, v, rfl, hL0, hL, hsm, o1, ⟨p1, hp1, r1⟩, q1⟩
  obtain ⟨g, cp, rfl⟩ : ∃ g cp, v = .slice (some ⟨g, 0, none⟩) L.length cp := by
    rcases o1.2 with ⟨-, h0⟩ | ⟨g, cp, cur, hv, -⟩
    · omega
    · exact ⟨g, cp, hv⟩
  obtain ⟨n, hn⟩ : ∃ n, n = L.length := ⟨_, rfl⟩
  rw [← hn] at hL hL0 o1 ⊢
  have HN := hide hn
  have HM := hide hsm
  clear HR hsm hn
  go_wp2_with fail
  refine (pick_any rb p1 _ _ r1 (by omega) (by omega)).mono ?_
  rintro e w2 ⟨kk, rfl, k0, k1, -, r2, g2⟩
  have k2 : kk < (n : Int) := k1 (by omega)
  obtain ⟨k, rfl⟩ := Int.eq_ofNat_of_zero_le k0
  have o2 := own_kept o1 g2 hrl
  have q2 := grown_trans q1 g2
  clear o1 q1 r1 g2 k1
  go_wp2_with fail
  refine (pick_any rb (p1 + 1) _ _ r2 (by omega) (by omega)).mono ?_
  rintro e w4 ⟨c, rfl, c0, -, -, r4, g4⟩
  have o4 := own_kept o2 g4 hrl
  have q4 := grown_trans q2 g4
  have hsz4 := q4.size
  clear o2 q2 r2 g4
  have hkl : k < L.length := by have := unhide HN; omega
  have hk0 : (0 : Int) ≤ (k : Int) := Int.natCast_nonneg _
  have hk1 : (k : Int) < (n : Int) := by omega
  rcases (show c = 0 ∨ c = 1 ∨ c = 2 ∨ c = 3 ∨ (c ≠ 0 ∧ c ≠ 1 ∧ c ≠ 2 ∧ c ≠ 3) from by omega) with rfl | rfl | rfl | rfl | ⟨e0, e1, e2, e3⟩
  · go_wp2_with fail
    have hof := of_new rb (p1 + 1 + 1) [⟨#[]⟩, ⟨#[65]⟩, ⟨#[116, 111, 111, 108, 111, 110, 103]⟩, ⟨#[122, 122]⟩] _ r4 (by omega) (by simp) (by simp)
    simp only [List.map_cons, List.map_nil, List.length_cons, List.length_nil, Nat.zero_add, Nat.reduceAdd] at hof
    refine hof.mono ?_
    clear hof
    rintro e w5 ⟨x, rfl, hx, r5, g5⟩
    have X0 := hide (show x.size ≤ 100 ∧ x ≠ nobody by
      simp only [List.mem_cons, List.not_mem_nil, or_false] at hx
      rcases hx with rfl | rfl | rfl | rfl <;> decide)
    have o5 := own_kept o4 g5 hrl
    have q5 := grown_trans q4 g5
    have u0 := o5.cellAt (k * 2) (by omega)
    have u1 := o5.cellAt (k * 2 + 1) (by omega)
    rw [(flat_at L k hkl).1] at u0
    rw [(flat_at L k hkl).2] at u1
    have f0 := o5.frozenAt (k * 2)
    have f1 := o5.frozenAt (k * 2 + 1)
    clear o4 q4 r4 g5 hx
    have hge : w.heap.size ≤ g := own_ge o5 g rfl
    have O := hide (show (w5.setCell ⟨g, k * 2, none⟩ (.string x)).ownsRow w.heap.size 47 2 (.slice (some ⟨g, 0, none⟩) n cp) n (Lab.flat (L.set k (x, (at' L k).2))) by
      rw [flat_setA L k hkl x]
      exact (o5.stored (k * 2) (.string x)).1)
    have gS := grown_only ((OnlyAt.refl g w5).setCell (k * 2) (.string x))
    have Q := grown_other q5 gS (fun j hj => by cases hj; exact hge)
    have R := r5.grown gS (fun j hj => by cases hj; omega)
    have HL := hide (show (L.set k (x, (at' L k).2)).length = n by rw [List.length_set, ← unhide HN])
    have HW := hide (show ∀ y ∈ L.set k (x, (at' L k).2), smallL y from small_set (unhide HM) ⟨(unhide X0).1, (small_at (unhide HM) hkl).2.1, (unhide X0).2⟩)
    clear o5 gS
    generalize L.set k (x, (at' L k).2) = M at O HL HW
    go_wp2_with fail
    go_ret
    exact ⟨M, _, rfl, by rw [unhide HL]; omega, unhide HW, by rw [unhide HL]; exact unhide O, ⟨p1 + 1 + 1 + 1, by omega, R⟩, Q⟩
  · go_wp2_with fail
    have hof := of_new rb (p1 + 1 + 1) [⟨#[]⟩, ⟨#[120, 49]⟩, ⟨#[110, 105, 110, 101, 99, 104, 97, 114, 115]⟩, ⟨#[101, 105, 103, 104, 116, 99, 104, 114]⟩] _ r4 (by omega) (by simp) (by simp)
    simp only [List.map_cons, List.map_nil, List.length_cons, List.length_nil, Nat.zero_add, Nat.reduceAdd] at hof
    refine hof.mono ?_
    clear hof
    rintro e w5 ⟨x, rfl, hx, r5, g5⟩
    have X0 := hide (show x.size ≤ 100 ∧ x ≠ nobody by
      simp only [List.mem_cons, List.not_mem_nil, or_false] at hx
      rcases hx with rfl | rfl | rfl | rfl <;> decide)
    have o5 := own_kept o4 g5 hrl
    have q5 := grown_trans q4 g5
    have u0 := o5.cellAt (k * 2) (by omega)
    have u1 := o5.cellAt (k * 2 + 1) (by omega)
    rw [(flat_at L k hkl).1] at u0
    rw [(flat_at L k hkl).2] at u1
    have f0 := o5.frozenAt (k * 2)
    have f1 := o5.frozenAt (k * 2 + 1)
    clear o4 q4 r4 g5 hx
    have hge : w.heap.size ≤ g := own_ge o5 g rfl
    have O := hide (show (w5.setCell ⟨g, k * 2 + 1, none⟩ (.string x)).ownsRow w.heap.size 47 2 (.slice (some ⟨g, 0, none⟩) n cp) n (Lab.flat (L.set k ((at' L k).1, x))) by
      rw [flat_setB L k hkl x]
      exact (o5.stored (k * 2 + 1) (.string x)).1)
    have gS := grown_only ((OnlyAt.refl g w5).setCell (k * 2 + 1) (.string x))
    have Q := grown_other q5 gS (fun j hj => by cases hj; exact hge)
    have R := r5.grown gS (fun j hj => by cases hj; omega)
    have HL := hide (show (L.set k ((at' L k).1, x)).length = n by rw [List.length_set, ← unhide HN])
    have HW := hide (show ∀ y ∈ L.set k ((at' L k).1, x), smallL y from small_set (unhide HM) ⟨(small_at (unhide HM) hkl).1, (unhide X0).1, (small_at (unhide HM) hkl).2.2⟩)
    clear o5 gS
    generalize L.set k ((at' L k).1, x) = M at O HL HW
    go_wp2_with fail
    go_ret
    exact ⟨M, _, rfl, by rw [unhide HL]; omega, unhide HW, by rw [unhide HL]; exact unhide O, ⟨p1 + 1 + 1 + 1, by omega, R⟩, Q⟩
  · clear o4
    have hb : Below w4.heap.size w4 (w4.alloc (.cells #[] 47)) := (Below.refl _ _).alloc (Nat.le_refl _) _
    go_wp2_with fail
    go_ret
    exact ⟨[], _, rfl, by simp, by simp, own_empty hsz4, ⟨p1 + 1 + 1, by omega, r4.below hb⟩, grown_trans q4 (grown_below hb)⟩
  · go_wp2_with fail
    go_loopw [3] (fun ov wr => ∃ (M : List Lab.E) (p2 : Nat) (am : Option Addr) (cm : Nat), ov = .slice am M.length cm ∧ M.length ≤ 10 ∧ p2 ≤ p + 20 + M.length ∧ (∀ x ∈ M, smallL x) ∧ wr.ownsRow w.heap.size 47 2 ov M.length (Lab.flat M) ∧ Rd wr rb p2 ∧ w.grownBy wr (some rb)) (fun ov _ => 100 - slenL ov)
    case atStart => exact ⟨L, p1 + 1 + 1, _, cp, by rw [← unhide HN], by rw [← unhide HN]; omega, by omega, unhide HM, by rw [← unhide HN]; exact o4, r4, q4⟩
    case round =>
      clear o4 r4 q4 hsz4 HM HN hkl
      obtain ⟨M, p2, am, cm, rfl, hM, hp2, hsm, hown, hrd, hg⟩ := hrel
      have HM := hide hsm
      clear hsm
      go_wp2_with fail
      refine (pick_any rb p2 _ _ hrd (by omega) (by omega)).mono ?_
      rintro e w6 ⟨d, rfl, d0, d1, -, r6, g6⟩
      have d2 : d < 2 := d1 (by omega)
      have o6 := own_kept hown g6 hrl
      have q6 := grown_trans hg g6
      have hsz6 := q6.size
      clear hown hg hrd g6 d1
      by_cases hlt : (M.length : Int) < 4 + d
      · have hM2 : M.length ≤ 4 := by omega
        go_wp2_with fail
        refine (many_any M.length w6 hM2).mono ?_
        rintro e w7 ⟨B, rfl, hB, rfl⟩
        have e7 : (⟨#[122]⟩ : ByteArray).size = 1 := rfl
        have B0 := hide (show ((⟨#[122]⟩ : ByteArray) ++ B).size ≤ 100 by rw [ByteArray.size_append, e7]; omega)
        go_wp2_with (at_builtin; refine app_wp _ rfl _ _ _ rfl w.heap.size 47 i0 _ 2 32 Try.underlying24 hi hz0 hz1 hz2 rfl (by omega) _ M.length _ rfl (o6.alloc _) _ 1 [.string (⟨#[122]⟩ ++ B), .string ⟨#[119]⟩] rfl (lies_new rfl rfl hmx) (by simp [Value.oneCell']) (by unfold maxLen; omega) (by omega) (by simp; omega) ?_; intro vn w9 on gn an)
        have ge := own_ge o6
        have R : w.grownBy w9 (some rb) := grown_other (grown_trans q6 (grown_below ((Below.refl _ _).alloc (Nat.le_refl _) _))) gn ge
        have R1 : Rd w9 rb (p2 + 1) := (r6.below ((Below.refl _ _).alloc (Nat.le_refl _) _)).grown gn (fun k hk => by have := ge k hk; omega)
        have R2 := hide (show w9.ownsRow w.heap.size 47 2 vn (M ++ [((⟨#[122]⟩ ++ B, ⟨#[119]⟩) : Lab.E)]).length (Lab.flat (M ++ [((⟨#[122]⟩ ++ B, ⟨#[119]⟩) : Lab.E)])) by rw [List.length_append, flat_snocL]; exact on)
        obtain ⟨an', cn, hvn⟩ : ∃ a c, vn = .slice a (M.length + 1) c := by obtain ⟨-, a, c, e, -⟩ := lies_of_own on; exact ⟨a, c, e⟩
        have HS := hide (show slenL vn = M.length + 1 by rw [hvn]; rfl)
        have HV := hide hvn
        clear on gn ge o6 q6 r6 an hvn
        go_wp2_with fail
        go_roundw
        case rel => exact ⟨M ++ [((⟨#[122]⟩ ++ B, ⟨#[119]⟩) : Lab.E)], p2 + 1, an', cn, by rw [unhide HV]; simp, by simp; omega, by simp; omega, small_snocL (x := ((⟨#[122]⟩ ++ B, ⟨#[119]⟩) : Lab.E)) (unhide HM) ⟨unhide B0, by show ByteArray.size ⟨#[119]⟩ ≤ 100; decide, z_nobody B⟩, unhide R2, R1, R⟩
        case measure => show 100 - slenL vn < 100 - M.length; rw [unhide HS]; omega
      · have hlf : decide ((M.length : Int) < 4 + d) = false := by simpa using hlt
        go_wp2_with fail
        go_ret
        exact ⟨M, _, rfl, by omega, unhide HM, o6, ⟨p2 + 1, by omega, r6⟩, q6⟩
  · have f0 : (c == 0) = false := by simpa using e0
    have f1 : (c == 1) = false := by simpa using e1
    have f2 : (c == 2) = false := by simpa using e2
    have f3 : (c == 3) = false := by simpa using e3
    go_wp2_with fail
    go_ret
    exact ⟨L, _, rfl, by rw [← unhide HN]; omega, unhide HM, by rw [← unhide HN]; exact o4, ⟨p1 + 1 + 1, by omega, r4⟩, q4⟩
end Go.Proofs.Ytncjagdnebpaaaa.Draw
