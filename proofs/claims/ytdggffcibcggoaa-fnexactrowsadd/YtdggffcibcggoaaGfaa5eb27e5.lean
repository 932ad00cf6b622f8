/- My own texts of one claim, laid together by program: RowsAdd, RaddCnt, Sam1. -/
import Derived.Test.YtdggffcibcggoaaG90b8662712
import Derived.Test.YtdggffcibcggoaaGda9601a049
import Derived.Test.YtdggffcibcggoaaGe00281ce14
import Derived.Test.YtdggffcibcggoaaG231cb975ec
import Derived.Test.YtdggffcibcggoaaG27150e18b0
/- RowsAdd, of the program and of the model. -/
namespace Go.Proofs.Ytdggffcibcggoaa.Row
open Go.RowKit Rw
set_option linter.unusedVariables false
attribute [local go_sem ↓] Go.wp_at_zero Go.wp_at_succ
/-- what RowsAdd answers -/
def radd (zs : List E) (ls : List Lab.E) (t v : Int) : List E × Bool :=
  if ok zs = true ∧ Lab.ok ls = true ∧ SampMath.inR t v = true then (match add zs (ls, [(t, v)]) with | some R => (R, true) | none => (zs, false)) else ([], false)
theorem one_ok (t v : Int) : SampMath.ok [(t, v)] = SampMath.inR t v := by
  simp [SampMath.ok, SampMath.okTo, SampMath.stepOk, SampMath.at']
theorem row_ok {ls : List Lab.E} {t v : Int} (h1 : Lab.ok ls = true) (h2 : SampMath.inR t v = true) : ok [(ls, [(t, v)])] = true := by
  rw [ok_iff]
  refine ⟨fun x hx => ?_, List.pairwise_singleton _ _, by simp⟩
  rw [List.mem_singleton.1 hx]
  unfold rowB
  rw [h1, one_ok, h2]
  rfl
theorem addAll_one (L : List E) (x : E) : addAll L [x] = add L x := by
  rw [addAll]
  cases add L x <;> rfl
theorem radd_yes {zs : List E} {ls : List Lab.E} {t v : Int} (h1 : ok zs = true) (h2 : Lab.ok ls = true) (h3 : SampMath.inR t v = true) : radd zs ls t v = match add zs (ls, [(t, v)]) with | some R => (R, true) | none => (zs, false) := by unfold radd; rw [if_pos ⟨h1, h2, h3⟩]
theorem radd_no {zs : List E} {ls : List Lab.E} {t v : Int} (h : ok zs = false ∨ Lab.ok ls = false ∨ SampMath.inR t v = false) : radd zs ls t v = ([], false) := by
  unfold radd
  rw [if_neg]
  rintro ⟨h1, h2, h3⟩
  rw [h1, h2, h3] at h
  simp at h
theorem join_one {zs : List E} {ls : List Lab.E} {t v : Int} (h1 : ok zs = true) (h2 : Lab.ok ls = true) (h3 : SampMath.inR t v = true) : join zs [(ls, [(t, v)])] = told (add zs (ls, [(t, v)])) := by
  unfold join; rw [if_pos ⟨h1, row_ok h2 h3⟩, addAll_one]
/-- a slice of a single row -/
theorem one_is {w : World} {B1 B2 : Nat} {u : Value} {ls : List Lab.E} {t v : Int} (hl : Lab.Is w u ls) (h1 : B1 = w.heap.size) (h2 : B2 = w.heap.size + 1) :
    Is ((w.alloc (.cells #[.int .i64 t, .int .i64 v] 38)).alloc (.cells #[u, .slice (some ⟨B1, 0, none⟩) 1 1] 61)) (.slice (some ⟨B2, 0, none⟩) 1 1) [(ls, [(t, v)])] := by
  subst h1 h2
  have hm : 1 ≤ maxLen := by unfold maxLen; omega
  have b1 : Below w.heap.size w (w.alloc (.cells #[.int .i64 t, .int .i64 v] 38)) := (Below.refl _ _).alloc (Nat.le_refl _) _
  have b2 : Below (w.alloc (.cells #[.int .i64 t, .int .i64 v] 38)).heap.size (w.alloc (.cells #[.int .i64 t, .int .i64 v] 38)) ((w.alloc (.cells #[.int .i64 t, .int .i64 v] 38)).alloc (.cells #[u, .slice (some ⟨w.heap.size, 0, none⟩) 1 1] 61)) := (Below.refl _ _).alloc (Nat.le_refl _) _
  have hs : Sam.Is (w.alloc (.cells #[.int .i64 t, .int .i64 v] 38)) (.slice (some ⟨w.heap.size, 0, none⟩) 1 1) [(t, v)] := lies_new (w := w) (cs := #[.int .i64 t, .int .i64 v]) (t := 38) (n := 1) (size := 2) rfl rfl hm
  refine ⟨[(u, .slice (some ⟨w.heap.size, 0, none⟩) 1 1)], rfl, lies_new (w := w.alloc (.cells #[.int .i64 t, .int .i64 v] 38)) (cs := #[u, .slice (some ⟨w.heap.size, 0, none⟩) 1 1]) (n := 1) (size := 2) (by simp) rfl hm, fun i hi => ?_⟩
  obtain rfl : i = 0 := by simp at hi; omega
  exact ⟨(hl.below b1).below b2, hs.below b2⟩
theorem good_one {ls : List Lab.E} {t v : Int} (h1 : Lab.ok ls = true) (h3 : SampMath.inR t v = true) : ∀ x ∈ ([(ls, [(t, v)])] : List E), good x := fine_good (fine_ok (row_ok h1 h3))
set_option maxRecDepth 100000 in
set_option maxHeartbeats 8000000 in
theorem impl_radd {w : World} {v u : Value} {zs : List E} {ls : List Lab.E} (T V : Int) (h : Is w v zs) (hg : ∀ x ∈ zs, good x) (hlen : zs.length ≤ maxLen) (hl : Lab.Is w u ls) (hlg : ∀ x ∈ ls, Lab.good x) :
    Calls Try.prog 22 #[v, u, .agg #[.int .i64 T, .int .i64 V]] w fun e w' => ∃ r, e = .returned (.tuple #[r, .bool (radd zs ls T V).2]) ∧ Own w.heap.size w'.heap.size w' r (radd zs ls T V).1 ∧ Below w.heap.size w w' := by
  obtain ⟨au, nu, qu, rfl⟩ : ∃ a n q, u = .slice a n q := by obtain ⟨-, a, q, e, -⟩ := hl; exact ⟨a, _, q, e⟩
  obtain ⟨wb, hwb⟩ : ∃ wb, wb = w.alloc (.cells #[.int .i64 T, .int .i64 V] 38) := ⟨_, rfl⟩
  have bb : Below w.heap.size w wb := by rw [hwb]; exact (Below.refl _ _).alloc (Nat.le_refl _) _
  have zb : w.heap.size < wb.heap.size := by rw [hwb]; simp
  have q0 : wb.cell? ⟨w.heap.size, 0, none⟩ = some (.int .i64 T) := by rw [hwb]; simp [go_sem]
  have q1 : wb.cell? ⟨w.heap.size, 1, none⟩ = some (.int .i64 V) := by rw [hwb]; simp [go_sem]
  have HO := hide (impl_ok (h.below bb) hg hlen)
  have HL := hide (fun W (hb : Below w.heap.size w W) => Lab.impl_ok (hl.below hb) hlg)
  have HC := hide (fun (hok : ok zs = true) W (hb : Below w.heap.size w W) => copy_any (h.below hb) hok)
  have HJ := hide (fun (h1 : ok zs = true) (h2 : Lab.ok ls = true) (h3 : SampMath.inR T V = true) W (hb : Below w.heap.size w W) => impl_join (w := (W.alloc (.cells #[.int .i64 T, .int .i64 V] 38)).alloc (.cells #[.slice au nu qu, .slice (some ⟨W.heap.size, 0, none⟩) 1 1] 61)) (h.below ((hb.alloc hb.size _).alloc (by simp; have := hb.size; omega) _)) (one_is (t := T) (v := V) (hl.below hb) rfl rfl) hg hlen (good_one h2 h3) (by simp [maxLen]))
  cases hok : ok zs
  · have HR := hide (radd_no (ls := ls) (t := T) (v := V) (.inl hok))
    rw [hok] at HO
    clear h hg hl hlg hok HC HJ HL
    go_enter Try.func22, Try.ntmps22
    go_wp2_with fail
    rw [← hwb]
    clear hwb
    refine (unhide HO).mono ?_
    rintro e w1 ⟨rfl, b1⟩
    have R1 := bb.trans (b1.mono bb.size)
    go_wp2_with fail
    go_ret2
    exact ⟨.slice none 0 0, by rw [unhide HR]; rfl, by rw [unhide HR]; exact own_nil w.heap.size w1, R1⟩
  cases hlo : Lab.ok ls
  · have HR := hide (radd_no (zs := zs) (t := T) (v := V) (.inr (.inl hlo)))
    rw [hok] at HO
    rw [hlo] at HL
    clear h hg hl hlg hok HC HJ hlo
    go_enter Try.func22, Try.ntmps22
    go_wp2_with fail
    rw [← hwb]
    clear hwb
    refine (unhide HO).mono ?_
    rintro e w1 ⟨rfl, b1⟩
    have R1 := bb.trans (b1.mono bb.size)
    go_wp2_with fail
    refine (unhide HL w1 R1).mono ?_
    rintro e w2 ⟨rfl, b2⟩
    have R2 := R1.trans (b2.mono R1.size)
    go_wp2_with fail
    go_ret2
    exact ⟨.slice none 0 0, by rw [unhide HR]; rfl, by rw [unhide HR]; exact own_nil w.heap.size w2, R2⟩
  cases hin : SampMath.inR T V
  · have HR := hide (radd_no (zs := zs) (ls := ls) (.inr (.inr hin)))
    rw [hok] at HO
    rw [hlo] at HL
    have HSm := hide (fun (W : World) => Samp.sampleOk_any T V W)
    rw [hin] at HSm
    clear h hg hl hlg hok HC HJ hlo hin
    go_enter Try.func22, Try.ntmps22
    go_wp2_with fail
    rw [← hwb]
    clear hwb
    refine (unhide HO).mono ?_
    rintro e w1 ⟨rfl, b1⟩
    have R1 := bb.trans (b1.mono bb.size)
    go_wp2_with fail
    refine (unhide HL w1 R1).mono ?_
    rintro e w2 ⟨rfl, b2⟩
    have R2 := R1.trans (b2.mono R1.size)
    have b12 := b1.trans (b2.mono b1.size)
    have q02 := (b12.cell (p := ⟨w.heap.size, 0, none⟩) zb).trans q0
    have q12 := (b12.cell (p := ⟨w.heap.size, 1, none⟩) zb).trans q1
    clear q0 q1
    go_wp2_with fail
    refine (unhide HSm w2).mono ?_
    rintro e w3 ⟨rfl, e3⟩
    have R3 : Below w.heap.size w w3 := by rw [e3]; exact R2.alloc R2.size _
    clear e3
    go_wp2_with fail
    go_ret2
    exact ⟨.slice none 0 0, by rw [unhide HR]; rfl, by rw [unhide HR]; exact own_nil w.heap.size w3, R3⟩
  have HR := hide (radd_yes hok hlo hin)
  rw [hok] at HO
  rw [hlo] at HL
  have HSm := hide (fun (W : World) => Samp.sampleOk_any T V W)
  rw [hin] at HSm
  have HJ1 := hide (fun W hb => unhide HJ hok hlo hin W hb)
  rw [join_one hok hlo hin] at HJ1
  have HC1 := hide (fun W hb => unhide HC hok W hb)
  clear h hg hl hlg hok HC HJ hlo hin
  go_enter Try.func22, Try.ntmps22
  go_wp2_with fail
  rw [← hwb]
  clear hwb
  refine (unhide HO).mono ?_
  rintro e w1 ⟨rfl, b1⟩
  have R1 := bb.trans (b1.mono bb.size)
  go_wp2_with fail
  refine (unhide HL w1 R1).mono ?_
  rintro e w2 ⟨rfl, b2⟩
  have R2 := R1.trans (b2.mono R1.size)
  have b12 := b1.trans (b2.mono b1.size)
  have q02 := (b12.cell (p := ⟨w.heap.size, 0, none⟩) zb).trans q0
  have q12 := (b12.cell (p := ⟨w.heap.size, 1, none⟩) zb).trans q1
  have zb2 := Nat.lt_of_lt_of_le zb b12.size
  clear q0 q1 b12 b1 b2 bb HL HO
  go_wp2_with fail
  refine (unhide HSm w2).mono ?_
  rintro e w3 ⟨rfl, e3⟩
  have b3 : Below w2.heap.size w2 w3 := by rw [e3]; exact (Below.refl _ _).alloc (Nat.le_refl _) _
  have R3 : Below w.heap.size w w3 := R2.trans (b3.mono R2.size)
  have q03 := (b3.cell (p := ⟨w.heap.size, 0, none⟩) zb2).trans q02
  have q13 := (b3.cell (p := ⟨w.heap.size, 1, none⟩) zb2).trans q12
  clear e3 q02 q12
  have zR := R3.size
  have HJ3 := hide (unhide HJ1 w3 R3)
  have HB3 := hide (show Below w.heap.size w ((w3.alloc (.cells #[.int .i64 T, .int .i64 V] 38)).alloc (.cells #[.slice au nu qu, .slice (some ⟨w3.heap.size, 0, none⟩) 1 1] 61)) from (R3.alloc zR _).alloc (by simp; omega) _)
  clear HJ1 HSm
  go_wp2_with fail
  refine (unhide HJ3).mono ?_
  rintro e w4 ⟨r, rfl, ho, b4⟩
  have R4 := (unhide HB3).trans (b4.mono (unhide HB3).size)
  have HOw := hide (own_wide ho (lo' := w.heap.size) (hi' := w4.heap.size) (unhide HB3).size (Nat.le_refl _) (Nat.le_refl _))
  obtain ⟨ra, rl, rq, rfl⟩ := ho.form
  clear ho b4 HJ3 HB3
  cases hadd : add zs (ls, [(T, V)]) with
  | none =>
    have HC4 := hide (unhide HC1 w4 R4)
    rw [hadd] at HR HOw
    clear HC1 hadd
    go_wp2_with fail
    refine (unhide HC4).mono ?_
    rintro e w5 ⟨r5, rfl, ho5, b5⟩
    have R5 := R4.trans (b5.mono R4.size)
    have HOw5 := hide (own_wide ho5 (lo' := w.heap.size) (hi' := w5.heap.size) R4.size (Nat.le_refl _) (Nat.le_refl _))
    obtain ⟨ra5, rl5, rq5, rfl⟩ := ho5.form
    clear ho5 b5 HC4 HOw
    go_wp2_with fail
    go_ret2
    exact ⟨.slice ra5 rl5 rq5, by rw [unhide HR]; rfl, by rw [unhide HR]; exact unhide HOw5, R5⟩
  | some R =>
    rw [hadd] at HR HOw
    clear HC1 hadd
    go_wp2_with fail
    go_ret2
    exact ⟨.slice ra rl rq, by rw [unhide HR]; rfl, by rw [unhide HR]; exact unhide HOw, R4⟩
set_option maxRecDepth 100000 in
set_option maxHeartbeats 8000000 in
theorem spec_radd {w : World} {v u : Value} {zs : List E} {ls : List Lab.E} (T V : Int) (h : Is w v zs) (hg : ∀ x ∈ zs, good x) (hlen : zs.length ≤ maxLen) (hl : Lab.Is w u ls) (hlg : ∀ x ∈ ls, Lab.good x) (hll : ls.length ≤ maxLen) :
    Calls Try.prog 19 #[v, u, .agg #[.int .i64 T, .int .i64 V]] w fun e w' => ∃ r, e = .returned (.tuple #[r, .bool (radd zs ls T V).2]) ∧ Own w.heap.size w'.heap.size w' r (radd zs ls T V).1 ∧ Below w.heap.size w w' := by
  obtain ⟨au, nu, qu, rfl⟩ : ∃ a n q, u = .slice a n q := by obtain ⟨-, a, q, e, -⟩ := hl; exact ⟨a, _, q, e⟩
  obtain ⟨wb, hwb⟩ : ∃ wb, wb = w.alloc (.cells #[.int .i64 T, .int .i64 V] 38) := ⟨_, rfl⟩
  have bb : Below w.heap.size w wb := by rw [hwb]; exact (Below.refl _ _).alloc (Nat.le_refl _) _
  have zb : w.heap.size < wb.heap.size := by rw [hwb]; simp
  have q0 : wb.cell? ⟨w.heap.size, 0, none⟩ = some (.int .i64 T) := by rw [hwb]; simp [go_sem]
  have q1 : wb.cell? ⟨w.heap.size, 1, none⟩ = some (.int .i64 V) := by rw [hwb]; simp [go_sem]
  have hm : 1 ≤ maxLen := by unfold maxLen; omega
  have HO := hide (spec_ok (h.below bb) hg hlen)
  have HL := hide (fun W (hb : Below w.heap.size w W) => Lab.spec_ok (hl.below hb) hlg hll)
  have HC := hide (fun (hok : ok zs = true) W (hb : Below w.heap.size w W) => l5copy (h.below hb) hok)
  have HSm := hide (fun (W : World) => Sam.l2ok (w := W.alloc (.cells #[.int .i64 T, .int .i64 V] 38)) (v := .slice (some ⟨W.heap.size, 0, none⟩) 1 1) (zs := [(T, V)]) (lies_new (w := W) (cs := #[.int .i64 T, .int .i64 V]) (t := 38) (n := 1) (size := 2) rfl rfl hm))
  rw [one_ok] at HSm
  have HA := hide (fun (h1 : ok zs = true) (h2 : Lab.ok ls = true) (h3 : SampMath.inR T V = true) W (hb : Below w.heap.size w W) => l5add (w := W.alloc (.cells #[.int .i64 T, .int .i64 V] 38)) (s := .slice (some ⟨W.heap.size, 0, none⟩) 1 1) (xs := [(T, V)]) (h.below (hb.alloc hb.size _)) h1 (hl.below (hb.alloc hb.size _)) h2 (lies_new (w := W) (cs := #[.int .i64 T, .int .i64 V]) (t := 38) (n := 1) (size := 2) rfl rfl hm) (by rw [one_ok]; exact h3))
  have HE0 := hide (fun (W : World) (hb : Below w.heap.size w W) => show Own w.heap.size (W.alloc (.cells #[] 61)).heap.size (W.alloc (.cells #[] 61)) (.slice (some ⟨W.heap.size, 0, none⟩) 0 0) [] from ⟨[], rfl, own_mono (own_empty (Nat.le_refl _)) hb.size, own_block_lt (own_empty (base := W.heap.size) (e := 61) (size := 2) (Nat.le_refl _)), Nat.le_refl _, fun i j _ h => absurd h (Nat.not_lt_zero _), fun i j _ h => absurd h (Nat.not_lt_zero _), fun i h => absurd h (Nat.not_lt_zero _)⟩)
  cases hok : ok zs
  · have HR := hide (radd_no (ls := ls) (t := T) (v := V) (.inl hok))
    rw [hok] at HO
    clear h hg hl hlg hok HC HA HL HSm
    go_enter Try.func19, Try.ntmps19
    go_wp2_with fail
    rw [← hwb]
    clear hwb
    refine (unhide HO).mono ?_
    rintro e w1 ⟨rfl, b1⟩
    have R1 := bb.trans (b1.mono bb.size)
    have R1' : Below w.heap.size w (w1.alloc (.cells #[] 61)) := R1.alloc R1.size _
    go_wp2_with fail
    go_ret2
    exact ⟨.slice (some ⟨w1.heap.size, 0, none⟩) 0 0, by rw [unhide HR]; rfl, by rw [unhide HR]; exact unhide HE0 w1 R1, R1'⟩
  cases hlo : Lab.ok ls
  · have HR := hide (radd_no (zs := zs) (t := T) (v := V) (.inr (.inl hlo)))
    rw [hok] at HO
    rw [hlo] at HL
    clear h hg hl hlg hok HC HA hlo HSm
    go_enter Try.func19, Try.ntmps19
    go_wp2_with fail
    rw [← hwb]
    clear hwb
    refine (unhide HO).mono ?_
    rintro e w1 ⟨rfl, b1⟩
    have R1 := bb.trans (b1.mono bb.size)
    go_wp2_with fail
    refine (unhide HL w1 R1).mono ?_
    rintro e w2 ⟨rfl, b2⟩
    have R2 := R1.trans (b2.mono R1.size)
    have R2' : Below w.heap.size w (w2.alloc (.cells #[] 61)) := R2.alloc R2.size _
    go_wp2_with fail
    go_ret2
    exact ⟨.slice (some ⟨w2.heap.size, 0, none⟩) 0 0, by rw [unhide HR]; rfl, by rw [unhide HR]; exact unhide HE0 w2 R2, R2'⟩
  cases hin : SampMath.inR T V
  · have HR := hide (radd_no (zs := zs) (ls := ls) (.inr (.inr hin)))
    rw [hok] at HO
    rw [hlo] at HL
    rw [hin] at HSm
    clear h hg hl hlg hok HC HA hlo hin
    go_enter Try.func19, Try.ntmps19
    go_wp2_with fail
    rw [← hwb]
    clear hwb
    refine (unhide HO).mono ?_
    rintro e w1 ⟨rfl, b1⟩
    have R1 := bb.trans (b1.mono bb.size)
    go_wp2_with fail
    refine (unhide HL w1 R1).mono ?_
    rintro e w2 ⟨rfl, b2⟩
    have R2 := R1.trans (b2.mono R1.size)
    have b12 := b1.trans (b2.mono b1.size)
    have q02 := (b12.cell (p := ⟨w.heap.size, 0, none⟩) zb).trans q0
    have q12 := (b12.cell (p := ⟨w.heap.size, 1, none⟩) zb).trans q1
    have R2a : Below w.heap.size w (w2.alloc (.cells #[.int .i64 T, .int .i64 V] 38)) := R2.alloc R2.size _
    clear q0 q1
    go_wp2_with fail
    refine (unhide HSm w2).mono ?_
    rintro e w3 ⟨rfl, b3⟩
    have R3 := R2a.trans (b3.mono R2a.size)
    have R3' : Below w.heap.size w (w3.alloc (.cells #[] 61)) := R3.alloc R3.size _
    clear q02 q12 b12
    go_wp2_with fail
    go_ret2
    exact ⟨.slice (some ⟨w3.heap.size, 0, none⟩) 0 0, by rw [unhide HR]; rfl, by rw [unhide HR]; exact unhide HE0 w3 R3, R3'⟩
  have HR := hide (radd_yes hok hlo hin)
  have HA1 := hide (fun W hb => unhide HA hok hlo hin W hb)
  have HC1 := hide (fun W hb => unhide HC hok W hb)
  rw [hok] at HO
  rw [hlo] at HL
  rw [hin] at HSm
  clear h hg hl hlg hok HC HA hlo hin HE0
  go_enter Try.func19, Try.ntmps19
  go_wp2_with fail
  rw [← hwb]
  clear hwb
  refine (unhide HO).mono ?_
  rintro e w1 ⟨rfl, b1⟩
  have R1 := bb.trans (b1.mono bb.size)
  go_wp2_with fail
  refine (unhide HL w1 R1).mono ?_
  rintro e w2 ⟨rfl, b2⟩
  have R2 := R1.trans (b2.mono R1.size)
  have b12 := b1.trans (b2.mono b1.size)
  have q02 := (b12.cell (p := ⟨w.heap.size, 0, none⟩) zb).trans q0
  have q12 := (b12.cell (p := ⟨w.heap.size, 1, none⟩) zb).trans q1
  have zb2 := Nat.lt_of_lt_of_le zb b12.size
  have ba2 : Below w2.heap.size w2 (w2.alloc (.cells #[.int .i64 T, .int .i64 V] 38)) := (Below.refl _ _).alloc (Nat.le_refl _) _
  clear q0 q1 b12 b1 b2 bb HL HO
  go_wp2_with fail
  refine (unhide HSm w2).mono ?_
  rintro e w3 ⟨rfl, b3'⟩
  have b3 := ba2.trans (b3'.mono ba2.size)
  have R3 : Below w.heap.size w w3 := R2.trans (b3.mono R2.size)
  have q03 := (b3.cell (p := ⟨w.heap.size, 0, none⟩) zb2).trans q02
  have q13 := (b3.cell (p := ⟨w.heap.size, 1, none⟩) zb2).trans q12
  clear q02 q12 b3' ba2 b3 HSm
  have zR := R3.size
  have HA3 := hide (unhide HA1 w3 R3)
  have HB3 := hide (show Below w.heap.size w (w3.alloc (.cells #[.int .i64 T, .int .i64 V] 38)) from R3.alloc zR _)
  clear HA1
  go_wp2_with fail
  refine (unhide HA3).mono ?_
  rintro e w4 ⟨r, rfl, ho, b4⟩
  have R4 := (unhide HB3).trans (b4.mono (unhide HB3).size)
  cases hadd : add zs (ls, [(T, V)]) with
  | none =>
    have HC4 := hide (unhide HC1 w4 R4)
    rw [hadd] at HR
    clear HC1 hadd ho b4 HA3 HB3
    go_wp2_with fail
    refine (unhide HC4).mono ?_
    rintro e w5 ⟨r5, rfl, ho5, b5⟩
    have R5 := R4.trans (b5.mono R4.size)
    have HOw5 := hide (own_wide ho5 (lo' := w.heap.size) (hi' := w5.heap.size) R4.size (Nat.le_refl _) (Nat.le_refl _))
    obtain ⟨ra5, rl5, rq5, rfl⟩ := ho5.form
    clear ho5 b5 HC4
    go_wp2_with fail
    go_ret2
    exact ⟨.slice ra5 rl5 rq5, by rw [unhide HR]; rfl, by rw [unhide HR]; exact unhide HOw5, R5⟩
  | some R =>
    have ho' := ho R hadd
    have HOw := hide (own_wide ho' (lo' := w.heap.size) (hi' := w4.heap.size) (unhide HB3).size (Nat.le_refl _) (Nat.le_refl _))
    obtain ⟨ra, rl, rq, rfl⟩ := ho'.form
    rw [hadd] at HR
    clear HC1 hadd ho ho' b4 HA3 HB3
    go_wp2_with fail
    go_ret2
    exact ⟨.slice ra rl rq, by rw [unhide HR]; rfl, by rw [unhide HR]; exact unhide HOw, R4⟩
end Go.Proofs.Ytdggffcibcggoaa.Row

/- How much there is at most in rows with a sample more. -/
namespace Go.Proofs.Ytdggffcibcggoaa.Row
open Go.RowKit Rw
theorem radd_cnt (zs : List E) (ls : List Lab.E) (t v : Int) : cnt (radd zs ls t v).1 ≤ 2097152 ∧ (radd zs ls t v).1.length ≤ 2097152 := by
  unfold radd
  split
  · rename_i h
    cases e : add zs (ls, [(t, v)]) with
    | none => exact ok_cnt h.1
    | some R => exact ok_cnt (add_ok h.1 (fine_one (fine_ok (row_ok h.2.1 h.2.2)) (List.mem_singleton.2 rfl)) e)
  · simp [cnt, cntTo]
end Go.Proofs.Ytdggffcibcggoaa.Row

/- A single sample as an argument, by value. -/
namespace Go.Proofs.Ytdggffcibcggoaa.Sam1
open Go.RowKit Rw
set_option linter.unusedVariables false
abbrev C := Value × Value
abbrev E := Int × Int
def Elem (w : World) (c : C) (x : E) : Prop := c = (.int .i64 x.1, .int .i64 x.2)
def good (x : E) : Prop := Sam.good x
set_option maxRecDepth 100000 in
theorem open_cells {H : Type} {enc : TypeId × Value → H} {W : World} {n : Nat} {cs : List Value} {y : DataW H × List MemPlace} (h : DataW.trod enc Try.prog W 0 (fun _ => true) true n 33 cs = some y) : ∃ (c : C) (x : E), cs = [c.1, c.2] ∧ Elem W c x ∧ good x := by
  have hl : cs.length = 2 := by
    obtain ⟨xs, m, -, -, hl, hxl, hf⟩ := DataW.trod_struct Try.underlying33 h
    rw [hl]; kernel_rfl
  obtain ⟨xs, m, -, -, -, hxl, hf⟩ := DataW.trod_struct Try.underlying33 h
  match cs, hl, xs, hxl with
  | [c0, c1], _, [y0, y1], _ =>
    have g0 := hf 0 _ rfl
    have g1 := hf 1 _ rfl
    have cei : Try.prog.cellsOf 3 = 1 := by kernel_rfl
    simp [cei] at g0 g1
    obtain ⟨s0, e0, -, w0⟩ := DataW.trod_int Try.underlying3 g0
    obtain ⟨s1, e1, -, w1⟩ := DataW.trod_int Try.underlying3 g1
    simp only [List.cons.injEq, and_true] at e0 e1
    exact ⟨(.int .i64 s0, .int .i64 s1), (s0, s1), by rw [e0, e1], rfl, w0, w1⟩
end Go.Proofs.Ytdggffcibcggoaa.Sam1
