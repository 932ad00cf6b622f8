/- My own texts of one claim, laid together by program: TabOneW, TabAddE, TabAdd, DrawBatch. -/
import Derived.Test.YtlboekimnhgfdaaGreatG06ab9fe1ec
import Derived.Test.YtlboekimnhgfdaaGreatG914d26d0fc
import Derived.Test.YtlboekimnhgfdaaGreatGa36464ee95
import Derived.Test.YtlboekimnhgfdaaGreatGb44f913d17
/- What l6One of the model answers. -/
namespace Go.Proofs.YtlboekimnhgfdaaGreat.Tab
open Go.RowKit Rw
set_option linter.unusedVariables false
set_option linter.unusedSimpArgs false
attribute [local go_sem ↓] Go.wp_at_zero Go.wp_at_succ
theorem own_new3 {w : World} {base : Nat} {cs : Array Value} {t : TypeId} (hb : base ≤ w.heap.size) (h : cs.size = 3) : (w.alloc (.cells cs t)).ownsRow base t 3 (.slice (some ⟨w.heap.size, 0, none⟩) 1 1) 1 cs.toList :=
  ⟨by simp [h], .inr ⟨w.heap.size, 1, cs, rfl, hb, heap_alloc_new w _, Nat.le_refl _, by unfold maxLen; omega, by simp [h], by simp [List.take_of_length_le, h]⟩⟩
def Oned (w : World) (v : Value) (t : T3) (o : T3 × Int) (e : Ending) (w' : World) : Prop :=
  Below w.heap.size w w' ∧ ((∃ k : Int, k ≠ 0 ∧ o = (t, k) ∧ e = .returned (.tuple #[.agg #[v, .int .i64 t.2.1, .int .i64 t.2.2], .int .i64 k])) ∨ (∃ R H' r, o = ((R, H', t.2.2), 0) ∧ e = .returned (.tuple #[.agg #[r, .int .i64 H', .int .i64 t.2.2], .int .i64 0]) ∧ Row.Own w.heap.size w'.heap.size w' r R))
set_option maxRecDepth 100000 in
set_option maxHeartbeats 8000000 in
theorem l6one {w : World} {u : Value} {L : List Row.E} {ls : List Lab.E} (av : Option Addr) (nv cv : Nat) (H F A V : Int) (h : Row.Is w (.slice av nv cv) L) (hB : tabB (L, H, F)) (hl : Lab.Is w u ls) (hlg : ∀ x ∈ ls, Lab.good x) (hll : ls.length ≤ maxLen) :
    Calls Tryz.prog 80 #[.agg #[.slice av nv cv, .int .i64 H, .int .i64 F], .agg #[u, .int .i64 A, .int .i64 V]] w (Oned w (.slice av nv cv) (L, H, F) (oneE (L, H, F) (ls, A, V))) := by
  obtain ⟨au, nu, qu, rfl⟩ : ∃ a n q, u = .slice a n q := by obtain ⟨-, a, q, e, -⟩ := hl; exact ⟨a, _, q, e⟩
  obtain ⟨W0, hW0⟩ : ∃ W, W = (w.alloc (.cells #[.slice av nv cv, .int .i64 H, .int .i64 F] 30)).alloc (.cells #[.slice au nu qu, .int .i64 A, .int .i64 V] 62) := ⟨_, rfl⟩
  obtain ⟨W, hW⟩ : ∃ W, W = W0.alloc (.cells #[.slice none 0 0, .int .i64 0, .int .i64 0] 30) := ⟨_, rfl⟩
  have b0 : Below w.heap.size w W0 := by rw [hW0]; exact ((Below.refl _ _).alloc (Nat.le_refl _) _).alloc (by simp) _
  have z0 : W0.heap.size = w.heap.size + 1 + 1 := by rw [hW0]; simp
  have bW0 : Below W0.heap.size W0 W := by rw [hW]; exact (Below.refl _ _).alloc (Nat.le_refl _) _
  have bW := b0.trans (bW0.mono b0.size)
  have zW : W.heap.size = w.heap.size + 1 + 1 + 1 := by rw [hW]; simp [z0]
  have RZ : W.ownsRow w.heap.size 30 3 (.slice (some ⟨w.heap.size + 1 + 1, 0, none⟩) 1 1) 1 [.slice none 0 0, .int .i64 0, .int .i64 0] := by
    rw [hW, ← z0]; exact own_new3 b0.size rfl
  have p0 : W0.cell? ⟨w.heap.size, 0, none⟩ = some (.slice av nv cv) := by rw [hW0]; simp [go_sem]
  have p1 : W0.cell? ⟨w.heap.size, 1, none⟩ = some (.int .i64 H) := by rw [hW0]; simp [go_sem]
  have p2 : W0.cell? ⟨w.heap.size, 2, none⟩ = some (.int .i64 F) := by rw [hW0]; simp [go_sem]
  have q0 : W0.cell? ⟨w.heap.size + 1, 0, none⟩ = some (.slice au nu qu) := by rw [hW0]; simp [go_sem]
  have q1 : W0.cell? ⟨w.heap.size + 1, 1, none⟩ = some (.int .i64 A) := by rw [hW0]; simp [go_sem]
  have q2 : W0.cell? ⟨w.heap.size + 1, 2, none⟩ = some (.int .i64 V) := by rw [hW0]; simp [go_sem]
  have l0 : w.heap.size < W0.heap.size := by omega
  have l1 : w.heap.size + 1 < W0.heap.size := by omega
  have HK0 := hide (fun (X : World) (hb : Below W.heap.size W X) => have hc := bW0.trans (hb.mono bW0.size); And.intro ((hc.cell (p := ⟨w.heap.size, 0, none⟩) l0).trans p0) (And.intro ((hc.cell (p := ⟨w.heap.size, 1, none⟩) l0).trans p1) ((hc.cell (p := ⟨w.heap.size, 2, none⟩) l0).trans p2)))
  have HK1 := hide (fun (X : World) (hb : Below W.heap.size W X) => have hc := bW0.trans (hb.mono bW0.size); And.intro ((hc.cell (p := ⟨w.heap.size + 1, 0, none⟩) l1).trans q0) (And.intro ((hc.cell (p := ⟨w.heap.size + 1, 1, none⟩) l1).trans q1) ((hc.cell (p := ⟨w.heap.size + 1, 2, none⟩) l1).trans q2)))
  have hm : 1 ≤ maxLen := by unfold maxLen; omega
  have HCo := hide (l6code (w := W) av nv cv H F A V hB.2.1 (hl.below bW) hlg hll)
  have HOt := hide (fun (hr : 0 ≤ A ∧ A ≤ 9999) X (hb : Below w.heap.size w X) => l6other (w := X) A V (h.below hb) hB.1 (hl.below hb) hr)
  have HAd := hide (fun (h2 : Lab.ok ls = true) (h3 : SampMath.inR A V = true) X (hb : Below w.heap.size w X) => Row.l5add (w := X.alloc (.cells #[.int .i64 A, .int .i64 V] 106)) (s := .slice (some ⟨X.heap.size, 0, none⟩) 1 1) (xs := [(A, V)]) (h.below (hb.alloc hb.size _)) hB.1 (hl.below (hb.alloc hb.size _)) h2 (lies_new (w := X) (cs := #[.int .i64 A, .int .i64 V]) (t := 106) (n := 1) (size := 2) rfl rfl hm) (by rw [Row.one_ok]; exact h3))
  obtain ⟨k0, hk0⟩ : ∃ k, k = codeE H F ls A V := ⟨_, rfl⟩
  have HK := hide hk0
  rw [← hk0] at HCo
  obtain ⟨r0, r1, r2⟩ := unhide HK0 W (Below.refl _ _)
  obtain ⟨s0, s1, s2⟩ := unhide HK1 W (Below.refl _ _)
  clear p0 p1 p2 q0 q1 q2 hk0 h hl hlg hll bW0 l0 l1 hm hB
  go_enter Tryz.func80, Tryz.ntmps80
  go_wp2_with fail
  rw [← hW0, ← hW]
  clear hW0 hW
  refine (unhide HCo).mono ?_
  rintro e w1 ⟨rfl, b1⟩
  clear r0 r1 r2 s0 s1 s2
  obtain ⟨r0, r1, r2⟩ := unhide HK0 w1 b1
  obtain ⟨s0, s1, s2⟩ := unhide HK1 w1 b1
  have c1 := bW.trans (b1.mono bW.size)
  have o1 := own_below RZ b1
  clear RZ HCo
  by_cases hk : k0 = 0
  · subst hk
    obtain ⟨hlo, hin⟩ := code_zero (unhide HK).symm
    have hr := SampMath.inR_iff.1 hin
    have HO1 := hide (unhide HOt ⟨hr.1, hr.2.1⟩ w1 c1)
    have HAd1 := hide (fun X hb => unhide HAd hlo hin X hb)
    cases ho : otherE L ls A V
    · have HO := hide ho
      rw [ho] at HO1
      clear ho hr hlo hin HAd HOt
      go_wp2_with fail
      refine (unhide HO1).mono ?_
      rintro e w2 ⟨rfl, b2⟩
      have b12 := b1.trans (b2.mono b1.size)
      have c2 := c1.trans (b2.mono c1.size)
      have o2 := own_below o1 b2
      clear r0 r1 r2 s0 s1 s2 o1 HO1 b2
      obtain ⟨r0, r1, r2⟩ := unhide HK0 w2 b12
      obtain ⟨s0, s1, s2⟩ := unhide HK1 w2 b12
      have HA2 := hide (unhide HAd1 w2 c2)
      have c2a : Below w.heap.size w (w2.alloc (.cells #[.int .i64 A, .int .i64 V] 106)) := c2.alloc c2.size _
      have b12a : Below W.heap.size W (w2.alloc (.cells #[.int .i64 A, .int .i64 V] 106)) := b12.alloc b12.size _
      have o2a := World.ownsRow.alloc o2 (.cells #[.int .i64 A, .int .i64 V] 106)
      clear HAd1 o2
      go_wp2_with fail
      refine (unhide HA2).mono ?_
      rintro e w3 ⟨r, rfl, hown, b3⟩
      have b13 := b12a.trans (b3.mono b12a.size)
      have c3 := c2a.trans (b3.mono c2a.size)
      have o3 := own_below o2a b3
      clear r0 r1 r2 s0 s1 s2 o2a HA2
      obtain ⟨r0, r1, r2⟩ := unhide HK0 w3 b13
      obtain ⟨s0, s1, s2⟩ := unhide HK1 w3 b13
      cases had : Row.add L (ls, [(A, V)]) with
      | none =>
        have HE := hide (one_many (t := (L, H, F)) (e := (ls, A, V)) (unhide HK).symm (unhide HO) had)
        rw [had] at hown
        clear had hown b3
        have sd1 : w3.cell? ⟨w.heap.size + 1 + 1, 0, none⟩ = some (.slice none 0 0) := by rw [o3.cellAt 0 (by omega)]; rfl
        have sf1 := o3.frozenAt 0
        have ss1 := (o3.stored 0 (.slice av nv cv)).1
        obtain ⟨y1, hy1⟩ : ∃ w', w3.setCell ⟨w.heap.size + 1 + 1, 0, none⟩ (.slice av nv cv) = w' := ⟨_, rfl⟩
        rw [hy1] at ss1
        have so1 : y1.ownsRow w.heap.size 30 3 (.slice (some ⟨w.heap.size + 1 + 1, 0, none⟩) 1 1) 1 [.slice av nv cv, .int .i64 0, .int .i64 0] := ss1
        clear ss1
        have sd2 : y1.cell? ⟨w.heap.size + 1 + 1, 1, none⟩ = some (.int .i64 0) := by rw [so1.cellAt 1 (by omega)]; rfl
        have sf2 := so1.frozenAt 1
        have ss2 := (so1.stored 1 (.int .i64 H)).1
        obtain ⟨y2, hy2⟩ : ∃ w', y1.setCell ⟨w.heap.size + 1 + 1, 1, none⟩ (.int .i64 H) = w' := ⟨_, rfl⟩
        rw [hy2] at ss2
        have so2 : y2.ownsRow w.heap.size 30 3 (.slice (some ⟨w.heap.size + 1 + 1, 0, none⟩) 1 1) 1 [.slice av nv cv, .int .i64 H, .int .i64 0] := ss2
        clear ss2
        have sd3 : y2.cell? ⟨w.heap.size + 1 + 1, 2, none⟩ = some (.int .i64 0) := by rw [so2.cellAt 2 (by omega)]; rfl
        have sf3 := so2.frozenAt 2
        have ss3 := (so2.stored 2 (.int .i64 F)).1
        obtain ⟨y3, hy3⟩ : ∃ w', y2.setCell ⟨w.heap.size + 1 + 1, 2, none⟩ (.int .i64 F) = w' := ⟨_, rfl⟩
        rw [hy3] at ss3
        have so3 : y3.ownsRow w.heap.size 30 3 (.slice (some ⟨w.heap.size + 1 + 1, 0, none⟩) 1 1) 1 [.slice av nv cv, .int .i64 H, .int .i64 F] := ss3
        clear ss3
        have on4 := OnlyAt.refl (w.heap.size + 1 + 1) w3
        have on4 := on4.setCell 0 (.slice av nv cv)
        rw [hy1] at on4
        have on4 := on4.setCell 1 (.int .i64 H)
        rw [hy2] at on4
        have on4 := on4.setCell 2 (.int .i64 F)
        rw [hy3] at on4
        have z0 : y3.cell? ⟨w.heap.size + 1 + 1, 0, none⟩ = some (.slice av nv cv) := by rw [so3.cellAt 0 (by omega)]; rfl
        have z1 : y3.cell? ⟨w.heap.size + 1 + 1, 1, none⟩ = some (.int .i64 H) := by rw [so3.cellAt 1 (by omega)]; rfl
        have z2 : y3.cell? ⟨w.heap.size + 1 + 1, 2, none⟩ = some (.int .i64 F) := by rw [so3.cellAt 2 (by omega)]; rfl
        have RB := hide (c3.trans (on4.below (show w.heap.size ≤ w.heap.size + 1 + 1 by omega)))
        clear on4 so1 so2 so3
        go_wp2_with fail
        refine bodyPost_ret (v := .tuple #[.agg #[.slice av nv cv, .int .i64 H, .int .i64 F], .int .i64 4]) (by simp [results, Tryz.results80, go_sem, z0, z1, z2]) rfl ⟨unhide RB, .inl ⟨4, by decide, unhide HE, rfl⟩⟩
      | some R =>
        have HE := hide (one_fine (t := (L, H, F)) (e := (ls, A, V)) (unhide HK).symm (unhide HO) had)
        rw [had] at hown
        have ho3 := hown R rfl
        obtain ⟨ra, rl, rq, rfl⟩ := ho3.form
        have HO3 := hide ho3
        have hlo2 : w.heap.size + 1 + 1 + 1 ≤ (w2.alloc (.cells #[.int .i64 A, .int .i64 V] 106)).heap.size := by have := b12a.size; omega
        have hlo3 := c2a.size
        clear had hown ho3 b3
        obtain ⟨w4, hw4⟩ : ∃ w', w3.alloc (.cells #[.slice ra rl rq, .int .i64 H, .int .i64 F] 30) = w' := ⟨_, rfl⟩
        have b4 : Below w3.heap.size w3 w4 := by rw [← hw4]; exact (Below.refl _ _).alloc (Nat.le_refl _) _
        have z4 : w4.heap.size = w3.heap.size + 1 := by rw [← hw4]; simp
        have b14 := b13.trans (b4.mono b13.size)
        have c4 := c3.trans (b4.mono c3.size)
        have o4 := own_below o3 b4
        have O9 : w4.ownsRow w.heap.size 30 3 (.slice (some ⟨w3.heap.size, 0, none⟩) 1 1) 1 [.slice ra rl rq, .int .i64 H, .int .i64 F] := by rw [← hw4]; exact own_new3 c3.size rfl
        obtain ⟨a0, a1, a2⟩ := unhide HK0 w4 b14
        obtain ⟨e0, e1, e2⟩ := unhide HK1 w4 b14
        have HO4 := hide ((unhide HO3).below b4)
        have hz3 : w.heap.size + 1 + 1 < w3.heap.size := by have := b13.size; omega
        have f9 := O9.frozenAt 1
        have x0 : w4.cell? ⟨w3.heap.size, 0, none⟩ = some (.slice ra rl rq) := by rw [O9.cellAt 0 (by omega)]; rfl
        have x1 : w4.cell? ⟨w3.heap.size, 1, none⟩ = some (.int .i64 H) := by rw [O9.cellAt 1 (by omega)]; rfl
        have x2 : w4.cell? ⟨w3.heap.size, 2, none⟩ = some (.int .i64 F) := by rw [O9.cellAt 2 (by omega)]; rfl
        clear s0 s1 s2 a0 a1 a2 b4
        by_cases hTA : H < A
        · rw [if_pos hTA] at HE
          have ss9 := (O9.stored 1 (.int .i64 A)).1
          obtain ⟨w5, hw5⟩ : ∃ w', w4.setCell ⟨w3.heap.size, 1, none⟩ (.int .i64 A) = w' := ⟨_, rfl⟩
          rw [hw5] at ss9
          have O5 : w5.ownsRow w.heap.size 30 3 (.slice (some ⟨w3.heap.size, 0, none⟩) 1 1) 1 [.slice ra rl rq, .int .i64 A, .int .i64 F] := ss9
          have on5 := (OnlyAt.refl w3.heap.size w4).setCell 1 (.int .i64 A)
          rw [hw5] at on5
          have u0 : w5.cell? ⟨w3.heap.size, 0, none⟩ = some (.slice ra rl rq) := by rw [O5.cellAt 0 (by omega)]; rfl
          have u1 : w5.cell? ⟨w3.heap.size, 1, none⟩ = some (.int .i64 A) := by rw [O5.cellAt 1 (by omega)]; rfl
          have u2 : w5.cell? ⟨w3.heap.size, 2, none⟩ = some (.int .i64 F) := by rw [O5.cellAt 2 (by omega)]; rfl
          have o5 := on5.own o4 (fun k hk => by simp only [Value.ownBlock, Option.some.injEq] at hk; omega)
          have c5 := c4.trans (on5.below (show w.heap.size ≤ w3.heap.size by omega))
          have HO5 := hide ((unhide HO4).zone (Zone.of_only on5 (Nat.le_refl _) (Nat.lt_succ_self _)) (.inl (Nat.le_refl _)))
          have hys5 := on5.size
          clear ss9 O9 O5 o4
          have sd10 : w5.cell? ⟨w.heap.size + 1 + 1, 0, none⟩ = some (.slice none 0 0) := by rw [o5.cellAt 0 (by omega)]; rfl
          have sf10 := o5.frozenAt 0
          have ss10 := (o5.stored 0 (.slice ra rl rq)).1
          obtain ⟨y10, hy10⟩ : ∃ w', w5.setCell ⟨w.heap.size + 1 + 1, 0, none⟩ (.slice ra rl rq) = w' := ⟨_, rfl⟩
          rw [hy10] at ss10
          have so10 : y10.ownsRow w.heap.size 30 3 (.slice (some ⟨w.heap.size + 1 + 1, 0, none⟩) 1 1) 1 [.slice ra rl rq, .int .i64 0, .int .i64 0] := ss10
          clear ss10
          have sd11 : y10.cell? ⟨w.heap.size + 1 + 1, 1, none⟩ = some (.int .i64 0) := by rw [so10.cellAt 1 (by omega)]; rfl
          have sf11 := so10.frozenAt 1
          have ss11 := (so10.stored 1 (.int .i64 A)).1
          obtain ⟨y11, hy11⟩ : ∃ w', y10.setCell ⟨w.heap.size + 1 + 1, 1, none⟩ (.int .i64 A) = w' := ⟨_, rfl⟩
          rw [hy11] at ss11
          have so11 : y11.ownsRow w.heap.size 30 3 (.slice (some ⟨w.heap.size + 1 + 1, 0, none⟩) 1 1) 1 [.slice ra rl rq, .int .i64 A, .int .i64 0] := ss11
          clear ss11
          have sd12 : y11.cell? ⟨w.heap.size + 1 + 1, 2, none⟩ = some (.int .i64 0) := by rw [so11.cellAt 2 (by omega)]; rfl
          have sf12 := so11.frozenAt 2
          have ss12 := (so11.stored 2 (.int .i64 F)).1
          obtain ⟨y12, hy12⟩ : ∃ w', y11.setCell ⟨w.heap.size + 1 + 1, 2, none⟩ (.int .i64 F) = w' := ⟨_, rfl⟩
          rw [hy12] at ss12
          have so12 : y12.ownsRow w.heap.size 30 3 (.slice (some ⟨w.heap.size + 1 + 1, 0, none⟩) 1 1) 1 [.slice ra rl rq, .int .i64 A, .int .i64 F] := ss12
          clear ss12
          have on13 := OnlyAt.refl (w.heap.size + 1 + 1) w5
          have on13 := on13.setCell 0 (.slice ra rl rq)
          rw [hy10] at on13
          have on13 := on13.setCell 1 (.int .i64 A)
          rw [hy11] at on13
          have on13 := on13.setCell 2 (.int .i64 F)
          rw [hy12] at on13
          have z0 : y12.cell? ⟨w.heap.size + 1 + 1, 0, none⟩ = some (.slice ra rl rq) := by rw [so12.cellAt 0 (by omega)]; rfl
          have z1 : y12.cell? ⟨w.heap.size + 1 + 1, 1, none⟩ = some (.int .i64 A) := by rw [so12.cellAt 1 (by omega)]; rfl
          have z2 : y12.cell? ⟨w.heap.size + 1 + 1, 2, none⟩ = some (.int .i64 F) := by rw [so12.cellAt 2 (by omega)]; rfl
          have RB := hide (c5.trans (on13.below (show w.heap.size ≤ w.heap.size + 1 + 1 by omega)))
          have hys := on13.size
          have HOz := hide ((unhide HO5).zone (Zone.of_only on13 (Nat.le_refl _) (Nat.lt_succ_self _)) (.inr (by omega)))
          clear on13 so10 so11 so12
          go_wp2_with fail
          refine bodyPost_ret (v := .tuple #[.agg #[.slice ra rl rq, .int .i64 A, .int .i64 F], .int .i64 0]) (by simp [results, Tryz.results80, go_sem, z0, z1, z2]) rfl ⟨unhide RB, .inr ⟨R, A, _, unhide HE, rfl, (unhide HOz).wide hlo3 (by omega) (Nat.le_refl _)⟩⟩
        · rw [if_neg hTA] at HE
          have hTd : decide (H < A) = false := decide_eq_false hTA
          clear O9 f9
          have sd14 : w4.cell? ⟨w.heap.size + 1 + 1, 0, none⟩ = some (.slice none 0 0) := by rw [o4.cellAt 0 (by omega)]; rfl
          have sf14 := o4.frozenAt 0
          have ss14 := (o4.stored 0 (.slice ra rl rq)).1
          obtain ⟨y14, hy14⟩ : ∃ w', w4.setCell ⟨w.heap.size + 1 + 1, 0, none⟩ (.slice ra rl rq) = w' := ⟨_, rfl⟩
          rw [hy14] at ss14
          have so14 : y14.ownsRow w.heap.size 30 3 (.slice (some ⟨w.heap.size + 1 + 1, 0, none⟩) 1 1) 1 [.slice ra rl rq, .int .i64 0, .int .i64 0] := ss14
          clear ss14
          have sd15 : y14.cell? ⟨w.heap.size + 1 + 1, 1, none⟩ = some (.int .i64 0) := by rw [so14.cellAt 1 (by omega)]; rfl
          have sf15 := so14.frozenAt 1
          have ss15 := (so14.stored 1 (.int .i64 H)).1
          obtain ⟨y15, hy15⟩ : ∃ w', y14.setCell ⟨w.heap.size + 1 + 1, 1, none⟩ (.int .i64 H) = w' := ⟨_, rfl⟩
          rw [hy15] at ss15
          have so15 : y15.ownsRow w.heap.size 30 3 (.slice (some ⟨w.heap.size + 1 + 1, 0, none⟩) 1 1) 1 [.slice ra rl rq, .int .i64 H, .int .i64 0] := ss15
          clear ss15
          have sd16 : y15.cell? ⟨w.heap.size + 1 + 1, 2, none⟩ = some (.int .i64 0) := by rw [so15.cellAt 2 (by omega)]; rfl
          have sf16 := so15.frozenAt 2
          have ss16 := (so15.stored 2 (.int .i64 F)).1
          obtain ⟨y16, hy16⟩ : ∃ w', y15.setCell ⟨w.heap.size + 1 + 1, 2, none⟩ (.int .i64 F) = w' := ⟨_, rfl⟩
          rw [hy16] at ss16
          have so16 : y16.ownsRow w.heap.size 30 3 (.slice (some ⟨w.heap.size + 1 + 1, 0, none⟩) 1 1) 1 [.slice ra rl rq, .int .i64 H, .int .i64 F] := ss16
          clear ss16
          have on17 := OnlyAt.refl (w.heap.size + 1 + 1) w4
          have on17 := on17.setCell 0 (.slice ra rl rq)
          rw [hy14] at on17
          have on17 := on17.setCell 1 (.int .i64 H)
          rw [hy15] at on17
          have on17 := on17.setCell 2 (.int .i64 F)
          rw [hy16] at on17
          have z0 : y16.cell? ⟨w.heap.size + 1 + 1, 0, none⟩ = some (.slice ra rl rq) := by rw [so16.cellAt 0 (by omega)]; rfl
          have z1 : y16.cell? ⟨w.heap.size + 1 + 1, 1, none⟩ = some (.int .i64 H) := by rw [so16.cellAt 1 (by omega)]; rfl
          have z2 : y16.cell? ⟨w.heap.size + 1 + 1, 2, none⟩ = some (.int .i64 F) := by rw [so16.cellAt 2 (by omega)]; rfl
          have RB := hide (c4.trans (on17.below (show w.heap.size ≤ w.heap.size + 1 + 1 by omega)))
          have hys := on17.size
          have HOz := hide ((unhide HO4).zone (Zone.of_only on17 (Nat.le_refl _) (Nat.lt_succ_self _)) (.inr (by omega)))
          clear on17 so14 so15 so16
          go_wp2_with fail
          refine bodyPost_ret (v := .tuple #[.agg #[.slice ra rl rq, .int .i64 H, .int .i64 F], .int .i64 0]) (by simp [results, Tryz.results80, go_sem, z0, z1, z2]) rfl ⟨unhide RB, .inr ⟨R, H, _, unhide HE, rfl, (unhide HOz).wide hlo3 (by omega) (Nat.le_refl _)⟩⟩
    · have HO := hide ho
      rw [ho] at HO1
      have HE := hide (one_other (t := (L, H, F)) (e := (ls, A, V)) (unhide HK).symm ho)
      clear ho hr hlo hin HAd HAd1 HOt
      go_wp2_with fail
      refine (unhide HO1).mono ?_
      rintro e w2 ⟨rfl, b2⟩
      have b12 := b1.trans (b2.mono b1.size)
      have c2 := c1.trans (b2.mono c1.size)
      have o2 := own_below o1 b2
      clear r0 r1 r2 s0 s1 s2 o1 HO1 b2
      obtain ⟨r0, r1, r2⟩ := unhide HK0 w2 b12
      have sd5 : w2.cell? ⟨w.heap.size + 1 + 1, 0, none⟩ = some (.slice none 0 0) := by rw [o2.cellAt 0 (by omega)]; rfl
      have sf5 := o2.frozenAt 0
      have ss5 := (o2.stored 0 (.slice av nv cv)).1
      obtain ⟨y5, hy5⟩ : ∃ w', w2.setCell ⟨w.heap.size + 1 + 1, 0, none⟩ (.slice av nv cv) = w' := ⟨_, rfl⟩
      rw [hy5] at ss5
      have so5 : y5.ownsRow w.heap.size 30 3 (.slice (some ⟨w.heap.size + 1 + 1, 0, none⟩) 1 1) 1 [.slice av nv cv, .int .i64 0, .int .i64 0] := ss5
      clear ss5
      have sd6 : y5.cell? ⟨w.heap.size + 1 + 1, 1, none⟩ = some (.int .i64 0) := by rw [so5.cellAt 1 (by omega)]; rfl
      have sf6 := so5.frozenAt 1
      have ss6 := (so5.stored 1 (.int .i64 H)).1
      obtain ⟨y6, hy6⟩ : ∃ w', y5.setCell ⟨w.heap.size + 1 + 1, 1, none⟩ (.int .i64 H) = w' := ⟨_, rfl⟩
      rw [hy6] at ss6
      have so6 : y6.ownsRow w.heap.size 30 3 (.slice (some ⟨w.heap.size + 1 + 1, 0, none⟩) 1 1) 1 [.slice av nv cv, .int .i64 H, .int .i64 0] := ss6
      clear ss6
      have sd7 : y6.cell? ⟨w.heap.size + 1 + 1, 2, none⟩ = some (.int .i64 0) := by rw [so6.cellAt 2 (by omega)]; rfl
      have sf7 := so6.frozenAt 2
      have ss7 := (so6.stored 2 (.int .i64 F)).1
      obtain ⟨y7, hy7⟩ : ∃ w', y6.setCell ⟨w.heap.size + 1 + 1, 2, none⟩ (.int .i64 F) = w' := ⟨_, rfl⟩
      rw [hy7] at ss7
      have so7 : y7.ownsRow w.heap.size 30 3 (.slice (some ⟨w.heap.size + 1 + 1, 0, none⟩) 1 1) 1 [.slice av nv cv, .int .i64 H, .int .i64 F] := ss7
      clear ss7
      have on8 := OnlyAt.refl (w.heap.size + 1 + 1) w2
      have on8 := on8.setCell 0 (.slice av nv cv)
      rw [hy5] at on8
      have on8 := on8.setCell 1 (.int .i64 H)
      rw [hy6] at on8
      have on8 := on8.setCell 2 (.int .i64 F)
      rw [hy7] at on8
      have z0 : y7.cell? ⟨w.heap.size + 1 + 1, 0, none⟩ = some (.slice av nv cv) := by rw [so7.cellAt 0 (by omega)]; rfl
      have z1 : y7.cell? ⟨w.heap.size + 1 + 1, 1, none⟩ = some (.int .i64 H) := by rw [so7.cellAt 1 (by omega)]; rfl
      have z2 : y7.cell? ⟨w.heap.size + 1 + 1, 2, none⟩ = some (.int .i64 F) := by rw [so7.cellAt 2 (by omega)]; rfl
      have RB := hide (c2.trans (on8.below (show w.heap.size ≤ w.heap.size + 1 + 1 by omega)))
      clear on8 so5 so6 so7
      go_wp2_with fail
      refine bodyPost_ret (v := .tuple #[.agg #[.slice av nv cv, .int .i64 H, .int .i64 F], .int .i64 3]) (by simp [results, Tryz.results80, go_sem, z0, z1, z2]) rfl ⟨unhide RB, .inl ⟨3, by decide, unhide HE, rfl⟩⟩
  · have HE := hide (one_none (t := (L, H, F)) (e := (ls, A, V)) (by rw [← unhide HK]; exact hk))
    rw [show codeE (L, H, F).2.1 (L, H, F).2.2 (ls, A, V).1 (ls, A, V).2.1 (ls, A, V).2.2 = k0 from (unhide HK).symm] at HE
    have hkf : (k0 == 0) = false := by simp; exact hk
    have hkt : (k0 != 0) = true := by simp; exact hk
    have sd18 : w1.cell? ⟨w.heap.size + 1 + 1, 0, none⟩ = some (.slice none 0 0) := by rw [o1.cellAt 0 (by omega)]; rfl
    have sf18 := o1.frozenAt 0
    have ss18 := (o1.stored 0 (.slice av nv cv)).1
    obtain ⟨y18, hy18⟩ : ∃ w', w1.setCell ⟨w.heap.size + 1 + 1, 0, none⟩ (.slice av nv cv) = w' := ⟨_, rfl⟩
    rw [hy18] at ss18
    have so18 : y18.ownsRow w.heap.size 30 3 (.slice (some ⟨w.heap.size + 1 + 1, 0, none⟩) 1 1) 1 [.slice av nv cv, .int .i64 0, .int .i64 0] := ss18
    clear ss18
    have sd19 : y18.cell? ⟨w.heap.size + 1 + 1, 1, none⟩ = some (.int .i64 0) := by rw [so18.cellAt 1 (by omega)]; rfl
    have sf19 := so18.frozenAt 1
    have ss19 := (so18.stored 1 (.int .i64 H)).1
    obtain ⟨y19, hy19⟩ : ∃ w', y18.setCell ⟨w.heap.size + 1 + 1, 1, none⟩ (.int .i64 H) = w' := ⟨_, rfl⟩
    rw [hy19] at ss19
    have so19 : y19.ownsRow w.heap.size 30 3 (.slice (some ⟨w.heap.size + 1 + 1, 0, none⟩) 1 1) 1 [.slice av nv cv, .int .i64 H, .int .i64 0] := ss19
    clear ss19
    have sd20 : y19.cell? ⟨w.heap.size + 1 + 1, 2, none⟩ = some (.int .i64 0) := by rw [so19.cellAt 2 (by omega)]; rfl
    have sf20 := so19.frozenAt 2
    have ss20 := (so19.stored 2 (.int .i64 F)).1
    obtain ⟨y20, hy20⟩ : ∃ w', y19.setCell ⟨w.heap.size + 1 + 1, 2, none⟩ (.int .i64 F) = w' := ⟨_, rfl⟩
    rw [hy20] at ss20
    have so20 : y20.ownsRow w.heap.size 30 3 (.slice (some ⟨w.heap.size + 1 + 1, 0, none⟩) 1 1) 1 [.slice av nv cv, .int .i64 H, .int .i64 F] := ss20
    clear ss20
    have on21 := OnlyAt.refl (w.heap.size + 1 + 1) w1
    have on21 := on21.setCell 0 (.slice av nv cv)
    rw [hy18] at on21
    have on21 := on21.setCell 1 (.int .i64 H)
    rw [hy19] at on21
    have on21 := on21.setCell 2 (.int .i64 F)
    rw [hy20] at on21
    have z0 : y20.cell? ⟨w.heap.size + 1 + 1, 0, none⟩ = some (.slice av nv cv) := by rw [so20.cellAt 0 (by omega)]; rfl
    have z1 : y20.cell? ⟨w.heap.size + 1 + 1, 1, none⟩ = some (.int .i64 H) := by rw [so20.cellAt 1 (by omega)]; rfl
    have z2 : y20.cell? ⟨w.heap.size + 1 + 1, 2, none⟩ = some (.int .i64 F) := by rw [so20.cellAt 2 (by omega)]; rfl
    have RB := hide (c1.trans (on21.below (show w.heap.size ≤ w.heap.size + 1 + 1 by omega)))
    clear on21 so18 so19 so20
    go_wp2_with fail
    refine bodyPost_ret (v := .tuple #[.agg #[.slice av nv cv, .int .i64 H, .int .i64 F], .int .i64 k0]) (by simp [results, Tryz.results80, go_sem, z0, z1, z2]) rfl ⟨unhide RB, .inl ⟨k0, hk, unhide HE, rfl⟩⟩
end Go.Proofs.YtlboekimnhgfdaaGreat.Tab

/- What writing several entries comes to, all or none, as plain mathematics. No condition. -/
namespace Go.Proofs.YtlboekimnhgfdaaGreat.Tab
open Go.RowKit Rw
set_option linter.unusedVariables false
def runT (t : T3) : List En → T3 × Int
  | [] => (t, 0)
  | e :: b => if (oneE t e).2 = 0 then runT (oneE t e).1 b else oneE t e
theorem runT_cons (t : T3) (e : En) (b : List En) : runT t (e :: b) = if (oneE t e).2 = 0 then runT (oneE t e).1 b else oneE t e := rfl
theorem runT_app : ∀ (b c : List En) (t : T3), runT t (b ++ c) = if (runT t b).2 = 0 then runT (runT t b).1 c else runT t b
  | [], c, t => rfl
  | e :: b, c, t => by
    rw [List.cons_append, runT_cons, runT_cons]
    by_cases h : (oneE t e).2 = 0
    · rw [if_pos h, if_pos h]; exact runT_app b c _
    · rw [if_neg h, if_neg h, if_neg h]
theorem runT_one (t : T3) (e : En) : runT t [e] = oneE t e := by
  rw [runT_cons]
  by_cases h : (oneE t e).2 = 0
  · rw [if_pos h]
    show ((oneE t e).1, 0) = _
    rw [← h]
  · rw [if_neg h]
theorem runT_next {t t' : T3} {b : List En} {k : Nat} (hk : k < b.length) (h : runT t (b.take k) = (t', 0)) : runT t (b.take (k + 1)) = oneE t' (Ent.at' b k) := by
  rw [Ent.at_snoc b k hk, runT_app, h, if_pos rfl, runT_one]
theorem runT_stop {t t' : T3} {b : List En} {k : Nat} (hk : k < b.length) (h : runT t (b.take k) = (t', 0)) (h2 : (oneE t' (Ent.at' b k)).2 ≠ 0) : runT t b = oneE t' (Ent.at' b k) := by
  have h3 := runT_next hk h
  have e : b = b.take (k + 1) ++ b.drop (k + 1) := (List.take_append_drop _ _).symm
  conv => lhs; rw [e]
  rw [runT_app, h3, if_neg h2]
theorem runT_tab : ∀ (b : List En) {t : T3}, tabB t → tabB (runT t b).1
  | [], t, h => h
  | e :: b, t, h => by
    rw [runT_cons]
    by_cases h1 : (oneE t e).2 = 0
    · rw [if_pos h1]; exact runT_tab b (one_tab h)
    · rw [if_neg h1]; exact one_tab h
def addE (t : T3) (b : List En) : T3 × Int := if 1 ≤ b.length ∧ b.length ≤ 6 then (if (runT t b).2 = 0 then runT t b else (t, (runT t b).2)) else (t, 1)
theorem addE_bad {t : T3} {b : List En} (h : ¬ (1 ≤ b.length ∧ b.length ≤ 6)) : addE t b = (t, 1) := by unfold addE; rw [if_neg h]
theorem addE_fine {t t' : T3} {b : List En} (h : 1 ≤ b.length ∧ b.length ≤ 6) (h2 : runT t b = (t', 0)) : addE t b = (t', 0) := by unfold addE; rw [if_pos h, h2, if_pos rfl]
theorem addE_stop {t : T3} {b : List En} {k : Int} (h : 1 ≤ b.length ∧ b.length ≤ 6) (h2 : (runT t b).2 = k) (h3 : k ≠ 0) : addE t b = (t, k) := by unfold addE; rw [if_pos h, h2, if_neg h3]
theorem addE_tab {t : T3} {b : List En} (h : tabB t) : tabB (addE t b).1 := by
  unfold addE
  split
  · split
    · exact runT_tab b h
    · exact h
  · exact h
end Go.Proofs.YtlboekimnhgfdaaGreat.Tab

/- What l6Add of the model answers: entries written one by one, all or none. -/
namespace Go.Proofs.YtlboekimnhgfdaaGreat.Tab
open Go.RowKit Rw
set_option linter.unusedVariables false
set_option linter.unusedSimpArgs false
attribute [local go_sem ↓] Go.wp_at_zero Go.wp_at_succ
theorem oned_fine {w w' : World} {v : Value} {t : T3} {o : T3 × Int} {e : Ending} (h : (∃ k : Int, k ≠ 0 ∧ o = (t, k) ∧ e = .returned (.tuple #[.agg #[v, .int .i64 t.2.1, .int .i64 t.2.2], .int .i64 k])) ∨ (∃ R H' r, o = ((R, H', t.2.2), 0) ∧ e = .returned (.tuple #[.agg #[r, .int .i64 H', .int .i64 t.2.2], .int .i64 0]) ∧ Row.Own w.heap.size w'.heap.size w' r R)) (h0 : o.2 = 0) :
    ∃ R H' r, o = ((R, H', t.2.2), 0) ∧ e = .returned (.tuple #[.agg #[r, .int .i64 H', .int .i64 t.2.2], .int .i64 0]) ∧ Row.Own w.heap.size w'.heap.size w' r R := by
  rcases h with ⟨k, h1, h2, -⟩ | h
  · rw [h2] at h0; exact absurd h0 h1
  · exact h
theorem oned_stop {w w' : World} {v : Value} {t : T3} {o : T3 × Int} {e : Ending} (h : (∃ k : Int, k ≠ 0 ∧ o = (t, k) ∧ e = .returned (.tuple #[.agg #[v, .int .i64 t.2.1, .int .i64 t.2.2], .int .i64 k])) ∨ (∃ R H' r, o = ((R, H', t.2.2), 0) ∧ e = .returned (.tuple #[.agg #[r, .int .i64 H', .int .i64 t.2.2], .int .i64 0]) ∧ Row.Own w.heap.size w'.heap.size w' r R)) (h0 : ¬ o.2 = 0) :
    ∃ k : Int, k ≠ 0 ∧ o = (t, k) ∧ e = .returned (.tuple #[.agg #[v, .int .i64 t.2.1, .int .i64 t.2.2], .int .i64 k]) := by
  rcases h with h | ⟨R, H', r, h2, -⟩
  · exact h
  · rw [h2] at h0; exact absurd rfl h0
def Okay (b : List En) : Prop := ∀ e ∈ b, (∀ x ∈ e.1, Lab.good x) ∧ e.1.length ≤ maxLen
set_option maxRecDepth 100000 in
set_option maxHeartbeats 16000000 in
theorem l6add {w : World} {bv : Value} {L : List Row.E} {b : List En} (av : Option Addr) (nv cv : Nat) (H F : Int) (h : Row.Is w (.slice av nv cv) L) (hB : tabB (L, H, F)) (hb : Ent.Is w bv b) (hg : Okay b) :
    Calls Tryz.prog 41 #[.agg #[.slice av nv cv, .int .i64 H, .int .i64 F], bv] w fun e w' => ∃ r, e = .returned (.tuple #[.agg #[r, .int .i64 (addE (L, H, F) b).1.2.1, .int .i64 (addE (L, H, F) b).1.2.2], .int .i64 (addE (L, H, F) b).2]) ∧ Row.Own w.heap.size w'.heap.size w' r (addE (L, H, F) b).1.1 ∧ Below w.heap.size w w' := by
  obtain ⟨W0, hW0⟩ : ∃ W, W = w.alloc (.cells #[.slice av nv cv, .int .i64 H, .int .i64 F] 30) := ⟨_, rfl⟩
  obtain ⟨W, hW⟩ : ∃ W, W = W0.alloc (.cells #[.slice none 0 0, .int .i64 0, .int .i64 0] 30) := ⟨_, rfl⟩
  have b0 : Below w.heap.size w W0 := by rw [hW0]; exact (Below.refl _ _).alloc (Nat.le_refl _) _
  have z0 : W0.heap.size = w.heap.size + 1 := by rw [hW0]; simp
  have bW0 : Below W0.heap.size W0 W := by rw [hW]; exact (Below.refl _ _).alloc (Nat.le_refl _) _
  have bW := b0.trans (bW0.mono b0.size)
  have zW : W.heap.size = w.heap.size + 1 + 1 := by rw [hW]; simp [z0]
  have RT : W.ownsRow w.heap.size 30 3 (.slice (some ⟨w.heap.size, 0, none⟩) 1 1) 1 [.slice av nv cv, .int .i64 H, .int .i64 F] := by
    refine own_below ?_ bW0
    rw [hW0]; exact own_new3 (Nat.le_refl _) rfl
  have RZ : W.ownsRow w.heap.size 30 3 (.slice (some ⟨w.heap.size + 1, 0, none⟩) 1 1) 1 [.slice none 0 0, .int .i64 0, .int .i64 0] := by
    rw [hW, ← z0]; exact own_new3 b0.size rfl
  have HCp := hide (fun X (hx : Below w.heap.size w X) => spec_copy (w := X) H F (h.below hx) hB.1)
  have HIs := hide (fun X (hx : Below w.heap.size w X) => h.below hx)
  have HT := hide hB
  obtain ⟨cs, hcs, hLi, hEl⟩ := hb
  obtain ⟨-, ab, qb, rfl, hbc, hbm, -, hbr⟩ := hLi
  unfold maxLen at hbm
  obtain ⟨n, hn⟩ : ∃ n, n = b.length := ⟨_, rfl⟩
  have HN := hide hn
  have HCs := hide hcs
  have HEl := hide hEl
  have HG := hide hg
  rw [← hn] at hbc hbr ⊢
  obtain ⟨t0, ht0⟩ : ∃ t, t = (L, H, F) := ⟨_, rfl⟩
  have HT0 := hide ht0
  have hlen : b.length = n := hn.symm
  have k0 : W.cell? ⟨w.heap.size, 0, none⟩ = some (.slice av nv cv) := by rw [RT.cellAt 0 (by omega)]; rfl
  have k1 : W.cell? ⟨w.heap.size, 1, none⟩ = some (.int .i64 H) := by rw [RT.cellAt 1 (by omega)]; rfl
  have k2 : W.cell? ⟨w.heap.size, 2, none⟩ = some (.int .i64 F) := by rw [RT.cellAt 2 (by omega)]; rfl
  have hin : Zig.inB (n : Int) 1 6 = decide (1 ≤ b.length ∧ b.length ≤ 6) := by
    unfold Zig.inB; rw [hlen, Bool.eq_iff_iff]; simp; omega
  by_cases hl : 1 ≤ b.length ∧ b.length ≤ 6
  · have HIn := hide (Zig.in_any (n : Int) 1 6 W)
    rw [hin, decide_eq_true hl] at HIn
    have hn6 : 1 ≤ n ∧ n ≤ 6 := by omega
    have HL := hide hl
    have HStop := hide (fun (k : Int) (h2 : (runT (L, H, F) b).2 = k) (h3 : k ≠ 0) => addE_stop hl h2 h3)
    have HFine := hide (fun (t' : T3) (h2 : runT (L, H, F) b = (t', 0)) => addE_fine hl h2)
    obtain ⟨W2, hW2⟩ : ∃ w', W.alloc (.cells #[.slice av nv cv, .int .i64 H, .int .i64 F] 30) = w' := ⟨_, rfl⟩
    have b2 : Below W.heap.size W W2 := by rw [← hW2]; exact (Below.refl _ _).alloc (Nat.le_refl _) _
    have z2 : W2.heap.size = w.heap.size + 1 + 1 + 1 := by rw [← hW2]; simp [zW]
    have RT2 := own_below RT b2
    have RZ2 := own_below RZ b2
    have R6 : W2.ownsRow w.heap.size 30 3 (.slice (some ⟨w.heap.size + 1 + 1, 0, none⟩) 1 1) 1 [.slice av nv cv, .int .i64 H, .int .i64 F] := by rw [← hW2, ← zW]; exact own_new3 bW.size rfl
    have c2 := bW.trans (b2.mono bW.size)
    have HStart := hide (show runT (L, H, F) (b.take 0) = ((L, H, F), 0) from rfl)
    have HIs0 := hide (unhide HIs W2 c2)
    clear RT RZ hin hl hcs hEl hg h hB b0 bW0 ht0 hlen hn b2
    go_enter Tryz.func41, Tryz.ntmps41
    go_wp2_with fail
    rw [← hW0, ← hW]
    clear hW0 hW
    refine (unhide HIn).mono ?_
    rintro e wi ⟨rfl, hwi⟩
    have hwi2 := hwi.symm
    clear hwi
    subst hwi2
    clear HIn
    go_wp2_with fail
    clear k0 k1 k2 hW2
    go_loopw [7] (fun iv wr => ∃ (k : Nat) (R : List Row.E) (H' : Int) (ra : Option Addr) (rl rq : Nat), iv = .int .i64 (k : Int) ∧ k ≤ n ∧ Hid (runT (L, H, F) (b.take k) = ((R, H', F), 0)) ∧ wr.ownsRow w.heap.size 30 3 (.slice (some ⟨w.heap.size + 1 + 1, 0, none⟩) 1 1) 1 [.slice ra rl rq, .int .i64 H', .int .i64 F] ∧ wr.ownsRow w.heap.size 30 3 (.slice (some ⟨w.heap.size + 1, 0, none⟩) 1 1) 1 [.slice none 0 0, .int .i64 0, .int .i64 0] ∧ wr.ownsRow w.heap.size 30 3 (.slice (some ⟨w.heap.size, 0, none⟩) 1 1) 1 [.slice av nv cv, .int .i64 H, .int .i64 F] ∧ Hid (Row.Is wr (.slice ra rl rq) R) ∧ Hid (0 < k → Row.Own (w.heap.size + 1 + 1 + 1) wr.heap.size wr (.slice ra rl rq) R) ∧ w.heap.size + 1 + 1 + 1 ≤ wr.heap.size ∧ Below w.heap.size w wr) (fun iv _ => n - (intOf iv).toNat)
    case atStart => exact ⟨0, L, H, av, nv, cv, rfl, Nat.zero_le _, HStart, R6, RZ2, RT2, HIs0, fun h => absurd h (Nat.lt_irrefl _), Nat.le_of_eq z2.symm, c2⟩
    case round =>
      clear HStart HIs0 R6 RZ2 RT2 c2 z2
      obtain ⟨k, R, H', ra, rl, rq, rfl, hk, HRun, o6, oz0, ot, HRis, HRow, hws, hbel⟩ := hrel
      have hsz := hbel.size
      have hk0 : (0 : Int) ≤ (k : Int) := Int.natCast_nonneg _
      by_cases hlt : k < n
      · obtain ⟨bx, offx, rfl, hbx, hcells⟩ := hbr (by omega)
        have hkz : k < b.length := by rw [← unhide HN]; exact hlt
        have hk1 : (k : Int) < (n : Int) := by omega
        have hel := unhide HEl k hkz
        have f0 := flatOf_get Ent.clk cs k 0 (by rw [unhide HCs]; exact hkz) (by omega)
        have f1 := flatOf_get Ent.clk cs k 1 (by rw [unhide HCs]; exact hkz) (by omega)
        have f2 := flatOf_get Ent.clk cs k 2 (by rw [unhide HCs]; exact hkz) (by omega)
        have hge := unhide HG _ (Ent.at_mem b k hkz)
        have ecat := Ent.cat_get cs k (by rw [unhide HCs]; exact hkz)
        obtain ⟨⟨ls, A, V⟩, hE⟩ : ∃ x, x = Ent.at' b k := ⟨_, rfl⟩
        obtain ⟨⟨c0, c1, c2⟩, hC⟩ : ∃ c, c = Ent.cat cs k := ⟨_, rfl⟩
        rw [← hE, ← hC] at hel
        rw [← hE] at hge
        rw [← ecat, ← hC] at f0 f1 f2
        obtain ⟨hel1, hel2, hel3⟩ := hel
        simp only at hel1 hel2 hel3 hge
        subst hel2
        subst hel3
        obtain ⟨au, nu, qu, rfl⟩ : ∃ a n q, c0 = .slice a n q := by obtain ⟨-, a, q, e, -⟩ := id hel1; exact ⟨a, _, q, e⟩
        have x0 : w.cell? ⟨bx, offx + k * 3, none⟩ = some (.slice au nu qu) := hcells (k * 3) _ f0
        have x1 : w.cell? ⟨bx, offx + k * 3 + 1, none⟩ = some (.int .i64 A) := hcells (k * 3 + 1) _ f1
        have x2 : w.cell? ⟨bx, offx + k * 3 + 2, none⟩ = some (.int .i64 V) := hcells (k * 3 + 2) _ f2
        have HE := hide hE
        have hTab : tabB (R, H', F) := by have := runT_tab (b.take k) (unhide HT); rw [unhide HRun] at this; exact this
        have HOne := hide (l6one (w := wr.drew) ra rl rq H' F A V ((unhide HRis).below (Below.refl _ _).drew) hTab (hel1.below hbel.drew) hge.1 hge.2)
        have HOneG := hide (fun X (hx : Below wr.drew.heap.size wr.drew X) => l6one (w := X) ra rl rq H' F A V ((unhide HRis).below ((Below.refl _ _).drew.trans hx)) hTab (hel1.below (hbel.drew.trans (hx.mono hbel.drew.size))) hge.1 hge.2)
        have b6 : wr.drew.ownsRow w.heap.size 30 3 (.slice (some ⟨w.heap.size + 1 + 1, 0, none⟩) 1 1) 1 [.slice ra rl rq, .int .i64 H', .int .i64 F] := World.ownsRow.drew o6
        have bd : Below wr.heap.size wr wr.drew := (Below.refl _ _).drew
        have HS := hide (fun (X : World) (hx : Below wr.drew.heap.size wr.drew X) => show (fun X => X.cell? ⟨w.heap.size + 1 + 1, 0, none⟩ = some (.slice ra rl rq) ∧ X.cell? ⟨w.heap.size + 1 + 1, 1, none⟩ = some (.int .i64 H') ∧ X.cell? ⟨w.heap.size + 1 + 1, 2, none⟩ = some (.int .i64 F) ∧ X.cell? ⟨bx, offx + k * 3, none⟩ = some (.slice au nu qu) ∧ X.cell? ⟨bx, offx + k * 3 + 1, none⟩ = some (.int .i64 A) ∧ X.cell? ⟨bx, offx + k * 3 + 2, none⟩ = some (.int .i64 V)) X from
          have hy := own_below b6 hx
          have hz := hbel.drew.trans (hx.mono hbel.drew.size)
          ⟨by rw [hy.cellAt 0 (by omega)]; rfl, by rw [hy.cellAt 1 (by omega)]; rfl, by rw [hy.cellAt 2 (by omega)]; rfl, (hz.cell (p := ⟨bx, _, none⟩) hbx).trans x0, (hz.cell (p := ⟨bx, _, none⟩) hbx).trans x1, (hz.cell (p := ⟨bx, _, none⟩) hbx).trans x2⟩)
        have hs0 := unhide HS wr.drew (Below.refl _ _)
        have HNx := hide (runT_next hkz (unhide HRun))
        rw [← hE] at HNx
        clear f0 f1 f2 hel1 hge ecat hE hC x0 x1 x2 hcells b6
        by_cases hone : (oneE (R, H', F) (ls, A, V)).2 = 0
        · have HOne0 := hide hone
          clear hone
          obtain ⟨wA, hwA⟩ : ∃ w', wr.drew.alloc (.cells #[.slice none 0 0, .int .i64 0, .int .i64 0] 30) = w' := ⟨_, rfl⟩
          have bA : Below wr.drew.heap.size wr.drew wA := by rw [← hwA]; exact (Below.refl _ _).alloc (Nat.le_refl _) _
          have zA : wA.heap.size = wr.heap.size + 1 := by rw [← hwA]; simp
          have PA : wA.ownsRow wr.heap.size 30 3 (.slice (some ⟨wr.heap.size, 0, none⟩) 1 1) 1 [.slice none 0 0, .int .i64 0, .int .i64 0] := by rw [← hwA]; exact own_new3 (w := wr.drew) (Nat.le_refl _) rfl
          have HOneA := hide (unhide HOneG wA bA)
          go_wp2_with fail
          refine Grl.start (S := fun X => X.cell? ⟨w.heap.size + 1 + 1, 0, none⟩ = some (.slice ra rl rq) ∧ X.cell? ⟨w.heap.size + 1 + 1, 1, none⟩ = some (.int .i64 H') ∧ X.cell? ⟨w.heap.size + 1 + 1, 2, none⟩ = some (.int .i64 F) ∧ X.cell? ⟨bx, offx + k * 3, none⟩ = some (.slice au nu qu) ∧ X.cell? ⟨bx, offx + k * 3 + 1, none⟩ = some (.int .i64 A) ∧ X.cell? ⟨bx, offx + k * 3 + 2, none⟩ = some (.int .i64 V)) (by kernel_rfl) (by exact hs0) (fun hHeld => ?_)
          refine Grl.yes 0 (v := ?_) rfl (by kernel_rfl) (by kernel_rfl) (by kernel_rfl) (fun _ _ _ h => h) (by kernel_rfl) ?_ (by assumption) ?_
          rotate_left
          · (intro w hSw; (try dsimp only at hSw); go_simp; try with_reducible rfl)
          simp only [Act.put, List.setIfInBounds_toArray, List.set_cons_zero, List.set_cons_succ]
          refine Grl.yes 1 (v := ?_) rfl (by kernel_rfl) (by kernel_rfl) (by kernel_rfl) (fun _ _ _ h => h) (by kernel_rfl) ?_ (by assumption) ?_
          rotate_left
          · (intro w hSw; (try dsimp only at hSw); go_simp; try with_reducible rfl)
          simp only [Act.put, List.setIfInBounds_toArray, List.set_cons_zero, List.set_cons_succ]
          refine Grl.yes 2 (v := ?_) rfl (by kernel_rfl) (by kernel_rfl) (by kernel_rfl) (fun _ _ _ h => h) (by kernel_rfl) ?_ (by assumption) ?_
          rotate_left
          · (intro w hSw; (try dsimp only at hSw); go_simp; try with_reducible rfl)
          simp only [Act.put, List.setIfInBounds_toArray, List.set_cons_zero, List.set_cons_succ]
          refine Grl.yes 3 (v := ?_) rfl (by kernel_rfl) (by kernel_rfl) (by kernel_rfl) (fun _ _ _ h => h) (by kernel_rfl) ?_ (by assumption) ?_
          rotate_left
          · (intro w hSw; (try dsimp only at hSw); go_simp; try with_reducible rfl)
          simp only [Act.put, List.setIfInBounds_toArray, List.set_cons_zero, List.set_cons_succ]
          refine Grl.yes 4 (v := ?_) rfl (by kernel_rfl) (by kernel_rfl) (by kernel_rfl) (fun _ _ _ h => h) (by kernel_rfl) ?_ (by assumption) ?_
          rotate_left
          · (intro w hSw; (try dsimp only at hSw); go_simp; try with_reducible rfl)
          simp only [Act.put, List.setIfInBounds_toArray, List.set_cons_zero, List.set_cons_succ]
          refine Grl.two 5 9 rfl rfl (by kernel_rfl) (fun K hK => ?_) (fun K hK => ?_)
          · go_simp
            go_wp2_with (refine (unhide HOne).mono ?_; rintro e w5 ⟨b5, ho⟩; obtain ⟨R2, H2, r2, ho2, rfl, hown⟩ := oned_fine ho (unhide HOne0); obtain ⟨ra2, rl2, rq2, rfl⟩ := hown.form; obtain ⟨w6, hw6⟩ : ∃ w', w5.alloc (.cells #[.slice none 0 0, .int .i64 0, .int .i64 0] 30) = w' := ⟨_, rfl⟩; have b56 : Below w5.heap.size w5 w6 := (by rw [← hw6]; exact (Below.refl _ _).alloc (Nat.le_refl _) _); have z56 : w6.heap.size = w5.heap.size + 1 := (by rw [← hw6]; simp); have z5 := b5.size; have P6 : w6.ownsRow w5.heap.size 30 3 (.slice (some ⟨w5.heap.size, 0, none⟩) 1 1) 1 [.slice none 0 0, .int .i64 0, .int .i64 0] := (by rw [← hw6]; exact own_new3 (Nat.le_refl _) rfl); have sd30 : w6.cell? ⟨w5.heap.size, 0, none⟩ = some (.slice none 0 0) := (by rw [P6.cellAt 0 (by omega)]; rfl); have sf30 := P6.frozenAt 0; have ss30 := (P6.stored 0 (.slice ra2 rl2 rq2)).1; obtain ⟨y30, hy30⟩ : ∃ w', w6.setCell ⟨w5.heap.size, 0, none⟩ (.slice ra2 rl2 rq2) = w' := ⟨_, rfl⟩; rw [hy30] at ss30; have so30 : y30.ownsRow w5.heap.size 30 3 (.slice (some ⟨w5.heap.size, 0, none⟩) 1 1) 1 [.slice ra2 rl2 rq2, .int .i64 0, .int .i64 0] := ss30; clear ss30; have sd31 : y30.cell? ⟨w5.heap.size, 1, none⟩ = some (.int .i64 0) := (by rw [so30.cellAt 1 (by omega)]; rfl); have sf31 := so30.frozenAt 1; have ss31 := (so30.stored 1 (.int .i64 H2)).1; obtain ⟨y31, hy31⟩ : ∃ w', y30.setCell ⟨w5.heap.size, 1, none⟩ (.int .i64 H2) = w' := ⟨_, rfl⟩; rw [hy31] at ss31; have so31 : y31.ownsRow w5.heap.size 30 3 (.slice (some ⟨w5.heap.size, 0, none⟩) 1 1) 1 [.slice ra2 rl2 rq2, .int .i64 H2, .int .i64 0] := ss31; clear ss31; have sd32 : y31.cell? ⟨w5.heap.size, 2, none⟩ = some (.int .i64 0) := (by rw [so31.cellAt 2 (by omega)]; rfl); have sf32 := so31.frozenAt 2; have ss32 := (so31.stored 2 (.int .i64 F)).1; obtain ⟨y32, hy32⟩ : ∃ w', y31.setCell ⟨w5.heap.size, 2, none⟩ (.int .i64 F) = w' := ⟨_, rfl⟩; rw [hy32] at ss32; have so32 : y32.ownsRow w5.heap.size 30 3 (.slice (some ⟨w5.heap.size, 0, none⟩) 1 1) 1 [.slice ra2 rl2 rq2, .int .i64 H2, .int .i64 F] := ss32; clear ss32; have on33 := OnlyAt.refl (w5.heap.size) w6; have on33 := on33.setCell 0 (.slice ra2 rl2 rq2); rw [hy30] at on33; have on33 := on33.setCell 1 (.int .i64 H2); rw [hy31] at on33; have on33 := on33.setCell 2 (.int .i64 F); rw [hy32] at on33; have b5y : Below wr.drew.heap.size wr.drew y32 := b5.trans ((b56.trans (on33.below (Nat.le_refl _))).mono z5); have b5z : Below wr.drew.heap.size wr.drew w6 := b5.trans (b56.mono z5))
            refine hK.out _ _ (by exact unhide HS _ b5) (fun hHeld => ?_)
            clear hK K
            refine Grl.yes 6 (v := ?_) rfl (by kernel_rfl) (by kernel_rfl) (by kernel_rfl) (fun _ _ _ h => h) (by kernel_rfl) ?_ (by assumption) ?_
            rotate_left
            · (intro w hSw; (try dsimp only at hSw); go_simp; try with_reducible rfl)
            simp only [Act.put, List.setIfInBounds_toArray, List.set_cons_zero, List.set_cons_succ]
            refine Grl.yes 7 (v := ?_) rfl (by kernel_rfl) (by kernel_rfl) (by kernel_rfl) (fun _ _ _ h => h) (by kernel_rfl) ?_ (by assumption) ?_
            rotate_left
            · (intro w hSw; (try dsimp only at hSw); go_simp; try with_reducible rfl)
            simp only [Act.put, List.setIfInBounds_toArray, List.set_cons_zero, List.set_cons_succ]
            refine Grl.yes 8 (v := ?_) rfl (by kernel_rfl) (by kernel_rfl) (by kernel_rfl) (fun _ _ _ h => h) (by kernel_rfl) ?_ (by assumption) ?_
            rotate_left
            · (intro w hSw; (try dsimp only at hSw); go_simp; try with_reducible rfl)
            simp only [Act.put, List.setIfInBounds_toArray, List.set_cons_zero, List.set_cons_succ]
            refine Grl.one 9 rfl (by kernel_rfl) (fun K hK => ?_)
            go_simp
            skip
            refine hK.out _ _ (by exact unhide HS _ b5z) (fun hHeld => ?_)
            clear hK K
            refine Grl.one 10 rfl (by kernel_rfl) (fun K hK => ?_)
            go_simp
            skip
            refine hK.out _ _ (by exact unhide HS _ b5y) (fun hHeld => ?_)
            clear hK K
            refine Grl.yes 11 (v := ?_) rfl (by kernel_rfl) (by kernel_rfl) (by kernel_rfl) (fun _ _ _ h => h) (by kernel_rfl) ?_ (by assumption) ?_
            rotate_left
            · (intro w hSw; (try dsimp only at hSw); go_simp; try with_reducible rfl)
            simp only [Act.put, List.setIfInBounds_toArray, List.set_cons_zero, List.set_cons_succ]
            refine wpAnyH_done (by kernel_rfl) ?_ _
            have o6y := own_below (World.ownsRow.drew o6) b5y
            have ozy := own_below (World.ownsRow.drew oz0) b5y
            have oty := own_below (World.ownsRow.drew ot) b5y
            have v0 : y32.cell? ⟨w5.heap.size, 0, none⟩ = some (.slice ra2 rl2 rq2) := by rw [so32.cellAt 0 (by omega)]; rfl
            have v1 : y32.cell? ⟨w5.heap.size, 1, none⟩ = some (.int .i64 H2) := by rw [so32.cellAt 1 (by omega)]; rfl
            have v2 : y32.cell? ⟨w5.heap.size, 2, none⟩ = some (.int .i64 F) := by rw [so32.cellAt 2 (by omega)]; rfl
            have hdz : wr.drew.heap.size = wr.heap.size := by simp
            have hys := on33.size
            have hz5 := b5.size
            have HOw := hide ((hown.below b56).zone (Zone.of_only on33 (Nat.le_refl _) (Nat.lt_succ_self _)) (.inl (Nat.le_refl _)))
            have cy := hbel.drew.trans (b5y.mono hbel.drew.size)
            have sd38 : y32.cell? ⟨w.heap.size + 1 + 1, 0, none⟩ = some (.slice ra rl rq) := by rw [o6y.cellAt 0 (by omega)]; rfl
            have sf38 := o6y.frozenAt 0
            have ss38 := (o6y.stored 0 (.slice ra2 rl2 rq2)).1
            obtain ⟨y38, hy38⟩ : ∃ w', y32.setCell ⟨w.heap.size + 1 + 1, 0, none⟩ (.slice ra2 rl2 rq2) = w' := ⟨_, rfl⟩
            rw [hy38] at ss38
            have so38 : y38.ownsRow w.heap.size 30 3 (.slice (some ⟨w.heap.size + 1 + 1, 0, none⟩) 1 1) 1 [.slice ra2 rl2 rq2, .int .i64 H', .int .i64 F] := ss38
            clear ss38
            have sd39 : y38.cell? ⟨w.heap.size + 1 + 1, 1, none⟩ = some (.int .i64 H') := by rw [so38.cellAt 1 (by omega)]; rfl
            have sf39 := so38.frozenAt 1
            have ss39 := (so38.stored 1 (.int .i64 H2)).1
            obtain ⟨y39, hy39⟩ : ∃ w', y38.setCell ⟨w.heap.size + 1 + 1, 1, none⟩ (.int .i64 H2) = w' := ⟨_, rfl⟩
            rw [hy39] at ss39
            have so39 : y39.ownsRow w.heap.size 30 3 (.slice (some ⟨w.heap.size + 1 + 1, 0, none⟩) 1 1) 1 [.slice ra2 rl2 rq2, .int .i64 H2, .int .i64 F] := ss39
            clear ss39
            have sd40 : y39.cell? ⟨w.heap.size + 1 + 1, 2, none⟩ = some (.int .i64 F) := by rw [so39.cellAt 2 (by omega)]; rfl
            have sf40 := so39.frozenAt 2
            have ss40 := (so39.stored 2 (.int .i64 F)).1
            obtain ⟨y40, hy40⟩ : ∃ w', y39.setCell ⟨w.heap.size + 1 + 1, 2, none⟩ (.int .i64 F) = w' := ⟨_, rfl⟩
            rw [hy40] at ss40
            have so40 : y40.ownsRow w.heap.size 30 3 (.slice (some ⟨w.heap.size + 1 + 1, 0, none⟩) 1 1) 1 [.slice ra2 rl2 rq2, .int .i64 H2, .int .i64 F] := ss40
            clear ss40
            have on41 := OnlyAt.refl (w.heap.size + 1 + 1) y32
            have on41 := on41.setCell 0 (.slice ra2 rl2 rq2)
            rw [hy38] at on41
            have on41 := on41.setCell 1 (.int .i64 H2)
            rw [hy39] at on41
            have on41 := on41.setCell 2 (.int .i64 F)
            rw [hy40] at on41
            have on42 := OnlyAt.refl (w.heap.size + 1 + 1) y32
            have on42 := on42.setCell 0 (.slice ra2 rl2 rq2)
            rw [hy38] at on42
            have v1_38 : y38.cell? ⟨w5.heap.size, 1, none⟩ = some (.int .i64 H2) := (World.cell?_of_block (a := ⟨w5.heap.size, 1, none⟩) (on42.block (w5.heap.size) (by omega))).trans v1
            have v2_38 : y38.cell? ⟨w5.heap.size, 2, none⟩ = some (.int .i64 F) := (World.cell?_of_block (a := ⟨w5.heap.size, 2, none⟩) (on42.block (w5.heap.size) (by omega))).trans v2
            clear on42
            have on43 := OnlyAt.refl (w.heap.size + 1 + 1) y32
            have on43 := on43.setCell 0 (.slice ra2 rl2 rq2)
            rw [hy38] at on43
            have on43 := on43.setCell 1 (.int .i64 H2)
            rw [hy39] at on43
            have v2_39 : y39.cell? ⟨w5.heap.size, 2, none⟩ = some (.int .i64 F) := (World.cell?_of_block (a := ⟨w5.heap.size, 2, none⟩) (on43.block (w5.heap.size) (by omega))).trans v2
            clear on43
            have hys6 := on41.size
            have HOw2 := hide ((unhide HOw).zone (Zone.of_only on41 (Nat.le_refl _) (Nat.lt_succ_self _)) (.inr (by omega)))
            have HRow2 := hide ((unhide HOw2).wide (lo' := w.heap.size + 1 + 1 + 1) (hi' := y40.heap.size) (by omega) (by omega) (Nat.le_refl _))
            have RZ2 := hide (on41.own ozy (fun k hk => by simp only [Value.ownBlock, Option.some.injEq] at hk; omega))
            have RT2 := hide (on41.own oty (fun k hk => by simp only [Value.ownBlock, Option.some.injEq] at hk; omega))
            have RB2 := hide (cy.trans (on41.below (show w.heap.size ≤ w.heap.size + 1 + 1 by omega)))
            have R62 := hide so40
            have hws2 : w.heap.size + 1 + 1 + 1 ≤ y40.heap.size := by omega
            have HRun2 := hide (show runT (L, H, F) (b.take (k + 1)) = ((R2, H2, F), 0) by rw [unhide HNx, ho2])
            clear on41 ozy oty o6y HOne HS HRun HRis HRow o6 oz0 ot hown HOw HOw2
            go_wp2_with fail
            go_roundw
            case rel => exact ⟨k + 1, R2, H2, ra2, rl2, rq2, by go_num, by omega, HRun2, unhide R62, unhide RZ2, unhide RT2, hide (unhide HRow2).is, fun _ => unhide HRow2, hws2, unhide RB2⟩
            case measure => first | (simp [intOf]; done) | (simp [intOf]; omega)
          · go_simp
            skip
            refine hK.out _ _ (by exact unhide HS _ bA) (fun hHeld => ?_)
            clear hK K
            refine Grl.one 5 rfl (by kernel_rfl) (fun K hK => ?_)
            go_simp
            go_wp2_with (refine (unhide HOneA).mono ?_; rintro e w5 ⟨b5, ho⟩; obtain ⟨R2, H2, r2, ho2, rfl, hown⟩ := oned_fine ho (unhide HOne0); obtain ⟨ra2, rl2, rq2, rfl⟩ := hown.form; have P5 := own_below PA b5; have b5z : Below wr.drew.heap.size wr.drew w5 := bA.trans (b5.mono bA.size); have sd34 : w5.cell? ⟨wr.heap.size, 0, none⟩ = some (.slice none 0 0) := (by rw [P5.cellAt 0 (by omega)]; rfl); have sf34 := P5.frozenAt 0; have ss34 := (P5.stored 0 (.slice ra2 rl2 rq2)).1; obtain ⟨y34, hy34⟩ : ∃ w', w5.setCell ⟨wr.heap.size, 0, none⟩ (.slice ra2 rl2 rq2) = w' := ⟨_, rfl⟩; rw [hy34] at ss34; have so34 : y34.ownsRow wr.heap.size 30 3 (.slice (some ⟨wr.heap.size, 0, none⟩) 1 1) 1 [.slice ra2 rl2 rq2, .int .i64 0, .int .i64 0] := ss34; clear ss34; have sd35 : y34.cell? ⟨wr.heap.size, 1, none⟩ = some (.int .i64 0) := (by rw [so34.cellAt 1 (by omega)]; rfl); have sf35 := so34.frozenAt 1; have ss35 := (so34.stored 1 (.int .i64 H2)).1; obtain ⟨y35, hy35⟩ : ∃ w', y34.setCell ⟨wr.heap.size, 1, none⟩ (.int .i64 H2) = w' := ⟨_, rfl⟩; rw [hy35] at ss35; have so35 : y35.ownsRow wr.heap.size 30 3 (.slice (some ⟨wr.heap.size, 0, none⟩) 1 1) 1 [.slice ra2 rl2 rq2, .int .i64 H2, .int .i64 0] := ss35; clear ss35; have sd36 : y35.cell? ⟨wr.heap.size, 2, none⟩ = some (.int .i64 0) := (by rw [so35.cellAt 2 (by omega)]; rfl); have sf36 := so35.frozenAt 2; have ss36 := (so35.stored 2 (.int .i64 F)).1; obtain ⟨y36, hy36⟩ : ∃ w', y35.setCell ⟨wr.heap.size, 2, none⟩ (.int .i64 F) = w' := ⟨_, rfl⟩; rw [hy36] at ss36; have so36 : y36.ownsRow wr.heap.size 30 3 (.slice (some ⟨wr.heap.size, 0, none⟩) 1 1) 1 [.slice ra2 rl2 rq2, .int .i64 H2, .int .i64 F] := ss36; clear ss36; have on37 := OnlyAt.refl (wr.heap.size) w5; have on37 := on37.setCell 0 (.slice ra2 rl2 rq2); rw [hy34] at on37; have on37 := on37.setCell 1 (.int .i64 H2); rw [hy35] at on37; have on37 := on37.setCell 2 (.int .i64 F); rw [hy36] at on37; have b5y : Below wr.drew.heap.size wr.drew y36 := b5z.trans (on37.below (show wr.drew.heap.size ≤ wr.heap.size from Nat.le_refl _)))
            refine hK.out _ _ (by exact unhide HS _ b5z) (fun hHeld => ?_)
            clear hK K
            refine Grl.yes 6 (v := ?_) rfl (by kernel_rfl) (by kernel_rfl) (by kernel_rfl) (fun _ _ _ h => h) (by kernel_rfl) ?_ (by assumption) ?_
            rotate_left
            · (intro w hSw; (try dsimp only at hSw); go_simp; try with_reducible rfl)
            simp only [Act.put, List.setIfInBounds_toArray, List.set_cons_zero, List.set_cons_succ]
            refine Grl.yes 7 (v := ?_) rfl (by kernel_rfl) (by kernel_rfl) (by kernel_rfl) (fun _ _ _ h => h) (by kernel_rfl) ?_ (by assumption) ?_
            rotate_left
            · (intro w hSw; (try dsimp only at hSw); go_simp; try with_reducible rfl)
            simp only [Act.put, List.setIfInBounds_toArray, List.set_cons_zero, List.set_cons_succ]
            refine Grl.yes 8 (v := ?_) rfl (by kernel_rfl) (by kernel_rfl) (by kernel_rfl) (fun _ _ _ h => h) (by kernel_rfl) ?_ (by assumption) ?_
            rotate_left
            · (intro w hSw; (try dsimp only at hSw); go_simp; try with_reducible rfl)
            simp only [Act.put, List.setIfInBounds_toArray, List.set_cons_zero, List.set_cons_succ]
            refine Grl.one 10 rfl (by kernel_rfl) (fun K hK => ?_)
            go_simp
            skip
            refine hK.out _ _ (by exact unhide HS _ b5y) (fun hHeld => ?_)
            clear hK K
            refine Grl.yes 11 (v := ?_) rfl (by kernel_rfl) (by kernel_rfl) (by kernel_rfl) (fun _ _ _ h => h) (by kernel_rfl) ?_ (by assumption) ?_
            rotate_left
            · (intro w hSw; (try dsimp only at hSw); go_simp; try with_reducible rfl)
            simp only [Act.put, List.setIfInBounds_toArray, List.set_cons_zero, List.set_cons_succ]
            refine wpAnyH_done (by kernel_rfl) ?_ _
            have o6y := own_below (World.ownsRow.drew o6) b5y
            have ozy := own_below (World.ownsRow.drew oz0) b5y
            have oty := own_below (World.ownsRow.drew ot) b5y
            have v0 : y36.cell? ⟨wr.heap.size, 0, none⟩ = some (.slice ra2 rl2 rq2) := by rw [so36.cellAt 0 (by omega)]; rfl
            have v1 : y36.cell? ⟨wr.heap.size, 1, none⟩ = some (.int .i64 H2) := by rw [so36.cellAt 1 (by omega)]; rfl
            have v2 : y36.cell? ⟨wr.heap.size, 2, none⟩ = some (.int .i64 F) := by rw [so36.cellAt 2 (by omega)]; rfl
            have hdz : wr.drew.heap.size = wr.heap.size := by simp
            have hys := on37.size
            have hz5 := b5.size
            have HOw := hide (hown.zone (Zone.of_only on37 (Nat.le_refl _) (Nat.lt_succ_self _)) (.inr (Nat.le_of_eq zA.symm)))
            have cy := hbel.drew.trans (b5y.mono hbel.drew.size)
            have sd44 : y36.cell? ⟨w.heap.size + 1 + 1, 0, none⟩ = some (.slice ra rl rq) := by rw [o6y.cellAt 0 (by omega)]; rfl
            have sf44 := o6y.frozenAt 0
            have ss44 := (o6y.stored 0 (.slice ra2 rl2 rq2)).1
            obtain ⟨y44, hy44⟩ : ∃ w', y36.setCell ⟨w.heap.size + 1 + 1, 0, none⟩ (.slice ra2 rl2 rq2) = w' := ⟨_, rfl⟩
            rw [hy44] at ss44
            have so44 : y44.ownsRow w.heap.size 30 3 (.slice (some ⟨w.heap.size + 1 + 1, 0, none⟩) 1 1) 1 [.slice ra2 rl2 rq2, .int .i64 H', .int .i64 F] := ss44
            clear ss44
            have sd45 : y44.cell? ⟨w.heap.size + 1 + 1, 1, none⟩ = some (.int .i64 H') := by rw [so44.cellAt 1 (by omega)]; rfl
            have sf45 := so44.frozenAt 1
            have ss45 := (so44.stored 1 (.int .i64 H2)).1
            obtain ⟨y45, hy45⟩ : ∃ w', y44.setCell ⟨w.heap.size + 1 + 1, 1, none⟩ (.int .i64 H2) = w' := ⟨_, rfl⟩
            rw [hy45] at ss45
            have so45 : y45.ownsRow w.heap.size 30 3 (.slice (some ⟨w.heap.size + 1 + 1, 0, none⟩) 1 1) 1 [.slice ra2 rl2 rq2, .int .i64 H2, .int .i64 F] := ss45
            clear ss45
            have sd46 : y45.cell? ⟨w.heap.size + 1 + 1, 2, none⟩ = some (.int .i64 F) := by rw [so45.cellAt 2 (by omega)]; rfl
            have sf46 := so45.frozenAt 2
            have ss46 := (so45.stored 2 (.int .i64 F)).1
            obtain ⟨y46, hy46⟩ : ∃ w', y45.setCell ⟨w.heap.size + 1 + 1, 2, none⟩ (.int .i64 F) = w' := ⟨_, rfl⟩
            rw [hy46] at ss46
            have so46 : y46.ownsRow w.heap.size 30 3 (.slice (some ⟨w.heap.size + 1 + 1, 0, none⟩) 1 1) 1 [.slice ra2 rl2 rq2, .int .i64 H2, .int .i64 F] := ss46
            clear ss46
            have on47 := OnlyAt.refl (w.heap.size + 1 + 1) y36
            have on47 := on47.setCell 0 (.slice ra2 rl2 rq2)
            rw [hy44] at on47
            have on47 := on47.setCell 1 (.int .i64 H2)
            rw [hy45] at on47
            have on47 := on47.setCell 2 (.int .i64 F)
            rw [hy46] at on47
            have on48 := OnlyAt.refl (w.heap.size + 1 + 1) y36
            have on48 := on48.setCell 0 (.slice ra2 rl2 rq2)
            rw [hy44] at on48
            have v1_44 : y44.cell? ⟨wr.heap.size, 1, none⟩ = some (.int .i64 H2) := (World.cell?_of_block (a := ⟨wr.heap.size, 1, none⟩) (on48.block (wr.heap.size) (by omega))).trans v1
            have v2_44 : y44.cell? ⟨wr.heap.size, 2, none⟩ = some (.int .i64 F) := (World.cell?_of_block (a := ⟨wr.heap.size, 2, none⟩) (on48.block (wr.heap.size) (by omega))).trans v2
            clear on48
            have on49 := OnlyAt.refl (w.heap.size + 1 + 1) y36
            have on49 := on49.setCell 0 (.slice ra2 rl2 rq2)
            rw [hy44] at on49
            have on49 := on49.setCell 1 (.int .i64 H2)
            rw [hy45] at on49
            have v2_45 : y45.cell? ⟨wr.heap.size, 2, none⟩ = some (.int .i64 F) := (World.cell?_of_block (a := ⟨wr.heap.size, 2, none⟩) (on49.block (wr.heap.size) (by omega))).trans v2
            clear on49
            have hys6 := on47.size
            have HOw2 := hide ((unhide HOw).zone (Zone.of_only on47 (Nat.le_refl _) (Nat.lt_succ_self _)) (.inr (by omega)))
            have HRow2 := hide ((unhide HOw2).wide (lo' := w.heap.size + 1 + 1 + 1) (hi' := y46.heap.size) (by omega) (by omega) (Nat.le_refl _))
            have RZ2 := hide (on47.own ozy (fun k hk => by simp only [Value.ownBlock, Option.some.injEq] at hk; omega))
            have RT2 := hide (on47.own oty (fun k hk => by simp only [Value.ownBlock, Option.some.injEq] at hk; omega))
            have RB2 := hide (cy.trans (on47.below (show w.heap.size ≤ w.heap.size + 1 + 1 by omega)))
            have R62 := hide so46
            have hws2 : w.heap.size + 1 + 1 + 1 ≤ y46.heap.size := by omega
            have HRun2 := hide (show runT (L, H, F) (b.take (k + 1)) = ((R2, H2, F), 0) by rw [unhide HNx, ho2])
            clear on47 ozy oty o6y HOne HS HRun HRis HRow o6 oz0 ot hown HOw HOw2
            go_wp2_with fail
            go_roundw
            case rel => exact ⟨k + 1, R2, H2, ra2, rl2, rq2, by go_num, by omega, HRun2, unhide R62, unhide RZ2, unhide RT2, hide (unhide HRow2).is, fun _ => unhide HRow2, hws2, unhide RB2⟩
            case measure => first | (simp [intOf]; done) | (simp [intOf]; omega)
        · have HOne0 := hide hone
          clear hone
          obtain ⟨wA, hwA⟩ : ∃ w', wr.drew.alloc (.cells #[.slice none 0 0, .int .i64 0, .int .i64 0] 30) = w' := ⟨_, rfl⟩
          have bA : Below wr.drew.heap.size wr.drew wA := by rw [← hwA]; exact (Below.refl _ _).alloc (Nat.le_refl _) _
          have zA : wA.heap.size = wr.heap.size + 1 := by rw [← hwA]; simp
          have PA : wA.ownsRow wr.heap.size 30 3 (.slice (some ⟨wr.heap.size, 0, none⟩) 1 1) 1 [.slice none 0 0, .int .i64 0, .int .i64 0] := by rw [← hwA]; exact own_new3 (w := wr.drew) (Nat.le_refl _) rfl
          have HOneA := hide (unhide HOneG wA bA)
          go_wp2_with fail
          refine Grl.start (S := fun X => X.cell? ⟨w.heap.size + 1 + 1, 0, none⟩ = some (.slice ra rl rq) ∧ X.cell? ⟨w.heap.size + 1 + 1, 1, none⟩ = some (.int .i64 H') ∧ X.cell? ⟨w.heap.size + 1 + 1, 2, none⟩ = some (.int .i64 F) ∧ X.cell? ⟨bx, offx + k * 3, none⟩ = some (.slice au nu qu) ∧ X.cell? ⟨bx, offx + k * 3 + 1, none⟩ = some (.int .i64 A) ∧ X.cell? ⟨bx, offx + k * 3 + 2, none⟩ = some (.int .i64 V)) (by kernel_rfl) (by exact hs0) (fun hHeld => ?_)
          refine Grl.yes 0 (v := ?_) rfl (by kernel_rfl) (by kernel_rfl) (by kernel_rfl) (fun _ _ _ h => h) (by kernel_rfl) ?_ (by assumption) ?_
          rotate_left
          · (intro w hSw; (try dsimp only at hSw); go_simp; try with_reducible rfl)
          simp only [Act.put, List.setIfInBounds_toArray, List.set_cons_zero, List.set_cons_succ]
          refine Grl.yes 1 (v := ?_) rfl (by kernel_rfl) (by kernel_rfl) (by kernel_rfl) (fun _ _ _ h => h) (by kernel_rfl) ?_ (by assumption) ?_
          rotate_left
          · (intro w hSw; (try dsimp only at hSw); go_simp; try with_reducible rfl)
          simp only [Act.put, List.setIfInBounds_toArray, List.set_cons_zero, List.set_cons_succ]
          refine Grl.yes 2 (v := ?_) rfl (by kernel_rfl) (by kernel_rfl) (by kernel_rfl) (fun _ _ _ h => h) (by kernel_rfl) ?_ (by assumption) ?_
          rotate_left
          · (intro w hSw; (try dsimp only at hSw); go_simp; try with_reducible rfl)
          simp only [Act.put, List.setIfInBounds_toArray, List.set_cons_zero, List.set_cons_succ]
          refine Grl.yes 3 (v := ?_) rfl (by kernel_rfl) (by kernel_rfl) (by kernel_rfl) (fun _ _ _ h => h) (by kernel_rfl) ?_ (by assumption) ?_
          rotate_left
          · (intro w hSw; (try dsimp only at hSw); go_simp; try with_reducible rfl)
          simp only [Act.put, List.setIfInBounds_toArray, List.set_cons_zero, List.set_cons_succ]
          refine Grl.yes 4 (v := ?_) rfl (by kernel_rfl) (by kernel_rfl) (by kernel_rfl) (fun _ _ _ h => h) (by kernel_rfl) ?_ (by assumption) ?_
          rotate_left
          · (intro w hSw; (try dsimp only at hSw); go_simp; try with_reducible rfl)
          simp only [Act.put, List.setIfInBounds_toArray, List.set_cons_zero, List.set_cons_succ]
          refine Grl.two 5 9 rfl rfl (by kernel_rfl) (fun K hK => ?_) (fun K hK => ?_)
          · go_simp
            go_wp2_with (refine (unhide HOne).mono ?_; rintro e w5 ⟨b5, ho⟩; obtain ⟨k2, hk2, ho2, rfl⟩ := oned_stop ho (unhide HOne0); obtain ⟨w6, hw6⟩ : ∃ w', w5.alloc (.cells #[.slice none 0 0, .int .i64 0, .int .i64 0] 30) = w' := ⟨_, rfl⟩; have b56 : Below w5.heap.size w5 w6 := (by rw [← hw6]; exact (Below.refl _ _).alloc (Nat.le_refl _) _); have z56 : w6.heap.size = w5.heap.size + 1 := (by rw [← hw6]; simp); have z5 := b5.size; have P6 : w6.ownsRow w5.heap.size 30 3 (.slice (some ⟨w5.heap.size, 0, none⟩) 1 1) 1 [.slice none 0 0, .int .i64 0, .int .i64 0] := (by rw [← hw6]; exact own_new3 (Nat.le_refl _) rfl); have sd50 : w6.cell? ⟨w5.heap.size, 0, none⟩ = some (.slice none 0 0) := (by rw [P6.cellAt 0 (by omega)]; rfl); have sf50 := P6.frozenAt 0; have ss50 := (P6.stored 0 (.slice ra rl rq)).1; obtain ⟨y50, hy50⟩ : ∃ w', w6.setCell ⟨w5.heap.size, 0, none⟩ (.slice ra rl rq) = w' := ⟨_, rfl⟩; rw [hy50] at ss50; have so50 : y50.ownsRow w5.heap.size 30 3 (.slice (some ⟨w5.heap.size, 0, none⟩) 1 1) 1 [.slice ra rl rq, .int .i64 0, .int .i64 0] := ss50; clear ss50; have sd51 : y50.cell? ⟨w5.heap.size, 1, none⟩ = some (.int .i64 0) := (by rw [so50.cellAt 1 (by omega)]; rfl); have sf51 := so50.frozenAt 1; have ss51 := (so50.stored 1 (.int .i64 H')).1; obtain ⟨y51, hy51⟩ : ∃ w', y50.setCell ⟨w5.heap.size, 1, none⟩ (.int .i64 H') = w' := ⟨_, rfl⟩; rw [hy51] at ss51; have so51 : y51.ownsRow w5.heap.size 30 3 (.slice (some ⟨w5.heap.size, 0, none⟩) 1 1) 1 [.slice ra rl rq, .int .i64 H', .int .i64 0] := ss51; clear ss51; have sd52 : y51.cell? ⟨w5.heap.size, 2, none⟩ = some (.int .i64 0) := (by rw [so51.cellAt 2 (by omega)]; rfl); have sf52 := so51.frozenAt 2; have ss52 := (so51.stored 2 (.int .i64 F)).1; obtain ⟨y52, hy52⟩ : ∃ w', y51.setCell ⟨w5.heap.size, 2, none⟩ (.int .i64 F) = w' := ⟨_, rfl⟩; rw [hy52] at ss52; have so52 : y52.ownsRow w5.heap.size 30 3 (.slice (some ⟨w5.heap.size, 0, none⟩) 1 1) 1 [.slice ra rl rq, .int .i64 H', .int .i64 F] := ss52; clear ss52; have on53 := OnlyAt.refl (w5.heap.size) w6; have on53 := on53.setCell 0 (.slice ra rl rq); rw [hy50] at on53; have on53 := on53.setCell 1 (.int .i64 H'); rw [hy51] at on53; have on53 := on53.setCell 2 (.int .i64 F); rw [hy52] at on53; have b5y : Below wr.drew.heap.size wr.drew y52 := b5.trans ((b56.trans (on53.below (Nat.le_refl _))).mono z5); have b5z : Below wr.drew.heap.size wr.drew w6 := b5.trans (b56.mono z5))
            refine hK.out _ _ (by exact unhide HS _ b5) (fun hHeld => ?_)
            clear hK K
            refine Grl.yes 6 (v := ?_) rfl (by kernel_rfl) (by kernel_rfl) (by kernel_rfl) (fun _ _ _ h => h) (by kernel_rfl) ?_ (by assumption) ?_
            rotate_left
            · (intro w hSw; (try dsimp only at hSw); go_simp; try with_reducible rfl)
            simp only [Act.put, List.setIfInBounds_toArray, List.set_cons_zero, List.set_cons_succ]
            refine Grl.yes 7 (v := ?_) rfl (by kernel_rfl) (by kernel_rfl) (by kernel_rfl) (fun _ _ _ h => h) (by kernel_rfl) ?_ (by assumption) ?_
            rotate_left
            · (intro w hSw; (try dsimp only at hSw); go_simp; try with_reducible rfl)
            simp only [Act.put, List.setIfInBounds_toArray, List.set_cons_zero, List.set_cons_succ]
            refine Grl.yes 8 (v := ?_) rfl (by kernel_rfl) (by kernel_rfl) (by kernel_rfl) (fun _ _ _ h => h) (by kernel_rfl) ?_ (by assumption) ?_
            rotate_left
            · (intro w hSw; (try dsimp only at hSw); go_simp; try with_reducible rfl)
            simp only [Act.put, List.setIfInBounds_toArray, List.set_cons_zero, List.set_cons_succ]
            refine Grl.one 9 rfl (by kernel_rfl) (fun K hK => ?_)
            go_simp
            skip
            refine hK.out _ _ (by exact unhide HS _ b5z) (fun hHeld => ?_)
            clear hK K
            refine Grl.one 10 rfl (by kernel_rfl) (fun K hK => ?_)
            go_simp
            skip
            refine hK.out _ _ (by exact unhide HS _ b5y) (fun hHeld => ?_)
            clear hK K
            refine Grl.yes 11 (v := ?_) rfl (by kernel_rfl) (by kernel_rfl) (by kernel_rfl) (fun _ _ _ h => h) (by kernel_rfl) ?_ (by assumption) ?_
            rotate_left
            · (intro w hSw; (try dsimp only at hSw); go_simp; try with_reducible rfl)
            simp only [Act.put, List.setIfInBounds_toArray, List.set_cons_zero, List.set_cons_succ]
            refine wpAnyH_done (by kernel_rfl) ?_ _
            have ozy := own_below (World.ownsRow.drew oz0) b5y
            have oty := own_below (World.ownsRow.drew ot) b5y
            have cy := hbel.drew.trans (b5y.mono hbel.drew.size)
            have zy : w.heap.size + 1 + 1 ≤ y52.heap.size := by have := b5y.size; have : wr.drew.heap.size = wr.heap.size := (by simp); omega
            have u0 : y52.cell? ⟨w.heap.size, 0, none⟩ = some (.slice av nv cv) := by rw [oty.cellAt 0 (by omega)]; rfl
            have u1 : y52.cell? ⟨w.heap.size, 1, none⟩ = some (.int .i64 H) := by rw [oty.cellAt 1 (by omega)]; rfl
            have u2 : y52.cell? ⟨w.heap.size, 2, none⟩ = some (.int .i64 F) := by rw [oty.cellAt 2 (by omega)]; rfl
            have HCy := hide (unhide HCp y52 cy)
            have hkt : (k2 != 0) = true := by simp; exact hk2
            have hkf : (k2 == 0) = false := by simp; exact hk2
            have HAns := hide (unhide HStop k2 (by rw [runT_stop hkz (unhide HRun) (by rw [← unhide HE, ho2]; exact hk2), ← unhide HE, ho2]) hk2)
            clear on53 oty HOne HS HRun HRis HRow o6 oz0 ot HCp HStop HFine
            go_wp2_with fail
            refine (unhide HCy).mono ?_
            rintro e wz ⟨r, rfl, howz, bz⟩
            obtain ⟨ra, rl, rq, rfl⟩ := howz.form
            have HOz := hide howz
            have oz := own_below ozy bz
            have cz := cy.trans (bz.mono cy.size)
            have hloz := cy.size
            have hszz : w.heap.size + 1 + 1 ≤ y52.heap.size := by omega
            clear howz ozy bz
            have sd58 : wz.cell? ⟨w.heap.size + 1, 0, none⟩ = some (.slice none 0 0) := by rw [oz.cellAt 0 (by omega)]; rfl
            have sf58 := oz.frozenAt 0
            have ss58 := (oz.stored 0 (.slice ra rl rq)).1
            obtain ⟨y58, hy58⟩ : ∃ w', wz.setCell ⟨w.heap.size + 1, 0, none⟩ (.slice ra rl rq) = w' := ⟨_, rfl⟩
            rw [hy58] at ss58
            have so58 : y58.ownsRow w.heap.size 30 3 (.slice (some ⟨w.heap.size + 1, 0, none⟩) 1 1) 1 [.slice ra rl rq, .int .i64 0, .int .i64 0] := ss58
            clear ss58
            have sd59 : y58.cell? ⟨w.heap.size + 1, 1, none⟩ = some (.int .i64 0) := by rw [so58.cellAt 1 (by omega)]; rfl
            have sf59 := so58.frozenAt 1
            have ss59 := (so58.stored 1 (.int .i64 H)).1
            obtain ⟨y59, hy59⟩ : ∃ w', y58.setCell ⟨w.heap.size + 1, 1, none⟩ (.int .i64 H) = w' := ⟨_, rfl⟩
            rw [hy59] at ss59
            have so59 : y59.ownsRow w.heap.size 30 3 (.slice (some ⟨w.heap.size + 1, 0, none⟩) 1 1) 1 [.slice ra rl rq, .int .i64 H, .int .i64 0] := ss59
            clear ss59
            have sd60 : y59.cell? ⟨w.heap.size + 1, 2, none⟩ = some (.int .i64 0) := by rw [so59.cellAt 2 (by omega)]; rfl
            have sf60 := so59.frozenAt 2
            have ss60 := (so59.stored 2 (.int .i64 F)).1
            obtain ⟨y60, hy60⟩ : ∃ w', y59.setCell ⟨w.heap.size + 1, 2, none⟩ (.int .i64 F) = w' := ⟨_, rfl⟩
            rw [hy60] at ss60
            have so60 : y60.ownsRow w.heap.size 30 3 (.slice (some ⟨w.heap.size + 1, 0, none⟩) 1 1) 1 [.slice ra rl rq, .int .i64 H, .int .i64 F] := ss60
            clear ss60
            have on61 := OnlyAt.refl (w.heap.size + 1) wz
            have on61 := on61.setCell 0 (.slice ra rl rq)
            rw [hy58] at on61
            have on61 := on61.setCell 1 (.int .i64 H)
            rw [hy59] at on61
            have on61 := on61.setCell 2 (.int .i64 F)
            rw [hy60] at on61
            have z0 : y60.cell? ⟨w.heap.size + 1, 0, none⟩ = some (.slice ra rl rq) := by rw [so60.cellAt 0 (by omega)]; rfl
            have z1 : y60.cell? ⟨w.heap.size + 1, 1, none⟩ = some (.int .i64 H) := by rw [so60.cellAt 1 (by omega)]; rfl
            have z2 : y60.cell? ⟨w.heap.size + 1, 2, none⟩ = some (.int .i64 F) := by rw [so60.cellAt 2 (by omega)]; rfl
            have RB := hide (cz.trans (on61.below (show w.heap.size ≤ w.heap.size + 1 by omega)))
            have hys := on61.size
            have HOy := hide ((unhide HOz).zone (Zone.of_only on61 (Nat.le_refl _) (Nat.lt_succ_self _)) (.inr hszz))
            clear on61 so58 so59 so60
            go_wp2_with fail
            refine bodyPost_ret (v := .tuple #[.agg #[.slice ra rl rq, .int .i64 H, .int .i64 F], .int .i64 k2]) (by simp [results, Tryz.results41, go_sem, z0, z1, z2]) rfl ⟨_, by rw [unhide HAns], by rw [unhide HAns]; exact (unhide HOy).wide hloz (by omega) (Nat.le_refl _), unhide RB⟩
          · go_simp
            skip
            refine hK.out _ _ (by exact unhide HS _ bA) (fun hHeld => ?_)
            clear hK K
            refine Grl.one 5 rfl (by kernel_rfl) (fun K hK => ?_)
            go_simp
            go_wp2_with (refine (unhide HOneA).mono ?_; rintro e w5 ⟨b5, ho⟩; obtain ⟨k2, hk2, ho2, rfl⟩ := oned_stop ho (unhide HOne0); have P5 := own_below PA b5; have b5z : Below wr.drew.heap.size wr.drew w5 := bA.trans (b5.mono bA.size); have sd54 : w5.cell? ⟨wr.heap.size, 0, none⟩ = some (.slice none 0 0) := (by rw [P5.cellAt 0 (by omega)]; rfl); have sf54 := P5.frozenAt 0; have ss54 := (P5.stored 0 (.slice ra rl rq)).1; obtain ⟨y54, hy54⟩ : ∃ w', w5.setCell ⟨wr.heap.size, 0, none⟩ (.slice ra rl rq) = w' := ⟨_, rfl⟩; rw [hy54] at ss54; have so54 : y54.ownsRow wr.heap.size 30 3 (.slice (some ⟨wr.heap.size, 0, none⟩) 1 1) 1 [.slice ra rl rq, .int .i64 0, .int .i64 0] := ss54; clear ss54; have sd55 : y54.cell? ⟨wr.heap.size, 1, none⟩ = some (.int .i64 0) := (by rw [so54.cellAt 1 (by omega)]; rfl); have sf55 := so54.frozenAt 1; have ss55 := (so54.stored 1 (.int .i64 H')).1; obtain ⟨y55, hy55⟩ : ∃ w', y54.setCell ⟨wr.heap.size, 1, none⟩ (.int .i64 H') = w' := ⟨_, rfl⟩; rw [hy55] at ss55; have so55 : y55.ownsRow wr.heap.size 30 3 (.slice (some ⟨wr.heap.size, 0, none⟩) 1 1) 1 [.slice ra rl rq, .int .i64 H', .int .i64 0] := ss55; clear ss55; have sd56 : y55.cell? ⟨wr.heap.size, 2, none⟩ = some (.int .i64 0) := (by rw [so55.cellAt 2 (by omega)]; rfl); have sf56 := so55.frozenAt 2; have ss56 := (so55.stored 2 (.int .i64 F)).1; obtain ⟨y56, hy56⟩ : ∃ w', y55.setCell ⟨wr.heap.size, 2, none⟩ (.int .i64 F) = w' := ⟨_, rfl⟩; rw [hy56] at ss56; have so56 : y56.ownsRow wr.heap.size 30 3 (.slice (some ⟨wr.heap.size, 0, none⟩) 1 1) 1 [.slice ra rl rq, .int .i64 H', .int .i64 F] := ss56; clear ss56; have on57 := OnlyAt.refl (wr.heap.size) w5; have on57 := on57.setCell 0 (.slice ra rl rq); rw [hy54] at on57; have on57 := on57.setCell 1 (.int .i64 H'); rw [hy55] at on57; have on57 := on57.setCell 2 (.int .i64 F); rw [hy56] at on57; have b5y : Below wr.drew.heap.size wr.drew y56 := b5z.trans (on57.below (show wr.drew.heap.size ≤ wr.heap.size from Nat.le_refl _)))
            refine hK.out _ _ (by exact unhide HS _ b5z) (fun hHeld => ?_)
            clear hK K
            refine Grl.yes 6 (v := ?_) rfl (by kernel_rfl) (by kernel_rfl) (by kernel_rfl) (fun _ _ _ h => h) (by kernel_rfl) ?_ (by assumption) ?_
            rotate_left
            · (intro w hSw; (try dsimp only at hSw); go_simp; try with_reducible rfl)
            simp only [Act.put, List.setIfInBounds_toArray, List.set_cons_zero, List.set_cons_succ]
            refine Grl.yes 7 (v := ?_) rfl (by kernel_rfl) (by kernel_rfl) (by kernel_rfl) (fun _ _ _ h => h) (by kernel_rfl) ?_ (by assumption) ?_
            rotate_left
            · (intro w hSw; (try dsimp only at hSw); go_simp; try with_reducible rfl)
            simp only [Act.put, List.setIfInBounds_toArray, List.set_cons_zero, List.set_cons_succ]
            refine Grl.yes 8 (v := ?_) rfl (by kernel_rfl) (by kernel_rfl) (by kernel_rfl) (fun _ _ _ h => h) (by kernel_rfl) ?_ (by assumption) ?_
            rotate_left
            · (intro w hSw; (try dsimp only at hSw); go_simp; try with_reducible rfl)
            simp only [Act.put, List.setIfInBounds_toArray, List.set_cons_zero, List.set_cons_succ]
            refine Grl.one 10 rfl (by kernel_rfl) (fun K hK => ?_)
            go_simp
            skip
            refine hK.out _ _ (by exact unhide HS _ b5y) (fun hHeld => ?_)
            clear hK K
            refine Grl.yes 11 (v := ?_) rfl (by kernel_rfl) (by kernel_rfl) (by kernel_rfl) (fun _ _ _ h => h) (by kernel_rfl) ?_ (by assumption) ?_
            rotate_left
            · (intro w hSw; (try dsimp only at hSw); go_simp; try with_reducible rfl)
            simp only [Act.put, List.setIfInBounds_toArray, List.set_cons_zero, List.set_cons_succ]
            refine wpAnyH_done (by kernel_rfl) ?_ _
            have ozy := own_below (World.ownsRow.drew oz0) b5y
            have oty := own_below (World.ownsRow.drew ot) b5y
            have cy := hbel.drew.trans (b5y.mono hbel.drew.size)
            have zy : w.heap.size + 1 + 1 ≤ y56.heap.size := by have := b5y.size; have : wr.drew.heap.size = wr.heap.size := (by simp); omega
            have u0 : y56.cell? ⟨w.heap.size, 0, none⟩ = some (.slice av nv cv) := by rw [oty.cellAt 0 (by omega)]; rfl
            have u1 : y56.cell? ⟨w.heap.size, 1, none⟩ = some (.int .i64 H) := by rw [oty.cellAt 1 (by omega)]; rfl
            have u2 : y56.cell? ⟨w.heap.size, 2, none⟩ = some (.int .i64 F) := by rw [oty.cellAt 2 (by omega)]; rfl
            have HCy := hide (unhide HCp y56 cy)
            have hkt : (k2 != 0) = true := by simp; exact hk2
            have hkf : (k2 == 0) = false := by simp; exact hk2
            have HAns := hide (unhide HStop k2 (by rw [runT_stop hkz (unhide HRun) (by rw [← unhide HE, ho2]; exact hk2), ← unhide HE, ho2]) hk2)
            clear on57 oty HOne HS HRun HRis HRow o6 oz0 ot HCp HStop HFine
            go_wp2_with fail
            refine (unhide HCy).mono ?_
            rintro e wz ⟨r, rfl, howz, bz⟩
            obtain ⟨ra, rl, rq, rfl⟩ := howz.form
            have HOz := hide howz
            have oz := own_below ozy bz
            have cz := cy.trans (bz.mono cy.size)
            have hloz := cy.size
            have hszz : w.heap.size + 1 + 1 ≤ y56.heap.size := by omega
            clear howz ozy bz
            have sd62 : wz.cell? ⟨w.heap.size + 1, 0, none⟩ = some (.slice none 0 0) := by rw [oz.cellAt 0 (by omega)]; rfl
            have sf62 := oz.frozenAt 0
            have ss62 := (oz.stored 0 (.slice ra rl rq)).1
            obtain ⟨y62, hy62⟩ : ∃ w', wz.setCell ⟨w.heap.size + 1, 0, none⟩ (.slice ra rl rq) = w' := ⟨_, rfl⟩
            rw [hy62] at ss62
            have so62 : y62.ownsRow w.heap.size 30 3 (.slice (some ⟨w.heap.size + 1, 0, none⟩) 1 1) 1 [.slice ra rl rq, .int .i64 0, .int .i64 0] := ss62
            clear ss62
            have sd63 : y62.cell? ⟨w.heap.size + 1, 1, none⟩ = some (.int .i64 0) := by rw [so62.cellAt 1 (by omega)]; rfl
            have sf63 := so62.frozenAt 1
            have ss63 := (so62.stored 1 (.int .i64 H)).1
            obtain ⟨y63, hy63⟩ : ∃ w', y62.setCell ⟨w.heap.size + 1, 1, none⟩ (.int .i64 H) = w' := ⟨_, rfl⟩
            rw [hy63] at ss63
            have so63 : y63.ownsRow w.heap.size 30 3 (.slice (some ⟨w.heap.size + 1, 0, none⟩) 1 1) 1 [.slice ra rl rq, .int .i64 H, .int .i64 0] := ss63
            clear ss63
            have sd64 : y63.cell? ⟨w.heap.size + 1, 2, none⟩ = some (.int .i64 0) := by rw [so63.cellAt 2 (by omega)]; rfl
            have sf64 := so63.frozenAt 2
            have ss64 := (so63.stored 2 (.int .i64 F)).1
            obtain ⟨y64, hy64⟩ : ∃ w', y63.setCell ⟨w.heap.size + 1, 2, none⟩ (.int .i64 F) = w' := ⟨_, rfl⟩
            rw [hy64] at ss64
            have so64 : y64.ownsRow w.heap.size 30 3 (.slice (some ⟨w.heap.size + 1, 0, none⟩) 1 1) 1 [.slice ra rl rq, .int .i64 H, .int .i64 F] := ss64
            clear ss64
            have on65 := OnlyAt.refl (w.heap.size + 1) wz
            have on65 := on65.setCell 0 (.slice ra rl rq)
            rw [hy62] at on65
            have on65 := on65.setCell 1 (.int .i64 H)
            rw [hy63] at on65
            have on65 := on65.setCell 2 (.int .i64 F)
            rw [hy64] at on65
            have z0 : y64.cell? ⟨w.heap.size + 1, 0, none⟩ = some (.slice ra rl rq) := by rw [so64.cellAt 0 (by omega)]; rfl
            have z1 : y64.cell? ⟨w.heap.size + 1, 1, none⟩ = some (.int .i64 H) := by rw [so64.cellAt 1 (by omega)]; rfl
            have z2 : y64.cell? ⟨w.heap.size + 1, 2, none⟩ = some (.int .i64 F) := by rw [so64.cellAt 2 (by omega)]; rfl
            have RB := hide (cz.trans (on65.below (show w.heap.size ≤ w.heap.size + 1 by omega)))
            have hys := on65.size
            have HOy := hide ((unhide HOz).zone (Zone.of_only on65 (Nat.le_refl _) (Nat.lt_succ_self _)) (.inr hszz))
            clear on65 so62 so63 so64
            go_wp2_with fail
            refine bodyPost_ret (v := .tuple #[.agg #[.slice ra rl rq, .int .i64 H, .int .i64 F], .int .i64 k2]) (by simp [results, Tryz.results41, go_sem, z0, z1, z2]) rfl ⟨_, by rw [unhide HAns], by rw [unhide HAns]; exact (unhide HOy).wide hloz (by omega) (Nat.le_refl _), unhide RB⟩
      · have hkb : b.take k = b := List.take_of_length_le (by rw [← unhide HN]; omega)
        have hkp : 0 < k := by omega
        have HR2 := hide (show runT (L, H, F) b = ((R, H', F), 0) by have := unhide HRun; rwa [hkb] at this)
        have HAns := hide (unhide HFine _ (unhide HR2))
        have HOw := hide (unhide HRow hkp)
        have x0 : wr.cell? ⟨w.heap.size + 1 + 1, 0, none⟩ = some (.slice ra rl rq) := by rw [o6.cellAt 0 (by omega)]; rfl
        have x1 : wr.cell? ⟨w.heap.size + 1 + 1, 1, none⟩ = some (.int .i64 H') := by rw [o6.cellAt 1 (by omega)]; rfl
        have x2 : wr.cell? ⟨w.heap.size + 1 + 1, 2, none⟩ = some (.int .i64 F) := by rw [o6.cellAt 2 (by omega)]; rfl
        clear hkb HR2 HRow HRis o6 ot
        have sd22 : wr.cell? ⟨w.heap.size + 1, 0, none⟩ = some (.slice none 0 0) := by rw [oz0.cellAt 0 (by omega)]; rfl
        have sf22 := oz0.frozenAt 0
        have ss22 := (oz0.stored 0 (.slice ra rl rq)).1
        obtain ⟨y22, hy22⟩ : ∃ w', wr.setCell ⟨w.heap.size + 1, 0, none⟩ (.slice ra rl rq) = w' := ⟨_, rfl⟩
        rw [hy22] at ss22
        have so22 : y22.ownsRow w.heap.size 30 3 (.slice (some ⟨w.heap.size + 1, 0, none⟩) 1 1) 1 [.slice ra rl rq, .int .i64 0, .int .i64 0] := ss22
        clear ss22
        have sd23 : y22.cell? ⟨w.heap.size + 1, 1, none⟩ = some (.int .i64 0) := by rw [so22.cellAt 1 (by omega)]; rfl
        have sf23 := so22.frozenAt 1
        have ss23 := (so22.stored 1 (.int .i64 H')).1
        obtain ⟨y23, hy23⟩ : ∃ w', y22.setCell ⟨w.heap.size + 1, 1, none⟩ (.int .i64 H') = w' := ⟨_, rfl⟩
        rw [hy23] at ss23
        have so23 : y23.ownsRow w.heap.size 30 3 (.slice (some ⟨w.heap.size + 1, 0, none⟩) 1 1) 1 [.slice ra rl rq, .int .i64 H', .int .i64 0] := ss23
        clear ss23
        have sd24 : y23.cell? ⟨w.heap.size + 1, 2, none⟩ = some (.int .i64 0) := by rw [so23.cellAt 2 (by omega)]; rfl
        have sf24 := so23.frozenAt 2
        have ss24 := (so23.stored 2 (.int .i64 F)).1
        obtain ⟨y24, hy24⟩ : ∃ w', y23.setCell ⟨w.heap.size + 1, 2, none⟩ (.int .i64 F) = w' := ⟨_, rfl⟩
        rw [hy24] at ss24
        have so24 : y24.ownsRow w.heap.size 30 3 (.slice (some ⟨w.heap.size + 1, 0, none⟩) 1 1) 1 [.slice ra rl rq, .int .i64 H', .int .i64 F] := ss24
        clear ss24
        have on25 := OnlyAt.refl (w.heap.size + 1) wr
        have on25 := on25.setCell 0 (.slice ra rl rq)
        rw [hy22] at on25
        have on25 := on25.setCell 1 (.int .i64 H')
        rw [hy23] at on25
        have on25 := on25.setCell 2 (.int .i64 F)
        rw [hy24] at on25
        have z0 : y24.cell? ⟨w.heap.size + 1, 0, none⟩ = some (.slice ra rl rq) := by rw [so24.cellAt 0 (by omega)]; rfl
        have z1 : y24.cell? ⟨w.heap.size + 1, 1, none⟩ = some (.int .i64 H') := by rw [so24.cellAt 1 (by omega)]; rfl
        have z2 : y24.cell? ⟨w.heap.size + 1, 2, none⟩ = some (.int .i64 F) := by rw [so24.cellAt 2 (by omega)]; rfl
        have RB := hide (hbel.trans (on25.below (show w.heap.size ≤ w.heap.size + 1 by omega)))
        have hys := on25.size
        have HOy := hide ((unhide HOw).zone (Zone.of_only on25 (Nat.le_refl _) (Nat.lt_succ_self _)) (.inr (by omega)))
        clear on25 so22 so23 so24
        go_wp2_with fail
        refine bodyPost_ret (v := .tuple #[.agg #[.slice ra rl rq, .int .i64 H', .int .i64 F], .int .i64 0]) (by simp [results, Tryz.results41, go_sem, z0, z1, z2]) rfl ⟨_, by rw [unhide HAns], by rw [unhide HAns]; exact (unhide HOy).wide (by omega) (by omega) (Nat.le_refl _), unhide RB⟩
  · have HIn := hide (Zig.in_any (n : Int) 1 6 W)
    rw [hin, decide_eq_false hl] at HIn
    have HAns := hide (addE_bad (t := (L, H, F)) hl)
    have HC2 := hide (unhide HCp W bW)
    clear HCp hin hl hcs hEl hg h hB b0 bW0 ht0 hlen hn
    go_enter Tryz.func41, Tryz.ntmps41
    go_wp2_with fail
    rw [← hW0, ← hW]
    clear hW0 hW
    refine (unhide HIn).mono ?_
    rintro e wi ⟨rfl, hwi⟩
    have hwi2 := hwi.symm
    clear hwi
    subst hwi2
    clear HIn RT
    go_wp2_with fail
    refine (unhide HC2).mono ?_
    rintro e wz ⟨r, rfl, howz, bz⟩
    obtain ⟨ra, rl, rq, rfl⟩ := howz.form
    have HOz := hide howz
    have oz := own_below RZ bz
    have cz := bW.trans (bz.mono bW.size)
    have hloz := bW.size
    have hszz : w.heap.size + 1 + 1 ≤ W.heap.size := by omega
    clear howz RZ bz
    have sd26 : wz.cell? ⟨w.heap.size + 1, 0, none⟩ = some (.slice none 0 0) := by rw [oz.cellAt 0 (by omega)]; rfl
    have sf26 := oz.frozenAt 0
    have ss26 := (oz.stored 0 (.slice ra rl rq)).1
    obtain ⟨y26, hy26⟩ : ∃ w', wz.setCell ⟨w.heap.size + 1, 0, none⟩ (.slice ra rl rq) = w' := ⟨_, rfl⟩
    rw [hy26] at ss26
    have so26 : y26.ownsRow w.heap.size 30 3 (.slice (some ⟨w.heap.size + 1, 0, none⟩) 1 1) 1 [.slice ra rl rq, .int .i64 0, .int .i64 0] := ss26
    clear ss26
    have sd27 : y26.cell? ⟨w.heap.size + 1, 1, none⟩ = some (.int .i64 0) := by rw [so26.cellAt 1 (by omega)]; rfl
    have sf27 := so26.frozenAt 1
    have ss27 := (so26.stored 1 (.int .i64 H)).1
    obtain ⟨y27, hy27⟩ : ∃ w', y26.setCell ⟨w.heap.size + 1, 1, none⟩ (.int .i64 H) = w' := ⟨_, rfl⟩
    rw [hy27] at ss27
    have so27 : y27.ownsRow w.heap.size 30 3 (.slice (some ⟨w.heap.size + 1, 0, none⟩) 1 1) 1 [.slice ra rl rq, .int .i64 H, .int .i64 0] := ss27
    clear ss27
    have sd28 : y27.cell? ⟨w.heap.size + 1, 2, none⟩ = some (.int .i64 0) := by rw [so27.cellAt 2 (by omega)]; rfl
    have sf28 := so27.frozenAt 2
    have ss28 := (so27.stored 2 (.int .i64 F)).1
    obtain ⟨y28, hy28⟩ : ∃ w', y27.setCell ⟨w.heap.size + 1, 2, none⟩ (.int .i64 F) = w' := ⟨_, rfl⟩
    rw [hy28] at ss28
    have so28 : y28.ownsRow w.heap.size 30 3 (.slice (some ⟨w.heap.size + 1, 0, none⟩) 1 1) 1 [.slice ra rl rq, .int .i64 H, .int .i64 F] := ss28
    clear ss28
    have on29 := OnlyAt.refl (w.heap.size + 1) wz
    have on29 := on29.setCell 0 (.slice ra rl rq)
    rw [hy26] at on29
    have on29 := on29.setCell 1 (.int .i64 H)
    rw [hy27] at on29
    have on29 := on29.setCell 2 (.int .i64 F)
    rw [hy28] at on29
    have z0 : y28.cell? ⟨w.heap.size + 1, 0, none⟩ = some (.slice ra rl rq) := by rw [so28.cellAt 0 (by omega)]; rfl
    have z1 : y28.cell? ⟨w.heap.size + 1, 1, none⟩ = some (.int .i64 H) := by rw [so28.cellAt 1 (by omega)]; rfl
    have z2 : y28.cell? ⟨w.heap.size + 1, 2, none⟩ = some (.int .i64 F) := by rw [so28.cellAt 2 (by omega)]; rfl
    have RB := hide (cz.trans (on29.below (show w.heap.size ≤ w.heap.size + 1 by omega)))
    have hys := on29.size
    have HOy := hide ((unhide HOz).zone (Zone.of_only on29 (Nat.le_refl _) (Nat.lt_succ_self _)) (.inr hszz))
    clear on29 so26 so27 so28
    go_wp2_with fail
    refine bodyPost_ret (v := .tuple #[.agg #[.slice ra rl rq, .int .i64 H, .int .i64 F], .int .i64 1]) (by simp [results, Tryz.results41, go_sem, z0, z1, z2]) rfl ⟨_, by rw [unhide HAns], by rw [unhide HAns]; exact (unhide HOy).wide hloz (by omega) (Nat.le_refl _), unhide RB⟩
end Go.Proofs.YtlboekimnhgfdaaGreat.Tab

/- Entries are drawn: l13Batch. -/
namespace Go.Proofs.YtlboekimnhgfdaaGreat.Draw
open Go.RowKit Rw
set_option linter.unusedVariables false
attribute [local go_sem ↓] Go.wp_at_zero Go.wp_at_succ
def entG (x : Ent.E) : Prop := x.1.length ≤ 3 ∧ Lab.ok x.1 = true
theorem ent_snoc {L : List Ent.E} {x : Ent.E} (h : ∀ y ∈ L, entG y) (hx : entG x) : ∀ y ∈ L ++ [x], entG y := by
  intro y hy
  rw [List.mem_append, List.mem_singleton] at hy
  rcases hy with hy | rfl
  · exact h y hy
  · exact hx
theorem ent_okay {L : List Ent.E} (h : ∀ y ∈ L, entG y) : Tab.Okay L := fun e he => by
  have hg := h e he
  have hs := Row.lab_good hg.2
  exact ⟨fun x hx => by have := hs.2 x hx; exact ⟨by unfold maxLen; omega, by unfold maxLen; omega⟩, by have := hg.1; unfold maxLen; omega⟩
/-- entries, all of them rows of the call's own, from a block on -/
def EntOwn (base : Nat) (w : World) (v : Value) (L : List Ent.E) : Prop := ∃ cs : List Ent.C, cs.length = L.length ∧ w.ownsRow base 62 3 v L.length (flatOf Ent.cl cs) ∧ ∀ i, i < L.length → w.ownsRow base 64 2 (Ent.cat cs i).1 (Ent.at' L i).1.length (Lab.flat (Ent.at' L i).1) ∧ (Ent.cat cs i).2.1 = .int .i64 (Ent.at' L i).2.1 ∧ (Ent.cat cs i).2.2 = .int .i64 (Ent.at' L i).2.2
theorem EntOwn.is {base : Nat} {w : World} {v : Value} {L : List Ent.E} (h : EntOwn base w v L) : Ent.Is w v L := by
  obtain ⟨cs, h1, h2, h3⟩ := h
  exact ⟨cs, h1, lies_of_own h2, fun i hi => ⟨Lab.is_of_own (h3 i hi).1, (h3 i hi).2.1, (h3 i hi).2.2⟩⟩
theorem EntOwn.kept {base rb : Nat} {w w' : World} {v : Value} {L : List Ent.E} (h : EntOwn base w v L) (hg : w.grownBy w' (some rb)) (hr : rb < base) : EntOwn base w' v L := by
  obtain ⟨cs, h1, h2, h3⟩ := h
  exact ⟨cs, h1, own_kept h2 hg hr, fun i hi => ⟨own_kept (h3 i hi).1 hg hr, (h3 i hi).2⟩⟩
theorem ent_nil {w : World} {base : Nat} (hb : base ≤ w.heap.size) : EntOwn base (w.alloc (.cells #[] 62)) (.slice (some ⟨w.heap.size, 0, none⟩) 0 0) [] := ⟨[], rfl, own_empty hb, fun i h => by cases h⟩
theorem ent_app {base : Nat} {w1 w2 w9 : World} {ov vn v : Value} {L : List Ent.E} {x : Ent.E} {n : Nat} {xs : List Value} {cs : List Ent.C} (hcs : cs.length = L.length) (ho : w1.ownsRow base 62 3 ov L.length (flatOf Ent.cl cs))
    (hi : ∀ i, i < L.length → w1.ownsRow base 64 2 (Ent.cat cs i).1 (Ent.at' L i).1.length (Lab.flat (Ent.at' L i).1) ∧ (Ent.cat cs i).2.1 = .int .i64 (Ent.at' L i).2.1 ∧ (Ent.cat cs i).2.2 = .int .i64 (Ent.at' L i).2.2) (hx : w1.ownsRow base 64 2 v x.1.length (Lab.flat x.1)) (hb : Below w1.heap.size w1 w2)
    (hn : n = L.length + 1) (hxs : xs = flatOf Ent.cl cs ++ [v, .int .i64 x.2.1, .int .i64 x.2.2]) (on : w9.ownsRow base 62 3 vn n xs) (gn : w2.grownBy w9 ov.ownBlock) : EntOwn base w9 vn (L ++ [x]) := by
  subst hn hxs
  have key : ∀ {u : Value} {m : Nat} {ys : List Value}, w1.ownsRow base 64 2 u m ys → w9.ownsRow base 64 2 u m ys := fun h => own_grown (own_below h hb) gn (fun k hk e => own_ne_type h ho (by decide) k hk e)
  refine ⟨cs ++ [(v, .int .i64 x.2.1, .int .i64 x.2.2)], by simp [hcs], ?_, fun i hi' => ?_⟩
  · rw [List.length_append, flatOf_append, flatOf_one]; exact on
  · rw [List.length_append] at hi'
    simp only [List.length_cons, List.length_nil] at hi'
    by_cases hl : i < L.length
    · rw [Ent.cat_lt _ _ _ (by omega), show Ent.at' (L ++ [x]) i = Ent.at' L i by simp [Ent.at', List.getD, List.getElem?_append_left hl]]
      exact ⟨key (hi i hl).1, (hi i hl).2⟩
    · obtain rfl : i = L.length := by omega
      rw [show Ent.cat (cs ++ [(v, .int .i64 x.2.1, .int .i64 x.2.2)]) L.length = (v, .int .i64 x.2.1, .int .i64 x.2.2) by rw [← hcs]; exact Ent.cat_last cs _, show Ent.at' (L ++ [x]) L.length = x by simp [Ent.at', List.getD]]
      exact ⟨key hx, rfl, rfl⟩
set_option maxRecDepth 100000 in
set_option maxHeartbeats 8000000 in
theorem batch_any (rb p : Nat) (now : Int) (w : World) (h : Rd w rb p) (hp : p ≤ 600000) (h0 : 0 ≤ now) (h1 : now ≤ 20000) :
    Calls Tryz.prog 112 #[.pointer (some ⟨rb, 0, none⟩), .int .i64 now] w fun e w' => ∃ (zs : List Ent.E) (v : Value), e = .returned v ∧ (∀ x ∈ zs, entG x) ∧ EntOwn w.heap.size w' v zs ∧ (∃ p', p' ≤ p + 100 ∧ Rd w' rb p') ∧ w.grownBy w' (some rb) := by
  obtain ⟨i0, hi, hz0, hz1, hz2⟩ := info_parts Ent.info_e
  have hrl := h.lt
  have hmx : 1 ≤ maxLen := by unfold maxLen; omega
  have HR := hide h
  clear h
  go_enter Tryz.func112, Tryz.ntmps112
  go_wp2_with fail
  refine (pick_any rb p _ _ ((unhide HR).below ((Below.refl _ _).alloc (Nat.le_refl _) _)) (by omega) (by omega)).mono ?_
  rintro e w1 ⟨n, rfl, n0, n1, -, r1, g1⟩
  have n2 : n < 3 := n1 (by omega)
  have o1 := hide ((ent_nil (w := w) (base := w.heap.size) (Nat.le_refl _)).kept g1 hrl)
  have q1 : w.grownBy w1 (some rb) := grown_trans (grown_below ((Below.refl _ _).alloc (Nat.le_refl _) _)) g1
  clear n1 HR g1
  obtain ⟨N, hN⟩ : ∃ N : Nat, 1 + n = (N : Int) := ⟨(1 + n).toNat, by omega⟩
  go_wp2_with fail
  go_loopw [5, 6] (fun ov kv wr => ∃ (k : Nat) (L : List Ent.E) (p' : Nat), kv = .int .i64 (k : Int) ∧ (∃ a l q, ov = .slice a l q) ∧ L.length + k ≤ 3 ∧ p' ≤ p + 1 + 20 * L.length ∧ Hid (∀ x ∈ L, entG x) ∧ Hid (EntOwn w.heap.size wr ov L) ∧ Rd wr rb p' ∧ w.grownBy wr (some rb)) (fun _ kv _ => (intOf kv).toNat)
  case atStart => exact ⟨N, [], p + 1, rfl, ⟨_, _, _, rfl⟩, by simp; omega, by simp, hide (by simp), o1, r1, q1⟩
  case round =>
    clear o1 q1 r1 hN
    obtain ⟨k, L, p', rfl, ⟨oa, ol, oq, rfl⟩, hk, hp', HM, HO, hrd, hg⟩ := hrel
    have hsz := hg.size
    by_cases hk0 : 0 < k
    · have hk1 : (0 : Int) < (k : Int) := by omega
      have hone := one_new rb p' [0, 1, 10, 37, -20, -150, 60, 0] _ hrd (by omega) (by simp) (by simp)
      simp only [List.map_cons, List.map_nil, List.length_cons, List.length_nil, Nat.zero_add, Nat.reduceAdd] at hone
      have HOne := hide hone
      clear hone
      go_wp2_with fail
      refine (unhide HOne).mono ?_
      rintro e w2 ⟨d, rfl, hd, r2, g2⟩
      have hd' : -150 ≤ d ∧ d ≤ 60 := by simp only [List.mem_cons, List.not_mem_nil, or_false] at hd; omega
      have HO2 := hide ((unhide HO).kept g2 hrl)
      have q2 := grown_trans hg g2
      have hsz2 := q2.size
      obtain ⟨t, ht⟩ : ∃ t, now + d = t := ⟨_, rfl⟩
      have hw : wrap64 t = t := IntWalk.wrap64_in t ⟨by omega, by omega⟩
      clear hd HO hrd hg g2 HOne
      obtain ⟨T, hT⟩ : ∃ T : Int, T = if t < 0 then 0 else if 9999 < t then 9999 else t := ⟨_, rfl⟩
      clear hT
      by_cases h2 : t < 0
      · go_wp2_with fail
        refine (labels_ok rb (p' + 1) _ r2 (by omega)).mono ?_
        rintro e w3 ⟨x, v, rfl, hx0, hx3, hxo, ox, ⟨p3, hp3, r3⟩, g3⟩
        have HO3 := hide ((unhide HO2).kept g3 hrl)
        have q3 := grown_trans q2 g3
        have OX3 := hide (own_mono ox hsz2)
        have HX := hide (show entG (x, 0, 0) from ⟨hx3, hxo⟩)
        obtain ⟨va, vl, vq, rfl⟩ : ∃ a l q, v = .slice a l q := by obtain ⟨-, a, q, e, -⟩ := lies_of_own ox; exact ⟨a, _, q, e⟩
        clear ox hxo HO2 q2 r2 g3 hx0
        go_wp2_with fail
        refine (value_any rb p3 _ r3 (by omega)).mono ?_
        rintro e w4 ⟨V, rfl, V0, V1, r4, g4⟩
        have q4 := grown_trans q3 g4
        have z4 := q4.size
        obtain ⟨cs, hcs, oo, oi⟩ := (unhide HO3).kept g4 hrl
        have oo' := oo
        have OI := hide oi
        have OO := hide oo
        have OX := hide (own_kept (unhide OX3) g4 hrl)
        clear HO3 q3 r3 g4 oi oo OX3
        go_wp2_with (at_builtin; refine app_wp _ rfl _ _ _ rfl w.heap.size 62 i0 _ 3 40 Tryz.underlying34 hi hz0 hz1 hz2 rfl (by omega) _ L.length _ rfl (oo'.alloc _) _ 1 [.slice va vl vq, .int .i64 0, .int .i64 V] rfl (lies_new rfl rfl hmx) (by simp [Value.oneCell']) (by unfold maxLen; omega) (by omega) (by simp; omega) ?_; intro vn w9 on gn an)
        have ge := own_ge oo'
        have hb9 : Below w4.heap.size w4 (w4.alloc (.cells #[.slice va vl vq, .int .i64 0, .int .i64 V] 62)) := (Below.refl _ _).alloc (Nat.le_refl _) _
        have M9 := hide (ent_app (x := (x, 0, V)) hcs (unhide OO) (unhide OI) (unhide OX) hb9 rfl rfl on gn)
        have R := hide (show w.grownBy w9 (some rb) from grown_other (grown_trans q4 (grown_below hb9)) gn ge)
        have R1 := hide (show Rd w9 rb (p3 + 6) from (r4.below hb9).grown gn (fun k hk => by have := ge k hk; omega))
        obtain ⟨na, nl, nq, rfl⟩ : ∃ a l q, vn = .slice a l q := by obtain ⟨-, a, q, e, -⟩ := lies_of_own on; exact ⟨a, _, q, e⟩
        clear on gn ge q4 r4 an OO OI OX oo' hb9
        go_wp2_with fail
        go_roundw
        case rel => exact ⟨k - 1, L ++ [(x, 0, V)], p3 + 6, by go_num, ⟨_, _, _, rfl⟩, by simp; omega, by simp; omega, hide (ent_snoc (unhide HM) (unhide HX)), M9, unhide R1, unhide R⟩
        case measure => simp [intOf]; omega
      have n2 : decide (t < 0) = false := decide_eq_false h2
      by_cases h3 : 9999 < t
      · go_wp2_with fail
        refine (labels_ok rb (p' + 1) _ r2 (by omega)).mono ?_
        rintro e w3 ⟨x, v, rfl, hx0, hx3, hxo, ox, ⟨p3, hp3, r3⟩, g3⟩
        have HO3 := hide ((unhide HO2).kept g3 hrl)
        have q3 := grown_trans q2 g3
        have OX3 := hide (own_mono ox hsz2)
        have HX := hide (show entG (x, 9999, 0) from ⟨hx3, hxo⟩)
        obtain ⟨va, vl, vq, rfl⟩ : ∃ a l q, v = .slice a l q := by obtain ⟨-, a, q, e, -⟩ := lies_of_own ox; exact ⟨a, _, q, e⟩
        clear ox hxo HO2 q2 r2 g3 hx0
        go_wp2_with fail
        refine (value_any rb p3 _ r3 (by omega)).mono ?_
        rintro e w4 ⟨V, rfl, V0, V1, r4, g4⟩
        have q4 := grown_trans q3 g4
        have z4 := q4.size
        obtain ⟨cs, hcs, oo, oi⟩ := (unhide HO3).kept g4 hrl
        have oo' := oo
        have OI := hide oi
        have OO := hide oo
        have OX := hide (own_kept (unhide OX3) g4 hrl)
        clear HO3 q3 r3 g4 oi oo OX3
        go_wp2_with (at_builtin; refine app_wp _ rfl _ _ _ rfl w.heap.size 62 i0 _ 3 40 Tryz.underlying34 hi hz0 hz1 hz2 rfl (by omega) _ L.length _ rfl (oo'.alloc _) _ 1 [.slice va vl vq, .int .i64 9999, .int .i64 V] rfl (lies_new rfl rfl hmx) (by simp [Value.oneCell']) (by unfold maxLen; omega) (by omega) (by simp; omega) ?_; intro vn w9 on gn an)
        have ge := own_ge oo'
        have hb9 : Below w4.heap.size w4 (w4.alloc (.cells #[.slice va vl vq, .int .i64 9999, .int .i64 V] 62)) := (Below.refl _ _).alloc (Nat.le_refl _) _
        have M9 := hide (ent_app (x := (x, 9999, V)) hcs (unhide OO) (unhide OI) (unhide OX) hb9 rfl rfl on gn)
        have R := hide (show w.grownBy w9 (some rb) from grown_other (grown_trans q4 (grown_below hb9)) gn ge)
        have R1 := hide (show Rd w9 rb (p3 + 6) from (r4.below hb9).grown gn (fun k hk => by have := ge k hk; omega))
        obtain ⟨na, nl, nq, rfl⟩ : ∃ a l q, vn = .slice a l q := by obtain ⟨-, a, q, e, -⟩ := lies_of_own on; exact ⟨a, _, q, e⟩
        clear on gn ge q4 r4 an OO OI OX oo' hb9
        go_wp2_with fail
        go_roundw
        case rel => exact ⟨k - 1, L ++ [(x, 9999, V)], p3 + 6, by go_num, ⟨_, _, _, rfl⟩, by simp; omega, by simp; omega, hide (ent_snoc (unhide HM) (unhide HX)), M9, unhide R1, unhide R⟩
        case measure => simp [intOf]; omega
      have n3 : decide (9999 < t) = false := decide_eq_false h3
      go_wp2_with fail
      refine (labels_ok rb (p' + 1) _ r2 (by omega)).mono ?_
      rintro e w3 ⟨x, v, rfl, hx0, hx3, hxo, ox, ⟨p3, hp3, r3⟩, g3⟩
      have HO3 := hide ((unhide HO2).kept g3 hrl)
      have q3 := grown_trans q2 g3
      have OX3 := hide (own_mono ox hsz2)
      have HX := hide (show entG (x, t, 0) from ⟨hx3, hxo⟩)
      obtain ⟨va, vl, vq, rfl⟩ : ∃ a l q, v = .slice a l q := by obtain ⟨-, a, q, e, -⟩ := lies_of_own ox; exact ⟨a, _, q, e⟩
      clear ox hxo HO2 q2 r2 g3 hx0
      go_wp2_with fail
      refine (value_any rb p3 _ r3 (by omega)).mono ?_
      rintro e w4 ⟨V, rfl, V0, V1, r4, g4⟩
      have q4 := grown_trans q3 g4
      have z4 := q4.size
      obtain ⟨cs, hcs, oo, oi⟩ := (unhide HO3).kept g4 hrl
      have oo' := oo
      have OI := hide oi
      have OO := hide oo
      have OX := hide (own_kept (unhide OX3) g4 hrl)
      clear HO3 q3 r3 g4 oi oo OX3
      go_wp2_with (at_builtin; refine app_wp _ rfl _ _ _ rfl w.heap.size 62 i0 _ 3 40 Tryz.underlying34 hi hz0 hz1 hz2 rfl (by omega) _ L.length _ rfl (oo'.alloc _) _ 1 [.slice va vl vq, .int .i64 t, .int .i64 V] rfl (lies_new rfl rfl hmx) (by simp [Value.oneCell']) (by unfold maxLen; omega) (by omega) (by simp; omega) ?_; intro vn w9 on gn an)
      have ge := own_ge oo'
      have hb9 : Below w4.heap.size w4 (w4.alloc (.cells #[.slice va vl vq, .int .i64 t, .int .i64 V] 62)) := (Below.refl _ _).alloc (Nat.le_refl _) _
      have M9 := hide (ent_app (x := (x, t, V)) hcs (unhide OO) (unhide OI) (unhide OX) hb9 rfl rfl on gn)
      have R := hide (show w.grownBy w9 (some rb) from grown_other (grown_trans q4 (grown_below hb9)) gn ge)
      have R1 := hide (show Rd w9 rb (p3 + 6) from (r4.below hb9).grown gn (fun k hk => by have := ge k hk; omega))
      obtain ⟨na, nl, nq, rfl⟩ : ∃ a l q, vn = .slice a l q := by obtain ⟨-, a, q, e, -⟩ := lies_of_own on; exact ⟨a, _, q, e⟩
      clear on gn ge q4 r4 an OO OI OX oo' hb9
      go_wp2_with fail
      go_roundw
      case rel => exact ⟨k - 1, L ++ [(x, t, V)], p3 + 6, by go_num, ⟨_, _, _, rfl⟩, by simp; omega, by simp; omega, hide (ent_snoc (unhide HM) (unhide HX)), M9, unhide R1, unhide R⟩
      case measure => simp [intOf]; omega
    · have hk1 : decide ((0 : Int) < (k : Int)) = false := by simp; omega
      go_wp2_with fail
      go_ret
      exact ⟨L, _, rfl, unhide HM, unhide HO, ⟨p', by omega, hrd⟩, hg⟩
end Go.Proofs.YtlboekimnhgfdaaGreat.Draw
