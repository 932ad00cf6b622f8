/- My own texts of one claim, laid together by program: TabUni, RowCopy, RowCopy2. -/
import Derived.Test.YtdggffcibcggoaaGreatGba7d4da9de
import Derived.Test.YtdggffcibcggoaaGreatG69686afb3b
import Derived.Test.YtdggffcibcggoaaGreatGa0085373af
import Derived.Test.YtdggffcibcggoaaGreatGab173b34a6
/- What the laws' helpers do with a table whose rows are the call's own; TableAsk of the program and of the model. -/
namespace Go.Proofs.YtdggffcibcggoaaGreat.Row
open Go.RowKit Rw
theorem Own.wide {lo hi lo' hi' : Nat} {w : World} {v : Value} {zs : List E} (h : Own lo hi w v zs) (h1 : lo' ≤ lo) (h2 : hi ≤ hi') (h3 : hi' ≤ w.heap.size) : Own lo' hi' w v zs := by
  obtain ⟨cs, g1, g2, g3, g4, g5, g6, g7⟩ := h
  exact ⟨cs, g1, own_mono g2 h1, fun k hk => by have := g3 k hk; omega, h3, g5, g6, fun i hi => ⟨⟨own_mono (g7 i hi).1.1 h1, own_mono (g7 i hi).1.2 h1⟩, fun k hk => by have := (g7 i hi).2.1 k hk; omega, fun k hk => by have := (g7 i hi).2.2 k hk; omega⟩⟩
end Go.Proofs.YtdggffcibcggoaaGreat.Row
namespace Go.Proofs.YtdggffcibcggoaaGreat.Tab
open Go.RowKit Rw
set_option linter.unusedVariables false
attribute [local go_sem ↓] Go.wp_at_zero Go.wp_at_succ
set_option maxHeartbeats 4000000 in
theorem toX {v : Value} {zs : List Row.E} (N1 N2 : Int) {w : World} (h : Row.Is w v zs) (ht : Row.tot zs ≤ 1048576) : Calls Tryz.prog 10 #[.agg #[v, .int .i64 N1, .int .i64 N2]] w fun e w' => ∃ r, e = .returned (.agg #[r, .int .i64 N1, .int .i64 N2]) ∧ Row.Own w.heap.size w'.heap.size w' r zs ∧ Below w.heap.size w w' := by
  have T0 := hide (fun W (hb : Below w.heap.size w W) => Row.toX (h.below hb) ht)
  clear h ht
  have B := (((Below.refl w.heap.size w).alloc (Nat.le_refl _) (.cells #[v, .int .i64 N1, .int .i64 N2] 24)).alloc (by simp) (.cells #[.slice none 0 0, .int .i64 0, .int .i64 0] 28)).alloc (by simp; omega) (.cells #[.slice none 0 0, .int .i64 0, .int .i64 0] 28)
  go_enter Tryz.func10, Tryz.ntmps10
  go_wp2_with fail
  refine (unhide T0 _ B).mono ?_
  rintro e v0 ⟨r, rfl, o0, b0⟩
  obtain ⟨ra, rl, rq, rfl⟩ := Row.Own.form o0
  obtain ⟨bc0, bf0⟩ := bcell b0
  have z0 := b0.size
  have B0 := B.trans (b0.mono B.size)
  simp only [World.size_alloc] at z0 bc0 bf0 o0 ⊢
  clear b0
  have I := hide o0
  clear o0
  have Bs0 := B0.setCell (p := ⟨w.heap.size + 1 + 1, 0, none⟩) (by show w.heap.size ≤ w.heap.size + 1 + 1; omega) (.slice ra rl rq)
  have I0 := hide ((unhide I).zone (Zone.of_only ((OnlyAt.refl (w.heap.size + 1 + 1) _).setCell 0 (.slice ra rl rq)) (Nat.le_refl _) (Nat.lt_succ_self _)) (.inr (by omega)))
  have Bs1 := Bs0.setCell (p := ⟨w.heap.size + 1 + 1, 1, none⟩) (by show w.heap.size ≤ w.heap.size + 1 + 1; omega) (.int .i64 N1)
  have I1 := hide ((unhide I0).zone (Zone.of_only ((OnlyAt.refl (w.heap.size + 1 + 1) _).setCell 1 (.int .i64 N1)) (Nat.le_refl _) (Nat.lt_succ_self _)) (.inr (by omega)))
  have Bs2 := Bs1.setCell (p := ⟨w.heap.size + 1 + 1, 2, none⟩) (by show w.heap.size ≤ w.heap.size + 1 + 1; omega) (.int .i64 N2)
  have I2 := hide ((unhide I1).zone (Zone.of_only ((OnlyAt.refl (w.heap.size + 1 + 1) _).setCell 2 (.int .i64 N2)) (Nat.le_refl _) (Nat.lt_succ_self _)) (.inr (by omega)))
  have Br0 := Bs2.setCell (p := ⟨w.heap.size + 1, 0, none⟩) (by show w.heap.size ≤ w.heap.size + 1; omega) (.slice ra rl rq)
  have I3 := hide ((unhide I2).zone (Zone.of_only ((OnlyAt.refl (w.heap.size + 1) _).setCell 0 (.slice ra rl rq)) (Nat.le_refl _) (Nat.lt_succ_self _)) (.inr (by omega)))
  have Br1 := Br0.setCell (p := ⟨w.heap.size + 1, 1, none⟩) (by show w.heap.size ≤ w.heap.size + 1; omega) (.int .i64 N1)
  have I4 := hide ((unhide I3).zone (Zone.of_only ((OnlyAt.refl (w.heap.size + 1) _).setCell 1 (.int .i64 N1)) (Nat.le_refl _) (Nat.lt_succ_self _)) (.inr (by omega)))
  have Br2 := Br1.setCell (p := ⟨w.heap.size + 1, 2, none⟩) (by show w.heap.size ≤ w.heap.size + 1; omega) (.int .i64 N2)
  have I5 := hide ((unhide I4).zone (Zone.of_only ((OnlyAt.refl (w.heap.size + 1) _).setCell 2 (.int .i64 N2)) (Nat.le_refl _) (Nat.lt_succ_self _)) (.inr (by omega)))
  clear B0 Bs0 Bs1 Bs2 Br0 Br1 I I0 I1 I2 I3 I4
  go_wp2
  refine bodyPost_ret (v := .agg #[.slice ra rl rq, .int .i64 N1, .int .i64 N2]) (by simp [results, Tryz.results10, go_sem, bc0]) rfl ⟨.slice ra rl rq, rfl, (unhide I5).wide (by omega) (by simp) (Nat.le_refl _), Br2⟩
theorem eqX {v u : Value} {zs : List Row.E} {N1 N2 : Int} {w : World} (h : Row.Is w v zs) (h' : Row.Is w u zs) : Calls Tryz.prog 12 #[.agg #[v, .int .i64 N1, .int .i64 N2], .agg #[u, .int .i64 N1, .int .i64 N2]] w fun e w' => e = .returned (.bool true) ∧ Below w.heap.size w w' :=
  eq_one (c := (v, .int .i64 N1, .int .i64 N2)) (d := (u, .int .i64 N1, .int .i64 N2)) (x := (zs, N1, N2)) ⟨h, rfl, rfl⟩ ⟨h', rfl, rfl⟩
theorem szX {v : Value} {zs : List Row.E} {N1 N2 : Int} {w : World} (left : Int) (h : Row.Is w v zs) (hg : good (zs, N1, N2)) (h0 : 0 ≤ left) (h1 : left ≤ 1048576) : Calls Tryz.prog 8 #[.agg #[v, .int .i64 N1, .int .i64 N2], .int .i64 left] w fun e w' => e = .returned (.int .i64 (if left - (Row.tot zs : Int) < 0 then -1 else left - (Row.tot zs : Int))) ∧ Below w.heap.size w w' :=
  sz_one (c := (v, .int .i64 N1, .int .i64 N2)) (x := (zs, N1, N2)) left ⟨h, rfl, rfl⟩ hg h0 h1
theorem markA {lo hi : Nat} {v : Value} {zs : List Row.E} {N1 N2 : Int} {w : World} (k0 : Nat) (hk1 : 1 ≤ k0) (hk2 : k0 ≤ 100000000) (ht : Row.tot zs ≤ 1048576) (h : Row.Own lo hi w v zs) :
    Calls Tryz.prog 13 #[.agg #[v, .int .i64 N1, .int .i64 N2], .int .i64 k0] w fun e w' => ∃ k : Nat, e = .returned (.int .i64 k) ∧ 1 ≤ k ∧ k ≤ k0 + 4194304 ∧ Zone lo hi w w' := by
  obtain ⟨ra, rl, rq, rfl⟩ := Row.Own.form h
  have b : Below w.heap.size w (w.alloc (.cells #[.slice ra rl rq, .int .i64 N1, .int .i64 N2] 28)) := (Below.refl _ _).alloc (Nat.le_refl _) _
  have H := hide (Row.markA k0 hk1 hk2 ht (h.below b))
  have zb : Zone lo hi w (w.alloc (.cells #[.slice ra rl rq, .int .i64 N1, .int .i64 N2] 28)) := Zone.of_below b
  clear h ht b
  go_enter Tryz.func13, Tryz.ntmps13
  go_wp2_with fail
  refine (unhide H).mono ?_
  rintro e v0 ⟨k, rfl, h1, h2, z⟩
  go_wp2_with fail
  go_ret
  exact ⟨k, rfl, h1, h2, zb.trans z⟩
def ask (ms : List Mat.E) (f t : Int) (zs : List Row.E) (H F : Int) : List Row.E := if Row.tableB zs H F = true then Row.ask ms f t zs else []
set_option maxHeartbeats 4000000 in
theorem impl_ask {w : World} {v u : Value} {zs : List Row.E} {ms : List Mat.E} (f t H F : Int) (h : Row.Is w v zs) (hm : Mat.Is w u ms) (hg : ∀ x ∈ zs, Row.good x) (hlen : zs.length ≤ maxLen) (hmg : ∀ x ∈ ms, Mat.good x) (hml : ms.length ≤ maxLen) :
    Calls Tryz.prog 27 #[.agg #[v, .int .i64 H, .int .i64 F], u, .int .i64 f, .int .i64 t] w fun e w' => ∃ r, e = .returned r ∧ Row.Own w.heap.size w'.heap.size w' r (ask ms f t zs H F) ∧ Below w.heap.size w w' := by
  have H1 := hide (fun W (hb : Below w.heap.size w W) => Row.impl_table (H := H) (F := F) (h.below hb) hg hlen)
  have H2 := hide (fun W (hb : Below w.heap.size w W) => Row.impl_ask f t (h.below hb) (hm.below hb) hg hlen hmg hml)
  obtain ⟨av, nv, cv, ev⟩ : ∃ a n c, v = .slice a n c := by obtain ⟨cs, -, hL, -⟩ := h; obtain ⟨-, a, c, e, -⟩ := hL; exact ⟨a, _, c, e⟩
  obtain ⟨au, nu, cu, eu⟩ : ∃ a n c, u = .slice a n c := by obtain ⟨-, a, c, e, -⟩ := hm; exact ⟨a, _, c, e⟩
  clear h hm hg hlen hmg hml
  subst ev eu
  have b0 : Below w.heap.size w (w.alloc (.cells #[.slice av nv cv, .int .i64 H, .int .i64 F] 28)) := (Below.refl _ _).alloc (Nat.le_refl _) _
  cases ho : Row.tableB zs H F
  · have HR := hide (show ask ms f t zs H F = [] by unfold ask; rw [ho]; rfl)
    rw [ho] at H1
    clear ho
    go_enter Tryz.func27, Tryz.ntmps27
    go_wp2_with fail
    refine (unhide H1 _ b0).mono ?_
    rintro e w1 ⟨rfl, b1⟩
    have b01 := b0.trans (b1.mono b0.size)
    go_wp2_with fail
    go_ret
    exact ⟨_, rfl, by rw [unhide HR]; have := Row.own_nil w.heap.size w1; exact this, b01⟩
  · have HR := hide (show ask ms f t zs H F = Row.ask ms f t zs by unfold ask; rw [ho]; rfl)
    rw [ho] at H1
    clear ho
    go_enter Tryz.func27, Tryz.ntmps27
    go_wp2_with fail
    refine (unhide H1 _ b0).mono ?_
    rintro e w1 ⟨rfl, b1⟩
    have b01 := b0.trans (b1.mono b0.size)
    obtain ⟨bc, bf⟩ := bcell b1
    simp only [World.size_alloc] at bc bf
    go_wp2_with fail
    refine (unhide H2 _ b01).mono ?_
    rintro e w2 ⟨r, rfl, o2, b2⟩
    have b02 := b01.trans (b2.mono b01.size)
    have O2 := hide (show Row.Own w.heap.size w2.heap.size w2 r (ask ms f t zs H F) by rw [unhide HR]; exact o2.wide b01.size (Nat.le_refl _) (Nat.le_refl _))
    clear o2 b2
    go_wp2_with fail
    go_ret
    exact ⟨r, rfl, unhide O2, b02⟩
theorem table_ok {zs : List Row.E} {H F : Int} (h : Row.tableB zs H F = true) : Row.ok zs = true := by
  unfold Row.tableB at h
  simp only [Bool.and_eq_true] at h
  exact h.1.2
set_option maxHeartbeats 4000000 in
theorem spec_ask {w : World} {v u : Value} {zs : List Row.E} {ms : List Mat.E} (f t H F : Int) (h : Row.Is w v zs) (hm : Mat.Is w u ms) (hg : ∀ x ∈ zs, Row.good x) (hlen : zs.length ≤ maxLen) (hmg : ∀ x ∈ ms, Mat.good x) (hml : ms.length ≤ maxLen) :
    Calls Tryz.prog 32 #[.agg #[v, .int .i64 H, .int .i64 F], u, .int .i64 f, .int .i64 t] w fun e w' => ∃ r, e = .returned r ∧ Row.Own w.heap.size w'.heap.size w' r (ask ms f t zs H F) ∧ Below w.heap.size w w' := by
  have H1 := hide (fun W (hb : Below w.heap.size w W) => Row.spec_table (H := H) (F := F) (h.below hb) hg hlen)
  have H2 := hide (fun W (hb : Below w.heap.size w W) => Mat.spec_ok (hm.below hb) hmg hml)
  have H3 := hide (fun W (hb : Below w.heap.size w W) (ho : Row.ok zs = true) (hmo : Mat.ok ms = true) => Row.l5ask f t (h.below hb) (hm.below hb) hg hmg ho hmo)
  obtain ⟨av, nv, cv, ev⟩ : ∃ a n c, v = .slice a n c := by obtain ⟨cs, -, hL, -⟩ := h; obtain ⟨-, a, c, e, -⟩ := hL; exact ⟨a, _, c, e⟩
  obtain ⟨au, nu, cu, eu⟩ : ∃ a n c, u = .slice a n c := by obtain ⟨-, a, c, e, -⟩ := hm; exact ⟨a, _, c, e⟩
  clear h hm hg hlen hmg hml
  subst ev eu
  have b0 : Below w.heap.size w (w.alloc (.cells #[.slice av nv cv, .int .i64 H, .int .i64 F] 28)) := (Below.refl _ _).alloc (Nat.le_refl _) _
  have HEm := hide (fun (w1 : World) (b1 : Below w.heap.size w w1) => show Row.Own w.heap.size (w1.alloc (.cells #[] 88)).heap.size (w1.alloc (.cells #[] 88)) (.slice (some ⟨w1.heap.size, 0, none⟩) 0 0) [] from ⟨[], rfl, own_empty b1.size, own_block_lt (own_empty (base := w.heap.size) (e := 88) (size := 2) b1.size), Nat.le_refl _, fun i j _ h => absurd h (Nat.not_lt_zero _), fun i j _ h => absurd h (Nat.not_lt_zero _), fun i h => absurd h (Nat.not_lt_zero _)⟩)
  cases ho : Row.tableB zs H F
  · have HR := hide (show ask ms f t zs H F = [] by unfold ask; rw [ho]; rfl)
    rw [ho] at H1
    clear ho H3
    go_enter Tryz.func32, Tryz.ntmps32
    go_wp2_with fail
    refine (unhide H1 _ b0).mono ?_
    rintro e w1 ⟨rfl, b1⟩
    have b01 := b0.trans (b1.mono b0.size)
    have he := hide (unhide HEm w1 b01)
    have b3 := b01.alloc b01.size (.cells #[] 88)
    clear HEm
    go_wp2_with fail
    go_ret
    exact ⟨_, rfl, by rw [unhide HR]; exact unhide he, b3⟩
  have hrk := table_ok ho
  cases hmo : Mat.ok ms
  · have HR := hide (show ask ms f t zs H F = [] by
      unfold ask Row.ask
      rw [ho, hrk]
      simp only [if_true]
      unfold Row.outL
      rw [List.flatMap_eq_nil_iff]
      intro x _
      rw [if_pos (show Row.askG ms f t x = [] by unfold Row.askG Mat.mlet; rw [hmo]; rfl)])
    rw [ho] at H1
    rw [hmo] at H2
    clear ho H3 hmo hrk
    go_enter Tryz.func32, Tryz.ntmps32
    go_wp2_with fail
    refine (unhide H1 _ b0).mono ?_
    rintro e w1 ⟨rfl, b1⟩
    have b01 := b0.trans (b1.mono b0.size)
    go_wp2_with fail
    refine (unhide H2 w1 b01).mono ?_
    rintro e w2 ⟨rfl, b2⟩
    have b02 := b01.trans (b2.mono b01.size)
    have he := hide (unhide HEm w2 b02)
    have b3 := b02.alloc b02.size (.cells #[] 88)
    clear HEm
    go_wp2_with fail
    go_ret
    exact ⟨_, rfl, by rw [unhide HR]; exact unhide he, b3⟩
  · have HR := hide (show ask ms f t zs H F = Row.outL (Row.askG ms f t) zs by unfold ask Row.ask; rw [ho, hrk]; rfl)
    have H4 := hide (fun W hb => unhide H3 W hb hrk hmo)
    rw [ho] at H1
    rw [hmo] at H2
    clear ho H3 hmo hrk HEm
    go_enter Tryz.func32, Tryz.ntmps32
    go_wp2_with fail
    refine (unhide H1 _ b0).mono ?_
    rintro e w1 ⟨rfl, b1⟩
    have b01 := b0.trans (b1.mono b0.size)
    obtain ⟨bc, bf⟩ := bcell b1
    simp only [World.size_alloc] at bc bf
    have z1 := b1.size
    simp only [World.size_alloc] at z1
    go_wp2_with fail
    refine (unhide H2 w1 b01).mono ?_
    rintro e w2 ⟨rfl, b2⟩
    have b02 := b01.trans (b2.mono b01.size)
    have hcv : w2.cell? ⟨w.heap.size, 0, none⟩ = some (.slice av nv cv) := (b2.cell (p := ⟨w.heap.size, 0, none⟩) (by show w.heap.size < _; omega)).trans ((bc _ _ (by omega)).trans (by simp [go_sem]))
    clear bc bf
    go_wp2_with fail
    refine (unhide H4 _ b02).mono ?_
    rintro e w3 ⟨r, rfl, o3, b3⟩
    have b03 := b02.trans (b3.mono b02.size)
    have O3 := hide (show Row.Own w.heap.size w3.heap.size w3 r (ask ms f t zs H F) by rw [unhide HR]; exact o3.wide b02.size (Nat.le_refl _) (Nat.le_refl _))
    clear o3 b3
    go_wp2_with fail
    go_ret
    exact ⟨r, rfl, unhide O3, b03⟩
end Go.Proofs.YtdggffcibcggoaaGreat.Tab

/- A copy of rows that are ok: the program's rowsCopy. -/
namespace Go.Proofs.YtdggffcibcggoaaGreat.Row
open Go.RowKit Rw
set_option linter.unusedVariables false
attribute [local go_sem ↓] Go.wp_at_zero Go.wp_at_succ
set_option maxRecDepth 100000 in
set_option maxHeartbeats 2000000 in
theorem clone_any {w : World} {v : Value} {zs : List Sam.E} (h : Sam.Is w v zs) (h0 : zs ≠ []) (h1 : zs.length ≤ 4194304) : Calls Tryz.prog 111 #[v] w fun e w' => ∃ r, e = .returned r ∧ w'.ownsRow w.heap.size 133 2 r zs.length (Sam.flat zs) ∧ Below w.heap.size w w' := by
  obtain ⟨i2, hi2, hx0, hx1, hx2⟩ := info_parts Sam.info_e
  have hL : Lies w v zs.length 2 (Sam.flat zs) := h
  obtain ⟨-, a, cap, rfl, hc, hm, -, hr⟩ := h
  obtain ⟨b, off, rfl, hl, hcells⟩ := hr (List.length_pos_iff.2 h0)
  have oe : (w.alloc (.cells #[] 133)).ownsRow w.heap.size 133 2 (.slice (some ⟨w.heap.size, 0, none⟩) 0 0) 0 [] := own_empty (Nat.le_refl _)
  have be : Below w.heap.size w (w.alloc (.cells #[] 133)) := (Below.refl _ _).alloc (Nat.le_refl _) _
  have le := hL.below be
  clear hL hcells hr
  obtain ⟨m, hm'⟩ : ∃ m, m = zs.length := ⟨_, rfl⟩
  rw [← hm'] at h1 le ⊢
  clear hm' hc
  have heq : ∀ W, (binOp .eql 86 (.slice (some ⟨b, off, none⟩) m cap) (.slice none 0 0)).run Tryz.prog W = .ok (.bool false) W := fun W => rfl
  go_enter Tryz.func111, Tryz.ntmps111
  go_wp2_with (at_builtin; refine app_wp _ rfl _ _ _ rfl w.heap.size 133 i2 _ 2 16 Tryz.underlying86 hi2 hx0 hx1 hx2 rfl (by omega) _ 0 [] rfl oe _ m (Sam.flat zs) rfl le (Sam.flat_oneCell _) (by unfold maxLen; omega) (by omega) (by simp) ?_; intro vn wn on gn an)
  rw [Nat.zero_add, List.nil_append] at on
  have bn := below_grown be (by simp) gn (fun k hk => by cases hk; exact Nat.le_refl _)
  clear gn an le be oe
  go_wp2_with fail
  go_ret
  exact ⟨_, rfl, on, bn⟩
set_option maxRecDepth 100000 in
set_option maxHeartbeats 8000000 in
theorem copy_any {w : World} {v : Value} {zs : List E} (h : Is w v zs) (hok : ok zs = true) : Calls Tryz.prog 78 #[v] w fun e w' => ∃ r, e = .returned r ∧ Own w.heap.size w'.heap.size w' r zs ∧ Below w.heap.size w w' := by
  obtain ⟨i0, hi, hz0, hz1, hz2⟩ := info_parts Row.info_e
  have hn10 := ok_len hok
  have HOK := hide hok
  obtain ⟨cs, hcs, hL, hE⟩ := h
  have HE := hide hE
  obtain ⟨-, a, cap, rfl, hc, hmx, -, hr⟩ := hL
  unfold maxLen at hmx
  obtain ⟨l, hl⟩ : ∃ l, l = zs.length := ⟨_, rfl⟩
  rw [← hl] at hc hr hcs hn10 ⊢
  have HN := hide hl
  have HC := hide hcs
  clear hl hE hcs hok
  go_enter Tryz.func78, Tryz.ntmps78
  go_wp2_with fail
  go_loopw [3, 8] (fun pv i wr => ∃ (k : Nat) (pa : Option Addr) (pc : Nat), k ≤ l ∧ i = .int .i64 k ∧ pv = .slice pa k pc ∧ Hid (Own w.heap.size wr.heap.size wr pv (zs.take k)) ∧ Below w.heap.size w wr) (fun _ i _ => l - (intOf i).toNat)
  case atStart => exact ⟨0, none, 0, Nat.zero_le _, rfl, rfl, hide (own_nil w.heap.size w), Below.refl _ _⟩
  case round =>
    obtain ⟨k, pa, pc, hk, rfl, rfl, HO, hbel⟩ := hrel
    have hsz := hbel.size
    have hk0 : (0 : Int) ≤ (k : Int) := Int.natCast_nonneg _
    by_cases hlt : k < l
    · obtain ⟨b, off, rfl, hbl, hcells⟩ := hr (by omega)
      have fa := flat_at cs k (by have := unhide HC; omega)
      have hc0 : wr.cell? ⟨b, off + k * 2, none⟩ = some (cat cs k).1 := (hbel.cell (p := ⟨b, _, none⟩) hbl).trans (hcells (k * 2) _ fa.1)
      have hc1 : wr.cell? ⟨b, off + k * 2 + 1, none⟩ = some (cat cs k).2 := (hbel.cell (p := ⟨b, _, none⟩) hbl).trans (hcells (k * 2 + 1) _ fa.2)
      have hkz : k < zs.length := by have := unhide HN; omega
      have hEk := unhide HE k hkz
      have hst := step_is (ok_at (unhide HOK) hkz)
      have hsn : zs.take (k + 1) = zs.take k ++ [at' zs k] := by rw [List.take_succ_eq_append_getElem hkz, at_get zs k hkz]
      have htl : (zs.take k).length = k := by rw [List.length_take]; omega
      obtain ⟨⟨ls, xs⟩, hX⟩ : ∃ x, x = at' zs k := ⟨_, rfl⟩
      rw [← hX] at hEk hst hsn
      simp only at hst
      obtain ⟨c0, c1, hY⟩ : ∃ c0 c1, (c0, c1) = cat cs k := ⟨_, _, rfl⟩
      rw [← hY] at hc0 hc1 hEk
      have hE1 : Lab.Is w c0 ls := hEk.1
      have hE2 : Sam.Is w c1 xs := hEk.2
      obtain ⟨-, a0, q0, e0, -⟩ := hE1
      obtain ⟨-, a1, q1, e1, -⟩ := hE2
      have hE1 : Lab.Is w c0 ls := hEk.1
      have hE2 : Sam.Is w c1 xs := hEk.2
      clear fa hEk hX hY
      have hxne : xs ≠ [] := fun e => by rw [e] at hst; simp at hst
      have hk1 : (k : Int) < (l : Int) := by omega
      have hmx1 : 1 ≤ maxLen := by unfold maxLen; omega
      have HCl := hide (fun W (hb : Below w.heap.size w W) => Lab.copy_any (hE1.below hb) (Lab.ok_small hst.1))
      have HCs := hide (fun W (hb : Below w.heap.size w W) => clone_any (hE2.below hb) hxne (by omega))
      obtain ⟨ll, hll⟩ : ∃ ll, ll = ls.length := ⟨_, rfl⟩
      obtain ⟨m, hm⟩ : ∃ m, m = xs.length := ⟨_, rfl⟩
      rw [← hll] at e0 HCl
      rw [← hm] at e1 HCs
      have HLL := hide hll
      have HM := hide hm
      have HSn := hide hsn
      have HTl := hide htl
      clear hll hm hE1 hE2 hst hxne hsn htl
      subst e0 e1
      obtain ⟨ds, g1, g2, g3, g4, g5, g6, g7⟩ := unhide HO
      rw [unhide HTl] at g2
      obtain ⟨W, hW⟩ : ∃ W, W = wr.alloc (.cells #[.slice a0 ll q0, .slice a1 m q1] 88) := ⟨_, rfl⟩
      have bW : Below wr.heap.size wr W := by rw [hW]; exact (Below.refl _ _).alloc (Nat.le_refl _) _
      have zW : wr.heap.size < W.heap.size := by rw [hW]; simp
      have S6 : (fun w' : World => w'.cell? ⟨wr.heap.size, 0, none⟩ = some (.slice a0 ll q0) ∧ w'.cell? ⟨wr.heap.size, 1, none⟩ = some (.slice a1 m q1)) W.drew := by rw [hW]; exact ⟨by simp, by simp⟩
      have bWd : Below wr.heap.size wr W.drew := bW.drew
      have oW : W.drew.ownsRow w.heap.size 88 2 (.slice pa k pc) k (flatOf cl ds) := World.ownsRow.drew (own_below g2 bW)
      have hbW : Below w.heap.size w W.drew := hbel.trans (bWd.mono hsz)
      have hob := fun e => Nat.lt_irrefl _ (own_block_lt g2 wr.heap.size (Eq.symm e))
      have HO1 := hide (And.intro g1 (And.intro g5 (And.intro g6 g7)))
      have HCl6 := hide (unhide HCl W.drew hbW)
      clear bW HO g1 g3 g4 g5 g6 g7 HCl
      go_wp2_with fail
      rw [← hW]
      clear hW
      go_region_held3 (fun w' => w'.cell? ⟨wr.heap.size, 0, none⟩ = some (.slice a0 ll q0) ∧ w'.cell? ⟨wr.heap.size, 1, none⟩ = some (.slice a1 m q1)) (first | exact S6 | exact S7 | exact S8 | exact S9 _ | exact S10) ((first | (go_at_call 110; refine (unhide HCl6).mono ?_; rintro e w7 ⟨vl, rfl, ol, b7⟩; obtain ⟨la, lq, rfl⟩ : ∃ a q, vl = .slice a ll q := (by obtain ⟨-, a, q, e, -⟩ := lies_of_own ol; exact ⟨a, q, e⟩); have z7 := b7.size; simp only [World.size_drew] at z7; have hb7 : Below w.heap.size w w7 := hbW.trans (b7.mono hbW.size); have S7 : (fun w' : World => w'.cell? ⟨wr.heap.size, 0, none⟩ = some (.slice a0 ll q0) ∧ w'.cell? ⟨wr.heap.size, 1, none⟩ = some (.slice a1 m q1)) w7 := ⟨(b7.cell (p := ⟨_, _, none⟩) (by first | (simp; done) | (simp; omega) | omega)).trans S6.1, (b7.cell (p := ⟨_, _, none⟩) (by first | (simp; done) | (simp; omega) | omega)).trans S6.2⟩) | (go_at_call 111; refine (unhide HCs w7 hb7).mono ?_; rintro e w8 ⟨vs, rfl, oS, b8⟩; obtain ⟨sa, sq, rfl⟩ : ∃ a q, vs = .slice a m q := (by obtain ⟨-, a, q, e, -⟩ := lies_of_own oS; exact ⟨a, q, e⟩); have z8 := b8.size; have S8 : (fun w' : World => w'.cell? ⟨wr.heap.size, 0, none⟩ = some (.slice a0 ll q0) ∧ w'.cell? ⟨wr.heap.size, 1, none⟩ = some (.slice a1 m q1)) w8 := ⟨(b8.cell (p := ⟨_, _, none⟩) (by first | (simp; done) | (simp; omega) | omega)).trans S7.1, (b8.cell (p := ⟨_, _, none⟩) (by first | (simp; done) | (simp; omega) | omega)).trans S7.2⟩; have S9 : ∀ o, (fun w' : World => w'.cell? ⟨wr.heap.size, 0, none⟩ = some (.slice a0 ll q0) ∧ w'.cell? ⟨wr.heap.size, 1, none⟩ = some (.slice a1 m q1)) (w8.alloc o) := fun o => ⟨(((Below.refl _ _).alloc (Nat.le_refl _) _).cell (p := ⟨_, _, none⟩) (by first | (simp; done) | (simp; omega) | omega)).trans S8.1, (((Below.refl _ _).alloc (Nat.le_refl _) _).cell (p := ⟨_, _, none⟩) (by first | (simp; done) | (simp; omega) | omega)).trans S8.2⟩) | (refine app_step _ (by rfl) _ _ _ (by rfl) w.heap.size 88 i0 _ 2 48 Tryz.underlying26 hi hz0 hz1 hz2 rfl (by omega) _ k _ (by rfl) (World.ownsRow.alloc (own_below (own_below oW b7) b8) _) _ 1 [.slice la ll lq, .slice sa m sq] (by rfl) (lies_new (w := w8) (by simp) rfl hmx1) (by simp [Value.oneCell']) (by unfold maxLen; omega) (by omega) (by simp <;> omega) ?_; intro vn wn on gn an; have S10 : (fun w' : World => w'.cell? ⟨wr.heap.size, 0, none⟩ = some (.slice a0 ll q0) ∧ w'.cell? ⟨wr.heap.size, 1, none⟩ = some (.slice a1 m q1)) wn := ⟨by rw [gn.cell_far _ (by simp <;> omega) hob]; exact (S9 _).1, by rw [gn.cell_far _ (by simp <;> omega) hob]; exact (S9 _).2⟩)))
      have hb8 : Below w.heap.size w w8 := hb7.trans (b8.mono (by omega))
      have R9 : Below w.heap.size w wn := below_grown (hb8.alloc (by omega) _) (by simp <;> omega) gn (own_ge g2)
      have HO' := hide (show Own w.heap.size wn.heap.size wn vn (zs.take (k + 1)) by
        obtain ⟨g1, g5, g6, g7⟩ := unhide HO1
        rw [unhide HSn]
        have hw := fun {base e size n v} {xs : List Value} (ho : wr.ownsRow base e size v n xs) => World.ownsRow.alloc (own_below (own_below (own_below ho bWd) b7) b8) (.cells #[.slice la ll lq, .slice sa m sq] 88)
        exact own_snoc (w := w8.alloc (.cells #[.slice la ll lq, .slice sa m sq] 88)) (pv := .slice pa k pc) (vl := .slice la ll lq) (xv := .slice sa m sq) g1 (by rw [unhide HTl]; exact hw g2) g5 g6 (fun i hi => ⟨hw (g7 i hi).1.1, hw (g7 i hi).1.2⟩) gn (by rw [unhide HTl]; exact on) (by simp only; rw [← unhide HLL]; exact World.ownsRow.alloc (own_below (own_mono ol (by simp; omega)) b8) _) (by simp only; rw [← unhide HM]; exact World.ownsRow.alloc (own_mono oS (by omega)) _) (fun i hi k hk hk' => by have h1 := own_block_lt (g7 i hi).1.1 k hk; have h2 := own_ge ol k hk'; simp at h2; omega) (fun i hi k hk hk' => by have h1 := own_block_lt (g7 i hi).1.2 k hk; have h2 := own_ge oS k hk'; omega))
      obtain ⟨an', cn, hvn⟩ : ∃ a c, vn = .slice a (k + 1) c := by obtain ⟨-, a, c, e, -⟩ := lies_of_own on; exact ⟨a, c, e⟩
      have HV := hide hvn
      clear on gn an hvn hob S6 S7 S8 S9 S10 oW hbW b7 b8 hb8 hb7 ol oS g2 bWd HO1 HCs HCl6
      go_wp2_with fail
      go_roundw
      case rel => exact ⟨k + 1, an', cn, by omega, by go_num, unhide HV, HO', R9⟩
      case measure => simp [intOf]; omega
    · obtain rfl : k = l := by omega
      have HO' := hide (show Own w.heap.size wr.heap.size wr (.slice pa k pc) zs by have := unhide HO; rwa [List.take_of_length_le (by have := unhide HN; omega)] at this)
      clear HO
      go_wp2
      go_ret
      exact ⟨_, rfl, unhide HO', hbel⟩
end Go.Proofs.YtdggffcibcggoaaGreat.Row

/- A copy of rows that are ok: the model's l5Copy. -/
namespace Go.Proofs.YtdggffcibcggoaaGreat.Row
open Go.RowKit Rw
set_option linter.unusedVariables false
attribute [local go_sem ↓] Go.wp_at_zero Go.wp_at_succ
set_option maxRecDepth 100000 in
set_option maxHeartbeats 8000000 in
theorem l5copy {w : World} {v : Value} {zs : List E} (h : Is w v zs) (hok : ok zs = true) : Calls Tryz.prog 74 #[v] w fun e w' => ∃ r, e = .returned r ∧ Own w.heap.size w'.heap.size w' r zs ∧ Below w.heap.size w w' := by
  obtain ⟨i0, hi, hz0, hz1, hz2⟩ := info_parts Row.info_e
  obtain ⟨i1, hi1, hy0, hy1, hy2⟩ := info_parts Lab.info_e
  obtain ⟨i2, hi2, hx0, hx1, hx2⟩ := info_parts Sam.info_e
  have hn10 := ok_len hok
  have HOK := hide hok
  obtain ⟨cs, hcs, hL, hE⟩ := h
  have HE := hide hE
  obtain ⟨-, a, cap, rfl, hc, hmx, -, hr⟩ := hL
  unfold maxLen at hmx
  obtain ⟨l, hl⟩ : ∃ l, l = zs.length := ⟨_, rfl⟩
  rw [← hl] at hc hr hcs hn10 ⊢
  have HN := hide hl
  have HC := hide hcs
  clear hl hE hcs hok
  have HI0 := hide (show Own w.heap.size (w.alloc (.cells #[] 88)).heap.size (w.alloc (.cells #[] 88)) (.slice (some ⟨w.heap.size, 0, none⟩) 0 0) (zs.take 0) from ⟨[], rfl, Str.own_empty' (Nat.le_refl _) rfl, own_block_lt (Str.own_empty' (base := w.heap.size) (e := 88) (size := 2) (Nat.le_refl _) rfl), Nat.le_refl _, fun i j _ h => absurd h (Nat.not_lt_zero _), fun i j _ h => absurd h (Nat.not_lt_zero _), fun i h => absurd h (Nat.not_lt_zero _)⟩)
  have B0 : Below w.heap.size w (w.alloc (.cells #[] 88)) := (Below.refl _ _).alloc (Nat.le_refl _) _
  go_enter Tryz.func74, Tryz.ntmps74
  go_wp2_with fail
  go_loopw [3, 4] (fun pv i wr => ∃ (k : Nat) (pa : Option Addr) (pc : Nat), k ≤ l ∧ i = .int .i64 k ∧ pv = .slice pa k pc ∧ Hid (Own w.heap.size wr.heap.size wr pv (zs.take k)) ∧ Below w.heap.size w wr) (fun _ i _ => l - (intOf i).toNat)
  case atStart => exact ⟨0, _, 0, Nat.zero_le _, rfl, rfl, HI0, B0⟩
  case round =>
    clear HI0 B0
    obtain ⟨k, pa, pc, hk, rfl, rfl, HO, hbel⟩ := hrel
    have hsz := hbel.size
    have hk0 : (0 : Int) ≤ (k : Int) := Int.natCast_nonneg _
    by_cases hlt : k < l
    · obtain ⟨b, off, rfl, hbl, hcells⟩ := hr (by omega)
      have fa := flat_at cs k (by have := unhide HC; omega)
      have hc0 : wr.cell? ⟨b, off + k * 2, none⟩ = some (cat cs k).1 := (hbel.cell (p := ⟨b, _, none⟩) hbl).trans (hcells (k * 2) _ fa.1)
      have hc1 : wr.cell? ⟨b, off + k * 2 + 1, none⟩ = some (cat cs k).2 := (hbel.cell (p := ⟨b, _, none⟩) hbl).trans (hcells (k * 2 + 1) _ fa.2)
      have hkz : k < zs.length := by have := unhide HN; omega
      have hEk := unhide HE k hkz
      have hst := step_is (ok_at (unhide HOK) hkz)
      have hsn : zs.take (k + 1) = zs.take k ++ [at' zs k] := by rw [List.take_succ_eq_append_getElem hkz, at_get zs k hkz]
      have htl : (zs.take k).length = k := by rw [List.length_take]; omega
      obtain ⟨⟨ls, xs⟩, hX⟩ : ∃ x, x = at' zs k := ⟨_, rfl⟩
      rw [← hX] at hEk hst hsn
      simp only at hst
      obtain ⟨c0, c1, hY⟩ : ∃ c0 c1, (c0, c1) = cat cs k := ⟨_, _, rfl⟩
      rw [← hY] at hc0 hc1 hEk
      have hE1 : Lab.Is w c0 ls := hEk.1
      have hE2 : Sam.Is w c1 xs := hEk.2
      obtain ⟨-, a0, q0, e0, -⟩ := hE1
      obtain ⟨-, a1, q1, e1, -⟩ := hE2
      have hE1 : Lab.Is w c0 ls := hEk.1
      have hE2 : Sam.Is w c1 xs := hEk.2
      clear fa hEk hX hY
      have hxne : xs ≠ [] := fun e => by rw [e] at hst; simp at hst
      have hk1 : (k : Int) < (l : Int) := by omega
      have hmx1 : 1 ≤ maxLen := by unfold maxLen; omega
      have hsm := (Lab.ok_small hst.1).1
      have hx1000 := hst.2.2.1
      obtain ⟨ll, hll⟩ : ∃ ll, ll = ls.length := ⟨_, rfl⟩
      obtain ⟨m, hm⟩ : ∃ m, m = xs.length := ⟨_, rfl⟩
      rw [← hll] at e0 hsm
      rw [← hm] at e1 hx1000
      have HL1 := hide (fun W (hb : Below w.heap.size w W) => show Lies W c0 ll 2 (Lab.flat ls) by rw [hll]; exact hE1.below hb)
      have HL2 := hide (fun W (hb : Below w.heap.size w W) => show Lies W c1 m 2 (Sam.flat xs) by rw [hm]; exact hE2.below hb)
      have HLL := hide hll
      have HM := hide hm
      have HSn := hide hsn
      have HTl := hide htl
      clear hll hm hE1 hE2 hst hxne hsn htl
      subst e0 e1
      obtain ⟨ds, g1, g2, g3, g4, g5, g6, g7⟩ := unhide HO
      rw [unhide HTl] at g2
      have hb0 : b < wr.heap.size := by omega
      have hb0a : b < wr.heap.size + 1 := by omega
      have hb0b : b < wr.heap.size + 1 + 1 := by omega
      have hbn : ¬ b = wr.heap.size := by omega
      have hbn2 : ¬ b = wr.heap.size + 1 := by omega
      have be1 : Below wr.heap.size wr (wr.alloc (.cells #[] 120)).drew := ((Below.refl _ _).alloc (Nat.le_refl _) _).drew
      have be2 : Below wr.heap.size wr ((wr.alloc (.cells #[] 120)).alloc (.cells #[] 133)).drew := (((Below.refl _ _).alloc (Nat.le_refl _) _).alloc (by simp) _).drew
      have be3 : Below wr.heap.size wr ((wr.alloc (.cells #[] 133)).alloc (.cells #[] 120)).drew := (((Below.refl _ _).alloc (Nat.le_refl _) _).alloc (by simp) _).drew
      have oe1 : World.ownsRow (wr.alloc (.cells #[] 120)).drew wr.heap.size 120 2 (.slice (some ⟨wr.heap.size, 0, none⟩) 0 0) 0 [] := World.ownsRow.drew (own_empty (Nat.le_refl _))
      have oe2 : World.ownsRow ((wr.alloc (.cells #[] 120)).alloc (.cells #[] 133)).drew wr.heap.size 120 2 (.slice (some ⟨wr.heap.size, 0, none⟩) 0 0) 0 [] := World.ownsRow.drew (World.ownsRow.alloc (own_empty (Nat.le_refl _)) _)
      have oe3 : World.ownsRow ((wr.alloc (.cells #[] 133)).alloc (.cells #[] 120)).drew wr.heap.size 120 2 (.slice (some ⟨wr.heap.size + 1, 0, none⟩) 0 0) 0 [] := World.ownsRow.drew (Str.own_empty' (w := wr.alloc (.cells #[] 133)) (by simp) (by simp))
      have os2 : World.ownsRow ((wr.alloc (.cells #[] 120)).alloc (.cells #[] 133)).drew wr.heap.size 133 2 (.slice (some ⟨wr.heap.size + 1, 0, none⟩) 0 0) 0 [] := World.ownsRow.drew (Str.own_empty' (w := wr.alloc (.cells #[] 120)) (by simp) (by simp))
      have os3 : World.ownsRow ((wr.alloc (.cells #[] 133)).alloc (.cells #[] 120)).drew wr.heap.size 133 2 (.slice (some ⟨wr.heap.size, 0, none⟩) 0 0) 0 [] := World.ownsRow.drew (World.ownsRow.alloc (own_empty (Nat.le_refl _)) _)
      have le1 := unhide HL1 _ (hbel.trans (be1.mono hsz))
      have le2 := unhide HL1 _ (hbel.trans (be2.mono hsz))
      have le3 := unhide HL1 _ (hbel.trans (be3.mono hsz))
      have HO1 := hide (And.intro g1 (And.intro g5 (And.intro g6 g7)))
      clear HO g1 g3 g4 g5 g6 g7
      go_wp2_with fail
      go_region_law ((first | (refine app_step _ (by rfl) (.tmp 13) (.tmp 18) _ (by rfl) wr.heap.size 120 i1 _ 2 32 Tryz.underlying66 hi1 hy0 hy1 hy2 rfl (by omega) _ 0 [] (by rfl) (by first | exact oe1 | exact oe2 | exact oe3) _ ll (Lab.flat ls) (by rfl) (by first | exact le1 | exact le2 | exact le3) (Lab.flat_oneCell _) (by unfold maxLen; omega) (by omega) (by simp <;> omega) ?_; intro vl w7 ol gl al; rw [Nat.zero_add, List.nil_append] at ol; have b7 : Below wr.heap.size wr w7 := (by first | exact below_grown be1 (by simp) gl (own_ge oe1) | exact below_grown be2 (by simp <;> omega) gl (own_ge oe2) | exact below_grown be3 (by simp <;> omega) gl (own_ge oe3)); obtain ⟨la, lq, rfl⟩ : ∃ a q, vl = .slice a ll q := (by obtain ⟨-, a, q, e, -⟩ := lies_of_own ol; exact ⟨a, q, e⟩); have z7 := b7.size; have hb7 : Below w.heap.size w w7 := hbel.trans (b7.mono hsz); have c7a : w7.cell? ⟨b, off + k * 2 + 1, none⟩ = some (.slice a1 m q1) := (b7.cell (p := ⟨b, _, none⟩) hb0).trans hc1; have hb77 : b < w7.heap.size := (by omega); have hb7n : ¬ b = w7.heap.size := (by omega); have os1 : (w7.alloc (.cells #[] 133)).ownsRow wr.heap.size 133 2 (.slice (some ⟨w7.heap.size, 0, none⟩) 0 0) 0 [] := own_empty z7; have bs1 : Below w7.heap.size w7 (w7.alloc (.cells #[] 133)) := (Below.refl _ _).alloc (Nat.le_refl _) _; have lx1 := unhide HL2 _ (hb7.trans (bs1.mono (by omega))); have lx2 := unhide HL2 _ hb7) | (refine app_step _ (by rfl) (.tmp 20) (.tmp 25) _ (by rfl) wr.heap.size 133 i2 _ 2 16 Tryz.underlying86 hi2 hx0 hx1 hx2 rfl (by omega) _ 0 [] (by rfl) (by first | exact os1 | exact own_grown gl os2 (own_ne_type os2 oe2 (by decide)) | exact own_grown gl os3 (own_ne_type os3 oe3 (by decide))) _ m (Sam.flat xs) (by rfl) (by first | exact lx1 | exact lx2) (Sam.flat_oneCell _) (by unfold maxLen; omega) (by omega) (by first | omega | (simp; done) | (simp; omega)) ?_; intro vs w8 oS gS aS; rw [Nat.zero_add, List.nil_append] at oS; have b8 : Below wr.heap.size wr w8 := (by first | exact below_grown (b7.trans (bs1.mono z7)) (by simp <;> omega) gS (own_ge os1) | exact below_grown b7 z7 gS (own_ge os2) | exact below_grown b7 z7 gS (own_ge os3)); have ol8 : w8.ownsRow wr.heap.size 120 2 (.slice la ll lq) ll (Lab.flat ls) := (by first | exact own_grown gS (own_below ol bs1) (own_ne_type (own_below ol bs1) os1 (by decide)) | exact own_grown gS ol (own_ne_type ol (own_grown gl os2 (own_ne_type os2 oe2 (by decide))) (by decide)) | exact own_grown gS ol (own_ne_type ol (own_grown gl os3 (own_ne_type os3 oe3 (by decide))) (by decide))); obtain ⟨sa, sq, rfl⟩ : ∃ a q, vs = .slice a m q := (by obtain ⟨-, a, q, e, -⟩ := lies_of_own oS; exact ⟨a, q, e⟩); have z8 := b8.size) | (refine app_step _ (by rfl) (.tmp 12) (.tmp 28) _ (by rfl) w.heap.size 88 i0 _ 2 48 Tryz.underlying26 hi hz0 hz1 hz2 rfl (by omega) _ k _ (by rfl) (World.ownsRow.alloc (own_below g2 b8) _) _ 1 [.slice la ll lq, .slice sa m sq] (by rfl) (lies_new (w := w8) (by simp) rfl hmx1) (by simp [Value.oneCell']) (by unfold maxLen; omega) (by omega) (by simp <;> omega) ?_; intro vn wn on gn an)))
      all_goals
        have hb8 : Below w.heap.size w w8 := hbel.trans (b8.mono hsz)
        have R9 : Below w.heap.size w wn := below_grown (hb8.alloc (by omega) _) (by simp <;> omega) gn (own_ge g2)
        have HO' := hide (show Own w.heap.size wn.heap.size wn vn (zs.take (k + 1)) by
          obtain ⟨g1, g5, g6, g7⟩ := unhide HO1
          rw [unhide HSn]
          have hw := fun {base e size n v} {xs : List Value} (ho : wr.ownsRow base e size v n xs) => World.ownsRow.alloc (own_below ho b8) (.cells #[.slice la ll lq, .slice sa m sq] 88)
          exact own_snoc (w := w8.alloc (.cells #[.slice la ll lq, .slice sa m sq] 88)) (pv := .slice pa k pc) (vl := .slice la ll lq) (xv := .slice sa m sq) g1 (by rw [unhide HTl]; exact hw g2) g5 g6 (fun i hi => ⟨hw (g7 i hi).1.1, hw (g7 i hi).1.2⟩) gn (by rw [unhide HTl]; exact on) (by simp only; rw [← unhide HLL]; exact World.ownsRow.alloc (own_mono ol8 (by omega)) _) (by simp only; rw [← unhide HM]; exact World.ownsRow.alloc (own_mono oS (by omega)) _) (fun i hi k hk hk' => by have h1 := own_block_lt (g7 i hi).1.1 k hk; have h2 := own_ge ol8 k hk'; omega) (fun i hi k hk hk' => by have h1 := own_block_lt (g7 i hi).1.2 k hk; have h2 := own_ge oS k hk'; omega))
        obtain ⟨an', cn, hvn⟩ : ∃ a c, vn = .slice a (k + 1) c := by obtain ⟨-, a, c, e, -⟩ := lies_of_own on; exact ⟨a, c, e⟩
        have HV := hide hvn
        clear on gn an hvn ol oS ol8 g2 HO1 oe1 oe2 oe3 os1 os2 os3 le1 le2 le3 lx1 lx2 be1 be2 be3 bs1 gl gS al aS b7 b8 hb7 hb8
        go_wp2_with fail
        go_roundw
        case rel => exact ⟨k + 1, an', cn, by omega, by go_num, unhide HV, HO', R9⟩
        case measure => simp [intOf]; omega
    · obtain rfl : k = l := by omega
      have HO' := hide (show Own w.heap.size wr.heap.size wr (.slice pa k pc) zs by have := unhide HO; rwa [List.take_of_length_le (by have := unhide HN; omega)] at this)
      clear HO
      go_wp2
      go_ret
      exact ⟨_, rfl, unhide HO', hbel⟩
end Go.Proofs.YtdggffcibcggoaaGreat.Row
