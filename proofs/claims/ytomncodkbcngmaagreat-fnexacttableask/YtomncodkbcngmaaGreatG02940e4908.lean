/- My own texts of one claim, laid together by program: TabUni, MatMark, MatUni. -/
import Derived.Test.YtomncodkbcngmaaGreatG8b95516130
import Derived.Test.YtomncodkbcngmaaGreatG46dd00a70a
import Derived.Test.YtomncodkbcngmaaGreatGc449cc2923
import Derived.Test.YtomncodkbcngmaaGreatG63cea71814
import Derived.Test.YtomncodkbcngmaaGreatG5e192b5de1
import Derived.Test.YtomncodkbcngmaaGreatG459e8be0b9
/- What the laws' helpers do with a table whose rows are the call's own; TableAsk of the program and of the model. -/
namespace Go.Proofs.YtomncodkbcngmaaGreat.Row
open Go.RowKit Rw
theorem Own.wide {lo hi lo' hi' : Nat} {w : World} {v : Value} {zs : List E} (h : Own lo hi w v zs) (h1 : lo' ≤ lo) (h2 : hi ≤ hi') (h3 : hi' ≤ w.heap.size) : Own lo' hi' w v zs := by
  obtain ⟨cs, g1, g2, g3, g4, g5, g6, g7⟩ := h
  exact ⟨cs, g1, own_mono g2 h1, fun k hk => by have := g3 k hk; omega, h3, g5, g6, fun i hi => ⟨⟨own_mono (g7 i hi).1.1 h1, own_mono (g7 i hi).1.2 h1⟩, fun k hk => by have := (g7 i hi).2.1 k hk; omega, fun k hk => by have := (g7 i hi).2.2 k hk; omega⟩⟩
end Go.Proofs.YtomncodkbcngmaaGreat.Row
namespace Go.Proofs.YtomncodkbcngmaaGreat.Tab
open Go.RowKit Rw
set_option linter.unusedVariables false
attribute [local go_sem ↓] Go.wp_at_zero Go.wp_at_succ
set_option maxHeartbeats 4000000 in
theorem toX {v : Value} {zs : List Row.E} (N1 N2 : Int) {w : World} (h : Row.Is w v zs) (ht : Row.tot zs ≤ 1048576) : Calls Tryz.prog 10 #[.agg #[v, .int .i64 N1, .int .i64 N2]] w fun e w' => ∃ r, e = .returned (.agg #[r, .int .i64 N1, .int .i64 N2]) ∧ Row.Own w.heap.size w'.heap.size w' r zs ∧ Below w.heap.size w w' := by
  have T0 := hide (fun W (hb : Below w.heap.size w W) => Row.toX (h.below hb) ht)
  clear h ht
  have B := (((Below.refl w.heap.size w).alloc (Nat.le_refl _) (.cells #[v, .int .i64 N1, .int .i64 N2] 24)).alloc (by simp) (.cells #[.slice none 0 0, .int .i64 0, .int .i64 0] 31)).alloc (by simp; omega) (.cells #[.slice none 0 0, .int .i64 0, .int .i64 0] 31)
  go_enter Tryz.func10, Tryz.ntmps10
  go_wp2_with fail
  refine (unhide T0 _ B).mono ?_
  rintro e v0 ⟨r, rfl, o0, b0⟩
  obtain ⟨ra, rl, rq, rfl⟩ := Row.Own.form o0
  obtain ⟨bc0, bf0⟩ := bcell b0
  have z0 := b0.size
  have B0 := B.trans (b0.mono B.size)
  simp only [World.size_alloc] at z0 bc0 bf0 o0 ⊢
  clear b0
  have I := hide o0
  clear o0
  have Bs0 := B0.setCell (p := ⟨w.heap.size + 1 + 1, 0, none⟩) (by show w.heap.size ≤ w.heap.size + 1 + 1; omega) (.slice ra rl rq)
  have I0 := hide ((unhide I).zone (Zone.of_only ((OnlyAt.refl (w.heap.size + 1 + 1) _).setCell 0 (.slice ra rl rq)) (Nat.le_refl _) (Nat.lt_succ_self _)) (.inr (by omega)))
  have Bs1 := Bs0.setCell (p := ⟨w.heap.size + 1 + 1, 1, none⟩) (by show w.heap.size ≤ w.heap.size + 1 + 1; omega) (.int .i64 N1)
  have I1 := hide ((unhide I0).zone (Zone.of_only ((OnlyAt.refl (w.heap.size + 1 + 1) _).setCell 1 (.int .i64 N1)) (Nat.le_refl _) (Nat.lt_succ_self _)) (.inr (by omega)))
  have Bs2 := Bs1.setCell (p := ⟨w.heap.size + 1 + 1, 2, none⟩) (by show w.heap.size ≤ w.heap.size + 1 + 1; omega) (.int .i64 N2)
  have I2 := hide ((unhide I1).zone (Zone.of_only ((OnlyAt.refl (w.heap.size + 1 + 1) _).setCell 2 (.int .i64 N2)) (Nat.le_refl _) (Nat.lt_succ_self _)) (.inr (by omega)))
  have Br0 := Bs2.setCell (p := ⟨w.heap.size + 1, 0, none⟩) (by show w.heap.size ≤ w.heap.size + 1; omega) (.slice ra rl rq)
  have I3 := hide ((unhide I2).zone (Zone.of_only ((OnlyAt.refl (w.heap.size + 1) _).setCell 0 (.slice ra rl rq)) (Nat.le_refl _) (Nat.lt_succ_self _)) (.inr (by omega)))
  have Br1 := Br0.setCell (p := ⟨w.heap.size + 1, 1, none⟩) (by show w.heap.size ≤ w.heap.size + 1; omega) (.int .i64 N1)
  have I4 := hide ((unhide I3).zone (Zone.of_only ((OnlyAt.refl (w.heap.size + 1) _).setCell 1 (.int .i64 N1)) (Nat.le_refl _) (Nat.lt_succ_self _)) (.inr (by omega)))
  have Br2 := Br1.setCell (p := ⟨w.heap.size + 1, 2, none⟩) (by show w.heap.size ≤ w.heap.size + 1; omega) (.int .i64 N2)
  have I5 := hide ((unhide I4).zone (Zone.of_only ((OnlyAt.refl (w.heap.size + 1) _).setCell 2 (.int .i64 N2)) (Nat.le_refl _) (Nat.lt_succ_self _)) (.inr (by omega)))
  clear B0 Bs0 Bs1 Bs2 Br0 Br1 I I0 I1 I2 I3 I4
  go_wp2
  refine bodyPost_ret (v := .agg #[.slice ra rl rq, .int .i64 N1, .int .i64 N2]) (by simp [results, Tryz.results10, go_sem, bc0]) rfl ⟨.slice ra rl rq, rfl, (unhide I5).wide (by omega) (by simp) (Nat.le_refl _), Br2⟩
theorem eqX {v u : Value} {zs : List Row.E} {N1 N2 : Int} {w : World} (h : Row.Is w v zs) (h' : Row.Is w u zs) : Calls Tryz.prog 14 #[.agg #[v, .int .i64 N1, .int .i64 N2], .agg #[u, .int .i64 N1, .int .i64 N2]] w fun e w' => e = .returned (.bool true) ∧ Below w.heap.size w w' :=
  eq_one (c := (v, .int .i64 N1, .int .i64 N2)) (d := (u, .int .i64 N1, .int .i64 N2)) (x := (zs, N1, N2)) ⟨h, rfl, rfl⟩ ⟨h', rfl, rfl⟩
theorem szX {v : Value} {zs : List Row.E} {N1 N2 : Int} {w : World} (left : Int) (h : Row.Is w v zs) (hg : good (zs, N1, N2)) (h0 : 0 ≤ left) (h1 : left ≤ 1048576) : Calls Tryz.prog 7 #[.agg #[v, .int .i64 N1, .int .i64 N2], .int .i64 left] w fun e w' => e = .returned (.int .i64 (if left - (Row.tot zs : Int) < 0 then -1 else left - (Row.tot zs : Int))) ∧ Below w.heap.size w w' :=
  sz_one (c := (v, .int .i64 N1, .int .i64 N2)) (x := (zs, N1, N2)) left ⟨h, rfl, rfl⟩ hg h0 h1
theorem markA {lo hi : Nat} {v : Value} {zs : List Row.E} {N1 N2 : Int} {w : World} (k0 : Nat) (hk1 : 1 ≤ k0) (hk2 : k0 ≤ 100000000) (ht : Row.tot zs ≤ 1048576) (h : Row.Own lo hi w v zs) :
    Calls Tryz.prog 16 #[.agg #[v, .int .i64 N1, .int .i64 N2], .int .i64 k0] w fun e w' => ∃ k : Nat, e = .returned (.int .i64 k) ∧ 1 ≤ k ∧ k ≤ k0 + 4194304 ∧ Zone lo hi w w' := by
  obtain ⟨ra, rl, rq, rfl⟩ := Row.Own.form h
  have b : Below w.heap.size w (w.alloc (.cells #[.slice ra rl rq, .int .i64 N1, .int .i64 N2] 31)) := (Below.refl _ _).alloc (Nat.le_refl _) _
  have H := hide (Row.markA k0 hk1 hk2 ht (h.below b))
  have zb : Zone lo hi w (w.alloc (.cells #[.slice ra rl rq, .int .i64 N1, .int .i64 N2] 31)) := Zone.of_below b
  clear h ht b
  go_enter Tryz.func16, Tryz.ntmps16
  go_wp2_with fail
  refine (unhide H).mono ?_
  rintro e v0 ⟨k, rfl, h1, h2, z⟩
  go_wp2_with fail
  go_ret
  exact ⟨k, rfl, h1, h2, zb.trans z⟩
def ask (ms : List Mat.E) (f t : Int) (zs : List Row.E) (H F : Int) : List Row.E := if Row.tableB zs H F = true then Row.ask ms f t zs else []
set_option maxHeartbeats 4000000 in
theorem impl_ask {w : World} {v u : Value} {zs : List Row.E} {ms : List Mat.E} (f t H F : Int) (h : Row.Is w v zs) (hm : Mat.Is w u ms) (hg : ∀ x ∈ zs, Row.good x) (hlen : zs.length ≤ maxLen) (hmg : ∀ x ∈ ms, Mat.good x) (hml : ms.length ≤ maxLen) :
    Calls Tryz.prog 12 #[.agg #[v, .int .i64 H, .int .i64 F], u, .int .i64 f, .int .i64 t] w fun e w' => ∃ r, e = .returned r ∧ Row.Own w.heap.size w'.heap.size w' r (ask ms f t zs H F) ∧ Below w.heap.size w w' := by
  have H1 := hide (fun W (hb : Below w.heap.size w W) => Row.impl_table (H := H) (F := F) (h.below hb) hg hlen)
  have H2 := hide (fun W (hb : Below w.heap.size w W) => Row.impl_ask f t (h.below hb) (hm.below hb) hg hlen hmg hml)
  obtain ⟨av, nv, cv, ev⟩ : ∃ a n c, v = .slice a n c := by obtain ⟨cs, -, hL, -⟩ := h; obtain ⟨-, a, c, e, -⟩ := hL; exact ⟨a, _, c, e⟩
  obtain ⟨au, nu, cu, eu⟩ : ∃ a n c, u = .slice a n c := by obtain ⟨-, a, c, e, -⟩ := hm; exact ⟨a, _, c, e⟩
  clear h hm hg hlen hmg hml
  subst ev eu
  have b0 : Below w.heap.size w (w.alloc (.cells #[.slice av nv cv, .int .i64 H, .int .i64 F] 31)) := (Below.refl _ _).alloc (Nat.le_refl _) _
  cases ho : Row.tableB zs H F
  · have HR := hide (show ask ms f t zs H F = [] by unfold ask; rw [ho]; rfl)
    rw [ho] at H1
    clear ho
    go_enter Tryz.func12, Tryz.ntmps12
    go_wp2_with fail
    refine (unhide H1 _ b0).mono ?_
    rintro e w1 ⟨rfl, b1⟩
    have b01 := b0.trans (b1.mono b0.size)
    go_wp2_with fail
    go_ret
    exact ⟨_, rfl, by rw [unhide HR]; have := Row.own_nil w.heap.size w1; exact this, b01⟩
  · have HR := hide (show ask ms f t zs H F = Row.ask ms f t zs by unfold ask; rw [ho]; rfl)
    rw [ho] at H1
    clear ho
    go_enter Tryz.func12, Tryz.ntmps12
    go_wp2_with fail
    refine (unhide H1 _ b0).mono ?_
    rintro e w1 ⟨rfl, b1⟩
    have b01 := b0.trans (b1.mono b0.size)
    obtain ⟨bc, bf⟩ := bcell b1
    simp only [World.size_alloc] at bc bf
    go_wp2_with fail
    refine (unhide H2 _ b01).mono ?_
    rintro e w2 ⟨r, rfl, o2, b2⟩
    have b02 := b01.trans (b2.mono b01.size)
    have O2 := hide (show Row.Own w.heap.size w2.heap.size w2 r (ask ms f t zs H F) by rw [unhide HR]; exact o2.wide b01.size (Nat.le_refl _) (Nat.le_refl _))
    clear o2 b2
    go_wp2_with fail
    go_ret
    exact ⟨r, rfl, unhide O2, b02⟩
theorem table_ok {zs : List Row.E} {H F : Int} (h : Row.tableB zs H F = true) : Row.ok zs = true := by
  unfold Row.tableB at h
  simp only [Bool.and_eq_true] at h
  exact h.1.2
set_option maxHeartbeats 4000000 in
theorem spec_ask {w : World} {v u : Value} {zs : List Row.E} {ms : List Mat.E} (f t H F : Int) (h : Row.Is w v zs) (hm : Mat.Is w u ms) (hg : ∀ x ∈ zs, Row.good x) (hlen : zs.length ≤ maxLen) (hmg : ∀ x ∈ ms, Mat.good x) (hml : ms.length ≤ maxLen) :
    Calls Tryz.prog 9 #[.agg #[v, .int .i64 H, .int .i64 F], u, .int .i64 f, .int .i64 t] w fun e w' => ∃ r, e = .returned r ∧ Row.Own w.heap.size w'.heap.size w' r (ask ms f t zs H F) ∧ Below w.heap.size w w' := by
  have H1 := hide (fun W (hb : Below w.heap.size w W) => Row.spec_table (H := H) (F := F) (h.below hb) hg hlen)
  have H2 := hide (fun W (hb : Below w.heap.size w W) => Mat.spec_ok (hm.below hb) hmg hml)
  have H3 := hide (fun W (hb : Below w.heap.size w W) (ho : Row.ok zs = true) (hmo : Mat.ok ms = true) => Row.l5ask f t (h.below hb) (hm.below hb) hg hmg ho hmo)
  obtain ⟨av, nv, cv, ev⟩ : ∃ a n c, v = .slice a n c := by obtain ⟨cs, -, hL, -⟩ := h; obtain ⟨-, a, c, e, -⟩ := hL; exact ⟨a, _, c, e⟩
  obtain ⟨au, nu, cu, eu⟩ : ∃ a n c, u = .slice a n c := by obtain ⟨-, a, c, e, -⟩ := hm; exact ⟨a, _, c, e⟩
  clear h hm hg hlen hmg hml
  subst ev eu
  have b0 : Below w.heap.size w (w.alloc (.cells #[.slice av nv cv, .int .i64 H, .int .i64 F] 31)) := (Below.refl _ _).alloc (Nat.le_refl _) _
  have HEm := hide (fun (w1 : World) (b1 : Below w.heap.size w w1) => show Row.Own w.heap.size (w1.alloc (.cells #[] 68)).heap.size (w1.alloc (.cells #[] 68)) (.slice (some ⟨w1.heap.size, 0, none⟩) 0 0) [] from ⟨[], rfl, own_empty b1.size, own_block_lt (own_empty (base := w.heap.size) (e := 68) (size := 2) b1.size), Nat.le_refl _, fun i j _ h => absurd h (Nat.not_lt_zero _), fun i j _ h => absurd h (Nat.not_lt_zero _), fun i h => absurd h (Nat.not_lt_zero _)⟩)
  cases ho : Row.tableB zs H F
  · have HR := hide (show ask ms f t zs H F = [] by unfold ask; rw [ho]; rfl)
    rw [ho] at H1
    clear ho H3
    go_enter Tryz.func9, Tryz.ntmps9
    go_wp2_with fail
    refine (unhide H1 _ b0).mono ?_
    rintro e w1 ⟨rfl, b1⟩
    have b01 := b0.trans (b1.mono b0.size)
    have he := hide (unhide HEm w1 b01)
    have b3 := b01.alloc b01.size (.cells #[] 68)
    clear HEm
    go_wp2_with fail
    go_ret
    exact ⟨_, rfl, by rw [unhide HR]; exact unhide he, b3⟩
  have hrk := table_ok ho
  cases hmo : Mat.ok ms
  · have HR := hide (show ask ms f t zs H F = [] by
      unfold ask Row.ask
      rw [ho, hrk]
      simp only [if_true]
      unfold Row.outL
      rw [List.flatMap_eq_nil_iff]
      intro x _
      rw [if_pos (show Row.askG ms f t x = [] by unfold Row.askG Mat.mlet; rw [hmo]; rfl)])
    rw [ho] at H1
    rw [hmo] at H2
    clear ho H3 hmo hrk
    go_enter Tryz.func9, Tryz.ntmps9
    go_wp2_with fail
    refine (unhide H1 _ b0).mono ?_
    rintro e w1 ⟨rfl, b1⟩
    have b01 := b0.trans (b1.mono b0.size)
    go_wp2_with fail
    refine (unhide H2 w1 b01).mono ?_
    rintro e w2 ⟨rfl, b2⟩
    have b02 := b01.trans (b2.mono b01.size)
    have he := hide (unhide HEm w2 b02)
    have b3 := b02.alloc b02.size (.cells #[] 68)
    clear HEm
    go_wp2_with fail
    go_ret
    exact ⟨_, rfl, by rw [unhide HR]; exact unhide he, b3⟩
  · have HR := hide (show ask ms f t zs H F = Row.outL (Row.askG ms f t) zs by unfold ask Row.ask; rw [ho, hrk]; rfl)
    have H4 := hide (fun W hb => unhide H3 W hb hrk hmo)
    rw [ho] at H1
    rw [hmo] at H2
    clear ho H3 hmo hrk HEm
    go_enter Tryz.func9, Tryz.ntmps9
    go_wp2_with fail
    refine (unhide H1 _ b0).mono ?_
    rintro e w1 ⟨rfl, b1⟩
    have b01 := b0.trans (b1.mono b0.size)
    obtain ⟨bc, bf⟩ := bcell b1
    simp only [World.size_alloc] at bc bf
    have z1 := b1.size
    simp only [World.size_alloc] at z1
    go_wp2_with fail
    refine (unhide H2 w1 b01).mono ?_
    rintro e w2 ⟨rfl, b2⟩
    have b02 := b01.trans (b2.mono b01.size)
    have hcv : w2.cell? ⟨w.heap.size, 0, none⟩ = some (.slice av nv cv) := (b2.cell (p := ⟨w.heap.size, 0, none⟩) (by show w.heap.size < _; omega)).trans ((bc _ _ (by omega)).trans (by simp [go_sem]))
    clear bc bf
    go_wp2_with fail
    refine (unhide H4 _ b02).mono ?_
    rintro e w3 ⟨r, rfl, o3, b3⟩
    have b03 := b02.trans (b3.mono b02.size)
    have O3 := hide (show Row.Own w.heap.size w3.heap.size w3 r (ask ms f t zs H F) by rw [unhide HR]; exact o3.wide b02.size (Nat.le_refl _) (Nat.le_refl _))
    clear o3 b3
    go_wp2_with fail
    go_ret
    exact ⟨r, rfl, unhide O3, b03⟩
end Go.Proofs.YtomncodkbcngmaaGreat.Tab

/- What the laws' own helpers do to mark a slice of impl.Match, and to see that the marks are held. -/
namespace Go.Proofs.YtomncodkbcngmaaGreat.Mat
open Go.RowKit Rw
set_option linter.unusedVariables false
attribute [local go_sem ↓] Go.wp_at_zero Go.wp_at_succ
def markOne (q : Nat) : E := (((q : Nat) : Int), Mark.text (q + 1), Mark.text (q + 2))
def marks (k0 n : Nat) : List E := (List.range n).map fun i => markOne (k0 + 3 * i)
theorem marks_length (k0 n : Nat) : (marks k0 n).length = n := by simp [marks]
theorem marks_succ (k0 n : Nat) : marks k0 (n + 1) = marks k0 n ++ [markOne (k0 + 3 * n)] := by simp [marks, List.range_succ]
theorem marks_at (k0 n i : Nat) (h : i < n) : at' (marks k0 n) i = markOne (k0 + 3 * i) := by simp [marks, at', List.getD, h]
theorem flat_marks (k0 j : Nat) : flat (marks k0 (j + 1)) = flat (marks k0 j) ++ [.int .i64 (((k0 + 3 * j) : Nat) : Int), .string (Mark.text ((k0 + 3 * j) + 1)), .string (Mark.text ((k0 + 3 * j) + 2))] := by rw [marks_succ]; unfold flat; rw [flatOf_append, flatOf_one]; rfl
set_option maxRecDepth 100000 in
set_option maxHeartbeats 2000000 in
theorem mark_some (base g n cap : Nat) (zs : List E) (k0 : Nat) (w : World) (hk1 : 1 ≤ k0) (hk2 : k0 ≤ 500000000000) (hn : n ≤ 8388608) (hz : zs.length = n) (hown : w.ownsRow base 62 3 (.slice (some ⟨g, 0, none⟩) n cap) n (flat zs)) :
    Calls Tryz.prog 17 #[.slice (some ⟨g, 0, none⟩) n cap, .int .i64 k0] w fun e w' => e = .returned (.int .i64 ((k0 + 3 * n : Nat) : Int)) ∧
      w'.ownsRow base 62 3 (.slice (some ⟨g, 0, none⟩) n cap) n (flat (marks k0 n)) ∧ Zone g (g + 1) w w' := by
  have hg0 := own_lt hown
  go_enter Tryz.func17, Tryz.ntmps17
  go_wp2
  go_loopw [1, 5] (fun kv i wr => ∃ (j q : Nat) (r : List Value), j ≤ n ∧ i = .int .i64 j ∧ kv = .int .i64 q ∧ Hid (q = k0 + 3 * j) ∧ r.length = (n - j) * 3 ∧ wr.ownsRow base 62 3 (.slice (some ⟨g, 0, none⟩) n cap) n (flat (marks k0 j) ++ r) ∧ Zone g (g + 1) w wr) (fun _ i _ => n - (intOf i).toNat)
  case atStart => exact ⟨0, k0, flat zs, Nat.zero_le _, rfl, rfl, hide (by omega), by rw [flat_length]; omega, by simpa [marks, flat, flatOf] using hown, Zone.refl _ _ _⟩
  case round =>
    obtain ⟨j, q, r, hj, rfl, rfl, HQ, hrl, ho, hzn⟩ := hrel
    have hsz := own_lt ho
    have hq1 : 1 ≤ q := by have := unhide HQ; omega
    have hq2 : q ≤ 600000000000 := by have := unhide HQ; omega
    by_cases hlt : j < n
    · obtain ⟨u0, u1, u2, L, rfl, hB⟩ := split_e r (n - j - 1) (by rw [hrl]; omega)
      have fln : (flat (marks k0 j)).length = j * 3 := by rw [flat_length, marks_length]
      have h0 : (0 : Int) ≤ (j : Int) := Int.natCast_nonneg _
      have h1 : (j : Int) < (n : Int) := by omega
      have HF := hide fln
      have HE := hide (flat_marks k0 j)
      rw [← unhide HQ] at HE
      clear fln
      have hd0 : World.cell? wr ⟨g, j * 3, none⟩ = some u0 := by rw [ho.cellAt (j * 3) (by omega)]; simp [unhide HF]
      have hf0 := ho.frozenAt (j * 3)
      have p0 := (ho.stored (j * 3) (.int .i64 ((q : Int)))).1
      have x0 := hzn.store (Nat.le_refl g) (Nat.lt_succ_self g) (j * 3) (.int .i64 ((q : Int)))
      clear ho hzn
      go_wp2_with fail
      refine (Mark.text_at (q + 1) _ (by omega) (by omega) (by omega) _).mono ?_
      rintro e w1 ⟨rfl, b1⟩
      have o1 := own_below p0 b1
      have y1 := x0.trans (Zone.of_below b1)
      clear b1 p0 x0
      have hd1 : World.cell? w1 ⟨g, j * 3 + 1, none⟩ = some u1 := by rw [o1.cellAt (j * 3 + 1) (by omega)]; simp [unhide HF]
      have hf1 := o1.frozenAt (j * 3 + 1)
      have p1 := (o1.stored (j * 3 + 1) (.string (Mark.text (q + 1)))).1
      have x1 := y1.store (Nat.le_refl g) (Nat.lt_succ_self g) (j * 3 + 1) (.string (Mark.text (q + 1)))
      clear o1 y1
      go_wp2_with fail
      refine (Mark.text_at (q + 2) _ (by omega) (by omega) (by omega) _).mono ?_
      rintro e w2 ⟨rfl, b2⟩
      have o2 := own_below p1 b2
      have y2 := x1.trans (Zone.of_below b2)
      clear b2 p1 x1
      have hd2 : World.cell? w2 ⟨g, j * 3 + 2, none⟩ = some u2 := by rw [o2.cellAt (j * 3 + 2) (by omega)]; simp [unhide HF]
      have hf2 := o2.frozenAt (j * 3 + 2)
      have p2 := (o2.stored (j * 3 + 2) (.string (Mark.text (q + 2)))).1
      have x2 := y2.store (Nat.le_refl g) (Nat.lt_succ_self g) (j * 3 + 2) (.string (Mark.text (q + 2)))
      clear o2 y2
      rw [set_e _ _ _ _ _ _ _ _ _ (unhide HF)] at p2
      have P := hide p2
      have X := hide x2
      clear p2 x2
      have P' := hide (show World.ownsRow (World.setCell w2 ⟨g, j * 3 + 2, none⟩ (.string (Mark.text (q + 2)))) base 62 3 (.slice (some ⟨g, 0, none⟩) n cap) n (flat (marks k0 (j + 1)) ++ L) by rw [unhide HE]; exact unhide P)
      clear P
      go_wp2_with fail
      go_roundw
      case rel => exact ⟨j + 1, q + 3, L, by omega, by go_num, by go_num, hide (by have := unhide HQ; omega), by omega, unhide P', unhide X⟩
      case measure => simp [intOf]; omega
    · obtain rfl : j = n := by omega
      obtain rfl : r = [] := List.eq_nil_of_length_eq_zero (by rw [hrl]; omega)
      rw [List.append_nil] at ho
      go_wp2
      go_ret
      exact ⟨ret_int (by have := unhide HQ; omega), ho, hzn⟩
theorem mark_nil (k0 : Int) (w : World) : Calls Tryz.prog 17 #[.slice none 0 0, .int .i64 k0] w fun e w' => e = .returned (.int .i64 k0) ∧ w' = w := by
  go_enter Tryz.func17, Tryz.ntmps17
  go_wp2
  refine wp_loop_rounds 1 ?_
  rw [rounds_succ]
  go_wp2
  go_ret
  exact ⟨rfl, rfl⟩
/-- new marks are laid in a row of the call's own; what lies elsewhere is as it was -/
theorem mark_any {base : Nat} {v : Value} {zs : List E} {w : World} (k0 : Nat) (hk1 : 1 ≤ k0) (hk2 : k0 ≤ 500000000000) (hn : zs.length ≤ 8388608) (hown : w.ownsRow base 62 3 v zs.length (flat zs)) {lo hi : Nat} (hin : ∀ k, v.ownBlock = some k → lo ≤ k ∧ k < hi) :
    Calls Tryz.prog 17 #[v, .int .i64 k0] w fun e w' => e = .returned (.int .i64 ((k0 + 3 * zs.length : Nat) : Int)) ∧
      w'.ownsRow base 62 3 v zs.length (flat (marks k0 zs.length)) ∧ Zone lo hi w w' := by
  have hf := hown
  rcases hown.2 with ⟨h1, h2⟩ | ⟨g, cap, cur, h1, h2, hg, _⟩
  · subst h1
    obtain rfl : zs = [] := List.eq_nil_of_length_eq_zero h2
    refine (mark_nil k0 w).mono ?_
    rintro e w' ⟨rfl, rfl⟩
    exact ⟨ret_int (by simp), ⟨rfl, .inl ⟨rfl, rfl⟩⟩, Zone.refl _ _ _⟩
  · subst h1
    refine (mark_some base g zs.length cap zs k0 w hk1 hk2 hn rfl hf).mono ?_
    rintro e w' ⟨rfl, ho, hon⟩
    have := hin g rfl
    exact ⟨rfl, ho, hon.mono (by omega) (by omega)⟩
theorem own_marks {base : Nat} {v : Value} {n k0 : Nat} {w : World} (h : w.ownsRow base 62 3 v n (flat (marks k0 n))) : Is w v (marks k0 n) := is_of_own (by rw [marks_length]; exact h)
end Go.Proofs.YtomncodkbcngmaaGreat.Mat

/- One face for what the laws' helpers do with slices of impl.Match. -/
namespace Go.Proofs.YtomncodkbcngmaaGreat.Mat
open Go.RowKit Rw
set_option linter.unusedVariables false
/-- a row of its own, in a block from lo on, ahead of hi -/
def Own (lo hi : Nat) (w : World) (v : Value) (zs : List E) : Prop := w.ownsRow lo 62 3 v zs.length (flat zs) ∧ (∀ k, v.ownBlock = some k → k < hi) ∧ hi ≤ w.heap.size
theorem Own.is {lo hi : Nat} {w : World} {v : Value} {zs : List E} (h : Own lo hi w v zs) : Is w v zs := is_of_own h.1
theorem Own.below {lo hi : Nat} {w w' : World} {v : Value} {zs : List E} (h : Own lo hi w v zs) (hb : Below w.heap.size w w') : Own lo hi w' v zs := ⟨own_below h.1 hb, h.2.1, Nat.le_trans h.2.2 hb.size⟩
theorem Own.zone {lo hi a b : Nat} {w w' : World} {v : Value} {zs : List E} (h : Own lo hi w v zs) (hz : Zone a b w w') (ho : hi ≤ a ∨ b ≤ lo) : Own lo hi w' v zs :=
  ⟨hz.own h.1 (fun k hk => by have := h.2.1 k hk; have := own_ge h.1 k hk; omega), h.2.1, Nat.le_trans h.2.2 hz.size⟩
theorem Own.form {lo hi : Nat} {w : World} {v : Value} {zs : List E} (h : Own lo hi w v zs) : ∃ a l q, v = .slice a l q := by
  obtain ⟨-, a, q, e, -⟩ := lies_of_own h.1
  exact ⟨a, _, q, e⟩
theorem Own.of {lo : Nat} {w : World} {v : Value} {zs : List E} (h : w.ownsRow lo 62 3 v zs.length (flat zs)) : Own lo w.heap.size w v zs := ⟨h, own_block_lt h, Nat.le_refl _⟩
theorem eqX {v u : Value} {zs : List E} {w : World} (h : Is w v zs) (h' : Is w u zs) : Calls Tryz.prog 15 #[v, u] w fun e w' => e = .returned (.bool true) ∧ Below w.heap.size w w' := eq_any h h'
theorem toX {w : World} {v : Value} {zs : List E} (h : Is w v zs) (ht : tot zs ≤ 1048576) : Calls Tryz.prog 11 #[v] w fun e w' => ∃ v', e = .returned v' ∧ Own w.heap.size w'.heap.size w' v' zs ∧ Below w.heap.size w w' := by
  refine (to_any h (by have := tot_len zs; omega)).mono ?_
  rintro e w' ⟨rfl, o, b⟩
  exact ⟨_, rfl, Own.of o, b⟩
theorem markA {lo hi : Nat} {v : Value} {zs : List E} {w : World} (k0 : Nat) (hk1 : 1 ≤ k0) (hk2 : k0 ≤ 100000000) (ht : tot zs ≤ 1048576) (h : Own lo hi w v zs) :
    Calls Tryz.prog 17 #[v, .int .i64 k0] w fun e w' => ∃ k : Nat, e = .returned (.int .i64 k) ∧ 1 ≤ k ∧ k ≤ k0 + 4194304 ∧ Zone lo hi w w' := by
  have hl := tot_len zs
  refine (mark_any k0 hk1 (by omega) (by omega) h.1 (lo := lo) (hi := hi) (fun k hk => ⟨own_ge h.1 k hk, h.2.1 k hk⟩)).mono ?_
  rintro e w' ⟨rfl, -, z⟩
  exact ⟨_, rfl, by omega, by omega, z⟩
def cnt (zs : List E) : Nat := 3 * zs.length
def mk (k0 : Nat) (zs : List E) : List E := marks k0 zs.length
theorem mk_length (k0 : Nat) (zs : List E) : (mk k0 zs).length = zs.length := marks_length _ _
theorem markX {lo hi : Nat} {v : Value} {zs : List E} {w : World} (k0 : Nat) (hk1 : 1 ≤ k0) (hk2 : k0 ≤ 100000000) (hc : zs.length ≤ 2097152) (h : Own lo hi w v zs) :
    Calls Tryz.prog 17 #[v, .int .i64 k0] w fun e w' => ∃ k : Nat, e = .returned (.int .i64 k) ∧ k = k0 + cnt zs ∧ Own lo hi w' v (mk k0 zs) ∧ Zone lo hi w w' := by
  refine (mark_any k0 hk1 (by omega) (by omega) h.1 (lo := lo) (hi := hi) (fun k hk => ⟨own_ge h.1 k hk, h.2.1 k hk⟩)).mono ?_
  rintro e w' ⟨rfl, o, z⟩
  exact ⟨_, rfl, rfl, ⟨by rw [mk_length]; exact o, h.2.1, Nat.le_trans h.2.2 z.size⟩, z⟩
end Go.Proofs.YtomncodkbcngmaaGreat.Mat
