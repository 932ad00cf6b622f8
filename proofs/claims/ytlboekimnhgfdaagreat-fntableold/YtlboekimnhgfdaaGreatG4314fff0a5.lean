/- My own texts of one claim, laid together by program: RowTo, RowEq, RowTiny, TabLaw. -/
import Derived.Test.YtlboekimnhgfdaaGreatG41d3d5ff59
import Derived.Test.YtlboekimnhgfdaaGreatG7c8bd49666
/- The laws' copies of slices of impl.Row. -/
namespace Go.Proofs.YtlboekimnhgfdaaGreat.Row
open Go.RowKit Rw
set_option linter.unusedVariables false
attribute [local go_sem ↓] Go.wp_at_zero Go.wp_at_succ
theorem set_e (A : List Value) (u0 u1 x0 x1 : Value) (L : List Value) (k : Nat) (h : A.length = k) : (((A ++ u0 :: u1 :: L).set k x0).set (k + 1) x1) = A ++ [x0, x1] ++ L := by
  subst h
  simp [List.set_append_right]
theorem split_e (r : List Value) (n : Nat) (h : r.length = (n + 1) * 2) : ∃ u0 u1 L, r = u0 :: u1 :: L ∧ L.length = n * 2 := by
  match r, h with
  | u0 :: u1 :: L, h => exact ⟨u0, u1, L, rfl, by simp only [List.length_cons] at h; omega⟩
  | [], h => simp at h <;> omega
  | [_], h => simp at h <;> omega
set_option maxHeartbeats 2000000 in
theorem to_one {c : C} {x : E} {w : World} (h : Elem w c x) (ht : tiny x) : Calls Tryz.prog 81 #[.agg #[c.1, c.2]] w fun e w' => ∃ c' : C, e = .returned (.agg #[c'.1, c'.2]) ∧ Elem w' c' x ∧ far w.heap.size c' ∧ Below w.heap.size w w' := by
  obtain ⟨c0, c1⟩ := c
  obtain ⟨h0, h1⟩ := h
  simp only at h0 h1
  have T0 := hide (fun W (hb : Below w.heap.size w W) => Lab.to_any (h0.below hb) (ht.1))
  have T1 := hide (fun W (hb : Below w.heap.size w W) => Sam.to_any (h1.below hb) (ht.2))
  clear h0 h1 ht
  obtain ⟨l0, hl0⟩ : ∃ l, l = (x.1).length := ⟨_, rfl⟩
  rw [← hl0] at T0
  have HL0 := hide hl0
  clear hl0
  obtain ⟨l1, hl1⟩ : ∃ l, l = (x.2).length := ⟨_, rfl⟩
  rw [← hl1] at T1
  have HL1 := hide hl1
  clear hl1
  have B := (((Below.refl w.heap.size w).alloc (Nat.le_refl _) (.cells #[c0, c1] 110)).alloc (by simp) (.cells #[.slice none 0 0, .slice none 0 0] 93)).alloc (by simp; omega) (.cells #[.slice none 0 0, .slice none 0 0] 93)
  go_enter Tryz.func81, Tryz.ntmps81
  go_wp2_with fail
  refine (unhide T0 _ B).mono ?_
  rintro e v0 ⟨rfl, r0, b0⟩
  obtain ⟨bc0, bf0⟩ := bcell b0
  have z0 := b0.size
  have B0 := B.trans (b0.mono B.size)
  simp only [World.size_alloc] at z0 bc0 bf0 r0 ⊢
  clear b0
  have I0 := hide (show Lab.Is v0 (.slice (some ⟨w.heap.size + 1 + 1 + 1, 0, none⟩) l0 l0) (x.1) by rw [unhide HL0] at r0 ⊢; exact Lab.is_of_own r0)
  clear r0
  have Bs0 := B0.setCell (p := ⟨w.heap.size + 1 + 1, 0, none⟩) (by show w.heap.size ≤ w.heap.size + 1 + 1; omega) (.slice (some ⟨w.heap.size + 1 + 1 + 1, 0, none⟩) l0 l0)
  clear B0
  have I0 := hide (((OnlyAt.refl (w.heap.size + 1 + 1) _).setCell 0 (.slice (some ⟨w.heap.size + 1 + 1 + 1, 0, none⟩) l0 l0)).lies (unhide I0) (fun k hk => by cases hk; dsimp only; omega))
  go_wp2_with fail
  refine (unhide T1 _ Bs0).mono ?_
  rintro e v1 ⟨rfl, r1, b1⟩
  obtain ⟨bc1, bf1⟩ := bcell b1
  have z1 := b1.size
  have B1 := Bs0.trans (b1.mono Bs0.size)
  have I0 := hide ((unhide I0).below b1)
  simp only [World.size_setCell] at z1 bc1 bf1 r1 ⊢
  clear b1
  have bd1 : ∀ b o, b < w.heap.size + 1 + 1 + 1 → v1.cell? ⟨b, o, none⟩ = _ := fun b o h => bc1 b o (by omega)
  have be1 : ∀ b o, b < w.heap.size + 1 + 1 + 1 → v1.frozen? ⟨b, o, none⟩ = v0.frozen? ⟨b, o, none⟩ := fun b o h => (bf1 b o (by omega)).trans (World.frozen?_setCell _ _ _ _)
  clear bc1 bf1
  have I1 := hide (show Sam.Is v1 (.slice (some ⟨v0.heap.size, 0, none⟩) l1 l1) (x.2) by rw [unhide HL1] at r1 ⊢; exact Sam.is_of_own r1)
  clear r1
  have Bs1 := B1.setCell (p := ⟨w.heap.size + 1 + 1, 1, none⟩) (by show w.heap.size ≤ w.heap.size + 1 + 1; omega) (.slice (some ⟨v0.heap.size, 0, none⟩) l1 l1)
  clear B1
  have I0 := hide (((OnlyAt.refl (w.heap.size + 1 + 1) _).setCell 1 (.slice (some ⟨v0.heap.size, 0, none⟩) l1 l1)).lies (unhide I0) (fun k hk => by cases hk; dsimp only; omega))
  have I1 := hide (((OnlyAt.refl (w.heap.size + 1 + 1) _).setCell 1 (.slice (some ⟨v0.heap.size, 0, none⟩) l1 l1)).lies (unhide I1) (fun k hk => by cases hk; dsimp only; omega))
  have Br0 := Bs1.setCell (p := ⟨w.heap.size + 1, 0, none⟩) (by show w.heap.size ≤ w.heap.size + 1; omega) (.slice (some ⟨w.heap.size + 1 + 1 + 1, 0, none⟩) l0 l0)
  clear Bs1
  have I0 := hide (((OnlyAt.refl (w.heap.size + 1) _).setCell 0 (.slice (some ⟨w.heap.size + 1 + 1 + 1, 0, none⟩) l0 l0)).lies (unhide I0) (fun k hk => by cases hk; dsimp only; omega))
  have I1 := hide (((OnlyAt.refl (w.heap.size + 1) _).setCell 0 (.slice (some ⟨w.heap.size + 1 + 1 + 1, 0, none⟩) l0 l0)).lies (unhide I1) (fun k hk => by cases hk; dsimp only; omega))
  have Br1 := Br0.setCell (p := ⟨w.heap.size + 1, 1, none⟩) (by show w.heap.size ≤ w.heap.size + 1; omega) (.slice (some ⟨v0.heap.size, 0, none⟩) l1 l1)
  clear Br0
  have I0 := hide (((OnlyAt.refl (w.heap.size + 1) _).setCell 1 (.slice (some ⟨v0.heap.size, 0, none⟩) l1 l1)).lies (unhide I0) (fun k hk => by cases hk; dsimp only; omega))
  have I1 := hide (((OnlyAt.refl (w.heap.size + 1) _).setCell 1 (.slice (some ⟨v0.heap.size, 0, none⟩) l1 l1)).lies (unhide I1) (fun k hk => by cases hk; dsimp only; omega))
  go_wp2
  refine bodyPost_ret (v := .agg #[(.slice (some ⟨w.heap.size + 1 + 1 + 1, 0, none⟩) l0 l0), (.slice (some ⟨v0.heap.size, 0, none⟩) l1 l1)]) (by simp [results, Tryz.results81, go_sem, bc0, bd1]) rfl ⟨((.slice (some ⟨w.heap.size + 1 + 1 + 1, 0, none⟩) l0 l0), (.slice (some ⟨v0.heap.size, 0, none⟩) l1 l1)), rfl, ⟨unhide I0, unhide I1⟩, ⟨fun k hk => by cases hk; dsimp only; omega, fun k hk => by cases hk; dsimp only; omega⟩, Br1⟩
set_option maxRecDepth 100000 in
set_option maxHeartbeats 4000000 in
theorem to_any {w : World} {v : Value} {zs : List E} (h : Is w v zs) (hlen : zs.length ≤ 2097152) (ht : ∀ x ∈ zs, tiny x) :
    Calls Tryz.prog 42 #[v] w fun e w' => e = .returned (.slice (some ⟨w.heap.size, 0, none⟩) zs.length zs.length) ∧ IsF w.heap.size w' (.slice (some ⟨w.heap.size, 0, none⟩) zs.length zs.length) zs ∧ Below w.heap.size w w' := by
  obtain ⟨i0, hi, hz0, hz1, hz2⟩ := info_parts info_e
  obtain ⟨cs, hcs, hL, hE⟩ := h
  have HE := hide hE
  have HTt := hide ht
  obtain ⟨-, a, cap, rfl, hc, hm, -, hr⟩ := hL
  unfold maxLen at hm
  obtain ⟨n, hn⟩ : ∃ n, n = zs.length := ⟨_, rfl⟩
  rw [← hn] at hc hr hlen hcs ⊢
  have HN := hide hn
  have HC := hide hcs
  clear hn hE ht hcs
  go_enter Tryz.func42, Tryz.ntmps42
  go_wp2_with (at_make; refine wpList_make_full _ rfl _ _ _ rfl w.heap.size 93 i0 (.agg #[.slice none 0 0, .slice none 0 0]) 2 Tryz.underlying28 hi hz0 hz1 .i64 .i64 _ _ n rfl rfl rfl rfl (by rw [hz2]; omega) (by unfold maxLen; omega) (Nat.le_refl _) ?_; intro w1 hown1 hgrow1)
  go_loopw [4] (fun i wr => ∃ (j : Nat) (r : List Value) (ds : List C), j ≤ n ∧ i = .int .i64 j ∧ r.length = (n - j) * 2 ∧ ds.length = j ∧ wr.ownsRow w.heap.size 93 2 (.slice (some ⟨w.heap.size, 0, none⟩) n n) n (flatOf cl ds ++ r) ∧ Hid (∀ i, i < j → Elem wr (cat ds i) (at' zs i) ∧ far (w.heap.size + 1) (cat ds i)) ∧ Below w.heap.size w wr) (fun i _ => n - (intOf i).toNat)
  case atStart =>
    refine ⟨0, _, [], Nat.zero_le _, rfl, ?_, rfl, hown1, hide (fun i h => by omega), below_grown (Below.refl _ _) (Nat.le_refl _) hgrow1 (by simp)⟩
    have := hown1.1
    simpa using this
  case round =>
    obtain ⟨j, r, ds, hj, rfl, hrl, hdl, hown, HD, hbel⟩ := hrel
    have hsz := own_lt hown
    by_cases hlt : j < n
    · obtain ⟨u0, u1, L, rfl, hB⟩ := split_e r (n - j - 1) (by rw [hrl]; omega)
      obtain ⟨b, off, rfl, hl, hcells⟩ := hr (by omega)
      have fa := flat_at cs j (by have := unhide HC; omega)
      have hc0 : wr.cell? ⟨b, off + j * 2, none⟩ = some ((cat cs j).1) := (hbel.cell (p := ⟨b, _, none⟩) hl).trans (hcells (j * 2) _ fa.1)
      have hc1 : wr.cell? ⟨b, off + j * 2 + 1, none⟩ = some ((cat cs j).2) := (hbel.cell (p := ⟨b, _, none⟩) hl).trans (hcells (j * 2 + 1) _ fa.2)
      have fln : (flatOf cl ds).length = j * 2 := by rw [flatOf_length clk, hdl]
      have hd0 : wr.cell? ⟨w.heap.size, j * 2, none⟩ = some u0 := by rw [hown.cellAt (j * 2) (by omega)]; simp [fln]
      have hf0 := hown.frozenAt (j * 2)
      have hd1 : wr.cell? ⟨w.heap.size, j * 2 + 1, none⟩ = some u1 := by rw [hown.cellAt (j * 2 + 1) (by omega)]; simp [fln]
      have hf1 := hown.frozenAt (j * 2 + 1)
      have hk0 : (0 : Int) ≤ (j : Int) := Int.natCast_nonneg _
      have hk1 : (j : Int) < (n : Int) := by omega
      have HO := hide (to_one ((unhide HE j (by have := unhide HN; omega)).below hbel) (unhide HTt _ (at_mem zs j (by have := unhide HN; omega))))
      obtain ⟨c0, c1, hX⟩ : ∃ c0 c1, (c0, c1) = cat cs j := ⟨_, _, rfl⟩
      rw [← hX] at hc0 hc1 HO
      clear hX fa
      have HF := hide fln
      clear fln
      simp only at HO
      go_wp2_with (go_at_call 81; refine (unhide HO).mono ?_; rintro e w2 ⟨⟨d0, d1⟩, rfl, hE2, hF2, hb2⟩; obtain ⟨bc, bf⟩ := bcell hb2; obtain ⟨a0, q0, f0, -, -⟩ := hE2.1.form; simp only at f0; subst f0; obtain ⟨a1, q1, f1, -, -⟩ := hE2.2.form; simp only at f1; subst f1)
      have o0 := ((own_below hown hb2).stored (j * 2) (.slice a0 ((at' zs j).1).length q0)).1
      have o1 := (o0.stored (j * 2 + 1) (.slice a1 ((at' zs j).2).length q1)).1
      rw [set_e _ _ _ _ _ _ _ (unhide HF)] at o1
      have e2 : flatOf cl (ds ++ [((.slice a0 ((at' zs j).1).length q0), (.slice a1 ((at' zs j).2).length q1))]) = flatOf cl ds ++ [(.slice a0 ((at' zs j).1).length q0), (.slice a1 ((at' zs j).2).length q1)] := by rw [flatOf_append, flatOf_one]; rfl
      rw [← e2] at o1
      have R := hide (((hbel.trans (hb2.mono (by omega))).setCell (p := ⟨w.heap.size, j * 2, none⟩) (Nat.le_refl _) (.slice a0 ((at' zs j).1).length q0)).setCell (p := ⟨w.heap.size, j * 2 + 1, none⟩) (Nat.le_refl _) (.slice a1 ((at' zs j).2).length q1))
      have O := hide o1
      have oa := hide (((OnlyAt.refl w.heap.size w2).setCell (j * 2) (.slice a0 ((at' zs j).1).length q0)).setCell (j * 2 + 1) (.slice a1 ((at' zs j).2).length q1))
      have HD' := hide (show ∀ i, i < j + 1 → Elem _ (cat (ds ++ [((.slice a0 ((at' zs j).1).length q0), (.slice a1 ((at' zs j).2).length q1))]) i) (at' zs i) ∧ far (w.heap.size + 1) (cat (ds ++ [((.slice a0 ((at' zs j).1).length q0), (.slice a1 ((at' zs j).2).length q1))]) i) from fun i hi => by
        by_cases hij : i < j
        · have h := unhide HD i hij
          rw [cat_lt _ _ _ (by omega)]
          exact ⟨(h.1.below hb2).only (unhide oa) h.2, h.2⟩
        · obtain rfl : i = j := by omega
          have hF3 := hF2.mono (show w.heap.size + 1 ≤ wr.heap.size from hsz)
          rw [show i = ds.length from hdl.symm, cat_last]
          rw [hdl]
          exact ⟨hE2.only (unhide oa) hF3, hF3⟩)
      clear o0 o1 e2 hown bc bf hd0 hf0 hd1 hf1 hE2 hF2 HD oa
      go_wp2_with fail
      go_roundw
      case rel => exact ⟨j + 1, L, ds ++ [((.slice a0 ((at' zs j).1).length q0), (.slice a1 ((at' zs j).2).length q1))], by omega, by go_num, by omega, by simp [hdl], unhide O, HD', unhide R⟩
      case measure => simp [intOf]; omega
    · obtain rfl : j = n := by omega
      obtain rfl : r = [] := List.eq_nil_of_length_eq_zero (by rw [hrl]; omega)
      rw [List.append_nil] at hown
      have hI := hide (show IsF w.heap.size wr (.slice (some ⟨w.heap.size, 0, none⟩) j j) zs from ⟨ds, by have := unhide HN; omega, by rw [← unhide HN]; exact lies_of_own hown, own_ge hown, fun i hi => ⟨(unhide HD i (by have := unhide HN; omega)).1, (unhide HD i (by have := unhide HN; omega)).2.mono (Nat.le_succ _)⟩⟩)
      clear hown HD
      go_wp2
      go_ret
      exact ⟨rfl, unhide hI, hbel⟩
end Go.Proofs.YtlboekimnhgfdaaGreat.Row

/- Whether slices are the same: of impl.Row. -/
namespace Go.Proofs.YtlboekimnhgfdaaGreat.Row
open Go.RowKit Rw
set_option linter.unusedVariables false
attribute [local go_sem ↓] Go.wp_at_zero Go.wp_at_succ
set_option maxHeartbeats 2000000 in
theorem eq_one {c d : C} {x : E} {w : World} (h : Elem w c x) (h' : Elem w d x) : Calls Tryz.prog 86 #[.agg #[c.1, c.2], .agg #[d.1, d.2]] w fun e w' => e = .returned (.bool true) ∧ Below w.heap.size w w' := by
  obtain ⟨c0, c1⟩ := c
  obtain ⟨d0, d1⟩ := d
  obtain ⟨h0, h1⟩ := h
  obtain ⟨g0, g1⟩ := h'
  simp only at h0 h1 g0 g1
  have T0 := hide (fun W (hb : Below w.heap.size w W) => Lab.eq_any (h0.below hb) (g0.below hb))
  have T1 := hide (fun W (hb : Below w.heap.size w W) => Sam.eq_any (h1.below hb) (g1.below hb))
  clear h0 g0 h1 g1
  have B := ((Below.refl w.heap.size w).alloc (Nat.le_refl _) (.cells #[c0, c1] 93)).alloc (by simp) (.cells #[d0, d1] 93)
  go_enter Tryz.func86, Tryz.ntmps86
  go_wp2_with fail
  refine (unhide T0 _ B).mono ?_
  rintro e v0 ⟨rfl, b0⟩
  obtain ⟨bc0, bf0⟩ := bcell b0
  have z0 := b0.size
  have B0 := B.trans (b0.mono B.size)
  simp only [World.size_alloc] at z0 bc0 bf0
  go_wp2_with fail
  refine (unhide T1 _ B0).mono ?_
  rintro e v1 ⟨rfl, b1⟩
  obtain ⟨bc1, bf1⟩ := bcell b1
  have z1 := b1.size
  have B1 := B0.trans (b1.mono B0.size)
  have bd1 : ∀ b o, b < w.heap.size + 1 + 1 → v1.cell? ⟨b, o, none⟩ = v0.cell? ⟨b, o, none⟩ := fun b o h => bc1 b o (by omega)
  clear bc1 bf1
  go_wp2
  go_ret
  exact ⟨rfl, B1⟩
set_option maxRecDepth 100000 in
set_option maxHeartbeats 2000000 in
theorem eq_any {v u : Value} {zs : List E} {w : World} (h : Is w v zs) (h' : Is w u zs) : Calls Tryz.prog 46 #[v, u] w fun e w' => e = .returned (.bool true) ∧ Below w.heap.size w w' := by
  obtain ⟨cs, hcs, hL, hE⟩ := h
  obtain ⟨ds, hds, hL', hE'⟩ := h'
  have HE := hide hE
  have HE' := hide hE'
  obtain ⟨-, a, cap, rfl, hc, hm, -, hr⟩ := hL
  obtain ⟨-, a', cap', rfl, hc', hm', -, hr'⟩ := hL'
  unfold maxLen at hm hm'
  obtain ⟨n, hn⟩ : ∃ n, n = zs.length := ⟨_, rfl⟩
  rw [← hn] at hc hr hc' hr' hcs hds ⊢
  have HN := hide hn
  have HC := hide hcs
  have HD := hide hds
  clear hn hE hE' hcs hds
  go_enter Tryz.func46, Tryz.ntmps46
  go_wp2
  go_loopw [5] (fun i wr => ∃ (j : Nat), j ≤ n ∧ i = .int .i64 j ∧ Below w.heap.size w wr) (fun i _ => n - (intOf i).toNat)
  case atStart => exact ⟨0, Nat.zero_le _, rfl, Below.refl _ _⟩
  case round =>
    obtain ⟨j, hj, rfl, hbel⟩ := hrel
    have hsz := hbel.size
    by_cases hlt : j < n
    · obtain ⟨b, off, rfl, hl, hcells⟩ := hr (by omega)
      obtain ⟨b', off', rfl, hl', hcells'⟩ := hr' (by omega)
      have fa := flat_at cs j (by have := unhide HC; omega)
      have fb := flat_at ds j (by have := unhide HD; omega)
      have HO := hide (fun x : Cls wr.heap.size wr => eq_one (((unhide HE j (by have := unhide HN; omega)).below hbel).below x.isBelow) (((unhide HE' j (by have := unhide HN; omega)).below hbel).below x.isBelow))
      obtain ⟨c0, c1, hX⟩ : ∃ c0 c1, (c0, c1) = cat cs j := ⟨_, _, rfl⟩
      obtain ⟨d0, d1, hY⟩ : ∃ d0 d1, (d0, d1) = cat ds j := ⟨_, _, rfl⟩
      rw [← hX] at fa HO
      rw [← hY] at fb HO
      have hq0 : ∀ x : Cls wr.heap.size wr, x.val.cell? ⟨b, off + j * 2, none⟩ = some c0 := fun x => by rw [x.cell (by omega)]; exact (hbel.cell (p := ⟨b, _, none⟩) hl).trans (hcells (j * 2) _ fa.1)
      have hp0 : ∀ x : Cls wr.heap.size wr, x.val.cell? ⟨b', off' + j * 2, none⟩ = some d0 := fun x => by rw [x.cell (by omega)]; exact (hbel.cell (p := ⟨b', _, none⟩) hl').trans (hcells' (j * 2) _ fb.1)
      have hq1 : ∀ x : Cls wr.heap.size wr, x.val.cell? ⟨b, off + j * 2 + 1, none⟩ = some c1 := fun x => by rw [x.cell (by omega)]; exact (hbel.cell (p := ⟨b, _, none⟩) hl).trans (hcells (j * 2 + 1) _ fa.2)
      have hp1 : ∀ x : Cls wr.heap.size wr, x.val.cell? ⟨b', off' + j * 2 + 1, none⟩ = some d1 := fun x => by rw [x.cell (by omega)]; exact (hbel.cell (p := ⟨b', _, none⟩) hl').trans (hcells' (j * 2 + 1) _ fb.2)
      have hk0 : (0 : Int) ≤ (j : Int) := Int.natCast_nonneg _
      have hk1 : (j : Int) < (n : Int) := by omega
      clear hX hY fa fb
      have hne := cls_nonempty wr.heap.size wr
      go_wp2_with fail
      refine region_cls (by kernel_rfl) (by kernel_rfl) ?_
      repeat (go_big_quiet_step ((go_at_call 86; exact cls_call (Nat.le_refl _) (unhide HO _))))
      refine wpQuiet_nil ?_
      rintro wq ⟨⟨_, hq⟩, rfl⟩
      go_wp2
      go_roundw
      case rel => exact ⟨j + 1, by omega, by go_num, hbel.trans (hq.mono hsz)⟩
      case measure => simp [intOf]; omega
    · go_wp2
      go_ret
      exact ⟨rfl, hbel⟩
end Go.Proofs.YtlboekimnhgfdaaGreat.Row

/- What is counted is small enough to be copied. No condition. -/
namespace Go.Proofs.YtlboekimnhgfdaaGreat.Row
open Go.RowKit Rw
theorem tiny_of {zs : List E} (h : tot zs ≤ 1048576) : zs.length ≤ 2097152 ∧ ∀ x ∈ zs, tiny x := by
  refine ⟨by have := tot_len zs; omega, fun x hx => ?_⟩
  obtain ⟨i, hi, rfl⟩ := List.getElem_of_mem hx
  have h1 := tot_at zs i hi
  rw [at_get zs i hi] at h1
  have h2 := Lab.tot_len (zs[i]).1
  unfold szOf Sam.tot at h1
  exact ⟨by omega, by omega⟩
end Go.Proofs.YtlboekimnhgfdaaGreat.Row

/- What the laws' own helpers do with impl.Table: it is copied, held against another, and counted. -/
namespace Go.Proofs.YtlboekimnhgfdaaGreat.Tab
open Go.RowKit Rw
set_option linter.unusedVariables false
attribute [local go_sem ↓] Go.wp_at_zero Go.wp_at_succ
abbrev E := List Row.E × Int × Int
abbrev C := Value × Value × Value
def Elem (w : World) (c : C) (x : E) : Prop := Row.Is w (c.1) (x.1) ∧ c.2.1 = .int .i64 (x.2.1) ∧ c.2.2 = .int .i64 (x.2.2)
theorem Elem.below {w w' : World} {c : C} {x : E} (h : Elem w c x) (hb : Below w.heap.size w w') : Elem w' c x := ⟨(h.1).below hb, h.2.1, h.2.2⟩
def good (x : E) : Prop := ((x.1).length ≤ maxLen ∧ ∀ y ∈ x.1, Row.good y) ∧ (Lit.int .i64 (x.2.1)).wf = true ∧ (Lit.int .i64 (x.2.2)).wf = true
set_option maxRecDepth 100000 in
theorem open_cells {H : Type} {enc : TypeId × Value → H} {W : World} {n : Nat} {cs : List Value} {y : DataW H × List MemPlace} (h : DataW.trod enc Tryz.prog W 0 (fun _ => true) true n 24 cs = some y) : ∃ (c : C) (x : E), cs = [c.1, c.2.1, c.2.2] ∧ Elem W c x ∧ good x := by
  have hl : cs.length = 3 := by
    obtain ⟨xs, m, -, -, hl, hxl, hf⟩ := DataW.trod_struct Tryz.underlying24 h
    rw [hl]; kernel_rfl
  obtain ⟨xs, m, -, -, -, hxl, hf⟩ := DataW.trod_struct Tryz.underlying24 h
  match cs, hl, xs, hxl with
  | [c0, c1, c2], _, [y0, y1, y2], _ =>
    have g0 := hf 0 _ rfl
    have g1 := hf 1 _ rfl
    have g2 := hf 2 _ rfl
    have ce0 : Tryz.prog.cellsOf 22 = 1 := by kernel_rfl
    have ce1 : Tryz.prog.cellsOf 3 = 1 := by kernel_rfl
    simp [ce0, ce1] at g0 g1 g2
    obtain ⟨a0, l0, k0, e0, t0⟩ := slice_cell Tryz.underlying22 g0
    obtain ⟨s0, n0, m0, i0, w0⟩ := Row.open_arg t0
    obtain ⟨s1, e1, -, w1⟩ := DataW.trod_int Tryz.underlying3 g1
    simp only [List.cons.injEq, and_true] at e1
    obtain ⟨s2, e2, -, w2⟩ := DataW.trod_int Tryz.underlying3 g2
    simp only [List.cons.injEq, and_true] at e2
    subst e0 e1 e2
    subst n0
    exact ⟨(.slice a0 s0.length k0, .int .i64 s1, .int .i64 s2), (s0, s1, s2), rfl, ⟨i0, rfl, rfl⟩, ⟨⟨m0, w0⟩, w1, w2⟩⟩
def tiny (x : E) : Prop := ((x.1).length ≤ 2097152 ∧ ∀ y ∈ x.1, Row.tiny y)
set_option maxHeartbeats 2000000 in
theorem to_one {c : C} {x : E} {w : World} (h : Elem w c x) (ht : tiny x) : Calls Tryz.prog 13 #[.agg #[c.1, c.2.1, c.2.2]] w fun e w' => ∃ c' : C, e = .returned (.agg #[c'.1, c'.2.1, c'.2.2]) ∧ Elem w' c' x ∧ Below w.heap.size w w' := by
  obtain ⟨c0, c1, c2⟩ := c
  obtain ⟨h0, h1, h2⟩ := h
  simp only at h0 h1 h2
  subst h1
  subst h2
  have T0 := hide (fun W (hb : Below w.heap.size w W) => Row.to_any (h0.below hb) (ht).1 (ht).2)
  clear h0 ht
  obtain ⟨l0, hl0⟩ : ∃ l, l = (x.1).length := ⟨_, rfl⟩
  rw [← hl0] at T0
  have HL0 := hide hl0
  clear hl0
  obtain ⟨N1, hN1⟩ : ∃ N, N = x.2.1 := ⟨_, rfl⟩
  rw [← hN1]
  have HN1 := hide hN1
  clear hN1
  obtain ⟨N2, hN2⟩ : ∃ N, N = x.2.2 := ⟨_, rfl⟩
  rw [← hN2]
  have HN2 := hide hN2
  clear hN2
  have B := (((Below.refl w.heap.size w).alloc (Nat.le_refl _) (.cells #[c0, .int .i64 N1, .int .i64 N2] 24)).alloc (by simp) (.cells #[.slice none 0 0, .int .i64 0, .int .i64 0] 30)).alloc (by simp; omega) (.cells #[.slice none 0 0, .int .i64 0, .int .i64 0] 30)
  go_enter Tryz.func13, Tryz.ntmps13
  go_wp2_with fail
  refine (unhide T0 _ B).mono ?_
  rintro e v0 ⟨rfl, r0, b0⟩
  obtain ⟨bc0, bf0⟩ := bcell b0
  have z0 := b0.size
  have B0 := B.trans (b0.mono B.size)
  simp only [World.size_alloc] at z0 bc0 bf0 r0 ⊢
  clear b0
  have I0 := hide r0
  clear r0
  have Bs0 := B0.setCell (p := ⟨w.heap.size + 1 + 1, 0, none⟩) (by show w.heap.size ≤ w.heap.size + 1 + 1; omega) (.slice (some ⟨w.heap.size + 1 + 1 + 1, 0, none⟩) l0 l0)
  clear B0
  have I0 := hide ((unhide I0).only ((OnlyAt.refl (w.heap.size + 1 + 1) _).setCell 0 (.slice (some ⟨w.heap.size + 1 + 1 + 1, 0, none⟩) l0 l0)) (by omega))
  have Bs1 := Bs0.setCell (p := ⟨w.heap.size + 1 + 1, 1, none⟩) (by show w.heap.size ≤ w.heap.size + 1 + 1; omega) (.int .i64 N1)
  clear Bs0
  have I0 := hide ((unhide I0).only ((OnlyAt.refl (w.heap.size + 1 + 1) _).setCell 1 (.int .i64 N1)) (by omega))
  have Bs2 := Bs1.setCell (p := ⟨w.heap.size + 1 + 1, 2, none⟩) (by show w.heap.size ≤ w.heap.size + 1 + 1; omega) (.int .i64 N2)
  clear Bs1
  have I0 := hide ((unhide I0).only ((OnlyAt.refl (w.heap.size + 1 + 1) _).setCell 2 (.int .i64 N2)) (by omega))
  have Br0 := Bs2.setCell (p := ⟨w.heap.size + 1, 0, none⟩) (by show w.heap.size ≤ w.heap.size + 1; omega) (.slice (some ⟨w.heap.size + 1 + 1 + 1, 0, none⟩) l0 l0)
  clear Bs2
  have I0 := hide ((unhide I0).only ((OnlyAt.refl (w.heap.size + 1) _).setCell 0 (.slice (some ⟨w.heap.size + 1 + 1 + 1, 0, none⟩) l0 l0)) (by omega))
  have Br1 := Br0.setCell (p := ⟨w.heap.size + 1, 1, none⟩) (by show w.heap.size ≤ w.heap.size + 1; omega) (.int .i64 N1)
  clear Br0
  have I0 := hide ((unhide I0).only ((OnlyAt.refl (w.heap.size + 1) _).setCell 1 (.int .i64 N1)) (by omega))
  have Br2 := Br1.setCell (p := ⟨w.heap.size + 1, 2, none⟩) (by show w.heap.size ≤ w.heap.size + 1; omega) (.int .i64 N2)
  clear Br1
  have I0 := hide ((unhide I0).only ((OnlyAt.refl (w.heap.size + 1) _).setCell 2 (.int .i64 N2)) (by omega))
  go_wp2
  refine bodyPost_ret (v := .agg #[(.slice (some ⟨w.heap.size + 1 + 1 + 1, 0, none⟩) l0 l0), (.int .i64 N1), (.int .i64 N2)]) (by simp [results, Tryz.results13, go_sem, bc0]) rfl ⟨((.slice (some ⟨w.heap.size + 1 + 1 + 1, 0, none⟩) l0 l0), (.int .i64 N1), (.int .i64 N2)), rfl, ⟨(unhide I0).is, by simp only; rw [unhide HN1], by simp only; rw [unhide HN2]⟩, Br2⟩
set_option maxHeartbeats 2000000 in
theorem eq_one {c d : C} {x : E} {w : World} (h : Elem w c x) (h' : Elem w d x) : Calls Tryz.prog 16 #[.agg #[c.1, c.2.1, c.2.2], .agg #[d.1, d.2.1, d.2.2]] w fun e w' => e = .returned (.bool true) ∧ Below w.heap.size w w' := by
  obtain ⟨c0, c1, c2⟩ := c
  obtain ⟨d0, d1, d2⟩ := d
  obtain ⟨h0, h1, h2⟩ := h
  obtain ⟨g0, g1, g2⟩ := h'
  simp only at h0 h1 h2 g0 g1 g2
  subst h1 g1
  subst h2 g2
  have T0 := hide (fun W (hb : Below w.heap.size w W) => Row.eq_any (h0.below hb) (g0.below hb))
  clear h0 g0
  generalize x.2.1 = N1
  generalize x.2.2 = N2
  have B := ((Below.refl w.heap.size w).alloc (Nat.le_refl _) (.cells #[c0, .int .i64 N1, .int .i64 N2] 30)).alloc (by simp) (.cells #[d0, .int .i64 N1, .int .i64 N2] 30)
  go_enter Tryz.func16, Tryz.ntmps16
  go_wp2_with fail
  refine (unhide T0 _ B).mono ?_
  rintro e v0 ⟨rfl, b0⟩
  obtain ⟨bc0, bf0⟩ := bcell b0
  have z0 := b0.size
  have B0 := B.trans (b0.mono B.size)
  simp only [World.size_alloc] at z0 bc0 bf0
  go_wp2
  go_ret
  exact ⟨rfl, B0⟩
def tot (x : E) : Nat := Row.tot (x.1)
set_option maxHeartbeats 2000000 in
theorem sz_one {c : C} {x : E} {w : World} (left : Int) (h : Elem w c x) (hg : good x) (h0 : 0 ≤ left) (h1 : left ≤ 1048576) :
    Calls Tryz.prog 10 #[.agg #[c.1, c.2.1, c.2.2], .int .i64 left] w fun e w' => e = .returned (.int .i64 (if left - (tot x : Int) < 0 then -1 else left - (tot x : Int))) ∧ Below w.heap.size w w' := by
  obtain ⟨c0, c1, c2⟩ := c
  obtain ⟨e0, e1, e2⟩ := h
  obtain ⟨g0, g1, g2⟩ := hg
  simp only at e0 e1 e2
  subst e1
  subst e2
  have T0 := hide (fun W (hb : Below w.heap.size w W) (l : Int) (p0 : 0 ≤ l) (p1 : l ≤ 1048576) => Row.sz_any l (e0.below hb) g0.1 g0.2 p0 p1)
  obtain ⟨t0, ht0⟩ : ∃ t, t = Row.tot (x.1) := ⟨_, rfl⟩
  rw [← ht0] at T0
  have HS : tot x = t0 := by unfold tot; rw [ht0]
  rw [HS]
  clear HS ht0 e0 g0 g1 g2
  generalize x.2.1 = N1
  generalize x.2.2 = N2
  have B := (Below.refl w.heap.size w).alloc (Nat.le_refl _) (.cells #[c0, .int .i64 N1, .int .i64 N2] 24)
  by_cases k0 : left - (t0 : Int) < 0
  · rw [if_pos (by omega)]
    go_enter Tryz.func10, Tryz.ntmps10
    go_wp2_with fail
    refine (unhide T0 _ B (left) (by omega) (by omega)).mono ?_
    rintro e v0 ⟨rfl, b0⟩
    have B0 := B.trans (b0.mono B.size)
    obtain ⟨bc0, bf0⟩ := bcell b0
    have z0 := b0.size
    simp only [World.size_alloc] at z0 bc0 bf0
    rw [if_pos (by omega)]
    go_wp2_with fail
    go_ret
    exact ⟨rfl, B0⟩
  rw [if_neg (by omega)]
  go_enter Tryz.func10, Tryz.ntmps10
  go_wp2_with fail
  refine (unhide T0 _ B (left) (by omega) (by omega)).mono ?_
  rintro e v0 ⟨rfl, b0⟩
  have B0 := B.trans (b0.mono B.size)
  obtain ⟨bc0, bf0⟩ := bcell b0
  have z0 := b0.size
  simp only [World.size_alloc] at z0 bc0 bf0
  rw [if_neg (by omega)]
  have n0 : 0 ≤ left - (t0 : Int) := by omega
  go_wp2_with fail
  go_ret
  exact ⟨rfl, B0⟩
end Go.Proofs.YtlboekimnhgfdaaGreat.Tab
