/- My own texts of one claim, laid together by program: Many, DrawLab2, Nest, Zone. -/
import Derived.Test.YtlboekimnhgfdaaGreatGb649170687
import Derived.Test.YtlboekimnhgfdaaGreatG46e89f6f83
import Derived.ChangeArms
/- A letter, some times over. -/
namespace Go.Proofs.YtlboekimnhgfdaaGreat.Draw
open Go.RowKit Rw
set_option linter.unusedVariables false
attribute [local go_sem ↓] Go.wp_at_zero Go.wp_at_succ
set_option maxRecDepth 100000 in
set_option maxHeartbeats 1000000 in
theorem many_any (n : Nat) (w : World) (hn : n ≤ 4) : Calls Tryz.prog 144 #[.string ⟨#[122]⟩, .int .i64 (n : Int)] w fun e w' => ∃ B : ByteArray, e = .returned (.string B) ∧ B.size ≤ 50 ∧ w' = w := by
  go_enter Tryz.func144, Tryz.ntmps144
  go_wp2
  go_loop [0, 1, 5] (fun sv nv ov => ∃ (s o : ByteArray) (k : Nat), sv = .string s ∧ ov = .string o ∧ nv = .int .i64 (k : Int) ∧ k ≤ 4 ∧ (k = 4 → s.size ≤ 2 ∧ o.size ≤ 2) ∧ (2 ≤ k → s.size ≤ 4 ∧ o.size ≤ 4) ∧ (1 ≤ k → s.size ≤ 8 ∧ o.size ≤ 8) ∧ s.size ≤ 16 ∧ o.size ≤ 16) (fun _ nv _ => (intOf nv).toNat)
  case atStart => exact ⟨⟨#[122]⟩, ⟨#[]⟩, n, rfl, rfl, rfl, hn, fun _ => by decide, fun _ => by decide, fun _ => by decide, by decide, by decide⟩
  case round =>
    obtain ⟨s, o, k, rfl, rfl, rfl, hk, h4, h2, h1, hs, ho⟩ := hrel
    rcases (show k = 0 ∨ k = 1 ∨ k = 2 ∨ k = 3 ∨ k = 4 from by omega) with rfl | rfl | rfl | rfl | rfl
    · clear h4 h2 h1
      go_wp2
      go_ret
      exact ⟨o, rfl, by omega, rfl⟩
    · have e1 := ByteArray.size_append (a := s) (b := s)
      have e2 := ByteArray.size_append (a := o) (b := s)
      have E := hide (And.intro e1 (And.intro e2 (And.intro h4 (And.intro h2 h1))))
      clear e1 e2 h4 h2 h1
      go_wp2
      obtain ⟨e1, e2, h4, h2, h1⟩ := unhide E
      exact ⟨⟨s ++ s, o ++ s, 0, rfl, rfl, rfl, by omega, fun _ => by omega, fun _ => by omega, fun _ => by omega, by omega, by omega⟩, by simp [intOf]⟩
    · have e1 := ByteArray.size_append (a := s) (b := s)
      have e2 := ByteArray.size_append (a := o) (b := s)
      have E := hide (And.intro e1 (And.intro e2 (And.intro h4 (And.intro h2 h1))))
      clear e1 e2 h4 h2 h1
      go_wp2
      obtain ⟨e1, e2, h4, h2, h1⟩ := unhide E
      exact ⟨⟨s ++ s, o, 1, rfl, rfl, rfl, by omega, fun _ => by omega, fun _ => by omega, fun _ => by omega, by omega, by omega⟩, by simp [intOf]⟩
    · have e1 := ByteArray.size_append (a := s) (b := s)
      have e2 := ByteArray.size_append (a := o) (b := s)
      have E := hide (And.intro e1 (And.intro e2 (And.intro h4 (And.intro h2 h1))))
      clear e1 e2 h4 h2 h1
      go_wp2
      obtain ⟨e1, e2, h4, h2, h1⟩ := unhide E
      exact ⟨⟨s ++ s, o ++ s, 1, rfl, rfl, rfl, by omega, fun _ => by omega, fun _ => by omega, fun _ => by omega, by omega, by omega⟩, by simp [intOf]⟩
    · have e1 := ByteArray.size_append (a := s) (b := s)
      have e2 := ByteArray.size_append (a := o) (b := s)
      have E := hide (And.intro e1 (And.intro e2 (And.intro h4 (And.intro h2 h1))))
      clear e1 e2 h4 h2 h1
      go_wp2
      obtain ⟨e1, e2, h4, h2, h1⟩ := unhide E
      exact ⟨⟨s ++ s, o, 2, rfl, rfl, rfl, by omega, fun _ => by omega, fun _ => by omega, fun _ => by omega, by omega, by omega⟩, by simp [intOf]⟩
end Go.Proofs.YtlboekimnhgfdaaGreat.Draw

/- Labels are drawn, also such as are none. -/
namespace Go.Proofs.YtlboekimnhgfdaaGreat.Draw
open Go.RowKit Rw Lab
set_option linter.unusedVariables false
attribute [local go_sem ↓] Go.wp_at_zero Go.wp_at_succ
def slenL : Value → Nat
  | .slice _ n _ => n
  | _ => 0
theorem flat_setA (zs : List Lab.E) (k : Nat) (h : k < zs.length) (A : ByteArray) : Lab.flat (zs.set k (A, (at' zs k).2)) = (Lab.flat zs).set (k * 2) (.string A) := by
  induction zs generalizing k with
  | nil => simp at h
  | cons z zs ih =>
    rcases k with _ | k
    · simp [flatOf, fl, at']
    · have := ih k (by simpa using h)
      have e : (k + 1) * 2 = k * 2 + 1 + 1 := by omega
      have e2 : at' (z :: zs) (k + 1) = at' zs k := by simp [at']
      simp only [Lab.flat, flatOf, fl, List.set_cons_succ, List.flatMap_cons, List.cons_append, List.nil_append, e, e2] at this ⊢
      rw [this]
theorem flat_setB (zs : List Lab.E) (k : Nat) (h : k < zs.length) (B : ByteArray) : Lab.flat (zs.set k ((at' zs k).1, B)) = (Lab.flat zs).set (k * 2 + 1) (.string B) := by
  induction zs generalizing k with
  | nil => simp at h
  | cons z zs ih =>
    rcases k with _ | k
    · simp [flatOf, fl, at']
    · have := ih k (by simpa using h)
      have e : (k + 1) * 2 + 1 = k * 2 + 1 + 1 + 1 := by omega
      have e2 : at' (z :: zs) (k + 1) = at' zs k := by simp [at']
      simp only [Lab.flat, flatOf, fl, List.set_cons_succ, List.flatMap_cons, List.cons_append, List.nil_append, e, e2] at this ⊢
      rw [this]
theorem z_nobody (B : ByteArray) : (⟨#[122]⟩ : ByteArray) ++ B ≠ nobody := by
  intro e
  have := congrArg (fun x : ByteArray => x.data.toList.head?) e
  simp [nobody, ByteArray.data_append] at this
theorem small_set {L : List Lab.E} {k : Nat} {x : Lab.E} (h : ∀ y ∈ L, smallL y) (hx : smallL x) : ∀ y ∈ L.set k x, smallL y := by
  intro y hy
  rcases List.mem_or_eq_of_mem_set hy with hy | rfl
  · exact h y hy
  · exact hx
theorem small_at {L : List Lab.E} {k : Nat} (h : ∀ y ∈ L, smallL y) (hk : k < L.length) : smallL (at' L k) := by
  rw [at_get L k hk]; exact h _ (List.getElem_mem _)
set_option maxRecDepth 100000 in
set_option maxHeartbeats 4000000 in
theorem anylabels_any (rb p : Nat) (w : World) (h : Rd w rb p) (hp : p ≤ 700000) :
    Calls Tryz.prog 113 #[.pointer (some ⟨rb, 0, none⟩)] w fun e w' => ∃ (zs : List Lab.E) (v : Value), e = .returned v ∧ zs.length ≤ 20 ∧ (∀ x ∈ zs, smallL x) ∧ w'.ownsRow w.heap.size 64 2 v zs.length (Lab.flat zs) ∧ (∃ p', p' ≤ p + 100 ∧ Rd w' rb p') ∧ w.grownBy w' (some rb) := by
  obtain ⟨i0, hi, hz0, hz1, hz2⟩ := info_parts Lab.info_e
  have hrl := h.lt
  have hmx : 1 ≤ maxLen := by unfold maxLen; omega
  have HR := hide h
  clear h
  go_enter Tryz.func113, Tryz.ntmps113
  go_wp2_with fail
  refine (labels_any rb p _ (unhide HR) (by omega)).mono ?_
  rintro e w1 ⟨L, v, rfl, hL0, hL, hsm, o1, ⟨p1, hp1, r1⟩, q1⟩
  obtain ⟨g, cp, rfl⟩ : ∃ g cp, v = .slice (some ⟨g, 0, none⟩) L.length cp := by
    rcases o1.2 with ⟨-, h0⟩ | ⟨g, cp, cur, hv, -⟩
    · omega
    · exact ⟨g, cp, hv⟩
  obtain ⟨n, hn⟩ : ∃ n, n = L.length := ⟨_, rfl⟩
  rw [← hn] at hL hL0 o1 ⊢
  have HN := hide hn
  have HM := hide hsm
  clear HR hsm hn
  go_wp2_with fail
  refine (pick_any rb p1 _ _ r1 (by omega) (by omega)).mono ?_
  rintro e w2 ⟨kk, rfl, k0, k1, -, r2, g2⟩
  have k2 : kk < (n : Int) := k1 (by omega)
  obtain ⟨k, rfl⟩ := Int.eq_ofNat_of_zero_le k0
  have o2 := own_kept o1 g2 hrl
  have q2 := grown_trans q1 g2
  clear o1 q1 r1 g2 k1
  go_wp2_with fail
  refine (pick_any rb (p1 + 1) _ _ r2 (by omega) (by omega)).mono ?_
  rintro e w4 ⟨c, rfl, c0, -, -, r4, g4⟩
  have o4 := own_kept o2 g4 hrl
  have q4 := grown_trans q2 g4
  have hsz4 := q4.size
  clear o2 q2 r2 g4
  have hkl : k < L.length := by have := unhide HN; omega
  have hk0 : (0 : Int) ≤ (k : Int) := Int.natCast_nonneg _
  have hk1 : (k : Int) < (n : Int) := by omega
  rcases (show c = 0 ∨ c = 1 ∨ c = 2 ∨ c = 3 ∨ (c ≠ 0 ∧ c ≠ 1 ∧ c ≠ 2 ∧ c ≠ 3) from by omega) with rfl | rfl | rfl | rfl | ⟨e0, e1, e2, e3⟩
  · go_wp2_with fail
    have hof := of_new rb (p1 + 1 + 1) [⟨#[]⟩, ⟨#[65]⟩, ⟨#[116, 111, 111, 108, 111, 110, 103]⟩, ⟨#[122, 122]⟩] _ r4 (by omega) (by simp) (by simp)
    simp only [List.map_cons, List.map_nil, List.length_cons, List.length_nil, Nat.zero_add, Nat.reduceAdd] at hof
    refine hof.mono ?_
    clear hof
    rintro e w5 ⟨x, rfl, hx, r5, g5⟩
    have X0 := hide (show x.size ≤ 100 ∧ x ≠ nobody by
      simp only [List.mem_cons, List.not_mem_nil, or_false] at hx
      rcases hx with rfl | rfl | rfl | rfl <;> decide)
    have o5 := own_kept o4 g5 hrl
    have q5 := grown_trans q4 g5
    have u0 := o5.cellAt (k * 2) (by omega)
    have u1 := o5.cellAt (k * 2 + 1) (by omega)
    rw [(flat_at L k hkl).1] at u0
    rw [(flat_at L k hkl).2] at u1
    have f0 := o5.frozenAt (k * 2)
    have f1 := o5.frozenAt (k * 2 + 1)
    clear o4 q4 r4 g5 hx
    have hge : w.heap.size ≤ g := own_ge o5 g rfl
    have O := hide (show (w5.setCell ⟨g, k * 2, none⟩ (.string x)).ownsRow w.heap.size 64 2 (.slice (some ⟨g, 0, none⟩) n cp) n (Lab.flat (L.set k (x, (at' L k).2))) by
      rw [flat_setA L k hkl x]
      exact (o5.stored (k * 2) (.string x)).1)
    have gS := grown_only ((OnlyAt.refl g w5).setCell (k * 2) (.string x))
    have Q := grown_other q5 gS (fun j hj => by cases hj; exact hge)
    have R := r5.grown gS (fun j hj => by cases hj; omega)
    have HL := hide (show (L.set k (x, (at' L k).2)).length = n by rw [List.length_set, ← unhide HN])
    have HW := hide (show ∀ y ∈ L.set k (x, (at' L k).2), smallL y from small_set (unhide HM) ⟨(unhide X0).1, (small_at (unhide HM) hkl).2.1, (unhide X0).2⟩)
    clear o5 gS
    generalize L.set k (x, (at' L k).2) = M at O HL HW
    go_wp2_with fail
    go_ret
    exact ⟨M, _, rfl, by rw [unhide HL]; omega, unhide HW, by rw [unhide HL]; exact unhide O, ⟨p1 + 1 + 1 + 1, by omega, R⟩, Q⟩
  · go_wp2_with fail
    have hof := of_new rb (p1 + 1 + 1) [⟨#[]⟩, ⟨#[120, 49]⟩, ⟨#[110, 105, 110, 101, 99, 104, 97, 114, 115]⟩, ⟨#[101, 105, 103, 104, 116, 99, 104, 114]⟩] _ r4 (by omega) (by simp) (by simp)
    simp only [List.map_cons, List.map_nil, List.length_cons, List.length_nil, Nat.zero_add, Nat.reduceAdd] at hof
    refine hof.mono ?_
    clear hof
    rintro e w5 ⟨x, rfl, hx, r5, g5⟩
    have X0 := hide (show x.size ≤ 100 ∧ x ≠ nobody by
      simp only [List.mem_cons, List.not_mem_nil, or_false] at hx
      rcases hx with rfl | rfl | rfl | rfl <;> decide)
    have o5 := own_kept o4 g5 hrl
    have q5 := grown_trans q4 g5
    have u0 := o5.cellAt (k * 2) (by omega)
    have u1 := o5.cellAt (k * 2 + 1) (by omega)
    rw [(flat_at L k hkl).1] at u0
    rw [(flat_at L k hkl).2] at u1
    have f0 := o5.frozenAt (k * 2)
    have f1 := o5.frozenAt (k * 2 + 1)
    clear o4 q4 r4 g5 hx
    have hge : w.heap.size ≤ g := own_ge o5 g rfl
    have O := hide (show (w5.setCell ⟨g, k * 2 + 1, none⟩ (.string x)).ownsRow w.heap.size 64 2 (.slice (some ⟨g, 0, none⟩) n cp) n (Lab.flat (L.set k ((at' L k).1, x))) by
      rw [flat_setB L k hkl x]
      exact (o5.stored (k * 2 + 1) (.string x)).1)
    have gS := grown_only ((OnlyAt.refl g w5).setCell (k * 2 + 1) (.string x))
    have Q := grown_other q5 gS (fun j hj => by cases hj; exact hge)
    have R := r5.grown gS (fun j hj => by cases hj; omega)
    have HL := hide (show (L.set k ((at' L k).1, x)).length = n by rw [List.length_set, ← unhide HN])
    have HW := hide (show ∀ y ∈ L.set k ((at' L k).1, x), smallL y from small_set (unhide HM) ⟨(small_at (unhide HM) hkl).1, (unhide X0).1, (small_at (unhide HM) hkl).2.2⟩)
    clear o5 gS
    generalize L.set k ((at' L k).1, x) = M at O HL HW
    go_wp2_with fail
    go_ret
    exact ⟨M, _, rfl, by rw [unhide HL]; omega, unhide HW, by rw [unhide HL]; exact unhide O, ⟨p1 + 1 + 1 + 1, by omega, R⟩, Q⟩
  · clear o4
    have hb : Below w4.heap.size w4 (w4.alloc (.cells #[] 64)) := (Below.refl _ _).alloc (Nat.le_refl _) _
    go_wp2_with fail
    go_ret
    exact ⟨[], _, rfl, by simp, by simp, own_empty hsz4, ⟨p1 + 1 + 1, by omega, r4.below hb⟩, grown_trans q4 (grown_below hb)⟩
  · go_wp2_with fail
    go_loopw [3] (fun ov wr => ∃ (M : List Lab.E) (p2 : Nat) (am : Option Addr) (cm : Nat), ov = .slice am M.length cm ∧ M.length ≤ 10 ∧ p2 ≤ p + 20 + M.length ∧ (∀ x ∈ M, smallL x) ∧ wr.ownsRow w.heap.size 64 2 ov M.length (Lab.flat M) ∧ Rd wr rb p2 ∧ w.grownBy wr (some rb)) (fun ov _ => 100 - slenL ov)
    case atStart => exact ⟨L, p1 + 1 + 1, _, cp, by rw [← unhide HN], by rw [← unhide HN]; omega, by omega, unhide HM, by rw [← unhide HN]; exact o4, r4, q4⟩
    case round =>
      clear o4 r4 q4 hsz4 HM HN hkl
      obtain ⟨M, p2, am, cm, rfl, hM, hp2, hsm, hown, hrd, hg⟩ := hrel
      have HM := hide hsm
      clear hsm
      go_wp2_with fail
      refine (pick_any rb p2 _ _ hrd (by omega) (by omega)).mono ?_
      rintro e w6 ⟨d, rfl, d0, d1, -, r6, g6⟩
      have d2 : d < 2 := d1 (by omega)
      have o6 := own_kept hown g6 hrl
      have q6 := grown_trans hg g6
      have hsz6 := q6.size
      clear hown hg hrd g6 d1
      by_cases hlt : (M.length : Int) < 4 + d
      · have hM2 : M.length ≤ 4 := by omega
        go_wp2_with fail
        refine (many_any M.length w6 hM2).mono ?_
        rintro e w7 ⟨B, rfl, hB, rfl⟩
        have e7 : (⟨#[122]⟩ : ByteArray).size = 1 := rfl
        have B0 := hide (show ((⟨#[122]⟩ : ByteArray) ++ B).size ≤ 100 by rw [ByteArray.size_append, e7]; omega)
        go_wp2_with (at_builtin; refine app_wp _ rfl _ _ _ rfl w.heap.size 64 i0 _ 2 32 Tryz.underlying60 hi hz0 hz1 hz2 rfl (by omega) _ M.length _ rfl (o6.alloc _) _ 1 [.string (⟨#[122]⟩ ++ B), .string ⟨#[119]⟩] rfl (lies_new rfl rfl hmx) (by simp [Value.oneCell']) (by unfold maxLen; omega) (by omega) (by simp; omega) ?_; intro vn w9 on gn an)
        have ge := own_ge o6
        have R : w.grownBy w9 (some rb) := grown_other (grown_trans q6 (grown_below ((Below.refl _ _).alloc (Nat.le_refl _) _))) gn ge
        have R1 : Rd w9 rb (p2 + 1) := (r6.below ((Below.refl _ _).alloc (Nat.le_refl _) _)).grown gn (fun k hk => by have := ge k hk; omega)
        have R2 := hide (show w9.ownsRow w.heap.size 64 2 vn (M ++ [((⟨#[122]⟩ ++ B, ⟨#[119]⟩) : Lab.E)]).length (Lab.flat (M ++ [((⟨#[122]⟩ ++ B, ⟨#[119]⟩) : Lab.E)])) by rw [List.length_append, flat_snocL]; exact on)
        obtain ⟨an', cn, hvn⟩ : ∃ a c, vn = .slice a (M.length + 1) c := by obtain ⟨-, a, c, e, -⟩ := lies_of_own on; exact ⟨a, c, e⟩
        have HS := hide (show slenL vn = M.length + 1 by rw [hvn]; rfl)
        have HV := hide hvn
        clear on gn ge o6 q6 r6 an hvn
        go_wp2_with fail
        go_roundw
        case rel => exact ⟨M ++ [((⟨#[122]⟩ ++ B, ⟨#[119]⟩) : Lab.E)], p2 + 1, an', cn, by rw [unhide HV]; simp, by simp; omega, by simp; omega, small_snocL (x := ((⟨#[122]⟩ ++ B, ⟨#[119]⟩) : Lab.E)) (unhide HM) ⟨unhide B0, by show ByteArray.size ⟨#[119]⟩ ≤ 100; decide, z_nobody B⟩, unhide R2, R1, R⟩
        case measure => show 100 - slenL vn < 100 - M.length; rw [unhide HS]; omega
      · have hlf : decide ((M.length : Int) < 4 + d) = false := by simpa using hlt
        go_wp2_with fail
        go_ret
        exact ⟨M, _, rfl, by omega, unhide HM, o6, ⟨p2 + 1, by omega, r6⟩, q6⟩
  · have f0 : (c == 0) = false := by simpa using e0
    have f1 : (c == 1) = false := by simpa using e1
    have f2 : (c == 2) = false := by simpa using e2
    have f3 : (c == 3) = false := by simpa using e3
    go_wp2_with fail
    go_ret
    exact ⟨L, _, rfl, by rw [← unhide HN]; omega, unhide HM, by rw [← unhide HN]; exact o4, ⟨p1 + 1 + 1, by omega, r4⟩, q4⟩
end Go.Proofs.YtlboekimnhgfdaaGreat.Draw

/- Slices whose elements hold slices: small things that serve every such type. No condition. -/
namespace Go.Proofs.YtlboekimnhgfdaaGreat.Rw
open Go.RowKit Go.ChangeShapes Go.WideShapes
theorem choose_list {α β : Type} [Inhabited α] [Inhabited β] {P : α → β → Prop} : ∀ (cs : List α), (∀ c ∈ cs, ∃ x, P c x) → ∃ zs : List β, zs.length = cs.length ∧ ∀ i, i < cs.length → P (cs.getD i default) (zs.getD i default)
  | [], _ => ⟨[], rfl, fun i h => by cases h⟩
  | c :: cs, h => by
    obtain ⟨x, hx⟩ := h c (by simp)
    obtain ⟨zs, hl, hz⟩ := choose_list cs (fun d hd => h d (by simp [hd]))
    refine ⟨x :: zs, by simp [hl], fun i hi => ?_⟩
    cases i with
    | zero => simpa using hx
    | succ i =>
      have := hz i (by simpa using hi)
      simpa using this
/-- a slice that came in, by its one cell -/
theorem slice_cell {H : Type} {enc : TypeId × Value → H} {W : World} {t e : TypeId} {n : Nat} {c : Value} {y : DataW H × List MemPlace} (ht : Tryz.prog.underlying t = some (.slice e))
    (h : DataW.trod enc Tryz.prog W 0 (fun _ => true) true n t [c] = some y) : ∃ a l k, c = .slice a l k ∧ DataW.Trod enc Tryz.prog W 0 (fun _ => true) true t (.slice a l k) y.1 y.2 := by
  rcases Go.Deep.open_slice ht h with ⟨hcs, _⟩ | ⟨x, l, k, m, n', D, Pl, hcs, _⟩
  · simp only [List.cons.injEq, and_true] at hcs
    subst hcs
    exact ⟨none, 0, 0, rfl, n, h⟩
  · simp only [List.cons.injEq, and_true] at hcs
    subst hcs
    exact ⟨some x, l, k, rfl, n, h⟩
theorem Lies.form {w : World} {v : Value} {n size : Nat} {xs : List Value} (h : Lies w v n size xs) : ∃ a cap, v = .slice a n cap ∧ n ≤ cap ∧ cap ≤ maxLen := by
  obtain ⟨_, a, cap, h1, h2, h3, _⟩ := h
  exact ⟨a, cap, h1, h2, h3⟩
end Go.Proofs.YtlboekimnhgfdaaGreat.Rw

/- What a call leaves as it was, but for some blocks. No condition. -/
namespace Go.Proofs.YtlboekimnhgfdaaGreat.Rw
open Go.RowKit
/-- all that was there is as it was, but for blocks from lo on, ahead of hi -/
structure Zone (lo hi : Nat) (w w' : World) : Prop where
  os : w'.os = w.os
  tape : w'.tape = w.tape
  output : w'.output = w.output
  size : w.heap.size ≤ w'.heap.size
  block : ∀ k, k < w.heap.size → (k < lo ∨ hi ≤ k) → w'.heap[k]? = w.heap[k]?
theorem Zone.refl (lo hi : Nat) (w : World) : Zone lo hi w w := ⟨rfl, rfl, rfl, Nat.le_refl _, fun _ _ _ => rfl⟩
theorem Zone.trans {lo hi : Nat} {a b c : World} (h : Zone lo hi a b) (h' : Zone lo hi b c) : Zone lo hi a c :=
  ⟨h'.os.trans h.os, h'.tape.trans h.tape, h'.output.trans h.output, Nat.le_trans h.size h'.size, fun k hk ho => (h'.block k (Nat.lt_of_lt_of_le hk h.size) ho).trans (h.block k hk ho)⟩
theorem Zone.of_below {lo hi : Nat} {w w' : World} (h : Below w.heap.size w w') : Zone lo hi w w' := ⟨h.os, h.tape, h.output, h.size, fun k hk _ => h.block k hk⟩
theorem Zone.mono {lo hi lo' hi' : Nat} {w w' : World} (h : Zone lo hi w w') (h1 : lo' ≤ lo) (h2 : hi ≤ hi') : Zone lo' hi' w w' := ⟨h.os, h.tape, h.output, h.size, fun k hk ho => h.block k hk (by omega)⟩
theorem Zone.below {lo hi B : Nat} {w w' : World} (h : Zone lo hi w w') (hB : B ≤ lo) (hs : B ≤ w.heap.size) : Below B w w' := ⟨h.os, h.tape, h.output, h.size, fun k hk => h.block k (by omega) (.inl (by omega))⟩
theorem Zone.of_only {g lo hi : Nat} {w w' : World} (h : OnlyAt g w w') (h1 : lo ≤ g) (h2 : g < hi) : Zone lo hi w w' := ⟨h.os, h.tape, h.output, Nat.le_of_eq h.size.symm, fun k _ ho => h.block k (by omega)⟩
theorem Zone.store {g lo hi : Nat} {w w' : World} (h : Zone lo hi w w') (h1 : lo ≤ g) (h2 : g < hi) (j : Nat) (u : Value) : Zone lo hi w (w'.setCell ⟨g, j, none⟩ u) := h.trans (Zone.of_only ((OnlyAt.refl g w').setCell j u) h1 h2)
/-- a slice that lies outside -/
def Out (lo hi : Nat) (v : Value) : Prop := ∀ k, v.ownBlock = some k → k < lo ∨ hi ≤ k
theorem Zone.lies {lo hi : Nat} {w w' : World} (h : Zone lo hi w w') {v : Value} {n size : Nat} {xs : List Value} (hs : Lies w v n size xs) (hv : Out lo hi v) : Lies w' v n size xs := by
  obtain ⟨h0, ad, cap, h1, h2, h3, h4, h5⟩ := hs
  refine ⟨h0, ad, cap, h1, h2, h3, h4, fun hn => ?_⟩
  obtain ⟨c, off, e, hl, hc⟩ := h5 hn
  exact ⟨c, off, e, Nat.lt_of_lt_of_le hl h.size, fun j u hj => (World.cell?_of_block (a := ⟨c, off + j, none⟩) (h.block c hl (hv c (by rw [h1, e]; rfl)))).trans (hc j u hj)⟩
theorem Zone.own {lo hi : Nat} {w w' : World} (h : Zone lo hi w w') {base n size : Nat} {e : TypeId} {v : Value} {xs : List Value} (ho : w.ownsRow base e size v n xs) (hv : Out lo hi v) : w'.ownsRow base e size v n xs := by
  refine ⟨ho.1, ?_⟩
  rcases ho.2 with h1 | ⟨c, cap, cur, h1, h2, h3, h4⟩
  · exact .inl h1
  · refine .inr ⟨c, cap, cur, h1, h2, ?_, h4⟩
    have hl : c < w.heap.size := by
      rcases Nat.lt_or_ge c w.heap.size with hl | hl
      · exact hl
      · rw [Array.getElem?_eq_none hl] at h3; cases h3
    rw [h.block c hl (hv c (by rw [h1]; rfl))]
    exact h3
/-- a row of the call's own lies from its base on, ahead of what the world has -/
theorem own_out {w : World} {base n size lo hi : Nat} {e : TypeId} {v : Value} {xs : List Value} (h : w.ownsRow base e size v n xs) (ho : hi ≤ base ∨ w.heap.size ≤ lo) : Out lo hi v := by
  intro k hk
  have h1 := own_ge h k hk
  have h2 := own_block_lt h k hk
  omega
/-- slices of which no two lie in one block -/
def Apart (cs : List Value) : Prop := ∀ i j, i < j → j < cs.length → ∀ k, (cs.getD i default).ownBlock = some k → (cs.getD j default).ownBlock ≠ some k
theorem Apart.nil : Apart [] := fun i j _ h => by cases h
theorem Apart.snoc {cs : List Value} {c : Value} (h : Apart cs) (hc : ∀ i, i < cs.length → ∀ k, (cs.getD i default).ownBlock = some k → c.ownBlock ≠ some k) : Apart (cs ++ [c]) := by
  intro i j hij hj k hk
  simp only [List.length_append, List.length_cons, List.length_nil] at hj
  have ei : (cs ++ [c]).getD i default = cs.getD i default := by simp [List.getD, List.getElem?_append_left (show i < cs.length by omega)]
  rw [ei] at hk
  by_cases hl : j < cs.length
  · rw [show (cs ++ [c]).getD j default = cs.getD j default by simp [List.getD, List.getElem?_append_left hl]]
    exact h i j hij hl k hk
  · obtain rfl : j = cs.length := by omega
    rw [show (cs ++ [c]).getD cs.length default = c by simp [List.getD]]
    exact hc i hij k hk
theorem Apart.ne {cs : List Value} (h : Apart cs) {i j : Nat} (hij : i ≠ j) (hi : i < cs.length) (hj : j < cs.length) : ∀ k, (cs.getD i default).ownBlock = some k → (cs.getD j default).ownBlock ≠ some k := by
  intro k hk
  rcases Nat.lt_or_gt_of_ne hij with hl | hl
  · exact h i j hl hj k hk
  · intro hk'
    exact h j i hl hi k hk' hk
theorem own_ne_type {w : World} {b1 b2 s1 s2 n1 n2 : Nat} {e1 e2 : TypeId} {v1 v2 : Value} {x1 x2 : List Value} (h1 : w.ownsRow b1 e1 s1 v1 n1 x1) (h2 : w.ownsRow b2 e2 s2 v2 n2 x2) (he : e1 ≠ e2) : ∀ k, v1.ownBlock = some k → v2.ownBlock ≠ some k := by
  intro k hk hk'
  rcases h1.2 with ⟨rfl, _⟩ | ⟨g, cap, cur, rfl, _, hg, _⟩
  · cases hk
  · rcases h2.2 with ⟨rfl, _⟩ | ⟨g', cap', cur', rfl, _, hg', _⟩
    · cases hk'
    · simp only [Value.ownBlock, Option.some.injEq] at hk hk'
      subst hk
      subst hk'
      rw [hg] at hg'
      simp only [Option.some.injEq, Obj.cells.injEq] at hg'
      exact he hg'.2.1
def loOf (v : Value) : Nat := match v.ownBlock with | some g => g | none => 0
def hiOf (v : Value) : Nat := match v.ownBlock with | some g => g + 1 | none => 0
theorem in_self (v : Value) : ∀ k, v.ownBlock = some k → loOf v ≤ k ∧ k < hiOf v := by
  intro k hk
  unfold loOf hiOf
  rw [hk]
  exact ⟨Nat.le_refl _, Nat.lt_succ_self _⟩
theorem out_of_ne {v u : Value} (h : ∀ k, v.ownBlock = some k → u.ownBlock ≠ some k) : Out (loOf v) (hiOf v) u := by
  intro k hk
  unfold loOf hiOf
  cases hv : v.ownBlock with
  | none => exact .inr (Nat.zero_le _)
  | some g =>
    have : g ≠ k := fun e => h g hv (by rw [e]; exact hk)
    simp only
    omega
theorem zone_in {v : Value} {lo hi : Nat} {w w' : World} (h : Zone (loOf v) (hiOf v) w w') (hin : ∀ k, v.ownBlock = some k → lo ≤ k ∧ k < hi) : Zone lo hi w w' := by
  unfold loOf hiOf at h
  cases hv : v.ownBlock with
  | none =>
    simp only [hv] at h
    exact ⟨h.os, h.tape, h.output, h.size, fun k hk _ => h.block k hk (.inr (Nat.zero_le _))⟩
  | some g =>
    simp only [hv] at h
    have := hin g hv
    exact h.mono (by omega) (by omega)
end Go.Proofs.YtlboekimnhgfdaaGreat.Rw
