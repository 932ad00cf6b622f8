/- My own texts of one claim, laid together by program: Many, DrawLab2, LabEq, AlLab. -/
import Derived.Test.YtlboekimnhgfdaaGreatG54bfd16f94
import Derived.Test.YtlboekimnhgfdaaGreatG5be0a6915a
import Derived.Laws.StructEq
import Derived.Test.YtlboekimnhgfdaaGreatG7c8bd49666
import Derived.Test.YtlboekimnhgfdaaGreatGe6c639e8f1
/- A letter, some times over. -/
namespace Go.Proofs.YtlboekimnhgfdaaGreat.Draw
open Go.RowKit Rw
set_option linter.unusedVariables false
attribute [local go_sem ↓] Go.wp_at_zero Go.wp_at_succ
set_option maxRecDepth 100000 in
set_option maxHeartbeats 1000000 in
theorem many_any (n : Nat) (w : World) (hn : n ≤ 4) : Calls Tryz.prog 144 #[.string ⟨#[122]⟩, .int .i64 (n : Int)] w fun e w' => ∃ B : ByteArray, e = .returned (.string B) ∧ B.size ≤ 50 ∧ w' = w := by
  go_enter Tryz.func144, Tryz.ntmps144
  go_wp2
  go_loop [0, 1, 5] (fun sv nv ov => ∃ (s o : ByteArray) (k : Nat), sv = .string s ∧ ov = .string o ∧ nv = .int .i64 (k : Int) ∧ k ≤ 4 ∧ (k = 4 → s.size ≤ 2 ∧ o.size ≤ 2) ∧ (2 ≤ k → s.size ≤ 4 ∧ o.size ≤ 4) ∧ (1 ≤ k → s.size ≤ 8 ∧ o.size ≤ 8) ∧ s.size ≤ 16 ∧ o.size ≤ 16) (fun _ nv _ => (intOf nv).toNat)
  case atStart => exact ⟨⟨#[122]⟩, ⟨#[]⟩, n, rfl, rfl, rfl, hn, fun _ => by decide, fun _ => by decide, fun _ => by decide, by decide, by decide⟩
  case round =>
    obtain ⟨s, o, k, rfl, rfl, rfl, hk, h4, h2, h1, hs, ho⟩ := hrel
    rcases (show k = 0 ∨ k = 1 ∨ k = 2 ∨ k = 3 ∨ k = 4 from by omega) with rfl | rfl | rfl | rfl | rfl
    · clear h4 h2 h1
      go_wp2
      go_ret
      exact ⟨o, rfl, by omega, rfl⟩
    · have e1 := ByteArray.size_append (a := s) (b := s)
      have e2 := ByteArray.size_append (a := o) (b := s)
      have E := hide (And.intro e1 (And.intro e2 (And.intro h4 (And.intro h2 h1))))
      clear e1 e2 h4 h2 h1
      go_wp2
      obtain ⟨e1, e2, h4, h2, h1⟩ := unhide E
      exact ⟨⟨s ++ s, o ++ s, 0, rfl, rfl, rfl, by omega, fun _ => by omega, fun _ => by omega, fun _ => by omega, by omega, by omega⟩, by simp [intOf]⟩
    · have e1 := ByteArray.size_append (a := s) (b := s)
      have e2 := ByteArray.size_append (a := o) (b := s)
      have E := hide (And.intro e1 (And.intro e2 (And.intro h4 (And.intro h2 h1))))
      clear e1 e2 h4 h2 h1
      go_wp2
      obtain ⟨e1, e2, h4, h2, h1⟩ := unhide E
      exact ⟨⟨s ++ s, o, 1, rfl, rfl, rfl, by omega, fun _ => by omega, fun _ => by omega, fun _ => by omega, by omega, by omega⟩, by simp [intOf]⟩
    · have e1 := ByteArray.size_append (a := s) (b := s)
      have e2 := ByteArray.size_append (a := o) (b := s)
      have E := hide (And.intro e1 (And.intro e2 (And.intro h4 (And.intro h2 h1))))
      clear e1 e2 h4 h2 h1
      go_wp2
      obtain ⟨e1, e2, h4, h2, h1⟩ := unhide E
      exact ⟨⟨s ++ s, o ++ s, 1, rfl, rfl, rfl, by omega, fun _ => by omega, fun _ => by omega, fun _ => by omega, by omega, by omega⟩, by simp [intOf]⟩
    · have e1 := ByteArray.size_append (a := s) (b := s)
      have e2 := ByteArray.size_append (a := o) (b := s)
      have E := hide (And.intro e1 (And.intro e2 (And.intro h4 (And.intro h2 h1))))
      clear e1 e2 h4 h2 h1
      go_wp2
      obtain ⟨e1, e2, h4, h2, h1⟩ := unhide E
      exact ⟨⟨s ++ s, o, 2, rfl, rfl, rfl, by omega, fun _ => by omega, fun _ => by omega, fun _ => by omega, by omega, by omega⟩, by simp [intOf]⟩
end Go.Proofs.YtlboekimnhgfdaaGreat.Draw

/- Labels are drawn, also such as are none. -/
namespace Go.Proofs.YtlboekimnhgfdaaGreat.Draw
open Go.RowKit Rw Lab
set_option linter.unusedVariables false
attribute [local go_sem ↓] Go.wp_at_zero Go.wp_at_succ
def slenL : Value → Nat
  | .slice _ n _ => n
  | _ => 0
theorem flat_setA (zs : List Lab.E) (k : Nat) (h : k < zs.length) (A : ByteArray) : Lab.flat (zs.set k (A, (at' zs k).2)) = (Lab.flat zs).set (k * 2) (.string A) := by
  induction zs generalizing k with
  | nil => simp at h
  | cons z zs ih =>
    rcases k with _ | k
    · simp [flatOf, fl, at']
    · have := ih k (by simpa using h)
      have e : (k + 1) * 2 = k * 2 + 1 + 1 := by omega
      have e2 : at' (z :: zs) (k + 1) = at' zs k := by simp [at']
      simp only [Lab.flat, flatOf, fl, List.set_cons_succ, List.flatMap_cons, List.cons_append, List.nil_append, e, e2] at this ⊢
      rw [this]
theorem flat_setB (zs : List Lab.E) (k : Nat) (h : k < zs.length) (B : ByteArray) : Lab.flat (zs.set k ((at' zs k).1, B)) = (Lab.flat zs).set (k * 2 + 1) (.string B) := by
  induction zs generalizing k with
  | nil => simp at h
  | cons z zs ih =>
    rcases k with _ | k
    · simp [flatOf, fl, at']
    · have := ih k (by simpa using h)
      have e : (k + 1) * 2 + 1 = k * 2 + 1 + 1 + 1 := by omega
      have e2 : at' (z :: zs) (k + 1) = at' zs k := by simp [at']
      simp only [Lab.flat, flatOf, fl, List.set_cons_succ, List.flatMap_cons, List.cons_append, List.nil_append, e, e2] at this ⊢
      rw [this]
theorem z_nobody (B : ByteArray) : (⟨#[122]⟩ : ByteArray) ++ B ≠ nobody := by
  intro e
  have := congrArg (fun x : ByteArray => x.data.toList.head?) e
  simp [nobody, ByteArray.data_append] at this
theorem small_set {L : List Lab.E} {k : Nat} {x : Lab.E} (h : ∀ y ∈ L, smallL y) (hx : smallL x) : ∀ y ∈ L.set k x, smallL y := by
  intro y hy
  rcases List.mem_or_eq_of_mem_set hy with hy | rfl
  · exact h y hy
  · exact hx
theorem small_at {L : List Lab.E} {k : Nat} (h : ∀ y ∈ L, smallL y) (hk : k < L.length) : smallL (at' L k) := by
  rw [at_get L k hk]; exact h _ (List.getElem_mem _)
set_option maxRecDepth 100000 in
set_option maxHeartbeats 4000000 in
theorem anylabels_any (rb p : Nat) (w : World) (h : Rd w rb p) (hp : p ≤ 700000) :
    Calls Tryz.prog 113 #[.pointer (some ⟨rb, 0, none⟩)] w fun e w' => ∃ (zs : List Lab.E) (v : Value), e = .returned v ∧ zs.length ≤ 20 ∧ (∀ x ∈ zs, smallL x) ∧ w'.ownsRow w.heap.size 64 2 v zs.length (Lab.flat zs) ∧ (∃ p', p' ≤ p + 100 ∧ Rd w' rb p') ∧ w.grownBy w' (some rb) := by
  obtain ⟨i0, hi, hz0, hz1, hz2⟩ := info_parts Lab.info_e
  have hrl := h.lt
  have hmx : 1 ≤ maxLen := by unfold maxLen; omega
  have HR := hide h
  clear h
  go_enter Tryz.func113, Tryz.ntmps113
  go_wp2_with fail
  refine (labels_any rb p _ (unhide HR) (by omega)).mono ?_
  rintro e w1 ⟨L, v, rfl, hL0, hL, hsm, o1, ⟨p1, hp1, r1⟩, q1⟩
  obtain ⟨g, cp, rfl⟩ : ∃ g cp, v = .slice (some ⟨g, 0, none⟩) L.length cp := by
    rcases o1.2 with ⟨-, h0⟩ | ⟨g, cp, cur, hv, -⟩
    · omega
    · exact ⟨g, cp, hv⟩
  obtain ⟨n, hn⟩ : ∃ n, n = L.length := ⟨_, rfl⟩
  rw [← hn] at hL hL0 o1 ⊢
  have HN := hide hn
  have HM := hide hsm
  clear HR hsm hn
  go_wp2_with fail
  refine (pick_any rb p1 _ _ r1 (by omega) (by omega)).mono ?_
  rintro e w2 ⟨kk, rfl, k0, k1, -, r2, g2⟩
  have k2 : kk < (n : Int) := k1 (by omega)
  obtain ⟨k, rfl⟩ := Int.eq_ofNat_of_zero_le k0
  have o2 := own_kept o1 g2 hrl
  have q2 := grown_trans q1 g2
  clear o1 q1 r1 g2 k1
  go_wp2_with fail
  refine (pick_any rb (p1 + 1) _ _ r2 (by omega) (by omega)).mono ?_
  rintro e w4 ⟨c, rfl, c0, -, -, r4, g4⟩
  have o4 := own_kept o2 g4 hrl
  have q4 := grown_trans q2 g4
  have hsz4 := q4.size
  clear o2 q2 r2 g4
  have hkl : k < L.length := by have := unhide HN; omega
  have hk0 : (0 : Int) ≤ (k : Int) := Int.natCast_nonneg _
  have hk1 : (k : Int) < (n : Int) := by omega
  rcases (show c = 0 ∨ c = 1 ∨ c = 2 ∨ c = 3 ∨ (c ≠ 0 ∧ c ≠ 1 ∧ c ≠ 2 ∧ c ≠ 3) from by omega) with rfl | rfl | rfl | rfl | ⟨e0, e1, e2, e3⟩
  · go_wp2_with fail
    have hof := of_new rb (p1 + 1 + 1) [⟨#[]⟩, ⟨#[65]⟩, ⟨#[116, 111, 111, 108, 111, 110, 103]⟩, ⟨#[122, 122]⟩] _ r4 (by omega) (by simp) (by simp)
    simp only [List.map_cons, List.map_nil, List.length_cons, List.length_nil, Nat.zero_add, Nat.reduceAdd] at hof
    refine hof.mono ?_
    clear hof
    rintro e w5 ⟨x, rfl, hx, r5, g5⟩
    have X0 := hide (show x.size ≤ 100 ∧ x ≠ nobody by
      simp only [List.mem_cons, List.not_mem_nil, or_false] at hx
      rcases hx with rfl | rfl | rfl | rfl <;> decide)
    have o5 := own_kept o4 g5 hrl
    have q5 := grown_trans q4 g5
    have u0 := o5.cellAt (k * 2) (by omega)
    have u1 := o5.cellAt (k * 2 + 1) (by omega)
    rw [(flat_at L k hkl).1] at u0
    rw [(flat_at L k hkl).2] at u1
    have f0 := o5.frozenAt (k * 2)
    have f1 := o5.frozenAt (k * 2 + 1)
    clear o4 q4 r4 g5 hx
    have hge : w.heap.size ≤ g := own_ge o5 g rfl
    have O := hide (show (w5.setCell ⟨g, k * 2, none⟩ (.string x)).ownsRow w.heap.size 64 2 (.slice (some ⟨g, 0, none⟩) n cp) n (Lab.flat (L.set k (x, (at' L k).2))) by
      rw [flat_setA L k hkl x]
      exact (o5.stored (k * 2) (.string x)).1)
    have gS := grown_only ((OnlyAt.refl g w5).setCell (k * 2) (.string x))
    have Q := grown_other q5 gS (fun j hj => by cases hj; exact hge)
    have R := r5.grown gS (fun j hj => by cases hj; omega)
    have HL := hide (show (L.set k (x, (at' L k).2)).length = n by rw [List.length_set, ← unhide HN])
    have HW := hide (show ∀ y ∈ L.set k (x, (at' L k).2), smallL y from small_set (unhide HM) ⟨(unhide X0).1, (small_at (unhide HM) hkl).2.1, (unhide X0).2⟩)
    clear o5 gS
    generalize L.set k (x, (at' L k).2) = M at O HL HW
    go_wp2_with fail
    go_ret
    exact ⟨M, _, rfl, by rw [unhide HL]; omega, unhide HW, by rw [unhide HL]; exact unhide O, ⟨p1 + 1 + 1 + 1, by omega, R⟩, Q⟩
  · go_wp2_with fail
    have hof := of_new rb (p1 + 1 + 1) [⟨#[]⟩, ⟨#[120, 49]⟩, ⟨#[110, 105, 110, 101, 99, 104, 97, 114, 115]⟩, ⟨#[101, 105, 103, 104, 116, 99, 104, 114]⟩] _ r4 (by omega) (by simp) (by simp)
    simp only [List.map_cons, List.map_nil, List.length_cons, List.length_nil, Nat.zero_add, Nat.reduceAdd] at hof
    refine hof.mono ?_
    clear hof
    rintro e w5 ⟨x, rfl, hx, r5, g5⟩
    have X0 := hide (show x.size ≤ 100 ∧ x ≠ nobody by
      simp only [List.mem_cons, List.not_mem_nil, or_false] at hx
      rcases hx with rfl | rfl | rfl | rfl <;> decide)
    have o5 := own_kept o4 g5 hrl
    have q5 := grown_trans q4 g5
    have u0 := o5.cellAt (k * 2) (by omega)
    have u1 := o5.cellAt (k * 2 + 1) (by omega)
    rw [(flat_at L k hkl).1] at u0
    rw [(flat_at L k hkl).2] at u1
    have f0 := o5.frozenAt (k * 2)
    have f1 := o5.frozenAt (k * 2 + 1)
    clear o4 q4 r4 g5 hx
    have hge : w.heap.size ≤ g := own_ge o5 g rfl
    have O := hide (show (w5.setCell ⟨g, k * 2 + 1, none⟩ (.string x)).ownsRow w.heap.size 64 2 (.slice (some ⟨g, 0, none⟩) n cp) n (Lab.flat (L.set k ((at' L k).1, x))) by
      rw [flat_setB L k hkl x]
      exact (o5.stored (k * 2 + 1) (.string x)).1)
    have gS := grown_only ((OnlyAt.refl g w5).setCell (k * 2 + 1) (.string x))
    have Q := grown_other q5 gS (fun j hj => by cases hj; exact hge)
    have R := r5.grown gS (fun j hj => by cases hj; omega)
    have HL := hide (show (L.set k ((at' L k).1, x)).length = n by rw [List.length_set, ← unhide HN])
    have HW := hide (show ∀ y ∈ L.set k ((at' L k).1, x), smallL y from small_set (unhide HM) ⟨(small_at (unhide HM) hkl).1, (unhide X0).1, (small_at (unhide HM) hkl).2.2⟩)
    clear o5 gS
    generalize L.set k ((at' L k).1, x) = M at O HL HW
    go_wp2_with fail
    go_ret
    exact ⟨M, _, rfl, by rw [unhide HL]; omega, unhide HW, by rw [unhide HL]; exact unhide O, ⟨p1 + 1 + 1 + 1, by omega, R⟩, Q⟩
  · clear o4
    have hb : Below w4.heap.size w4 (w4.alloc (.cells #[] 64)) := (Below.refl _ _).alloc (Nat.le_refl _) _
    go_wp2_with fail
    go_ret
    exact ⟨[], _, rfl, by simp, by simp, own_empty hsz4, ⟨p1 + 1 + 1, by omega, r4.below hb⟩, grown_trans q4 (grown_below hb)⟩
  · go_wp2_with fail
    go_loopw [3] (fun ov wr => ∃ (M : List Lab.E) (p2 : Nat) (am : Option Addr) (cm : Nat), ov = .slice am M.length cm ∧ M.length ≤ 10 ∧ p2 ≤ p + 20 + M.length ∧ (∀ x ∈ M, smallL x) ∧ wr.ownsRow w.heap.size 64 2 ov M.length (Lab.flat M) ∧ Rd wr rb p2 ∧ w.grownBy wr (some rb)) (fun ov _ => 100 - slenL ov)
    case atStart => exact ⟨L, p1 + 1 + 1, _, cp, by rw [← unhide HN], by rw [← unhide HN]; omega, by omega, unhide HM, by rw [← unhide HN]; exact o4, r4, q4⟩
    case round =>
      clear o4 r4 q4 hsz4 HM HN hkl
      obtain ⟨M, p2, am, cm, rfl, hM, hp2, hsm, hown, hrd, hg⟩ := hrel
      have HM := hide hsm
      clear hsm
      go_wp2_with fail
      refine (pick_any rb p2 _ _ hrd (by omega) (by omega)).mono ?_
      rintro e w6 ⟨d, rfl, d0, d1, -, r6, g6⟩
      have d2 : d < 2 := d1 (by omega)
      have o6 := own_kept hown g6 hrl
      have q6 := grown_trans hg g6
      have hsz6 := q6.size
      clear hown hg hrd g6 d1
      by_cases hlt : (M.length : Int) < 4 + d
      · have hM2 : M.length ≤ 4 := by omega
        go_wp2_with fail
        refine (many_any M.length w6 hM2).mono ?_
        rintro e w7 ⟨B, rfl, hB, rfl⟩
        have e7 : (⟨#[122]⟩ : ByteArray).size = 1 := rfl
        have B0 := hide (show ((⟨#[122]⟩ : ByteArray) ++ B).size ≤ 100 by rw [ByteArray.size_append, e7]; omega)
        go_wp2_with (at_builtin; refine app_wp _ rfl _ _ _ rfl w.heap.size 64 i0 _ 2 32 Tryz.underlying60 hi hz0 hz1 hz2 rfl (by omega) _ M.length _ rfl (o6.alloc _) _ 1 [.string (⟨#[122]⟩ ++ B), .string ⟨#[119]⟩] rfl (lies_new rfl rfl hmx) (by simp [Value.oneCell']) (by unfold maxLen; omega) (by omega) (by simp; omega) ?_; intro vn w9 on gn an)
        have ge := own_ge o6
        have R : w.grownBy w9 (some rb) := grown_other (grown_trans q6 (grown_below ((Below.refl _ _).alloc (Nat.le_refl _) _))) gn ge
        have R1 : Rd w9 rb (p2 + 1) := (r6.below ((Below.refl _ _).alloc (Nat.le_refl _) _)).grown gn (fun k hk => by have := ge k hk; omega)
        have R2 := hide (show w9.ownsRow w.heap.size 64 2 vn (M ++ [((⟨#[122]⟩ ++ B, ⟨#[119]⟩) : Lab.E)]).length (Lab.flat (M ++ [((⟨#[122]⟩ ++ B, ⟨#[119]⟩) : Lab.E)])) by rw [List.length_append, flat_snocL]; exact on)
        obtain ⟨an', cn, hvn⟩ : ∃ a c, vn = .slice a (M.length + 1) c := by obtain ⟨-, a, c, e, -⟩ := lies_of_own on; exact ⟨a, c, e⟩
        have HS := hide (show slenL vn = M.length + 1 by rw [hvn]; rfl)
        have HV := hide hvn
        clear on gn ge o6 q6 r6 an hvn
        go_wp2_with fail
        go_roundw
        case rel => exact ⟨M ++ [((⟨#[122]⟩ ++ B, ⟨#[119]⟩) : Lab.E)], p2 + 1, an', cn, by rw [unhide HV]; simp, by simp; omega, by simp; omega, small_snocL (x := ((⟨#[122]⟩ ++ B, ⟨#[119]⟩) : Lab.E)) (unhide HM) ⟨unhide B0, by show ByteArray.size ⟨#[119]⟩ ≤ 100; decide, z_nobody B⟩, unhide R2, R1, R⟩
        case measure => show 100 - slenL vn < 100 - M.length; rw [unhide HS]; omega
      · have hlf : decide ((M.length : Int) < 4 + d) = false := by simpa using hlt
        go_wp2_with fail
        go_ret
        exact ⟨M, _, rfl, by omega, unhide HM, o6, ⟨p2 + 1, by omega, r6⟩, q6⟩
  · have f0 : (c == 0) = false := by simpa using e0
    have f1 : (c == 1) = false := by simpa using e1
    have f2 : (c == 2) = false := by simpa using e2
    have f3 : (c == 3) = false := by simpa using e3
    go_wp2_with fail
    go_ret
    exact ⟨L, _, rfl, by rw [← unhide HN]; omega, unhide HM, by rw [← unhide HN]; exact o4, ⟨p1 + 1 + 1, by omega, r4⟩, q4⟩
end Go.Proofs.YtlboekimnhgfdaaGreat.Draw

/- Whether a label is another. -/
namespace Go.Proofs.YtlboekimnhgfdaaGreat.Lab
open Go.RowKit Rw
set_option linter.unusedVariables false
attribute [local go_sem ↓] Go.wp_at_zero Go.wp_at_succ
theorem eqLab (A B C D : ByteArray) (w : World) : (Op.equalIn 10000 64 (.agg #[.string A, .string B]) (.agg #[.string C, .string D])).run Tryz.prog w = .ok (A.toList == C.toList && B.toList == D.toList) w := by
  have u3 := Tryz.underlying9
  have a3 := Tryz.isAgg9
  have z3 := Tryz.sizeOf9
  have hS : Tryz.prog.underlying 64 = some (.struct (Tryz.prog.fieldsOf 64)) := by kernel_rfl
  have hp : Tryz.prog.stoodInHeld 64 = false := by kernel_rfl
  rw [show (10000 : Nat) = 9999 + 1 from rfl, run_equalIn_agg w 9999 64 _ _ hS hp]
  simp only [Program.fieldsOf, Tryz.underlying64]
  go_simp
  cases h1 : (A.toList == C.toList) <;> cases h2 : (B.toList == D.toList) <;> simp_all
theorem run_neL (A B C D : ByteArray) (R : Bool) (h : R = !(A.toList == C.toList && B.toList == D.toList)) (W : World) : (binOp .neq 64 (.agg #[.string A, .string B]) (.agg #[.string C, .string D])).run Tryz.prog W = .ok (.bool R) W := by
  rw [run_neq_struct, eqLab, h]; rfl
end Go.Proofs.YtlboekimnhgfdaaGreat.Lab

/- Labels are drawn twice; whether labels are the same. -/
namespace Go.Proofs.YtlboekimnhgfdaaGreat.Lab
open Go.RowKit Rw Draw
set_option linter.unusedVariables false
attribute [local go_sem ↓] Go.wp_at_zero Go.wp_at_succ
set_option maxRecDepth 100000 in
set_option maxHeartbeats 2000000 in
theorem al_any {v u : Value} {zs ys : List E} {w : World} (h : Is w v zs) (h' : Is w u ys) : Calls Tryz.prog 69 #[v, u] w fun e w' => ∃ R : Bool, e = .returned (.bool R) ∧ (R = true ↔ zs = ys) ∧ Below w.heap.size w w' := by
  obtain ⟨-, a, cap, rfl, hc, hm, -, hr⟩ := h
  obtain ⟨-, a', cap', rfl, hc', hm', -, hr'⟩ := h'
  unfold maxLen at hm hm'
  by_cases hll : zs.length = ys.length
  · obtain ⟨n, hn⟩ : ∃ n, n = zs.length := ⟨_, rfl⟩
    rw [← hll] at hc' hr' ⊢
    rw [← hn] at hc hr hc' hr' ⊢
    have HN := hide hn
    have HM := hide (hn.trans hll)
    clear hn hll
    go_enter Tryz.func69, Tryz.ntmps69
    go_wp2_with fail
    go_loopw [5] (fun i wr => ∃ (k : Nat), k ≤ n ∧ i = .int .i64 k ∧ zs.take k = ys.take k ∧ Below w.heap.size w wr) (fun i _ => n - (intOf i).toNat)
    case atStart => exact ⟨0, Nat.zero_le _, rfl, by simp, Below.refl _ _⟩
    case round =>
      obtain ⟨k, hk, rfl, hT, hbel⟩ := hrel
      have HT := hide hT
      clear hT
      have hsz := hbel.size
      by_cases hlt : k < n
      · obtain ⟨b, off, rfl, hl, hcells⟩ := hr (by omega)
        obtain ⟨b', off', rfl, hl', hcells'⟩ := hr' (by omega)
        have hkz : k < zs.length := by have := unhide HN; omega
        have hky : k < ys.length := by have := unhide HM; omega
        have s1 := at_snoc zs k hkz
        have s2 := at_snoc ys k hky
        obtain ⟨A, B, hX⟩ : ∃ A B, (A, B) = at' zs k := ⟨_, _, rfl⟩
        obtain ⟨C, D, hY⟩ : ∃ C D, (C, D) = at' ys k := ⟨_, _, rfl⟩
        have fa := ag hkz A B hX
        have fb := ag hky C D hY
        rw [← hX] at s1
        rw [← hY] at s2
        have hq0 : ∀ x : Cls wr.heap.size wr, x.val.cell? ⟨b, off + k * 2, none⟩ = some (.string A) := fun x => by rw [x.cell (by omega)]; exact (hbel.cell (p := ⟨b, _, none⟩) hl).trans (hcells (k * 2) _ fa.1)
        have hq1 : ∀ x : Cls wr.heap.size wr, x.val.cell? ⟨b, off + k * 2 + 1, none⟩ = some (.string B) := fun x => by rw [x.cell (by omega)]; exact (hbel.cell (p := ⟨b, _, none⟩) hl).trans (hcells (k * 2 + 1) _ fa.2)
        have hp0 : ∀ x : Cls wr.heap.size wr, x.val.cell? ⟨b', off' + k * 2, none⟩ = some (.string C) := fun x => by rw [x.cell (by omega)]; exact (hbel.cell (p := ⟨b', _, none⟩) hl').trans (hcells' (k * 2) _ fb.1)
        have hp1 : ∀ x : Cls wr.heap.size wr, x.val.cell? ⟨b', off' + k * 2 + 1, none⟩ = some (.string D) := fun x => by rw [x.cell (by omega)]; exact (hbel.cell (p := ⟨b', _, none⟩) hl').trans (hcells' (k * 2 + 1) _ fb.2)
        have hk0 : (0 : Int) ≤ (k : Int) := Int.natCast_nonneg _
        have hk1 : (k : Int) < (n : Int) := by omega
        have S := hide (And.intro s1 s2)
        clear s1 s2 hX hY fa fb hcells hcells' hr hr'
        have hne := cls_nonempty wr.heap.size wr
        by_cases he : A = C ∧ B = D
        · have hs : ∀ W, (binOp .neq 64 (.agg #[.string A, .string B]) (.agg #[.string C, .string D])).run Tryz.prog W = .ok (.bool false) W := fun W => run_neL A B C D false (by rw [he.1, he.2]; simp) W
          have HE := hide he
          clear he
          go_wp2_with fail
          refine region_cls (by kernel_rfl) (by kernel_rfl) ?_
          repeat (go_big_quiet_step ((fail)))
          refine wpQuiet_nil ?_
          rintro wq ⟨⟨_, hq⟩, rfl⟩
          have H7 := hide (show zs.take (k + 1) = ys.take (k + 1) by rw [(unhide S).1, (unhide S).2, unhide HT, (unhide HE).1, (unhide HE).2])
          go_wp2_with fail
          go_roundw
          case rel => exact ⟨k + 1, by omega, by go_num, unhide H7, hbel.trans (hq.mono hsz)⟩
          case measure => simp [intOf]; omega
        · have hs : ∀ W, (binOp .neq 64 (.agg #[.string A, .string B]) (.agg #[.string C, .string D])).run Tryz.prog W = .ok (.bool true) W := fun W => run_neL A B C D true (by
            rw [ByteArray.toList_eq, ByteArray.toList_eq, ByteArray.toList_eq, ByteArray.toList_eq]
            cases h1 : (A.data.toList == C.data.toList)
            · rfl
            · cases h2 : (B.data.toList == D.data.toList)
              · rfl
              · exact absurd ⟨Go.WideShapes.bytes_inj (beq_iff_eq.1 h1), Go.WideShapes.bytes_inj (beq_iff_eq.1 h2)⟩ he) W
          have HE := hide (show ¬ zs = ys from fun e => he (by
            have h1 := (unhide S).1
            have h2 := (unhide S).2
            rw [e, h2] at h1
            have := List.append_cancel_left h1
            simp only [List.cons.injEq, Prod.mk.injEq, and_true] at this
            exact ⟨this.1.symm, this.2.symm⟩))
          clear he
          go_wp2_with fail
          refine region_cls (by kernel_rfl) (by kernel_rfl) ?_
          repeat (go_big_quiet_step ((fail)))
          refine wpQuiet_nil ?_
          rintro wq ⟨⟨_, hq⟩, rfl⟩
          go_wp2_with fail
          go_ret
          exact ⟨false, rfl, ⟨fun h => (by cases h), fun h => absurd h (unhide HE)⟩, hbel.trans (hq.mono hsz)⟩
      · have hkf : decide ((k : Int) < (n : Int)) = false := by simp; omega
        have H7 := hide (show zs = ys by
          have := unhide HT
          rwa [List.take_of_length_le (by have := unhide HN; omega), List.take_of_length_le (by have := unhide HM; omega)] at this)
        go_wp2_with fail
        go_ret
        exact ⟨true, rfl, ⟨fun _ => unhide H7, fun _ => rfl⟩, hbel⟩
  · have hne : ((zs.length : Int) != (ys.length : Int)) = true := by simp; omega
    have HE := hide (show ¬ zs = ys from fun e => hll (by rw [e]))
    go_enter Tryz.func69, Tryz.ntmps69
    go_wp2_with fail
    go_ret
    exact ⟨false, rfl, ⟨fun h => (by cases h), fun h => absurd h (unhide HE)⟩, Below.refl _ _⟩
end Go.Proofs.YtlboekimnhgfdaaGreat.Lab
