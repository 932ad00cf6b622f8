/- My own texts of one claim, laid together by program: DrawRowsJoin, LabEq, AlLab. -/
import Derived.Test.YthcdohbfnflkiaaGe92e8b3cec
import Derived.Test.YthcdohbfnflkiaaG8afb96adbf
import Derived.Test.YthcdohbfnflkiaaG2ba2f89b3e
import Derived.Laws.StructEq
import Derived.Test.YthcdohbfnflkiaaGd599aff62b
import Derived.Test.YthcdohbfnflkiaaGc4b55f1683
/- Rows are drawn twice. -/
namespace Go.Proofs.Ythcdohbfnflkiaa.Draw
open Go.RowKit Rw
set_option linter.unusedVariables false
attribute [local go_sem ↓] Go.wp_at_zero Go.wp_at_succ
set_option maxRecDepth 100000 in
set_option maxHeartbeats 4000000 in
theorem draw_rowsjoin {a : Option Addr} {len cap : Nat} {zs : List Int} (w0 w : World) (h : IsRow .u8 w0 a len cap zs) (hB : Below w0.heap.size w0 w) :
    Calls Try.prog 14 #[.slice a len cap] w fun e w' => ∃ (L M : List Row.E) (v u : Value), e = .returned (.tuple #[v, u]) ∧ RG L ∧ RG M ∧ Row.Is w' v L ∧ Row.Is w' u M ∧ Below w.heap.size w w' := by
  have HO := hide (open_any w0 w h hB)
  clear h hB
  go_enter Try.func14, Try.ntmps14
  go_wp2_with fail
  refine (unhide HO).mono ?_
  rintro e w1 ⟨rfl, r1, b1⟩
  have hlt := r1.lt
  have hs1 := b1.size
  go_wp2_with fail
  refine (anyrows_any w.heap.size 0 0 _ r1 (by omega) (by omega) (by omega)).mono ?_
  rintro e w2 ⟨L, v, rfl, hRG, hF, ⟨p2, hp2, r2⟩, q2⟩
  have HRG := hide hRG
  have HF := hide hF
  obtain ⟨va, vn, vq, rfl⟩ : ∃ a n q, v = .slice a n q := by obtain ⟨cs, -, hL, -⟩ := hF; obtain ⟨-, a, q, e, -⟩ := hL; exact ⟨a, _, q, e⟩
  clear hRG hF r1 HO
  go_wp2_with fail
  refine (pick_any w.heap.size p2 _ _ r2 (by omega) (by omega)).mono ?_
  rintro e w3 ⟨x, rfl, x0, x1, -, r3, q3⟩
  have HF3 := hide ((unhide HF).grown q3 hlt)
  have b3 : Below w.heap.size w w3 := b1.trans (below_of_grown (grown_trans q2 q3) (Nat.le_refl _) hs1)
  clear HF q2 q3 r2 x1 b1
  by_cases hx : x = 0
  · subst hx
    have HC := hide (Row.l5copy_any (unhide HF3).is ⟨(unhide HRG).1, fun x hx => ⟨by have := ((unhide HRG).2 x hx).2.1; omega, ((unhide HRG).2 x hx).2.2⟩⟩)
    go_wp2_with fail
    refine (unhide HC).mono ?_
    rintro e w4 ⟨u, rfl, ou, b4⟩
    have SV := hide ((unhide HF3).is.below b4)
    have SU := hide ou.is
    have c4 := b3.trans (b4.mono b3.size)
    obtain ⟨ua, un, uq, rfl⟩ : ∃ a n q, u = .slice a n q := by obtain ⟨cs, -, hL, -⟩ := ou.is; obtain ⟨-, a, q, e, -⟩ := hL; exact ⟨a, _, q, e⟩
    clear ou b4 HC HF3 r3
    go_wp2_with fail
    go_ret2
    exact ⟨L, L, _, _, rfl, unhide HRG, unhide HRG, unhide SV, unhide SU, c4⟩
  · have hx' : (x == 0) = false := by simp; omega
    have hone := one_new w.heap.size (p2 + 1) [0, 300, 100] _ r3 (by omega) (by simp) (by simp)
    simp only [List.map_cons, List.map_nil, List.length_cons, List.length_nil, Nat.zero_add, Nat.reduceAdd] at hone
    have HOne := hide hone
    clear hone hx
    go_wp2_with fail
    refine (unhide HOne).mono ?_
    rintro e w4 ⟨y, rfl, hy, r4, q4⟩
    have hy' : 0 ≤ y ∧ y ≤ 300 := by simp only [List.mem_cons, List.not_mem_nil, or_false] at hy; omega
    have HF4 := hide ((unhide HF3).grown q4 hlt)
    have b4 := b3.trans (below_of_grown q4 (Nat.le_refl _) b3.size)
    clear HF3 hy q4 r3 HOne b3
    go_wp2_with fail
    refine (anyrows_any w.heap.size (p2 + 1 + 1) y _ r4 (by omega) hy'.1 (by omega)).mono ?_
    rintro e w5 ⟨M, u, rfl, hRG2, hF5, ⟨p5, hp5, r5⟩, q5⟩
    have HF5 := hide ((unhide HF4).grown q5 hlt)
    have SU := hide hF5.is
    have HRG2 := hide hRG2
    have b5 := b4.trans (below_of_grown q5 (Nat.le_refl _) b4.size)
    obtain ⟨ua, un, uq, rfl⟩ : ∃ a n q, u = .slice a n q := by obtain ⟨cs, -, hL, -⟩ := hF5.is; obtain ⟨-, a, q, e, -⟩ := hL; exact ⟨a, _, q, e⟩
    clear hF5 hRG2 r5 q5 HF4 r4
    go_wp2_with fail
    go_ret2
    exact ⟨L, M, _, _, rfl, unhide HRG, unhide HRG2, (unhide HF5).is, unhide SU, b5⟩
end Go.Proofs.Ythcdohbfnflkiaa.Draw

/- Whether a label is another. -/
namespace Go.Proofs.Ythcdohbfnflkiaa.Lab
open Go.RowKit Rw
set_option linter.unusedVariables false
attribute [local go_sem ↓] Go.wp_at_zero Go.wp_at_succ
theorem eqLab (A B C D : ByteArray) (w : World) : (Op.equalIn 10000 47 (.agg #[.string A, .string B]) (.agg #[.string C, .string D])).run Try.prog w = .ok (A.toList == C.toList && B.toList == D.toList) w := by
  have u3 := Try.underlying9
  have a3 := Try.isAgg9
  have z3 := Try.sizeOf9
  have hS : Try.prog.underlying 47 = some (.struct (Try.prog.fieldsOf 47)) := by kernel_rfl
  have hp : Try.prog.stoodInHeld 47 = false := by kernel_rfl
  rw [show (10000 : Nat) = 9999 + 1 from rfl, run_equalIn_agg w 9999 47 _ _ hS hp]
  simp only [Program.fieldsOf, Try.underlying47]
  go_simp
  cases h1 : (A.toList == C.toList) <;> cases h2 : (B.toList == D.toList) <;> simp_all
theorem run_neL (A B C D : ByteArray) (R : Bool) (h : R = !(A.toList == C.toList && B.toList == D.toList)) (W : World) : (binOp .neq 47 (.agg #[.string A, .string B]) (.agg #[.string C, .string D])).run Try.prog W = .ok (.bool R) W := by
  rw [run_neq_struct, eqLab, h]; rfl
end Go.Proofs.Ythcdohbfnflkiaa.Lab

/- Labels are drawn twice; whether labels are the same. -/
namespace Go.Proofs.Ythcdohbfnflkiaa.Lab
open Go.RowKit Rw Draw
set_option linter.unusedVariables false
attribute [local go_sem ↓] Go.wp_at_zero Go.wp_at_succ
set_option maxRecDepth 100000 in
set_option maxHeartbeats 2000000 in
theorem al_any {v u : Value} {zs ys : List E} {w : World} (h : Is w v zs) (h' : Is w u ys) : Calls Try.prog 34 #[v, u] w fun e w' => ∃ R : Bool, e = .returned (.bool R) ∧ (R = true ↔ zs = ys) ∧ Below w.heap.size w w' := by
  obtain ⟨-, a, cap, rfl, hc, hm, -, hr⟩ := h
  obtain ⟨-, a', cap', rfl, hc', hm', -, hr'⟩ := h'
  unfold maxLen at hm hm'
  by_cases hll : zs.length = ys.length
  · obtain ⟨n, hn⟩ : ∃ n, n = zs.length := ⟨_, rfl⟩
    rw [← hll] at hc' hr' ⊢
    rw [← hn] at hc hr hc' hr' ⊢
    have HN := hide hn
    have HM := hide (hn.trans hll)
    clear hn hll
    go_enter Try.func34, Try.ntmps34
    go_wp2_with fail
    go_loopw [5] (fun i wr => ∃ (k : Nat), k ≤ n ∧ i = .int .i64 k ∧ zs.take k = ys.take k ∧ Below w.heap.size w wr) (fun i _ => n - (intOf i).toNat)
    case atStart => exact ⟨0, Nat.zero_le _, rfl, by simp, Below.refl _ _⟩
    case round =>
      obtain ⟨k, hk, rfl, hT, hbel⟩ := hrel
      have HT := hide hT
      clear hT
      have hsz := hbel.size
      by_cases hlt : k < n
      · obtain ⟨b, off, rfl, hl, hcells⟩ := hr (by omega)
        obtain ⟨b', off', rfl, hl', hcells'⟩ := hr' (by omega)
        have hkz : k < zs.length := by have := unhide HN; omega
        have hky : k < ys.length := by have := unhide HM; omega
        have s1 := at_snoc zs k hkz
        have s2 := at_snoc ys k hky
        obtain ⟨A, B, hX⟩ : ∃ A B, (A, B) = at' zs k := ⟨_, _, rfl⟩
        obtain ⟨C, D, hY⟩ : ∃ C D, (C, D) = at' ys k := ⟨_, _, rfl⟩
        have fa := ag hkz A B hX
        have fb := ag hky C D hY
        rw [← hX] at s1
        rw [← hY] at s2
        have hq0 : ∀ x : Cls wr.heap.size wr, x.val.cell? ⟨b, off + k * 2, none⟩ = some (.string A) := fun x => by rw [x.cell (by omega)]; exact (hbel.cell (p := ⟨b, _, none⟩) hl).trans (hcells (k * 2) _ fa.1)
        have hq1 : ∀ x : Cls wr.heap.size wr, x.val.cell? ⟨b, off + k * 2 + 1, none⟩ = some (.string B) := fun x => by rw [x.cell (by omega)]; exact (hbel.cell (p := ⟨b, _, none⟩) hl).trans (hcells (k * 2 + 1) _ fa.2)
        have hp0 : ∀ x : Cls wr.heap.size wr, x.val.cell? ⟨b', off' + k * 2, none⟩ = some (.string C) := fun x => by rw [x.cell (by omega)]; exact (hbel.cell (p := ⟨b', _, none⟩) hl').trans (hcells' (k * 2) _ fb.1)
        have hp1 : ∀ x : Cls wr.heap.size wr, x.val.cell? ⟨b', off' + k * 2 + 1, none⟩ = some (.string D) := fun x => by rw [x.cell (by omega)]; exact (hbel.cell (p := ⟨b', _, none⟩) hl').trans (hcells' (k * 2 + 1) _ fb.2)
        have hk0 : (0 : Int) ≤ (k : Int) := Int.natCast_nonneg _
        have hk1 : (k : Int) < (n : Int) := by omega
        have S := hide (And.intro s1 s2)
        clear s1 s2 hX hY fa fb hcells hcells' hr hr'
        have hne := cls_nonempty wr.heap.size wr
        by_cases he : A = C ∧ B = D
        · have hs : ∀ W, (binOp .neq 47 (.agg #[.string A, .string B]) (.agg #[.string C, .string D])).run Try.prog W = .ok (.bool false) W := fun W => run_neL A B C D false (by rw [he.1, he.2]; simp) W
          have HE := hide he
          clear he
          go_wp2_with fail
          refine region_cls (by kernel_rfl) (by kernel_rfl) ?_
          repeat (go_big_quiet_step ((fail)))
          refine wpQuiet_nil ?_
          rintro wq ⟨⟨_, hq⟩, rfl⟩
          have H7 := hide (show zs.take (k + 1) = ys.take (k + 1) by rw [(unhide S).1, (unhide S).2, unhide HT, (unhide HE).1, (unhide HE).2])
          go_wp2_with fail
          go_roundw
          case rel => exact ⟨k + 1, by omega, by go_num, unhide H7, hbel.trans (hq.mono hsz)⟩
          case measure => simp [intOf]; omega
        · have hs : ∀ W, (binOp .neq 47 (.agg #[.string A, .string B]) (.agg #[.string C, .string D])).run Try.prog W = .ok (.bool true) W := fun W => run_neL A B C D true (by
            rw [ByteArray.toList_eq, ByteArray.toList_eq, ByteArray.toList_eq, ByteArray.toList_eq]
            cases h1 : (A.data.toList == C.data.toList)
            · rfl
            · cases h2 : (B.data.toList == D.data.toList)
              · rfl
              · exact absurd ⟨Go.WideShapes.bytes_inj (beq_iff_eq.1 h1), Go.WideShapes.bytes_inj (beq_iff_eq.1 h2)⟩ he) W
          have HE := hide (show ¬ zs = ys from fun e => he (by
            have h1 := (unhide S).1
            have h2 := (unhide S).2
            rw [e, h2] at h1
            have := List.append_cancel_left h1
            simp only [List.cons.injEq, Prod.mk.injEq, and_true] at this
            exact ⟨this.1.symm, this.2.symm⟩))
          clear he
          go_wp2_with fail
          refine region_cls (by kernel_rfl) (by kernel_rfl) ?_
          repeat (go_big_quiet_step ((fail)))
          refine wpQuiet_nil ?_
          rintro wq ⟨⟨_, hq⟩, rfl⟩
          go_wp2_with fail
          go_ret
          exact ⟨false, rfl, ⟨fun h => (by cases h), fun h => absurd h (unhide HE)⟩, hbel.trans (hq.mono hsz)⟩
      · have hkf : decide ((k : Int) < (n : Int)) = false := by simp; omega
        have H7 := hide (show zs = ys by
          have := unhide HT
          rwa [List.take_of_length_le (by have := unhide HN; omega), List.take_of_length_le (by have := unhide HM; omega)] at this)
        go_wp2_with fail
        go_ret
        exact ⟨true, rfl, ⟨fun _ => unhide H7, fun _ => rfl⟩, hbel⟩
  · have hne : ((zs.length : Int) != (ys.length : Int)) = true := by simp; omega
    have HE := hide (show ¬ zs = ys from fun e => hll (by rw [e]))
    go_enter Try.func34, Try.ntmps34
    go_wp2_with fail
    go_ret
    exact ⟨false, rfl, ⟨fun h => (by cases h), fun h => absurd h (unhide HE)⟩, Below.refl _ _⟩
end Go.Proofs.Ythcdohbfnflkiaa.Lab
