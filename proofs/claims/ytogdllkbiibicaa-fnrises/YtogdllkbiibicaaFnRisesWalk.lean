/- FnRises returns true at every two texts of bytes. -/
import Derived.Test.YtogdllkbiibicaaDrawWin
import Derived.Test.YtogdllkbiibicaaWinMath2
namespace Go.Proofs.Ytogdllkbiibicaa
open Go.RowKit Draw Rw
set_option linter.unusedVariables false
set_option maxRecDepth 100000 in
set_option maxHeartbeats 4000000 in
theorem fnRises.walk (a0 : Option Addr) (len0 cap0 : Nat) (z0 : List Int) (a1 : Option Addr) (len1 cap1 : Nat) (z1 : List Int) (w : World) (w0 : IsRow .u8 w a0 len0 cap0 z0) (w1 : IsRow .u8 w a1 len1 cap1 z1) :
    Calls Try.prog 6 #[.slice a0 len0 cap0, .slice a1 len1 cap1] w fun e w' => e = .returned (.bool true) ∧ Below w.heap.size w w' := by
  have l0 := (row_bytes w0)
  have c0 : len0 ≤ 9223372036854775807 := by have := l0.1; have := l0.2.1; unfold maxLen at this; omega
  have l1 := (row_bytes w1)
  have c1 : len1 ≤ 9223372036854775807 := by have := l1.1; have := l1.2.1; unfold maxLen at this; omega
  have H0 := hide (draw_rises w w w0 (Below.refl _ _))
  clear l0 w0 l1 w1
  by_cases hb0 : 1048576 < len0
  · go_enter Try.func6, Try.ntmps6
    go_wp2
    go_ret
    exact ⟨rfl, Below.refl _ _⟩
  by_cases hb1 : 1048576 < len1
  · go_enter Try.func6, Try.ntmps6
    go_wp2
    go_ret
    exact ⟨rfl, Below.refl _ _⟩
  have hd1 : decide (1048576 < len1) = false := by simp; omega
  go_enter Try.func6, Try.ntmps6
  go_wp2_with fail
  refine (unhide H0).mono ?_
  rintro e W ⟨zs, g, cp, rfl, hl, s1, hg, b1⟩
  obtain ⟨n, hn⟩ : ∃ n, n = zs.length := ⟨_, rfl⟩
  rw [← hn] at hl s1 ⊢
  have HN := hide hn
  have hcp : n ≤ cp ∧ cp ≤ 9223372036854775807 := by
    obtain ⟨-, a', c', h1, h2, h3, -⟩ := s1
    simp only [Value.slice.injEq] at h1
    unfold maxLen at h3
    omega
  clear hn H0
  go_wp2_with fail
  refine (Sam.impl_rises s1).mono ?_
  rintro e W2 ⟨rfl, b2⟩
  have s2 := s1.below b2
  have g2 : g < W2.heap.size := Nat.lt_of_lt_of_le hg b2.size
  have d2 := b1.trans (b2.mono b1.size)
  clear s1 hg b1 b2
  go_wp2_with fail
  refine (Sam.spec_rises s2).mono ?_
  rintro e W3 ⟨rfl, b3⟩
  have s3 := s2.below b3
  have g3 : g < W3.heap.size := Nat.lt_of_lt_of_le g2 b3.size
  have d3 := d2.trans (b3.mono d2.size)
  clear s2 g2 d2 b3
  obtain ⟨R, hR⟩ : ∃ R, SampMath.rises zs = R := ⟨_, rfl⟩
  rw [hR]
  have HR := hide hR
  clear hR
  have hRR : (R != R) = false := by simp
  go_wp2_with fail
  refine (Samp.spec_ok (Sam.smp_of_is s3 ⟨g, 0, n, cp, rfl, g3⟩)).mono ?_
  rintro e W4 ⟨rfl, b4⟩
  have s4 := s3.below b4
  have g4 : g < W4.heap.size := Nat.lt_of_lt_of_le g3 b4.size
  have d4 := d3.trans (b4.mono d3.size)
  clear s3 g3 d3 b4
  cases hok : SampMath.ok zs
  · clear hok
    go_wp2_with fail
    refine (Sam.spec_rises s4).mono ?_
    rintro e W5 ⟨rfl, b5⟩
    have d5 := d4.trans (b5.mono d4.size)
    rw [unhide HR]
    go_wp2
    go_ret
    exact ⟨rfl, d5⟩
  · have HK := hide hok
    clear hok
    by_cases h2 : n < 2
    · go_wp2_with fail
      refine (Sam.spec_rises s4).mono ?_
      rintro e W5 ⟨rfl, b5⟩
      have d5 := d4.trans (b5.mono d4.size)
      rw [unhide HR]
      go_wp2
      go_ret
      exact ⟨rfl, d5⟩
    · obtain ⟨M, q, hM, hq, hq1, hM1⟩ : ∃ M q : Nat, (n : Int) - 1 = (M : Int) ∧ (len1 : Int).tmod (M : Int) = (q : Int) ∧ q < M ∧ M + 1 = n := by
        refine ⟨n - 1, len1 % (n - 1), by omega, ?_, Nat.mod_lt _ (by omega), by omega⟩
        rw [Int.tmod_eq_emod_of_nonneg (by omega)]
        exact (Int.natCast_emod len1 (n - 1)).symm
      have hq2 : (len1 : Int) % (M : Int) = (q : Int) := by rw [← Int.tmod_eq_emod_of_nonneg (by omega)]; exact hq
      have hM0 : ((M : Int) == 0) = false := by simp; omega
      have hM2 : ¬ (M : Int) = 0 := by omega
      have hkk : (1 : Int) + (q : Int) = (q : Int) + 1 := by omega
      obtain ⟨R1, e1, i1⟩ := Sam.head_is (k := q + 1) s4 (unhide HN) (by omega)
      have e1' : ∀ X : World, (Instr.slice 25 (.slice (some ⟨g, 0, none⟩) n cp) none (some (.int .i64 ((q : Int) + 1))) none).run Try.prog X = .ok R1 X := fun X => by have := e1 X; rwa [show ((q + 1 : Nat) : Int) = (q : Int) + 1 from by omega] at this
      clear e1
      obtain ⟨R2, e2, i2⟩ := Sam.rest_is (k := q) s4 (unhide HN) (by omega)
      obtain ⟨A, hA⟩ : ∃ A, SampMath.rises (zs.take (q + 1)) = A := ⟨_, rfl⟩
      obtain ⟨B, hB⟩ : ∃ B, SampMath.rises (zs.drop q) = B := ⟨_, rfl⟩
      have HI1 := hide (fun (x : Cls W4.heap.size W4) => Sam.impl_rises (i1.below x.isBelow))
      have HI2 := hide (fun (x : Cls W4.heap.size W4) => Sam.impl_rises (i2.below x.isBelow))
      rw [hA] at HI1
      rw [hB] at HI2
      have hs := SampMath.rises_parts (unhide HK) (k := q + 1) (by omega) (by have := unhide HN; omega)
      rw [Nat.add_sub_cancel, hA, hB, unhide HR] at hs
      have hrR := SampMath.rises_range (unhide HK)
      rw [unhide HR] at hrR
      have hrA := SampMath.rises_range (SampMath.ok_sub (unhide HK) (List.take_sublist (q + 1) zs))
      rw [hA] at hrA
      have hrB := SampMath.rises_range (SampMath.ok_sub (unhide HK) (List.drop_sublist q zs))
      rw [hB] at hrB
      have hen := SampMath.rises_ends (unhide HK) (by have := unhide HN; omega)
      rw [unhide HR, ← unhide HN, ← hM1, Nat.add_sub_cancel] at hen
      obtain ⟨b, off, ea, hbl, hcell⟩ := Sam.v_cell s4 (Below.refl _ _) (by omega) (unhide HN)
      simp only [Option.some.injEq, Addr.mk.injEq, and_true] at ea
      obtain ⟨rfl, rfl⟩ := ea
      have hx0 := (hcell 0 (by omega)).2
      have hx1 := (hcell M (by omega)).2
      have rg0 := SampMath.ok_range (unhide HK) (k := 0) (by have := unhide HN; omega)
      have rg1 := SampMath.ok_range (unhide HK) (k := M) (by have := unhide HN; omega)
      clear hcell hA hB
      obtain ⟨P, hP⟩ : ∃ P, P = (SampMath.at' zs 0).2 := ⟨_, rfl⟩
      obtain ⟨V, hV⟩ : ∃ V, V = (SampMath.at' zs M).2 := ⟨_, rfl⟩
      rw [← hP] at hx0 hen rg0
      rw [← hV] at hx1 hen rg1
      have rg0' := rg0.2.2
      have rg1' := rg1.2.2
      clear hP hV i1 i2 rg0 rg1
      have q0 : ∀ x : Cls W4.heap.size W4, x.val.cell? ⟨g, 1, none⟩ = some (.int .i64 P) := fun x => by rw [x.cell hbl]; simpa using hx0
      have q1 : ∀ x : Cls W4.heap.size W4, x.val.cell? ⟨g, M * 2 + 1, none⟩ = some (.int .i64 V) := fun x => by rw [x.cell hbl]; simpa using hx1
      have hne := cls_nonempty W4.heap.size W4
      have t1 : (R == A + B) = true := by simp; omega
      have t1' : decide (R = A + B) = true := by simp; omega
      have t2 : decide (0 ≤ R) = true := by simp; omega
      have t3 : decide (V - P ≤ R) = true := by simp; omega
      have hn2 : ¬ (n : Int) < 2 := by omega
      have hn3 : decide ((n : Int) < 2) = false := by simp; omega
      have hn4 : decide (n < 2) = false := by simp; omega
      clear h2 hs
      go_wp2_with fail
      refine region_cls (by kernel_rfl) (by kernel_rfl) ?_
      repeat (go_big_quiet_step ((first | (go_at_call_of 14 R1; exact cls_call (Nat.le_refl _) (unhide HI1 _)) | (go_at_call_of 14 R2; exact cls_call (Nat.le_refl _) (unhide HI2 _)))))
      refine wpQuiet_nil ?_
      rintro W5 ⟨⟨_, b5⟩, rfl⟩
      have d5 := d4.trans (b5.mono d4.size)
      go_wp2
      go_ret
      exact ⟨rfl, d5⟩
end Go.Proofs.Ytogdllkbiibicaa
