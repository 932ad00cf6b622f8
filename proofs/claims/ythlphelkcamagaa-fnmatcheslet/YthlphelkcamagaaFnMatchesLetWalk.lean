/- FnMatchesLet returns true at every text of bytes. -/
import Derived.Test.YthlphelkcamagaaLetLaw
namespace Go.Proofs.Ythlphelkcamagaa
open Go.RowKit Rw Mat Draw
set_option linter.unusedVariables false
attribute [local go_sem ↓] Go.wp_at_zero Go.wp_at_succ
theorem m_block {wr W5 : World} {c c' : Array Value} {t t' : TypeId} (bb : Below ((wr.alloc (.cells c t)).alloc (.cells c' t')).heap.size ((wr.alloc (.cells c t)).alloc (.cells c' t')) W5) : W5.heap[wr.heap.size]? = some (.cells c t (0, 0)) := by
  have b1 : Below (wr.alloc (.cells c t)).heap.size (wr.alloc (.cells c t)) ((wr.alloc (.cells c t)).alloc (.cells c' t')) := (Below.refl _ _).alloc (Nat.le_refl _) _
  rw [bb.block wr.heap.size (by simp; omega), b1.block wr.heap.size (by simp)]
  exact heap_alloc_new wr _
set_option maxRecDepth 100000 in
set_option maxHeartbeats 4000000 in
theorem fnMatchesLet.walk (a0 : Option Addr) (len0 cap0 : Nat) (z0 : List Int) (w : World) (w0 : IsRow .u8 w a0 len0 cap0 z0) :
    Calls Try.prog 4 #[.slice a0 len0 cap0] w fun e w' => e = .returned (.bool true) ∧ Below w.heap.size w w' := by
  have l0 := (row_bytes w0)
  have c00 : len0 ≤ 9223372036854775807 := by have := l0.1; have := l0.2.1; unfold maxLen at this; omega
  have H0 := hide (draw_let w w w0 (Below.refl _ _))
  clear l0 w0
  by_cases hb0 : 1048576 < len0
  · go_enter Try.func4, Try.ntmps4
    go_wp2
    go_ret
    exact ⟨rfl, Below.refl _ _⟩
  go_enter Try.func4, Try.ntmps4
  go_wp2_with fail
  refine (unhide H0).mono ?_
  rintro e W ⟨zs, ls, va, vb, rfl, hl, hl', hsm, hsm', sa, sb, c0⟩
  clear H0
  obtain ⟨aa, ca, ea⟩ : ∃ a c, va = .slice a zs.length c := by obtain ⟨-, a, c, e, -⟩ := sa; exact ⟨a, c, e⟩
  obtain ⟨ab, cb, eb⟩ : ∃ a c, vb = .slice a ls.length c := by obtain ⟨-, a, c, e, -⟩ := sb; exact ⟨a, c, e⟩
  subst ea eb
  have HLa := hide (show zs.length ≤ maxLen by unfold maxLen; omega)
  have HLb := hide (show ls.length ≤ maxLen by unfold maxLen; omega)
  have GA := hide (fun x hx => good_smallM (hsm x hx))
  have GB := hide (fun x hx => good_smallL (hsm' x hx))
  have SM := hide hsm
  clear hsm hsm'
  go_wp2_with fail
  refine (impl_let sa sb (unhide GA) (unhide GB) (unhide HLa)).mono ?_
  rintro e W1 ⟨rfl, bb⟩
  have f1_a := sa.below bb
  clear sa
  have f1_b := sb.below bb
  clear sb
  have c1 := c0.trans (bb.mono c0.size)
  clear c0 bb
  obtain ⟨R, hR⟩ : ∃ R, R = mlet zs ls := ⟨_, rfl⟩
  rw [← hR]
  have HR := hide hR
  clear hR
  go_wp2_with fail
  refine (spec_let f1_a f1_b (unhide GA) (unhide GB) (unhide HLa) (unhide HLb)).mono ?_
  rintro e W2 ⟨rfl, bb⟩
  rw [← unhide HR]
  have f2_a := f1_a.below bb
  clear f1_a
  have f2_b := f1_b.below bb
  clear f1_b
  have c2 := c1.trans (bb.mono c1.size)
  clear c1 bb
  have nn : (R != R) = false := by simp
  have nn2 : (R == R) = true := by simp
  go_wp2_with fail
  cases hoa : ok zs
  · have KA := hide hoa
    clear hoa
    refine (Mat.spec_ok f2_a (unhide GA) (unhide HLa)).mono ?_
    rintro e W3 ⟨rfl, bb⟩
    rw [unhide KA]
    have f3_a := f2_a.below bb
    clear f2_a
    have f3_b := f2_b.below bb
    clear f2_b
    have c3 := c2.trans (bb.mono c2.size)
    clear c2 bb
    go_wp2_with fail
    refine (spec_let f3_a f3_b (unhide GA) (unhide GB) (unhide HLa) (unhide HLb)).mono ?_
    rintro e W4 ⟨rfl, bb⟩
    rw [← unhide HR]
    have c4 := c3.trans (bb.mono c3.size)
    clear f3_a f3_b c3 bb
    go_wp2_with fail
    go_ret
    exact ⟨by first | rfl | exact ret_bool nn2, c4⟩
  · have KA := hide hoa
    clear hoa
    refine (Mat.spec_ok f2_a (unhide GA) (unhide HLa)).mono ?_
    rintro e W3 ⟨rfl, bb⟩
    rw [unhide KA]
    have f3_a := f2_a.below bb
    clear f2_a
    have f3_b := f2_b.below bb
    clear f2_b
    have c3 := c2.trans (bb.mono c2.size)
    clear c2 bb
    go_wp2_with fail
    cases hob : Lab.ok ls
    · have KB := hide hob
      clear hob
      refine (Lab.spec_ok f3_b (unhide GB) (unhide HLb)).mono ?_
      rintro e W4 ⟨rfl, bb⟩
      rw [unhide KB]
      have f4_a := f3_a.below bb
      clear f3_a
      have f4_b := f3_b.below bb
      clear f3_b
      have c4 := c3.trans (bb.mono c3.size)
      clear c3 bb
      go_wp2_with fail
      refine (spec_let f4_a f4_b (unhide GA) (unhide GB) (unhide HLa) (unhide HLb)).mono ?_
      rintro e W5 ⟨rfl, bb⟩
      rw [← unhide HR]
      have c5 := c4.trans (bb.mono c4.size)
      clear f4_a f4_b c4 bb
      go_wp2_with fail
      go_ret
      exact ⟨by first | rfl | exact ret_bool nn2, c5⟩
    · have KB := hide hob
      clear hob
      refine (Lab.spec_ok f3_b (unhide GB) (unhide HLb)).mono ?_
      rintro e W4 ⟨rfl, bb⟩
      rw [unhide KB]
      have f4_a := f3_a.below bb
      clear f3_a
      have f4_b := f3_b.below bb
      clear f3_b
      have c4 := c3.trans (bb.mono c3.size)
      clear c3 bb
      obtain ⟨n, hn⟩ : ∃ n, n = zs.length := ⟨_, rfl⟩
      have hl2 : n ≤ 20 := by omega
      obtain ⟨-, a1, cc1, he, hcc, hmm, -, hr⟩ := f4_a
      cases he
      unfold maxLen at hmm
      rw [← hn] at hcc hr ⊢
      have HN := hide hn
      have HL := hide f4_b
      clear hn f4_b hl hl'
      have hws := c4.size
      go_wp2_with fail
      go_loopw [6, 7] (fun av iv wr => ∃ (k : Nat) (Q : Bool), k ≤ n ∧ iv = .int .i64 k ∧ av = .bool Q ∧ Q = letsTo zs ls k ∧ Below W4.heap.size W4 wr) (fun _ iv _ => n - (intOf iv).toNat)
      case atStart => exact ⟨0, true, Nat.zero_le _, rfl, rfl, rfl, Below.refl _ _⟩
      case round =>
        obtain ⟨k, Q, hk, rfl, rfl, hQ, hbel⟩ := hrel
        have HQ := hide hQ
        clear hQ
        have hsz := hbel.size
        by_cases hlt : k < n
        · have hkz : k < zs.length := by have := unhide HN; omega
          obtain ⟨K, A, B, hX⟩ : ∃ K A B, (K, A, B) = at' zs k := ⟨_, _, _, rfl⟩
          obtain ⟨o1, o2, o3, o4⟩ := ok_at (unhide KA) hkz
          have sm := unhide SM _ (show at' zs k ∈ zs by rw [at_get zs k hkz]; exact List.getElem_mem _)
          rw [← hX] at o1 o2 o3 o4 sm
          have hA : A.size ≤ 100 := sm.2.2.1
          have hB : B.size ≤ 100 := sm.2.2.2
          have o1' : 1 ≤ K := o1
          have o2' : K ≤ 4 := o2
          have HO := hide (And.intro o3 o4)
          clear o1 o2 o3 o4 sm
          obtain ⟨b, off, rfl, hlb, hcells⟩ := hr (by omega)
          have fa := flat_at zs k hkz
          rw [← hX] at fa
          have hc0 : wr.cell? ⟨b, off + k * 3, none⟩ = some (.int .i64 K) := (hbel.cell (p := ⟨b, _, none⟩) hlb).trans (hcells (k * 3) _ fa.1)
          have hc1 : wr.cell? ⟨b, off + k * 3 + 1, none⟩ = some (.string A) := (hbel.cell (p := ⟨b, _, none⟩) hlb).trans (hcells (k * 3 + 1) _ fa.2.1)
          have hc2 : wr.cell? ⟨b, off + k * 3 + 2, none⟩ = some (.string B) := (hbel.cell (p := ⟨b, _, none⟩) hlb).trans (hcells (k * 3 + 2) _ fa.2.2)
          have HX := hide hX
          have hk0 : (0 : Int) ≤ (k : Int) := Int.natCast_nonneg _
          have hk1 : (k : Int) < (n : Int) := by omega
          clear fa hX hcells hr
          have hb2 := (hbel.alloc hsz (.cells #[.int .i64 K, .string A, .string B] 36)).alloc (by simp; omega) (.cells #[.int .i64 K, .string A, .string B] 36)
          have I1 := hide (impl_let (is_one (wr.alloc (.cells #[.int .i64 K, .string A, .string B] 36)) K A B (N := wr.heap.size + 1) (by simp)) ((unhide HL).below hb2) (good_one o1' o2' hA hB) (unhide GB) (by unfold maxLen; show 1 ≤ _; omega))
          go_wp2_with fail
          refine (unhide I1).mono ?_
          rintro e W5 ⟨rfl, bb⟩
          rw [mlet_one o1' o2' (unhide HO).1 (unhide HO).2 (unhide KB)]
          obtain ⟨q, hq⟩ : ∃ q, q = letB (K, A, B) ls := ⟨_, rfl⟩
          rw [← hq]
          have Hq := hide hq
          have hb5 := hide (hb2.trans (bb.mono (hb2.size)))
          have hs5 := bb.size
          simp at hs5
          have hh := m_block bb
          have hd0 : W5.cell? ⟨wr.heap.size, 0, none⟩ = some (.int .i64 K) := by rw [cell_of_row W5 _ 0 _ _ _ hh]; rfl
          have hd1 : W5.cell? ⟨wr.heap.size, 1, none⟩ = some (.string A) := by rw [cell_of_row W5 _ 1 _ _ _ hh]; rfl
          have hd2 : W5.cell? ⟨wr.heap.size, 2, none⟩ = some (.string B) := by rw [cell_of_row W5 _ 2 _ _ _ hh]; rfl
          have hlt5 : wr.heap.size < W5.heap.size := by omega
          obtain ⟨bc, bf⟩ := bcell bb
          clear hh
          clear hq hb2 I1 bb hc0 hc1 hc2
          cases Q
          · rcases (show K = 1 ∨ K = 2 ∨ K = 3 ∨ K = 4 from by omega) with rfl | rfl | rfl | rfl
            · have hb6 := (((unhide hb5).setCell (p := ⟨wr.heap.size, 0, none⟩) hsz (.int .i64 2)).alloc (by simp; omega) (.cells #[.int .i64 0, .int .i64 2, .int .i64 1, .int .i64 4, .int .i64 3] 3)).alloc (by simp; omega) (.cells #[.int .i64 2, .string A, .string B] 36)
              have I2 := hide (impl_let (is_one ((W5.setCell ⟨wr.heap.size, 0, none⟩ (.int .i64 2)).alloc (.cells #[.int .i64 0, .int .i64 2, .int .i64 1, .int .i64 4, .int .i64 3] 3)) 2 A B (N := W5.heap.size + 1) (by simp)) ((unhide HL).below hb6) (good_one (by omega) (by omega) hA hB) (unhide GB) (by unfold maxLen; show 1 ≤ _; omega))
              have HB := hide hb6
              clear hb6
              go_wp2_with fail
              refine (unhide I2).mono ?_
              rintro e W6 ⟨rfl, bb⟩
              rw [mlet_one (by omega) (by omega) (unhide HO).1 (unhide HO).2 (unhide KB), show letB (2, A, B) ls = !q from by rw [unhide Hq]; exact letB_opp 1 A B ls (by omega) (by omega)]
              have H7 := hide ((unhide HB).trans (bb.mono (unhide HB).size))
              have nq : ((!q) == q) = false := by cases q <;> rfl
              clear I2 HB bb
              go_wp2_with fail
              go_roundw
              case rel => exact ⟨k + 1, false, by omega, by go_num, rfl, by rw [letsTo_succ zs ls k hkz, ← unhide HQ]; rfl, unhide H7⟩
              case measure => simp [intOf]; omega
            · have hb6 := (((unhide hb5).setCell (p := ⟨wr.heap.size, 0, none⟩) hsz (.int .i64 1)).alloc (by simp; omega) (.cells #[.int .i64 0, .int .i64 2, .int .i64 1, .int .i64 4, .int .i64 3] 3)).alloc (by simp; omega) (.cells #[.int .i64 1, .string A, .string B] 36)
              have I2 := hide (impl_let (is_one ((W5.setCell ⟨wr.heap.size, 0, none⟩ (.int .i64 1)).alloc (.cells #[.int .i64 0, .int .i64 2, .int .i64 1, .int .i64 4, .int .i64 3] 3)) 1 A B (N := W5.heap.size + 1) (by simp)) ((unhide HL).below hb6) (good_one (by omega) (by omega) hA hB) (unhide GB) (by unfold maxLen; show 1 ≤ _; omega))
              have HB := hide hb6
              clear hb6
              go_wp2_with fail
              refine (unhide I2).mono ?_
              rintro e W6 ⟨rfl, bb⟩
              rw [mlet_one (by omega) (by omega) (unhide HO).1 (unhide HO).2 (unhide KB), show letB (1, A, B) ls = !q from by rw [unhide Hq]; exact letB_opp 2 A B ls (by omega) (by omega)]
              have H7 := hide ((unhide HB).trans (bb.mono (unhide HB).size))
              have nq : ((!q) == q) = false := by cases q <;> rfl
              clear I2 HB bb
              go_wp2_with fail
              go_roundw
              case rel => exact ⟨k + 1, false, by omega, by go_num, rfl, by rw [letsTo_succ zs ls k hkz, ← unhide HQ]; rfl, unhide H7⟩
              case measure => simp [intOf]; omega
            · have hb6 := (((unhide hb5).setCell (p := ⟨wr.heap.size, 0, none⟩) hsz (.int .i64 4)).alloc (by simp; omega) (.cells #[.int .i64 0, .int .i64 2, .int .i64 1, .int .i64 4, .int .i64 3] 3)).alloc (by simp; omega) (.cells #[.int .i64 4, .string A, .string B] 36)
              have I2 := hide (impl_let (is_one ((W5.setCell ⟨wr.heap.size, 0, none⟩ (.int .i64 4)).alloc (.cells #[.int .i64 0, .int .i64 2, .int .i64 1, .int .i64 4, .int .i64 3] 3)) 4 A B (N := W5.heap.size + 1) (by simp)) ((unhide HL).below hb6) (good_one (by omega) (by omega) hA hB) (unhide GB) (by unfold maxLen; show 1 ≤ _; omega))
              have HB := hide hb6
              clear hb6
              go_wp2_with fail
              refine (unhide I2).mono ?_
              rintro e W6 ⟨rfl, bb⟩
              rw [mlet_one (by omega) (by omega) (unhide HO).1 (unhide HO).2 (unhide KB), show letB (4, A, B) ls = !q from by rw [unhide Hq]; exact letB_opp 3 A B ls (by omega) (by omega)]
              have H7 := hide ((unhide HB).trans (bb.mono (unhide HB).size))
              have nq : ((!q) == q) = false := by cases q <;> rfl
              clear I2 HB bb
              go_wp2_with fail
              go_roundw
              case rel => exact ⟨k + 1, false, by omega, by go_num, rfl, by rw [letsTo_succ zs ls k hkz, ← unhide HQ]; rfl, unhide H7⟩
              case measure => simp [intOf]; omega
            · have hb6 := (((unhide hb5).setCell (p := ⟨wr.heap.size, 0, none⟩) hsz (.int .i64 3)).alloc (by simp; omega) (.cells #[.int .i64 0, .int .i64 2, .int .i64 1, .int .i64 4, .int .i64 3] 3)).alloc (by simp; omega) (.cells #[.int .i64 3, .string A, .string B] 36)
              have I2 := hide (impl_let (is_one ((W5.setCell ⟨wr.heap.size, 0, none⟩ (.int .i64 3)).alloc (.cells #[.int .i64 0, .int .i64 2, .int .i64 1, .int .i64 4, .int .i64 3] 3)) 3 A B (N := W5.heap.size + 1) (by simp)) ((unhide HL).below hb6) (good_one (by omega) (by omega) hA hB) (unhide GB) (by unfold maxLen; show 1 ≤ _; omega))
              have HB := hide hb6
              clear hb6
              go_wp2_with fail
              refine (unhide I2).mono ?_
              rintro e W6 ⟨rfl, bb⟩
              rw [mlet_one (by omega) (by omega) (unhide HO).1 (unhide HO).2 (unhide KB), show letB (3, A, B) ls = !q from by rw [unhide Hq]; exact letB_opp 4 A B ls (by omega) (by omega)]
              have H7 := hide ((unhide HB).trans (bb.mono (unhide HB).size))
              have nq : ((!q) == q) = false := by cases q <;> rfl
              clear I2 HB bb
              go_wp2_with fail
              go_roundw
              case rel => exact ⟨k + 1, false, by omega, by go_num, rfl, by rw [letsTo_succ zs ls k hkz, ← unhide HQ]; rfl, unhide H7⟩
              case measure => simp [intOf]; omega
          · rcases (show K = 1 ∨ K = 2 ∨ K = 3 ∨ K = 4 from by omega) with rfl | rfl | rfl | rfl
            · have hb6 := (((unhide hb5).setCell (p := ⟨wr.heap.size, 0, none⟩) hsz (.int .i64 2)).alloc (by simp; omega) (.cells #[.int .i64 0, .int .i64 2, .int .i64 1, .int .i64 4, .int .i64 3] 3)).alloc (by simp; omega) (.cells #[.int .i64 2, .string A, .string B] 36)
              have I2 := hide (impl_let (is_one ((W5.setCell ⟨wr.heap.size, 0, none⟩ (.int .i64 2)).alloc (.cells #[.int .i64 0, .int .i64 2, .int .i64 1, .int .i64 4, .int .i64 3] 3)) 2 A B (N := W5.heap.size + 1) (by simp)) ((unhide HL).below hb6) (good_one (by omega) (by omega) hA hB) (unhide GB) (by unfold maxLen; show 1 ≤ _; omega))
              have HB := hide hb6
              clear hb6
              go_wp2_with fail
              refine (unhide I2).mono ?_
              rintro e W6 ⟨rfl, bb⟩
              rw [mlet_one (by omega) (by omega) (unhide HO).1 (unhide HO).2 (unhide KB), show letB (2, A, B) ls = !q from by rw [unhide Hq]; exact letB_opp 1 A B ls (by omega) (by omega)]
              have H7 := hide ((unhide HB).trans (bb.mono (unhide HB).size))
              have nq : ((!q) == q) = false := by cases q <;> rfl
              clear I2 HB bb
              go_wp2_with fail
              go_roundw
              case rel => exact ⟨k + 1, q, by omega, by go_num, rfl, by rw [letsTo_succ zs ls k hkz, ← unhide HQ, ← unhide HX, ← unhide Hq]; rfl, unhide H7⟩
              case measure => simp [intOf]; omega
            · have hb6 := (((unhide hb5).setCell (p := ⟨wr.heap.size, 0, none⟩) hsz (.int .i64 1)).alloc (by simp; omega) (.cells #[.int .i64 0, .int .i64 2, .int .i64 1, .int .i64 4, .int .i64 3] 3)).alloc (by simp; omega) (.cells #[.int .i64 1, .string A, .string B] 36)
              have I2 := hide (impl_let (is_one ((W5.setCell ⟨wr.heap.size, 0, none⟩ (.int .i64 1)).alloc (.cells #[.int .i64 0, .int .i64 2, .int .i64 1, .int .i64 4, .int .i64 3] 3)) 1 A B (N := W5.heap.size + 1) (by simp)) ((unhide HL).below hb6) (good_one (by omega) (by omega) hA hB) (unhide GB) (by unfold maxLen; show 1 ≤ _; omega))
              have HB := hide hb6
              clear hb6
              go_wp2_with fail
              refine (unhide I2).mono ?_
              rintro e W6 ⟨rfl, bb⟩
              rw [mlet_one (by omega) (by omega) (unhide HO).1 (unhide HO).2 (unhide KB), show letB (1, A, B) ls = !q from by rw [unhide Hq]; exact letB_opp 2 A B ls (by omega) (by omega)]
              have H7 := hide ((unhide HB).trans (bb.mono (unhide HB).size))
              have nq : ((!q) == q) = false := by cases q <;> rfl
              clear I2 HB bb
              go_wp2_with fail
              go_roundw
              case rel => exact ⟨k + 1, q, by omega, by go_num, rfl, by rw [letsTo_succ zs ls k hkz, ← unhide HQ, ← unhide HX, ← unhide Hq]; rfl, unhide H7⟩
              case measure => simp [intOf]; omega
            · have hb6 := (((unhide hb5).setCell (p := ⟨wr.heap.size, 0, none⟩) hsz (.int .i64 4)).alloc (by simp; omega) (.cells #[.int .i64 0, .int .i64 2, .int .i64 1, .int .i64 4, .int .i64 3] 3)).alloc (by simp; omega) (.cells #[.int .i64 4, .string A, .string B] 36)
              have I2 := hide (impl_let (is_one ((W5.setCell ⟨wr.heap.size, 0, none⟩ (.int .i64 4)).alloc (.cells #[.int .i64 0, .int .i64 2, .int .i64 1, .int .i64 4, .int .i64 3] 3)) 4 A B (N := W5.heap.size + 1) (by simp)) ((unhide HL).below hb6) (good_one (by omega) (by omega) hA hB) (unhide GB) (by unfold maxLen; show 1 ≤ _; omega))
              have HB := hide hb6
              clear hb6
              go_wp2_with fail
              refine (unhide I2).mono ?_
              rintro e W6 ⟨rfl, bb⟩
              rw [mlet_one (by omega) (by omega) (unhide HO).1 (unhide HO).2 (unhide KB), show letB (4, A, B) ls = !q from by rw [unhide Hq]; exact letB_opp 3 A B ls (by omega) (by omega)]
              have H7 := hide ((unhide HB).trans (bb.mono (unhide HB).size))
              have nq : ((!q) == q) = false := by cases q <;> rfl
              clear I2 HB bb
              go_wp2_with fail
              go_roundw
              case rel => exact ⟨k + 1, q, by omega, by go_num, rfl, by rw [letsTo_succ zs ls k hkz, ← unhide HQ, ← unhide HX, ← unhide Hq]; rfl, unhide H7⟩
              case measure => simp [intOf]; omega
            · have hb6 := (((unhide hb5).setCell (p := ⟨wr.heap.size, 0, none⟩) hsz (.int .i64 3)).alloc (by simp; omega) (.cells #[.int .i64 0, .int .i64 2, .int .i64 1, .int .i64 4, .int .i64 3] 3)).alloc (by simp; omega) (.cells #[.int .i64 3, .string A, .string B] 36)
              have I2 := hide (impl_let (is_one ((W5.setCell ⟨wr.heap.size, 0, none⟩ (.int .i64 3)).alloc (.cells #[.int .i64 0, .int .i64 2, .int .i64 1, .int .i64 4, .int .i64 3] 3)) 3 A B (N := W5.heap.size + 1) (by simp)) ((unhide HL).below hb6) (good_one (by omega) (by omega) hA hB) (unhide GB) (by unfold maxLen; show 1 ≤ _; omega))
              have HB := hide hb6
              clear hb6
              go_wp2_with fail
              refine (unhide I2).mono ?_
              rintro e W6 ⟨rfl, bb⟩
              rw [mlet_one (by omega) (by omega) (unhide HO).1 (unhide HO).2 (unhide KB), show letB (3, A, B) ls = !q from by rw [unhide Hq]; exact letB_opp 4 A B ls (by omega) (by omega)]
              have H7 := hide ((unhide HB).trans (bb.mono (unhide HB).size))
              have nq : ((!q) == q) = false := by cases q <;> rfl
              clear I2 HB bb
              go_wp2_with fail
              go_roundw
              case rel => exact ⟨k + 1, q, by omega, by go_num, rfl, by rw [letsTo_succ zs ls k hkz, ← unhide HQ, ← unhide HX, ← unhide Hq]; rfl, unhide H7⟩
              case measure => simp [intOf]; omega
        · have hQR : Q = R := by
            rw [unhide HQ, unhide HR, mlet_ok (unhide KA) (unhide KB)]
            unfold letsTo lets
            rw [List.take_of_length_le (by have := unhide HN; omega)]
          have hkf : decide ((k : Int) < (n : Int)) = false := by simp; omega
          subst hQR
          have I3 := hide (impl_let (is_nil wr) ((unhide HL).below hbel) (by simp) (unhide GB) (Nat.zero_le _))
          go_wp2_with fail
          refine (unhide I3).mono ?_
          rintro e W5 ⟨rfl, bb⟩
          rw [mlet_nil (unhide KB)]
          have H7 := hide (c4.trans ((hbel.trans (bb.mono hsz)).mono hws))
          clear I3 bb
          go_wp2_with fail
          go_ret
          exact ⟨by first | rfl | exact ret_bool nn2, unhide H7⟩
end Go.Proofs.Ythlphelkcamagaa
