/- My own texts of one claim, laid together by program: DrawWords, AlTexts. -/
import Derived.Test.YtbkolpiekcifpaaG701dd325a7
import Derived.Test.YtbkolpiekcifpaaGc3f5c2ceb7
import Derived.Test.YtbkolpiekcifpaaG2b0cdbdb0c
/- Labels, a name and matches are drawn, for the index; the same texts are the same. -/
namespace Go.Proofs.Ytbkolpiekcifpaa.Draw
open Go.RowKit Rw
set_option linter.unusedVariables false
attribute [local go_sem ↓] Go.wp_at_zero Go.wp_at_succ
set_option maxHeartbeats 4000000 in
theorem draw_indexwords {a : Option Addr} {len cap : Nat} {bs : List Int} (w0 w : World) (h : IsRow .u8 w0 a len cap bs) (hB : Below w0.heap.size w0 w) :
    Calls Try.prog 20 #[.slice a len cap] w fun e w' => ∃ (zs : List Lss.E) (nm : ByteArray) (ms : List Mat.E) (v u : Value), e = .returned (.tuple #[v, .string nm, u]) ∧ zs.length ≤ 7 ∧ ms.length ≤ 20 ∧ (nm.size ≠ 0 → Lab.nameB nm = true) ∧ nm.size ≤ 10 ∧ (∀ x ∈ zs, smallLL x) ∧ (∀ x ∈ ms, smallM x) ∧ Lss.Is w' v zs ∧ Mat.Is w' u ms ∧ Below w.heap.size w w' := by
  have HO := hide (open_any w0 w h hB)
  clear h hB
  go_enter Try.func20, Try.ntmps20
  go_wp2_with fail
  refine (unhide HO).mono ?_
  rintro e w1 ⟨rfl, r1, b1⟩
  have hlt := r1.lt
  have hs1 := b1.size
  go_wp2_with fail
  refine (drawMany_any w.heap.size 0 _ r1 (by omega)).mono ?_
  rintro e w2 ⟨zs, v, rfl, hl, hsm, o2, ⟨p2, hp2, r2⟩, q2⟩
  have M1 := hide hsm
  have O2 := hide o2
  clear r1 HO hsm o2
  go_wp2_with fail
  have hof := of_new w.heap.size p2 [⟨#[97, 112, 112]⟩, ⟨#[104, 111, 115, 116]⟩, ⟨#[122, 111, 110, 101]⟩, ⟨#[108, 111, 115, 116]⟩, ⟨#[]⟩] _ r2 (by omega) (by simp) (by simp)
  simp only [List.map_cons, List.map_nil, List.length_cons, List.length_nil, Nat.zero_add, Nat.reduceAdd] at hof
  refine hof.mono ?_
  clear hof
  rintro e w3 ⟨nm, rfl, hA, r3, g3⟩
  have A0 := hide (show (nm.size ≠ 0 → Lab.nameB nm = true) ∧ nm.size ≤ 10 by
    simp only [List.mem_cons, List.not_mem_nil, or_false] at hA
    rcases hA with rfl | rfl | rfl | rfl | rfl
    · exact ⟨fun _ => by decide, by decide⟩
    · exact ⟨fun _ => by decide, by decide⟩
    · exact ⟨fun _ => by decide, by decide⟩
    · exact ⟨fun _ => by decide, by decide⟩
    · exact ⟨fun h => absurd rfl h, by decide⟩)
  have O3 := hide ((unhide O2).kept g3 hlt)
  have q3 := grown_trans q2 g3
  clear hA O2 q2 r2 g3
  go_wp2_with fail
  refine (anymatches_any w.heap.size (p2 + 1) _ r3 (by omega)).mono ?_
  rintro e w4 ⟨ms, u, rfl, hl', hsm, o4, ⟨p4, hp4, r4⟩, q4⟩
  have M2 := hide hsm
  have O4 := hide ((unhide O3).kept q4 hlt)
  have q5 := grown_trans q3 q4
  have b5 := b1.trans (below_of_grown q5 (Nat.le_refl _) hs1)
  have S1 := hide (unhide O4).is
  have S2 := hide (Mat.is_of_own o4)
  clear o4 O3 O4 q3 q4 r3 r4 hsm
  go_wp2_with fail
  go_ret3
  exact ⟨zs, nm, ms, _, _, rfl, hl, hl', (unhide A0).1, (unhide A0).2, unhide M1, unhide M2, unhide S1, unhide S2, b5⟩
end Go.Proofs.Ytbkolpiekcifpaa.Draw

/- The same texts are the same. -/
namespace Go.Proofs.Ytbkolpiekcifpaa.Str
open Go.RowKit Rw
set_option linter.unusedVariables false
attribute [local go_sem ↓] Go.wp_at_zero Go.wp_at_succ
set_option maxRecDepth 100000 in
set_option maxHeartbeats 2000000 in
theorem al_same {v u : Value} {zs : List E} {w : World} (h : Is w v zs) (h' : Is w u zs) : Calls Try.prog 22 #[v, u] w fun e w' => e = .returned (.bool true) ∧ Below w.heap.size w w' := by
  obtain ⟨-, a, cap, rfl, hc, hm, -, hr⟩ := h
  obtain ⟨-, a', cap', rfl, hc', hm', -, hr'⟩ := h'
  unfold maxLen at hm hm'
  obtain ⟨n, hn⟩ : ∃ n, n = zs.length := ⟨_, rfl⟩
  rw [← hn] at hc hr hc' hr' ⊢
  have HN := hide hn
  clear hn
  go_enter Try.func22, Try.ntmps22
  go_wp2
  go_loopw [5] (fun i wr => ∃ (j : Nat), j ≤ n ∧ i = .int .i64 j ∧ Below w.heap.size w wr) (fun i _ => n - (intOf i).toNat)
  case atStart => exact ⟨0, Nat.zero_le _, rfl, Below.refl _ _⟩
  case round =>
    obtain ⟨j, hj, rfl, hbel⟩ := hrel
    have hsz := hbel.size
    by_cases hlt : j < n
    · obtain ⟨b, off, rfl, hl, hcells⟩ := hr (by omega)
      obtain ⟨b', off', rfl, hl', hcells'⟩ := hr' (by omega)
      have fa := flat_at zs j (by have := unhide HN; omega)
      obtain ⟨A, hX⟩ : ∃ A, A = at' zs j := ⟨_, rfl⟩
      rw [← hX] at fa
      have hq0 : ∀ x : Cls wr.heap.size wr, x.val.cell? ⟨b, off + j, none⟩ = some (.string A) := fun x => by rw [x.cell (by omega)]; exact (hbel.cell (p := ⟨b, _, none⟩) hl).trans (hcells j _ fa)
      have hp0 : ∀ x : Cls wr.heap.size wr, x.val.cell? ⟨b', off' + j, none⟩ = some (.string A) := fun x => by rw [x.cell (by omega)]; exact (hbel.cell (p := ⟨b', _, none⟩) hl').trans (hcells' j _ fa)
      have hk0 : (0 : Int) ≤ (j : Int) := Int.natCast_nonneg _
      have hk1 : (j : Int) < (n : Int) := by omega
      clear hX fa
      have hne := cls_nonempty wr.heap.size wr
      go_wp2_with fail
      refine region_cls (by kernel_rfl) (by kernel_rfl) ?_
      repeat (go_big_quiet_step (fail))
      refine wpQuiet_nil ?_
      rintro wq ⟨⟨_, hq⟩, rfl⟩
      go_wp2
      go_roundw
      case rel => exact ⟨j + 1, by omega, by go_num, hbel.trans (hq.mono hsz)⟩
      case measure => simp [intOf]; omega
    · go_wp2
      go_ret
      exact ⟨rfl, hbel⟩
end Go.Proofs.Ytbkolpiekcifpaa.Str
