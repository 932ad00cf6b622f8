/- Bytes are drawn. -/
import Derived.Test.YtkaepjngmgicaaaDraw2
namespace Go.Proofs.Ytkaepjngmgicaaa.Draw
open Go.RowKit Samp
set_option linter.unusedVariables false
attribute [local go_sem ↓] Go.wp_at_zero Go.wp_at_succ
theorem Rd.grown {w w' : World} {rb p : Nat} {row : Option Nat} (h : Rd w rb p) (hg : w.grownBy w' row) (hr : ∀ k, row = some k → rb < k) : Rd w' rb p := by
  have hl := h.lt
  obtain ⟨a, len, cap, h1, h2, h3, h4, h5⟩ := h
  refine ⟨a, len, cap, by rw [hg.block rb hl (fun e => by have := hr rb e.symm; omega)]; exact h1, h2, h3, h4, fun h0 => ?_⟩
  obtain ⟨b, off, e, hbr, hc⟩ := h5 h0
  refine ⟨b, off, e, hbr, fun i hi => ?_⟩
  obtain ⟨c, hc1, hc2⟩ := hc i hi
  exact ⟨c, hc1, (World.cell?_of_block (a := ⟨b, off + i, none⟩) (hg.block b (show b < w.heap.size by omega) (fun e => by have := hr b e.symm; omega))).trans hc2⟩
theorem grown_other {a b c : World} {r row : Option Nat} (h : a.grownBy b r) (h' : b.grownBy c row) (hr : ∀ k, row = some k → a.heap.size ≤ k) : a.grownBy c r :=
  ⟨h'.os.trans h.os, h'.tape.trans h.tape, h'.output.trans h.output, Nat.le_trans h.size h'.size, fun k hk hne => (h'.block k (Nat.lt_of_lt_of_le hk h.size) (fun e => by have := hr k e.symm; omega)).trans (h.block k hk hne)⟩
theorem own_kept {w w' : World} {base : Nat} {e : TypeId} {size n : Nat} {v : Value} {xs : List Value} {rb : Nat} (h : w.ownsRow base e size v n xs) (hg : w.grownBy w' (some rb)) (hr : rb < base) : w'.ownsRow base e size v n xs :=
  h.kept hg (by
    cases hv : v.ownBlock with
    | none => exact .inl rfl
    | some k => right; intro e; have := own_ge h k hv; simp only [Option.some.injEq] at e; omega)
set_option maxRecDepth 100000 in
set_option maxHeartbeats 2000000 in
theorem bytes_any (rb p : Nat) (w : World) (h : Rd w rb p) (hp : p ≤ 900000) :
    Calls Try.prog 71 #[.pointer (some ⟨rb, 0, none⟩)] w fun e w' => ∃ (l : List UInt8) (p' : Nat), e = .returned (.string ⟨l.toArray⟩) ∧ l.length ≤ 11 ∧ p' ≤ p + 40 ∧ Rd w' rb p' ∧ w.grownBy w' (some rb) := by
  obtain ⟨i0, hi, hz0, hz1, hz2⟩ := info_parts info_u8
  have hrl := h.lt
  have HR := hide h
  clear h
  go_enter Try.func71, Try.ntmps71
  go_wp2_with fail
  refine (pick_any rb p _ _ ((unhide HR).below ((Below.refl _ _).alloc (Nat.le_refl _) _)) (by omega) (by omega)).mono ?_
  rintro e w1 ⟨n, rfl, n0, n1, -, r1, g1⟩
  have n2 : n < 12 := n1 (by omega)
  have o1 := own_kept (own_empty (w := w) (base := w.heap.size) (e := 5) (size := 1) (Nat.le_refl _)) g1 hrl
  have q1 : w.grownBy w1 (some rb) := grown_trans (grown_below ((Below.refl _ _).alloc (Nat.le_refl _) _)) g1
  clear n1 g1
  go_wp2_with fail
  go_loopw [3, 4] (fun v nv wr => ∃ (k : Nat) (l : List UInt8) (p' : Nat), nv = .int .i64 (k : Int) ∧ l.length + k ≤ 11 ∧ p' ≤ p + 1 + 3 * l.length ∧ wr.ownsRow w.heap.size 5 1 v l.length (l.map byteV) ∧ Rd wr rb p' ∧ w.grownBy wr (some rb)) (fun _ nv _ => (intOf nv).toNat)
  case atStart => exact ⟨n.toNat, [], p + 1, by rw [Int.toNat_of_nonneg n0], by simp; omega, by simp, o1, r1, q1⟩
  case round =>
    obtain ⟨k, l, p', rfl, hk, hp', hown, hrd, hg⟩ := hrel
    have hsz := hg.size
    by_cases hk0 : 0 < k
    · have hk1 : (0 : Int) < (k : Int) := by omega
      clear o1 r1 q1
      go_wp2_with fail
      refine (pick_any rb p' _ _ hrd (by omega) (by omega)).mono ?_
      rintro e w2 ⟨x, rfl, x0, x1, -, r2, g2⟩
      have x2 : x < 256 := x1 (by omega)
      have o2 := own_kept hown g2 hrl
      have q2 := grown_trans hg g2
      clear x1 hown hg hrd g2
      go_wp2_with fail
      refine (pick_any rb (p' + 1) _ _ r2 (by omega) (by omega)).mono ?_
      rintro e w3 ⟨y, rfl, y0, y1, -, r3, g3⟩
      have y2 : y < 256 := y1 (by omega)
      have o3 := own_kept o2 g3 hrl
      have q3 := grown_trans q2 g3
      clear y1 o2 q2 r2 g3
      go_wp2_with fail
      have hone := one_new rb (p' + 1 + 1) [0, 255, 128, 1, x, y] _ r3 (by omega) (by simp) (by simp)
      simp only [List.map_cons, List.map_nil, List.length_cons, List.length_nil, Nat.zero_add, Nat.reduceAdd] at hone
      refine hone.mono ?_
      clear hone
      rintro e w4 ⟨z, rfl, hz, r4, g4⟩
      have z0 : 0 ≤ z ∧ z ≤ 255 := by
        simp only [List.mem_cons, List.not_mem_nil, or_false] at hz
        omega
      obtain ⟨z1, z2⟩ := z0
      have o4 := own_kept o3 g4 hrl
      have q4 := grown_trans q3 g4
      have s4 := q4.size
      clear hz o3 q3 r3 g4
      go_wp2_with (at_builtin; refine wpList_append_lies _ rfl _ _ _ rfl w.heap.size 5 i0 _ 1 1 Try.underlying22 hi hz0 hz1 hz2 rfl (by omega) _ l.length _ rfl (o4.alloc _) _ 1 1 [.int .u8 z] rfl rfl (World.news_of_block (cs := #[.int .u8 z]) (t := 5) (fr := (0, 0)) (heap_alloc_new _ _)) (by simp [Value.oneCell']) (by omega) (by unfold maxLen; omega) (by omega) (by simp; omega) _ rfl ?_; intro gg cap w9 hown2 hgrow hat hlt2)
      have ge4 := own_ge o4
      have gA : w4.grownBy (w4.alloc (.cells #[.int .u8 z] 5)) (some rb) := grown_below ((Below.refl _ _).alloc (Nat.le_refl _) _)
      have R : w.grownBy w9 (some rb) := grown_other (grown_trans q4 gA) hgrow ge4
      have R1 : Rd w9 rb (p' + 1 + 1 + 1) := (r4.below ((Below.refl _ _).alloc (Nat.le_refl _) _)).grown hgrow (fun k hk => by have := ge4 k hk; omega)
      have ez : Value.int .u8 z = byteV (UInt8.ofNat z.toNat) := by
        unfold byteV
        rw [UInt8.toNat_ofNat', Nat.mod_eq_of_lt (by omega), Int.toNat_of_nonneg z1]
      have R2 : w9.ownsRow w.heap.size 5 1 (.slice (some ⟨gg, 0, none⟩) (l.length + 1) cap) (l ++ [UInt8.ofNat z.toNat]).length ((l ++ [UInt8.ofNat z.toNat]).map byteV) := by
        rw [List.length_append, List.map_append, List.map_cons, List.map_nil, ← ez]; exact hown2
      have HR2 := hide R2
      clear hown2 hgrow o4 q4 r4 ge4 ez gA R2
      go_wp2
      go_roundw
      case rel => exact ⟨k - 1, l ++ [UInt8.ofNat z.toNat], p' + 1 + 1 + 1, by go_num, by simp; omega, by simp; omega, unhide HR2, R1, R⟩
      case measure => simp [intOf]; omega
    · have hcv := conv_owned hown
      go_wp2
      go_ret
      exact ⟨l, p', rfl, by omega, by omega, hrd, hg⟩
end Go.Proofs.Ytkaepjngmgicaaa.Draw
