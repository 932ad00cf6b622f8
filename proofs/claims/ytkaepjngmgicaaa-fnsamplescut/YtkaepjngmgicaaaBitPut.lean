/- What BitsPut answers: the writer. -/
import Derived.Test.YtkaepjngmgicaaaBitPutMath
import Derived.Test.YtkaepjngmgicaaaDraw3
import Derived.Deep.RegionLaw
namespace Go.Proofs.Ytkaepjngmgicaaa.BitPut
open Go.RowKit Samp Draw
set_option linter.unusedVariables false
attribute [local go_sem ↓] Go.wp_at_zero Go.wp_at_succ
theorem grown_cell' {a b : World} {row : Option Nat} {c o : Nat} (h : a.grownBy b row) (hc : c < a.heap.size) (hne : ∀ k, row = some k → c ≠ k) : b.cell? ⟨c, o, none⟩ = a.cell? ⟨c, o, none⟩ := World.cell?_of_block (a := ⟨c, o, none⟩) (h.block c hc (fun e => hne c e.symm rfl))
theorem grown_frozen' {a b : World} {row : Option Nat} {c o : Nat} (h : a.grownBy b row) (hc : c < a.heap.size) (hne : ∀ k, row = some k → c ≠ k) : b.frozen? ⟨c, o, none⟩ = a.frozen? ⟨c, o, none⟩ := World.frozen?_of_block (a := ⟨c, o, none⟩) (h.block c hc (fun e => hne c e.symm rfl))
set_option maxRecDepth 100000 in
set_option maxHeartbeats 2000000 in
theorem put_any (B base num wide : Nat) (v : Value) (l : List UInt8) (w : World) (hB : B < base) (hbase : base ≤ w.heap.size) (hw : wide ≤ 32) (hnum : num < 4294967296) (hl : l.length + wide ≤ 6000)
    (hc : w.cell? ⟨B, 0, none⟩ = some v) (hf : w.frozen? ⟨B, 0, none⟩ = false) (hown : w.ownsRow base 5 1 v l.length (l.map byteV)) :
    Calls Try.prog 64 #[.pointer (some ⟨B, 0, none⟩), .int .i64 num, .int .i64 wide] w fun e w' => (∃ r, e = .returned r) ∧ ∃ v', w'.cell? ⟨B, 0, none⟩ = some v' ∧ w'.frozen? ⟨B, 0, none⟩ = false ∧ w'.ownsRow base 5 1 v' (l.length + wide) ((l ++ bitsK num wide wide).map byteV) ∧ Below B w w' := by
  obtain ⟨i0, hi, hz0, hz1, hz2⟩ := info_parts info_u8
  go_enter Try.func64, Try.ntmps64
  go_wp2_with fail
  go_loopw [6] (fun iv wr => ∃ (I k : Nat) (u : Value), I + k = wide ∧ iv = .int .i64 ((I : Int) - 1) ∧ wr.cell? ⟨B, 0, none⟩ = some u ∧ wr.frozen? ⟨B, 0, none⟩ = false ∧ wr.ownsRow base 5 1 u (l.length + k) ((l ++ bitsK num wide k).map byteV) ∧ Below B w wr) (fun iv _ => (intOf iv + 1).toNat)
  case atStart => exact ⟨wide, 0, v, rfl, rfl, hc, hf, by simpa [bitsK] using hown, Below.refl _ _⟩
  case round =>
    clear hc hf hown
    obtain ⟨I, k, u, hIk, rfl, hc, hf, hown, hbel⟩ := hrel
    have hsz := hbel.size
    rcases I with _ | I
    · go_wp2
      go_end0
      obtain rfl : k = wide := by omega
      exact ⟨⟨_, rfl⟩, u, hc, hf, hown, hbel⟩
    · have eI : ((I + 1 : Nat) : Int) - 1 = (I : Int) := by omega
      rw [eI]
      obtain ⟨b, hb⟩ : ∃ b, b = num / 2 ^ I % 2 := ⟨_, rfl⟩
      have hb2 : b < 2 := by rw [hb]; exact Nat.mod_lt _ (by decide)
      have hbits : bits .and .i64 ((num : Int) / 2 ^ I) 1 = (b : Int) := by
        have hd : (num : Int) / 2 ^ I = ((num / 2 ^ I : Nat) : Int) := by simp
        have hd2 : num / 2 ^ I ≤ num := Nat.div_le_self _ _
        rw [hd, i64_and_one _ (by omega), hb]
      have hBl : B < wr.heap.size := by omega
      have hcA : ∀ o, (wr.alloc o).cell? ⟨B, 0, none⟩ = some u := fun o => (World.cell?_alloc_lt _ _ _ hBl).trans hc
      have hfA : ∀ o, (wr.alloc o).frozen? ⟨B, 0, none⟩ = false := fun o => (World.frozen?_of_block (a := ⟨B, 0, none⟩) (Below.heap_alloc wr o B hBl)).trans hf
      have hge := own_ge hown
      have ez : Value.int .u8 (b : Int) = byteV (UInt8.ofNat (num / 2 ^ (wide - 1 - k) % 2)) := by
        unfold byteV
        rw [bit_toNat, hb, show wide - 1 - k = I by omega]
      have HZ := hide ez
      have hbw : IntKind.u8.wrap (b : Int) = (b : Int) := by rw [IntKind.wrap_u8']; omega
      clear hb ez
      go_wp2_with fail
      go_region_law ((refine step_append_lies _ (by rfl) _ _ _ (by rfl) base 5 i0 _ 1 1 Try.underlying72 hi hz0 hz1 hz2 rfl (by omega) _ (l.length + k) _ (by rfl) ((hown.alloc _).drew) ⟨wr.heap.size, 0, none⟩ 1 1 [.int .u8 (b : Int)] (by rfl) (by rfl) (World.news_of_block (cs := #[.int .u8 (b : Int)]) (t := 5) (fr := (0, 0)) (heap_alloc_new wr _)) (by simp [Value.oneCell']) (by omega) (by unfold maxLen; omega) (by omega) (by simp; omega) (wr.heap.size + 1) (by simp) ?_; intro gg cap w2 hown2 hgrow hat hlt2; have hc2 := (grown_cell' (o := 0) hgrow (show B < _ by simp; omega) (fun k hk => by have := hge k hk; omega)).trans (hcA _); have hf2 := (grown_frozen' (o := 0) hgrow (show B < _ by simp; omega) (fun k hk => by have := hge k hk; omega)).trans (hfA _)))
      all_goals
        have R := (below_grown ((hbel.alloc (by omega) _).drew) (show B ≤ _ by simp; omega) hgrow (fun k hk => by have := hge k hk; omega)).setCell (p := ⟨B, 0, none⟩) (Nat.le_refl _) (.slice (some ⟨gg, 0, none⟩) (l.length + k + 1) cap)
        have c3 := World.cell?_setCell_same w2 ⟨B, 0, none⟩ (.slice (some ⟨gg, 0, none⟩) (l.length + k + 1) cap) hc2
        have f3 : (w2.setCell ⟨B, 0, none⟩ (.slice (some ⟨gg, 0, none⟩) (l.length + k + 1) cap)).frozen? ⟨B, 0, none⟩ = false := by rw [World.frozen?_setCell]; exact hf2
        have O := hide (show (w2.setCell ⟨B, 0, none⟩ (.slice (some ⟨gg, 0, none⟩) (l.length + k + 1) cap)).ownsRow base 5 1 (.slice (some ⟨gg, 0, none⟩) (l.length + k + 1) cap) (l.length + (k + 1)) ((l ++ bitsK num wide (k + 1)).map byteV) by
          rw [bitsK_succ, ← List.append_assoc, List.map_append, List.map_cons, List.map_nil, ← unhide HZ]
          exact ((OnlyAt.refl B w2).setCell 0 _).own hown2 (fun k hk => by have := own_ge hown2 k hk; omega))
        clear hown2 hgrow hown hc hf hcA hfA hge hc2 hf2 hat hlt2
        go_wp2
        go_roundw
        case rel => exact ⟨I, k + 1, _, by omega, rfl, c3, f3, unhide O, R⟩
        case measure => simp [intOf]
end Go.Proofs.Ytkaepjngmgicaaa.BitPut
