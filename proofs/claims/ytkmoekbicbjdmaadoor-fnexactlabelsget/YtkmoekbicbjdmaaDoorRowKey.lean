/- A copy of labels, and the key of a row: the program's labelsCopy and rowKey. -/
import Derived.Test.YtkmoekbicbjdmaaDoorLabPut2
import Derived.Test.YtkmoekbicbjdmaaDoorStrPut
import Derived.Test.YtkmoekbicbjdmaaDoorKeyMath
import Derived.Test.YtkmoekbicbjdmaaDoorLabLaw
namespace Go.Proofs.YtkmoekbicbjdmaaDoor.Lab
open Go.RowKit Rw PutMath
set_option linter.unusedVariables false
attribute [local go_sem ↓] Go.wp_at_zero Go.wp_at_succ
set_option maxRecDepth 100000 in
set_option maxHeartbeats 4000000 in
theorem copy_any {w : World} {v : Value} {zs : List E} (h : Is w v zs) (hsm : small zs) : Calls Tryd.prog 36 #[v] w fun e w' => ∃ r, e = .returned r ∧ w'.ownsRow w.heap.size 47 2 r zs.length (flat zs) ∧ Below w.heap.size w w' := by
  obtain ⟨i0, hi, hz0, hz1, hz2⟩ := info_parts info_e
  have hlen := hsm.1
  have hg := hsm.2
  obtain ⟨-, a, cap, rfl, hc, hm, -, hr⟩ := h
  unfold maxLen at hm
  obtain ⟨n, hn⟩ : ∃ n, n = zs.length := ⟨_, rfl⟩
  rw [← hn] at hc hr hlen ⊢
  have HN := hide hn
  have HG := hide hg
  clear hn hg
  go_enter Tryd.func36, Tryd.ntmps36
  go_wp2_with fail
  go_loopw [3, 8] (fun pv i wr => ∃ (k : Nat) (pa : Option Addr) (pc : Nat), k ≤ n ∧ i = .int .i64 k ∧ pv = .slice pa k pc ∧ wr.ownsRow w.heap.size 47 2 pv k (flat (zs.take k)) ∧ Below w.heap.size w wr) (fun _ i _ => n - (intOf i).toNat)
  case atStart => exact ⟨0, none, 0, Nat.zero_le _, rfl, rfl, World.ownsRow_nil _ _ _ _, Below.refl _ _⟩
  case round =>
    obtain ⟨k, pa, pc, hk, rfl, rfl, hown, hbel⟩ := hrel
    have hsz := hbel.size
    have hk0 : (0 : Int) ≤ (k : Int) := Int.natCast_nonneg _
    by_cases hlt : k < n
    · obtain ⟨b, off, rfl, hl, hcells⟩ := hr (by omega)
      have fa := flat_at zs k (by have := unhide HN; omega)
      have gd := unhide HG (at' zs k) (by rw [at_get zs k (by have := unhide HN; omega)]; exact List.getElem_mem _)
      have HPS := hide (show flat (zs.take (k + 1)) = flat (zs.take k) ++ fl (at' zs k) by rw [at_snoc zs k (by have := unhide HN; omega)]; unfold flat; rw [flatOf_append, flatOf_one])
      obtain ⟨A, B, hX⟩ : ∃ A B, (A, B) = at' zs k := ⟨_, _, rfl⟩
      rw [← hX] at fa gd HPS
      simp only at gd
      simp only [fl] at HPS
      have hc0 : wr.cell? ⟨b, off + k * 2, none⟩ = some (.string A) := (hbel.cell (p := ⟨b, _, none⟩) hl).trans (hcells (k * 2) _ fa.1)
      have hc1 : wr.cell? ⟨b, off + k * 2 + 1, none⟩ = some (.string B) := (hbel.cell (p := ⟨b, _, none⟩) hl).trans (hcells (k * 2 + 1) _ fa.2)
      have HA := hide (fun W => Str.clone_any A W (by omega))
      have HB := hide (fun W => Str.clone_any B W (by omega))
      clear hX fa gd
      have hk1 : (k : Int) < (n : Int) := by omega
      have hmx : 1 ≤ maxLen := by unfold maxLen; omega
      obtain ⟨W, hW⟩ : ∃ W, W = wr.alloc (.cells #[.string A, .string B] 47) := ⟨_, rfl⟩
      have bW : Below wr.heap.size wr W := by rw [hW]; exact (Below.refl _ _).alloc (Nat.le_refl _) _
      have zW : wr.heap.size < W.heap.size := by rw [hW]; simp
      have S6 : (fun w' : World => w'.cell? ⟨wr.heap.size, 0, none⟩ = some (.string A) ∧ w'.cell? ⟨wr.heap.size, 1, none⟩ = some (.string B)) W.drew := by rw [hW]; exact ⟨by simp, by simp⟩
      have oW : W.drew.ownsRow w.heap.size 47 2 (.slice pa k pc) k (flat (zs.take k)) := World.ownsRow.drew (own_below hown bW)
      have hbW : Below w.heap.size w W.drew := (hbel.trans (bW.mono hsz)).drew
      have hob := fun e => Nat.lt_irrefl _ (own_block_lt hown wr.heap.size (Eq.symm e))
      clear bW
      go_wp2_with fail
      rw [← hW]
      clear hW
      go_region_held3 (fun w' => w'.cell? ⟨wr.heap.size, 0, none⟩ = some (.string A) ∧ w'.cell? ⟨wr.heap.size, 1, none⟩ = some (.string B)) (first | exact S6 | exact S7 | exact S8 | exact S9 _ | exact S10) ((first | (go_at_call_of 65 A; refine (unhide HA _).mono ?_; rintro e w7 ⟨rfl, b7⟩; have z7 := b7.size; simp only [World.size_drew] at z7; have S7 : (fun w' : World => w'.cell? ⟨wr.heap.size, 0, none⟩ = some (.string A) ∧ w'.cell? ⟨wr.heap.size, 1, none⟩ = some (.string B)) w7 := ⟨(b7.cell (p := ⟨_, _, none⟩) (by first | (simp; done) | (simp; omega) | omega)).trans S6.1, (b7.cell (p := ⟨_, _, none⟩) (by first | (simp; done) | (simp; omega) | omega)).trans S6.2⟩) | (go_at_call_of 65 B; refine (unhide HB _).mono ?_; rintro e w8 ⟨rfl, b8⟩; have z8 := b8.size; have S8 : (fun w' : World => w'.cell? ⟨wr.heap.size, 0, none⟩ = some (.string A) ∧ w'.cell? ⟨wr.heap.size, 1, none⟩ = some (.string B)) w8 := ⟨(b8.cell (p := ⟨_, _, none⟩) (by first | (simp; done) | (simp; omega) | omega)).trans S7.1, (b8.cell (p := ⟨_, _, none⟩) (by first | (simp; done) | (simp; omega) | omega)).trans S7.2⟩; have S9 : ∀ o, (fun w' : World => w'.cell? ⟨wr.heap.size, 0, none⟩ = some (.string A) ∧ w'.cell? ⟨wr.heap.size, 1, none⟩ = some (.string B)) (w8.alloc o) := fun o => ⟨(((Below.refl _ _).alloc (Nat.le_refl _) _).cell (p := ⟨_, _, none⟩) (by first | (simp; done) | (simp; omega) | omega)).trans S8.1, (((Below.refl _ _).alloc (Nat.le_refl _) _).cell (p := ⟨_, _, none⟩) (by first | (simp; done) | (simp; omega) | omega)).trans S8.2⟩) | (refine app_step _ (by rfl) _ _ _ (by rfl) w.heap.size 47 i0 _ 2 32 Tryd.underlying23 hi hz0 hz1 hz2 rfl (by omega) _ k _ (by rfl) (World.ownsRow.alloc (own_below (own_below oW b7) b8) _) _ 1 [.string A, .string B] (by rfl) (lies_new (w := w8) (by simp) rfl hmx) (by simp [Value.oneCell']) (by unfold maxLen; omega) (by omega) (by simp <;> omega) ?_; intro vn wn on gn an; have S10 : (fun w' : World => w'.cell? ⟨wr.heap.size, 0, none⟩ = some (.string A) ∧ w'.cell? ⟨wr.heap.size, 1, none⟩ = some (.string B)) wn := ⟨by rw [gn.cell_far _ (by simp <;> omega) hob]; exact (S9 _).1, by rw [gn.cell_far _ (by simp <;> omega) hob]; exact (S9 _).2⟩)))
      have hb8 : Below w.heap.size w w8 := (hbW.trans (b7.mono hbW.size)).trans (b8.mono (by omega))
      have R9 : Below w.heap.size w wn := below_grown (hb8.alloc (by omega) _) (by simp <;> omega) gn (own_ge hown)
      have R2 := hide (show wn.ownsRow w.heap.size 47 2 vn (k + 1) (flat (zs.take (k + 1))) by rw [unhide HPS]; exact on)
      obtain ⟨an', cn, hvn⟩ : ∃ a c, vn = .slice a (k + 1) c := by obtain ⟨-, a, c, e, -⟩ := lies_of_own on; exact ⟨a, c, e⟩
      have HV := hide hvn
      clear on gn an hown hvn hob S6 S7 S8 S9 S10 oW hbW b7 b8 hb8
      go_wp2_with fail
      go_roundw
      case rel => exact ⟨k + 1, an', cn, by omega, by go_num, unhide HV, unhide R2, R9⟩
      case measure => simp [intOf]; omega
    · obtain rfl : k = n := by omega
      rw [List.take_of_length_le (by have := unhide HN; omega)] at hown
      go_wp2
      go_ret
      exact ⟨_, rfl, hown, hbel⟩
/-- the key of a row -/
def keyOf (zs : List E) : ByteArray := ⟨(keyL zs).toArray⟩
theorem trim_key {zs : List E} (h : ok zs = true) : (⟨(Lib.trimSuffix (put zs).data.toList [125]).toArray⟩ : ByteArray) = keyOf zs := by
  have e : (put zs).data.toList = keyL zs ++ [125] := by
    unfold put
    rw [if_pos h]
    unfold wrap keyL
    rw [of_toList]
    unfold parts
    rw [show List.map partOf zs = zs.map (fun x => x.1 ++ ⟨#[61]⟩ ++ x.2) from rfl, join_body]
  unfold keyOf
  rw [e]
  congr 2
  simp [Lib.trimSuffix, Lib.hasSuffix]
end Go.Proofs.YtkmoekbicbjdmaaDoor.Lab
