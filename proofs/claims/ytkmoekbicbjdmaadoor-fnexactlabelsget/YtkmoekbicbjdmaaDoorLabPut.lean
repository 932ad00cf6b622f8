/- LabelsPut, of the program and of the model, at every slice of labels. -/
import Derived.Test.YtkmoekbicbjdmaaDoorPutMath
import Derived.Test.YtkmoekbicbjdmaaDoorLabOk2
import Derived.Laws.Concat
namespace Go.Proofs.YtkmoekbicbjdmaaDoor.Lab
open Go.RowKit Rw PutMath
set_option linter.unusedVariables false
attribute [local go_sem ↓] Go.wp_at_zero Go.wp_at_succ
theorem info_str : (Tryd.prog.info? 9).map (fun i => (i.zero, i.size, i.bytes)) = some (some (.string ByteArray.empty), 1, 16) := by kernel_rfl
def partOf (x : E) : ByteArray := x.1 ++ ⟨#[61]⟩ ++ x.2
def parts (zs : List E) : List ByteArray := zs.map partOf
theorem parts_snoc (zs : List E) (k : Nat) (h : k < zs.length) : parts (zs.take (k + 1)) = parts (zs.take k) ++ [partOf (at' zs k)] := by unfold parts; rw [at_snoc zs k h, List.map_append]; rfl
theorem parts_length (zs : List E) : (parts zs).length = zs.length := by simp [parts]
/-- none is too great -/
def small (zs : List E) : Prop := zs.length ≤ 1000 ∧ ∀ x ∈ zs, x.1.size ≤ 1000 ∧ x.2.size ≤ 1000
theorem part_size {zs : List E} (h : small zs) (k : Nat) : ∀ p ∈ parts (zs.take k), p.size ≤ 2001 := by
  intro p hp
  obtain ⟨x, hx, rfl⟩ := List.mem_map.1 hp
  have := h.2 x (List.mem_of_mem_take hx)
  unfold partOf
  rw [app_size, app_size]
  have e : (⟨#[61]⟩ : ByteArray).size = 1 := rfl
  omega
theorem join_small {zs : List E} (h : small zs) (k : Nat) : (joinB (parts (zs.take k))).length ≤ 2002000 := by
  have h1 := joinB_len (parts (zs.take k)) 2001 (part_size h k)
  rw [parts_length] at h1
  have h2 : (zs.take k).length ≤ 1000 := by have := List.length_take_le k zs; have := h.1; simp; omega
  have := Nat.mul_le_mul_right 2002 h2
  omega
theorem ok_small {zs : List E} (h : ok zs = true) : small zs := by
  unfold ok at h
  simp only [Bool.and_eq_true, decide_eq_true_eq] at h
  refine ⟨by omega, fun x hx => ?_⟩
  obtain ⟨k, hk, rfl⟩ := List.getElem_of_mem hx
  have hs := List.all_eq_true.1 (show (List.range zs.length).all (stepOk zs) = true from h.2) k (List.mem_range.2 hk)
  rw [← at_get zs k hk]
  unfold stepOk nameB wordB at hs
  simp only [Bool.and_eq_true, decide_eq_true_eq] at hs
  exact ⟨by have := hs.1.1.1.1.2; omega, by have := hs.1.1.2.1; omega⟩
def put (zs : List E) : ByteArray := if ok zs = true then wrap 123 125 (parts zs) else ByteArray.empty
def flatS (l : List ByteArray) : List Value := l.map Value.string
theorem flatS_append (a b : List ByteArray) : flatS (a ++ b) = flatS a ++ flatS b := by simp [flatS]
set_option maxRecDepth 100000 in
set_option maxHeartbeats 4000000 in
theorem impl_put {w : World} {v : Value} {zs : List E} (h : Is w v zs) (hg : ∀ x ∈ zs, good x) : Calls Tryd.prog 8 #[v] w fun e w' => e = .returned (.string (put zs)) ∧ Below w.heap.size w w' := by
  obtain ⟨i0, hi, hz0, hz1, hz2⟩ := info_parts info_str
  have H1 := hide (impl_ok h hg)
  cases ho : ok zs
  · have HR := hide (show put zs = ByteArray.empty by unfold put; rw [ho]; rfl)
    rw [ho] at H1
    clear ho h hg
    go_enter Tryd.func8, Tryd.ntmps8
    go_wp2_with fail
    refine (unhide H1).mono ?_
    rintro e w1 ⟨rfl, b1⟩
    go_wp2_with fail
    go_ret
    exact ⟨ret_string (unhide HR).symm, b1⟩
  have HR := hide (show put zs = wrap 123 125 (parts zs) by unfold put; rw [ho]; rfl)
  have hsm := ok_small ho
  have hn1 : 1 ≤ zs.length := by unfold ok at ho; simp only [Bool.and_eq_true, decide_eq_true_eq] at ho; exact ho.1.1
  rw [ho] at H1
  clear ho hg
  obtain ⟨-, a, cap, rfl, hc, hm, -, hr⟩ := h
  unfold maxLen at hm
  obtain ⟨n, hn⟩ : ∃ n, n = zs.length := ⟨_, rfl⟩
  have hn2 : n ≤ 1000 := by rw [hn]; exact hsm.1
  rw [← hn] at hc hr hn1 H1 ⊢
  have HN := hide hn
  have HSM := hide hsm
  clear hn hsm
  obtain ⟨R, hR⟩ : ∃ R, R = put zs := ⟨_, rfl⟩
  rw [← hR] at HR ⊢
  clear hR
  go_enter Tryd.func8, Tryd.ntmps8
  go_wp2_with fail
  refine (unhide H1).mono ?_
  rintro e w1 ⟨rfl, b1⟩
  go_wp2_with fail
  go_loopw [3, 11] (fun pv i wr => ∃ k : Nat, k ≤ n ∧ i = .int .i64 k ∧ wr.ownsRow w.heap.size 9 1 pv k (flatS (parts (zs.take k))) ∧ Below w.heap.size w wr) (fun _ i _ => n - (intOf i).toNat)
  case atStart => exact ⟨0, Nat.zero_le _, rfl, World.ownsRow_nil _ _ _ _, b1⟩
  case round =>
    clear b1 H1
    obtain ⟨k, hk, rfl, hown, hbel⟩ := hrel
    have hsz := hbel.size
    have hk0 : (0 : Int) ≤ (k : Int) := Int.natCast_nonneg _
    by_cases hlt : k < n
    · obtain ⟨b, off, rfl, hl, hcells⟩ := hr (by omega)
      have fa := flat_at zs k (by have := unhide HN; omega)
      have gd := (unhide HSM).2 (at' zs k) (by rw [at_get zs k (by have := unhide HN; omega)]; exact List.getElem_mem _)
      have HPS := parts_snoc zs k (by have := unhide HN; omega)
      obtain ⟨A, B, hX⟩ : ∃ A B, (A, B) = at' zs k := ⟨_, _, rfl⟩
      rw [← hX] at fa gd HPS
      simp only at gd
      have hc0 : wr.cell? ⟨b, off + k * 2, none⟩ = some (.string A) := (hbel.cell (p := ⟨b, _, none⟩) hl).trans (hcells (k * 2) _ fa.1)
      have hc1 : wr.cell? ⟨b, off + k * 2 + 1, none⟩ = some (.string B) := (hbel.cell (p := ⟨b, _, none⟩) hl).trans (hcells (k * 2 + 1) _ fa.2)
      have e61 : (⟨#[61]⟩ : ByteArray).size = 1 := rfl
      have HQ := hide (show partOf (A, B) = A ++ ⟨#[61]⟩ ++ B from rfl)
      have s1 : ∀ W, (Op.stringOp .add A ⟨#[61]⟩).run Tryd.prog W = .ok (.string (A ++ ⟨#[61]⟩)) W := fun W => run_string_add_sum W _ _ (by rw [e61]; omega)
      have s2 : ∀ W, (Op.stringOp .add (A ++ ⟨#[61]⟩) B).run Tryd.prog W = .ok (.string (A ++ ⟨#[61]⟩ ++ B)) W := fun W => run_string_add_sum W _ _ (by rw [app_size, e61]; omega)
      rw [← unhide HQ] at s2
      generalize A ++ ⟨#[61]⟩ = P1 at s1 s2
      have HPS' := hide HPS
      generalize partOf (A, B) = P2 at s2 HPS'
      clear hX fa gd HPS HQ e61
      have hk1 : (k : Int) < (n : Int) := by omega
      go_wp2_with (at_builtin; refine app_wp _ rfl _ _ _ rfl w.heap.size 9 i0 _ 1 16 Tryd.underlying45 hi hz0 hz1 hz2 rfl (by omega) _ k _ rfl ((hown.alloc _).alloc _) _ 1 [.string P2] rfl (lies_new (by simp) rfl (by unfold maxLen; omega)) (by simp [Value.oneCell']) (by unfold maxLen; omega) (by omega) (by simp; omega) ?_; intro vn wn on gn an)
      have R9 : Below w.heap.size w wn := below_grown ((hbel.alloc hsz _).alloc (by simp; omega) _) (by simp; omega) gn (own_ge hown)
      have R2 := hide (show wn.ownsRow w.heap.size 9 1 vn (k + 1) (flatS (parts (zs.take (k + 1)))) by rw [unhide HPS', flatS_append]; exact on)
      clear on gn an hown
      go_wp2_with fail
      go_roundw
      case rel => exact ⟨k + 1, by omega, by go_num, unhide R2, R9⟩
      case measure => simp [intOf]; omega
    · obtain rfl : k = n := by omega
      have hkf : decide ((k : Int) < (k : Int)) = false := by simp
      rw [List.take_of_length_le (by have := unhide HN; omega)] at hown
      obtain ⟨g, cp, rfl, hgb, hgl⟩ := hown.form (by omega)
      have JS := join_small (unhide HSM) k
      rw [List.take_of_length_le (by have := unhide HN; omega)] at JS
      have HL : (parts zs).length = k := by rw [parts_length]; exact (unhide HN).symm
      have hcp : k ≤ cp := by obtain ⟨-, a', c', e, h2, -⟩ := lies_of_own hown; simp only [Value.slice.injEq, true_and] at e; omega
      have HJ := hide (Tryd.strings_Join g 0 cp (parts zs) ⟨#[44]⟩ wr (fun j x hj => by
        have hj' := (List.getElem?_eq_some_iff.1 hj).1
        rw [Nat.zero_add, hown.cellAt j (by omega)]
        simp [flatS, hj]) hgl (by omega) (by omega) (by show (joinB (parts zs)).length ≤ _; omega))
      rw [HL] at HJ
      have e1 : (⟨#[123]⟩ : ByteArray).size = 1 := rfl
      have e2 : (⟨#[125]⟩ : ByteArray).size = 1 := rfl
      have HW := hide (wrap_join 123 125 (parts zs))
      have sJ := size_of (joinB (parts zs))
      have HJ2 := hide (show Calls Tryd.prog 33 #[.slice (some ⟨g, 0, none⟩) k cp, .string ⟨#[44]⟩] wr fun e w' => e = .returned (.string ⟨(joinB (parts zs)).toArray⟩) ∧ Below wr.heap.size wr w' from unhide HJ)
      have s1 : ∀ W, (Op.stringOp .add ⟨#[123]⟩ ⟨(joinB (parts zs)).toArray⟩).run Tryd.prog W = .ok (.string (⟨#[123]⟩ ++ ⟨(joinB (parts zs)).toArray⟩)) W := fun W => run_string_add_sum W _ _ (by rw [e1, sJ]; omega)
      have s2 : ∀ W, (Op.stringOp .add (⟨#[123]⟩ ++ ⟨(joinB (parts zs)).toArray⟩) ⟨#[125]⟩).run Tryd.prog W = .ok (.string (⟨#[123]⟩ ++ ⟨(joinB (parts zs)).toArray⟩ ++ ⟨#[125]⟩)) W := fun W => run_string_add_sum W _ _ (by rw [app_size, e1, e2, sJ]; omega)
      rw [unhide HW, ← unhide HR] at s2
      clear HJ HL hown JS sJ e1 e2 HW
      generalize (⟨(joinB (parts zs)).toArray⟩ : ByteArray) = J at HJ2 s1 s2
      generalize (⟨#[123]⟩ : ByteArray) ++ J = P1 at s1 s2
      go_wp2_with fail
      refine (unhide HJ2).mono ?_
      rintro e w5 ⟨rfl, b5⟩
      have c5 := hbel.trans (b5.mono hsz)
      go_wp2_with fail
      go_ret
      exact ⟨rfl, c5⟩
end Go.Proofs.YtkmoekbicbjdmaaDoor.Lab
