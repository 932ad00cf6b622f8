/- MatchesPut of the program, at every slice of matches. -/
import Derived.Test.YthlphelkcamagaaLabPut
import Derived.Test.YthlphelkcamagaaMatOk
import Derived.Deep.RegionHeld3
namespace Go.Proofs.Ythlphelkcamagaa.Mat
open Go.RowKit Rw PutMath
open Lab (flatS flatS_append info_str nameB wordB)
set_option linter.unusedVariables false
attribute [local go_sem ↓] Go.wp_at_zero Go.wp_at_succ
def signB (k : Int) : ByteArray := if k = 1 then ⟨#[61]⟩ else if k = 2 then ⟨#[33]⟩ else if k = 3 then ⟨#[94]⟩ else ⟨#[126]⟩
theorem sign_size (k : Int) : (signB k).size = 1 := by unfold signB; split <;> (try split) <;> (try split) <;> rfl
def partOf (x : E) : ByteArray := x.2.1 ++ signB x.1 ++ x.2.2
def parts (zs : List E) : List ByteArray := zs.map partOf
theorem parts_snoc (zs : List E) (k : Nat) (h : k < zs.length) : parts (zs.take (k + 1)) = parts (zs.take k) ++ [partOf (at' zs k)] := by unfold parts; rw [at_snoc zs k h, List.map_append]; rfl
theorem parts_length (zs : List E) : (parts zs).length = zs.length := by simp [parts]
def small (zs : List E) : Prop := zs.length ≤ 1000 ∧ ∀ x ∈ zs, 1 ≤ x.1 ∧ x.1 ≤ 4 ∧ x.2.1.size ≤ 1000 ∧ x.2.2.size ≤ 1000
theorem part_size {zs : List E} (h : small zs) (k : Nat) : ∀ p ∈ parts (zs.take k), p.size ≤ 2001 := by
  intro p hp
  obtain ⟨x, hx, rfl⟩ := List.mem_map.1 hp
  have := h.2 x (List.mem_of_mem_take hx)
  unfold partOf
  rw [app_size, app_size, sign_size]
  omega
theorem join_small {zs : List E} (h : small zs) (k : Nat) : (joinB (parts (zs.take k))).length ≤ 2002000 := by
  have h1 := joinB_len (parts (zs.take k)) 2001 (part_size h k)
  rw [parts_length] at h1
  have h2 : (zs.take k).length ≤ 1000 := by have := List.length_take_le k zs; have := h.1; simp; omega
  have := Nat.mul_le_mul_right 2002 h2
  omega
theorem ok_small {zs : List E} (h : ok zs = true) : small zs := by
  unfold ok at h
  simp only [Bool.and_eq_true, decide_eq_true_eq] at h
  refine ⟨by omega, fun x hx => ?_⟩
  obtain ⟨k, hk, rfl⟩ := List.getElem_of_mem hx
  have hs := List.all_eq_true.1 (show (List.range zs.length).all (stepOk zs) = true from h.1) k (List.mem_range.2 hk)
  rw [← at_get zs k hk]
  unfold stepOk nameB wordB at hs
  simp only [Bool.and_eq_true, decide_eq_true_eq] at hs
  exact ⟨hs.1.1.1, hs.1.1.2, by have := hs.1.2.1.2; omega, by have := hs.2.1; omega⟩
def put (zs : List E) : ByteArray := if ok zs = true then wrap 91 93 (parts zs) else ByteArray.empty
theorem as00 (v : Value) (W : World) : (Instr.typeAssert (.iface 86 v) 65 86 true).run Try.prog W = .ok (.tuple #[v, .bool true]) W := by kernel_rfl
theorem as10 (v : Value) (W : World) : (Instr.typeAssert (.iface 87 v) 65 86 true).run Try.prog W = .ok (.tuple #[.string ByteArray.empty, .bool false]) W := by kernel_rfl
theorem as11 (v : Value) (W : World) : (Instr.typeAssert (.iface 87 v) 65 87 true).run Try.prog W = .ok (.tuple #[v, .bool true]) W := by kernel_rfl
theorem as20 (v : Value) (W : World) : (Instr.typeAssert (.iface 88 v) 65 86 true).run Try.prog W = .ok (.tuple #[.string ByteArray.empty, .bool false]) W := by kernel_rfl
theorem as21 (v : Value) (W : World) : (Instr.typeAssert (.iface 88 v) 65 87 true).run Try.prog W = .ok (.tuple #[.string ByteArray.empty, .bool false]) W := by kernel_rfl
theorem as22 (v : Value) (W : World) : (Instr.typeAssert (.iface 88 v) 65 88 true).run Try.prog W = .ok (.tuple #[v, .bool true]) W := by kernel_rfl
theorem as30 (v : Value) (W : World) : (Instr.typeAssert (.iface 89 v) 65 86 true).run Try.prog W = .ok (.tuple #[.string ByteArray.empty, .bool false]) W := by kernel_rfl
theorem as31 (v : Value) (W : World) : (Instr.typeAssert (.iface 89 v) 65 87 true).run Try.prog W = .ok (.tuple #[.string ByteArray.empty, .bool false]) W := by kernel_rfl
theorem as32 (v : Value) (W : World) : (Instr.typeAssert (.iface 89 v) 65 88 true).run Try.prog W = .ok (.tuple #[.string ByteArray.empty, .bool false]) W := by kernel_rfl
theorem as33 (v : Value) (W : World) : (Instr.typeAssert (.iface 89 v) 65 89 true).run Try.prog W = .ok (.tuple #[v, .bool true]) W := by kernel_rfl
set_option maxRecDepth 100000 in
theorem signOf_any (k : Int) (s : ByteArray) (w : World) (h1 : 1 ≤ k) (h4 : k ≤ 4) : Calls Try.prog 57 #[.iface (ruleT k) (.string s)] w fun e w' => e = .returned (.string (signB k)) ∧ w' = w := by
  rcases (show k = 1 ∨ k = 2 ∨ k = 3 ∨ k = 4 from by omega) with rfl | rfl | rfl | rfl
  · clear h1 h4
    show Calls Try.prog 57 #[.iface 86 (.string s)] w fun e w' => e = .returned (.string ⟨#[61]⟩) ∧ w' = w
    have t0 := as00 (.string s)
    go_enter Try.func57, Try.ntmps57
    go_wp2
    go_ret
    exact ⟨rfl, rfl⟩
  · clear h1 h4
    show Calls Try.prog 57 #[.iface 87 (.string s)] w fun e w' => e = .returned (.string ⟨#[33]⟩) ∧ w' = w
    have t0 := as10 (.string s)
    have t1 := as11 (.string s)
    go_enter Try.func57, Try.ntmps57
    go_wp2
    go_ret
    exact ⟨rfl, rfl⟩
  · clear h1 h4
    show Calls Try.prog 57 #[.iface 88 (.string s)] w fun e w' => e = .returned (.string ⟨#[94]⟩) ∧ w' = w
    have t0 := as20 (.string s)
    have t1 := as21 (.string s)
    have t2 := as22 (.string s)
    go_enter Try.func57, Try.ntmps57
    go_wp2
    go_ret
    exact ⟨rfl, rfl⟩
  · clear h1 h4
    show Calls Try.prog 57 #[.iface 89 (.string s)] w fun e w' => e = .returned (.string ⟨#[126]⟩) ∧ w' = w
    have t0 := as30 (.string s)
    have t1 := as31 (.string s)
    have t2 := as32 (.string s)
    have t3 := as33 (.string s)
    go_enter Try.func57, Try.ntmps57
    go_wp2
    go_ret
    exact ⟨rfl, rfl⟩
set_option maxRecDepth 100000 in
theorem l3Sign_any (k : Int) (w : World) (h1 : 1 ≤ k) (h4 : k ≤ 4) : Calls Try.prog 71 #[.int .i64 k] w fun e w' => e = .returned (.string (signB k)) ∧ Below w.heap.size w w' := by
  rcases (show k = 1 ∨ k = 2 ∨ k = 3 ∨ k = 4 from by omega) with rfl | rfl | rfl | rfl
  all_goals
    clear h1 h4
    simp only [signB]
    go_enter Try.func71, Try.ntmps71
    go_wp2
    go_ret
    exact ⟨rfl, (Below.refl _ _).alloc (Nat.le_refl _) _⟩
set_option maxRecDepth 100000 in
set_option maxHeartbeats 4000000 in
theorem impl_put {w : World} {v : Value} {zs : List E} (h : Is w v zs) (hg : ∀ x ∈ zs, good x) (hz : zs.length ≤ maxLen) : Calls Try.prog 32 #[v] w fun e w' => e = .returned (.string (put zs)) ∧ Below w.heap.size w w' := by
  obtain ⟨i0, hi, hz0, hz1, hz2⟩ := info_parts info_str
  have H1 := hide (impl_ok h hg hz)
  cases ho : ok zs
  · have HR := hide (show put zs = ByteArray.empty by unfold put; rw [ho]; rfl)
    rw [ho] at H1
    clear ho h hg
    go_enter Try.func32, Try.ntmps32
    go_wp2_with fail
    refine (unhide H1).mono ?_
    rintro e w1 ⟨rfl, b1⟩
    go_wp2_with fail
    go_ret
    exact ⟨ret_string (unhide HR).symm, b1⟩
  have HR := hide (show put zs = wrap 91 93 (parts zs) by unfold put; rw [ho]; rfl)
  have hsm := ok_small ho
  rw [ho] at H1
  clear ho hg
  obtain ⟨-, a, cap, rfl, hc, hm, -, hr⟩ := h
  unfold maxLen at hm
  obtain ⟨n, hn⟩ : ∃ n, n = zs.length := ⟨_, rfl⟩
  have hn2 : n ≤ 1000 := by rw [hn]; exact hsm.1
  rw [← hn] at hc hr H1 ⊢
  have HN := hide hn
  have HSM := hide hsm
  clear hn hsm hz
  obtain ⟨R, hR⟩ : ∃ R, R = put zs := ⟨_, rfl⟩
  rw [← hR] at HR ⊢
  clear hR
  go_enter Try.func32, Try.ntmps32
  go_wp2_with fail
  refine (unhide H1).mono ?_
  rintro e w1 ⟨rfl, b1⟩
  go_wp2_with fail
  go_loopw [3, 11] (fun pv i wr => ∃ (k : Nat) (ap : Option Addr) (cp : Nat), k ≤ n ∧ i = .int .i64 k ∧ pv = .slice ap k cp ∧ wr.ownsRow w.heap.size 9 1 pv k (flatS (parts (zs.take k))) ∧ Below w.heap.size w wr) (fun _ i _ => n - (intOf i).toNat)
  case atStart => exact ⟨0, none, 0, Nat.zero_le _, rfl, rfl, World.ownsRow_nil _ _ _ _, b1⟩
  case round =>
    clear b1 H1
    obtain ⟨k, ap, cp, hk, rfl, rfl, hown, hbel⟩ := hrel
    have hsz := hbel.size
    have hk0 : (0 : Int) ≤ (k : Int) := Int.natCast_nonneg _
    by_cases hlt : k < n
    · obtain ⟨b, off, rfl, hl, hcells⟩ := hr (by omega)
      have fa := flat_at zs k (by have := unhide HN; omega)
      have gd := (unhide HSM).2 (at' zs k) (by rw [at_get zs k (by have := unhide HN; omega)]; exact List.getElem_mem _)
      have HPS := parts_snoc zs k (by have := unhide HN; omega)
      obtain ⟨K, A, B, hX⟩ : ∃ K A B, (K, A, B) = at' zs k := ⟨_, _, _, rfl⟩
      rw [← hX] at fa gd HPS
      simp only at gd
      have hc0 : wr.cell? ⟨b, off + k * 3, none⟩ = some (.int .i64 K) := (hbel.cell (p := ⟨b, _, none⟩) hl).trans (hcells (k * 3) _ fa.1)
      have hc1 : wr.cell? ⟨b, off + k * 3 + 1, none⟩ = some (.string A) := (hbel.cell (p := ⟨b, _, none⟩) hl).trans (hcells (k * 3 + 1) _ fa.2.1)
      have hc2 : wr.cell? ⟨b, off + k * 3 + 2, none⟩ = some (.string B) := (hbel.cell (p := ⟨b, _, none⟩) hl).trans (hcells (k * 3 + 2) _ fa.2.2)
      have HQ := hide (show partOf (K, A, B) = A ++ signB K ++ B from rfl)
      have HRu := hide (fun W => ruleOf_yes K B W gd.1 gd.2.1)
      have HSi := hide (fun W => signOf_any K B W gd.1 gd.2.1)
      have ss := sign_size K
      have s1 : ∀ W, (Op.stringOp .add A (signB K)).run Try.prog W = .ok (.string (A ++ signB K)) W := fun W => run_string_add_sum W _ _ (by rw [ss]; omega)
      have s2 : ∀ W, (Op.stringOp .add (A ++ signB K) B).run Try.prog W = .ok (.string (A ++ signB K ++ B)) W := fun W => run_string_add_sum W _ _ (by rw [app_size, ss]; omega)
      rw [← unhide HQ] at s2
      generalize A ++ signB K = P1 at s1 s2
      have HPS' := hide HPS
      generalize partOf (K, A, B) = P2 at s2 HPS'
      clear hX fa gd HPS HQ ss
      generalize signB K = SG at s1 HSi
      generalize ruleT K = RT at HRu HSi
      have hk1 : (k : Int) < (n : Int) := by omega
      have hmx : 1 ≤ maxLen := by unfold maxLen; omega
      go_wp2_with fail
      have hob := fun e => Nat.lt_irrefl _ (own_block_lt hown wr.heap.size (Eq.symm e))
      go_region_held3 (fun w' => w'.cell? ⟨wr.heap.size, 0, none⟩ = some (.int .i64 K) ∧ w'.cell? ⟨wr.heap.size, 1, none⟩ = some (.string A) ∧ w'.cell? ⟨wr.heap.size, 2, none⟩ = some (.string B)) (first | go_keep | (go_split_ands; refine ⟨?_, ?_, ?_⟩ <;> (rw [gn.cell_far _ (by simp <;> omega) hob]; simp))) ((first | (go_at_call 43; refine (unhide HRu _).mono ?_; rintro e w7 ⟨rfl, hw7⟩; subst hw7) | (go_at_call 57; refine (unhide HSi _).mono ?_; rintro e w7 ⟨rfl, hw7⟩; subst hw7) | (refine app_step _ (by rfl) _ _ _ (by rfl) w.heap.size 9 i0 _ 1 16 Try.underlying72 hi hz0 hz1 hz2 rfl (by omega) _ k _ (by rfl) (World.ownsRow.drew (World.ownsRow.alloc (World.ownsRow.alloc hown _) _)) _ 1 [.string P2] (by rfl) (Lies.drew (lies_new (w := wr.alloc _) (by simp) rfl hmx)) (by simp [Value.oneCell']) (by unfold maxLen; omega) (by omega) (by simp <;> omega) ?_; intro vn wn on gn an)))
      have R9 : Below w.heap.size w wn := below_grown (((hbel.alloc hsz _).alloc (by simp <;> omega) _).drew) (by simp <;> omega) gn (own_ge hown)
      have R2 := hide (show wn.ownsRow w.heap.size 9 1 vn (k + 1) (flatS (parts (zs.take (k + 1)))) by rw [unhide HPS', flatS_append]; exact on)
      obtain ⟨an', cn, hvn⟩ : ∃ a c, vn = .slice a (k + 1) c := by obtain ⟨-, a, c, e, -⟩ := lies_of_own on; exact ⟨a, c, e⟩
      have HV := hide hvn
      clear on gn an hown hvn hob
      go_wp2_with fail
      go_roundw
      case rel => exact ⟨k + 1, an', cn, by omega, by go_num, unhide HV, unhide R2, R9⟩
      case measure => simp [intOf]; omega
    · obtain rfl : k = n := by omega
      have hkf : decide ((k : Int) < (k : Int)) = false := by simp
      rw [List.take_of_length_le (by have := unhide HN; omega)] at hown
      have JS := join_small (unhide HSM) k
      rw [List.take_of_length_le (by have := unhide HN; omega)] at JS
      have HL : (parts zs).length = k := by rw [parts_length]; exact (unhide HN).symm
      have HJ2 := hide (show Calls Try.prog 52 #[.slice ap k cp, .string ⟨#[44]⟩] wr fun e w' => e = .returned (.string ⟨(joinB (parts zs)).toArray⟩) ∧ Below wr.heap.size wr w' from by
        rcases Nat.eq_zero_or_pos k with h0 | h0
        · subst h0
          have e0 : parts zs = [] := List.eq_nil_of_length_eq_zero HL
          rw [e0]
          refine (Try.strings_Join_none ap cp ⟨#[44]⟩ wr).mono ?_
          rintro e w' ⟨rfl, rfl⟩
          exact ⟨rfl, Below.refl _ _⟩
        · obtain ⟨g, cp', e, hgb, hgl⟩ := hown.form h0
          simp only [Value.slice.injEq, true_and] at e
          obtain ⟨rfl, rfl⟩ := e
          have hcp : k ≤ cp := by obtain ⟨-, a', c', e, h2, -⟩ := lies_of_own hown; simp only [Value.slice.injEq, true_and] at e; omega
          have := Try.strings_Join g 0 cp (parts zs) ⟨#[44]⟩ wr (fun j x hj => by
            have hj' := (List.getElem?_eq_some_iff.1 hj).1
            rw [Nat.zero_add, hown.cellAt j (by omega)]
            simp [flatS, hj]) hgl (by omega) (by omega) (by show (joinB (parts zs)).length ≤ _; omega)
          rw [HL] at this
          exact this)
      have e1 : (⟨#[91]⟩ : ByteArray).size = 1 := rfl
      have e2 : (⟨#[93]⟩ : ByteArray).size = 1 := rfl
      have HW := hide (wrap_join 91 93 (parts zs))
      have sJ := size_of (joinB (parts zs))
      have s1 : ∀ W, (Op.stringOp .add ⟨#[91]⟩ ⟨(joinB (parts zs)).toArray⟩).run Try.prog W = .ok (.string (⟨#[91]⟩ ++ ⟨(joinB (parts zs)).toArray⟩)) W := fun W => run_string_add_sum W _ _ (by rw [e1, sJ]; omega)
      have s2 : ∀ W, (Op.stringOp .add (⟨#[91]⟩ ++ ⟨(joinB (parts zs)).toArray⟩) ⟨#[93]⟩).run Try.prog W = .ok (.string (⟨#[91]⟩ ++ ⟨(joinB (parts zs)).toArray⟩ ++ ⟨#[93]⟩)) W := fun W => run_string_add_sum W _ _ (by rw [app_size, e1, e2, sJ]; omega)
      rw [unhide HW, ← unhide HR] at s2
      clear HL hown JS sJ e1 e2 HW
      generalize (⟨(joinB (parts zs)).toArray⟩ : ByteArray) = J at HJ2 s1 s2
      generalize (⟨#[91]⟩ : ByteArray) ++ J = P1 at s1 s2
      go_wp2_with fail
      refine (unhide HJ2).mono ?_
      rintro e w5 ⟨rfl, b5⟩
      have c5 := hbel.trans (b5.mono hsz)
      go_wp2_with fail
      go_ret
      exact ⟨rfl, c5⟩
end Go.Proofs.Ythlphelkcamagaa.Mat
