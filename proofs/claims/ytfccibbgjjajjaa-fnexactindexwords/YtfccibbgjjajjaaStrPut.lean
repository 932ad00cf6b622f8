/- l4Word of the model; strings.Clone. -/
import Derived.Test.YtfccibbgjjajjaaStrMerge
import Derived.Test.YtfccibbgjjajjaaShelf
import Derived.Deep.RegionLaw
namespace Go.Proofs.Ytfccibbgjjajjaa.StrMath
theorem put_there : ∀ (l : List ByteArray) (x : ByteArray) (k : Nat), k < l.length → (∀ j, j < k → lt (at' l j) x) → at' l k = x → put l x = l
  | [], x, k, h, _, _ => by simp at h
  | y :: l, x, 0, _, _, h => by
    have e : y = x := h
    subst e
    unfold put
    rw [if_neg (lt_irrefl _), if_pos rfl]
  | y :: l, x, k + 1, h, h1, h2 => by
    have hy : lt y x := h1 0 (by omega)
    have ih := put_there l x k (by simpa using h) (fun j hj => by have := h1 (j + 1) (by omega); simpa [at', List.getD] using this) (by simpa [at', List.getD] using h2)
    unfold put
    rw [if_pos hy, ih]
theorem put_new : ∀ (l : List ByteArray) (x : ByteArray) (k : Nat), k ≤ l.length → (∀ j, j < k → lt (at' l j) x) → (k < l.length → ¬ lt (at' l k) x ∧ at' l k ≠ x) → put l x = l.take k ++ x :: l.drop k
  | [], x, k, h, _, _ => by simp at h; subst h; rfl
  | y :: l, x, 0, _, _, h => by
    have e := h (by simp)
    have e1 : ¬ lt y x := e.1
    have e2 : y ≠ x := e.2
    unfold put
    rw [if_neg e1, if_neg e2]
    rfl
  | y :: l, x, k + 1, h, h1, h2 => by
    have hy : lt y x := h1 0 (by omega)
    have ih := put_new l x k (by simpa using h) (fun j hj => by have := h1 (j + 1) (by omega); simpa [at', List.getD] using this) (fun hk => by have := h2 (by simpa using hk); simpa [at', List.getD] using this)
    unfold put
    rw [if_pos hy, ih]
    rfl
end Go.Proofs.Ytfccibbgjjajjaa.StrMath
namespace Go.Proofs.Ytfccibbgjjajjaa.Str
open Go.RowKit Rw StrMath
set_option linter.unusedVariables false
attribute [local go_sem ↓] Go.wp_at_zero Go.wp_at_succ
theorem run_lss (a b : ByteArray) (W : World) : (binOp .lss 9 (.string a) (.string b)).run Try.prog W = .ok (.bool (Lab.ltS a b)) W := rfl
theorem lss_yes {a b : ByteArray} (h : lt a b) : ∀ W, (binOp .lss 9 (.string a) (.string b)).run Try.prog W = .ok (.bool true) W := fun W => by rw [run_lss, show Lab.ltS a b = true from h]
theorem lss_no {a b : ByteArray} (h : ¬ lt a b) : ∀ W, (binOp .lss 9 (.string a) (.string b)).run Try.prog W = .ok (.bool false) W := fun W => by rw [run_lss, show Lab.ltS a b = false by simpa [lt] using h]
theorem beq_no {a b : ByteArray} (h : a ≠ b) : (a.toList == b.toList) = false := by
  apply Bool.eq_false_iff.2
  intro e
  have e' : a.toList = b.toList := by simpa using e
  rw [ByteArray.toList_eq, ByteArray.toList_eq] at e'
  exact h (Go.WideShapes.bytes_inj e')
theorem eql_no {a b : ByteArray} (h : a ≠ b) : ∀ W, (binOp .eql 9 (.string a) (.string b)).run Try.prog W = .ok (.bool false) W := fun W => by
  rw [show (binOp .eql 9 (.string a) (.string b)).run Try.prog W = .ok (.bool (a.toList == b.toList)) W from rfl, beq_no h]
theorem neq_yes {a b : ByteArray} (h : a ≠ b) : ∀ W, (binOp .neq 9 (.string a) (.string b)).run Try.prog W = .ok (.bool true) W := fun W => by
  rw [show (binOp .neq 9 (.string a) (.string b)).run Try.prog W = .ok (.bool !(a.toList == b.toList)) W from rfl, beq_no h]; rfl
theorem flat_put (l : List E) (k : Nat) (x : E) : flat (l.take k ++ x :: l.drop k) = [] ++ (flat l).take k ++ [.string x] ++ (flat l).drop k := by
  unfold flat
  rw [flatOf_append, flatOf_cons, flatOf_take flk, flatOf_drop flk, Nat.mul_one]
  simp [fl]
theorem clone_any (s : ByteArray) (w : World) (h : s.size ≤ 281474976710656) : Calls Try.prog 50 #[.string s] w fun e w' => e = .returned (.string s) ∧ Below w.heap.size w w' := by
  have H := hide (Try.stringslite_Clone s w h)
  go_enter Try.func50, Try.ntmps50
  go_wp2_with fail
  refine (unhide H).mono ?_
  rintro e w1 ⟨rfl, b⟩
  go_wp2_with fail
  go_ret
  exact ⟨rfl, b⟩
theorem own_empty' {w : World} {base B : Nat} {e : TypeId} {size : Nat} (hb : base ≤ w.heap.size) (hB : B = w.heap.size) : (w.alloc (.cells #[] e)).ownsRow base e size (.slice (some ⟨B, 0, none⟩) 0 0) 0 [] := by
  subst hB; exact own_empty hb
theorem head_ok {w : World} {a : Option Addr} {N cap k : Nat} {xs : List Value} (h : Lies w (.slice a N cap) N 1 xs) (h0 : k ≤ N) :
    ∃ R, (∀ W, (Instr.slice 44 (.slice a N cap) none (some (.int .i64 (k : Int))) none).run Try.prog W = .ok R W) ∧ Lies w R k 1 (xs.take k) := by
  have hc : N ≤ cap := by obtain ⟨-, a', cap', h1, h2, -⟩ := h; simp only [Value.slice.injEq, true_and] at h1; omega
  have h1 := take_lies (k := k) (cut_lies h (i := 0) (by omega)) (by omega)
  rw [Nat.zero_mul, List.drop_zero, Nat.mul_one] at h1
  refine ⟨_, fun W => ?_, h1⟩
  have e := run_slice_h (P := Try.prog) W 44 a N cap (by kernel_rfl) .i64 (k : Int) (by omega) (by omega)
  rw [e]
  show ((sizeOf (Try.prog.elem 44)).run Try.prog W).andThen _ = _
  rw [size_str]
  simp [sliced]
theorem rest_ok {w : World} {a : Option Addr} {N cap k : Nat} {xs : List Value} (h : Lies w (.slice a N cap) N 1 xs) (h0 : k ≤ N) :
    ∃ R, (∀ W, (Instr.slice 44 (.slice a N cap) (some (.int .i64 (k : Int))) none none).run Try.prog W = .ok R W) ∧ Lies w R (N - k) 1 (xs.drop k) := by
  have hc : N ≤ cap := by obtain ⟨-, a', cap', h1, h2, -⟩ := h; simp only [Value.slice.injEq, true_and] at h1; omega
  refine ⟨_, fun W => ?_, by have := cut_lies h (i := k) (by omega); rw [Nat.mul_one] at this; exact this⟩
  have e := run_slice_l (P := Try.prog) W 44 a N cap (by kernel_rfl) .i64 (k : Int) (by omega) (by omega)
  rw [e]
  show ((sizeOf (Try.prog.elem 44)).run Try.prog W).andThen _ = _
  rw [size_str]
  simp [sliced]
set_option maxRecDepth 100000 in
set_option maxHeartbeats 4000000 in
theorem l4Word_any {base : Nat} {v : Value} {l : List E} {w : World} (x : E) (hb : base ≤ w.heap.size) (hl : l.length ≤ 8388608) (hown : w.ownsRow base 9 1 v l.length (flat l)) :
    Calls Try.prog 61 #[v, .string x] w fun e w' => ∃ r, e = .returned r ∧ w'.ownsRow base 9 1 r (StrMath.put l x).length (flat (StrMath.put l x)) ∧ Below w.heap.size w w' := by
  obtain ⟨i0, hi, hz0, hz1, hz2⟩ := info_parts info_e
  have HOWN := hide hown
  have HLies := hide (show Lies w v l.length 1 (flat l) from is_of_own hown)
  obtain ⟨-, a, cap, rfl, hc, hm, -, hr⟩ := is_of_own hown
  unfold maxLen at hm
  have hmx : 1 ≤ maxLen := by unfold maxLen; omega
  obtain ⟨n, hn⟩ : ∃ n, n = l.length := ⟨_, rfl⟩
  rw [← hn] at hc hr HOWN HLies hl ⊢
  have HN := hide hn
  clear hn hown
  go_enter Try.func61, Try.ntmps61
  go_wp2
  go_loop [5] (fun i => ∃ k : Nat, k ≤ n ∧ i = .int .i64 k ∧ ∀ j, j < k → lt (StrMath.at' l j) x) (fun i => n - (intOf i).toNat)
  case atStart => exact ⟨0, Nat.zero_le _, rfl, fun j h => by omega⟩
  case round =>
    obtain ⟨k, hk, rfl, hlow⟩ := hrel
    have HL := hide hlow
    clear hlow
    have hk0 : (0 : Int) ≤ (k : Int) := Int.natCast_nonneg _
    have hkn : (k : Int) ≤ (n : Int) := by omega
    have hnc : (n : Int) ≤ (cap : Int) := by omega
    obtain ⟨S1, hS1, hL1⟩ := head_ok (unhide HLies) (show k ≤ n by omega)
    obtain ⟨S2, hS2, hL2⟩ := rest_ok (unhide HLies) (show k ≤ n by omega)
    have HS1 := hide (fun W (hB : Below w.heap.size w W) => hL1.below hB)
    have HS2 := hide (fun W (hB : Below w.heap.size w W) => hL2.below hB)
    have HO1 := hide (show ∀ u ∈ (flat l).take k, u.oneCell' = true from fun u hu => flat_oneCell l u (List.mem_of_mem_take hu))
    have HO2 := hide (show ∀ u ∈ (flat l).drop k, u.oneCell' = true from fun u hu => flat_oneCell l u (List.mem_of_mem_drop hu))
    clear hL1 hL2
    by_cases hlt : k < n
    · obtain ⟨b, off, rfl, hbl, hcells⟩ := hr (by omega)
      have hk1 : (k : Int) < (n : Int) := by omega
      have hc0 : w.cell? ⟨b, off + k, none⟩ = some (.string (StrMath.at' l k)) := hcells k _ (flat_at l k (by have := unhide HN; omega))
      obtain ⟨X, hX⟩ : ∃ X, X = StrMath.at' l k := ⟨_, rfl⟩
      rw [← hX] at hc0
      have HX := hide hX
      clear hX
      by_cases hx : lt X x
      · have r1 : Op.bytesLess X.toList x.toList = true := hx
        have HL' := hide (show ∀ j, j < k + 1 → lt (StrMath.at' l j) x from fun j hj => by
          by_cases e : j = k
          · subst e; rw [← unhide HX]; exact hx
          · exact unhide HL j (by omega))
        clear hS1 hS2
        go_wp2
        go_round
        case rel => exact ⟨k + 1, by omega, by go_num, unhide HL'⟩
        case measure => simp [intOf]; omega
      · have r1 : Op.bytesLess X.toList x.toList = false := by simpa [lt, Lab.ltS] using hx
        by_cases he : X = x
        · have HPut := hide (StrMath.put_there l x k (by have := unhide HN; omega) (unhide HL) (by rw [← unhide HX]; exact he))
          subst he
          clear hS1 hS2
          go_wp2
          go_ret
          exact ⟨_, rfl, by rw [unhide HPut, ← unhide HN]; exact unhide HOWN, Below.refl _ _⟩
        · have r2 : (X.toList == x.toList) = false := beq_no he
          have HPut := hide (StrMath.put_new l x k (by have := unhide HN; omega) (unhide HL) (fun _ => by rw [← unhide HX]; exact ⟨hx, he⟩))
          clear he
          go_wp2_with fail
          go_region_law ((first | (refine app_step _ (by rfl) _ _ _ (by rfl) w.heap.size 9 i0 _ 1 16 Try.underlying44 hi hz0 hz1 hz2 rfl (by omega) _ 0 [] (by rfl) (by first | exact World.ownsRow.drew (own_empty' (Nat.le_refl _) rfl) | exact World.ownsRow.drew (World.ownsRow.alloc (own_empty' (Nat.le_refl _) rfl) _) | exact World.ownsRow.drew (own_empty' (w := w.alloc _) (by simp <;> omega) (by simp <;> omega))) S1 k _ (by rfl) (unhide HS1 _ (by first | exact ((Below.refl _ _).alloc (Nat.le_refl _) _).drew | exact (((Below.refl _ _).alloc (Nat.le_refl _) _).alloc (by simp <;> omega) _).drew)) (unhide HO1) (by unfold maxLen; omega) (by omega) (by simp <;> omega) ?_; intro v1 w1 o1 g1 a1; have B1 : Below w.heap.size w w1 := below_grown (by first | exact ((Below.refl _ _).alloc (Nat.le_refl _) _).drew | exact (((Below.refl _ _).alloc (Nat.le_refl _) _).alloc (by simp <;> omega) _).drew) (by simp <;> omega) g1 (by intro k hk; have e := Option.some.inj hk; simp at e; omega); have s1 := B1.size) | (refine app_step _ (by rfl) _ _ _ (by rfl) w.heap.size 9 i0 _ 1 16 Try.underlying44 hi hz0 hz1 hz2 rfl (by omega) _ (0 + k) _ (by rfl) (o1.alloc _) _ 1 [.string x] (by rfl) (lies_new rfl rfl hmx) (by simp [Value.oneCell']) (by unfold maxLen; omega) (by omega) (by simp <;> omega) ?_; intro v2 w2 o2 g2 a2; have B2 : Below w.heap.size w w2 := below_grown (B1.alloc s1 _) (by simp <;> omega) g2 (own_ge o1); have s2 := B2.size) | (refine app_step _ (by rfl) _ _ _ (by rfl) w.heap.size 9 i0 _ 1 16 Try.underlying44 hi hz0 hz1 hz2 rfl (by omega) _ (0 + k) _ (by rfl) o1 _ 1 [.string x] (by rfl) (Lies.grown (by first | exact Lies.drew (Lies.alloc (lies_new rfl rfl hmx) _) | exact Lies.drew (lies_new (w := w.alloc _) (by simp) rfl hmx)) g1 (fun k hk e' => by have e := Option.some.inj hk; have e2 := Option.some.inj e'; simp at e e2; omega)) (by simp [Value.oneCell']) (by unfold maxLen; omega) (by omega) (by omega) ?_; intro v2 w2 o2 g2 a2; have B2 : Below w.heap.size w w2 := below_grown B1 s1 g2 (own_ge o1); have s2 := B2.size) | (refine app_step _ (by rfl) _ _ _ (by rfl) w.heap.size 9 i0 _ 1 16 Try.underlying44 hi hz0 hz1 hz2 rfl (by omega) _ (0 + k + 1) _ (by rfl) o2 S2 (n - k) _ (by rfl) (unhide HS2 _ B2) (unhide HO2) (by unfold maxLen; omega) (by omega) (by omega) ?_; intro v3 w3 o3 g3 a3; have B3 : Below w.heap.size w w3 := below_grown B2 s2 g3 (own_ge o2))))
          all_goals
            have HF := hide (show flat (StrMath.put l x) = [] ++ (flat l).take k ++ [.string x] ++ (flat l).drop k by rw [unhide HPut]; exact flat_put l k x)
            have HLn := hide (show (StrMath.put l x).length = 0 + k + 1 + (n - k) by have := congrArg List.length (unhide HF); rw [flat_length] at this; rw [this]; simp [flat_length]; have := unhide HN; omega)
            go_wp2
            go_ret
            exact ⟨_, rfl, by rw [unhide HF, unhide HLn]; exact own_mono o3 hb, B3⟩
    · have hf : decide ((k : Int) < (n : Int)) = false := by simp; omega
      have HPut := hide (StrMath.put_new l x k (by have := unhide HN; omega) (unhide HL) (fun h => by have := unhide HN; omega))
      go_wp2_with fail
      go_region_law ((first | (refine app_step _ (by rfl) _ _ _ (by rfl) w.heap.size 9 i0 _ 1 16 Try.underlying44 hi hz0 hz1 hz2 rfl (by omega) _ 0 [] (by rfl) (by first | exact World.ownsRow.drew (own_empty' (Nat.le_refl _) rfl) | exact World.ownsRow.drew (World.ownsRow.alloc (own_empty' (Nat.le_refl _) rfl) _) | exact World.ownsRow.drew (own_empty' (w := w.alloc _) (by simp <;> omega) (by simp <;> omega))) S1 k _ (by rfl) (unhide HS1 _ (by first | exact ((Below.refl _ _).alloc (Nat.le_refl _) _).drew | exact (((Below.refl _ _).alloc (Nat.le_refl _) _).alloc (by simp <;> omega) _).drew)) (unhide HO1) (by unfold maxLen; omega) (by omega) (by simp <;> omega) ?_; intro v1 w1 o1 g1 a1; have B1 : Below w.heap.size w w1 := below_grown (by first | exact ((Below.refl _ _).alloc (Nat.le_refl _) _).drew | exact (((Below.refl _ _).alloc (Nat.le_refl _) _).alloc (by simp <;> omega) _).drew) (by simp <;> omega) g1 (by intro k hk; have e := Option.some.inj hk; simp at e; omega); have s1 := B1.size) | (refine app_step _ (by rfl) _ _ _ (by rfl) w.heap.size 9 i0 _ 1 16 Try.underlying44 hi hz0 hz1 hz2 rfl (by omega) _ (0 + k) _ (by rfl) (o1.alloc _) _ 1 [.string x] (by rfl) (lies_new rfl rfl hmx) (by simp [Value.oneCell']) (by unfold maxLen; omega) (by omega) (by simp <;> omega) ?_; intro v2 w2 o2 g2 a2; have B2 : Below w.heap.size w w2 := below_grown (B1.alloc s1 _) (by simp <;> omega) g2 (own_ge o1); have s2 := B2.size) | (refine app_step _ (by rfl) _ _ _ (by rfl) w.heap.size 9 i0 _ 1 16 Try.underlying44 hi hz0 hz1 hz2 rfl (by omega) _ (0 + k) _ (by rfl) o1 _ 1 [.string x] (by rfl) (Lies.grown (by first | exact Lies.drew (Lies.alloc (lies_new rfl rfl hmx) _) | exact Lies.drew (lies_new (w := w.alloc _) (by simp) rfl hmx)) g1 (fun k hk e' => by have e := Option.some.inj hk; have e2 := Option.some.inj e'; simp at e e2; omega)) (by simp [Value.oneCell']) (by unfold maxLen; omega) (by omega) (by omega) ?_; intro v2 w2 o2 g2 a2; have B2 : Below w.heap.size w w2 := below_grown B1 s1 g2 (own_ge o1); have s2 := B2.size) | (refine app_step _ (by rfl) _ _ _ (by rfl) w.heap.size 9 i0 _ 1 16 Try.underlying44 hi hz0 hz1 hz2 rfl (by omega) _ (0 + k + 1) _ (by rfl) o2 S2 (n - k) _ (by rfl) (unhide HS2 _ B2) (unhide HO2) (by unfold maxLen; omega) (by omega) (by omega) ?_; intro v3 w3 o3 g3 a3; have B3 : Below w.heap.size w w3 := below_grown B2 s2 g3 (own_ge o2))))
      all_goals
        have HF := hide (show flat (StrMath.put l x) = [] ++ (flat l).take k ++ [.string x] ++ (flat l).drop k by rw [unhide HPut]; exact flat_put l k x)
        have HLn := hide (show (StrMath.put l x).length = 0 + k + 1 + (n - k) by have := congrArg List.length (unhide HF); rw [flat_length] at this; rw [this]; simp [flat_length]; have := unhide HN; omega)
        go_wp2
        go_ret
        exact ⟨_, rfl, by rw [unhide HF, unhide HLn]; exact own_mono o3 hb, B3⟩
end Go.Proofs.Ytfccibbgjjajjaa.Str
