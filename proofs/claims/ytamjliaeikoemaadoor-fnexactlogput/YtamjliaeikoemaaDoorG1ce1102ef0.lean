/- My own texts of one claim, laid together by program: RecPut, RecPutMath, RecPut2, RecPut3. -/
import Derived.Test.YtamjliaeikoemaaDoorGc7665411e8
import Derived.Test.YtamjliaeikoemaaDoorG6d502a06d1
import Derived.Test.YtamjliaeikoemaaDoorG3c8c00566d
/- RecPut of the program, at every record. What it asks: the library's table of powers of ten as its text lays it. -/
namespace Go.Proofs.YtamjliaeikoemaaDoor.Rec
open Go.RowKit Rw PutMath Dec
set_option linter.unusedVariables false
set_option linter.unusedSimpArgs false
attribute [local go_sem ↓] Go.wp_at_zero Go.wp_at_succ
theorem isB_below {B b : Nat} {bs : List Value} {w w' : World} (h : Bld.IsB B b bs w) (hb : Below w.heap.size w w') : Bld.IsB B b bs w' := by
  have go : ∀ p, Lib.BuilderAt 71 5 B b p bs w → Lib.BuilderAt 71 5 B b p bs w' := by
    intro p ⟨h1, v, h2, h3, h4⟩
    have hl : b < w.heap.size := by
      rcases Nat.lt_or_ge b w.heap.size with hl | hl
      · exact hl
      · rw [Array.getElem?_eq_none hl] at h2; cases h2
    exact ⟨h1, v, by rw [hb.block b hl]; exact h2, own_below h3 hb, h4⟩
  rcases h with h | h
  · exact .inl (go _ h)
  · exact .inr (go _ h)
theorem entB_parts {x : Ent.E} (h : Ent.entB x = true) : Lab.ok x.1 = true ∧ 0 ≤ x.2.1 ∧ x.2.1 ≤ 9999 ∧ 0 ≤ x.2.2 ∧ x.2.2 ≤ 2147483647 := by
  unfold Ent.entB SampMath.inR at h
  simp only [Bool.and_eq_true, decide_eq_true_eq] at h
  obtain ⟨a, ⟨b, c⟩, d, e⟩ := h
  exact ⟨a, b, c, d, e⟩
theorem batch_parts {zs : List Ent.E} (h : Ent.batchB zs = true) : (∀ x ∈ zs, Ent.entB x = true) ∧ 1 ≤ zs.length ∧ zs.length ≤ 6 := by
  unfold Ent.batchB at h
  simp only [Bool.and_eq_true, decide_eq_true_eq] at h
  exact ⟨List.all_eq_true.1 h.1, h.2.1, h.2.2⟩
theorem put_size {ls : List Lab.E} (h : Lab.ok ls = true) : (Lab.put ls).size ≤ 200 := (Lab.put_size h).2
theorem ofI_size {n : Int} (h : n ≤ 4294967296) : (ofI n).size ≤ 18 := dec_small (by omega)
theorem entT_size {x : Ent.E} (h : Ent.entB x = true) : (entT x).size ≤ 239 := by
  obtain ⟨h1, h2, h3, h4, h5⟩ := entB_parts h
  have a := put_size h1
  have b := ofI_size (n := x.2.1) (by omega)
  have c := ofI_size (n := x.2.2) (by omega)
  unfold entT
  simp only [app_size]
  have e : sp.size = 1 := rfl
  omega
theorem catT_len : ∀ {zs : List Ent.E}, (∀ x ∈ zs, Ent.entB x = true) → (catT zs).length ≤ zs.length * 239
  | [], _ => by simp [catT]
  | x :: zs, h => by
    have h1 := entT_size (h x (List.mem_cons_self ..))
    have h2 := catT_len (zs := zs) (fun y hy => h y (List.mem_cons_of_mem _ hy))
    have e : catT (x :: zs) = (entT x).data.toList ++ catT zs := by simp [catT]
    have hl : (entT x).data.toList.length = (entT x).size := Array.length_toList
    rw [e, List.length_append, hl, List.length_cons, Nat.add_mul, Nat.one_mul]
    omega
theorem lab_good {zs : List Lab.E} (h : Lab.ok zs = true) : ∀ x ∈ zs, Lab.good x := fun x hx => by
  have := (Lab.ok_small h).2 x hx
  exact ⟨by unfold maxLen; omega, by unfold maxLen; omega⟩
theorem itoa_int {n : Int} (w : World) (h0 : 0 ≤ n) (h1 : n ≤ 4294967296) (ht : Tb w) : Calls Tryd.prog 21 #[.int .i64 n] w fun e w' => e = .returned (.string (ofI n)) ∧ Below w.heap.size w w' := by
  have := itoa_any n.toNat w (by omega) ht
  rw [Int.toNat_of_nonneg h0] at this
  exact this
theorem dec_int {n : Int} (w : World) (h0 : 0 ≤ n) (h1 : n ≤ 4294967296) : Calls Tryd.prog 33 #[.int .i64 n] w fun e w' => e = .returned (.string (ofI n)) ∧ Below w.heap.size w w' := by
  have := l1Dec_any n.toNat n.toNat (Nat.le_refl _) (by omega) w
  rw [Int.toNat_of_nonneg h0] at this
  exact this
/-- the sums of an entry's text -/
theorem sums {O P T V : ByteArray} (hO : O.size ≤ 10000) (hP : P.size ≤ 200) (hT : T.size ≤ 18) (hV : V.size ≤ 18) : ∃ A B C D E : ByteArray, E = O ++ P ++ sp ++ T ++ sp ++ V ∧ E.size ≤ 10238 ∧ (∀ W, (Op.stringOp .add O P).run Tryd.prog W = .ok (.string A) W) ∧ (∀ W, (Op.stringOp .add A ⟨#[32]⟩).run Tryd.prog W = .ok (.string B) W) ∧ (∀ W, (Op.stringOp .add B T).run Tryd.prog W = .ok (.string C) W) ∧ (∀ W, (Op.stringOp .add C ⟨#[32]⟩).run Tryd.prog W = .ok (.string D) W) ∧ (∀ W, (Op.stringOp .add D V).run Tryd.prog W = .ok (.string E) W) := by
  have e : sp.size = 1 := rfl
  refine ⟨O ++ P, O ++ P ++ sp, O ++ P ++ sp ++ T, O ++ P ++ sp ++ T ++ sp, _, rfl, by simp only [app_size]; omega, fun W => run_string_add_sum W _ _ (by omega), fun W => run_string_add_sum W _ sp (by simp only [app_size]; omega), fun W => run_string_add_sum W _ _ (by simp only [app_size]; omega), fun W => run_string_add_sum W _ sp (by simp only [app_size]; omega), fun W => run_string_add_sum W _ _ (by simp only [app_size]; omega)⟩
set_option maxRecDepth 100000 in
set_option maxHeartbeats 8000000 in
theorem batch_put {w : World} {vb : Value} {zb : List Ent.E} (hb : Ent.Is w vb zb) (hk : Ent.batchB zb = true) (ht : Tb w) : Calls Tryd.prog 19 #[vb] w fun e w' => e = .returned (.string ⟨(catT zb).toArray⟩) ∧ Below w.heap.size w w' := by
  obtain ⟨hEa, -, hL6⟩ := batch_parts hk
  obtain ⟨cs, hcs, hL, hEl⟩ := hb
  obtain ⟨-, a, cap, rfl, hc, hm, -, hr⟩ := hL
  unfold maxLen at hm
  obtain ⟨n, hn⟩ : ∃ n, n = zb.length := ⟨_, rfl⟩
  rw [← hn] at hc hr hL6 ⊢
  have HN := hide hn
  have HEA := hide hEa
  have HEL := hide hEl
  have HTb := hide ht
  obtain ⟨W0, hW0⟩ : ∃ W, w.alloc (.cells #[.pointer none, .slice none 0 0] 71) = W := ⟨_, rfl⟩
  have b0 : Below w.heap.size w W0 := by rw [← hW0]; exact (Below.refl _ _).alloc (Nat.le_refl _) _
  have hB0 : Bld.IsB w.heap.size w.heap.size [] W0 := .inl ⟨Nat.le_refl _, .slice none 0 0, by rw [← hW0]; exact heap_alloc_new w _, World.ownsRow_nil _ _ _ _, by simp [Value.ownBlock]⟩
  have HB0 := hide hB0
  clear hn hEa hEl ht hB0 hk
  go_enter Tryd.func19, Tryd.ntmps19
  go_wp2_with fail
  clear hW0
  go_loopw [8] (fun i wr => ∃ k : Nat, k ≤ n ∧ i = .int .i64 (k : Int) ∧ Hid (Bld.IsB w.heap.size w.heap.size (Lib.byteCells (catT (zb.take k))) wr) ∧ Below w.heap.size w wr) (fun i _ => n - (intOf i).toNat)
  case atStart => exact ⟨0, Nat.zero_le _, rfl, unhide HB0, b0⟩
  case round =>
    clear HB0 b0
    obtain ⟨k, hk, rfl, HB, hbel⟩ := hrel
    have hsz := hbel.size
    have hk0 : (0 : Int) ≤ (k : Int) := Int.natCast_nonneg _
    by_cases hlt : k < n
    · have hkz : k < zb.length := by rw [← unhide HN]; exact hlt
      obtain ⟨b, off, rfl, hl, hcells⟩ := hr (by omega)
      obtain ⟨f1, f2, f3⟩ : (flatOf Ent.cl cs)[k * 3]? = some (Ent.cat cs k).1 ∧ (flatOf Ent.cl cs)[k * 3 + 1]? = some (Ent.cat cs k).2.1 ∧ (flatOf Ent.cl cs)[k * 3 + 2]? = some (Ent.cat cs k).2.2 := Ent.flat_at cs k (by omega)
      obtain ⟨g1, g2, g3⟩ := unhide HEL k hkz
      have c0 : wr.cell? ⟨b, off + k * 3, none⟩ = some (Ent.cat cs k).1 := (hbel.cell (p := ⟨b, _, none⟩) hl).trans (hcells (k * 3) _ f1)
      have c1 : wr.cell? ⟨b, off + k * 3 + 1, none⟩ = some (Ent.cat cs k).2.1 := (hbel.cell (p := ⟨b, _, none⟩) hl).trans (hcells (k * 3 + 1) _ f2)
      have c2 : wr.cell? ⟨b, off + k * 3 + 2, none⟩ = some (Ent.cat cs k).2.2 := (hbel.cell (p := ⟨b, _, none⟩) hl).trans (hcells (k * 3 + 2) _ f3)
      obtain ⟨la, ln, lq, hla⟩ : ∃ a n q, (Ent.cat cs k).1 = .slice a n q := by obtain ⟨-, a, q, e, -⟩ := id g1; exact ⟨a, _, q, e⟩
      have hEk := unhide HEA (Ent.at' zb k) (Ent.at_mem zb k hkz)
      obtain ⟨p1, p2, p3, p4, p5⟩ := entB_parts hEk
      have HPS := hide (show catT (zb.take (k + 1)) = catT (zb.take k) ++ (entT (Ent.at' zb k)).data.toList by rw [Ent.at_snoc zb k hkz, catT_snoc])
      have hCl := catT_len (zs := zb.take k) (fun y hy => unhide HEA y (List.mem_of_mem_take hy))
      rw [List.length_take] at hCl
      obtain ⟨X, hX⟩ : ∃ X, X = Ent.at' zb k := ⟨_, rfl⟩
      rw [← hX] at g1 g2 g3 hEk p1 p2 p3 p4 p5 HPS
      obtain ⟨ls, T, V⟩ := X
      dsimp only at g1 g2 g3 p1 p2 p3 p4 p5
      rw [hla] at g1 c0
      rw [g2] at c1
      rw [g3] at c2
      obtain ⟨W1, hW1⟩ : ∃ W, wr.alloc (.cells #[.slice la ln lq, .int .i64 T, .int .i64 V] 62) = W := ⟨_, rfl⟩
      have bW : Below wr.heap.size wr W1 := by rw [← hW1]; exact (Below.refl _ _).alloc (Nat.le_refl _) _
      have zW : wr.heap.size < W1.heap.size := by rw [← hW1]; simp
      have q0 : W1.cell? ⟨wr.heap.size, 0, none⟩ = some (.slice la ln lq) := by rw [← hW1]; simp [go_sem]
      have q1 : W1.cell? ⟨wr.heap.size, 1, none⟩ = some (.int .i64 T) := by rw [← hW1]; simp [go_sem]
      have q2 : W1.cell? ⟨wr.heap.size, 2, none⟩ = some (.int .i64 V) := by rw [← hW1]; simp [go_sem]
      have HK := hide (fun (X : World) (h : Below W1.heap.size W1 X) => show X.cell? ⟨wr.heap.size, 0, none⟩ = some (.slice la ln lq) ∧ X.cell? ⟨wr.heap.size, 1, none⟩ = some (.int .i64 T) ∧ X.cell? ⟨wr.heap.size, 2, none⟩ = some (.int .i64 V) from ⟨(h.cell (p := ⟨_, _, none⟩) zW).trans q0, (h.cell (p := ⟨_, _, none⟩) zW).trans q1, (h.cell (p := ⟨_, _, none⟩) zW).trans q2⟩)
      have hw1 := hbel.trans (bW.mono hsz)
      have eD : Below W1.heap.size W1 W1.drew := (Below.refl _ _).drew
      have HP := hide (fun (Y : World) (h : Below W1.heap.size W1 Y) => Lab.impl_put (g1.below (hw1.trans (h.mono hw1.size))) (lab_good p1))
      have HT := hide (fun (Y : World) (h : Below W1.heap.size W1 Y) => itoa_int (n := T) Y p2 (by omega) ((unhide HTb).below (hw1.trans (h.mono hw1.size))))
      have HV := hide (fun (Y : World) (h : Below W1.heap.size W1 Y) => itoa_int (n := V) Y p4 (by omega) ((unhide HTb).below (hw1.trans (h.mono hw1.size))))
      have hPs := put_size p1
      have hTs := ofI_size (n := T) (by omega)
      have hVs := ofI_size (n := V) (by omega)
      obtain ⟨A1, hA1⟩ : ∃ A, A = sp ++ Lab.put ls := ⟨_, rfl⟩
      have HEq := hide (show entT (ls, T, V) = sp ++ Lab.put ls ++ sp ++ ofI T ++ sp ++ ofI V from rfl)
      generalize Lab.put ls = P at HP hPs HEq hA1
      generalize ofI T = TT at HT hTs HEq
      generalize ofI V = VV at HV hVs HEq
      obtain ⟨B1, B2, B3, B4, B5, hB5, hz5, s1, s2, s3, s4, s5⟩ := sums (O := sp) (P := P) (T := TT) (V := VV) (by decide) hPs hTs hVs
      have s1' : ∀ W, (Op.stringOp .add ⟨#[32]⟩ P).run Tryd.prog W = .ok (.string B1) W := s1
      rw [← hB5] at HEq
      have hsW := hw1.size
      have HWr := hide (fun (Y : World) (h : Below W1.heap.size W1 Y) => Bld.write_any w.heap.size w.heap.size (Lib.byteCells (catT (zb.take k))) B5 Y (isB_below (unhide HB) (bW.trans (h.mono bW.size))) (by rw [Lib.byteCells_length]; omega) (by have := h.size; omega))
      have HKb := hide (fun (Y Y' : World) (h : Below W1.heap.size W1 Y) (h' : Below w.heap.size Y Y') => h')
      obtain ⟨d0, d1, d2⟩ := unhide HK _ eD
      have hk1 : (k : Int) < (n : Int) := by omega
      clear f1 f2 f3 g1 g2 g3 hX hla hEk p1 p2 p3 p4 p5 hB5 s1 hA1 bW
      go_wp2_with fail
      clear hW1
      go_region_with ((first | (go_at_call 42; refine (unhide HP _ eD).mono ?_; rintro e w1 ⟨rfl, b1⟩; have e1 := eD.trans (b1.mono eD.size); obtain ⟨r0, r1, r2⟩ := unhide HK _ e1) | (go_at_call 41; refine (unhide HWr _ e3).mono ?_; rintro e w4 ⟨rfl, hB4, b4⟩) | (go_at_call_of 21 T; refine (unhide HT _ e1).mono ?_; rintro e w2 ⟨rfl, b2⟩; have e2 := e1.trans (b2.mono e1.size); obtain ⟨u0, u1, u2⟩ := unhide HK _ e2) | (go_at_call_of 21 V; refine (unhide HV _ e2).mono ?_; rintro e w3 ⟨rfl, b3⟩; have e3 := e2.trans (b3.mono e2.size); obtain ⟨v0, v1, v2⟩ := unhide HK _ e3)))
      all_goals (
        have w4' := (hw1.trans (e3.mono hw1.size)).trans b4
        have HB4 := hide (show Bld.IsB w.heap.size w.heap.size (Lib.byteCells (catT (zb.take (k + 1)))) w4 by rw [unhide HPS, Lib.byteCells_append, unhide HEq]; exact .inr hB4)
        clear hB4 b4 HB HWr HP HT HV HK HKb
        go_wp2_with fail
        go_roundw
        case rel => exact ⟨k + 1, by omega, by go_num, HB4, w4'⟩
        case measure => simp [intOf]; omega)
    · obtain rfl : k = n := by omega
      have hkf : decide ((k : Int) < (k : Int)) = false := by simp
      rw [List.take_of_length_le (by have := unhide HN; omega)] at HB
      have HSt := hide (Tryd.Builder_String_any w.heap.size w.heap.size (catT zb) wr (unhide HB) hsz)
      clear HB
      go_wp2_with fail
      refine (unhide HSt).mono ?_
      rintro e w2 ⟨rfl, b2⟩
      have d2 := hbel.trans b2
      go_wp2_with fail
      go_ret
      exact ⟨rfl, d2⟩
end Go.Proofs.YtamjliaeikoemaaDoor.Rec

/- What a record that is ok asks of its parts, and how long its text is. No condition. -/
namespace Go.Proofs.YtamjliaeikoemaaDoor.Rec
open Go.RowKit Rw PutMath Dec
set_option linter.unusedVariables false
set_option linter.unusedSimpArgs false
attribute [local go_sem ↓] Go.wp_at_zero Go.wp_at_succ
theorem mput_size {zs : List Mat.E} (h : Mat.ok zs = true) : (Mat.put zs).size ≤ 200 := by
  have e : (Mat.put zs).size = (joinB (Mat.parts zs)).length + 2 := by
    unfold Mat.put wrap
    rw [if_pos h, size_of]
    simp
  unfold Mat.ok at h
  simp only [Bool.and_eq_true, decide_eq_true_eq] at h
  have hl := joinB_len (Mat.parts zs) 15 (fun p hp => by
    obtain ⟨x, hx, rfl⟩ := List.mem_map.1 hp
    obtain ⟨k, hk, rfl⟩ := List.getElem_of_mem hx
    have hs := List.all_eq_true.1 (show (List.range zs.length).all (Mat.stepOk zs) = true from h.1) k (List.mem_range.2 hk)
    rw [← Mat.at_get zs k hk]
    unfold Mat.stepOk Lab.nameB Lab.wordB at hs
    simp only [Bool.and_eq_true, decide_eq_true_eq] at hs
    have h3 := hs.1.2.1.2
    have h4 := hs.2.1
    unfold Mat.partOf
    rw [app_size, app_size, Mat.sign_size]
    omega)
  rw [Mat.parts_length] at hl
  have := h.2
  omega
theorem rec_kind {K F T : Int} {zb : List Ent.E} {zl : List Mat.E} (h : recB (K, zb, zl, F, T) = true) : K = 1 ∨ K = 2 ∨ K = 3 := by
  by_cases h1 : K = 1
  · exact .inl h1
  by_cases h2 : K = 2
  · exact .inr (.inl h2)
  by_cases h3 : K = 3
  · exact .inr (.inr h3)
  rw [rec_none (x := (K, zb, zl, F, T)) h1 h2 h3] at h; cases h
theorem rec_one {F T : Int} {zb : List Ent.E} {zl : List Mat.E} (h : recB (1, zb, zl, F, T) = true) : Ent.batchB zb = true := by
  rw [rec_add (x := (1, zb, zl, F, T)) rfl] at h
  simp only [Bool.and_eq_true] at h
  exact h.1.1.1
theorem rec_two {F T : Int} {zb : List Ent.E} {zl : List Mat.E} (h : recB (2, zb, zl, F, T) = true) : Mat.ok zl = true ∧ 0 ≤ F ∧ F ≤ 9999 ∧ 0 ≤ T ∧ T ≤ 10000 := by
  rw [rec_drop (x := (2, zb, zl, F, T)) rfl] at h
  simp only [Bool.and_eq_true] at h
  refine ⟨h.1.2, ?_⟩
  by_cases hh : F < 0 ∨ 9999 < F ∨ T < F ∨ 10000 < T
  · rw [times_no hh] at h; cases h.2
  · omega
theorem rec_three {F T : Int} {zb : List Ent.E} {zl : List Mat.E} (h : recB (3, zb, zl, F, T) = true) : 0 ≤ F ∧ F ≤ 9999 := by
  rw [rec_keep (x := (3, zb, zl, F, T)) rfl] at h
  simp only [Bool.and_eq_true] at h
  have hf := h.1.2
  unfold Row.floorB at hf
  simp only [Bool.and_eq_true, decide_eq_true_eq] at hf
  exact hf.1
theorem text_one (zb : List Ent.E) (zl : List Mat.E) (F T : Int) : textR (1, zb, zl, F, T) = ⟨#[65]⟩ ++ ⟨(catT zb).toArray⟩ := by
  have e : textR (1, zb, zl, F, T) = ⟨(65 :: catT zb).toArray⟩ := rfl
  rw [e]
  apply Go.WideShapes.bytes_inj
  rw [app_toList, of_toList, of_toList]
  rfl
theorem text_two (zb : List Ent.E) (zl : List Mat.E) (F T : Int) : textR (2, zb, zl, F, T) = ⟨#[68, 32]⟩ ++ Mat.put zl ++ sp ++ ofI F ++ sp ++ ofI T := rfl
theorem text_three (zb : List Ent.E) (zl : List Mat.E) (F T : Int) : textR (3, zb, zl, F, T) = ⟨#[75, 32]⟩ ++ ofI F := rfl
theorem cat_size {zb : List Ent.E} (h : Ent.batchB zb = true) : (⟨(catT zb).toArray⟩ : ByteArray).size ≤ 1434 := by
  obtain ⟨h1, -, h3⟩ := batch_parts h
  have := catT_len h1
  rw [size_of]
  omega
theorem text_size {x : E} (h : recB x = true) : (textR x).size ≤ 1500 := by
  obtain ⟨K, zb, zl, F, T⟩ := x
  rcases rec_kind h with rfl | rfl | rfl
  · have := cat_size (rec_one h)
    rw [text_one, app_size]
    show 1 + _ ≤ _
    omega
  · obtain ⟨h1, h2, h3, h4, h5⟩ := rec_two h
    have a := mput_size h1
    have b := ofI_size (n := F) (by omega)
    have c := ofI_size (n := T) (by omega)
    rw [text_two]
    simp only [app_size]
    show 2 + _ + 1 + _ + 1 + _ ≤ _
    omega
  · obtain ⟨h2, h3⟩ := rec_three h
    have b := ofI_size (n := F) (by omega)
    rw [text_three, app_size]
    show 2 + _ ≤ _
    omega
theorem put_yes {x : E} (h : recB x = true) : put x = textR x := by unfold put; rw [if_pos h]
theorem put_no {x : E} (h : recB x = false) : put x = ByteArray.empty := by unfold put; rw [h]; rfl
theorem put_short (x : E) : (put x).size ≤ 1500 := by
  by_cases h : recB x = true
  · rw [put_yes h]; exact text_size h
  · rw [put_no (by simpa using h)]; exact Nat.zero_le _
end Go.Proofs.YtamjliaeikoemaaDoor.Rec

/- RecPut of the program, at every record. What it asks: the library's table of powers of ten as its text lays it. -/
namespace Go.Proofs.YtamjliaeikoemaaDoor.Rec
open Go.RowKit Rw PutMath Dec
set_option linter.unusedVariables false
set_option linter.unusedSimpArgs false
attribute [local go_sem ↓] Go.wp_at_zero Go.wp_at_succ
set_option maxRecDepth 100000 in
set_option maxHeartbeats 8000000 in
theorem impl_put {w : World} {vb vl : Value} {zb : List Ent.E} {zl : List Mat.E} (K F T : Int) (hb : Ent.Is w vb zb) (hl : Mat.Is w vl zl) (gb : ∀ y ∈ zb, Ent.good y) (gl : ∀ y ∈ zl, Mat.good y) (ll : zl.length ≤ maxLen) (ht : Tb w) :
    Calls Tryd.prog 8 #[.agg #[.int .i64 K, vb, vl, .int .i64 F, .int .i64 T]] w fun e w' => e = .returned (.string (put (K, zb, zl, F, T))) ∧ Below w.heap.size w w' := by
  have CO := hide (fun W (hB : Below w.heap.size w W) => impl_ok K F T (hb.below hB) (hl.below hB) gb gl ll)
  have CB := hide (fun W (hB : Below w.heap.size w W) (h : Ent.batchB zb = true) => batch_put (hb.below hB) h (ht.below hB))
  have CM := hide (fun W (hB : Below w.heap.size w W) => Mat.impl_put (hl.below hB) gl ll)
  have CI := hide (fun (n : Int) W (hB : Below w.heap.size w W) (h0 : 0 ≤ n) (h1 : n ≤ 4294967296) => itoa_int (n := n) W h0 h1 (ht.below hB))
  clear hb hl gb gl ll ht
  obtain ⟨rb, hrb⟩ : ∃ rb, rb = recB (K, zb, zl, F, T) := ⟨_, rfl⟩
  rw [← hrb] at CO
  obtain ⟨wa, hwa⟩ : ∃ wa, wa = w.alloc (.cells #[.int .i64 K, vb, vl, .int .i64 F, .int .i64 T] 31) := ⟨_, rfl⟩
  have B : Below w.heap.size w wa := by rw [hwa]; exact (Below.refl _ _).alloc (Nat.le_refl _) _
  have za : w.heap.size < wa.heap.size := by rw [hwa]; simp
  have A0 : wa.cell? ⟨w.heap.size, 0, none⟩ = some (.int .i64 K) := by rw [hwa]; simp [go_sem]
  have A1 : wa.cell? ⟨w.heap.size, 1, none⟩ = some vb := by rw [hwa]; simp [go_sem]
  have A2 : wa.cell? ⟨w.heap.size, 2, none⟩ = some vl := by rw [hwa]; simp [go_sem]
  have A3 : wa.cell? ⟨w.heap.size, 3, none⟩ = some (.int .i64 F) := by rw [hwa]; simp [go_sem]
  have A4 : wa.cell? ⟨w.heap.size, 4, none⟩ = some (.int .i64 T) := by rw [hwa]; simp [go_sem]
  cases rb
  · have HR := hide (put_no hrb.symm)
    clear CB CM CI hrb
    go_enter Tryd.func8, Tryd.ntmps8
    go_wp2_with fail
    rw [← hwa]
    clear hwa
    refine (unhide CO _ B).mono ?_
    rintro e w1 ⟨rfl, b1⟩
    have B1 := B.trans (b1.mono B.size)
    go_wp2_with fail
    go_ret
    exact ⟨ret_dec (unhide HR), B1⟩
  have hk := hrb.symm
  clear hrb
  rw [put_yes hk]
  rcases rec_kind hk with rfl | rfl | rfl
  · have hbt := rec_one hk
    have hs := cat_size hbt
    have HR := hide (text_one zb zl F T)
    have HB := hide (fun W hB => unhide CB W hB hbt)
    generalize (⟨(catT zb).toArray⟩ : ByteArray) = Q at HR HB hs
    have hadd : ∀ W, (Op.stringOp .add ⟨#[65]⟩ Q).run Tryd.prog W = .ok (.string (⟨#[65]⟩ ++ Q)) W := fun W => run_string_add_sum W _ _ (by show 1 + _ ≤ _; omega)
    clear CB CM CI hk hbt hs
    go_enter Tryd.func8, Tryd.ntmps8
    go_wp2_with fail
    rw [← hwa]
    clear hwa
    refine (unhide CO _ B).mono ?_
    rintro e w1 ⟨rfl, b1⟩
    have hz := b1.size
    have A0 := (b1.cell (p := ⟨w.heap.size, 0, none⟩) (by show w.heap.size < _; omega)).trans A0
    have A1 := (b1.cell (p := ⟨w.heap.size, 1, none⟩) (by show w.heap.size < _; omega)).trans A1
    have A2 := (b1.cell (p := ⟨w.heap.size, 2, none⟩) (by show w.heap.size < _; omega)).trans A2
    have A3 := (b1.cell (p := ⟨w.heap.size, 3, none⟩) (by show w.heap.size < _; omega)).trans A3
    have A4 := (b1.cell (p := ⟨w.heap.size, 4, none⟩) (by show w.heap.size < _; omega)).trans A4
    have B1 := B.trans (b1.mono B.size)
    clear b1
    generalize (⟨#[65]⟩ : ByteArray) ++ Q = R at hadd HR
    go_wp2_with fail
    refine (unhide HB _ B1).mono ?_
    rintro e w2 ⟨rfl, b2⟩
    have B2 := B1.trans (b2.mono B1.size)
    go_wp2_with fail
    go_ret
    exact ⟨ret_dec (unhide HR), B2⟩
  · clear CB
    go_enter Tryd.func8, Tryd.ntmps8
    go_wp2_with fail
    rw [← hwa]
    clear hwa
    refine (unhide CO _ B).mono ?_
    rintro e w1 ⟨rfl, b1⟩
    have hz := b1.size
    have A0 := (b1.cell (p := ⟨w.heap.size, 0, none⟩) (by show w.heap.size < _; omega)).trans A0
    have A1 := (b1.cell (p := ⟨w.heap.size, 1, none⟩) (by show w.heap.size < _; omega)).trans A1
    have A2 := (b1.cell (p := ⟨w.heap.size, 2, none⟩) (by show w.heap.size < _; omega)).trans A2
    have A3 := (b1.cell (p := ⟨w.heap.size, 3, none⟩) (by show w.heap.size < _; omega)).trans A3
    have A4 := (b1.cell (p := ⟨w.heap.size, 4, none⟩) (by show w.heap.size < _; omega)).trans A4
    have B1 := B.trans (b1.mono B.size)
    have hz : w.heap.size < w1.heap.size := by omega
    clear b1 CO B
    obtain ⟨p1, p2, p3, p4, p5⟩ := rec_two hk
    have hPs := mput_size p1
    have hFs := ofI_size (n := F) (by omega)
    have hTs := ofI_size (n := T) (by omega)
    have HP := CM
    have HF := hide (fun (Y : World) (h : Below w.heap.size w Y) => unhide CI F Y h p2 (by omega))
    have HT := hide (fun (Y : World) (h : Below w.heap.size w Y) => unhide CI T Y h p4 (by omega))
    have HEq := hide (text_two zb zl F T)
    have HK := hide (fun (X : World) (h : Below w1.heap.size w1 X) => show X.cell? ⟨w.heap.size, 2, none⟩ = some vl ∧ X.cell? ⟨w.heap.size, 3, none⟩ = some (.int .i64 F) ∧ X.cell? ⟨w.heap.size, 4, none⟩ = some (.int .i64 T) from ⟨(h.cell (p := ⟨_, _, none⟩) hz).trans A2, (h.cell (p := ⟨_, _, none⟩) hz).trans A3, (h.cell (p := ⟨_, _, none⟩) hz).trans A4⟩)
    generalize Mat.put zl = P at HP hPs HEq
    generalize ofI F = TT at HF hFs HEq
    generalize ofI T = VV at HT hTs HEq
    obtain ⟨G1, G2, G3, G4, G5, hG5, hz5, s1, s2, s3, s4, s5⟩ := sums (O := ⟨#[68, 32]⟩) (P := P) (T := TT) (V := VV) (by decide) hPs hFs hTs
    have HR := hide (show textR (2, zb, zl, F, T) = G5 by rw [hG5]; exact unhide HEq)
    have eD : Below w1.heap.size w1 w1.drew := (Below.refl _ _).drew
    have HB := hide (fun (Y : World) (h : Below w1.heap.size w1 Y) => B1.trans (h.mono B1.size))
    obtain ⟨d2, d3, d4⟩ := unhide HK _ eD
    clear CM CI HEq hG5 hz5 hPs hFs hTs p1 p2 p3 p4 p5 hk
    go_wp2_with fail
    go_region_with ((first | (go_at_call 20; refine (unhide HP _ (unhide HB _ eD)).mono ?_; rintro e x1 ⟨rfl, y1⟩; have e1 := eD.trans (y1.mono eD.size); obtain ⟨r2, r3, r4⟩ := unhide HK _ e1) | (go_at_call_of 21 F; refine (unhide HF _ (unhide HB _ e1)).mono ?_; rintro e x2 ⟨rfl, y2⟩; have e2 := e1.trans (y2.mono e1.size); obtain ⟨u2, u3, u4⟩ := unhide HK _ e2) | (go_at_call_of 21 T; refine (unhide HT _ (unhide HB _ e2)).mono ?_; rintro e x3 ⟨rfl, y3⟩; have e3 := e2.trans (y3.mono e2.size))))
    all_goals (
      have w3 := unhide HB _ e3
      clear HK HB HP HF HT
      go_wp2_with fail
      go_ret
      exact ⟨ret_dec (unhide HR), w3⟩)
  · obtain ⟨p2, p3⟩ := rec_three hk
    have hs := ofI_size (n := F) (by omega)
    have HR := hide (text_three zb zl F T)
    have HF := hide (fun W hB => unhide CI F W hB p2 (by omega))
    generalize ofI F = Q at HR HF hs
    have hadd : ∀ W, (Op.stringOp .add ⟨#[75, 32]⟩ Q).run Tryd.prog W = .ok (.string (⟨#[75, 32]⟩ ++ Q)) W := fun W => run_string_add_sum W _ _ (by show 2 + _ ≤ _; omega)
    clear CB CM CI hk hs
    go_enter Tryd.func8, Tryd.ntmps8
    go_wp2_with fail
    rw [← hwa]
    clear hwa
    refine (unhide CO _ B).mono ?_
    rintro e w1 ⟨rfl, b1⟩
    have hz := b1.size
    have A0 := (b1.cell (p := ⟨w.heap.size, 0, none⟩) (by show w.heap.size < _; omega)).trans A0
    have A1 := (b1.cell (p := ⟨w.heap.size, 1, none⟩) (by show w.heap.size < _; omega)).trans A1
    have A2 := (b1.cell (p := ⟨w.heap.size, 2, none⟩) (by show w.heap.size < _; omega)).trans A2
    have A3 := (b1.cell (p := ⟨w.heap.size, 3, none⟩) (by show w.heap.size < _; omega)).trans A3
    have A4 := (b1.cell (p := ⟨w.heap.size, 4, none⟩) (by show w.heap.size < _; omega)).trans A4
    have B1 := B.trans (b1.mono B.size)
    clear b1
    generalize (⟨#[75, 32]⟩ : ByteArray) ++ Q = R at hadd HR
    go_wp2_with fail
    refine (unhide HF _ B1).mono ?_
    rintro e w2 ⟨rfl, b2⟩
    have B2 := B1.trans (b2.mono B1.size)
    go_wp2_with fail
    go_ret
    exact ⟨ret_dec (unhide HR), B2⟩
end Go.Proofs.YtamjliaeikoemaaDoor.Rec

/- RecPut of the model, at every record. No condition. -/
namespace Go.Proofs.YtamjliaeikoemaaDoor.Rec
open Go.RowKit Rw PutMath Dec
set_option linter.unusedVariables false
set_option linter.unusedSimpArgs false
attribute [local go_sem ↓] Go.wp_at_zero Go.wp_at_succ
theorem l3m {w : World} {v : Value} {zs : List Mat.E} (h : Mat.Is w v zs) (hk : Mat.ok zs = true) : Calls Tryd.prog 32 #[v] w fun e w' => e = .returned (.string (Mat.put zs)) ∧ Below w.heap.size w w' := by
  have := Mat.l3Matches_any h (Mat.ok_small hk)
  unfold Mat.put
  rw [if_pos hk]
  exact this
theorem l3l {w : World} {v : Value} {zs : List Lab.E} (h : Lab.Is w v zs) (hk : Lab.ok zs = true) : Calls Tryd.prog 34 #[v] w fun e w' => e = .returned (.string (Lab.put zs)) ∧ Below w.heap.size w w' := by
  have := Lab.l3Put_any h (Lab.ok_small hk)
  unfold Lab.put
  rw [if_pos hk]
  exact this
def outT (zs : List Ent.E) (k : Nat) : ByteArray := ⟨(65 :: catT (zs.take k)).toArray⟩
theorem out_zero (zs : List Ent.E) : outT zs 0 = ⟨#[65]⟩ := rfl
theorem out_succ (zs : List Ent.E) (k : Nat) (h : k < zs.length) : outT zs (k + 1) = outT zs k ++ sp ++ Lab.put (Ent.at' zs k).1 ++ sp ++ ofI (Ent.at' zs k).2.1 ++ sp ++ ofI (Ent.at' zs k).2.2 := by
  apply Go.WideShapes.bytes_inj
  unfold outT
  rw [Ent.at_snoc zs k h, catT_snoc]
  unfold entT
  simp only [app_toList, of_toList, List.cons_append, List.append_assoc]
theorem out_size' (zs : List Ent.E) (k : Nat) (h : ∀ x ∈ zs, Ent.entB x = true) (hk : k ≤ 6) : (outT zs k).size ≤ 1435 := by
  have := catT_len (zs := zs.take k) (fun y hy => h y (List.mem_of_mem_take hy))
  rw [List.length_take] at this
  unfold outT
  rw [size_of, List.length_cons]
  omega
theorem out_all (zs : List Ent.E) (zl : List Mat.E) (F T : Int) {k : Nat} (h : k = zs.length) : textR (1, zs, zl, F, T) = outT zs k := by
  have e : textR (1, zs, zl, F, T) = ⟨(65 :: catT zs).toArray⟩ := rfl
  unfold outT
  rw [e, List.take_of_length_le (by omega)]
/-- the sums of an entry's text, the text so far and a space first -/
theorem sums2 {O P T V : ByteArray} (hO : O.size ≤ 10000) (hP : P.size ≤ 200) (hT : T.size ≤ 18) (hV : V.size ≤ 18) : ∃ Z A B C D E : ByteArray, E = O ++ sp ++ P ++ sp ++ T ++ sp ++ V ∧ (∀ W, (Op.stringOp .add O ⟨#[32]⟩).run Tryd.prog W = .ok (.string Z) W) ∧ (∀ W, (Op.stringOp .add Z P).run Tryd.prog W = .ok (.string A) W) ∧ (∀ W, (Op.stringOp .add A ⟨#[32]⟩).run Tryd.prog W = .ok (.string B) W) ∧ (∀ W, (Op.stringOp .add B T).run Tryd.prog W = .ok (.string C) W) ∧ (∀ W, (Op.stringOp .add C ⟨#[32]⟩).run Tryd.prog W = .ok (.string D) W) ∧ (∀ W, (Op.stringOp .add D V).run Tryd.prog W = .ok (.string E) W) := by
  have e : sp.size = 1 := rfl
  refine ⟨O ++ sp, O ++ sp ++ P, O ++ sp ++ P ++ sp, O ++ sp ++ P ++ sp ++ T, O ++ sp ++ P ++ sp ++ T ++ sp, _, rfl, fun W => run_string_add_sum W _ sp (by omega), fun W => run_string_add_sum W _ _ (by simp only [app_size]; omega), fun W => run_string_add_sum W _ sp (by simp only [app_size]; omega), fun W => run_string_add_sum W _ _ (by simp only [app_size]; omega), fun W => run_string_add_sum W _ sp (by simp only [app_size]; omega), fun W => run_string_add_sum W _ _ (by simp only [app_size]; omega)⟩
set_option maxRecDepth 100000 in
set_option maxHeartbeats 8000000 in
theorem spec_text {w : World} {vb vl : Value} {zb : List Ent.E} {zl : List Mat.E} (K F T : Int) (hb : Ent.Is w vb zb) (hl : Mat.Is w vl zl) (hk : recB (K, zb, zl, F, T) = true) :
    Calls Tryd.prog 15 #[.agg #[.int .i64 K, vb, vl, .int .i64 F, .int .i64 T]] w fun e w' => e = .returned (.string (textR (K, zb, zl, F, T))) ∧ Below w.heap.size w w' := by
  have CM := hide (fun W (hB : Below w.heap.size w W) (hz : Mat.ok zl = true) => l3m (hl.below hB) hz)
  have CI := hide (fun (n : Int) W (hB : Below w.heap.size w W) (h0 : 0 ≤ n) (h1 : n ≤ 4294967296) => dec_int (n := n) W h0 h1)
  have HIs := hide hb
  clear hb hl
  obtain ⟨wa, hwa⟩ : ∃ wa, wa = w.alloc (.cells #[.int .i64 K, vb, vl, .int .i64 F, .int .i64 T] 31) := ⟨_, rfl⟩
  have B : Below w.heap.size w wa := by rw [hwa]; exact (Below.refl _ _).alloc (Nat.le_refl _) _
  have za : w.heap.size < wa.heap.size := by rw [hwa]; simp
  have A0 : wa.cell? ⟨w.heap.size, 0, none⟩ = some (.int .i64 K) := by rw [hwa]; simp [go_sem]
  have A1 : wa.cell? ⟨w.heap.size, 1, none⟩ = some vb := by rw [hwa]; simp [go_sem]
  have A2 : wa.cell? ⟨w.heap.size, 2, none⟩ = some vl := by rw [hwa]; simp [go_sem]
  have A3 : wa.cell? ⟨w.heap.size, 3, none⟩ = some (.int .i64 F) := by rw [hwa]; simp [go_sem]
  have A4 : wa.cell? ⟨w.heap.size, 4, none⟩ = some (.int .i64 T) := by rw [hwa]; simp [go_sem]
  rcases rec_kind hk with rfl | rfl | rfl
  rotate_left
  · have CM := hide (fun W hB => unhide CM W hB (rec_two hk).1)
    go_enter Tryd.func15, Tryd.ntmps15
    go_wp2_with fail
    rw [← hwa]
    clear hwa
    have hz := za
    obtain ⟨p1, p2, p3, p4, p5⟩ := rec_two hk
    have hPs := mput_size p1
    have hFs := ofI_size (n := F) (by omega)
    have hTs := ofI_size (n := T) (by omega)
    have HP := CM
    have HF := hide (fun (Y : World) (h : Below w.heap.size w Y) => unhide CI F Y h p2 (by omega))
    have HT := hide (fun (Y : World) (h : Below w.heap.size w Y) => unhide CI T Y h p4 (by omega))
    have HEq := hide (text_two zb zl F T)
    have HK := hide (fun (X : World) (h : Below wa.heap.size wa X) => show X.cell? ⟨w.heap.size, 2, none⟩ = some vl ∧ X.cell? ⟨w.heap.size, 3, none⟩ = some (.int .i64 F) ∧ X.cell? ⟨w.heap.size, 4, none⟩ = some (.int .i64 T) from ⟨(h.cell (p := ⟨_, _, none⟩) hz).trans A2, (h.cell (p := ⟨_, _, none⟩) hz).trans A3, (h.cell (p := ⟨_, _, none⟩) hz).trans A4⟩)
    generalize Mat.put zl = P at HP hPs HEq
    generalize ofI F = TT at HF hFs HEq
    generalize ofI T = VV at HT hTs HEq
    obtain ⟨G1, G2, G3, G4, G5, hG5, hz5, s1, s2, s3, s4, s5⟩ := sums (O := ⟨#[68, 32]⟩) (P := P) (T := TT) (V := VV) (by decide) hPs hFs hTs
    have HR := hide (show textR (2, zb, zl, F, T) = G5 by rw [hG5]; exact unhide HEq)
    have eD : Below wa.heap.size wa wa.drew := (Below.refl _ _).drew
    have HB := hide (fun (Y : World) (h : Below wa.heap.size wa Y) => B.trans (h.mono B.size))
    obtain ⟨d2, d3, d4⟩ := unhide HK _ eD
    clear CM CI HEq hG5 hz5 hPs hFs hTs p1 p2 p3 p4 p5 hk
    go_region_with ((first | (go_at_call 32; refine (unhide HP _ (unhide HB _ eD)).mono ?_; rintro e x1 ⟨rfl, y1⟩; have e1 := eD.trans (y1.mono eD.size); obtain ⟨r2, r3, r4⟩ := unhide HK _ e1) | (go_at_call_of 33 F; refine (unhide HF _ (unhide HB _ e1)).mono ?_; rintro e x2 ⟨rfl, y2⟩; have e2 := e1.trans (y2.mono e1.size); obtain ⟨u2, u3, u4⟩ := unhide HK _ e2) | (go_at_call_of 33 T; refine (unhide HT _ (unhide HB _ e2)).mono ?_; rintro e x3 ⟨rfl, y3⟩; have e3 := e2.trans (y3.mono e2.size))))
    all_goals (
      have w3 := unhide HB _ e3
      clear HK HB HP HF HT
      go_wp2_with fail
      go_ret
      exact ⟨ret_dec (unhide HR), w3⟩)
  · obtain ⟨p2, p3⟩ := rec_three hk
    have hs := ofI_size (n := F) (by omega)
    have HR := hide (text_three zb zl F T)
    have HF := hide (fun W hB => unhide CI F W hB p2 (by omega))
    generalize ofI F = Q at HR HF hs
    have hadd : ∀ W, (Op.stringOp .add ⟨#[75, 32]⟩ Q).run Tryd.prog W = .ok (.string (⟨#[75, 32]⟩ ++ Q)) W := fun W => run_string_add_sum W _ _ (by show 2 + _ ≤ _; omega)
    clear CM CI hk hs
    generalize (⟨#[75, 32]⟩ : ByteArray) ++ Q = R at hadd HR
    go_enter Tryd.func15, Tryd.ntmps15
    go_wp2_with fail
    rw [← hwa]
    clear hwa
    refine (unhide HF _ B).mono ?_
    rintro e w2 ⟨rfl, b2⟩
    have B2 := B.trans (b2.mono B.size)
    go_wp2_with fail
    go_ret
    exact ⟨ret_dec (unhide HR), B2⟩
  obtain ⟨hEa, -, hL6⟩ := batch_parts (rec_one hk)
  obtain ⟨cs, hcs, hL, hEl⟩ := unhide HIs
  obtain ⟨-, a, cap, rfl, hc, hm, -, hr⟩ := hL
  unfold maxLen at hm
  obtain ⟨n, hn⟩ : ∃ n, n = zb.length := ⟨_, rfl⟩
  rw [← hn] at hc hr hL6 hwa A1 ⊢
  have HN := hide hn
  have HEA := hide hEa
  have HEL := hide hEl
  clear hn hEa hEl hk CM HIs
  have HK0 := hide (fun (X : World) (h : Below wa.heap.size wa X) => show X.cell? ⟨w.heap.size, 1, none⟩ = some (.slice a n cap) from (h.cell (p := ⟨_, _, none⟩) za).trans A1)
  go_enter Tryd.func15, Tryd.ntmps15
  go_wp2_with fail
  rw [← hwa]
  clear hwa
  go_loopw [3, 4] (fun ov i wr => ∃ (k : Nat) (O : ByteArray), k ≤ n ∧ i = .int .i64 (k : Int) ∧ ov = .string O ∧ Hid (outT zb k = O) ∧ Below wa.heap.size wa wr) (fun _ i _ => n - (intOf i).toNat)
  case atStart => exact ⟨0, _, Nat.zero_le _, rfl, rfl, hide (out_zero zb), Below.refl _ _⟩
  case round =>
    obtain ⟨k, O, hk, rfl, rfl, HO, hbel⟩ := hrel
    have A1 := unhide HK0 _ hbel
    have B2 := B.trans (hbel.mono B.size)
    have hsz := B2.size
    have hk0 : (0 : Int) ≤ (k : Int) := Int.natCast_nonneg _
    by_cases hlt : k < n
    · have hkz : k < zb.length := by rw [← unhide HN]; exact hlt
      obtain ⟨b, off, rfl, hl, hcells⟩ := hr (by omega)
      obtain ⟨f1, f2, f3⟩ : (flatOf Ent.cl cs)[k * 3]? = some (Ent.cat cs k).1 ∧ (flatOf Ent.cl cs)[k * 3 + 1]? = some (Ent.cat cs k).2.1 ∧ (flatOf Ent.cl cs)[k * 3 + 2]? = some (Ent.cat cs k).2.2 := Ent.flat_at cs k (by omega)
      obtain ⟨g1, g2, g3⟩ := unhide HEL k hkz
      have c0 : wr.cell? ⟨b, off + k * 3, none⟩ = some (Ent.cat cs k).1 := (B2.cell (p := ⟨b, _, none⟩) hl).trans (hcells (k * 3) _ f1)
      have c1 : wr.cell? ⟨b, off + k * 3 + 1, none⟩ = some (Ent.cat cs k).2.1 := (B2.cell (p := ⟨b, _, none⟩) hl).trans (hcells (k * 3 + 1) _ f2)
      have c2 : wr.cell? ⟨b, off + k * 3 + 2, none⟩ = some (Ent.cat cs k).2.2 := (B2.cell (p := ⟨b, _, none⟩) hl).trans (hcells (k * 3 + 2) _ f3)
      obtain ⟨la, ln, lq, hla⟩ : ∃ a n q, (Ent.cat cs k).1 = .slice a n q := by obtain ⟨-, a, q, e, -⟩ := id g1; exact ⟨a, _, q, e⟩
      have hEk := unhide HEA (Ent.at' zb k) (Ent.at_mem zb k hkz)
      obtain ⟨p1, p2, p3, p4, p5⟩ := entB_parts hEk
      have HPS := hide (out_succ zb k hkz)
      have hOs := out_size' zb k (unhide HEA) (by omega)
      rw [unhide HO] at hOs HPS
      obtain ⟨X, hX⟩ : ∃ X, X = Ent.at' zb k := ⟨_, rfl⟩
      rw [← hX] at g1 g2 g3 hEk p1 p2 p3 p4 p5 HPS
      obtain ⟨ls, P1, P2⟩ := X
      dsimp only at g1 g2 g3 p1 p2 p3 p4 p5 HPS
      rw [hla] at g1 c0
      rw [g2] at c1
      rw [g3] at c2
      obtain ⟨W1, hW1⟩ : ∃ W, wr.alloc (.cells #[.slice la ln lq, .int .i64 P1, .int .i64 P2] 62) = W := ⟨_, rfl⟩
      have bW : Below wr.heap.size wr W1 := by rw [← hW1]; exact (Below.refl _ _).alloc (Nat.le_refl _) _
      have zW : wr.heap.size < W1.heap.size := by rw [← hW1]; simp
      have q0 : W1.cell? ⟨wr.heap.size, 0, none⟩ = some (.slice la ln lq) := by rw [← hW1]; simp [go_sem]
      have q1 : W1.cell? ⟨wr.heap.size, 1, none⟩ = some (.int .i64 P1) := by rw [← hW1]; simp [go_sem]
      have q2 : W1.cell? ⟨wr.heap.size, 2, none⟩ = some (.int .i64 P2) := by rw [← hW1]; simp [go_sem]
      have HK := hide (fun (X : World) (h : Below W1.heap.size W1 X) => show X.cell? ⟨wr.heap.size, 0, none⟩ = some (.slice la ln lq) ∧ X.cell? ⟨wr.heap.size, 1, none⟩ = some (.int .i64 P1) ∧ X.cell? ⟨wr.heap.size, 2, none⟩ = some (.int .i64 P2) from ⟨(h.cell (p := ⟨_, _, none⟩) zW).trans q0, (h.cell (p := ⟨_, _, none⟩) zW).trans q1, (h.cell (p := ⟨_, _, none⟩) zW).trans q2⟩)
      have hw1 := B2.trans (bW.mono hsz)
      have eD : Below W1.heap.size W1 W1.drew := (Below.refl _ _).drew
      have HP := hide (fun (Y : World) (h : Below W1.heap.size W1 Y) => l3l (g1.below (hw1.trans (h.mono hw1.size))) p1)
      have HT := hide (fun (Y : World) (h : Below W1.heap.size W1 Y) => dec_int (n := P1) Y p2 (by omega))
      have HV := hide (fun (Y : World) (h : Below W1.heap.size W1 Y) => dec_int (n := P2) Y p4 (by omega))
      have hPs := put_size p1
      have hTs := ofI_size (n := P1) (by omega)
      have hVs := ofI_size (n := P2) (by omega)
      generalize Lab.put ls = P at HP hPs HPS
      generalize ofI P1 = TT at HT hTs HPS
      generalize ofI P2 = VV at HV hVs HPS
      obtain ⟨G0, G1, G2, G3, G4, G5, hG5, s0, s1, s2, s3, s4, s5⟩ := sums2 (O := O) (P := P) (T := TT) (V := VV) (by omega) hPs hTs hVs
      rw [← hG5] at HPS
      have hbW := hbel.trans (bW.mono hbel.size)
      obtain ⟨d0, d1, d2⟩ := unhide HK _ eD
      have hk1 : (k : Int) < (n : Int) := by omega
      clear f1 f2 f3 g1 g2 g3 hX hla hEk p1 p2 p3 p4 p5 hG5 bW
      go_wp2_with fail
      clear hW1
      go_region_with ((first | (go_at_call 34; refine (unhide HP _ eD).mono ?_; rintro e w1 ⟨rfl, b1⟩; have e1 := eD.trans (b1.mono eD.size); obtain ⟨r0, r1, r2⟩ := unhide HK _ e1) | (go_at_call_of 33 P1; refine (unhide HT _ e1).mono ?_; rintro e w2 ⟨rfl, b2⟩; have e2 := e1.trans (b2.mono e1.size); obtain ⟨u0, u1, u2⟩ := unhide HK _ e2) | (go_at_call_of 33 P2; refine (unhide HV _ e2).mono ?_; rintro e w3 ⟨rfl, b3⟩; have e3 := e2.trans (b3.mono e2.size))))
      all_goals (
        have w4' := hbW.trans (e3.mono hbW.size)
        clear HP HT HV HK
        go_wp2_with fail
        go_roundw
        case rel => exact ⟨k + 1, _, by omega, by go_num, rfl, HPS, w4'⟩
        case measure => simp [intOf]; omega)
    · obtain rfl : k = n := by omega
      have hkf : decide ((k : Int) < (k : Int)) = false := by simp
      have HR := hide ((out_all zb zl F T (unhide HN)).trans (unhide HO))
      go_wp2_with fail
      go_ret
      exact ⟨ret_dec (unhide HR), B2⟩
set_option maxRecDepth 100000 in
set_option maxHeartbeats 8000000 in
theorem spec_put {w : World} {vb vl : Value} {zb : List Ent.E} {zl : List Mat.E} (K F T : Int) (hb : Ent.Is w vb zb) (hl : Mat.Is w vl zl) (gb : ∀ y ∈ zb, Ent.good y) (gl : ∀ y ∈ zl, Mat.good y) (ll : zl.length ≤ maxLen) :
    Calls Tryd.prog 6 #[.agg #[.int .i64 K, vb, vl, .int .i64 F, .int .i64 T]] w fun e w' => e = .returned (.string (put (K, zb, zl, F, T))) ∧ Below w.heap.size w w' := by
  have CO := hide (fun W (hB : Below w.heap.size w W) => spec_ok K F T (hb.below hB) (hl.below hB) gb gl ll)
  have CT := hide (fun W (hB : Below w.heap.size w W) h => spec_text K F T (hb.below hB) (hl.below hB) h)
  clear hb hl gb gl ll
  obtain ⟨rb, hrb⟩ : ∃ rb, rb = recB (K, zb, zl, F, T) := ⟨_, rfl⟩
  rw [← hrb] at CO CT
  obtain ⟨wa, hwa⟩ : ∃ wa, wa = w.alloc (.cells #[.int .i64 K, vb, vl, .int .i64 F, .int .i64 T] 31) := ⟨_, rfl⟩
  have B : Below w.heap.size w wa := by rw [hwa]; exact (Below.refl _ _).alloc (Nat.le_refl _) _
  have za : w.heap.size < wa.heap.size := by rw [hwa]; simp
  have A0 : wa.cell? ⟨w.heap.size, 0, none⟩ = some (.int .i64 K) := by rw [hwa]; simp [go_sem]
  have A1 : wa.cell? ⟨w.heap.size, 1, none⟩ = some vb := by rw [hwa]; simp [go_sem]
  have A2 : wa.cell? ⟨w.heap.size, 2, none⟩ = some vl := by rw [hwa]; simp [go_sem]
  have A3 : wa.cell? ⟨w.heap.size, 3, none⟩ = some (.int .i64 F) := by rw [hwa]; simp [go_sem]
  have A4 : wa.cell? ⟨w.heap.size, 4, none⟩ = some (.int .i64 T) := by rw [hwa]; simp [go_sem]
  cases rb
  · have HR := hide (put_no hrb.symm)
    clear CT hrb
    go_enter Tryd.func6, Tryd.ntmps6
    go_wp2_with fail
    rw [← hwa]
    clear hwa
    refine (unhide CO _ B).mono ?_
    rintro e w1 ⟨rfl, b1⟩
    have B1 := B.trans (b1.mono B.size)
    go_wp2_with fail
    go_ret
    exact ⟨ret_dec (unhide HR), B1⟩
  · have HR := hide (put_yes hrb.symm)
    have CT2 := hide (fun (W : World) (hB : Below w.heap.size w W) => unhide CT W hB rfl)
    clear hrb CT
    go_enter Tryd.func6, Tryd.ntmps6
    go_wp2_with fail
    rw [← hwa]
    clear hwa
    refine (unhide CO _ B).mono ?_
    rintro e w1 ⟨rfl, b1⟩
    have hz := b1.size
    have A0 := (b1.cell (p := ⟨w.heap.size, 0, none⟩) (by show w.heap.size < _; omega)).trans A0
    have A1 := (b1.cell (p := ⟨w.heap.size, 1, none⟩) (by show w.heap.size < _; omega)).trans A1
    have A2 := (b1.cell (p := ⟨w.heap.size, 2, none⟩) (by show w.heap.size < _; omega)).trans A2
    have A3 := (b1.cell (p := ⟨w.heap.size, 3, none⟩) (by show w.heap.size < _; omega)).trans A3
    have A4 := (b1.cell (p := ⟨w.heap.size, 4, none⟩) (by show w.heap.size < _; omega)).trans A4
    have B1 := B.trans (b1.mono B.size)
    clear b1
    go_wp2_with fail
    refine (unhide CT2 _ B1).mono ?_
    rintro e w2 ⟨rfl, b2⟩
    have B2 := B1.trans (b2.mono B1.size)
    go_wp2_with fail
    go_ret
    exact ⟨ret_dec (unhide HR), B2⟩
end Go.Proofs.YtamjliaeikoemaaDoor.Rec
