/- My own texts of one claim, laid together by program: DecWalk, BuildW, LabPut2, MatPut2. -/
import Derived.Test.YtamjliaeikoemaaDoorGc7665411e8
import Derived.Test.YtamjliaeikoemaaDoorG6d502a06d1
import Derived.Test.YtamjliaeikoemaaDoorG32791d0450
import Derived.Test.YtamjliaeikoemaaDoorShelf
import Derived.Lib.AppendIntMem
/- Numbers in decimals: l1Dec of the model, strconv.Itoa. What the second asks: the library's table of powers of ten as its text lays it. -/
namespace Go.Proofs.YtamjliaeikoemaaDoor.Dec
open Go.RowKit Rw PutMath
set_option linter.unusedVariables false
attribute [local go_sem ↓] Go.wp_at_zero Go.wp_at_succ
def Tb (w : World) : Prop := Lib.TabIs Tryd.prog w "internal/strconv.uint64pow10" .u64 Lib.pow10Tab
theorem Tb.below {w w' : World} (h : Tb w) (hb : Below w.heap.size w w') : Tb w' := Lib.tabBelow_of_tabIs h w' hb
theorem itoa_any (n : Nat) (w : World) (h : n ≤ 9223372036854775807) (ht : Tb w) : Calls Tryd.prog 21 #[.int .i64 (n : Int)] w fun e w' => e = .returned (.string (decB n)) ∧ Below w.heap.size w w' :=
  (Tryd.strconv_Itoa (n : Int) (by omega) (by omega) w ht).mono fun e w' ⟨h1, k, os, h2⟩ => ⟨by rw [h1, dec_itoa], by rw [h2]; exact Lib.below_grow _ _ (Nat.le_refl _) k os⟩
theorem wrap_u8 (n : Nat) (h : n < 10) : IntKind.u8.wrap (48 + (n : Int)) = 48 + (n : Int) := by
  rcases (show n = 0 ∨ n = 1 ∨ n = 2 ∨ n = 3 ∨ n = 4 ∨ n = 5 ∨ n = 6 ∨ n = 7 ∨ n = 8 ∨ n = 9 from by omega) with h | h | h | h | h | h | h | h | h | h <;> subst h <;> rfl
theorem byte_of {n : Nat} (h : n < 10) : ((UInt8.ofNat (48 + n)).toNat : Int) = 48 + (n : Int) := by
  rcases (show n = 0 ∨ n = 1 ∨ n = 2 ∨ n = 3 ∨ n = 4 ∨ n = 5 ∨ n = 6 ∨ n = 7 ∨ n = 8 ∨ n = 9 from by omega) with h | h | h | h | h | h | h | h | h | h <;> subst h <;> rfl
theorem conv_at (c : UInt8) (n : Nat) (e : (c.toNat : Int) = 48 + (n : Int)) (X : World) (B : Nat) (hc : X.cell? ⟨B, 0, none⟩ = some (.int .u8 (48 + (n : Int)))) : (convert 69 9 (.slice (some ⟨B, 0, none⟩) 1 1)).run Tryd.prog X = .ok (.string ⟨#[c]⟩) X := by
  refine run_convert_bytes_back (P := Tryd.prog) X 69 9 5 ⟨B, 0, none⟩ 1 [c] Tryd.underlying69 Tryd.underlying5 Tryd.underlying9 (fun j hj => ?_)
  obtain rfl : j = 0 := by simpa using hj
  simp only [List.getElem_cons_zero, e]
  exact hc
theorem ret_dec {a b : ByteArray} (h : b = a) : Ending.returned (.string a) = Ending.returned (.string b) := by rw [h]
set_option maxRecDepth 100000 in
set_option maxHeartbeats 4000000 in
theorem l1Dec_any : ∀ (f n : Nat), n ≤ f → n < 1000000000000000000 → ∀ w : World, Calls Tryd.prog 33 #[.int .i64 (n : Int)] w fun e w' => e = .returned (.string (decB n)) ∧ Below w.heap.size w w' := by
  intro f
  induction f with
  | zero =>
    intro n hn hb w
    obtain rfl : n = 0 := by omega
    obtain ⟨c, hc⟩ : ∃ c, c = UInt8.ofNat (48 + 0) := ⟨_, rfl⟩
    have HD := hide (dec_one (n := 0) (by omega))
    rw [← hc] at HD
    have hcv := fun X B => conv_at c 0 (by rw [hc]; exact byte_of (by omega)) X B
    clear hc
    go_enter Tryd.func33, Tryd.ntmps33
    go_wp2_with fail
    go_ret
    exact ⟨ret_dec (unhide HD), (Below.refl _ _).alloc (Nat.le_refl _) _⟩
  | succ f ih =>
    intro n hn hb w
    have n0 : decide ((n : Int) < 0) = false := by simp
    have n1 : decide ((n : Int) < -9223372036854775807) = false := decide_eq_false (by omega)
    by_cases h1 : n < 10
    · have HD := hide (dec_one h1)
      obtain ⟨c, hc⟩ : ∃ c, c = UInt8.ofNat (48 + n) := ⟨_, rfl⟩
      rw [← hc] at HD
      have hcv := fun X B => conv_at c n (by rw [hc]; exact byte_of h1) X B
      have n2 : (n : Int) < 10 := by omega
      have n3 : IntKind.i64.wrap (48 + (n : Int)) = 48 + (n : Int) := Grl.wrap_ok (by omega) (by omega)
      have n4 := wrap_u8 n h1
      clear ih hc
      go_enter Tryd.func33, Tryd.ntmps33
      go_wp2_with fail
      go_ret
      exact ⟨ret_dec (unhide HD), (Below.refl _ _).alloc (Nat.le_refl _) _⟩
    · have HD := hide (dec_step h1)
      obtain ⟨q, hq⟩ : ∃ q, q = n / 10 := ⟨_, rfl⟩
      obtain ⟨d, hd⟩ : ∃ d, d = n % 10 := ⟨_, rfl⟩
      have hd9 : d < 10 := by omega
      obtain ⟨c, hc⟩ : ∃ c, c = UInt8.ofNat (48 + d) := ⟨_, rfl⟩
      have hcv := fun X B => conv_at c d (by rw [hc]; exact byte_of hd9) X B
      have n2 : decide ((n : Int) < 10) = false := by simp; omega
      have q1 : (n : Int) / 10 = (q : Int) := by omega
      have q2 : (n : Int).tdiv 10 = (q : Int) := by rw [hq]; rfl
      have d1 : (n : Int) % 10 = (d : Int) := by omega
      have d2 : (n : Int).tmod 10 = (d : Int) := by rw [hd]; rfl
      have n3 : IntKind.i64.wrap (48 + (d : Int)) = 48 + (d : Int) := Grl.wrap_ok (by omega) (by omega)
      have n4 := wrap_u8 d hd9
      have n5 : IntKind.i64.wrap (q : Int) = (q : Int) := Grl.wrap_ok (by omega) (by omega)
      have n6 : IntKind.i64.wrap (d : Int) = (d : Int) := Grl.wrap_ok (by omega) (by omega)
      have HI := hide (fun W => ih q (by omega) (by omega) W)
      have hsz := dec_small (n := q) (by omega)
      have hadd : ∀ W, (Op.stringOp .add (decB q) ⟨#[c]⟩).run Tryd.prog W = .ok (.string (decB q ++ ⟨#[c]⟩)) W := fun W => run_string_add_sum W _ _ (by show _ + 1 ≤ _; omega)
      rw [← hq, ← hd, ← hc] at HD
      generalize decB q = Q at HI HD hadd
      clear ih hq hd hsz hc
      go_enter Tryd.func33, Tryd.ntmps33
      go_wp2_with fail
      go_region_with ((go_at_call 33; refine (unhide HI _).mono ?_; rintro e w2 ⟨rfl, b2⟩; have hk := fun (o : Nat) h => b2.cell (p := ⟨w.heap.size, o, none⟩) h))
      all_goals (go_wp2_with fail; go_ret; refine ⟨ret_dec (unhide HD), ?_⟩)
      all_goals first | (exact ((((Below.refl _ _).drew).alloc (by simp) _).trans (b2.mono (by simp)))) | (exact ((((Below.refl _ _).drew).trans (b2.mono (by simp))).alloc (by have := b2.size; simp at this; omega) _))
end Go.Proofs.YtamjliaeikoemaaDoor.Dec

/- strings.Builder's WriteString at this program, out of what strings.Join's laying holds. No condition but Go's own limit. -/
namespace Go.Proofs.YtamjliaeikoemaaDoor.Bld
open Go.RowKit Go.Lib
abbrev IsB (B b : Nat) (bs : List Value) (w : World) : Prop := Lib.IsBuilder 71 5 B b bs w
theorem write_any (B b : Nat) (bs : List Value) (s : ByteArray) (w : World) (h : IsB B b bs w) (hlen : bs.length + s.size ≤ 140737488355328) (hBw : B ≤ w.heap.size) :
    Calls Tryd.prog 41 #[.pointer (some ⟨b, 0, none⟩), .string s] w fun e w' => e = .returned (.tuple #[.int .i64 s.size, .nilIface]) ∧ (Lib.BuilderAt 71 5 B b (.pointer (some ⟨b, 0, none⟩)) (bs ++ Lib.strCells s) w' ∧ Below B w w') :=
  Any.Builder_WriteString { Tryd.lays156 with } Tryd.Builder_Extra_156 B b bs s w h hlen hBw
end Go.Proofs.YtamjliaeikoemaaDoor.Bld

/- LabelsPut of the model, at every slice of labels. -/
namespace Go.Proofs.YtamjliaeikoemaaDoor.Lab
open Go.RowKit Rw PutMath
set_option linter.unusedVariables false
attribute [local go_sem ↓] Go.wp_at_zero Go.wp_at_succ
set_option maxRecDepth 100000 in
set_option maxHeartbeats 4000000 in
theorem l3Put_any {w : World} {v : Value} {zs : List E} (h : Is w v zs) (hsm : small zs) : Calls Tryd.prog 34 #[v] w fun e w' => e = .returned (.string (wrap 123 125 (parts zs))) ∧ Below w.heap.size w w' := by
  obtain ⟨-, a, cap, rfl, hc, hm, -, hr⟩ := h
  unfold maxLen at hm
  obtain ⟨n, hn⟩ : ∃ n, n = zs.length := ⟨_, rfl⟩
  have hn2 : n ≤ 1000 := by rw [hn]; exact hsm.1
  rw [← hn] at hc hr ⊢
  have HN := hide hn
  have HSM := hide hsm
  clear hn hsm
  obtain ⟨R, hR⟩ : ∃ R, R = wrap 123 125 (parts zs) := ⟨_, rfl⟩
  rw [← hR]
  have HR := hide hR
  clear hR
  have H0 := hide (out_first 123)
  go_enter Tryd.func34, Tryd.ntmps34
  go_wp2_with fail
  go_loopw [3, 4] (fun ov i wr => ∃ (k : Nat) (O : ByteArray), k ≤ n ∧ i = .int .i64 k ∧ ov = .string O ∧ O = out 123 (parts (zs.take k)) ∧ Below w.heap.size w wr) (fun _ i _ => n - (intOf i).toNat)
  case atStart => exact ⟨0, _, Nat.zero_le _, rfl, rfl, (unhide H0).symm, Below.refl _ _⟩
  case round =>
    obtain ⟨k, O, hk, rfl, rfl, hO, hbel⟩ := hrel
    have hsz := hbel.size
    have hk0 : (0 : Int) ≤ (k : Int) := Int.natCast_nonneg _
    have JS := join_small (unhide HSM) k
    have hOs : O.size ≤ 2002001 := by rw [hO, out_size]; omega
    have HO := hide hO
    clear hO JS
    by_cases hlt : k < n
    · obtain ⟨b, off, rfl, hl, hcells⟩ := hr (by omega)
      have fa := flat_at zs k (by have := unhide HN; omega)
      have gd := (unhide HSM).2 (at' zs k) (by rw [at_get zs k (by have := unhide HN; omega)]; exact List.getElem_mem _)
      have HPS := parts_snoc zs k (by have := unhide HN; omega)
      obtain ⟨A, B, hX⟩ : ∃ A B, (A, B) = at' zs k := ⟨_, _, rfl⟩
      rw [← hX] at fa gd HPS
      simp only at gd
      have hb1 : b < wr.heap.size := by omega
      have q0 : ∀ x : Cls wr.heap.size wr, x.val.cell? ⟨b, off + k * 2, none⟩ = some (.string A) := fun x => by rw [x.cell hb1]; exact (hbel.cell (p := ⟨b, _, none⟩) hl).trans (hcells (k * 2) _ fa.1)
      have q1 : ∀ x : Cls wr.heap.size wr, x.val.cell? ⟨b, off + k * 2 + 1, none⟩ = some (.string B) := fun x => by rw [x.cell hb1]; exact (hbel.cell (p := ⟨b, _, none⟩) hl).trans (hcells (k * 2 + 1) _ fa.2)
      have hne := cls_nonempty wr.heap.size wr
      have e61 : (⟨#[61]⟩ : ByteArray).size = 1 := rfl
      have e44 : (⟨#[44]⟩ : ByteArray).size = 1 := rfl
      have hk1 : (k : Int) < (n : Int) := by omega
      have lenk : (parts (zs.take k)).length = k := by rw [parts_length, List.length_take]; have := unhide HN; omega
      have adds : ∀ q : ByteArray, q.size ≤ 2002002 → (if (parts (zs.take k)).length = 0 then out 123 (parts (zs.take k)) else out 123 (parts (zs.take k)) ++ ⟨#[44]⟩) = q → ∃ P1 P2 P3, P3 = out 123 (parts (zs.take (k + 1))) ∧ (∀ W, (Op.stringOp .add q A).run Tryd.prog W = .ok (.string P1) W) ∧ (∀ W, (Op.stringOp .add P1 ⟨#[61]⟩).run Tryd.prog W = .ok (.string P2) W) ∧ (∀ W, (Op.stringOp .add P2 B).run Tryd.prog W = .ok (.string P3) W) := by
        intro q hq he
        refine ⟨q ++ A, q ++ A ++ ⟨#[61]⟩, q ++ A ++ ⟨#[61]⟩ ++ B, ?_, fun W => run_string_add_sum W _ _ (by omega), fun W => run_string_add_sum W _ _ (by rw [app_size, e61]; omega), fun W => run_string_add_sum W _ _ (by rw [app_size, app_size, e61]; omega)⟩
        rw [HPS, ← out_next 123 (parts (zs.take k)) (partOf (A, B)) q he]
        unfold partOf
        rw [app_assoc, app_assoc, app_assoc]
      by_cases hk00 : k = 0
      · obtain ⟨P1, P2, P3, hP3, s1, s2, s3⟩ := adds O (by omega) (by rw [if_pos (by omega), unhide HO])
        have HP3 := hide hP3
        have hd : decide ((0 : Int) < (k : Int)) = false := by simp; omega
        have hd2 : decide (0 < k) = false := by simp; omega
        clear hP3 adds HPS gd fa hX hk00 lenk
        go_wp2_with fail
        refine region_cls (by kernel_rfl) (by kernel_rfl) ?_
        repeat (go_big_quiet_step (fail))
        refine wpQuiet_nil ?_
        rintro wq ⟨⟨_, hq⟩, rfl⟩
        go_wp2
        go_roundw
        case rel => exact ⟨k + 1, P3, by omega, by go_num, rfl, unhide HP3, hbel.trans (hq.mono hsz)⟩
        case measure => simp [intOf]; omega
      · obtain ⟨P1, P2, P3, hP3, s1, s2, s3⟩ := adds (O ++ ⟨#[44]⟩) (by rw [app_size, e44]; omega) (by rw [if_neg (by omega), unhide HO])
        have s0 : ∀ W, (Op.stringOp .add O ⟨#[44]⟩).run Tryd.prog W = .ok (.string (O ++ ⟨#[44]⟩)) W := fun W => run_string_add_sum W _ _ (by rw [e44]; omega)
        generalize O ++ ⟨#[44]⟩ = O1 at s0 s1
        have HP3 := hide hP3
        have hd : (0 : Int) < (k : Int) := by omega
        clear hP3 adds HPS gd fa hX hk00 lenk
        go_wp2_with fail
        refine region_cls (by kernel_rfl) (by kernel_rfl) ?_
        repeat (go_big_quiet_step (fail))
        refine wpQuiet_nil ?_
        rintro wq ⟨⟨_, hq⟩, rfl⟩
        go_wp2
        go_roundw
        case rel => exact ⟨k + 1, P3, by omega, by go_num, rfl, unhide HP3, hbel.trans (hq.mono hsz)⟩
        case measure => simp [intOf]; omega
    · obtain rfl : k = n := by omega
      have e125 : (⟨#[125]⟩ : ByteArray).size = 1 := rfl
      have s0 : ∀ W, (Op.stringOp .add O ⟨#[125]⟩).run Tryd.prog W = .ok (.string R) W := fun W => by
        rw [run_string_add_sum W _ _ (by rw [e125]; omega), unhide HR, unhide HO, List.take_of_length_le (by have := unhide HN; omega), wrap_out]
      go_wp2_with fail
      go_ret
      exact ⟨rfl, hbel⟩
end Go.Proofs.YtamjliaeikoemaaDoor.Lab

/- MatchesPut of the model, at every slice of matches. -/
namespace Go.Proofs.YtamjliaeikoemaaDoor.Mat
open Go.RowKit Rw PutMath
set_option linter.unusedVariables false
attribute [local go_sem ↓] Go.wp_at_zero Go.wp_at_succ
set_option maxRecDepth 100000 in
set_option maxHeartbeats 4000000 in
theorem l3Matches_any {w : World} {v : Value} {zs : List E} (h : Is w v zs) (hsm : small zs) : Calls Tryd.prog 32 #[v] w fun e w' => e = .returned (.string (wrap 91 93 (parts zs))) ∧ Below w.heap.size w w' := by
  obtain ⟨-, a, cap, rfl, hc, hm, -, hr⟩ := h
  unfold maxLen at hm
  obtain ⟨n, hn⟩ : ∃ n, n = zs.length := ⟨_, rfl⟩
  have hn2 : n ≤ 1000 := by rw [hn]; exact hsm.1
  rw [← hn] at hc hr ⊢
  have HN := hide hn
  have HSM := hide hsm
  clear hn hsm
  obtain ⟨R, hR⟩ : ∃ R, R = wrap 91 93 (parts zs) := ⟨_, rfl⟩
  rw [← hR]
  have HR := hide hR
  clear hR
  have H0 := hide (out_first 91)
  go_enter Tryd.func32, Tryd.ntmps32
  go_wp2_with fail
  go_loopw [3, 4] (fun ov i wr => ∃ (k : Nat) (O : ByteArray), k ≤ n ∧ i = .int .i64 k ∧ ov = .string O ∧ O = out 91 (parts (zs.take k)) ∧ Below w.heap.size w wr) (fun _ i _ => n - (intOf i).toNat)
  case atStart => exact ⟨0, _, Nat.zero_le _, rfl, rfl, (unhide H0).symm, Below.refl _ _⟩
  case round =>
    obtain ⟨k, O, hk, rfl, rfl, hO, hbel⟩ := hrel
    have hsz := hbel.size
    have hk0 : (0 : Int) ≤ (k : Int) := Int.natCast_nonneg _
    have JS := join_small (unhide HSM) k
    have hOs : O.size ≤ 2002001 := by rw [hO, out_size]; omega
    have HO := hide hO
    clear hO JS
    by_cases hlt : k < n
    · obtain ⟨b, off, rfl, hl, hcells⟩ := hr (by omega)
      have fa := flat_at zs k (by have := unhide HN; omega)
      have gd := (unhide HSM).2 (at' zs k) (by rw [at_get zs k (by have := unhide HN; omega)]; exact List.getElem_mem _)
      have HPS := parts_snoc zs k (by have := unhide HN; omega)
      obtain ⟨K, A, B, hX⟩ : ∃ K A B, (K, A, B) = at' zs k := ⟨_, _, _, rfl⟩
      rw [← hX] at fa gd HPS
      simp only at gd
      have hb1 : b < wr.heap.size := by omega
      have q0 : ∀ x : Cls wr.heap.size wr, x.val.cell? ⟨b, off + k * 3, none⟩ = some (.int .i64 K) := fun x => by rw [x.cell hb1]; exact (hbel.cell (p := ⟨b, _, none⟩) hl).trans (hcells (k * 3) _ fa.1)
      have q1 : ∀ x : Cls wr.heap.size wr, x.val.cell? ⟨b, off + k * 3 + 1, none⟩ = some (.string A) := fun x => by rw [x.cell hb1]; exact (hbel.cell (p := ⟨b, _, none⟩) hl).trans (hcells (k * 3 + 1) _ fa.2.1)
      have q2 : ∀ x : Cls wr.heap.size wr, x.val.cell? ⟨b, off + k * 3 + 2, none⟩ = some (.string B) := fun x => by rw [x.cell hb1]; exact (hbel.cell (p := ⟨b, _, none⟩) hl).trans (hcells (k * 3 + 2) _ fa.2.2)
      have HSg := hide (fun W => l3Sign_any K W gd.1 gd.2.1)
      have ss := sign_size K
      have hne := cls_nonempty wr.heap.size wr
      have e44 : (⟨#[44]⟩ : ByteArray).size = 1 := rfl
      have hk1 : (k : Int) < (n : Int) := by omega
      have lenk : (parts (zs.take k)).length = k := by rw [parts_length, List.length_take]; have := unhide HN; omega
      have adds : ∀ q : ByteArray, q.size ≤ 2002002 → (if (parts (zs.take k)).length = 0 then out 91 (parts (zs.take k)) else out 91 (parts (zs.take k)) ++ ⟨#[44]⟩) = q → ∃ P1 P2 P3, P3 = out 91 (parts (zs.take (k + 1))) ∧ (∀ W, (Op.stringOp .add q A).run Tryd.prog W = .ok (.string P1) W) ∧ (∀ W, (Op.stringOp .add P1 (signB K)).run Tryd.prog W = .ok (.string P2) W) ∧ (∀ W, (Op.stringOp .add P2 B).run Tryd.prog W = .ok (.string P3) W) := by
        intro q hq he
        refine ⟨q ++ A, q ++ A ++ signB K, q ++ A ++ signB K ++ B, ?_, fun W => run_string_add_sum W _ _ (by omega), fun W => run_string_add_sum W _ _ (by rw [app_size, ss]; omega), fun W => run_string_add_sum W _ _ (by rw [app_size, app_size, ss]; omega)⟩
        rw [HPS, ← out_next 91 (parts (zs.take k)) (partOf (K, A, B)) q he]
        unfold partOf
        rw [app_assoc, app_assoc, app_assoc]
      by_cases hk00 : k = 0
      · obtain ⟨P1, P2, P3, hP3, s1, s2, s3⟩ := adds O (by omega) (by rw [if_pos (by omega), unhide HO])
        have HP3 := hide hP3
        have hd : decide ((0 : Int) < (k : Int)) = false := by simp; omega
        have hd2 : decide (0 < k) = false := by simp; omega
        generalize signB K = SG at s2 HSg
        clear hP3 adds HPS gd fa hX hk00 lenk ss
        go_wp2_with fail
        refine region_cls (by kernel_rfl) (by kernel_rfl) ?_
        repeat (go_big_quiet_step ((go_at_call 56; exact cls_call (Nat.le_refl _) (unhide HSg _))))
        refine wpQuiet_nil ?_
        rintro wq ⟨⟨_, hq⟩, rfl⟩
        go_wp2
        go_roundw
        case rel => exact ⟨k + 1, P3, by omega, by go_num, rfl, unhide HP3, hbel.trans (hq.mono hsz)⟩
        case measure => simp [intOf]; omega
      · obtain ⟨P1, P2, P3, hP3, s1, s2, s3⟩ := adds (O ++ ⟨#[44]⟩) (by rw [app_size, e44]; omega) (by rw [if_neg (by omega), unhide HO])
        have s0 : ∀ W, (Op.stringOp .add O ⟨#[44]⟩).run Tryd.prog W = .ok (.string (O ++ ⟨#[44]⟩)) W := fun W => run_string_add_sum W _ _ (by rw [e44]; omega)
        generalize O ++ ⟨#[44]⟩ = O1 at s0 s1
        have HP3 := hide hP3
        have hd : (0 : Int) < (k : Int) := by omega
        generalize signB K = SG at s2 HSg
        clear hP3 adds HPS gd fa hX hk00 lenk ss
        go_wp2_with fail
        refine region_cls (by kernel_rfl) (by kernel_rfl) ?_
        repeat (go_big_quiet_step ((go_at_call 56; exact cls_call (Nat.le_refl _) (unhide HSg _))))
        refine wpQuiet_nil ?_
        rintro wq ⟨⟨_, hq⟩, rfl⟩
        go_wp2
        go_roundw
        case rel => exact ⟨k + 1, P3, by omega, by go_num, rfl, unhide HP3, hbel.trans (hq.mono hsz)⟩
        case measure => simp [intOf]; omega
    · obtain rfl : k = n := by omega
      have e93 : (⟨#[93]⟩ : ByteArray).size = 1 := rfl
      have s0 : ∀ W, (Op.stringOp .add O ⟨#[93]⟩).run Tryd.prog W = .ok (.string R) W := fun W => by
        rw [run_string_add_sum W _ _ (by rw [e93]; omega), unhide HR, unhide HO, List.take_of_length_le (by have := unhide HN; omega), wrap_out]
      go_wp2_with fail
      go_ret
      exact ⟨rfl, hbel⟩
end Go.Proofs.YtamjliaeikoemaaDoor.Mat
