/- The model's cut of a text at each byte. No condition but the text's length. -/
import Derived.Test.YtkmoekbicbjdmaaDoorCutText
import Derived.Test.YtkmoekbicbjdmaaDoorLabPut2
import Derived.Test.YtkmoekbicbjdmaaDoorDrawList
namespace Go.Proofs.YtkmoekbicbjdmaaDoor.Lab
open Go.RowKit Rw PutMath CutText
set_option linter.unusedVariables false
attribute [local go_sem ↓] Go.wp_at_zero Go.wp_at_succ
theorem ext_list (s : ByteArray) (f k : Nat) : (s.extract f k).data.toList = (s.data.toList.drop f).take (k - f) := by
  rw [ByteArray.data_extract, Array.toList_extract]
theorem ext_eq (s : ByteArray) (f k : Nat) : s.extract f k = ⟨((s.data.toList.drop f).take (k - f)).toArray⟩ := by
  apply Go.WideShapes.bytes_inj
  rw [ext_list, of_toList]
def CutRel (b : UInt8) (s : ByteArray) (f k : Nat) (L : List ByteArray) : Prop := cutL b s.data.toList = L.map (·.data.toList) ++ pre ((s.data.toList.drop f).take (k - f)) (cutL b (s.data.toList.drop k))
theorem cut_start (b : UInt8) (s : ByteArray) : CutRel b s 0 0 [] := by
  unfold CutRel
  simp [pre_nil (cutL_ne b _)]
theorem byte_at (s : ByteArray) (k : Nat) (h : k < s.size) : s.data.toList.drop k = s[k] :: s.data.toList.drop (k + 1) := by
  rw [List.drop_eq_getElem_cons (by simpa using h)]; rfl
theorem cut_hit {b : UInt8} {s : ByteArray} {f k : Nat} {L : List ByteArray} (h : CutRel b s f k L) (hk : k < s.size) (e : s[k] = b) : CutRel b s (k + 1) (k + 1) (L ++ [s.extract f k]) := by
  unfold CutRel at h ⊢
  rw [h, byte_at s k hk, e, cutL_eq, Nat.sub_self, List.take_zero, pre_nil (cutL_ne b _), List.map_append, List.append_assoc, List.map_cons, List.map_nil, ext_list]
  simp [pre]
theorem cut_pass {b : UInt8} {s : ByteArray} {f k : Nat} {L : List ByteArray} (h : CutRel b s f k L) (hf : f ≤ k) (hk : k < s.size) (e : s[k] ≠ b) : CutRel b s f (k + 1) L := by
  unfold CutRel at h ⊢
  have hl : k < s.data.toList.length := by simpa using hk
  have e2 : (s.data.toList.drop f).take (k + 1 - f) = (s.data.toList.drop f).take (k - f) ++ [s[k]] := by
    rw [show k + 1 - f = (k - f) + 1 by omega, List.take_succ_eq_append_getElem (by rw [List.length_drop]; omega)]
    congr 2
    rw [List.getElem_drop]
    have e3 : f + (k - f) = k := by omega
    simp only [e3]
    rfl
  rw [h, byte_at s k hk, cutL_ne' e, pre_pre, e2]
theorem cut_end {b : UInt8} {s : ByteArray} {f : Nat} {L : List ByteArray} (h : CutRel b s f s.size L) : cutB b s = L ++ [s.extract f s.size] := by
  unfold CutRel at h
  have hl : s.data.toList.length = s.size := Array.length_toList
  have e0 : s.data.toList.drop s.size = [] := List.drop_eq_nil_of_le (by omega)
  rw [e0] at h
  unfold cutB
  rw [h, List.map_append, List.map_map]
  simp only [cutL, pre, List.append_nil, List.map_cons, List.map_nil]
  rw [← ext_eq]
  congr 1
  conv => rhs; rw [← List.map_id L]
  exact List.map_congr_left (fun p _ => Go.WideShapes.bytes_inj (of_toList _))
set_option maxRecDepth 100000 in
set_option maxHeartbeats 4000000 in
theorem l3Cut_any (s : ByteArray) (b : UInt8) (c : Int) (hc : c = (b.toNat : Int)) (w : World) (hs : s.size ≤ 4194304) :
    Calls Tryd.prog 46 #[.string s, .int .u8 c] w fun e w' => ∃ v, e = .returned v ∧ w'.ownsRow w.heap.size 9 1 v (cutB b s).length (flatS (cutB b s)) ∧ Below w.heap.size w w' := by
  obtain ⟨i0, hi, hz0, hz1, hz2⟩ := info_parts info_str
  subst hc
  have HNil := hide (Draw.own_new (w := w) (cs := #[]) (t := 9) (n := 0) (size := 1) (base := w.heap.size) rfl rfl (Nat.zero_le _) (Nat.le_refl _))
  have H0 := hide (cut_start b s)
  go_enter Tryd.func46, Tryd.ntmps46
  go_wp2_with fail
  go_loopw [5, 6, 7] (fun ov fv i wr => ∃ (k f q : Nat) (L : List ByteArray) (a : Option Addr), k ≤ s.size ∧ f ≤ k ∧ L.length ≤ k ∧ fv = .int .i64 f ∧ i = .int .i64 k ∧ ov = .slice a L.length q ∧ wr.ownsRow w.heap.size 9 1 (.slice a L.length q) L.length (flatS L) ∧ Hid (CutRel b s f k L) ∧ Below w.heap.size w wr) (fun _ _ i _ => s.size - (intOf i).toNat)
  case atStart => exact ⟨0, 0, 0, [], _, Nat.zero_le _, Nat.zero_le _, Nat.zero_le _, rfl, rfl, rfl, unhide HNil, unhide H0, (Below.refl _ _).alloc (Nat.le_refl _) _⟩
  case round =>
    obtain ⟨k, f, q, L, a, hk, hf, hL, rfl, rfl, rfl, hown, HR, hbel⟩ := hrel
    clear HNil H0
    have hsz := hbel.size
    have hk0 : (0 : Int) ≤ (k : Int) := Int.natCast_nonneg _
    have hf0 : (0 : Int) ≤ (f : Int) := Int.natCast_nonneg _
    have hmx : 1 ≤ maxLen := by unfold maxLen; omega
    by_cases hlt : k < s.size
    · by_cases hx : s[k] = b
      · have HC := hide (cut_hit (unhide HR) hlt hx)
        have hq1 : ((s[k].toNat : Int) == (b.toNat : Int)) = true := by rw [hx]; simp
        have hq2 : s[k].toNat = b.toNat := by rw [hx]
        have hfk : (f : Int) ≤ (k : Int) := by omega
        clear hx
        go_wp2_with (at_builtin; refine app_wp _ rfl _ _ _ rfl w.heap.size 9 i0 _ 1 16 Tryd.underlying45 hi hz0 hz1 hz2 rfl (by omega) _ L.length _ rfl (hown.alloc _) _ 1 [.string (s.extract f k)] rfl (lies_new (by simp) rfl hmx) (by simp [Value.oneCell']) (by unfold maxLen; omega) (by omega) (by simp; omega) ?_; intro vn wn on gn an)
        have R9 : Below w.heap.size w wn := below_grown (hbel.alloc hsz _) (by simp; omega) gn (own_ge hown)
        have hle : (L ++ [s.extract f k]).length = L.length + 1 := by simp
        have on2 : wn.ownsRow w.heap.size 9 1 vn (L ++ [s.extract f k]).length (flatS (L ++ [s.extract f k])) := by rw [hle, flatS_append]; exact on
        obtain ⟨an', cn, hvn⟩ : ∃ a c, vn = .slice a (L ++ [s.extract f k]).length c := by obtain ⟨-, a, c, e, -⟩ := lies_of_own on2; exact ⟨a, c, e⟩
        have R2 := hide on2
        have HV := hide hvn
        have hle' : (L ++ [s.extract f k]).length ≤ k + 1 := by omega
        obtain ⟨L', hL'⟩ : ∃ L', L' = L ++ [s.extract f k] := ⟨_, rfl⟩
        rw [← hL'] at R2 HV HC hle'
        clear on on2 gn an hown hvn hle hL' HR
        go_wp2_with fail
        go_roundw
        case rel => exact ⟨k + 1, k + 1, cn, L', an', by omega, Nat.le_refl _, hle', by go_num, by go_num, unhide HV, by rw [← unhide HV]; exact unhide R2, unhide HC, R9⟩
        case measure => simp [intOf]; omega
      · have HC := hide (cut_pass (unhide HR) hf hlt hx)
        have hne : s[k].toNat ≠ b.toNat := fun e => hx (UInt8.toNat_inj.1 e)
        have hq1 : ((s[k].toNat : Int) == (b.toNat : Int)) = false := beq_eq_false_iff_ne.2 (by omega)
        have hq2 : (s[k].toNat == b.toNat) = false := by simpa using hne
        have hq3 : decide (s[k].toNat = b.toNat) = false := by simpa using hne
        clear hx hne
        go_wp2_with fail
        go_roundw
        case rel => exact ⟨k + 1, f, q, L, a, by omega, by omega, by omega, rfl, by go_num, rfl, hown, unhide HC, hbel⟩
        case measure => simp [intOf]; omega
    · obtain rfl : k = s.size := by omega
      have hge : decide ((s.size : Int) < (s.size : Int)) = false := by simp
      have HE := hide (cut_end (unhide HR))
      have hfk : (f : Int) ≤ (s.size : Int) := by omega
      go_wp2_with (at_builtin; refine app_wp _ rfl _ _ _ rfl w.heap.size 9 i0 _ 1 16 Tryd.underlying45 hi hz0 hz1 hz2 rfl (by omega) _ L.length _ rfl (hown.alloc _) _ 1 [.string (s.extract f s.size)] rfl (lies_new (by simp) rfl hmx) (by simp [Value.oneCell']) (by unfold maxLen; omega) (by omega) (by simp; omega) ?_; intro vn wn on gn an)
      have R9 : Below w.heap.size w wn := below_grown (hbel.alloc hsz _) (by simp; omega) gn (own_ge hown)
      have R2 := hide (show wn.ownsRow w.heap.size 9 1 vn (cutB b s).length (flatS (cutB b s)) by rw [unhide HE, flatS_append, List.length_append]; exact on)
      clear on gn an hown HE HR
      go_wp2_with fail
      go_ret
      exact ⟨_, rfl, unhide R2, R9⟩
end Go.Proofs.YtkmoekbicbjdmaaDoor.Lab
