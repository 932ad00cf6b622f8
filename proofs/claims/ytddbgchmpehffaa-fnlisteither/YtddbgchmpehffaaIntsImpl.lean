/- ListBoth, ListEither, ListLess of the program; l4Has, ListBoth and ListLess of the model. -/
import Derived.Test.YtddbgchmpehffaaIntsMerge
namespace Go.Proofs.Ytddbgchmpehffaa.Ints
open Go.RowKit ListMath Rw
set_option linter.unusedVariables false
attribute [local go_sem ↓] Go.wp_at_zero Go.wp_at_succ
theorem inBoth_any (p q : Bool) (W : World) : Calls Try.prog 30 #[.bool p, .bool q] W fun e w' => e = .returned (.bool (both p q)) ∧ w' = W := by
  cases p <;> cases q <;> (go_enter Try.func30, Try.ntmps30; go_wp2; go_ret; exact ⟨rfl, rfl⟩)
theorem inEither_any (p q : Bool) (W : World) : Calls Try.prog 32 #[.bool p, .bool q] W fun e w' => e = .returned (.bool (either p q)) ∧ w' = W := by
  cases p <;> cases q <;> (go_enter Try.func32, Try.ntmps32; go_wp2; go_ret; exact ⟨rfl, rfl⟩)
theorem inFirst_any (p q : Bool) (W : World) : Calls Try.prog 34 #[.bool p, .bool q] W fun e w' => e = .returned (.bool (first p q)) ∧ w' = W := by
  cases p <;> cases q <;> (go_enter Try.func34, Try.ntmps34; go_wp2; go_ret; exact ⟨rfl, rfl⟩)
set_option maxHeartbeats 1000000 in
theorem listMerge_any {w : World} {v u : Value} {zs ys : List Int} (k : Bool → Bool → Bool) (g : Nat) (eg : ∀ args w, (callFunc g args).run Try.prog w = .ok (.enter g args) w)
    (HK : Hid (∀ p q W, Calls Try.prog g #[.bool p, .bool q] W fun e w' => e = .returned (.bool (k p q)) ∧ w' = W)) (h : Is w v zs) (h' : Is w u ys) (hn : zs.length ≤ 4194304) (hm : ys.length ≤ 4194304) :
    Calls Try.prog 29 #[v, u, .func (.func g) #[] #[]] w fun e w' => ∃ r, e = .returned r ∧ w'.ownsRow w.heap.size 3 1 r (res k zs ys).length (flat (res k zs ys)) ∧ Below w.heap.size w w' := by
  have H1 := hide (impl_ok h)
  have H2 := hide (impl_ok h')
  have H3 := hide (merge_any k g eg HK h h' hn hm)
  clear h h' HK eg
  cases ho : ok zs
  · have HR := hide (show res k zs ys = [] from res_bad (.inl ho))
    have HO := hide ho
    clear ho
    go_enter Try.func29, Try.ntmps29
    go_wp2_with fail
    refine (unhide H1).mono ?_
    rintro e w1 ⟨rfl, hw⟩
    subst hw
    rw [unhide HO]
    go_wp2_with fail
    go_ret
    exact ⟨_, rfl, by rw [unhide HR]; exact World.ownsRow_nil _ _ _ _, Below.refl _ _⟩
  · cases ho' : ok ys
    · have HR := hide (show res k zs ys = [] from res_bad (.inr ho'))
      have HO := hide ho
      have HO' := hide ho'
      clear ho ho'
      go_enter Try.func29, Try.ntmps29
      go_wp2_with fail
      refine (unhide H1).mono ?_
      rintro e w1 ⟨rfl, hw⟩
      subst hw
      rw [unhide HO]
      go_wp2_with fail
      refine (unhide H2).mono ?_
      rintro e w1 ⟨rfl, hw⟩
      subst hw
      rw [unhide HO']
      go_wp2_with fail
      go_ret
      exact ⟨_, rfl, by rw [unhide HR]; exact World.ownsRow_nil _ _ _ _, Below.refl _ _⟩
    · have HR := hide (show res k zs ys = merge k zs ys from res_ok ho ho')
      have HO := hide ho
      have HO' := hide ho'
      clear ho ho'
      go_enter Try.func29, Try.ntmps29
      go_wp2_with fail
      refine (unhide H1).mono ?_
      rintro e w1 ⟨rfl, hw⟩
      subst hw
      rw [unhide HO]
      go_wp2_with fail
      refine (unhide H2).mono ?_
      rintro e w1 ⟨rfl, hw⟩
      subst hw
      rw [unhide HO']
      go_wp2_with fail
      refine (unhide H3).mono ?_
      rintro e w1 ⟨r, rfl, o, b⟩
      go_wp2_with fail
      go_ret
      exact ⟨_, rfl, by rw [unhide HR]; exact o, b⟩
abbrev Gives (f : Nat) (k : Bool → Bool → Bool) : Prop := ∀ {w : World} {v u : Value} {zs ys : List Int}, Is w v zs → Is w u ys → zs.length ≤ 4194304 → ys.length ≤ 4194304 →
    Calls Try.prog f #[v, u] w fun e w' => ∃ r, e = .returned r ∧ w'.ownsRow w.heap.size 3 1 r (res k zs ys).length (flat (res k zs ys)) ∧ Below w.heap.size w w'
theorem impl_both : Gives 11 both := by
  intro w v u zs ys h h' hn hm
  have H := hide (listMerge_any both 30 (enters_of Try.func30 (by kernel_rfl) rfl) inBoth_any h h' hn hm)
  clear h h'
  go_enter Try.func11, Try.ntmps11
  go_wp2_with fail
  refine (unhide H).mono ?_
  rintro e w1 ⟨r, rfl, o, b⟩
  go_wp2_with fail
  go_ret
  exact ⟨_, rfl, o, b⟩
theorem impl_either : Gives 18 either := by
  intro w v u zs ys h h' hn hm
  have H := hide (listMerge_any either 32 (enters_of Try.func32 (by kernel_rfl) rfl) inEither_any h h' hn hm)
  clear h h'
  go_enter Try.func18, Try.ntmps18
  go_wp2_with fail
  refine (unhide H).mono ?_
  rintro e w1 ⟨r, rfl, o, b⟩
  go_wp2_with fail
  go_ret
  exact ⟨_, rfl, o, b⟩
theorem impl_less : Gives 21 first := by
  intro w v u zs ys h h' hn hm
  have H := hide (listMerge_any first 34 (enters_of Try.func34 (by kernel_rfl) rfl) inFirst_any h h' hn hm)
  clear h h'
  go_enter Try.func21, Try.ntmps21
  go_wp2_with fail
  refine (unhide H).mono ?_
  rintro e w1 ⟨r, rfl, o, b⟩
  go_wp2_with fail
  go_ret
  exact ⟨_, rfl, o, b⟩
theorem has_succ (zs : List Int) (x : Int) (k : Nat) (hk : k < zs.length) (h : has (zs.take k) x = false) (hx : at' zs k ≠ x) : has (zs.take (k + 1)) x = false := by
  rw [at_snoc zs k hk]
  simp only [has_iff, decide_eq_false_iff_not, List.mem_append, List.mem_singleton, not_or] at h ⊢
  exact ⟨h, fun e => hx e.symm⟩
theorem has_hit (zs : List Int) (x : Int) (k : Nat) (hk : k < zs.length) (hx : at' zs k = x) : has zs x = true := by
  simp only [has_iff, decide_eq_true_eq]
  have e : at' zs k = zs[k] := by simp [at', List.getD, hk]
  rw [← hx, e]
  exact List.getElem_mem hk
set_option maxHeartbeats 1000000 in
/-- the loop that looks for a number, of the model and of the laws -/
theorem l4Has_any {w : World} {v : Value} {zs : List Int} (x : Int) (h : Is w v zs) : Calls Try.prog 31 #[v, .int .i64 x] w fun e w' => e = .returned (.bool (has zs x)) ∧ w' = w := by
  obtain ⟨-, a, cap, rfl, hc, hm, -, hr⟩ := h
  unfold maxLen at hm
  obtain ⟨n, hn⟩ : ∃ n, n = zs.length := ⟨_, rfl⟩
  rw [← hn] at hc hr ⊢
  have HN := hide hn
  clear hn
  go_enter Try.func31, Try.ntmps31
  go_wp2
  go_loop [5] (fun i => ∃ k : Nat, k ≤ n ∧ i = .int .i64 k ∧ has (zs.take k) x = false) (fun i => n - (intOf i).toNat)
  case atStart => exact ⟨0, Nat.zero_le _, rfl, rfl⟩
  case round =>
    obtain ⟨k, hk, rfl, hno⟩ := hrel
    have HO := hide hno
    clear hno
    by_cases hlt : k < n
    · obtain ⟨b, off, rfl, hl, hcells⟩ := hr (by omega)
      have hk0 : (0 : Int) ≤ (k : Int) := Int.natCast_nonneg _
      have hk1 : (k : Int) < (n : Int) := by omega
      have hc0 := hcells k _ (flat_get zs k (by have := unhide HN; omega))
      obtain ⟨X, hX⟩ : ∃ X, X = at' zs k := ⟨_, rfl⟩
      rw [← hX] at hc0
      have HX := hide hX
      clear hX
      by_cases he : X = x
      · have HF := hide (has_hit zs x k (by have := unhide HN; omega) (by rw [← unhide HX]; exact he))
        subst he
        go_wp2
        go_ret
        exact ⟨ret_bool (unhide HF).symm, rfl⟩
      · have HF := hide (has_succ zs x k (by have := unhide HN; omega) (unhide HO) (by rw [← unhide HX]; exact he))
        have hb : (X == x) = false := by simpa using he
        go_wp2
        go_round
        case rel => exact ⟨k + 1, by omega, by go_num, unhide HF⟩
        case measure => simp [intOf]; omega
    · go_wp2
      go_ret
      refine ⟨ret_bool ?_, rfl⟩
      have := unhide HO
      rw [List.take_of_length_le (by have := unhide HN; omega)] at this
      exact this.symm
theorem filter_snoc (zs : List Int) (f : Int → Bool) (k : Nat) (h : k < zs.length) : (zs.take (k + 1)).filter f = (zs.take k).filter f ++ one (f (at' zs k)) (at' zs k) := by
  rw [at_snoc zs k h, List.filter_append]
  cases hh : f (at' zs k) <;> simp [hh, one]
theorem filter_take_le (zs : List Int) (f : Int → Bool) (k : Nat) : ((zs.take k).filter f).length ≤ k := by
  have h1 := List.length_filter_le f (zs.take k)
  have h2 := List.length_take_le k zs
  omega
set_option maxRecDepth 100000 in
set_option maxHeartbeats 2000000 in
theorem spec_both : Gives 13 both := by
  intro w v u zs ys h h' hn hm
  obtain ⟨i0, hi, hz0, hz1, hz2⟩ := info_parts info_int
  have H1 := hide (fun W (hb : Below w.heap.size w W) => spec_ok (h.below hb))
  have H2 := hide (fun W (hb : Below w.heap.size w W) => spec_ok (h'.below hb))
  have H3 := hide (fun x W (hb : Below w.heap.size w W) => l4Has_any x (h'.below hb))
  clear h'
  obtain ⟨-, a, cap, rfl, hc, hcm, -, hr⟩ := h
  unfold maxLen at hcm
  obtain ⟨n, hnn⟩ : ∃ n, n = zs.length := ⟨_, rfl⟩
  rw [← hnn] at hc hr hn H1 ⊢
  have HN := hide hnn
  clear hnn
  cases ho : ok zs
  · have HR := hide (show res both zs ys = [] from res_bad (.inl ho))
    have HO := hide ho
    clear ho
    go_enter Try.func13, Try.ntmps13
    go_wp2_with fail
    refine (unhide H1 _ ((Below.refl _ _).alloc (Nat.le_refl _) _)).mono ?_
    rintro e w1 ⟨rfl, b1⟩
    rw [unhide HO]
    have c1 := ((Below.refl _ _).alloc (Nat.le_refl w.heap.size) (.cells #[] 3)).trans (b1.mono (by simp))
    go_wp2_with fail
    go_ret
    exact ⟨_, rfl, by rw [unhide HR]; exact own_below (own_empty (Nat.le_refl _)) b1, c1⟩
  · cases ho' : ok ys
    · have HR := hide (show res both zs ys = [] from res_bad (.inr ho'))
      have HO := hide ho
      have HO' := hide ho'
      clear ho ho'
      go_enter Try.func13, Try.ntmps13
      go_wp2_with fail
      refine (unhide H1 _ ((Below.refl _ _).alloc (Nat.le_refl _) _)).mono ?_
      rintro e w1 ⟨rfl, b1⟩
      rw [unhide HO]
      have c1 := ((Below.refl _ _).alloc (Nat.le_refl w.heap.size) (.cells #[] 3)).trans (b1.mono (by simp))
      go_wp2_with fail
      refine (unhide H2 _ c1).mono ?_
      rintro e w2 ⟨rfl, b2⟩
      rw [unhide HO']
      have c2 := c1.trans (b2.mono c1.size)
      go_wp2_with fail
      go_ret
      exact ⟨_, rfl, by rw [unhide HR]; exact own_below (own_below (own_empty (Nat.le_refl _)) b1) b2, c2⟩
    · have HR := hide (show res both zs ys = zs.filter (fun x => has ys x) by rw [res_ok ho ho']; exact merge_both (ok_up ho) (ok_up ho'))
      have HO := hide ho
      have HO' := hide ho'
      clear ho ho'
      go_enter Try.func13, Try.ntmps13
      go_wp2_with fail
      refine (unhide H1 _ ((Below.refl _ _).alloc (Nat.le_refl _) _)).mono ?_
      rintro e w1 ⟨rfl, b1⟩
      rw [unhide HO]
      have c1 := ((Below.refl _ _).alloc (Nat.le_refl w.heap.size) (.cells #[] 3)).trans (b1.mono (by simp))
      go_wp2_with fail
      refine (unhide H2 _ c1).mono ?_
      rintro e w2 ⟨rfl, b2⟩
      rw [unhide HO']
      have c2 := c1.trans (b2.mono c1.size)
      have o2 := own_below (own_below (own_empty (w := w) (e := 3) (size := 1) (Nat.le_refl _)) b1) b2
      clear b1 b2 c1
      go_wp2_with fail
      go_loopw [5, 6] (fun v i wr => ∃ k : Nat, k ≤ n ∧ i = .int .i64 k ∧ wr.ownsRow w.heap.size 3 1 v ((zs.take k).filter (fun x => has ys x)).length (flat ((zs.take k).filter (fun x => has ys x))) ∧ Below w.heap.size w wr) (fun _ i _ => n - (intOf i).toNat)
      case atStart => exact ⟨0, Nat.zero_le _, rfl, o2, c2⟩
      case round =>
        clear o2 c2
        obtain ⟨k, hk, rfl, hown, hbel⟩ := hrel
        have hsz := hbel.size
        by_cases hlt : k < n
        · have hle := filter_take_le zs (fun x => has ys x) k
          have HC := hide (filter_snoc zs (fun x => has ys x) k (by have := unhide HN; omega))
          obtain ⟨b, off, rfl, hl, hcells⟩ := hr (by omega)
          have hk0 : (0 : Int) ≤ (k : Int) := Int.natCast_nonneg _
          have hk1 : (k : Int) < (n : Int) := by omega
          have hc0 : wr.cell? ⟨b, off + k, none⟩ = some (.int .i64 (at' zs k)) := (hbel.cell (p := ⟨b, _, none⟩) hl).trans (hcells k _ (flat_get zs k (by have := unhide HN; omega)))
          obtain ⟨X, hX⟩ : ∃ X, X = at' zs k := ⟨_, rfl⟩
          rw [← hX] at hc0 HC
          clear hX
          have H3' := hide (unhide H3 X _ hbel)
          generalize (zs.take k).filter (fun x => has ys x) = L at hown hle HC
          cases hx : has ys X
          · have HX := hide hx
            have HL := hide (show (zs.take (k + 1)).filter (fun x => has ys x) = L ++ one false X by rw [unhide HC, unhide HX] <;> rfl)
            clear hx HC
            go_wp2_with fail
            refine (unhide H3').mono ?_
            rintro e w3 ⟨rfl, hw3⟩
            subst hw3
            rw [unhide HX]
            go_wp2_with fail
            go_roundw
            case rel => exact ⟨k + 1, by omega, by go_num, by rw [unhide HL]; simpa [one] using hown, hbel⟩
            case measure => simp [intOf]; omega
          · have HX := hide hx
            have HL := hide (show (zs.take (k + 1)).filter (fun x => has ys x) = L ++ one true X by rw [unhide HC, unhide HX] <;> rfl)
            clear hx HC
            go_wp2_with fail
            refine (unhide H3').mono ?_
            rintro e w3 ⟨rfl, hw3⟩
            subst hw3
            rw [unhide HX]
            go_wp2_with (at_builtin; refine app_wp _ rfl _ _ _ rfl w.heap.size 3 i0 _ 1 8 Try.underlying23 hi hz0 hz1 hz2 rfl (by omega) _ L.length _ rfl (hown.alloc _) _ 1 [.int .i64 X] rfl (lies_new rfl rfl (by unfold maxLen; omega)) (by simp [Value.oneCell']) (by unfold maxLen; omega) (by omega) (by simp; omega) ?_; intro vn wn on gn an)
            have R9 := below_grown (hbel.alloc hsz _) (by simp; omega) gn (own_ge hown)
            have R2 : wn.ownsRow w.heap.size 3 1 vn ((zs.take (k + 1)).filter (fun x => has ys x)).length (flat ((zs.take (k + 1)).filter (fun x => has ys x))) := by rw [unhide HL, show one true X = [X] from rfl, flat_append, List.length_append]; exact on
            clear on gn an hown
            go_wp2_with fail
            go_roundw
            case rel => exact ⟨k + 1, by omega, by go_num, R2, R9⟩
            case measure => simp [intOf]; omega
        · go_wp2_with fail
          go_ret
          exact ⟨_, rfl, by rw [unhide HR]; rw [List.take_of_length_le (by have := unhide HN; omega)] at hown; exact hown, hbel⟩
set_option maxRecDepth 100000 in
set_option maxHeartbeats 2000000 in
theorem spec_less : Gives 22 first := by
  intro w v u zs ys h h' hn hm
  obtain ⟨i0, hi, hz0, hz1, hz2⟩ := info_parts info_int
  have H1 := hide (fun W (hb : Below w.heap.size w W) => spec_ok (h.below hb))
  have H2 := hide (fun W (hb : Below w.heap.size w W) => spec_ok (h'.below hb))
  have H3 := hide (fun x W (hb : Below w.heap.size w W) => l4Has_any x (h'.below hb))
  clear h'
  obtain ⟨-, a, cap, rfl, hc, hcm, -, hr⟩ := h
  unfold maxLen at hcm
  obtain ⟨n, hnn⟩ : ∃ n, n = zs.length := ⟨_, rfl⟩
  rw [← hnn] at hc hr hn H1 ⊢
  have HN := hide hnn
  clear hnn
  cases ho : ok zs
  · have HR := hide (show res first zs ys = [] from res_bad (.inl ho))
    have HO := hide ho
    clear ho
    go_enter Try.func22, Try.ntmps22
    go_wp2_with fail
    refine (unhide H1 _ ((Below.refl _ _).alloc (Nat.le_refl _) _)).mono ?_
    rintro e w1 ⟨rfl, b1⟩
    rw [unhide HO]
    have c1 := ((Below.refl _ _).alloc (Nat.le_refl w.heap.size) (.cells #[] 3)).trans (b1.mono (by simp))
    go_wp2_with fail
    go_ret
    exact ⟨_, rfl, by rw [unhide HR]; exact own_below (own_empty (Nat.le_refl _)) b1, c1⟩
  · cases ho' : ok ys
    · have HR := hide (show res first zs ys = [] from res_bad (.inr ho'))
      have HO := hide ho
      have HO' := hide ho'
      clear ho ho'
      go_enter Try.func22, Try.ntmps22
      go_wp2_with fail
      refine (unhide H1 _ ((Below.refl _ _).alloc (Nat.le_refl _) _)).mono ?_
      rintro e w1 ⟨rfl, b1⟩
      rw [unhide HO]
      have c1 := ((Below.refl _ _).alloc (Nat.le_refl w.heap.size) (.cells #[] 3)).trans (b1.mono (by simp))
      go_wp2_with fail
      refine (unhide H2 _ c1).mono ?_
      rintro e w2 ⟨rfl, b2⟩
      rw [unhide HO']
      have c2 := c1.trans (b2.mono c1.size)
      go_wp2_with fail
      go_ret
      exact ⟨_, rfl, by rw [unhide HR]; exact own_below (own_below (own_empty (Nat.le_refl _)) b1) b2, c2⟩
    · have HR := hide (show res first zs ys = zs.filter (fun x => !has ys x) by rw [res_ok ho ho']; exact merge_first (ok_up ho) (ok_up ho'))
      have HO := hide ho
      have HO' := hide ho'
      clear ho ho'
      go_enter Try.func22, Try.ntmps22
      go_wp2_with fail
      refine (unhide H1 _ ((Below.refl _ _).alloc (Nat.le_refl _) _)).mono ?_
      rintro e w1 ⟨rfl, b1⟩
      rw [unhide HO]
      have c1 := ((Below.refl _ _).alloc (Nat.le_refl w.heap.size) (.cells #[] 3)).trans (b1.mono (by simp))
      go_wp2_with fail
      refine (unhide H2 _ c1).mono ?_
      rintro e w2 ⟨rfl, b2⟩
      rw [unhide HO']
      have c2 := c1.trans (b2.mono c1.size)
      have o2 := own_below (own_below (own_empty (w := w) (e := 3) (size := 1) (Nat.le_refl _)) b1) b2
      clear b1 b2 c1
      go_wp2_with fail
      go_loopw [5, 6] (fun v i wr => ∃ k : Nat, k ≤ n ∧ i = .int .i64 k ∧ wr.ownsRow w.heap.size 3 1 v ((zs.take k).filter (fun x => !has ys x)).length (flat ((zs.take k).filter (fun x => !has ys x))) ∧ Below w.heap.size w wr) (fun _ i _ => n - (intOf i).toNat)
      case atStart => exact ⟨0, Nat.zero_le _, rfl, o2, c2⟩
      case round =>
        clear o2 c2
        obtain ⟨k, hk, rfl, hown, hbel⟩ := hrel
        have hsz := hbel.size
        by_cases hlt : k < n
        · have hle := filter_take_le zs (fun x => !has ys x) k
          have HC := hide (filter_snoc zs (fun x => !has ys x) k (by have := unhide HN; omega))
          obtain ⟨b, off, rfl, hl, hcells⟩ := hr (by omega)
          have hk0 : (0 : Int) ≤ (k : Int) := Int.natCast_nonneg _
          have hk1 : (k : Int) < (n : Int) := by omega
          have hc0 : wr.cell? ⟨b, off + k, none⟩ = some (.int .i64 (at' zs k)) := (hbel.cell (p := ⟨b, _, none⟩) hl).trans (hcells k _ (flat_get zs k (by have := unhide HN; omega)))
          obtain ⟨X, hX⟩ : ∃ X, X = at' zs k := ⟨_, rfl⟩
          rw [← hX] at hc0 HC
          clear hX
          have H3' := hide (unhide H3 X _ hbel)
          generalize (zs.take k).filter (fun x => !has ys x) = L at hown hle HC
          cases hx : has ys X
          · have HX := hide hx
            have HL := hide (show (zs.take (k + 1)).filter (fun x => !has ys x) = L ++ one true X by rw [unhide HC, unhide HX] <;> rfl)
            clear hx HC
            go_wp2_with fail
            refine (unhide H3').mono ?_
            rintro e w3 ⟨rfl, hw3⟩
            subst hw3
            rw [unhide HX]
            go_wp2_with (at_builtin; refine app_wp _ rfl _ _ _ rfl w.heap.size 3 i0 _ 1 8 Try.underlying23 hi hz0 hz1 hz2 rfl (by omega) _ L.length _ rfl (hown.alloc _) _ 1 [.int .i64 X] rfl (lies_new rfl rfl (by unfold maxLen; omega)) (by simp [Value.oneCell']) (by unfold maxLen; omega) (by omega) (by simp; omega) ?_; intro vn wn on gn an)
            have R9 := below_grown (hbel.alloc hsz _) (by simp; omega) gn (own_ge hown)
            have R2 : wn.ownsRow w.heap.size 3 1 vn ((zs.take (k + 1)).filter (fun x => !has ys x)).length (flat ((zs.take (k + 1)).filter (fun x => !has ys x))) := by rw [unhide HL, show one true X = [X] from rfl, flat_append, List.length_append]; exact on
            clear on gn an hown
            go_wp2_with fail
            go_roundw
            case rel => exact ⟨k + 1, by omega, by go_num, R2, R9⟩
            case measure => simp [intOf]; omega
          · have HX := hide hx
            have HL := hide (show (zs.take (k + 1)).filter (fun x => !has ys x) = L ++ one false X by rw [unhide HC, unhide HX] <;> rfl)
            clear hx HC
            go_wp2_with fail
            refine (unhide H3').mono ?_
            rintro e w3 ⟨rfl, hw3⟩
            subst hw3
            rw [unhide HX]
            go_wp2_with fail
            go_roundw
            case rel => exact ⟨k + 1, by omega, by go_num, by rw [unhide HL]; simpa [one] using hown, hbel⟩
            case measure => simp [intOf]; omega
        · go_wp2_with fail
          go_ret
          exact ⟨_, rfl, by rw [unhide HR]; rw [List.take_of_length_le (by have := unhide HN; omega)] at hown; exact hown, hbel⟩
end Go.Proofs.Ytddbgchmpehffaa.Ints
