/- ListBoth, ListEither, ListLess of the program; l4Has, ListBoth and ListLess of the model. -/
import Derived.Test.YtfccibbgjjajjaaIntsMerge
namespace Go.Proofs.Ytfccibbgjjajjaa.Ints
open Go.RowKit ListMath Rw
set_option linter.unusedVariables false
attribute [local go_sem ↓] Go.wp_at_zero Go.wp_at_succ
theorem inBoth_any (p q : Bool) (W : World) : Calls Try.prog 69 #[.bool p, .bool q] W fun e w' => e = .returned (.bool (both p q)) ∧ w' = W := by
  cases p <;> cases q <;> (go_enter Try.func69, Try.ntmps69; go_wp2; go_ret; exact ⟨rfl, rfl⟩)
theorem inEither_any (p q : Bool) (W : World) : Calls Try.prog 64 #[.bool p, .bool q] W fun e w' => e = .returned (.bool (either p q)) ∧ w' = W := by
  cases p <;> cases q <;> (go_enter Try.func64, Try.ntmps64; go_wp2; go_ret; exact ⟨rfl, rfl⟩)
set_option maxHeartbeats 1000000 in
theorem listMerge_any {w : World} {v u : Value} {zs ys : List Int} (k : Bool → Bool → Bool) (g : Nat) (eg : ∀ args w, (callFunc g args).run Try.prog w = .ok (.enter g args) w)
    (HK : Hid (∀ p q W, Calls Try.prog g #[.bool p, .bool q] W fun e w' => e = .returned (.bool (k p q)) ∧ w' = W)) (h : Is w v zs) (h' : Is w u ys) (hn : zs.length ≤ 4194304) (hm : ys.length ≤ 4194304) :
    Calls Try.prog 68 #[v, u, .func (.func g) #[] #[]] w fun e w' => ∃ r, e = .returned r ∧ w'.ownsRow w.heap.size 3 1 r (res k zs ys).length (flat (res k zs ys)) ∧ Below w.heap.size w w' := by
  have H1 := hide (impl_ok h)
  have H2 := hide (impl_ok h')
  have H3 := hide (merge_any k g eg HK h h' hn hm)
  clear h h' HK eg
  cases ho : ok zs
  · have HR := hide (show res k zs ys = [] from res_bad (.inl ho))
    have HO := hide ho
    clear ho
    go_enter Try.func68, Try.ntmps68
    go_wp2_with fail
    refine (unhide H1).mono ?_
    rintro e w1 ⟨rfl, hw⟩
    subst hw
    rw [unhide HO]
    go_wp2_with fail
    go_ret
    exact ⟨_, rfl, by rw [unhide HR]; exact World.ownsRow_nil _ _ _ _, Below.refl _ _⟩
  · cases ho' : ok ys
    · have HR := hide (show res k zs ys = [] from res_bad (.inr ho'))
      have HO := hide ho
      have HO' := hide ho'
      clear ho ho'
      go_enter Try.func68, Try.ntmps68
      go_wp2_with fail
      refine (unhide H1).mono ?_
      rintro e w1 ⟨rfl, hw⟩
      subst hw
      rw [unhide HO]
      go_wp2_with fail
      refine (unhide H2).mono ?_
      rintro e w1 ⟨rfl, hw⟩
      subst hw
      rw [unhide HO']
      go_wp2_with fail
      go_ret
      exact ⟨_, rfl, by rw [unhide HR]; exact World.ownsRow_nil _ _ _ _, Below.refl _ _⟩
    · have HR := hide (show res k zs ys = merge k zs ys from res_ok ho ho')
      have HO := hide ho
      have HO' := hide ho'
      clear ho ho'
      go_enter Try.func68, Try.ntmps68
      go_wp2_with fail
      refine (unhide H1).mono ?_
      rintro e w1 ⟨rfl, hw⟩
      subst hw
      rw [unhide HO]
      go_wp2_with fail
      refine (unhide H2).mono ?_
      rintro e w1 ⟨rfl, hw⟩
      subst hw
      rw [unhide HO']
      go_wp2_with fail
      refine (unhide H3).mono ?_
      rintro e w1 ⟨r, rfl, o, b⟩
      go_wp2_with fail
      go_ret
      exact ⟨_, rfl, by rw [unhide HR]; exact o, b⟩
abbrev Gives (f : Nat) (k : Bool → Bool → Bool) : Prop := ∀ {w : World} {v u : Value} {zs ys : List Int}, Is w v zs → Is w u ys → zs.length ≤ 4194304 → ys.length ≤ 4194304 →
    Calls Try.prog f #[v, u] w fun e w' => ∃ r, e = .returned r ∧ w'.ownsRow w.heap.size 3 1 r (res k zs ys).length (flat (res k zs ys)) ∧ Below w.heap.size w w'
theorem impl_both : Gives 37 both := by
  intro w v u zs ys h h' hn hm
  have H := hide (listMerge_any both 69 (enters_of Try.func69 (by kernel_rfl) rfl) inBoth_any h h' hn hm)
  clear h h'
  go_enter Try.func37, Try.ntmps37
  go_wp2_with fail
  refine (unhide H).mono ?_
  rintro e w1 ⟨r, rfl, o, b⟩
  go_wp2_with fail
  go_ret
  exact ⟨_, rfl, o, b⟩
theorem has_succ (zs : List Int) (x : Int) (k : Nat) (hk : k < zs.length) (h : has (zs.take k) x = false) (hx : at' zs k ≠ x) : has (zs.take (k + 1)) x = false := by
  rw [at_snoc zs k hk]
  simp only [has_iff, decide_eq_false_iff_not, List.mem_append, List.mem_singleton, not_or] at h ⊢
  exact ⟨h, fun e => hx e.symm⟩
theorem has_hit (zs : List Int) (x : Int) (k : Nat) (hk : k < zs.length) (hx : at' zs k = x) : has zs x = true := by
  simp only [has_iff, decide_eq_true_eq]
  have e : at' zs k = zs[k] := by simp [at', List.getD, hk]
  rw [← hx, e]
  exact List.getElem_mem hk
theorem filter_snoc (zs : List Int) (f : Int → Bool) (k : Nat) (h : k < zs.length) : (zs.take (k + 1)).filter f = (zs.take k).filter f ++ one (f (at' zs k)) (at' zs k) := by
  rw [at_snoc zs k h, List.filter_append]
  cases hh : f (at' zs k) <;> simp [hh, one]
theorem filter_take_le (zs : List Int) (f : Int → Bool) (k : Nat) : ((zs.take k).filter f).length ≤ k := by
  have h1 := List.length_filter_le f (zs.take k)
  have h2 := List.length_take_le k zs
  omega
end Go.Proofs.Ytfccibbgjjajjaa.Ints
