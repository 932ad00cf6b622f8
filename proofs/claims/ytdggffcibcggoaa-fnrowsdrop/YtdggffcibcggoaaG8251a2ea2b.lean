/- My own texts of one claim, laid together by program: AlCount, DropMath2, RowDrop. -/
import Derived.Test.YtdggffcibcggoaaG3837e21026
import Derived.Test.YtdggffcibcggoaaG3815166c4d
/- How many samples there are in rows. -/
namespace Go.Proofs.Ytdggffcibcggoaa.Row
open Go.RowKit Rw
set_option linter.unusedVariables false
attribute [local go_sem ↓] Go.wp_at_zero Go.wp_at_succ
def cntS (zs : List E) : Nat := (zs.map fun x => x.2.length).sum
theorem cntS_cons (x : E) (zs : List E) : cntS (x :: zs) = x.2.length + cntS zs := by simp [cntS]
theorem cntS_snoc (zs : List E) (k : Nat) (h : k < zs.length) : cntS (zs.take (k + 1)) = cntS (zs.take k) + (at' zs k).2.length := by
  unfold cntS
  rw [List.take_succ_eq_append_getElem h, List.map_append, List.sum_append, at_get zs k h]
  simp
theorem cntS_le {zs : List E} (h : ∀ x ∈ zs, x.2.length ≤ 1000) : cntS zs ≤ zs.length * 1000 := by
  induction zs with
  | nil => simp [cntS]
  | cons x zs ih =>
    have h1 := h x (List.mem_cons_self ..)
    have h2 := ih (fun y hy => h y (List.mem_cons_of_mem _ hy))
    rw [cntS_cons, List.length_cons, Nat.succ_mul]
    omega
set_option maxRecDepth 100000 in
set_option maxHeartbeats 4000000 in
theorem al_count {v : Value} {zs : List E} {w : World} (h : Is w v zs) (hl : zs.length ≤ 1000) (hx : ∀ x ∈ zs, x.2.length ≤ 1000) : Calls Try.prog 45 #[v] w fun e w' => e = .returned (.int .i64 (cntS zs : Int)) ∧ Below w.heap.size w w' := by
  obtain ⟨cs, hcs, hL, hE⟩ := h
  have HE := hide hE
  have HX := hide hx
  obtain ⟨-, a, cap, rfl, hc, hm, -, hr⟩ := hL
  unfold maxLen at hm
  obtain ⟨n, hn⟩ : ∃ n, n = zs.length := ⟨_, rfl⟩
  rw [← hn] at hc hr hcs hl ⊢
  have HN := hide hn
  have HC := hide hcs
  clear hn hE hcs hx
  go_enter Try.func45, Try.ntmps45
  go_wp2
  go_loopw [3, 4] (fun cv i wr => ∃ (j c : Nat), j ≤ n ∧ i = .int .i64 j ∧ cv = .int .i64 (c : Int) ∧ Hid (c = cntS (zs.take j)) ∧ Below w.heap.size w wr) (fun _ i _ => n - (intOf i).toNat)
  case atStart => exact ⟨0, 0, Nat.zero_le _, rfl, rfl, rfl, Below.refl _ _⟩
  case round =>
    obtain ⟨j, c, hj, rfl, rfl, HCt, hbel⟩ := hrel
    have hsz := hbel.size
    by_cases hlt : j < n
    · obtain ⟨b, off, rfl, hl', hcells⟩ := hr (by omega)
      have hjz : j < zs.length := by rw [← unhide HN]; exact hlt
      have fa := flat_at cs j (by have := unhide HC; omega)
      have hE1 := (unhide HE j hjz).2
      have hc1 : wr.cell? ⟨b, off + j * 2 + 1, none⟩ = some (cat cs j).2 := (hbel.cell (p := ⟨b, _, none⟩) hl').trans (hcells (j * 2 + 1) _ fa.2)
      obtain ⟨-, p1, q1, f1, -⟩ := hE1
      rw [f1] at hc1
      have hlen := unhide HX _ (at_mem zs j hjz)
      have hsn := cntS_snoc zs j hjz
      have hct := unhide HCt
      have hb := cntS_le (zs := zs.take j) (fun x hx => unhide HX x (List.mem_of_mem_take hx))
      rw [List.length_take] at hb
      have hcb : c ≤ 1000000 := by
        have h1 : min j zs.length ≤ 1000 := by omega
        have h2 : min j zs.length * 1000 ≤ 1000 * 1000 := Nat.mul_le_mul_right _ h1
        omega
      obtain ⟨m, hm'⟩ : ∃ m, m = (at' zs j).2.length := ⟨_, rfl⟩
      rw [← hm'] at hc1 hlen hsn
      have HS := hide (show c + m = cntS (zs.take (j + 1)) by omega)
      have hk0 : (0 : Int) ≤ (j : Int) := Int.natCast_nonneg _
      have hk1 : (j : Int) < (n : Int) := by omega
      clear fa f1 hsn hct hb hm'
      go_wp2_with fail
      go_roundw
      case rel => exact ⟨j + 1, c + m, by omega, by go_num, by go_num, HS, hbel⟩
      case measure => simp [intOf]; omega
    · obtain rfl : j = n := by omega
      have HS := hide (show c = cntS zs by have := unhide HCt; rwa [List.take_of_length_le (by have := unhide HN; omega)] at this)
      clear HCt
      go_wp2
      go_ret
      exact ⟨ret_int (congrArg (fun n : Nat => (n : Int)) (unhide HS)), hbel⟩
end Go.Proofs.Ytdggffcibcggoaa.Row

/- What is dropped, and what is left, are all, and nothing is in both. -/
namespace Go.Proofs.Ytdggffcibcggoaa.Row
open Go.RowKit Rw
set_option linter.unusedVariables false
/-- rows that are put together of two parts of each -/
theorem insAll_ahead : ∀ (b : List E) {x : E} {M : List E}, (∀ y ∈ b, Lab.cmpL x.1 y.1 < 0) → insAll (x :: M) b = (insAll M b).map (x :: ·)
  | [], x, M, _ => rfl
  | y :: b, x, M, h => by
    rw [insAll, insAll, ins_lt M (h y (List.mem_cons_self ..))]
    cases e : ins M y with
    | none => rfl
    | some R => simp only [Option.map_some, Option.bind_some]; exact insAll_ahead b (fun z hz => h z (List.mem_cons_of_mem _ hz))
theorem ins_front {M : List E} {x : E} (h : ∀ y ∈ M, Lab.cmpL x.1 y.1 < 0) : ins M x = some (x :: M) := by
  cases M with
  | nil => rfl
  | cons y M => exact ins_gt M (by have := h y (List.mem_cons_self ..); have := Lab.ordL.anti x.1 y.1; omega)
theorem insAll_parts (d a : E → List Sam.E) : ∀ {L : List E}, Fine L → (∀ x ∈ L, (d x = [] → a x = x.2) ∧ (a x = [] → d x = x.2) ∧ SampMath.join (d x) (a x) = (x.2, true)) → insAll (outL d L) (outL a L) = some L
  | [], _, _ => rfl
  | x :: L, hL, h => by
    have ih := insAll_parts d a (fine_tail hL) (fun y hy => h y (List.mem_cons_of_mem _ hy))
    obtain ⟨h1, h2, h3⟩ := h x (List.mem_cons_self ..)
    have hne := (hL.sam x (List.mem_cons_self ..)).2
    have up := (List.pairwise_cons.1 hL.up).1
    have upD : ∀ (g : E → List Sam.E) (z : List Sam.E), ∀ y ∈ outL g L, Lab.cmpL (x.1, z).1 y.1 < 0 := fun g z y hy => by
      obtain ⟨u, hu, e, -⟩ := outL_in hy
      rw [e]; exact up u hu
    rw [outL_cons, outL_cons]
    by_cases ha : a x = []
    · have hd := h2 ha
      rw [if_pos ha, if_neg (by rw [hd]; exact hne), hd]
      show insAll ((x.1, x.2) :: outL d L) ([] ++ outL a L) = _
      rw [List.nil_append, insAll_ahead _ (upD a x.2), ih]; rfl
    · by_cases hd : d x = []
      · have ha' := h1 hd
        rw [if_pos hd, if_neg ha, ha', List.nil_append]
        show insAll (outL d L) ((x.1, x.2) :: outL a L) = _
        rw [insAll, ins_front (upD d x.2), Option.bind_some, insAll_ahead _ (upD a x.2), ih]; rfl
      · rw [if_neg hd, if_neg ha]
        show insAll ((x.1, d x) :: outL d L) ((x.1, a x) :: outL a L) = _
        have hj : jn (x.1, d x) (a x) = some (x.1, x.2) := by unfold jn; rw [h3]; rfl
        rw [insAll, ins_eq (y := (x.1, d x)) (x := (x.1, a x)) _ (Lab.ordL.self x.1)]
        simp only [hj, Option.map_some, Option.bind_some]
        rw [insAll_ahead _ (upD a x.2), ih]; rfl
theorem cnt_outL (g : E → List Sam.E) : ∀ L : List E, cntS (outL g L) = (L.map fun x => (g x).length).sum
  | [] => rfl
  | x :: L => by
    rw [outL_cons]
    split
    · rename_i h
      rw [List.nil_append, cnt_outL g L, List.map_cons, List.sum_cons, h]; simp
    · rw [List.singleton_append, cntS_cons, cnt_outL g L, List.map_cons, List.sum_cons]
theorem cnt_parts (d a : E → List Sam.E) : ∀ {L : List E}, (∀ x ∈ L, (d x).length + (a x).length = x.2.length) → cntS (outL d L) + cntS (outL a L) = cntS L
  | [], _ => rfl
  | x :: L, h => by
    have ih := cnt_parts d a (fun y hy => h y (List.mem_cons_of_mem _ hy))
    rw [cnt_outL, cnt_outL] at ih ⊢
    rw [List.map_cons, List.map_cons, List.sum_cons, List.sum_cons, cntS_cons]
    have := h x (List.mem_cons_self ..)
    omega
/-- both sides and what is between -/
theorem in_sides {xs : List Sam.E} (h : SampMath.ok xs = true) (f t : Int) {z : Sam.E} (hz : z ∈ xs) : (Samp.inT 0 f z || Samp.inT t 10000 z) = !Samp.inT f t z := by
  have := ((Samp.ok_iff xs).1 h).1 z hz
  rw [SampMath.inR_iff] at this
  unfold Samp.inT
  rw [Bool.eq_iff_iff]
  simp only [Bool.or_eq_true, Bool.and_eq_true, decide_eq_true_eq, Bool.not_eq_true', Bool.and_eq_false_iff, decide_eq_false_iff_not]
  omega
theorem sides_not {xs : List Sam.E} (h : SampMath.ok xs = true) (f t : Int) : Samp.sides xs f t = xs.filter fun z => !Samp.inT f t z := by
  unfold Samp.sides
  exact List.filter_congr fun z hz => in_sides h f t hz
theorem filter_len (xs : List Sam.E) (p : Sam.E → Bool) : (xs.filter fun z => !p z).length + (xs.filter p).length = xs.length := by
  induction xs with
  | nil => rfl
  | cons x xs ih => cases e : p x <;> simp [e] <;> omega
theorem parts_of (ms : List Mat.E) (f t : Int) {x : E} (h : SampMath.ok x.2 = true) (hne : x.2 ≠ []) :
    ((dropG ms f t x = [] → askG ms f t x = x.2) ∧ (askG ms f t x = [] → dropG ms f t x = x.2) ∧ SampMath.join (dropG ms f t x) (askG ms f t x) = (x.2, true)) ∧ (dropG ms f t x).length + (askG ms f t x).length = x.2.length := by
  unfold dropG askG
  cases hm : Mat.mlet ms x.1
  · simp only [Bool.false_eq_true, if_false]
    exact ⟨⟨fun e => absurd e hne, fun _ => (by first | rfl | trivial), by rw [SampMath.join_comm]; exact RSet.join_first h⟩, by simp⟩
  · simp only [if_true]
    rw [sides_not h]
    unfold Samp.cutL
    have hl := filter_len x.2 (Samp.inT f t)
    refine ⟨⟨fun e => ?_, fun e => ?_, ?_⟩, hl⟩
    · rw [e] at hl
      exact List.filter_eq_self.2 (fun z hz => by
        have : z ∉ x.2.filter fun z => !Samp.inT f t z := by rw [e]; simp
        rw [List.mem_filter] at this
        cases hi : Samp.inT f t z
        · exact absurd ⟨hz, by rw [hi]; rfl⟩ this
        · rfl)
    · exact List.filter_eq_self.2 (fun z hz => by
        have : z ∉ x.2.filter (Samp.inT f t) := by rw [e]; simp
        rw [List.mem_filter] at this
        cases hi : Samp.inT f t z
        · rfl
        · exact absurd ⟨hz, hi⟩ this)
    · have hmg := Samp.merge_filter x.2 (fun z => !Samp.inT f t z) (Samp.inT f t) ((Samp.ok_iff _).1 h).2
      have hall : (x.2.filter fun z => (!Samp.inT f t z) || Samp.inT f t z) = x.2 := List.filter_eq_self.2 (fun z _ => by cases Samp.inT f t z <;> rfl)
      rw [hall] at hmg
      exact SampMath.join_some (SampMath.ok_sub h List.filter_sublist) (SampMath.ok_sub h List.filter_sublist) hmg
theorem drop_is {ms : List Mat.E} (f t : Int) {L : List E} (h : ok L = true) (hm : Mat.ok ms = true) : drop ms f t L = outL (dropG ms f t) L := by unfold drop; rw [if_pos ⟨h, hm⟩]
theorem drop_ok {ms : List Mat.E} (f t : Int) {L : List E} (h : ok L = true) (hm : Mat.ok ms = true) : ok (drop ms f t L) = true := by
  rw [drop_is f t h hm]
  refine outL_okay h fun x hx => ?_
  have hx' := (fine_ok h).sam x hx
  have hb := row_bounds h hx
  unfold dropG
  split
  · rw [sides_not hx'.1]; exact ⟨SampMath.ok_sub hx'.1 List.filter_sublist, Nat.le_trans (List.length_filter_le _ _) hb⟩
  · exact ⟨hx'.1, hb⟩
theorem drop_join {ms : List Mat.E} (f t : Int) {L : List E} (h : ok L = true) (hm : Mat.ok ms = true) : join (drop ms f t L) (ask ms f t L) = (L, true) := by
  refine join_yes (drop_ok f t h hm) (ask_ok f t h) ?_ h
  rw [drop_is f t h hm, show ask ms f t L = outL (askG ms f t) L from if_pos h]
  exact insAll_parts _ _ (fine_ok h) (fun x hx => (parts_of ms f t ((fine_ok h).sam x hx).1 ((fine_ok h).sam x hx).2).1)
theorem drop_cnt2 {ms : List Mat.E} (f t : Int) {L : List E} (h : ok L = true) (hm : Mat.ok ms = true) : cntS (drop ms f t L) + cntS (ask ms f t L) = cntS L := by
  rw [drop_is f t h hm, show ask ms f t L = outL (askG ms f t) L from if_pos h]
  exact cnt_parts _ _ (fun x hx => (parts_of ms f t ((fine_ok h).sam x hx).1 ((fine_ok h).sam x hx).2).2)
theorem drop_in {ms : List Mat.E} {f t : Int} {L : List E} (h : ok L = true) (hm : Mat.ok ms = true) {y : E} (hy : y ∈ drop ms f t L) : y.2 ≠ [] ∧ (Mat.mlet ms y.1 = true → ∀ z ∈ y.2, Samp.inT f t z = false) := by
  rw [drop_is f t h hm] at hy
  obtain ⟨x, hx, rfl, hne⟩ := outL_in hy
  refine ⟨hne, fun hl z hz => ?_⟩
  have e : dropG ms f t x = Samp.sides x.2 f t := by unfold dropG; rw [if_pos hl]
  have hz' : z ∈ dropG ms f t x := hz
  rw [e, sides_not ((fine_ok h).sam x hx).1] at hz'
  have := (List.mem_filter.1 hz').2
  simpa using this
theorem drop_asked {ms : List Mat.E} (f t : Int) {L : List E} (h : ok L = true) (hm : Mat.ok ms = true) : ask ms f t (drop ms f t L) = [] := by
  have e : ask ms f t (drop ms f t L) = outL (askG ms f t) (drop ms f t L) := if_pos (drop_ok f t h hm)
  rw [e]
  have : ∀ x ∈ drop ms f t L, askG ms f t x = [] := fun x hx => by
    unfold askG
    split
    · rename_i hl
      unfold Samp.cutL
      rw [List.filter_eq_nil_iff]
      intro z hz
      rw [(drop_in h hm hx).2 hl z hz]; simp
    · rfl
  generalize drop ms f t L = M at this
  clear e
  induction M with
  | nil => rfl
  | cons x M ih => rw [outL_cons, if_pos (this x (List.mem_cons_self ..)), List.nil_append]; exact ih (fun y hy => this y (List.mem_cons_of_mem _ hy))
theorem drop_drop {ms : List Mat.E} (f t : Int) {L : List E} (h : ok L = true) (hm : Mat.ok ms = true) : drop ms f t (drop ms f t L) = drop ms f t L := by
  have hd := drop_ok f t h hm
  have e : drop ms f t (drop ms f t L) = outL (dropG ms f t) (drop ms f t L) := drop_is f t hd hm
  rw [e]
  refine outL_id fun x hx => ?_
  have hi := drop_in h hm hx
  refine ⟨?_, hi.1⟩
  unfold dropG
  split
  · rename_i hl
    rw [sides_not ((fine_ok hd).sam x hx).1]
    exact List.filter_eq_self.2 (fun z hz => by rw [hi.2 hl z hz]; rfl)
  · rfl
end Go.Proofs.Ytdggffcibcggoaa.Row

/- RowsDrop of the program. -/
namespace Go.Proofs.Ytdggffcibcggoaa.Row
open Go.RowKit Rw
set_option linter.unusedVariables false
attribute [local go_sem ↓] Go.wp_at_zero Go.wp_at_succ
theorem drop_snoc (ms : List Mat.E) (f t : Int) (zs : List E) (k : Nat) (h : k < zs.length) : outL (dropG ms f t) (zs.take (k + 1)) = st (outL (dropG ms f t) (zs.take k)) (at' zs k).1 (dropG ms f t (at' zs k)) := by
  rw [outL_snoc _ zs k h]
  unfold st
  split
  · rw [List.append_nil]
  · rfl
set_option maxRecDepth 100000 in
set_option maxHeartbeats 8000000 in
theorem impl_drop {w : World} {v u : Value} {zs : List E} {ms : List Mat.E} (f t : Int) (h : Is w v zs) (hm : Mat.Is w u ms) (hg : ∀ x ∈ zs, good x) (hlen : zs.length ≤ maxLen) (hmg : ∀ x ∈ ms, Mat.good x) (hml : ms.length ≤ maxLen) :
    Calls Try.prog 43 #[v, u, .int .i64 f, .int .i64 t] w fun e w' => ∃ r, e = .returned r ∧ Own w.heap.size w'.heap.size w' r (drop ms f t zs) ∧ Below w.heap.size w w' := by
  have HO := hide (impl_ok h hg hlen)
  obtain ⟨au, nu, cu, eu⟩ : ∃ a n c, u = .slice a n c := by obtain ⟨-, a, c, e, -⟩ := hm; exact ⟨a, _, c, e⟩
  subst eu
  have HMk := hide (fun W (hb : Below w.heap.size w W) => Mat.impl_ok (hm.below hb) hmg hml)
  obtain ⟨av, nv, cv, ev⟩ : ∃ a n c, v = .slice a n c := by obtain ⟨cs, -, hL, -⟩ := h; obtain ⟨-, a, c, e, -⟩ := hL; exact ⟨a, _, c, e⟩
  cases hok : ok zs
  · have HR := hide (show drop ms f t zs = [] by unfold drop; rw [hok]; simp)
    rw [hok] at HO
    clear h hm hg hmg hok
    subst ev
    go_enter Try.func43, Try.ntmps43
    go_wp2_with fail
    refine (unhide HO).mono ?_
    rintro e w1 ⟨rfl, b1⟩
    go_wp2_with fail
    go_ret
    exact ⟨_, rfl, by rw [unhide HR]; have := own_nil w.heap.size w1; exact this, b1⟩
  cases hmo : Mat.ok ms
  · have HR := hide (show drop ms f t zs = [] by unfold drop; rw [hmo]; simp)
    rw [hok] at HO
    rw [hmo] at HMk
    clear h hm hg hmg hok hmo
    subst ev
    go_enter Try.func43, Try.ntmps43
    go_wp2_with fail
    refine (unhide HO).mono ?_
    rintro e w1 ⟨rfl, b1⟩
    go_wp2_with fail
    refine (unhide HMk w1 b1).mono ?_
    rintro e w2 ⟨rfl, b2⟩
    have b12 := b1.trans (b2.mono b1.size)
    go_wp2_with fail
    go_ret
    exact ⟨_, rfl, by rw [unhide HR]; have := own_nil w.heap.size w2; exact this, b12⟩
  clear ev av nv cv
  have HR := hide (show drop ms f t zs = outL (dropG ms f t) zs by unfold drop; rw [if_pos ⟨hok, hmo⟩])
  rw [hok] at HO
  rw [hmo] at HMk
  have HOK := hide hok
  have hn10 := ok_len hok
  have HLet := hide (fun W (hb : Below w.heap.size w W) (lv : Value) (ls : List Lab.E) (hl : Lab.Is W lv ls) (hlg : ∀ x ∈ ls, Lab.good x) => Mat.impl_let (hm.below hb) hl hmg hlg hml)
  obtain ⟨cs, hcs, hL, hE⟩ := h
  have HE := hide hE
  have HG := hide hg
  obtain ⟨-, a, cap, rfl, hc, hmx, -, hr⟩ := hL
  unfold maxLen at hmx
  obtain ⟨l, hl⟩ : ∃ l, l = zs.length := ⟨_, rfl⟩
  rw [← hl] at hc hr hcs hn10 HO ⊢
  have HN := hide hl
  have HC := hide hcs
  clear hl hE hcs hg hm hmg hok hlen hml hmo
  go_enter Try.func43, Try.ntmps43
  go_wp2_with fail
  refine (unhide HO).mono ?_
  rintro e w0 ⟨rfl, b0⟩
  go_wp2_with fail
  refine (unhide HMk w0 b0).mono ?_
  rintro e w1 ⟨rfl, b1'⟩
  have b1 := b0.trans (b1'.mono b0.size)
  clear b1' b0
  go_wp2_with fail
  refine (RSet.new_any w1).mono ?_
  rintro e w2 ⟨mb, rfl, hmb, hM2, b2⟩
  have z1 := b1.size
  have z2 := b2.size
  go_wp2_with fail
  obtain ⟨wa, hwa⟩ : ∃ wa, wa = w2.alloc (.cells #[.slice none 0 0, .map (some mb)] 74) := ⟨_, rfl⟩
  rw [← hwa]
  have ba : Below w2.heap.size w2 wa := by rw [hwa]; exact (Below.refl _ _).alloc (Nat.le_refl _) _
  have za : wa.heap.size = w2.heap.size + 1 := by rw [hwa]; simp
  have bwa : Below w.heap.size w wa := (b1.trans (b2.mono z1)).trans (ba.mono (by omega))
  have hmlt := hM2.lt
  have hB0 : RSet.Built w.heap.size w2.heap.size mb 0 wa (outL (dropG ms f t) (zs.take 0)) := ⟨fun _ => none, fun _ => ([], []), ⟨by omega, by omega, by omega, by omega, ⟨.slice none 0 0, by rw [hwa]; simp [go_sem], World.ownsRow_nil _ _ _ _, fun k hk => by cases hk⟩, by rw [hwa]; simp [go_sem], by rw [hwa]; simp [go_sem], hM2.below ba, fun k => by simp [outL], fun k c hc => (by cases hc), fun k k' c c' _ hc => (by cases hc)⟩, by simp [outL]⟩
  have HB0 := hide hB0
  have hmlt' : mb < wa.heap.size := by omega
  have hlows : w.heap.size ≤ w2.heap.size := by omega
  have hlowm : w.heap.size ≤ mb := by omega
  generalize hBB : w2.heap.size = B at *
  have hBl : B < wa.heap.size := by omega
  have HBm := hide (show B ≠ mb by omega)
  clear hwa hB0 ba hM2 hBB b1 b2 HO HMk
  go_loopw [23] (fun i wr => ∃ (k n : Nat), k ≤ l ∧ i = .int .i64 k ∧ n ≤ 2 * k ∧ Hid (RSet.Built w.heap.size B mb n wr (outL (dropG ms f t) (zs.take k))) ∧ RSet.Two B mb wa wr) (fun i _ => l - (intOf i).toNat)
  case atStart => exact ⟨0, 0, Nat.zero_le _, rfl, Nat.le_refl _, HB0, RSet.Two.refl _ _ _⟩
  case round =>
    obtain ⟨k, n, hk, rfl, hnk, HB, h2⟩ := hrel
    have hsz := h2.size
    have hbel : Below w.heap.size w wr := bwa.trans (h2.below hlows hlowm (by omega))
    by_cases hlt : k < l
    · obtain ⟨b, off, rfl, hbl, hcells⟩ := hr (by omega)
      have fa := flat_at cs k (by have := unhide HC; omega)
      have hc0 : wr.cell? ⟨b, off + k * 2, none⟩ = some (cat cs k).1 := (hbel.cell (p := ⟨b, _, none⟩) hbl).trans (hcells (k * 2) _ fa.1)
      have hc1 : wr.cell? ⟨b, off + k * 2 + 1, none⟩ = some (cat cs k).2 := (hbel.cell (p := ⟨b, _, none⟩) hbl).trans (hcells (k * 2 + 1) _ fa.2)
      have hkz : k < zs.length := by have := unhide HN; omega
      have hEk := unhide HE k hkz
      have hgk := unhide HG (at' zs k) (at_mem zs k hkz)
      have hst := step_is (ok_at (unhide HOK) hkz)
      have hsn := drop_snoc ms f t zs k hkz
      have hah := outL_ahead (g := dropG ms f t) (unhide HOK) hkz
      have hol := outL_len (dropG ms f t) (zs.take k)
      rw [List.length_take] at hol
      obtain ⟨⟨ls, xs⟩, hX⟩ : ∃ x, x = at' zs k := ⟨_, rfl⟩
      rw [← hX] at hEk hgk hst hsn hah
      simp only at hst hah hsn
      obtain ⟨c0, c1, hY⟩ : ∃ c0 c1, (c0, c1) = cat cs k := ⟨_, _, rfl⟩
      rw [← hY] at hc0 hc1 hEk
      have hE1 : Lab.Is w c0 ls := hEk.1
      have hE2 : Sam.Is w c1 xs := hEk.2
      obtain ⟨-, a0, q0, e0, -⟩ := hE1
      obtain ⟨-, a1, q1, e1, -⟩ := hE2
      have hE1 : Lab.Is w c0 ls := hEk.1
      have hE2 : Sam.Is w c1 xs := hEk.2
      clear fa hEk hX hY
      have hxne : xs ≠ [] := fun e => by rw [e] at hst; simp at hst
      have hk0 : (0 : Int) ≤ (k : Int) := Int.natCast_nonneg _
      have hk1 : (k : Int) < (l : Int) := by omega
      have hWf : ∀ o, Below wr.heap.size wr (wr.alloc o) := fun o => (Below.refl _ _).alloc (Nat.le_refl _) _
      have hob : wr.heap.size ≠ B ∧ wr.heap.size ≠ mb := ⟨by omega, by omega⟩
      have HL := hide (fun W (hb : Below w.heap.size w W) => unhide HLet W hb c0 ls (hE1.below hb) hgk.1.2)
      have HPut := hide (fun (W : World) (n' m sc : Nat) (sa : Option Addr) (a D J : List Sam.E) (hn' : n' ≤ 1000) (hb : Below w.heap.size w W) (hB : RSet.Built w.heap.size B mb n' W (st (outL (dropG ms f t) (zs.take k)) ls a)) (hs : Samp.Smp W (.slice sa m sc) D) (hm : D.length = m) (ha : SampMath.ok a = true) (hD : SampMath.ok D = true) (hJ : SampMath.join a D = (J, true)) (h1 : m ≤ 4194304) (h2 : a.length ≤ 4194304) => RSet.put_st hB (by omega) hn' hah (hE1.below hb) hgk.1.2 hst.1 hs hm ha hD hJ h1 h2 hb.size)
      have HB0 := hide (show RSet.Built w.heap.size B mb n wr (st (outL (dropG ms f t) (zs.take k)) ls []) by rw [show st (outL (dropG ms f t) (zs.take k)) ls [] = outL (dropG ms f t) (zs.take k) from if_pos rfl]; exact unhide HB)
      have hxok := hst.2.2.2
      have hx1000 := hst.2.2.1
      cases hlet : Mat.mlet ms ls
      · have hg0 : dropG ms f t (ls, xs) = xs := by unfold dropG; rw [hlet]; rfl
        rw [hg0] at hsn
        rw [hlet] at HL
        have HSn := hide hsn
        have HP2 := hide (fun (W : World) (hb : Below wr.heap.size wr W) => unhide HPut W n xs.length q1 a1 [] xs xs (by omega) (hbel.trans (hb.mono (by omega))) ((unhide HB0).below hb) (by rw [← e1]; exact smp_of_lies (hE2.below (hbel.trans (hb.mono (by omega)))) hxne) rfl rfl hxok (RSet.join_first hxok) (by omega) (by simp))
        clear hlet hgk hst hsn hah hg0 hE1 hE2 HPut HB HB0 hxok hxne
        subst e0 e1
        go_wp2_with fail
        obtain ⟨W, hW⟩ : ∃ W, W = wr.alloc (.cells #[.slice a0 ls.length q0, .slice a1 xs.length q1] 61) := ⟨_, rfl⟩
        rw [← hW]
        have bW : Below wr.heap.size wr W := by rw [hW]; exact hWf _
        have zW : W.heap.size = wr.heap.size + 1 := by rw [hW]; simp
        have y0 : W.cell? ⟨wr.heap.size, 0, none⟩ = some (.slice a0 ls.length q0) := by rw [hW]; simp [go_sem]
        have y1 : W.cell? ⟨wr.heap.size, 1, none⟩ = some (.slice a1 xs.length q1) := by rw [hW]; simp [go_sem]
        clear hW
        refine (unhide HL W (hbel.trans (bW.mono (by omega)))).mono ?_
        rintro e w3 ⟨rfl, b3⟩
        have z3 := b3.size
        have b4 := bW.trans (b3.mono bW.size)
        have y0' := (b3.cell (p := ⟨wr.heap.size, 0, none⟩) (by show wr.heap.size < _; omega)).trans y0
        have y1' := (b3.cell (p := ⟨wr.heap.size, 1, none⟩) (by show wr.heap.size < _; omega)).trans y1
        have HP3 := hide (unhide HP2 w3 b4)
        clear HL HP2 y0 y1
        go_wp2_with fail
        refine (unhide HP3).mono ?_
        rintro e w4 ⟨rfl, ⟨n', hn', hB4⟩, t4⟩
        have t5 := (h2.trans (RSet.Two.of_below b4)).trans t4
        have HB4 := hide (show RSet.Built w.heap.size B mb n' w4 (outL (dropG ms f t) (zs.take (k + 1))) by rw [unhide HSn]; exact hB4)
        clear HP3 hB4 t4 y0' y1'
        go_wp2_with fail
        go_roundw
        case rel => exact ⟨k + 1, n', by omega, by go_num, by omega, HB4, t5⟩
        case measure => simp [intOf]; omega
      · have hgG : dropG ms f t (ls, xs) = Samp.sides xs f t := by unfold dropG; rw [hlet]; rfl
        rw [hgG] at hsn
        rw [hlet] at HL
        have HSn := hide hsn
        have HCut := hide (fun (F T : Int) W (hb : Below w.heap.size w W) => show Calls Try.prog 91 #[c1, .int .i64 F, .int .i64 T] W fun e w' => ∃ v, e = .returned v ∧ w'.ownsRow W.heap.size 38 2 v (Samp.cutL xs F T).length (Samp.flat (Samp.cutL xs F T)) ∧ Below W.heap.size W w' by
          have := Samp.impl_cut F T (smp_of_lies (hE2.below hb) hxne) (by omega)
          rwa [show Samp.cut xs F T = Samp.cutL xs F T by unfold Samp.cut; rw [hxok]; rfl] at this)
        obtain ⟨D1, hD1⟩ : ∃ D, D = Samp.cutL xs 0 f := ⟨_, rfl⟩
        obtain ⟨D2, hD2⟩ : ∃ D, D = Samp.cutL xs t 10000 := ⟨_, rfl⟩
        obtain ⟨J, hJ⟩ : ∃ J, J = Samp.sides xs f t := ⟨_, rfl⟩
        have HJ := hide (show SampMath.join D1 D2 = (J, true) by rw [hD1, hD2, hJ]; exact Samp.join_cuts hxok f t)
        have HDk := hide (show (SampMath.ok D1 = true ∧ D1.length ≤ 1000) ∧ (SampMath.ok D2 = true ∧ D2.length ≤ 1000) by rw [hD1, hD2]; exact ⟨⟨Samp.ok_filter hxok _, Nat.le_trans (List.length_filter_le _ _) hx1000⟩, ⟨Samp.ok_filter hxok _, Nat.le_trans (List.length_filter_le _ _) hx1000⟩⟩)
        have HC1 := hide (fun W hb => unhide HCut 0 f W hb)
        have HC2 := hide (fun W hb => unhide HCut t 10000 W hb)
        rw [← hD1] at HC1
        rw [← hD2] at HC2
        rw [← hJ] at HSn
        clear hlet hgk hst hsn hah hgG hE1 hE2 HCut HB hD1 hD2 hJ hxok hxne hol
        obtain ⟨m1, hm1⟩ : ∃ m, m = D1.length := ⟨_, rfl⟩
        rw [← hm1] at HC1
        have HM1 := hide hm1
        obtain ⟨m2, hm2⟩ : ∃ m, m = D2.length := ⟨_, rfl⟩
        rw [← hm2] at HC2
        have HM2 := hide hm2
        clear hm1 hm2
        subst e0 e1
        go_wp2_with fail
        obtain ⟨W, hW⟩ : ∃ W, W = wr.alloc (.cells #[.slice a0 ls.length q0, .slice a1 xs.length q1] 61) := ⟨_, rfl⟩
        rw [← hW]
        have bW : Below wr.heap.size wr W := by rw [hW]; exact hWf _
        have zW : W.heap.size = wr.heap.size + 1 := by rw [hW]; simp
        have y0 : W.cell? ⟨wr.heap.size, 0, none⟩ = some (.slice a0 ls.length q0) := by rw [hW]; simp [go_sem]
        have y1 : W.cell? ⟨wr.heap.size, 1, none⟩ = some (.slice a1 xs.length q1) := by rw [hW]; simp [go_sem]
        clear hW
        refine (unhide HL W (hbel.trans (bW.mono (by omega)))).mono ?_
        rintro e w3 ⟨rfl, b3⟩
        have z3 := b3.size
        have b4 := bW.trans (b3.mono bW.size)
        have b5 : Below wr.heap.size wr w3.drew := b4.drew
        have S6 : (fun W : World => W.cell? ⟨wr.heap.size, 0, none⟩ = some (.slice a0 ls.length q0) ∧ W.cell? ⟨wr.heap.size, 1, none⟩ = some (.slice a1 xs.length q1)) w3.drew := ⟨by simpa using (b3.cell (p := ⟨wr.heap.size, 0, none⟩) (by show wr.heap.size < _; omega)).trans y0, by simpa using (b3.cell (p := ⟨wr.heap.size, 1, none⟩) (by show wr.heap.size < _; omega)).trans y1⟩
        have HC6 := hide (unhide HC1 w3.drew (hbel.trans (b5.mono (by omega))))
        clear HL HC1 y0 y1 b3 bW
        go_wp2_with fail
        go_region_held3 (fun W => W.cell? ⟨wr.heap.size, 0, none⟩ = some (.slice a0 ls.length q0) ∧ W.cell? ⟨wr.heap.size, 1, none⟩ = some (.slice a1 xs.length q1)) (first | exact S6 | exact S7 | exact S8) ((first | (go_at_call 91; refine (unhide HC6).mono ?_; rintro e w7 ⟨cv, rfl, oc, b7⟩; obtain ⟨ca, cq, rfl⟩ : ∃ a q, cv = .slice a m1 q := (by obtain ⟨-, a, q, e, -⟩ := lies_of_own oc; exact ⟨a, q, e⟩); have z7 := b7.size; simp only [World.size_drew] at z7; have S7 : (fun W : World => W.cell? ⟨wr.heap.size, 0, none⟩ = some (.slice a0 ls.length q0) ∧ W.cell? ⟨wr.heap.size, 1, none⟩ = some (.slice a1 xs.length q1)) w7 := ⟨(b7.cell (p := ⟨_, _, none⟩) (by show wr.heap.size < _; simp; omega)).trans S6.1, (b7.cell (p := ⟨_, _, none⟩) (by show wr.heap.size < _; simp; omega)).trans S6.2⟩) | (go_at_call 90; refine (unhide HPut w7 n m1 cq ca [] D1 D1 (by omega) (hbel.trans ((b5.trans (b7.mono b5.size)).mono (by omega))) ((unhide HB0).below (b5.trans (b7.mono b5.size))) (Samp.smp_of_own (by rw [← unhide HM1]; exact oc)) (unhide HM1).symm rfl (unhide HDk).1.1 (RSet.join_first (unhide HDk).1.1) (by have := (unhide HDk).1.2; have := unhide HM1; omega) (by simp)).mono ?_; rintro e w8 ⟨rfl, ⟨n8, hn8, hB8⟩, t8⟩; have S8 : (fun W : World => W.cell? ⟨wr.heap.size, 0, none⟩ = some (.slice a0 ls.length q0) ∧ W.cell? ⟨wr.heap.size, 1, none⟩ = some (.slice a1 xs.length q1)) w8 := ⟨(t8.cell (by omega) hob.1 hob.2).trans S7.1, (t8.cell (by omega) hob.1 hob.2).trans S7.2⟩)))
        have b8 := b5.trans (b7.mono b5.size)
        have t9 : RSet.Two B mb wr w8 := (RSet.Two.of_below b8).trans t8
        have z8 := t9.size
        have hb8 : Below w.heap.size w w8 := hbel.trans (t9.below hlows hlowm (by omega))
        have HB8 := hide hB8
        have T8 : (fun W : World => W.cell? ⟨wr.heap.size, 0, none⟩ = some (.slice a0 ls.length q0) ∧ W.cell? ⟨wr.heap.size, 1, none⟩ = some (.slice a1 xs.length q1)) w8.drew := ⟨by simpa using S8.1, by simpa using S8.2⟩
        have hb9 := hb8.drew
        have HC7 := hide (unhide HC2 w8.drew hb9)
        have z88 : wr.heap.size < w8.heap.size := by have := t8.size; omega
        clear S6 S7 S8 HC6 oc b7 t8 hB8 HB0 HC2 b5 b4
        go_wp2_with fail
        go_region_held3 (fun W => W.cell? ⟨wr.heap.size, 0, none⟩ = some (.slice a0 ls.length q0) ∧ W.cell? ⟨wr.heap.size, 1, none⟩ = some (.slice a1 xs.length q1)) (first | exact T8 | exact T9 | exact T10) ((first | (go_at_call 91; refine (unhide HC7).mono ?_; rintro e w9 ⟨cv, rfl, oc, b9⟩; obtain ⟨ca, cq, rfl⟩ : ∃ a q, cv = .slice a m2 q := (by obtain ⟨-, a, q, e, -⟩ := lies_of_own oc; exact ⟨a, q, e⟩); have z9 := b9.size; simp only [World.size_drew] at z9; have T9 : (fun W : World => W.cell? ⟨wr.heap.size, 0, none⟩ = some (.slice a0 ls.length q0) ∧ W.cell? ⟨wr.heap.size, 1, none⟩ = some (.slice a1 xs.length q1)) w9 := ⟨(b9.cell (p := ⟨_, _, none⟩) (by show wr.heap.size < _; simp; omega)).trans T8.1, (b9.cell (p := ⟨_, _, none⟩) (by show wr.heap.size < _; simp; omega)).trans T8.2⟩) | (go_at_call 90; refine (unhide HPut w9 n8 m2 cq ca D1 D2 J (by omega) (hb9.trans (b9.mono (by simp; omega))) (((unhide HB8).below (Below.refl _ _).drew).below b9) (Samp.smp_of_own (by rw [← unhide HM2]; exact oc)) (unhide HM2).symm (unhide HDk).1.1 (unhide HDk).2.1 (unhide HJ) (by have := (unhide HDk).2.2; have := unhide HM2; omega) (by have := (unhide HDk).1.2; omega)).mono ?_; rintro e w10 ⟨rfl, ⟨n10, hn10', hB10⟩, t10⟩; have T10 : (fun W : World => W.cell? ⟨wr.heap.size, 0, none⟩ = some (.slice a0 ls.length q0) ∧ W.cell? ⟨wr.heap.size, 1, none⟩ = some (.slice a1 xs.length q1)) w10 := ⟨(t10.cell (by omega) hob.1 hob.2).trans T9.1, (t10.cell (by omega) hob.1 hob.2).trans T9.2⟩)))
        have t11 := (((h2.trans t9).trans (RSet.Two.of_below (Below.refl _ _).drew)).trans (RSet.Two.of_below b9)).trans t10
        have HB10 := hide (show RSet.Built w.heap.size B mb n10 w10 (outL (dropG ms f t) (zs.take (k + 1))) by rw [unhide HSn]; exact hB10)
        clear T8 T9 T10 HC7 oc b9 t10 hB10 HB8 HPut HDk HJ t9
        go_wp2_with fail
        go_roundw
        case rel => exact ⟨k + 1, n10, by omega, by go_num, by omega, HB10, t11⟩
        case measure => simp [intOf]; omega
    · obtain rfl : k = l := by omega
      have hkz : k = zs.length := unhide HN
      have HRw := hide (RSet.built_rows (unhide HB) (outL_sorted (unhide HOK) k (by omega)) (by have := outL_len (dropG ms f t) (zs.take k); rw [List.length_take] at this; omega) (outL_ok (unhide HOK) (by omega)) (by omega))
      have HT := hide (show outL (dropG ms f t) (zs.take k) = drop ms f t zs by rw [unhide HR, List.take_of_length_le (by omega)])
      rw [unhide HT] at HRw
      clear hkz HB
      go_wp2_with fail
      refine (unhide HRw).mono ?_
      rintro e w9 ⟨r, rfl, ho, b9⟩
      have hb9 := hbel.trans (b9.mono (by omega))
      have HO9 := hide ho
      clear ho b9 HRw
      go_wp2_with fail
      go_ret
      exact ⟨r, rfl, unhide HO9, hb9⟩
end Go.Proofs.Ytdggffcibcggoaa.Row
