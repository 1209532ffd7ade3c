/- MarksExponents walked. -/
import Derived.Test.YtoklnpiehbnalaaBB
import Derived.Test.YtoklnpiehbnalaaAO
import Derived.Deep.RegionWith
namespace Go.Proofs.Ytoklnpiehbnalaa
open Go.RowKit Go.PlainAid
set_option maxHeartbeats 2000000
set_option maxRecDepth 100000
theorem nil_empty : (⟨#[]⟩ : ByteArray).toList.isEmpty = true := by rw [ba_list]; rfl
/-- The smallest period is the first one. -/
theorem perU_first {x : List Nat} {p : Nat} (h1 : 1 ≤ p) (h2 : perP x p = true) (h3 : ∀ q, 1 ≤ q → q < p → perP x q = false) : ∀ k, p ≤ k → ∃ L, perU x k = (p : Int) :: L := by
  have hz : ∀ k, k < p → perU x k = [] := by
    intro k hk
    induction k with
    | zero => rfl
    | succ k ih => rw [perU_no (h3 (k + 1) (by omega) hk), ih (by omega)]
  intro k hk
  obtain ⟨d, rfl⟩ : ∃ d, k = p + d := ⟨k - p, by omega⟩
  clear hk
  induction d with
  | zero =>
    obtain ⟨q, rfl⟩ : ∃ q, p = q + 1 := ⟨p - 1, by omega⟩
    refine ⟨[], ?_⟩
    show perU x (q + 1) = _
    rw [perU_yes h2, hz q (by omega)]; rfl
  | succ d ih =>
    obtain ⟨L, hL⟩ := ih
    show ∃ L, perU x (p + d + 1) = _
    cases hb : perP x (p + d + 1)
    · rw [perU_no hb]; exact ⟨L, hL⟩
    · rw [perU_yes hb, hL]; exact ⟨L ++ _, rfl⟩
theorem firstPer_min (x : List Nat) : ∀ f p, ∀ q, p ≤ q → q < firstPer x f p → perP x q = false
  | 0, p, q, h1, h2 => by
    have : firstPer x 0 p = p := rfl
    omega
  | f + 1, p, q, h1, h2 => by
    unfold firstPer at h2
    by_cases h : perP x p = true
    · rw [if_pos h] at h2; omega
    · rw [if_neg h] at h2
      rcases Nat.lt_or_ge p q with h3 | h3
      · exact firstPer_min x f (p + 1) q (by omega) h2
      · obtain rfl : q = p := by omega
        simpa using h
theorem mper_min {x : List Nat} {p q : Nat} (h1 : p ≤ q) (h2 : q < mper x p) : perP x q = false := firstPer_min x _ p q h1 h2
theorem perL_head {x : List Nat} (h : 1 ≤ x.length) : ∃ L, perL x = (mper x 1 : Int) :: L := by
  obtain ⟨h1, h2, h3⟩ := mper_le (x := x) (p := 1) h
  exact perU_first h1 h3 (fun q h4 h5 => mper_min h4 h5) _ h2
theorem marksExponents_no (s t : ByteArray) (B : Bool) (w : World)
    (H0 : Hid (∀ V, Calls Try.prog 19 #[.string s] V fun e w' => e = .returned (.string t) ∧ Below V.heap.size V w'))
    (H1 : Hid (∀ V, Calls Try.prog 29 #[.string t] V fun e w' => e = .returned (.tuple #[.agg #[.int .i64 0, .int .i64 0], .int .i64 2]) ∧ Below V.heap.size V w'))
    (H2 : Hid (∀ V, Calls Try.prog 30 #[.string t] V fun e w' => e = .returned (.tuple #[.agg #[.int .i64 0, .int .i64 0], .int .i64 0, .int .i64 0, .int .i64 2]) ∧ Below V.heap.size V w'))
    (H3 : Hid (∀ V, Calls Try.prog 23 #[.string t] V fun e w' => e = .returned (.bool B) ∧ V = w')) (hB : B = false ∨ t.toList.isEmpty = true) :
    Calls Try.prog 4 #[.string s] w fun e w' => e = .returned (.bool true) ∧ Below w.heap.size w w' := by
  have HAW := Lib.hid awake_any
  have b0 := Below.refl w.heap.size w
  rcases hB with rfl | hB
  · go_enter Try.func4, Try.ntmps4
    go_wp2_with (first
      | (go_at_call 19; (with_reducible refine (H0.out _).mono ?_); rintro e w1 ⟨rfl, b1⟩; replace b0 := b0.trans (b1.mono b0.size))
      | (go_at_call 29; (with_reducible refine (H1.out _).mono ?_); rintro e w1 ⟨rfl, b1⟩; replace b0 := (b0.trans (b1.mono b0.size)).alloc (by have := b0.size; have := b1.size; omega) (.cells #[.int .i64 0, .int .i64 0] 36); have r4 : Row (w1.alloc (.cells #[.int .i64 0, .int .i64 0] 36)) w1.heap.size 36 [.int .i64 0, .int .i64 0] := row_new rfl)
      | (go_at_call 30; (with_reducible refine (H2.out _).mono ?_); rintro e w2 ⟨rfl, b1⟩; replace b0 := (b0.trans (b1.mono b0.size)).alloc (by have := b0.size; have := b1.size; omega) (.cells #[.int .i64 0, .int .i64 0] 36); replace r4 := (r4.below b1).alloc (.cells #[.int .i64 0, .int .i64 0] 36); have r6 : Row (w2.alloc (.cells #[.int .i64 0, .int .i64 0] 36)) w2.heap.size 36 [.int .i64 0, .int .i64 0] := row_new rfl; have c40 := r4.cell 0; have c41 := r4.cell 1; have c60 := r6.cell 0; have c61 := r6.cell 1)
      | (go_at_call 23; (with_reducible refine (H3.out _).mono ?_); rintro e w3 ⟨rfl, rfl⟩)
      | (go_at_call 24; (with_reducible refine (HAW.out _).mono ?_); rintro e w3 ⟨rfl, b1⟩; replace b0 := b0.trans (b1.mono b0.size)))
    go_ret
    exact ⟨rfl, b0⟩
  · cases B
    · go_enter Try.func4, Try.ntmps4
      go_wp2_with (first
        | (go_at_call 19; (with_reducible refine (H0.out _).mono ?_); rintro e w1 ⟨rfl, b1⟩; replace b0 := b0.trans (b1.mono b0.size))
        | (go_at_call 29; (with_reducible refine (H1.out _).mono ?_); rintro e w1 ⟨rfl, b1⟩; replace b0 := (b0.trans (b1.mono b0.size)).alloc (by have := b0.size; have := b1.size; omega) (.cells #[.int .i64 0, .int .i64 0] 36); have r4 : Row (w1.alloc (.cells #[.int .i64 0, .int .i64 0] 36)) w1.heap.size 36 [.int .i64 0, .int .i64 0] := row_new rfl)
        | (go_at_call 30; (with_reducible refine (H2.out _).mono ?_); rintro e w2 ⟨rfl, b1⟩; replace b0 := (b0.trans (b1.mono b0.size)).alloc (by have := b0.size; have := b1.size; omega) (.cells #[.int .i64 0, .int .i64 0] 36); replace r4 := (r4.below b1).alloc (.cells #[.int .i64 0, .int .i64 0] 36); have r6 : Row (w2.alloc (.cells #[.int .i64 0, .int .i64 0] 36)) w2.heap.size 36 [.int .i64 0, .int .i64 0] := row_new rfl; have c40 := r4.cell 0; have c41 := r4.cell 1; have c60 := r6.cell 0; have c61 := r6.cell 1)
        | (go_at_call 23; (with_reducible refine (H3.out _).mono ?_); rintro e w3 ⟨rfl, rfl⟩)
        | (go_at_call 24; (with_reducible refine (HAW.out _).mono ?_); rintro e w3 ⟨rfl, b1⟩; replace b0 := b0.trans (b1.mono b0.size)))
      go_ret
      exact ⟨rfl, b0⟩
    · go_enter Try.func4, Try.ntmps4
      go_wp2_with (first
        | (go_at_call 19; (with_reducible refine (H0.out _).mono ?_); rintro e w1 ⟨rfl, b1⟩; replace b0 := b0.trans (b1.mono b0.size))
        | (go_at_call 29; (with_reducible refine (H1.out _).mono ?_); rintro e w1 ⟨rfl, b1⟩; replace b0 := (b0.trans (b1.mono b0.size)).alloc (by have := b0.size; have := b1.size; omega) (.cells #[.int .i64 0, .int .i64 0] 36); have r4 : Row (w1.alloc (.cells #[.int .i64 0, .int .i64 0] 36)) w1.heap.size 36 [.int .i64 0, .int .i64 0] := row_new rfl)
        | (go_at_call 30; (with_reducible refine (H2.out _).mono ?_); rintro e w2 ⟨rfl, b1⟩; replace b0 := (b0.trans (b1.mono b0.size)).alloc (by have := b0.size; have := b1.size; omega) (.cells #[.int .i64 0, .int .i64 0] 36); replace r4 := (r4.below b1).alloc (.cells #[.int .i64 0, .int .i64 0] 36); have r6 : Row (w2.alloc (.cells #[.int .i64 0, .int .i64 0] 36)) w2.heap.size 36 [.int .i64 0, .int .i64 0] := row_new rfl; have c40 := r4.cell 0; have c41 := r4.cell 1; have c60 := r6.cell 0; have c61 := r6.cell 1)
        | (go_at_call 23; (with_reducible refine (H3.out _).mono ?_); rintro e w3 ⟨rfl, rfl⟩)
        | (go_at_call 24; (with_reducible refine (HAW.out _).mono ?_); rintro e w3 ⟨rfl, b1⟩; replace b0 := b0.trans (b1.mono b0.size)))
      go_ret
      exact ⟨rfl, b0⟩
theorem marksExponents_yes (s t : ByteArray) (L : List Int) (l1 U1 U2 V1 V2 at_ num den : Int) (w : World)
    (H0 : Hid (∀ V, Calls Try.prog 19 #[.string s] V fun e w' => e = .returned (.string t) ∧ Below V.heap.size V w'))
    (H1 : Hid (∀ V, Calls Try.prog 29 #[.string t] V fun e w' => e = .returned (.tuple #[.agg #[.int .i64 U1, .int .i64 U2], .int .i64 0]) ∧ Below V.heap.size V w'))
    (H2 : Hid (∀ V, Calls Try.prog 30 #[.string t] V fun e w' => e = .returned (.tuple #[.agg #[.int .i64 V1, .int .i64 V2], .int .i64 at_, .int .i64 num, .int .i64 0]) ∧ Below V.heap.size V w'))
    (H3 : Hid (∀ V, Calls Try.prog 23 #[.string t] V fun e w' => e = .returned (.bool true) ∧ V = w')) (hB : t.toList.isEmpty = false)
    (H4 : Hid (∀ V, Calls Try.prog 28 #[.string t] V (NewL V (l1 :: L)))) 
    (H5 : Hid (∀ V, Calls Try.prog 31 #[.int .i64 t.size, .int .i64 l1] V fun e w' => e = .returned (.agg #[.int .i64 U1, .int .i64 U2]) ∧ Below V.heap.size V w'))
    (H6 : Hid (∀ V, Calls Try.prog 32 #[.string t] V fun e w' => e = .returned (.tuple #[.int .i64 num, .int .i64 den, .int .i64 at_]) ∧ ∃ n, w' = V.drewN n))
    (H7 : Hid (∀ V, Calls Try.prog 31 #[.int .i64 num, .int .i64 den] V fun e w' => e = .returned (.agg #[.int .i64 V1, .int .i64 V2]) ∧ Below V.heap.size V w')) :
    Calls Try.prog 4 #[.string s] w fun e w' => e = .returned (.bool true) ∧ Below w.heap.size w w' := by
  have HAW := Lib.hid awake_any
  have b0 := Below.refl w.heap.size w
  go_enter Try.func4, Try.ntmps4
  go_wp2_with (first
    | (go_at_call 19; (with_reducible refine (H0.out _).mono ?_); rintro e w1 ⟨rfl, b1⟩; replace b0 := b0.trans (b1.mono b0.size))
    | (go_at_call 29; (with_reducible refine (H1.out _).mono ?_); rintro e w1 ⟨rfl, b1⟩; replace b0 := (b0.trans (b1.mono b0.size)).alloc (by have := b0.size; have := b1.size; omega) (.cells #[.int .i64 U1, .int .i64 U2] 36); have r4 : Row (w1.alloc (.cells #[.int .i64 U1, .int .i64 U2] 36)) w1.heap.size 36 [.int .i64 U1, .int .i64 U2] := row_new rfl)
    | (go_at_call 30; (with_reducible refine (H2.out _).mono ?_); rintro e w2 ⟨rfl, b1⟩; replace b0 := (b0.trans (b1.mono b0.size)).alloc (by have := b0.size; have := b1.size; omega) (.cells #[.int .i64 V1, .int .i64 V2] 36); replace r4 := (r4.below b1).alloc (.cells #[.int .i64 V1, .int .i64 V2] 36); have r6 : Row (w2.alloc (.cells #[.int .i64 V1, .int .i64 V2] 36)) w2.heap.size 36 [.int .i64 V1, .int .i64 V2] := row_new rfl)
    | (go_at_call 23; (with_reducible refine (H3.out _).mono ?_); rintro e w3 ⟨rfl, rfl⟩))
  generalize World.alloc _ (.cells #[.int .i64 V1, .int .i64 V2] 36) = W at *
  have k40 : W.cell? ⟨w1.heap.size, 0, none⟩ = some (.int .i64 U1) := r4.cell 0
  have k41 : W.cell? ⟨w1.heap.size, 1, none⟩ = some (.int .i64 U2) := r4.cell 1
  have hi36 : (Try.prog.info? 36).map (·.size) = some ([.int .i64 U1, .int .i64 U2] : List Value).length := info36
  refine wp_region_held_drew (S := fun V => Row V w1.heap.size 36 [.int .i64 U1, .int .i64 U2] ∧ Row V w2.heap.size 36 [.int .i64 V1, .int .i64 V2] ∧ Below w.heap.size w V) (by kernel_rfl) ⟨r4.drew, r6.drew, b0.drew⟩ (fun hH => ?_)
  try simp only [Act.put]
  clear r4 r6 b0 k40 k41
  generalize World.drew W = Wd at *
  refine wpAnyH_take (i := 0) (v := .agg #[.int .i64 U1, .int .i64 U2]) rfl (by kernel_rfl) (by kernel_rfl) (by kernel_rfl) (fun _ _ _ h => h) (yieldsIf_load_mid (by rfl) _ _ rfl _ _ rfl _ _ (fun V hV => hV.1.range) Try.underlying36 rfl hi36) hH ?_
  simp only [List.getElem_toArray, List.getElem_cons_zero, Act.put, List.setIfInBounds_toArray, List.set_cons_zero, List.set_cons_succ]
  refine wpAnyH_take (i := 1) (v := .string t) rfl (by kernel_rfl) (by kernel_rfl) (by kernel_rfl) (fun _ _ _ h => h) (Or.inl ⟨by rfl, fun V hV => ?_⟩) hH ?_
  · go_simp
  simp only [List.getElem_toArray, List.getElem_cons_zero, List.getElem_cons_succ, Act.put, List.setIfInBounds_toArray, List.set_cons_zero, List.set_cons_succ]
  refine wpAnyH_take (i := 2) (v := .int .i64 t.size) rfl (by kernel_rfl) (by kernel_rfl) (by kernel_rfl) (fun _ _ _ h => h) (Or.inl ⟨by rfl, fun V hV => ?_⟩) hH ?_
  · go_simp
  simp only [List.getElem_toArray, List.getElem_cons_zero, List.getElem_cons_succ, Act.put, List.setIfInBounds_toArray, List.set_cons_zero, List.set_cons_succ]
  refine wpAnyH_take (i := 3) (v := .string t) rfl (by kernel_rfl) (by kernel_rfl) (by kernel_rfl) (fun _ _ _ h => h) (Or.inl ⟨by rfl, fun V hV => ?_⟩) hH ?_
  · go_simp
  simp only [List.getElem_toArray, List.getElem_cons_zero, List.getElem_cons_succ, Act.put, List.setIfInBounds_toArray, List.set_cons_zero, List.set_cons_succ]
  refine wpAnyH_ready (rs := [4]) (by kernel_rfl) (by simp) ?_
  refine AllReadyH.cons rfl (fun K hK => ?_) AllReadyH.nil
  go_simp
  refine (H4.out _).mono ?_
  rintro e w3 ⟨v3, rfl, o3, b3⟩
  go_wp2_with fail
  refine hK.out _ _ ⟨hH.1.below b3, hH.2.1.below b3, hH.2.2.trans (b3.mono hH.2.2.size)⟩ (fun hH => ?_)
  clear hK K
  obtain ⟨A3, c3, rfl, -, -, i3⟩ := own_intsI o3
  obtain ⟨g3, p3, rfl, hg3, hc3⟩ := i3 (by simp)
  have hc30 : w3.cell? ⟨g3, p3, none⟩ = some (.int .i64 l1) := hc3 0 (by simp)
  clear hc3 o3 i3
  refine wpAnyH_ready (rs := [5]) (by kernel_rfl) (by simp) ?_
  refine AllReadyH.cons rfl (fun K hK => ?_) AllReadyH.nil
  go_simp
  refine hK.out _ _ hH (fun hH => ?_)
  clear hK K
  refine wpAnyH_ready (rs := [6]) (by kernel_rfl) (by simp) ?_
  refine AllReadyH.cons rfl (fun K hK => ?_) AllReadyH.nil
  go_simp
  refine hK.out _ _ hH (fun hH => ?_)
  clear hK K
  refine wpAnyH_ready (rs := [7]) (by kernel_rfl) (by simp) ?_
  refine AllReadyH.cons rfl (fun K hK => ?_) AllReadyH.nil
  go_simp
  refine (H5.out _).mono ?_
  rintro e w4 ⟨rfl, b4⟩
  go_wp2_with fail
  refine hK.out _ _ ⟨hH.1.below b4, hH.2.1.below b4, hH.2.2.trans (b4.mono hH.2.2.size)⟩ (fun hH => ?_)
  clear hK K
  refine wpAnyH_ready (rs := [8]) (by kernel_rfl) (by simp) ?_
  refine AllReadyH.cons rfl (fun K hK => ?_) AllReadyH.nil
  go_simp
  refine hK.out _ _ hH (fun hH => ?_)
  clear hK K
  refine wpAnyH_ready (rs := [9]) (by kernel_rfl) (by simp) ?_
  refine AllReadyH.cons rfl (fun K hK => ?_) AllReadyH.nil
  go_simp
  refine hK.out _ _ hH (fun hH => ?_)
  clear hK K
  refine wpAnyH_ready (rs := [10]) (by kernel_rfl) (by simp) ?_
  refine AllReadyH.cons rfl (fun K hK => ?_) AllReadyH.nil
  go_simp
  refine hK.out _ _ hH (fun hH => ?_)
  clear hK K
  refine wpAnyH_ready (rs := [11]) (by kernel_rfl) (by simp) ?_
  refine AllReadyH.cons rfl (fun K hK => ?_) AllReadyH.nil
  go_simp
  refine hK.out _ _ hH (fun hH => ?_)
  clear hK K
  refine wpAnyH_ready (rs := [12]) (by kernel_rfl) (by simp) ?_
  refine AllReadyH.cons rfl (fun K hK => ?_) AllReadyH.nil
  go_simp
  refine hK.out _ _ hH (fun hH => ?_)
  clear hK K
  refine wpAnyH_done (by kernel_rfl) ?_ _
  obtain ⟨r4, r6, b0⟩ := hH
  clear r4
  go_wp2_with (go_at_call 32; (with_reducible refine (H6.out _).mono ?_); rintro e w5 ⟨rfl, m5, rfl⟩; replace r6 := r6.drewN m5; replace b0 := b0.trans (below_drewN m5); generalize World.drewN _ m5 = w6 at *; have k60 : w6.cell? ⟨w2.heap.size, 0, none⟩ = some (.int .i64 V1) := r6.cell 0; have k61 : w6.cell? ⟨w2.heap.size, 1, none⟩ = some (.int .i64 V2) := r6.cell 1)
  go_region_held3 (fun w' => w'.cell? ⟨w2.heap.size, 0, none⟩ = some (.int .i64 V1) ∧ w'.cell? ⟨w2.heap.size, 1, none⟩ = some (.int .i64 V2)) (first | assumption | exact ⟨k60, k61⟩ | exact ⟨j60, j61⟩ | exact ⟨i60, i61⟩)
    (first
      | (go_at_call 31; (with_reducible refine (H7.out _).mono ?_); rintro e w7 ⟨rfl, b7⟩; have r67 := r6.drew.below b7; have b07 := b0.drew.trans (b7.mono b0.drew.size); have j60 : w7.cell? ⟨w2.heap.size, 0, none⟩ = some (.int .i64 V1) := r67.cell 0; have j61 : w7.cell? ⟨w2.heap.size, 1, none⟩ = some (.int .i64 V2) := r67.cell 1)
      | (go_at_call 24; (with_reducible refine (HAW.out _).mono ?_); rintro e w8 ⟨rfl, b8⟩; have r68 := r67.below b8; have b08 := b07.trans (b8.mono b07.size); have i60 : w8.cell? ⟨w2.heap.size, 0, none⟩ = some (.int .i64 V1) := r68.cell 0; have i61 : w8.cell? ⟨w2.heap.size, 1, none⟩ = some (.int .i64 V2) := r68.cell 1))
  go_wp2
  go_ret
  exact ⟨rfl, b08⟩
theorem marksExponents_any (s : ByteArray) (w : World) (hs : s.size ≤ maxLen) :
    Calls Try.prog 4 #[.string s] w fun e w' => e = .returned (.bool true) ∧ Below w.heap.size w w' := by
  unfold maxLen at hs
  have hl := shB_len s
  cases h : okB (shB s)
  · have H3 := Lib.hid (fun V => refWord_any (shB s) V (by omega))
    rw [h] at H3
    exact marksExponents_no s (shB s) false w (Lib.hid (fun V => short_call s V (by omega))) (Lib.hid (fun V => Exponent_no (shB s) V (by omega) h)) (Lib.hid (fun V => Greatest_no (shB s) V (by omega) h)) H3 (.inl rfl)
  · obtain ⟨x, hx, hok, hl⟩ := okB_word h
    have H0 : Hid (∀ V, Calls Try.prog 19 #[.string s] V fun e w' => e = .returned (.string (wS x)) ∧ Below V.heap.size V w') := Lib.hid (fun V => by rw [← hx]; exact short_call s V (by omega))
    have H3 := Lib.hid (fun V => refWord_any (wS x) V (by rw [wS_len]; omega))
    rw [okB_wS hok hl] at H3
    rcases Nat.eq_zero_or_pos x.length with h0 | h1
    · have hnil : x = [] := List.eq_nil_of_length_eq_zero h0
      subst hnil
      exact marksExponents_no s ⟨#[]⟩ true w H0 (Lib.hid (fun V => Exponent_nil V)) (Lib.hid (fun V => Greatest_nil V)) H3 (.inr nil_empty)
    · obtain ⟨hm1, hm2, hm3⟩ := mper_le (x := x) (p := 1) h1
      obtain ⟨f1, f2, f3, f4⟩ := grT_fit h1
      have fn := grT_num h1
      obtain ⟨L, hL⟩ : ∃ L, perL x = (mper x 1 : Int) :: L := perL_head h1
      have H4 : Hid (∀ V, Calls Try.prog 28 #[.string (wS x)] V (NewL V ((mper x 1 : Int) :: L))) := Lib.hid (fun V => by rw [← hL]; exact refPeriods_any x V hok (by omega))
      have H5 : Hid (∀ V, Calls Try.prog 31 #[.int .i64 (wS x).size, .int .i64 (mper x 1 : Nat)] V fun e w' => e = .returned (frc x.length (mper x 1)) ∧ Below V.heap.size V w') := Lib.hid (fun V => by rw [wS_len]; exact reduced_any x.length (mper x 1) V h1 (by omega) (by omega))
      exact marksExponents_yes s (wS x) L (mper x 1 : Nat) _ _ _ _ _ _ _ w H0 (Lib.hid (fun V => Exponent_yes x V hok h1 hl)) (Lib.hid (fun V => Greatest_yes x V hok h1 hl)) H3 (not_empty h1) H4 H5 (Lib.hid (fun V => refGreatest_any x V hok h1 hl)) (Lib.hid (fun V => reduced_any (grT x).1 (grT x).2.1 V fn (by omega) (by omega)))
end Go.Proofs.Ytoklnpiehbnalaa
