/- The reference: orders, inverses, tables, sums. -/
import Derived.Test.YtheblebfeinjjaaPE
import Derived.Test.YtheblebfeinjjaaOK
namespace Go.Proofs.Ytheblebfeinjjaa
open Go.RowKit
set_option maxHeartbeats 1000000
set_option maxRecDepth 100000
theorem okO_no {l : List Int} {i : Nat} (hi : i < l.length) (h : ¬ (1 ≤ geti l i ∧ geti l i ≤ l.length)) : okO l = false := by
  cases h2 : okO l
  · rfl
  · have := okO_iff.1 h2
    exact absurd ⟨this.lo i hi, this.hi i hi⟩ h
theorem okO_dup {l : List Int} {i k : Nat} (hi : i < l.length) (hk : k < i) (h : geti l k = geti l i) : okO l = false := by
  cases h2 : okO l
  · rfl
  · exact absurd h ((okO_iff.1 h2).ne i k hi hk)
theorem okO_len {l : List Int} (h : ¬ l.length ≤ 12) : okO l = false := by
  cases h2 : okO l
  · rfl
  · exact absurd (okO_iff.1 h2).le h
def oOk (l : List Int) (i : Nat) : Prop := 1 ≤ geti l i ∧ geti l i ≤ l.length ∧ ∀ k, k < i → geti l k ≠ geti l i
theorem okO_yes {l : List Int} (hl : l.length ≤ 12) (h : ∀ i, i < l.length → oOk l i) : okO l = true :=
  okO_iff.2 ⟨hl, fun i hi => (h i hi).1, fun i hi => (h i hi).2.1, fun i k hi hk => (h i hi).2.2 k hk⟩
theorem row_own {W : World} {g n : Nat} {xs : List Int} (h : Row W g 3 (iv xs)) (hl : xs.length = n) (hn : n ≤ 1000000) : W.ownsRow g 3 1 (.slice (some ⟨g, 0, none⟩) n n) n (iv xs) :=
  ⟨by rw [iv_len, hl, Nat.mul_one], .inr ⟨g, n, (iv xs).toArray, rfl, Nat.le_refl _, h, Nat.le_refl _, by unfold maxLen; omega, by rw [List.size_toArray, iv_len, hl]; omega, by rw [List.take_of_length_le (by rw [Array.length_toList, List.size_toArray, iv_len, hl]; omega)]⟩⟩
theorem refOrder_any (A : Option Addr) (c : Nat) (l : List Int) (w : World) (hx : l.length ≤ 1000000) (ha : IntsAt w A l) :
    Calls Try.prog 20 #[.slice A l.length c] w fun e w' => e = .returned (.bool (okO l)) ∧ Below w.heap.size w w' := by
  have HA := Lib.hid ha
  have b0 := Below.refl w.heap.size w
  have HN1 := Lib.hid (fun i (hi : i < l.length) h => okO_no (l := l) hi h)
  have HN2 := Lib.hid (fun i k (hi : i < l.length) (hk : k < i) h => okO_dup (l := l) hi hk h)
  have HN3 := Lib.hid (fun h => okO_len (l := l) h)
  have HY := Lib.hid (fun h1 h2 => okO_yes (l := l) h1 h2)
  have HK0 : Hid (∀ i, i < 0 → oOk l i) := Lib.hid (fun i hi => absurd hi (Nat.not_lt_zero i))
  clear ha
  go_enter Try.func20, Try.ntmps20
  go_wp2
  go_loopw [3] (fun i wr => ∃ k : Nat, k ≤ l.length ∧ i = .int .i64 k ∧ Hid (∀ i, i < k → oOk l i) ∧ Below w.heap.size w wr) (fun i _ => l.length - (intOf i).toNat)
  case atStart => exact ⟨0, by omega, rfl, HK0, b0⟩
  case round =>
    clear HK0 b0
    obtain ⟨i, hi, rfl, HK, b0⟩ := hrel
    by_cases hlt : i < l.length
    · obtain ⟨bA, oA, rfl, -, f1⟩ := (HA.out.below b0) (by omega)
      have d1 := f1 i hlt
      have H1 := Lib.hid (HN1.out i hlt)
      have H2 := Lib.hid (fun k => HN2.out i k hlt)
      have HXE : Hid (oOk l i ↔ 1 ≤ geti l i ∧ geti l i ≤ l.length ∧ ∀ k, k < i → geti l k ≠ geti l i) := Lib.hid Iff.rfl
      generalize hgx : geti l i = x at *
      have HX := Lib.hid hgx
      clear f1 hgx
      by_cases hx1 : 1 ≤ x ∧ x ≤ l.length
      · have g1 : decide (x < 1) = false := decide_eq_false (by omega)
        have g2 : decide ((l.length : Int) < x) = false := decide_eq_false (by omega)
        have HJ0 : Hid (∀ k, k < 0 → geti l k ≠ x) := Lib.hid (fun k hk => absurd hk (Nat.not_lt_zero k))
        clear H1
        go_wp2
        clear d1
        go_loopw [4] (fun j wr2 => ∃ k : Nat, k ≤ i ∧ j = .int .i64 k ∧ Hid (∀ k', k' < k → geti l k' ≠ x) ∧ Below w.heap.size w wr2) (fun j _ => i - (intOf j).toNat)
        case atStart => exact ⟨0, by omega, rfl, HJ0, b0⟩
        case round =>
          clear HJ0 b0
          obtain ⟨k, hk, rfl, HJ, b0⟩ := hrel
          by_cases hlk : k < i
          · obtain ⟨bB, oB, hBe, -, f2⟩ := (HA.out.below b0) (by omega)
            injection hBe with hBe
            injection hBe with e1 e2
            subst e1 e2
            have d2 := f2 i hlt
            have d3 := f2 k (by omega)
            rw [HX.out] at d2
            have HD := Lib.hid (H2.out k hlk)
            have HJ2 : Hid (geti l k ≠ x → ∀ k', k' < k + 1 → geti l k' ≠ x) := Lib.hid (fun h k' hk' => by
              by_cases e : k' = k
              · subst e; exact h
              · exact HJ.out k' (by omega))
            clear f2
            generalize geti l k = y at *
            by_cases hyx : y = x
            · have g3 : (y == x) = true := by rw [beq_iff_eq]; exact hyx
              have HF := Lib.hid (HD.out hyx)
              clear HD HJ2 hyx
              go_wp2
              refine wp_region_quiet_lit (by kernel_rfl) (by kernel_rfl) ?_
              repeat go_big_quiet_step ((fail))
              refine wpQuiet_nil ?_
              rintro _ ⟨nq, rfl⟩
              go_wp2
              go_ret
              exact ⟨by rw [HF.out]; rfl, b0.trans (below_drewN nq)⟩
            · have g3 : (y == x) = false := by rw [beq_eq_false_iff_ne]; exact hyx
              have HJ3 := Lib.hid (HJ2.out hyx)
              clear HD HJ2 hyx
              go_wp2
              refine wp_region_quiet_lit (by kernel_rfl) (by kernel_rfl) ?_
              repeat go_big_quiet_step ((fail))
              refine wpQuiet_nil ?_
              rintro _ ⟨nq, rfl⟩
              go_wp2
              go_roundw
              case rel => exact ⟨k + 1, by omega, by go_num, HJ3, b0.trans (below_drewN nq)⟩
              case measure => simp [intOf]; omega
          · obtain rfl : k = i := by omega
            have HK2 : Hid (∀ i, i < k + 1 → oOk l i) := Lib.hid (fun i' hi' => by
              by_cases e : i' = k
              · subst e; exact HXE.out.2 ⟨hx1.1, hx1.2, HJ.out⟩
              · exact HK.out i' (by omega))
            go_wp2
            go_roundw
            case rel => exact ⟨k + 1, by omega, by go_num, HK2, b0⟩
            case measure => simp [intOf]; omega
      · have HF := Lib.hid (H1.out hx1)
        by_cases hx2 : x < 1
        · have g1 : decide (x < 1) = true := decide_eq_true hx2
          go_wp2
          go_ret
          exact ⟨by rw [HF.out]; rfl, b0⟩
        · have g1 : decide (x < 1) = false := decide_eq_false hx2
          have g2 : decide ((l.length : Int) < x) = true := decide_eq_true (by omega)
          go_wp2
          go_ret
          exact ⟨by rw [HF.out]; rfl, b0⟩
    · obtain rfl : i = l.length := by omega
      by_cases h12 : l.length ≤ 12
      · have g1 : decide ((l.length : Int) ≤ 12) = true := decide_eq_true (by omega)
        have HF := Lib.hid (HY.out h12 HK.out)
        go_wp2
        go_ret
        exact ⟨by rw [HF.out]; rfl, b0⟩
      · have g1 : decide ((l.length : Int) ≤ 12) = false := decide_eq_false (by omega)
        have HF := Lib.hid (HN3.out h12)
        go_wp2
        go_ret
        exact ⟨by rw [HF.out]; rfl, b0⟩
theorem total_any (A : Option Addr) (c : Nat) (t : List Int) (w : World) (hx : t.length ≤ 1000000) (hb : ∀ k, k ≤ t.length → -1000000000 ≤ sumN t k ∧ sumN t k ≤ 1000000000) (ha : IntsAt w A t) :
    Calls Try.prog 55 #[.slice A t.length c] w fun e w' => e = .returned (.int .i64 (sumN t t.length)) ∧ w = w' := by
  have HA := Lib.hid ha
  have HB := Lib.hid hb
  clear ha hb
  go_enter Try.func55, Try.ntmps55
  go_wp2
  go_loopw [3, 4] (fun s i wr => ∃ k : Nat, k ≤ t.length ∧ i = .int .i64 k ∧ s = .int .i64 (sumN t k) ∧ w = wr) (fun _ i _ => t.length - (intOf i).toNat)
  case atStart => exact ⟨0, by omega, rfl, rfl, rfl⟩
  case round =>
    obtain ⟨k, hk, rfl, rfl, rfl⟩ := hrel
    by_cases hlt : k < t.length
    · obtain ⟨bA, oA, rfl, -, f1⟩ := HA.out (by omega)
      have d1 := f1 k hlt
      obtain ⟨h1, h2⟩ := HB.out k hk
      obtain ⟨h3, h4⟩ := HB.out (k + 1) hlt
      have HSS : Hid (sumN t (k + 1) = sumN t k + geti t k) := Lib.hid rfl
      rw [HSS.out] at h3 h4
      clear f1
      generalize geti t k = v at *
      obtain ⟨s, Hs⟩ : ∃ s, Hid (sumN t k = s) := ⟨_, Lib.hid rfl⟩
      rw [Hs.out] at h1 h2 h3 h4 ⊢
      go_wp2
      go_roundw
      case rel => exact ⟨k + 1, by omega, by go_num, by rw [HSS.out, Hs.out], by first | rfl | trivial⟩
      case measure => simp [intOf]; omega
    · obtain rfl : k = t.length := by omega
      go_wp2
      go_ret
      exact ⟨rfl, rfl⟩
theorem refInverse_any (A : Option Addr) (c : Nat) (l : List Int) (w : World) (h : IsO l) (ha : IntsAt w A l) :
    Calls Try.prog 24 #[.slice A l.length c] w fun e w' => ∃ v, e = .returned v ∧ w'.ownsRow w.heap.size 3 1 v l.length (iv (invL l)) ∧ Below w.heap.size w w' := by
  have HA := Lib.hid ha
  have hle := h.le
  have hmk := make_ints l.length (by omega)
  clear ha
  go_enter Try.func24, Try.ntmps24
  have q0 : Row (w.alloc (.cells (iv (List.replicate l.length 0)).toArray 3)) w.heap.size 3 (iv (inN' l 0)) := row_new rfl
  have b0 : Below w.heap.size w (w.alloc (.cells (iv (List.replicate l.length 0)).toArray 3)) := by (repeat (first | exact Below.refl _ _ | assumption | (refine Below.setCell ?_ (by first | exact Nat.le_refl _ | omega | (simp; done) | (simp; omega)) _) | (refine Below.trans ?_ (below_drewN _)) | (refine Below.drew ?_) | (refine Below.alloc ?_ (by first | exact Nat.le_refl _ | omega | (simp; done) | (simp; omega)) _) | (refine below_row ?_ (by first | exact Nat.le_refl _ | omega | (simp; done) | (simp; omega)) _)))
  have HV := Lib.hid (fun (k : Nat) (hk : k < l.length) => (⟨h.lo k hk, h.hi k hk⟩ : 1 ≤ geti l k ∧ geti l k ≤ l.length))
  have HL := Lib.hid (inN'_len l)
  have HST : Hid (∀ k, (inN' l k).set ((geti l k).toNat - 1) ((k : Int) + 1) = inN' l (k + 1)) := Lib.hid (fun k => rfl)
  clear h
  go_wp2
  clear hmk
  go_loopw [4] (fun i wr => ∃ k : Nat, k ≤ l.length ∧ i = .int .i64 k ∧ Row wr w.heap.size 3 (iv (inN' l k)) ∧ Below w.heap.size w wr) (fun i _ => l.length - (intOf i).toNat)
  case atStart => exact ⟨0, by omega, rfl, q0, b0⟩
  case round =>
    clear q0 b0
    obtain ⟨k, hk, rfl, q0, b0⟩ := hrel
    by_cases hlt : k < l.length
    · obtain ⟨bA, oA, rfl, hbA, f1⟩ := (HA.out.below b0) (by omega)
      have d1 := f1 k hlt
      obtain ⟨v1, v2⟩ := HV.out k hlt
      have f0 := q0.free ((geti l k).toNat - 1)
      have e0 := ivR q0 (i := (geti l k).toNat - 1) (by rw [HL.out]; omega)
      have HS := Lib.hid (HST.out k)
      clear f1
      generalize geti l k = v at *
      go_wp2
      go_roundw
      case rel =>
        refine ⟨k + 1, by omega, by go_num, ?_, b0.setCell (by dsimp only; omega) _⟩
        have h := q0.set (v.toNat - 1) (.int .i64 ((k : Int) + 1))
        rw [iv_set, HS.out] at h
        exact h
      case measure => simp [intOf]; omega
    · obtain rfl : k = l.length := by omega
      go_wp2
      go_ret
      exact ⟨_, rfl, row_own q0 (HL.out _) (by omega), b0⟩
/-- The first entries of the table. -/
def tbA (l : List Int) (k : Nat) : List Int := (tabL l).take k
theorem tbA_snoc {l : List Int} {k : Nat} (hk : k < l.length) : tbA l (k + 1) = tbA l k ++ [((smN l k l.length : Nat) : Int)] := by
  unfold tbA
  rw [take_snoc (by rw [tabL_len]; exact hk), tabL_at hk]
theorem tbA_all (l : List Int) : tbA l l.length = tabL l := by
  unfold tbA
  rw [List.take_of_length_le (by rw [tabL_len]; omega)]
theorem refTable_any (A : Option Addr) (c : Nat) (l : List Int) (w : World) (hx : l.length ≤ 1000000) (ha : IntsAt w A l) :
    Calls Try.prog 25 #[.slice A l.length c] w fun e w' => ∃ v, e = .returned v ∧ w'.ownsRow w.heap.size 3 1 v l.length (iv (tabL l)) ∧ Below w.heap.size w w' := by
  have HA := Lib.hid ha
  clear ha
  go_enter Try.func25, Try.ntmps25
  obtain ⟨j0, ji, jz0, jz1, jz2⟩ := info_parts info3
  have o0 : w.ownsRow w.heap.size 3 1 (.slice none 0 0) 0 (iv (tbA l 0)) := ⟨rfl, .inl ⟨rfl, rfl⟩⟩
  have b0 := Below.refl w.heap.size w
  have HSN := Lib.hid (fun k (hk : k < l.length) => tbA_snoc hk)
  have HEND : Hid (tbA l l.length = tabL l) := Lib.hid (tbA_all l)
  have HST : Hid (∀ i k, smN l i (k + 1) = smN l i k + if i ≤ k ∧ geti l k < geti l i then 1 else 0) := Lib.hid (fun i k => rfl)
  have HLW := Lib.hid (fun i k (hk : k ≤ i + 1) => smN_low l i k hk)
  have HLE := Lib.hid (fun i k => smN_le l i k)
  go_wp2
  go_loopw [3, 4] (fun v i wr => ∃ k : Nat, k ≤ l.length ∧ i = .int .i64 k ∧ wr.ownsRow w.heap.size 3 1 v k (iv (tbA l k)) ∧ Below w.heap.size w wr) (fun _ i _ => l.length - (intOf i).toNat)
  case atStart => exact ⟨0, by omega, rfl, o0, b0⟩
  case round =>
    clear o0 b0
    obtain ⟨i, hi, rfl, o0, b0⟩ := hrel
    by_cases hlt : i < l.length
    · have HS0 : Hid (smN l i (i + 1) = 0) := Lib.hid (HLW.out i (i + 1) (Nat.le_refl _))
      have HSNi := Lib.hid (HSN.out i hlt)
      obtain ⟨A2, c2, e2, -, -, -⟩ := own_intsI o0
      rw [show (tbA l i).length = i by unfold tbA; rw [List.length_take, tabL_len]; omega] at e2
      subst e2
      go_wp2
      go_loopw [5, 6] (fun n k wr2 => ∃ j : Nat, i + 1 ≤ j ∧ j ≤ l.length ∧ k = .int .i64 j ∧ n = .int .i64 (smN l i j) ∧ wr2.ownsRow w.heap.size 3 1 (.slice A2 i c2) i (iv (tbA l i)) ∧ Below w.heap.size w wr2) (fun _ k _ => l.length - (intOf k).toNat)
      case atStart => exact ⟨i + 1, by omega, by omega, by go_num, by rw [HS0.out]; rfl, o0, b0⟩
      case round =>
        clear o0 b0
        obtain ⟨j, hj1, hj, rfl, rfl, o0, b0⟩ := hrel
        by_cases hlj : j < l.length
        · obtain ⟨bB, oB, rfl, -, f2⟩ := (HA.out.below b0) (by omega)
          have d2 := f2 i hlt
          have d3 := f2 j hlj
          have HSS := Lib.hid (HST.out i j)
          have hle := HLE.out i j
          clear f2
          generalize geti l j = y at *
          generalize geti l i = x at *
          obtain ⟨m, hm⟩ : ∃ m, smN l i j = m := ⟨_, rfl⟩
          rw [hm] at HSS hle ⊢
          clear hm
          by_cases hyx : y < x
          · have g3 : decide (y < x) = true := decide_eq_true hyx
            have HS2 : Hid (smN l i (j + 1) = m + 1) := Lib.hid (by rw [HSS.out, if_pos ⟨by omega, hyx⟩])
            clear HSS hyx
            go_wp2
            refine wp_region_quiet_lit (by kernel_rfl) (by kernel_rfl) ?_
            repeat go_big_quiet_step ((fail))
            refine wpQuiet_nil ?_
            rintro _ ⟨nq, rfl⟩
            go_wp2
            go_roundw
            case rel => exact ⟨j + 1, by omega, by omega, by go_num, by rw [HS2.out] <;> go_num, o0.kept' (below_drewN nq), b0.trans (below_drewN nq)⟩
            case measure => simp [intOf]; omega
          · have g3 : decide (y < x) = false := decide_eq_false hyx
            have HS2 : Hid (smN l i (j + 1) = m) := Lib.hid (by rw [HSS.out, if_neg (fun h => hyx h.2)]; rfl)
            clear HSS hyx
            go_wp2
            refine wp_region_quiet_lit (by kernel_rfl) (by kernel_rfl) ?_
            repeat go_big_quiet_step ((fail))
            refine wpQuiet_nil ?_
            rintro _ ⟨nq, rfl⟩
            go_wp2
            go_roundw
            case rel => exact ⟨j + 1, by omega, by omega, by go_num, by rw [HS2.out], o0.kept' (below_drewN nq), b0.trans (below_drewN nq)⟩
            case measure => simp [intOf]; omega
        · obtain rfl : j = l.length := by omega
          obtain ⟨m, hm⟩ : ∃ m, smN l i l.length = m := ⟨_, rfl⟩
          rw [hm] at HSNi ⊢
          clear hm
          have hnr : Row (wr.alloc (.cells #[.int .i64 (m : Int)] 3)) wr.heap.size 3 [.int .i64 (m : Int)] := row_new rfl
          have hbs := b0.size
          have HSV : Hid (iv (tbA l (i + 1)) = iv (tbA l i) ++ [.int .i64 (m : Int)]) := Lib.hid (by rw [HSNi.out, iv_snoc])
          go_wp2_with (at_builtin; refine wpList_append_own_at _ rfl (.tmp 32) (.tmp 34) 22 rfl w.heap.size 3 j0 (.int .i64 0) 1 8 Try.underlying22 ji jz0 jz1 jz2 rfl (by decide) _ _ _ rfl (o0.alloc _) ⟨wr.heap.size, 0, none⟩ 1 1 [.int .i64 (m : Int)] rfl rfl (news_one hnr) (by simp [Value.oneCell']) (by unfold maxLen; omega) (by omega) (by simp; omega) ?_; intro v2 w2 o2 hg2 _ _; rw [← HSV.out] at o2; have b3 := b0.trans (app1' o0 hbs hg2))
          go_roundw
          case rel => exact ⟨i + 1, by omega, by go_num, o2, b3⟩
          case measure => simp [intOf]; omega
    · obtain rfl : i = l.length := by omega
      rw [HEND.out] at o0
      go_wp2
      go_ret
      exact ⟨_, rfl, o0, b0⟩
end Go.Proofs.Ytheblebfeinjjaa
