/- The reference's blocks. -/
import Derived.Test.YtnnaaoobdofooaaSD
namespace Go.Proofs.Ytnnaaoobdofooaa
open Go.RowKit
set_option maxHeartbeats 1000000
set_option maxRecDepth 100000
theorem refAscending_any (A : Option Addr) (c : Nat) (xs : List Int) (n : Nat) (w : World) (hx : xs.length ≤ 1000000) (hn : n ≤ 10) (ha : IntsAt w A xs) :
    Calls Try.prog 60 #[.slice A xs.length c, .int .i64 n] w fun e w' => e = .returned (.bool (ag n xs xs.length)) ∧ ∃ m, w' = w.drewN m := by
  have HA := Lib.hid ha
  have HNO : Hid (∀ k, k < xs.length → ag n xs (k + 1) = false → ag n xs xs.length = false) := Lib.hid (fun k hk h => ag_no hk h)
  have HYS := Lib.hid (fun k h0 h1 h2 => ag_yes (n := n) (xs := xs) (k := k) h0 h1 h2)
  have HLA := Lib.hid (fun k h => ag_last (n := n) (xs := xs) (k := k) h)
  have HAT := Lib.hid (fun k j h hj => ag_at (n := n) (xs := xs) (k := k) (j := j) h hj)
  have HG0 : Hid (ag n xs 0 = true) := Lib.hid rfl
  clear ha
  go_enter Try.func60, Try.ntmps60
  go_wp2
  go_loopw [5] (fun i wr => ∃ k m : Nat, k ≤ xs.length ∧ i = .int .i64 k ∧ Hid (ag n xs k = true) ∧ wr = w.drewN m) (fun i _ => xs.length - (intOf i).toNat)
  case atStart => exact ⟨0, 0, by omega, rfl, HG0, rfl⟩
  case round =>
    clear HG0
    obtain ⟨k, m, hk, rfl, HG, rfl⟩ := hrel
    by_cases hlt : k < xs.length
    · have g1 : decide ((k : Int) < (xs.length : Int)) = true := decide_eq_true (by omega)
      obtain ⟨b, o, rfl, -, f1⟩ := HA.out (by omega)
      have e1 := f1 k hlt
      have HN1 := Lib.hid (HNO.out k hlt)
      have HY1 := Lib.hid (HYS.out k HG.out)
      have HLO : Hid (geti xs k ≤ lastN xs k → ag n xs (k + 1) = false) := Lib.hid (fun h => ag_low h)
      have HBI : Hid ((n : Int) ≤ geti xs k → ag n xs (k + 1) = false) := Lib.hid (fun h => ag_big h)
      by_cases hk0 : k = 0
      · have g5 : decide (0 < k) = false := decide_eq_false (by omega)
        have hl : lastN xs k = -1 := by subst hk0; rfl
        rw [hl] at HLO HY1
        clear f1 hk0 hl
        generalize geti xs k = x at *
        by_cases h0 : x < 0
        · have g2 : decide (x < 0) = true := decide_eq_true h0
          have HF := Lib.hid (HN1.out (HLO.out (by omega)))
          clear h0
          go_wp2
          refine wp_region_quiet_lit (by kernel_rfl) (by kernel_rfl) ?_
          repeat go_big_quiet_step ((fail))
          refine wpQuiet_nil ?_
          rintro _ ⟨nq, rfl⟩
          go_wp2
          go_ret
          exact ⟨by rw [HF.out]; rfl, _, World.drewN_drewN _ _ _⟩
        · have g2 : decide (x < 0) = false := decide_eq_false h0
          by_cases h1 : (n : Int) ≤ x
          · have g3 : decide ((n : Int) ≤ x) = true := decide_eq_true h1
            have HF := Lib.hid (HN1.out (HBI.out h1))
            clear h0 h1
            go_wp2
            refine wp_region_quiet_lit (by kernel_rfl) (by kernel_rfl) ?_
            repeat go_big_quiet_step ((fail))
            refine wpQuiet_nil ?_
            rintro _ ⟨nq, rfl⟩
            go_wp2
            go_ret
            exact ⟨by rw [HF.out]; rfl, _, World.drewN_drewN _ _ _⟩
          · have g3 : decide ((n : Int) ≤ x) = false := decide_eq_false h1
            have HG2 := Lib.hid (HY1.out (by omega) (by omega))
            clear h0 h1
            go_wp2
            refine wp_region_quiet_lit (by kernel_rfl) (by kernel_rfl) ?_
            repeat go_big_quiet_step ((fail))
            refine wpQuiet_nil ?_
            rintro _ ⟨nq, rfl⟩
            go_wp2
            go_roundw
            case rel => exact ⟨k + 1, m + nq, by omega, by go_num, HG2, (by first | rfl | exact World.drewN_drewN _ _ _)⟩
            case measure => simp [intOf]; omega
      · obtain ⟨q, rfl⟩ : ∃ q, k = q + 1 := ⟨k - 1, by omega⟩
        have e2 := f1 q (by omega)
        have hq := HAT.out (q + 1) q HG.out (by omega)
        rw [show lastN xs (q + 1) = geti xs q from rfl] at HLO HY1
        clear f1 hk0
        generalize geti xs (q + 1) = x at *
        generalize geti xs q = y at *
        by_cases h0 : x < 0
        · have g2 : decide (x < 0) = true := decide_eq_true h0
          have HF := Lib.hid (HN1.out (HLO.out (by omega)))
          clear h0
          go_wp2
          refine wp_region_quiet_lit (by kernel_rfl) (by kernel_rfl) ?_
          repeat go_big_quiet_step ((fail))
          refine wpQuiet_nil ?_
          rintro _ ⟨nq, rfl⟩
          go_wp2
          go_ret
          exact ⟨by rw [HF.out]; rfl, _, World.drewN_drewN _ _ _⟩
        · have g2 : decide (x < 0) = false := decide_eq_false h0
          by_cases h1 : (n : Int) ≤ x
          · have g3 : decide ((n : Int) ≤ x) = true := decide_eq_true h1
            have HF := Lib.hid (HN1.out (HBI.out h1))
            clear h0 h1
            go_wp2
            refine wp_region_quiet_lit (by kernel_rfl) (by kernel_rfl) ?_
            repeat go_big_quiet_step ((fail))
            refine wpQuiet_nil ?_
            rintro _ ⟨nq, rfl⟩
            go_wp2
            go_ret
            exact ⟨by rw [HF.out]; rfl, _, World.drewN_drewN _ _ _⟩
          · have g3 : decide ((n : Int) ≤ x) = false := decide_eq_false h1
            by_cases h2 : x ≤ y
            · have g4 : decide (x ≤ y) = true := decide_eq_true h2
              have HF := Lib.hid (HN1.out (HLO.out h2))
              clear h0 h1 h2
              go_wp2
              refine wp_region_quiet_lit (by kernel_rfl) (by kernel_rfl) ?_
              repeat go_big_quiet_step ((fail))
              refine wpQuiet_nil ?_
              rintro _ ⟨nq, rfl⟩
              go_wp2
              go_ret
              exact ⟨by rw [HF.out]; rfl, _, World.drewN_drewN _ _ _⟩
            · have g4 : decide (x ≤ y) = false := decide_eq_false h2
              have HG2 := Lib.hid (HY1.out (by omega) (by omega))
              clear h0 h1 h2
              go_wp2
              refine wp_region_quiet_lit (by kernel_rfl) (by kernel_rfl) ?_
              repeat go_big_quiet_step ((fail))
              refine wpQuiet_nil ?_
              rintro _ ⟨nq, rfl⟩
              go_wp2
              go_roundw
              case rel => exact ⟨q + 1 + 1, m + nq, by omega, by go_num, HG2, (by first | rfl | exact World.drewN_drewN _ _ _)⟩
              case measure => simp [intOf]; omega
    · obtain rfl : k = xs.length := by omega
      have g1 : decide ((xs.length : Int) < (xs.length : Int)) = false := decide_eq_false (by omega)
      have HF := HG
      go_wp2
      go_ret
      exact ⟨by rw [HF.out]; rfl, _, rfl⟩
theorem refBlock_any (A B : Option Addr) (c d : Nat) (L : List (List Int)) (xs : List Int) (w : World) (h : IsT L) (hx : xs.length ≤ 1000000) (hA : RowsAt w A L) (hB : IntsAt w B xs) :
    Calls Try.prog 33 #[.slice A L.length c, .slice B xs.length d] w fun e w' => e = .returned (.bool (blkB L xs)) ∧ Below w.heap.size w w' := by
  have hle := h.le
  have b0 : Below w.heap.size w w := Below.refl _ _
  by_cases hx0 : xs.length = 0
  · have HF : Hid (blkB L xs = false) := Lib.hid (by rw [List.eq_nil_of_length_eq_zero hx0]; exact blkB_nil L)
    have g1 : ((xs.length : Int) == 0) = true := by rw [beq_iff_eq]; omega
    clear hx0 hA hB h
    go_enter Try.func33, Try.ntmps33
    go_wp2
    go_ret
    exact ⟨by rw [HF.out]; rfl, b0⟩
  have g1 : ((xs.length : Int) == 0) = false := by rw [beq_eq_false_iff_ne]; omega
  have HAS := Lib.hid (refAscending_any B d xs L.length w hx hle hB)
  have hxp : 0 < xs.length := by omega
  clear hx0
  cases hag : ag L.length xs xs.length
  · have HF : Hid (blkB L xs = false) := Lib.hid (by unfold blkB; rw [hag]; rfl)
    rw [hag] at HAS
    clear hA hB h hag
    go_enter Try.func33, Try.ntmps33
    go_wp2_with (go_at_call 60; refine HAS.out.mono ?_; rintro e w1 ⟨rfl, n1, rfl⟩; replace b0 := b0.trans (below_drewN (B := w.heap.size) n1))
    go_ret
    exact ⟨by rw [HF.out]; rfl, b0⟩
  · have HA := Lib.hid hA
    have HB := Lib.hid hB
    have HRW := Lib.hid (fun i (hi : i < L.length) => h.row i hi)
    have HAT := Lib.hid (fun j (hj : j < xs.length) => ag_at hag hj)
    have HE : Hid (blkB L xs = decide (pc L.length (us L xs xs.length) < xs.length)) := Lib.hid (by unfold blkB; rw [hag, us_pc h]; rfl)
    have HUB := Lib.hid (fun k c (hc : c < L.length) => us_bit L xs k (c := c) (by omega))
    have HPS := Lib.hid (fun c => pc_succ c (us L xs xs.length))
    have HPL := Lib.hid (fun c => pc_le c (us L xs xs.length))
    have HU0 : Hid (∀ c, (us L xs 0).testBit c = false) := Lib.hid (fun c => by simp [us])
    have HP0 : Hid (pc 0 (us L xs xs.length) = 0) := Lib.hid (by simp [pc])
    rw [hag] at HAS
    clear hA hB h hag
    go_enter Try.func33, Try.ntmps33
    go_wp2_with (go_at_call 60; refine HAS.out.mono ?_; rintro e w1 ⟨rfl, n1, rfl⟩; replace b0 := b0.trans (below_drewN (B := w.heap.size) n1))
    go_loopw [6, 7] (fun nv cv wr => ∃ q : Nat, q ≤ L.length ∧ cv = .int .i64 q ∧ nv = .int .i64 (pc q (us L xs xs.length)) ∧ Below w.heap.size w wr) (fun _ cv _ => L.length - (intOf cv).toNat)
    case atStart => exact ⟨0, by omega, rfl, by rw [HP0.out]; rfl, b0⟩
    case round =>
      clear b0
      obtain ⟨q, hq, rfl, rfl, b0⟩ := hrel
      have hpl := HPL.out q
      by_cases hql : q < L.length
      · have g2 : decide ((q : Int) < (L.length : Int)) = true := decide_eq_true (by omega)
        have HS1 := Lib.hid (HPS.out q)
        generalize pc q (us L xs xs.length) = p at *
        go_wp2
        go_loopw [8, 9] (fun pv iv' wr2 => ∃ k : Nat, k ≤ xs.length ∧ iv' = .int .i64 k ∧ pv = .bool ((us L xs k).testBit q) ∧ Below w.heap.size w wr2) (fun _ iv' _ => xs.length - (intOf iv').toNat)
        case atStart => exact ⟨0, by omega, rfl, by rw [HU0.out], b0⟩
        case round =>
          clear b0
          obtain ⟨k, hk, rfl, rfl, b0⟩ := hrel
          by_cases hlt : k < xs.length
          · have g3 : decide ((k : Int) < (xs.length : Int)) = true := decide_eq_true (by omega)
            obtain ⟨b, o, rfl, -, f1⟩ := (HB.out.below b0) (by omega)
            have e1 := f1 k hlt
            have hat := HAT.out k hlt
            have HU1 := Lib.hid (HUB.out k q hql)
            clear f1
            generalize geti xs k = x at *
            obtain ⟨X, rfl⟩ : ∃ X : Nat, x = X := ⟨x.toNat, by omega⟩
            have hXL : X < L.length := by omega
            obtain ⟨bA, oA, hAe, -, hcs⟩ := (HA.out.below b0) (by omega)
            subst hAe
            obtain ⟨B2, cB, e2, i1⟩ := hcs X hXL
            rw [HRW.out X hXL] at e2
            obtain ⟨bB, oB, rfl, -, f2⟩ := i1 (by rw [HRW.out X hXL]; omega)
            have e3 := f2 q (by rw [HRW.out X hXL]; exact hql)
            rw [show geti (getl L X) q = gat L X q from rfl] at e3
            rw [Int.toNat_natCast] at HU1
            clear f2 hat hcs i1
            generalize gat L X q = y at *
            cases hb : (us L xs k).testBit q
            · cases hy : decide (0 < y)
              · have HU2 : Hid ((us L xs (k + 1)).testBit q = false) := Lib.hid (by rw [HU1.out, hb, hy]; rfl)
                clear hb HU1
                go_wp2
                first
                  | (go_quiet (fail); go_wp2; go_roundw)
                  | go_roundw
                case rel => exact ⟨k + 1, by omega, by go_num, by rw [HU2.out], by first | exact b0.trans (below_drewN _) | exact b0⟩
                case measure => simp [intOf]; omega
              · have HU2 : Hid ((us L xs (k + 1)).testBit q = true) := Lib.hid (by rw [HU1.out, hb, hy]; rfl)
                clear hb HU1
                go_wp2
                first
                  | (go_quiet (fail); go_wp2; go_roundw)
                  | go_roundw
                case rel => exact ⟨k + 1, by omega, by go_num, by rw [HU2.out], by first | exact b0.trans (below_drewN _) | exact b0⟩
                case measure => simp [intOf]; omega
            · have HU2 : Hid ((us L xs (k + 1)).testBit q = true) := Lib.hid (by rw [HU1.out, hb]; rfl)
              clear hb HU1 e2 e3
              go_wp2
              first
                | (go_quiet (fail); go_wp2; go_roundw)
                | go_roundw
              case rel => exact ⟨k + 1, by omega, by go_num, by rw [HU2.out], by first | exact b0.trans (below_drewN _) | exact b0⟩
              case measure => simp [intOf]; omega
          · obtain rfl : k = xs.length := by omega
            have g3 : decide ((xs.length : Int) < (xs.length : Int)) = false := decide_eq_false (by omega)
            cases hb : (us L xs xs.length).testBit q
            · have HS2 := HS1.out
              rw [hb] at HS2
              have HS3 := Lib.hid HS2
              clear hb HS2
              go_wp2
              exact ⟨⟨q + 1, by omega, rfl, by rw [HS3.out]; simp, b0⟩, by simp [intOf]; omega⟩
            · have HS2 := HS1.out
              rw [hb] at HS2
              have HS3 := Lib.hid HS2
              clear hb HS2
              go_wp2
              exact ⟨⟨q + 1, by omega, rfl, by rw [HS3.out]; simp, b0⟩, by simp [intOf]; omega⟩
      · obtain rfl : q = L.length := by omega
        have g2 : decide ((L.length : Int) < (L.length : Int)) = false := decide_eq_false (by omega)
        generalize pc L.length (us L xs xs.length) = p at *
        go_wp2
        go_ret
        exact ⟨by rw [HE.out]; first | rfl | exact ret_bool (by rw [Bool.eq_iff_iff]; first | (simp; done) | (simp; omega)), b0⟩
end Go.Proofs.Ytnnaaoobdofooaa
