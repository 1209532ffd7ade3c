/- The reference's primes and sets. -/
import Derived.Test.YtokjdadgdfmffaaKR
namespace Go.Proofs.Ytokjdadgdfmffaa
open Go.RowKit
set_option maxHeartbeats 1000000
set_option maxRecDepth 100000
theorem RefPrime_any (p : Int) (w : World) : Calls Try.prog 36 #[.int .i64 p] w fun e w' => e = .returned (.bool (prV p)) ∧ w = w' := by
  by_cases h1 : p < 2
  · have g1 : decide (p < 2) = true := decide_eq_true h1
    have hv : Hid (prV p = false) := Lib.hid (decide_eq_false (fun h => by omega))
    clear h1
    go_enter Try.func36, Try.ntmps36
    go_wp2
    go_ret
    exact ⟨by rw [hv.out]; rfl, rfl⟩
  · have g1 : decide (p < 2) = false := decide_eq_false h1
    by_cases h2 : 97 < p
    · have g2 : decide (97 < p) = true := decide_eq_true h2
      have hv : Hid (prV p = false) := Lib.hid (decide_eq_false (fun h => by omega))
      clear h1 h2
      go_enter Try.func36, Try.ntmps36
      go_wp2
      go_ret
      exact ⟨by rw [hv.out]; rfl, rfl⟩
    · have g2 : decide (97 < p) = false := decide_eq_false h2
      have b1 : 2 ≤ p := by omega
      have b2 : p ≤ 97 := by omega
      clear h1 h2
      have H0 : Hid (∀ d : Nat, d < 2 → 2 ≤ d → p % d ≠ 0) := Lib.hid (fun d h1 h2 => by omega)
      go_enter Try.func36, Try.ntmps36
      go_wp2
      go_loop [3] (fun i => ∃ d : Nat, 2 ≤ d ∧ (d : Int) ≤ p ∧ i = .int .i64 d ∧ Hid (∀ e : Nat, e < d → 2 ≤ e → p % e ≠ 0)) (fun i => 100 - (intOf i).toNat)
      case atStart => exact ⟨2, by omega, by omega, rfl, H0⟩
      case round =>
        clear H0
        obtain ⟨d, hd, hdp, rfl, H0⟩ := hrel
        by_cases hlt : (d : Int) < p
        · by_cases h0 : p % d = 0
          · have g3 : (p % d == 0) = true := by simp [h0]
            have hv : Hid (prV p = false) := Lib.hid (decide_eq_false (fun h => h.2.2 d (by omega) hd h0))
            clear h0
            go_wp2
            go_ret
            exact ⟨by rw [hv.out]; rfl, rfl⟩
          · have g3 : (p % d == 0) = false := by simp [h0]
            have HN := Lib.hid h0
            clear h0
            go_wp2
            go_round
            case rel => exact ⟨d + 1, by omega, by omega, by go_num, Lib.hid fun e he he2 => by
              by_cases h : e = d
              · subst h; exact HN.out
              · exact H0.out e (by omega) he2⟩
            case measure => simp [intOf]; omega
        · obtain rfl : p = (d : Int) := by omega
          have hv : Hid (prV (d : Int) = true) := Lib.hid (decide_eq_true ⟨b1, b2, fun e he he2 => H0.out e (by simpa using he) he2⟩)
          go_wp2
          go_ret
          exact ⟨by rw [hv.out]; rfl, rfl⟩
theorem mem_take {xs : List Int} {k : Nat} {x : Int} : x ∈ xs.take k ↔ ∃ j, j < k ∧ j < xs.length ∧ geti xs j = x := by
  constructor
  · intro h
    obtain ⟨j, hj, e⟩ := List.mem_iff_getElem.1 h
    rw [List.length_take] at hj
    refine ⟨j, by omega, by omega, ?_⟩
    rw [geti_eq (by omega), ← e, List.getElem_take]
  · rintro ⟨j, h1, h2, e⟩
    rw [geti_eq h2] at e
    rw [← e]
    have : (xs.take k)[j]'(by rw [List.length_take]; omega) = xs[j] := List.getElem_take
    rw [← this]
    exact List.getElem_mem _
theorem RefSet_any (p : Int) (A : Option Addr) (c : Nat) (xs : List Int) (w : World) (hl : xs.length ≤ 1000000) (ha : IntsAt w A xs) :
    Calls Try.prog 37 #[.int .i64 p, .slice A xs.length c] w fun e w' => e = .returned (.bool (stV p xs)) ∧ Below w.heap.size w w' := by
  have HA := Lib.hid ha
  have H0 : Hid (∀ i, i < 0 → (0 ≤ geti xs i ∧ geti xs i < p) ∧ geti xs i ∉ xs.take i) := Lib.hid (fun i h => absurd h (Nat.not_lt_zero i))
  have hbr : Below w.heap.size w w := Below.refl _ _
  clear ha
  go_enter Try.func37, Try.ntmps37
  go_wp2
  go_loopw [5] (fun i wr => ∃ k : Nat, k ≤ xs.length ∧ i = .int .i64 k ∧ Below w.heap.size w wr ∧ Hid (∀ i, i < k → (0 ≤ geti xs i ∧ geti xs i < p) ∧ geti xs i ∉ xs.take i)) (fun i _ => xs.length - (intOf i).toNat)
  case atStart => exact ⟨0, by omega, rfl, hbr, H0⟩
  case round =>
    clear H0 hbr
    obtain ⟨k, hk, rfl, b0, H0⟩ := hrel
    by_cases hlt : k < xs.length
    · obtain ⟨b, o, hAe, hb, hc⟩ := (HA.out.below b0) (by omega)
      subst hAe
      have hcell := hc k hlt
      have hbad : ∀ h : ¬ ((0 ≤ geti xs k ∧ geti xs k < p) ∧ geti xs k ∉ xs.take k), stV p xs = false := fun h => decide_eq_false (fun h2 => h (h2.2 k hlt))
      have HB := Lib.hid hbad
      clear hc hbad
      by_cases h1 : geti xs k < 0
      · have hv := Lib.hid (HB.out (fun h => by omega))
        generalize geti xs k = x at *
        have g1 : decide (x < 0) = true := decide_eq_true h1
        clear h1
        go_wp2
        go_ret
        exact ⟨by rw [hv.out]; rfl, b0⟩
      · by_cases h2 : p ≤ geti xs k
        · have hv := Lib.hid (HB.out (fun h => by omega))
          generalize geti xs k = x at *
          have g1 : decide (x < 0) = false := decide_eq_false h1
          have g2 : decide (p ≤ x) = true := decide_eq_true h2
          clear h1 h2
          go_wp2
          go_ret
          exact ⟨by rw [hv.out]; rfl, b0⟩
        · have HX : Hid (0 ≤ geti xs k ∧ geti xs k < p) := Lib.hid (by omega)
          have hkk := Lib.hid (rfl : geti xs k = geti xs k)
          have g1 : decide (geti xs k < 0) = false := decide_eq_false h1
          have g2 : decide (p ≤ geti xs k) = false := decide_eq_false h2
          clear h1 h2
          have J0 : Hid (∀ j, j < 0 → geti xs j ≠ geti xs k) := Lib.hid (fun j h => absurd h (Nat.not_lt_zero j))
          generalize hx : geti xs k = x at *
          have HXE := Lib.hid hx
          clear hx hkk
          go_wp2
          clear hcell
          go_loopw [6] (fun i wr => ∃ j : Nat, j ≤ k ∧ i = .int .i64 j ∧ Below w.heap.size w wr ∧ Hid (∀ i, i < j → geti xs i ≠ x)) (fun i _ => k - (intOf i).toNat)
          case atStart => exact ⟨0, by omega, rfl, b0, J0⟩
          case round =>
            clear b0 J0 hb
            obtain ⟨j, hj, rfl, b0, J0⟩ := hrel
            by_cases hjt : j < k
            · obtain ⟨b', o', hAe, hb, hc⟩ := (HA.out.below b0) (by omega)
              injection hAe with hAe
              injection hAe with e1 e2
              subst e1 e2
              have hc1 := hc k hlt
              have hc2 := hc j (by omega)
              rw [HXE.out] at hc1
              clear hc
              by_cases hyx : geti xs j = x
              · have hv := Lib.hid (HB.out (fun h => h.2 (mem_take.2 ⟨j, hjt, by omega, hyx⟩)))
                generalize geti xs j = y at *
                have g3 : (y == x) = true := by simp [hyx]
                clear hyx
                go_wp2
                refine wp_region_quiet_lit (by kernel_rfl) (by kernel_rfl) ?_
                repeat go_big_quiet_step ((fail))
                refine wpQuiet_nil ?_
                rintro _ ⟨nq, rfl⟩
                go_wp2
                go_ret
                exact ⟨by rw [hv.out]; rfl, b0.trans (below_drewN nq)⟩
              · have HN := Lib.hid hyx
                generalize hyj : geti xs j = y at *
                have HYJ := Lib.hid hyj
                clear hyj
                have g3 : (y == x) = false := by simp [hyx]
                clear hyx
                go_wp2
                refine wp_region_quiet_lit (by kernel_rfl) (by kernel_rfl) ?_
                repeat go_big_quiet_step ((fail))
                refine wpQuiet_nil ?_
                rintro _ ⟨nq, rfl⟩
                go_wp2
                go_roundw
                case rel => exact ⟨j + 1, by omega, by go_num, b0.trans (below_drewN nq), Lib.hid fun i hi => by
                  by_cases e : i = j
                  · subst e; rw [HYJ.out]; exact HN.out
                  · exact J0.out i (by omega)⟩
                case measure => simp [intOf]; omega
            · obtain rfl : j = k := by omega
              go_wp2
              go_roundw
              case rel => exact ⟨j + 1, by omega, by go_num, b0, Lib.hid fun i hi => by
                by_cases e : i = j
                · subst e
                  refine ⟨by rw [HXE.out]; exact HX.out, fun h => ?_⟩
                  obtain ⟨i2, h1, h2, h3⟩ := mem_take.1 h
                  exact J0.out i2 h1 (by rw [h3, HXE.out])
                · exact H0.out i (by omega)⟩
              case measure => simp [intOf]; omega
    · obtain rfl : k = xs.length := by omega
      have hv : Hid (stV p xs = decide ((0 : Int) < xs.length)) := Lib.hid (by
        unfold stV
        rw [Bool.eq_iff_iff]
        simp only [decide_eq_true_eq]
        exact ⟨fun h => by omega, fun h => ⟨by omega, fun i hi => H0.out i hi⟩⟩)
      go_wp2
      go_ret
      exact ⟨by rw [hv.out]; simp, b0⟩
end Go.Proofs.Ytokjdadgdfmffaa
