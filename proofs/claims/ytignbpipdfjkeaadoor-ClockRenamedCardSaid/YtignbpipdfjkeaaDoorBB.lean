/- The reference's test of a machine. -/
import Derived.Test.YtignbpipdfjkeaaDoorAW
namespace Go.Proofs.YtignbpipdfjkeaaDoor
open Go.RowKit
set_option maxHeartbeats 1000000
set_option maxRecDepth 100000
theorem okM_no1 {L : List (List Int)} (h : L.length < 1 ∨ 4 < L.length) : okM L = false := by
  rw [Bool.eq_false_iff]; intro h2
  have := okM_iff.1 h2
  have := this.k1; have := (okM_iff.1 h2).k4; omega
theorem okM_row {L : List (List Int)} {r : Nat} (hr : r < L.length) (h : ¬ rowOk L r) : okM L = false := by
  rw [Bool.eq_false_iff]; intro h2
  have hM := okM_iff.1 h2
  exact h ⟨hM.row r hr, fun k hk => isQ_iff.2 ⟨hM.lo r k hr hk, hM.hi r k hr hk⟩⟩
theorem okM_fin {L : List (List Int)} (h1 : 1 ≤ L.length) (h4 : L.length ≤ 4) (h : ∀ r, r < L.length → rowOk L r) : okM L = (decide (1 ≤ nS L) && decide (nS L ≤ 9)) := by
  by_cases h5 : 1 ≤ nS L
  · by_cases h6 : nS L ≤ 9
    · rw [decide_eq_true h5, decide_eq_true h6]
      cases e : okM L
      · exact (okM_rows e h1 h4 h5 h6 h).elim
      · rfl
    · rw [decide_eq_true h5, decide_eq_false h6]
      rw [Bool.and_false, Bool.eq_false_iff]; intro h2
      exact h6 (okM_iff.1 h2).n9
  · rw [decide_eq_false h5]
    rw [Bool.false_and, Bool.eq_false_iff]; intro h2
    exact h5 (okM_iff.1 h2).n1
theorem refMachine_any (A : Option Addr) (c : Nat) (L : List (List Int)) (w : World) (hl : ∀ i, i < L.length → (getl L i).length ≤ 1000) (ha : RowsAt w A L) :
    Calls Tryd.prog 21 #[.slice A L.length c] w fun e w' => e = .returned (.bool (okM L)) ∧ w = w' := by
  by_cases h1 : L.length < 1
  · have g1 : decide ((L.length : Int) < 1) = true := decide_eq_true (by omega)
    have he := okM_no1 (L := L) (.inl h1)
    rw [he]
    clear h1 he
    go_enter Tryd.func21, Tryd.ntmps21
    go_wp2
    go_ret
    exact ⟨rfl, rfl⟩
  by_cases h4 : 4 < L.length
  · have g1 : decide ((L.length : Int) < 1) = false := decide_eq_false (by omega)
    have g2 : decide ((4 : Int) < (L.length : Int)) = true := decide_eq_true (by omega)
    have he := okM_no1 (L := L) (.inr h4)
    rw [he]
    clear h1 h4 he
    go_enter Tryd.func21, Tryd.ntmps21
    go_wp2
    go_ret
    exact ⟨rfl, rfl⟩
  have g1 : decide ((L.length : Int) < 1) = false := decide_eq_false (by omega)
  have g2 : decide ((4 : Int) < (L.length : Int)) = false := decide_eq_false (by omega)
  have HA := Lib.hid ha
  obtain ⟨b, o, rfl, hb, hc⟩ := ha (by omega)
  obtain ⟨B0, c0, h0, -⟩ := hc 0 (by omega)
  rw [show (getl L 0).length = nS L from rfl, Nat.add_zero] at h0
  have hn : nS L ≤ 1000 := hl 0 (by omega)
  have HL := Lib.hid hl
  have HR := Lib.hid (fun r (hr : r < L.length) => okM_row hr)
  have HF := Lib.hid (okM_fin (L := L) (by omega) (by omega))
  have HOK : Hid (∀ r, rowOk L r ↔ (getl L r).length = nS L ∧ ∀ k, k < nS L → isQ (nS L) (geti (getl L r) k) = true) := Lib.hid (fun r => Iff.rfl)
  clear ha hc hl
  generalize okM L = Y at *
  generalize nS L = n at *
  go_enter Tryd.func21, Tryd.ntmps21
  go_wp2
  clear h0 g1 g2 h1
  go_loopw [4] (fun i wr => ∃ r : Nat, r ≤ L.length ∧ i = .int .i64 r ∧ wr = w ∧ Hid (∀ r', r' < r → rowOk L r')) (fun i _ => L.length - (intOf i).toNat)
  case atStart => exact ⟨0, by omega, rfl, rfl, Lib.hid (fun r h => absurd h (Nat.not_lt_zero r))⟩
  case round =>
    obtain ⟨r, hr, rfl, rfl, HK⟩ := hrel
    by_cases hlt : r < L.length
    · have g3 : decide (r < L.length) = true := decide_eq_true hlt
      obtain ⟨bA, oA, hAe, hbA, hcA⟩ := HA.out (by omega)
      injection hAe with hAe
      injection hAe with hAe hAo
      subst hAe hAo
      obtain ⟨B1, cB, hcell, hrow⟩ := hcA r hlt
      have HI := Lib.hid hrow
      have HOKr := Lib.hid (HOK.out r)
      have HNO := Lib.hid (HR.out r hlt)
      have hXl := HL.out r hlt
      clear hcA hrow
      generalize getl L r = X at *
      by_cases hw : X.length = n
      · rw [hw] at hcell
        have HWW := Lib.hid hw
        have HJ0 : Hid (∀ k, k < 0 → isQ n (geti X k) = true) := Lib.hid (fun r h => absurd h (Nat.not_lt_zero r))
        clear hw
        go_wp2
        go_loopw [5] (fun i wr2 => ∃ k : Nat, k ≤ n ∧ i = .int .i64 k ∧ wr2 = wr ∧ Hid (∀ k', k' < k → isQ n (geti X k') = true)) (fun i _ => n - (intOf i).toNat)
        case atStart => exact ⟨0, by omega, rfl, rfl, HJ0⟩
        case round =>
          clear HJ0
          obtain ⟨k, hk, rfl, rfl, HJ⟩ := hrel
          by_cases hlk : k < n
          · have g5 : decide (k < n) = true := decide_eq_true hlk
            obtain ⟨bX, oX, rfl, hbX, hcX⟩ := HI.out (by rw [HWW.out]; omega)
            have hx := hcX k (by rw [HWW.out]; exact hlk)
            have HJ2 : Hid (isQ n (geti X k) = true → ∀ k', k' < k + 1 → isQ n (geti X k') = true) := Lib.hid (fun h0 k' hk' => by
              by_cases e : k' = k
              · subst e; exact h0
              · exact HJ.out k' (by omega))
            have HBAD : Hid (isQ n (geti X k) = false → false = Y) := Lib.hid (fun e => (HNO.out (fun h => by have := (HOKr.out.1 h).2 k hlk; rw [e] at this; cases this)).symm)
            clear hcX
            generalize geti X k = x at *
            by_cases hx0 : x < 0
            · have g6 : decide (x < 0) = true := decide_eq_true hx0
              have hy := HBAD.out (by unfold isQ; rw [decide_eq_false (by omega : ¬ 0 ≤ x)]; rfl)
              subst hy
              clear HBAD HJ2 hx0
              go_wp2
              go_ret
              exact ⟨rfl, rfl⟩
            · have g6 : decide (x < 0) = false := decide_eq_false hx0
              by_cases hx9 : (n : Int) ≤ x
              · have g7 : decide ((n : Int) ≤ x) = true := decide_eq_true hx9
                have hy := HBAD.out (by unfold isQ; rw [decide_eq_false (by omega : ¬ x < n), Bool.and_false])
                subst hy
                clear HBAD HJ2 hx0
                go_wp2
                go_ret
                exact ⟨rfl, rfl⟩
              · have g7 : decide ((n : Int) ≤ x) = false := decide_eq_false hx9
                have HJ3 := Lib.hid (HJ2.out (isQ_iff.2 ⟨by omega, by omega⟩))
                clear HBAD HJ2
                go_wp2
                go_roundw
                case rel => exact ⟨k + 1, by omega, by go_num, by first | rfl | trivial, HJ3⟩
                case measure => simp [intOf]; omega
          · obtain rfl : k = n := by omega
            have g5 : decide (k < k) = false := decide_eq_false hlk
            have hro := HOKr.out.2 ⟨HWW.out, HJ.out⟩
            have HK2 : Hid (∀ r', r' < r + 1 → rowOk L r') := Lib.hid (fun r' h => by
              by_cases e : r' = r
              · subst e; exact hro
              · exact HK.out r' (by omega))
            clear hro
            go_wp2
            go_roundw
            case rel => exact ⟨r + 1, by omega, by go_num, by first | rfl | trivial, HK2⟩
            case measure => simp [intOf]; omega
      · have g5 : ((X.length : Int) != (n : Int)) = true := by simp; omega
        have hy := HNO.out (fun h => hw (HOKr.out.1 h).1)
        subst hy
        clear HOKr HNO
        go_wp2
        go_ret
        exact ⟨rfl, rfl⟩
    · obtain rfl : r = L.length := by omega
      have g3 : decide (L.length < L.length) = false := decide_eq_false hlt
      have hy := HF.out HK.out
      by_cases h5 : 1 ≤ n
      · have g5 : decide (1 ≤ n) = true := decide_eq_true h5
        by_cases h6 : n ≤ 9
        · have g6 : decide ((n : Int) ≤ 9) = true := decide_eq_true (by omega)
          rw [g5, decide_eq_true h6] at hy
          subst hy
          go_wp2
          go_ret
          exact ⟨rfl, rfl⟩
        · have g6 : decide ((n : Int) ≤ 9) = false := decide_eq_false (by omega)
          rw [g5, decide_eq_false h6] at hy
          subst hy
          go_wp2
          go_ret
          exact ⟨rfl, rfl⟩
      · have g5 : decide (1 ≤ n) = false := decide_eq_false h5
        rw [g5, Bool.false_and] at hy
        subst hy
        go_wp2
        go_ret
        exact ⟨rfl, rfl⟩
end Go.Proofs.YtignbpipdfjkeaaDoor
