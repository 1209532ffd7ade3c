/- Reading a set. -/
import Derived.Test.YtmfpegadcecknaaV
namespace Go.Proofs.Ytmfpegadcecknaa
open Go.RowKit
set_option maxHeartbeats 2000000
def mskTo (xs : List Int) : Nat → Nat
  | 0 => 0
  | k + 1 => sWith (mskTo xs k) (geti xs k).toNat
/-- The set that a list gives, 0 where it gives none. -/
def setV (n : Nat) (xs : List Int) : Nat := if asc n xs xs.length then mskTo xs xs.length else 0
theorem msk_lt {n : Nat} (hn : n ≤ 16) {xs : List Int} : ∀ k, asc n xs k → mskTo xs k < 65536
  | 0, _ => by unfold mskTo; omega
  | k + 1, h => with_lt (msk_lt hn k (fun i hi => h i (by omega))) (by have := h k (by omega); omega)
theorem readSet_any (n : Nat) (A : Option Addr) (c : Nat) (xs : List Int) (w : World) (hn : n ≤ 16) (hx : xs.length ≤ 1000000) (ha : IntsAt w A xs) :
    Calls Try.prog 45 #[.int .i64 n, .slice A xs.length c] w fun e w' => e = .returned (.tuple #[.int .u32 (setV n xs), .bool (decide (setV n xs ≠ 0))]) ∧ ∃ n, w' = w.drewN n := by
  have HA := Lib.hid ha
  clear ha
  go_enter Try.func45, Try.ntmps45
  go_wp2
  go_loopw [6, 7, 12] (fun s l i wr => ∃ k m : Nat, k ≤ xs.length ∧ i = .int .i64 k ∧ wr = w.drewN m ∧ asc n xs k ∧ s = .int .u32 (mskTo xs k) ∧ l = .int .i64 (if k = 0 then -1 else geti xs (k - 1))) (fun _ _ i _ => xs.length - (intOf i).toNat)
  case atStart => exact ⟨0, 0, by omega, rfl, rfl, by intro j hj; omega, rfl, rfl⟩
  case round =>
    obtain ⟨k, m, hk, rfl, rfl, hj, rfl, rfl⟩ := hrel
    have HJ := Lib.hid hj
    have hml := msk_lt hn k hj
    clear hj
    generalize hM : mskTo xs k = M at *
    have HM := Lib.hid hM
    clear hM
    by_cases hlt : k < xs.length
    · obtain ⟨b, o, rfl, hb1, hc⟩ := HA.out (by omega)
      have h1 := hc k hlt
      clear hc
      generalize hlst : (if k = 0 then -1 else geti xs (k - 1)) = lst
      have HL := Lib.hid hlst
      clear hlst
      generalize hy : geti xs k = y at *
      have HY := Lib.hid hy
      clear hy
      cases g1 : decide (y ≤ lst) <;> cases g2 : decide ((n:Int) ≤ y)
      all_goals
        first
          | (have hy0 : 0 ≤ y := by
               have h3 := of_decide_eq_false g1
               rw [← HL.out] at h3
               split at h3
               · omega
               · rename_i hk0
                 have := HJ.out (k - 1) (by omega)
                 omega
             have hyn : y < n := by have := of_decide_eq_false g2; omega
             obtain ⟨v, rfl⟩ : ∃ v : Nat, y = v := ⟨y.toNat, by omega⟩
             have HC := Lib.hid (fun w => with_any M v w (by omega) (by omega))
             have g2n : decide (n ≤ v) = false := decide_eq_false (by omega)
             clear hy0 hyn)
          | skip
      all_goals
        go_wp2_with (go_at_call 57; refine (HC.out _).mono ?_; rintro e w' ⟨rfl, rfl⟩)
      · go_roundw
        case rel =>
          refine ⟨k + 1, m, by omega, by go_num, rfl, fun j hj2 => ?_, ?_, ?_⟩
          · by_cases h : j = k
            · subst h
              have h3 := of_decide_eq_false g1
              have h4 := of_decide_eq_false g2
              rw [HY.out]
              refine ⟨by omega, by omega, fun hj0 => ?_⟩
              rw [← HL.out, if_neg (by omega)] at h3
              omega
            · exact HJ.out j (by omega)
          · rw [mskTo, HM.out, HY.out]; rfl
          · rw [if_neg (by omega), Nat.add_sub_cancel, HY.out]
        case measure => simp [intOf]; omega
      all_goals
           go_ret2
           have hbad : ¬ asc n xs xs.length := by
             intro hh
             have h5 := hh k hlt
             have h6 := HL.out
             rw [HY.out] at h5
             simp only [decide_eq_false_iff_not, decide_eq_true_eq] at g1 g2
             split at h6
             · omega
             · have := h5.2.2 (by omega); omega
           have e0 : setV n xs = 0 := by unfold setV; rw [if_neg hbad]
           rw [e0]
           exact ⟨rfl, m, rfl⟩
    · obtain rfl : k = xs.length := by omega
      generalize (if xs.length = 0 then -1 else geti xs (xs.length - 1)) = lst
      have e0 : setV n xs = M := by unfold setV; rw [if_pos HJ.out, HM.out]
      go_wp2
      go_ret2
      rw [e0]
      have e1 : ((M:Int) != 0) = decide (M ≠ 0) := by rw [Bool.eq_iff_iff]; simp
      exact ⟨by rw [← e1]; rfl, m, rfl⟩
end Go.Proofs.Ytmfpegadcecknaa
