/- Strings turned round, and renamed. -/
import Derived.Test.YtopeppnajbnfgaaJK
import Derived.Test.YtopeppnajbnfgaaGC
namespace Go.Proofs.Ytopeppnajbnfgaa
open Go.RowKit
set_option maxHeartbeats 1000000
set_option maxRecDepth 100000
/-- The first so many seals in reverse order. -/
def backK (s : ByteArray) : Nat → ByteArray
  | 0 => ⟨#[]⟩
  | k + 1 => s.extract k (k + 1) ++ backK s k
theorem backK_size (s : ByteArray) : ∀ k, k ≤ s.size → (backK s k).size = k
  | 0, _ => rfl
  | k + 1, h => by
    show (s.extract k (k + 1) ++ backK s k).size = _
    rw [ByteArray.size_append, ByteArray.size_extract, backK_size s k (by omega)]
    omega
theorem backK_at (s : ByteArray) : ∀ k, k ≤ s.size → ∀ i, i < k → sb (backK s k) i = sb s (k - 1 - i)
  | 0, _, i, hi => absurd hi (by omega)
  | k + 1, h, i, hi => by
    have hz : (s.extract k (k + 1)).size = 1 := by rw [ByteArray.size_extract]; omega
    show sb (s.extract k (k + 1) ++ backK s k) i = _
    rcases i with _ | i
    · rw [sb_app_left (by omega), sb_ext (by omega) h]; rfl
    · have := sb_app_right (a := s.extract k (k + 1)) (b := backK s k) (i := i)
      rw [hz, Nat.add_comm 1 i] at this
      rw [this, backK_at s k (by omega) i (by omega)]
      congr 1
      omega
theorem back_rev (s : ByteArray) : Rev s (backK s s.size) := rev_of (backK_size s _ (Nat.le_refl _)) (backK_at s _ (Nat.le_refl _))
theorem back_any (s : ByteArray) (w : World) (hs : s.size ≤ 24) : Calls Try.prog 38 #[.string s] w fun e w' => e = .returned (.string (backK s s.size)) ∧ w' = w := by
  have HS := Lib.hid (backK_size s)
  go_enter Try.func38, Try.ntmps38
  go_wp2
  go_loopw [3, 4] (fun v i wr => ∃ k : Nat, i = .int .i64 k ∧ v = .string (backK s k) ∧ k ≤ s.size ∧ wr = w) (fun _ i _ => s.size - (intOf i).toNat)
  case atStart => exact ⟨0, rfl, rfl, by omega, rfl⟩
  case round =>
    obtain ⟨k, rfl, rfl, hk, rfl⟩ := hrel
    by_cases h : k < s.size
    · have g1 : decide (k < s.size) = true := decide_eq_true h
      have z1 := HS.out k hk
      have z2 : (s.extract k (k + 1)).size = 1 := by rw [ByteArray.size_extract]; omega
      go_wp2
      go_roundw
      case rel => exact ⟨k + 1, by go_num, by first | rfl | trivial, by omega, by first | rfl | trivial⟩
      case measure => simp [intOf]; omega
    · have HE := Lib.hid (show k = s.size by omega)
      have g1 : decide (k < s.size) = false := decide_eq_false h
      go_wp2
      go_ret
      rw [HE.out]
      exact ⟨rfl, rfl⟩
end Go.Proofs.Ytopeppnajbnfgaa
