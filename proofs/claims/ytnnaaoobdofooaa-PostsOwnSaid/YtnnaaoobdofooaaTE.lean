/- The first place of a number; the pairs of what is joined. -/
import Derived.Test.YtnnaaoobdofooaaSP
namespace Go.Proofs.Ytnnaaoobdofooaa
open Go.RowKit
set_option maxHeartbeats 1000000
set_option maxRecDepth 100000
/-- The first place, among the first ones, at which a number stands, or -1. -/
def fst1 (xs : List Int) (x : Int) : Nat → Int
  | 0 => -1
  | k + 1 => if fst1 xs x k = -1 then (if geti xs k = x then (k : Int) else -1) else fst1 xs x k
theorem fst1_stay {xs : List Int} {x : Int} {k : Nat} (h : fst1 xs x k ≠ -1) : ∀ d, fst1 xs x (k + d) = fst1 xs x k
  | 0 => rfl
  | d + 1 => by
    show (if fst1 xs x (k + d) = -1 then _ else fst1 xs x (k + d)) = _
    rw [fst1_stay h d, if_neg h]
theorem Index_any (A : Option Addr) (c : Nat) (xs : List Int) (x : Int) (w : World) (hx : xs.length ≤ 1000000) (ha : IntsAt w A xs) :
    Calls Try.prog 74 #[.slice A xs.length c, .int .i64 x] w fun e w' => e = .returned (.int .i64 (fst1 xs x xs.length)) ∧ ∃ m, w' = w.drewN m := by
  have HA := Lib.hid ha
  have HS : Hid (∀ k, fst1 xs x (k + 1) = if fst1 xs x k = -1 then (if geti xs k = x then (k : Int) else -1) else fst1 xs x k) := Lib.hid (fun k => rfl)
  have HST := Lib.hid (fun k (hk : k < xs.length) h => by have := fst1_stay (xs := xs) (x := x) (k := k + 1) h (xs.length - (k + 1)); rwa [show k + 1 + (xs.length - (k + 1)) = xs.length by omega] at this)
  have H0 : Hid (fst1 xs x 0 = -1) := Lib.hid rfl
  clear ha
  go_enter Try.func74, Try.ntmps74
  go_wp2
  go_loopw [8] (fun v wr => ∃ k n : Nat, k ≤ xs.length ∧ v = .int .i64 k ∧ Hid (fst1 xs x k = -1) ∧ wr = w.drewN n) (fun v _ => xs.length - (intOf v).toNat)
  case atStart => exact ⟨0, 0, by omega, rfl, H0, rfl⟩
  case round =>
    clear H0
    obtain ⟨k, n, hk, rfl, HF, rfl⟩ := hrel
    by_cases hlt : k < xs.length
    · have g1 : decide ((k : Int) < (xs.length : Int)) = true := decide_eq_true (by omega)
      obtain ⟨b, o, rfl, -, f1⟩ := HA.out (by omega)
      have e1 := f1 k hlt
      have hs := HS.out k
      rw [if_pos HF.out] at hs
      have HST1 := Lib.hid (HST.out k hlt)
      clear f1
      generalize geti xs k = y at *
      by_cases hy : y = x
      · have g2 : (x == y) = true := by simp [hy]
        rw [if_pos hy] at hs
        have HR : Hid (fst1 xs x xs.length = (k : Int)) := Lib.hid (by rw [HST1.out (by rw [hs]; omega), hs])
        clear hs hy HST1
        go_wp2
        first
          | (go_ret; exact ⟨by rw [HR.out]; rfl, n, rfl⟩)
          | skip
      · have g2 : (x == y) = false := by rw [beq_eq_false_iff_ne]; exact fun h => hy h.symm
        rw [if_neg hy] at hs
        have HF2 : Hid (fst1 xs x (k + 1) = -1) := Lib.hid hs
        clear hs hy HST1
        go_wp2
        go_roundw
        case rel => exact ⟨k + 1, n, by omega, by go_num, HF2, rfl⟩
        case measure => simp [intOf]; omega
    · obtain rfl : k = xs.length := by omega
      have g1 : decide ((xs.length : Int) < (xs.length : Int)) = false := decide_eq_false (by omega)
      go_wp2
      go_ret
      exact ⟨by rw [HF.out]; rfl, n, rfl⟩
end Go.Proofs.Ytnnaaoobdofooaa
