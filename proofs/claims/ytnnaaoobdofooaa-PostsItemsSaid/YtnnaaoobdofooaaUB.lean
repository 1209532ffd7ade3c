/- One list before another. -/
import Derived.Test.YtnnaaoobdofooaaUA
namespace Go.Proofs.Ytnnaaoobdofooaa
open Go.RowKit
set_option maxHeartbeats 1000000
set_option maxRecDepth 100000
theorem before_yes (A B : Option Addr) (c d : Nat) (xs ys : List Int) (w : World) (hx : xs.length ≤ 1000000) (hy : ys.length ≤ 1000000) (h : Bfr xs ys) (ha : IntsAt w A xs) (hb : IntsAt w B ys) :
    Calls Try.prog 46 #[.slice A xs.length c, .slice B ys.length d] w fun e w' => e = .returned (.bool true) ∧ ∃ m, w' = w.drewN m := by
  obtain ⟨i, h1, h2, h3, h4⟩ := h
  obtain ⟨a, oa, rfl, -, fa⟩ := ha (by omega)
  obtain ⟨b, ob, rfl, -, fb⟩ := hb (by omega)
  have HFA := Lib.hid fa
  have HFB := Lib.hid fb
  have H3 := Lib.hid h3
  have H4 := Lib.hid h4
  clear fa fb h3 h4 ha hb
  go_enter Try.func46, Try.ntmps46
  go_wp2
  go_loopw [5] (fun v wr => ∃ k m : Nat, k ≤ i ∧ v = .int .i64 k ∧ wr = w.drewN m) (fun v _ => i + 1 - (intOf v).toNat)
  case atStart => exact ⟨0, 0, by omega, rfl, rfl⟩
  case round =>
    obtain ⟨k, m, hk, rfl, rfl⟩ := hrel
    have g1 : decide ((k : Int) < (xs.length : Int)) = true := decide_eq_true (by omega)
    have g2 : decide ((k : Int) < (ys.length : Int)) = true := decide_eq_true (by omega)
    have e1 := HFA.out k (by omega)
    have e2 := HFB.out k (by omega)
    by_cases hki : k < i
    · have he := H3.out k hki
      rw [← he] at e2
      clear he
      generalize geti xs k = x at *
      have g3 : (x != x) = false := by simp
      go_wp2
      first
        | (go_quiet (fail); go_wp2; go_roundw)
        | go_roundw
      case rel => exact ⟨k + 1, _, by omega, by go_num, by first | rfl | exact World.drewN_drewN _ _ _⟩
      case measure => simp [intOf]; omega
    · obtain rfl : k = i := by omega
      have h5 := H4.out
      generalize geti xs k = x at *
      generalize geti ys k = y at *
      have g3 : (x != y) = true := by rw [bne_iff_ne]; omega
      have g4 : decide (x < y) = true := decide_eq_true h5
      clear h5 H4 hki
      go_wp2
      refine wp_region_quiet_lit (by kernel_rfl) (by kernel_rfl) ?_
      repeat go_big_quiet_step ((fail))
      refine wpQuiet_nil ?_
      rintro _ ⟨nq, rfl⟩
      go_wp2
      refine wp_region_quiet_lit (by kernel_rfl) (by kernel_rfl) ?_
      repeat go_big_quiet_step ((fail))
      refine wpQuiet_nil ?_
      rintro _ ⟨nq, rfl⟩
      go_wp2
      go_ret
      exact ⟨rfl, _, by first | rfl | (rw [World.drewN_drewN, World.drewN_drewN]) | exact World.drewN_drewN _ _ _⟩
end Go.Proofs.Ytnnaaoobdofooaa
