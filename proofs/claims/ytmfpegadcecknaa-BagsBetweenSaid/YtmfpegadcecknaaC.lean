/- Functions that read a list, or a list of pairs. -/
import Derived.Test.YtmfpegadcecknaaB
namespace Go.Proofs.Ytmfpegadcecknaa
open Go.RowKit
set_option maxHeartbeats 400000
def pA (ps : List (Int × Int)) (i : Nat) : Int := (ps.getD i (0, 0)).1
def pB (ps : List (Int × Int)) (i : Nat) : Int := (ps.getD i (0, 0)).2
def PairsAt (w : World) (A : Option Addr) (ps : List (Int × Int)) : Prop :=
  0 < ps.length → ∃ b o, A = some ⟨b, o, none⟩ ∧ b < w.heap.size ∧ ∀ i, i < ps.length → w.cell? ⟨b, o + i * 2, none⟩ = some (.int .i64 (pA ps i)) ∧ w.cell? ⟨b, o + i * 2 + 1, none⟩ = some (.int .i64 (pB ps i))
theorem heads_any (A B : Option Addr) (c d : Nat) (ps : List (Int × Int)) (ys : List Int) (w : World) (hx : ps.length ≤ 1000000) (ha : PairsAt w A ps) (hb : IntsAt w B ys) :
    Calls Try.prog 28 #[.slice A ps.length c, .slice B ys.length d] w fun e w' => e = .returned (.bool (decide (ys.length = ps.length ∧ ∀ i, i < ps.length → geti ys i = pA ps i ∨ geti ys i = pB ps i))) ∧ ∃ n, w' = w.drewN n := by
  by_cases hl : ys.length = ps.length
  · have hl2 : ((ys.length : Int) != ps.length) = false := by simp [hl]
    go_enter Try.func28, Try.ntmps28
    go_wp2
    go_loopw [5] (fun i wr => ∃ k n : Nat, k ≤ ps.length ∧ i = .int .i64 k ∧ wr = w.drewN n ∧ ∀ j, j < k → geti ys j = pA ps j ∨ geti ys j = pB ps j) (fun i _ => ps.length - (intOf i).toNat)
    case atStart => exact ⟨0, 0, by omega, rfl, rfl, by intro j hj; omega⟩
    case round =>
      obtain ⟨k, n, hk, rfl, rfl, hj⟩ := hrel
      have HJ := Lib.hid hj; clear hj
      by_cases hlt : k < ps.length
      · obtain ⟨b, o, rfl, hb1, hc⟩ := ha (by omega)
        obtain ⟨b', o', rfl, hb1', hc'⟩ := hb (by omega)
        obtain ⟨h1, h2⟩ := hc k hlt
        have h3 := hc' k (by omega)
        have h4 : k < ys.length := by omega
        clear hc hc'
        cases g1 : (geti ys k != pA ps k) <;> cases g2 : (geti ys k != pB ps k)
        all_goals
          go_wp2
          go_quiet (fail)
          go_wp2
        all_goals first
          | (go_roundw
             case rel =>
               refine ⟨k + 1, n + nq, by omega, by go_num, (by first | rfl | exact World.drewN_drewN _ _ _), fun j hj2 => ?_⟩
               by_cases h : j = k
               · subst h; simp at g1 g2; first | exact .inl g1 | exact .inr g2
               · exact HJ.out j (by omega)
             case measure => simp [intOf]; omega)
          | (go_ret
             refine ⟨ret_bool ?_, n + nq, (by first | rfl | exact World.drewN_drewN _ _ _)⟩
             symm; apply decide_eq_false; rintro ⟨_, hh⟩
             have := hh k hlt
             simp at g1 g2; rcases this with h | h
             · exact g1 h
             · exact g2 h)
      · go_wp2
        go_ret
        refine ⟨ret_bool ?_, n, rfl⟩
        symm; apply decide_eq_true; exact ⟨hl, fun i hi => HJ.out i (by omega)⟩
  · have hl2 : ((ys.length : Int) != ps.length) = true := by simp; omega
    go_enter Try.func28, Try.ntmps28
    go_wp2
    go_ret
    refine ⟨ret_bool ?_, 0, rfl⟩
    symm; apply decide_eq_false; rintro ⟨h, _⟩; exact hl h
/-- A list of different numbers from 0 to n - 1 in ascending order. -/
def asc (n : Nat) (xs : List Int) (k : Nat) : Prop := ∀ i, i < k → 0 ≤ geti xs i ∧ geti xs i < n ∧ (0 < i → geti xs (i - 1) < geti xs i)
instance (n : Nat) (xs : List Int) (k : Nat) : Decidable (asc n xs k) := by unfold asc; infer_instance
set_option maxHeartbeats 2000000 in
theorem Set_any (n : Nat) (A : Option Addr) (c : Nat) (xs : List Int) (w : World) (hx : xs.length ≤ 1000000) (ha : IntsAt w A xs) :
    Calls Try.prog 26 #[.int .i64 n, .slice A xs.length c] w fun e w' => e = .returned (.bool (decide (asc n xs xs.length ∧ 0 < xs.length))) ∧ ∃ n, w' = w.drewN n := by
  go_enter Try.func26, Try.ntmps26
  go_wp2
  go_loopw [5] (fun i wr => ∃ k m : Nat, k ≤ xs.length ∧ i = .int .i64 k ∧ wr = w.drewN m ∧ asc n xs k) (fun i _ => xs.length - (intOf i).toNat)
  case atStart => exact ⟨0, 0, by omega, rfl, rfl, by intro j hj; omega⟩
  case round =>
    obtain ⟨k, m, hk, rfl, rfl, hj⟩ := hrel
    have HJ := Lib.hid hj; clear hj
    by_cases hlt : k < xs.length
    · obtain ⟨b, o, rfl, hb1, hc⟩ := ha (by omega)
      have h1 := hc k hlt
      have h2 : 0 < k → w.cell? ⟨b, o + (k - 1), none⟩ = some (.int .i64 (geti xs (k - 1))) := fun h => hc (k - 1) (by omega)
      clear hc
      have h3 : 0 < k → w.cell? ⟨b, o + (k - 1), none⟩ = some (.int .i64 (geti xs (k - 1))) := h2
      cases g1 : decide (geti xs k < 0) <;> cases g2 : decide ((n:Int) ≤ geti xs k) <;> cases g3 : decide (0 < k) <;> cases g4 : decide (geti xs k ≤ geti xs (k - 1))
      all_goals
        first
          | (have h5 := h3 (by have := of_decide_eq_true g3; omega)
             have e3 : ((k:Int) - 1).toNat = k - 1 := by omega
             have e4 : 0 ≤ (k:Int) - 1 := by have := of_decide_eq_true g3; omega
             clear h2 h3)
          | clear h2 h3
        go_wp2
        refine wp_region_quiet_lit (by kernel_rfl) (by kernel_rfl) ?_
        repeat go_big_quiet_step (fail)
        refine wpQuiet_nil ?_
        rintro _ ⟨nq, rfl⟩
        go_wp2
        simp only [decide_eq_false_iff_not, decide_eq_true_eq] at g1 g2 g3 g4
      all_goals first
        | (go_roundw
           case rel =>
             refine ⟨k + 1, m + nq, by omega, by go_num, (by first | rfl | exact World.drewN_drewN _ _ _), fun j hj2 => ?_⟩
             by_cases h : j = k
             · subst h; exact ⟨by omega, by omega, fun _ => by omega⟩
             · exact HJ.out j (by omega)
           case measure => simp [intOf]; omega)
        | (go_ret
           refine ⟨ret_bool ?_, m + nq, (by first | rfl | exact World.drewN_drewN _ _ _)⟩
           symm; apply decide_eq_false; rintro ⟨hh, _⟩
           have := hh k hlt
           omega)
    · obtain rfl : k = xs.length := by omega
      go_wp2
      go_ret
      refine ⟨ret_bool ?_, m, rfl⟩
      rw [Bool.eq_iff_iff]; simp; exact fun _ => HJ.out
end Go.Proofs.Ytmfpegadcecknaa
