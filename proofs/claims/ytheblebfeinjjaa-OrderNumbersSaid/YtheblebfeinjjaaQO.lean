/- The reference's place of an order. -/
import Derived.Test.YtheblebfeinjjaaQM
import Derived.Test.YtheblebfeinjjaaPC
import Derived.Test.YtheblebfeinjjaaPI
import Derived.Test.YtheblebfeinjjaaOB
namespace Go.Proofs.Ytheblebfeinjjaa
open Go.RowKit
set_option maxHeartbeats 1000000
set_option maxRecDepth 100000
/-- The sum of the first entries, each times the number of orders of those behind it. -/
def sfN (t : List Nat) (n : Nat) : Nat → Nat
  | 0 => 0
  | k + 1 => sfN t n k + getn t k * facN (n - 1 - k)
theorem sfN_pl (t : List Nat) (n : Nat) : ∀ k, k ≤ n → sfN t n k = plN t n k * facN (n - k)
  | 0, _ => by simp [sfN, plN]
  | k + 1, h => by
    obtain ⟨m, hm⟩ : ∃ m, n - k = m + 1 := ⟨n - k - 1, by omega⟩
    unfold sfN plN
    rw [sfN_pl t n k (by omega), show n - 1 - k = m by omega, show n - (k + 1) = m by omega, hm, Nat.add_mul]
    congr 1
    show plN t n k * ((m + 1) * facN m) = _
    rw [Nat.mul_assoc]
theorem sfN_all (t : List Nat) (n : Nat) : sfN t n n = plN t n n := by
  rw [sfN_pl t n n (Nat.le_refl _), Nat.sub_self]
  show plN t n n * 1 = _
  omega
theorem refIndex_any (A : Option Addr) (c : Nat) (l : List Int) (w : World) (h : IsO l) (ha : IntsAt w A l) :
    Calls Try.prog 26 #[.slice A l.length c] w fun e w' => e = .returned (.int .i64 (plN (tabN l) l.length l.length : Nat)) ∧ Below w.heap.size w w' := by
  have hle := h.le
  have HT := Lib.hid (refTable_any A c l w (by omega) ha)
  have HF := Lib.hid (fun k w (hk : k ≤ 18) => Factorial_any k w hk)
  have HTN : Hid (∀ k, k < l.length → geti (tabL l) k = (getn (tabN l) k : Nat)) := Lib.hid (fun k hk => by rw [tabL_at hk, tabN_at hk])
  have HSS : Hid (∀ k, sfN (tabN l) l.length (k + 1) = sfN (tabN l) l.length k + getn (tabN l) k * facN (l.length - 1 - k)) := Lib.hid (fun k => rfl)
  have HSB : Hid (∀ k, k ≤ l.length → sfN (tabN l) l.length k ≤ 479001600) := Lib.hid (fun k hk => by
    have h1 := plN_lt (tabN_ok l) k hk
    have h2 : facN l.length ≤ 479001600 := by
      have : ∀ n, n < 13 → facN n ≤ 479001600 := by decide
      exact this _ (by omega)
    rw [sfN_pl _ _ _ hk]
    rw [Nat.add_mul] at h1
    omega)
  have HEND := Lib.hid (sfN_all (tabN l) l.length)
  have HTL := Lib.hid (tabL_len l)
  clear h ha
  go_enter Try.func26, Try.ntmps26
  go_wp2_with (go_at_call 25; fail)
  refine HT.out.mono ?_
  rintro e w1 ⟨v1, rfl, o1, b1⟩
  obtain ⟨A1, c1, e1, -, -, i1⟩ := own_intsI o1
  rw [HTL.out] at e1
  subst e1
  have I1 := Lib.hid i1
  go_wp2
  go_loopw [4, 5] (fun sv i wr => ∃ k : Nat, k ≤ l.length ∧ i = .int .i64 k ∧ sv = .int .i64 (sfN (tabN l) l.length k : Nat) ∧ Below w1.heap.size w1 wr) (fun _ i _ => l.length - (intOf i).toNat)
  case atStart => exact ⟨0, by omega, rfl, rfl, Below.refl _ _⟩
  case round =>
    obtain ⟨k, hk, rfl, rfl, z1⟩ := hrel
    by_cases hlt : k < l.length
    · obtain ⟨bA, oA, rfl, -, f1⟩ := (I1.out.below z1) (by rw [HTL.out]; omega)
      have d1 := f1 k (by rw [HTL.out]; exact hlt)
      rw [HTN.out k hlt] at d1
      have HS1 := Lib.hid (HSS.out k)
      have hb0 := HSB.out k hk
      have hb1 := HSB.out (k + 1) hlt
      rw [HS1.out] at hb1
      obtain ⟨m, hm⟩ : ∃ m, l.length - 1 - k = m := ⟨_, rfl⟩
      have hmi : (l.length : Int) - 1 - (k : Int) = (m : Int) := by omega
      rw [hm] at HS1 hb1
      have HFQ := Lib.hid (fun (w : World) (n : Nat) => (HF.out m (World.drewN w n) (by omega)).mono (fun e w' h => (⟨h.1, n, h.2.symm⟩ : e = .returned (.int .i64 (facN m : Nat)) ∧ ∃ j, w' = World.drewN w j)))
      clear hm f1
      generalize sfN (tabN l) l.length k = S at *
      generalize getn (tabN l) k = x at *
      generalize facN m = f at *
      have hp1 : 0 ≤ (x : Int) * (f : Int) := by rw [← Int.natCast_mul]; omega
      have hp2 : (x : Int) * (f : Int) ≤ 479001600 := by rw [← Int.natCast_mul]; omega
      go_wp2
      refine wp_region_quiet_tail 13 (by kernel_rfl) (by kernel_rfl) ?_
      simp only [List.take_succ_cons, List.take_zero, List.drop_succ_cons, List.drop_zero]
      repeat go_big_quiet_step ((go_at_call 44; exact HFQ.out _ _))
      refine wpQuiet_nil ?_
      rintro _ ⟨nq, rfl⟩
      go_wp2
      go_roundw
      case rel => exact ⟨k + 1, by omega, by go_num, by rw [HS1.out, Int.natCast_add, Int.natCast_mul], z1.trans (below_drewN nq)⟩
      case measure => simp [intOf]; omega
    · obtain rfl : k = l.length := by omega
      rw [HEND.out]
      go_wp2
      go_ret
      exact ⟨rfl, b1.trans (z1.mono b1.size)⟩
end Go.Proofs.Ytheblebfeinjjaa
