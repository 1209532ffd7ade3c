/- The program computes the simple results that every statement asks for. -/
import Derived.Test.YtmfpegadcecknaaAP
namespace Go.Proofs.Ytmfpegadcecknaa
open Go.RowKit
set_option maxHeartbeats 1000000
set_option maxRecDepth 100000
def es4 : List (Int × Int) := [(0, 1), (0, 2), (1, 2), (2, 3)]
def gs4 : List Nat := [6, 5, 11, 4, 0, 0, 0, 0, 0, 0, 0, 0, 0, 0, 0, 0]
theorem read4 : readF (4 : Nat) es4 = some gs4 := by decide
theorem lt_bits {T m : Nat} (h : ∀ v, sHas T v = true → v < m) : T < 2 ^ m := by
  refine Nat.lt_pow_two_of_testBit T fun i hi => ?_
  cases hb : T.testBit i
  · rfl
  · have := h i hb; omega
theorem up4 : ∀ T, T < 16 → 1 * (endsOf gs4 T (ms T) / 2) ≤ 1 * pc 16 T := by decide
theorem dens4 : Dens 4 gs4 15 1 1 := by
  have hs : ∀ v, sHas 15 v = true → v < 4 := fun v hv => by
    have e : (15 : Nat) = sAll 4 := rfl
    unfold sHas at hv; rw [e, all_bit] at hv; simpa using hv
  refine ⟨by decide, by decide, hs, by decide, by decide, by decide, by decide, fun T _ hT => up4 T (lt_bits hT), fun T _ hT _ v hv => ?_⟩
  have := hT v hv
  have e : (15 : Nat) = sAll 4 := rfl
  unfold sHas; rw [e, all_bit]; simpa using this
theorem Densest_4 (b : Nat) (w : World) (ha : PairsAt w (some ⟨b, 0, none⟩) es4) :
    Calls Try.prog 15 #[.int .i64 4, .slice (some ⟨b, 0, none⟩) 4 4] w fun e w' => ∃ A k B, e = .returned (.tuple #[.slice A 4 k, .agg #[.int .i64 1, .int .i64 1], .slice (some ⟨B, 0, none⟩) 4 4, .int .i64 0]) ∧ IntsAt w' A [0, 1, 2, 3] ∧ Below w.heap.size w w' := by
  refine (Densest_some 4 (some ⟨b, 0, none⟩) 4 es4 gs4 w (by decide) ha read4).mono ?_
  rintro e w' ⟨v, g, s, p, q, H, L, f, rfl, hd, -, -, -, hown, -, -, hb⟩
  obtain ⟨rfl, rfl, rfl⟩ := Dens.one hd dens4
  obtain ⟨A, k, rfl, -, hi⟩ := own_ints hown
  exact ⟨A, k, g, rfl, hi, hb⟩
theorem Height_4 (b c : Nat) (w : World) (ha : PairsAt w (some ⟨b, 0, none⟩) es4) (hc : IntsAt w (some ⟨c, 0, none⟩) [0, 0, 1, 2]) :
    Calls Try.prog 31 #[.int .i64 4, .slice (some ⟨b, 0, none⟩) 4 4, .slice (some ⟨c, 0, none⟩) 4 4] w fun e w' => e = .returned (.tuple #[.int .i64 2, .int .i64 0]) ∧ Below w.heap.size w w' := by
  refine (Height_some 4 (some ⟨b, 0, none⟩) (some ⟨c, 0, none⟩) 4 4 es4 gs4 [0, 0, 1, 2] w (by decide) ha hc read4 rfl).mono ?_
  rintro e w' ⟨rfl, hb⟩
  refine ⟨?_, hb⟩
  rw [heightV_yes (by decide)]
  have : maxTo (natI (cntT [0, 0, 1, 2] 4)) 16 = 2 := by decide
  show Ending.returned (.tuple #[.int .i64 (maxTo (natI (cntT [0, 0, 1, 2] 4)) 16), .int .i64 0]) = _
  rw [this]
theorem Cores_4 (b : Nat) (w : World) (ha : PairsAt w (some ⟨b, 0, none⟩) es4) :
    Calls Try.prog 32 #[.int .i64 4, .slice (some ⟨b, 0, none⟩) 4 4] w fun e w' => ∃ g, e = .returned (.tuple #[.slice (some ⟨g, 0, none⟩) 4 4, .int .i64 0]) ∧ IntsAt w' (some ⟨g, 0, none⟩) [2, 2, 2, 1] ∧ Below w.heap.size w w' := by
  refine (Cores_some 4 (some ⟨b, 0, none⟩) 4 es4 gs4 w (by decide) ha read4).mono ?_
  rintro e w' ⟨g, -, rfl, hr, hb⟩
  have e1 : coreF 4 gs4 = [2, 2, 2, 1] := by decide
  rw [e1] at hr
  exact ⟨g, rfl, row_ints hr, hb⟩
theorem Peel_4 (b : Nat) (w : World) (ha : PairsAt w (some ⟨b, 0, none⟩) es4) :
    Calls Try.prog 33 #[.int .i64 4, .slice (some ⟨b, 0, none⟩) 4 4] w fun e w' => ∃ A k, e = .returned (.tuple #[.slice A 4 k, .int .i64 2, .int .i64 0]) ∧ IntsAt w' A [3, 0, 1, 2] ∧ Below w.heap.size w w' := by
  refine (Peel_some 4 (some ⟨b, 0, none⟩) 4 es4 gs4 w (by decide) ha read4).mono ?_
  rintro e w' ⟨v, rfl, hown, hb⟩
  have e1 : ordF 4 gs4 = [3, 0, 1, 2] := by decide
  have e2 : maxTo (natI (lftF 4 gs4)) 4 = 2 := by decide
  rw [e1] at hown
  rw [e2]
  obtain ⟨A, k, rfl, -, hi⟩ := own_ints hown
  exact ⟨A, k, rfl, hi, hb⟩
end Go.Proofs.Ytmfpegadcecknaa
