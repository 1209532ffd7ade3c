/- ClockSlow walked. -/
import Derived.Test.YtignbpipdfjkeaaDoorBH
namespace Go.Proofs.YtignbpipdfjkeaaDoor
open Go.RowKit
set_option maxHeartbeats 2000000
set_option maxRecDepth 100000
theorem slN_row {n i : Nat} (h1 : 1 ≤ n) (h9 : n ≤ 9) (hi : i < (slN n).length) : (getl (slN n) i).length ≤ 1000 := by
  have h := slN_ok h1 h9
  rw [h.row i hi]
  have := h.n9
  omega
theorem clockSlow_any (n : Int) (w : World) (ht : TabW w) : Calls Tryd.prog 7 #[.int .i64 n] w fun e w' => e = .returned (.bool true) ∧ Below w.heap.size w w' := by
  have HAW := Lib.hid (fun (V : World) (hV : Below w.heap.size w V) => awake_any V (ht.below hV ht.lt))
  have b0 := Below.refl w.heap.size w
  clear ht
  by_cases hn : n < 1 ∨ 9 < n
  · have HS := Lib.hid (fun V => Slow_no n V hn)
    by_cases h1 : n < 1
    · have g1 : decide (n < 1) = true := decide_eq_true h1
      clear hn h1
      go_enter Tryd.func7, Tryd.ntmps7
      go_wp2_with (first
        | (go_at_call 39; refine (HS.out _).mono ?_; rintro e w1 ⟨rfl, rfl⟩)
        | (go_at_call 22; refine (HAW.out _ b0).mono ?_; rintro e w4 ⟨rfl, b4⟩; replace b0 := b0.trans (b4.mono b0.size)))
      go_ret
      exact ⟨rfl, b0⟩
    · have g1 : decide (n < 1) = false := decide_eq_false h1
      have g2 : decide (9 < n) = true := decide_eq_true (by omega)
      clear hn h1
      go_enter Tryd.func7, Tryd.ntmps7
      go_wp2_with (first
        | (go_at_call 39; refine (HS.out _).mono ?_; rintro e w1 ⟨rfl, rfl⟩)
        | (go_at_call 22; refine (HAW.out _ b0).mono ?_; rintro e w4 ⟨rfl, b4⟩; replace b0 := b0.trans (b4.mono b0.size)))
      go_ret
      exact ⟨rfl, b0⟩
  · obtain ⟨m, rfl⟩ := Int.eq_ofNat_of_zero_le (show 0 ≤ n by omega)
    have h1 : 1 ≤ m := by omega
    have h9 : m ≤ 9 := by omega
    have g1 : decide ((m : Int) < 1) = false := decide_eq_false (by omega)
    have g2 : decide ((9 : Int) < (m : Int)) = false := decide_eq_false (by omega)
    have HS : Hid (∀ V, Calls Tryd.prog 39 #[.int .i64 (m : Int)] V fun e w' => ∃ g, e = .returned (.tuple #[.slice (some ⟨g, 0, none⟩) 2 2, .int .i64 0]) ∧ RowsAt w' (some ⟨g, 0, none⟩) (slN m) ∧ Below V.heap.size V w') := Lib.hid (fun V => (Slow_yes m V h1 h9).mono (fun e w' h => h.rows))
    have HR := Lib.hid (fun V => refSlow_any m V h1 h9)
    have HT : Hid (∀ (V : World) g k, RowsAt V (some ⟨g, 0, none⟩) (slN m) → RowsAt V (some ⟨k, 0, none⟩) (slN m) → Calls Tryd.prog 40 #[.slice (some ⟨g, 0, none⟩) 2 2, .slice (some ⟨k, 0, none⟩) 2 2] V fun e w' => e = .returned (.bool true) ∧ ∃ n, w' = V.drewN n) := Lib.hid (fun V g k ha hb => by
      have := tables_any (some ⟨g, 0, none⟩) (some ⟨k, 0, none⟩) 2 2 (slN m) (slN m) V (by show 2 ≤ 100; omega) (fun i hi => slN_row h1 h9 hi) (fun i hi => slN_row h1 h9 hi) ha hb
      rwa [decide_eq_true (rfl : slN m = slN m), show (slN m).length = 2 from rfl] at this)
    clear hn h1 h9
    go_enter Tryd.func7, Tryd.ntmps7
    go_wp2_with (first
      | (go_at_call 39; refine (HS.out _).mono ?_; rintro e w1 ⟨ga, rfl, R1, b1⟩; replace b0 := b0.trans (b1.mono b0.size))
      | (go_at_call 41; refine (HR.out _).mono ?_; rintro e w2 ⟨gb, rfl, R2, b2⟩; replace b0 := b0.trans (b2.mono b0.size); replace R1 := R1.below b2)
      | (go_at_call 40; refine (HT.out _ _ _ R1 R2).mono ?_; rintro e w3 ⟨rfl, n3, rfl⟩; replace b0 := b0.trans (below_drewN n3))
      | (go_at_call 22; refine (HAW.out _ b0).mono ?_; rintro e w4 ⟨rfl, b4⟩; replace b0 := b0.trans (b4.mono b0.size)))
    go_ret
    exact ⟨rfl, b0⟩
end Go.Proofs.YtignbpipdfjkeaaDoor
