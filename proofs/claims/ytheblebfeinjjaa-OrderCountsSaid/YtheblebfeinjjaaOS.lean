/- OrderCounts, walked. -/
import Derived.Test.YtheblebfeinjjaaOR
namespace Go.Proofs.Ytheblebfeinjjaa
open Go.RowKit
set_option maxHeartbeats 2000000
set_option maxRecDepth 100000
theorem OrderCounts_any (n k : Int) (w : World) (hk63 : k ≤ 9223372036854775807) : Calls Try.prog 6 #[.int .i64 n, .int .i64 k] w fun e w' => e = .returned (.bool true) ∧ Below w.heap.size w w' := by
  by_cases hbad : n < 0 ∨ 18 < n ∨ k < 0
  · have HI := Lib.hid (fun w => cntV_bad (m := mI) hbad ▸ Inversions_any n k w)
    have HD := Lib.hid (fun w => cntV_bad (m := mD) hbad ▸ Descents_any n k w)
    have HC := Lib.hid (fun w => cntV_bad (m := mC) hbad ▸ CyclesOf_any n k w)
    have HT := Lib.hid (fun w => Item_bad n k w (by omega))
    by_cases h1 : n < 0
    · have g1 : decide (n < 0) = true := decide_eq_true h1
      clear hbad h1
      go_enter Try.func6, Try.ntmps6
      go_wp2_with (first
        | (go_at_call 37; refine (HI.out _).mono ?_; rintro e w1 ⟨rfl, b1⟩; have b0 := b1)
        | (go_at_call 38; refine (HD.out _).mono ?_; rintro e w2 ⟨rfl, b1⟩; replace b0 := b0.trans (b1.mono b0.size))
        | (go_at_call 39; refine (HC.out _).mono ?_; rintro e w3 ⟨rfl, b1⟩; replace b0 := b0.trans (b1.mono b0.size))
        | (go_at_call 40; refine (HT.out _).mono ?_; rintro e w4 ⟨rfl, b1⟩; replace b0 := b0.trans (b1.mono b0.size))
        | (go_at_call 21; refine (awake_any _).mono ?_; rintro e w5 ⟨rfl, b1⟩; replace b0 := b0.trans (b1.mono b0.size)))
      go_ret
      exact ⟨rfl, b0⟩
    · have g1 : decide (n < 0) = false := decide_eq_false h1
      by_cases h2 : 18 < n
      · have g2 : decide (18 < n) = true := decide_eq_true h2
        clear hbad h1 h2
        go_enter Try.func6, Try.ntmps6
        go_wp2_with (first
          | (go_at_call 37; refine (HI.out _).mono ?_; rintro e w1 ⟨rfl, b1⟩; have b0 := b1)
          | (go_at_call 38; refine (HD.out _).mono ?_; rintro e w2 ⟨rfl, b1⟩; replace b0 := b0.trans (b1.mono b0.size))
          | (go_at_call 39; refine (HC.out _).mono ?_; rintro e w3 ⟨rfl, b1⟩; replace b0 := b0.trans (b1.mono b0.size))
          | (go_at_call 40; refine (HT.out _).mono ?_; rintro e w4 ⟨rfl, b1⟩; replace b0 := b0.trans (b1.mono b0.size))
          | (go_at_call 21; refine (awake_any _).mono ?_; rintro e w5 ⟨rfl, b1⟩; replace b0 := b0.trans (b1.mono b0.size)))
        go_ret
        exact ⟨rfl, b0⟩
      · have g2 : decide (18 < n) = false := decide_eq_false h2
        have g3 : decide (k < 0) = true := decide_eq_true (by omega)
        clear hbad h1 h2
        go_enter Try.func6, Try.ntmps6
        go_wp2_with (first
          | (go_at_call 37; refine (HI.out _).mono ?_; rintro e w1 ⟨rfl, b1⟩; have b0 := b1)
          | (go_at_call 38; refine (HD.out _).mono ?_; rintro e w2 ⟨rfl, b1⟩; replace b0 := b0.trans (b1.mono b0.size))
          | (go_at_call 39; refine (HC.out _).mono ?_; rintro e w3 ⟨rfl, b1⟩; replace b0 := b0.trans (b1.mono b0.size))
          | (go_at_call 40; refine (HT.out _).mono ?_; rintro e w4 ⟨rfl, b1⟩; replace b0 := b0.trans (b1.mono b0.size))
          | (go_at_call 21; refine (awake_any _).mono ?_; rintro e w5 ⟨rfl, b1⟩; replace b0 := b0.trans (b1.mono b0.size)))
        go_ret
        exact ⟨rfl, b0⟩
  · obtain ⟨a, rfl⟩ : ∃ a : Nat, n = a := ⟨n.toNat, by omega⟩
    obtain ⟨b, rfl⟩ : ∃ b : Nat, k = b := ⟨k.toNat, by omega⟩
    have ha : a ≤ 18 := by omega
    have HI := Lib.hid (fun w => cntV_ok (m := mI) (b := b) ha ▸ Inversions_any a b w)
    have HD := Lib.hid (fun w => cntV_ok (m := mD) (b := b) ha ▸ Descents_any a b w)
    have HC := Lib.hid (fun w => cntV_ok (m := mC) (b := b) ha ▸ CyclesOf_any a b w)
    have RI := Lib.hid (fun w => RefInversions_any a b w ha)
    have RD := Lib.hid (fun w => RefDescents_any a b w ha)
    have RC := Lib.hid (fun w => RefCyclesOf_any a b w ha)
    have HF := Lib.hid (fun w => Factorial_any a w ha)
    have g1 : decide ((a : Int) < 0) = false := decide_eq_false (by omega)
    have g2 : decide ((18 : Int) < a) = false := decide_eq_false (by omega)
    have g3 : decide ((b : Int) < 0) = false := decide_eq_false (by omega)
    have hb63 : b ≤ 9223372036854775807 := by omega
    clear hbad hk63
    generalize getn (rowN mI a) b = x at *
    generalize getn (rowN mD a) b = y at *
    generalize getn (rowN mC a) b = z at *
    by_cases h12 : 12 < a
    · have HT := Lib.hid (fun w => Item_bad (a : Int) (b : Int) w (by omega))
      have g4 : decide ((12 : Int) < a) = true := decide_eq_true (by omega)
      clear hb63
      go_enter Try.func6, Try.ntmps6
      go_wp2_with (first
        | (go_at_call 37; refine (HI.out _).mono ?_; rintro e w1 ⟨rfl, b1⟩; have b0 := b1; clear b1)
        | (go_at_call 38; refine (HD.out _).mono ?_; rintro e w2 ⟨rfl, b1⟩; replace b0 := b0.trans (b1.mono b0.size); clear b1)
        | (go_at_call 39; refine (HC.out _).mono ?_; rintro e w3 ⟨rfl, b1⟩; replace b0 := b0.trans (b1.mono b0.size); clear b1)
        | (go_at_call 40; refine (HT.out _).mono ?_; rintro e w4 ⟨rfl, b1⟩; replace b0 := b0.trans (b1.mono b0.size); clear b1)
        | (go_at_call 41; refine (RI.out _).mono ?_; rintro e w5 ⟨rfl, b1⟩; replace b0 := b0.trans (b1.mono b0.size); clear b1)
        | (go_at_call 42; refine (RD.out _).mono ?_; rintro e w6 ⟨rfl, b1⟩; replace b0 := b0.trans (b1.mono b0.size); clear b1)
        | (go_at_call 43; refine (RC.out _).mono ?_; rintro e w7 ⟨rfl, b1⟩; replace b0 := b0.trans (b1.mono b0.size); clear b1)
        | (go_at_call 44; refine (HF.out _).mono ?_; rintro e w8 ⟨rfl, rfl⟩)
        | (go_at_call 21; refine (awake_any _).mono ?_; rintro e w9 ⟨rfl, b1⟩; replace b0 := b0.trans (b1.mono b0.size); clear b1))
      go_ret
      exact ⟨rfl, b0⟩
    · have g4 : decide ((12 : Int) < a) = false := decide_eq_false (by omega)
      by_cases hf : facN a ≤ b
      · have g5 : decide (facN a ≤ b) = true := decide_eq_true hf
        have HT := Lib.hid (fun w => Item_no a b w (by omega) hb63 (by
          rw [dgQ_eq]
          have := Nat.div_pos hf (facN_pos a)
          omega))
        clear hf
        generalize facN a = F at *
        go_enter Try.func6, Try.ntmps6
        go_wp2_with (first
          | (go_at_call 37; refine (HI.out _).mono ?_; rintro e w1 ⟨rfl, b1⟩; have b0 := b1; clear b1)
          | (go_at_call 38; refine (HD.out _).mono ?_; rintro e w2 ⟨rfl, b1⟩; replace b0 := b0.trans (b1.mono b0.size); clear b1)
          | (go_at_call 39; refine (HC.out _).mono ?_; rintro e w3 ⟨rfl, b1⟩; replace b0 := b0.trans (b1.mono b0.size); clear b1)
          | (go_at_call 40; refine (HT.out _).mono ?_; rintro e w4 ⟨rfl, b1⟩; replace b0 := b0.trans (b1.mono b0.size); clear b1)
          | (go_at_call 41; refine (RI.out _).mono ?_; rintro e w5 ⟨rfl, b1⟩; replace b0 := b0.trans (b1.mono b0.size); clear b1)
          | (go_at_call 42; refine (RD.out _).mono ?_; rintro e w6 ⟨rfl, b1⟩; replace b0 := b0.trans (b1.mono b0.size); clear b1)
          | (go_at_call 43; refine (RC.out _).mono ?_; rintro e w7 ⟨rfl, b1⟩; replace b0 := b0.trans (b1.mono b0.size); clear b1)
          | (go_at_call 44; refine (HF.out _).mono ?_; rintro e w8 ⟨rfl, rfl⟩)
          | (go_at_call 21; refine (awake_any _).mono ?_; rintro e w9 ⟨rfl, b1⟩; replace b0 := b0.trans (b1.mono b0.size); clear b1))
        go_ret
        exact ⟨rfl, b0⟩
      · have g5 : decide (facN a ≤ b) = false := decide_eq_false hf
        have HT := Lib.hid (fun w => Item_yes a b w (by omega) hb63 (by rw [dgQ_eq]; exact Nat.div_eq_of_lt (by omega)))
        have HRI := Lib.hid (fun w => RefItem_any a b w (by omega) (by omega))
        have HML : Hid ((mdL (dgL b a)).length = a) := Lib.hid (by unfold mdL; rw [wtN_len, dgL_len])
        clear hf
        generalize facN a = F at *
        generalize mdL (dgL b a) = M at *
        go_enter Try.func6, Try.ntmps6
        go_wp2_with (first
          | (go_at_call 37; refine (HI.out _).mono ?_; rintro e w1 ⟨rfl, b1⟩; have b0 := b1; clear b1)
          | (go_at_call 38; refine (HD.out _).mono ?_; rintro e w2 ⟨rfl, b1⟩; replace b0 := b0.trans (b1.mono b0.size); clear b1)
          | (go_at_call 39; refine (HC.out _).mono ?_; rintro e w3 ⟨rfl, b1⟩; replace b0 := b0.trans (b1.mono b0.size); clear b1)
          | (go_at_call 40; fail))
        refine (HT.out _).mono ?_
        rintro e w4 ⟨A4, c4, rfl, i4, -, b4⟩
        have I4 := Lib.hid i4
        replace b4 := b0.trans (b4.mono b0.size)
        clear i4 b0 HT HI HD HC
        go_wp2_with (first
          | (go_at_call 41; refine (RI.out _).mono ?_; rintro e w5 ⟨rfl, b1⟩; replace I4 := Lib.hid (I4.out.below b1); replace b4 := b4.trans (b1.mono b4.size); clear b1)
          | (go_at_call 42; refine (RD.out _).mono ?_; rintro e w6 ⟨rfl, b1⟩; replace I4 := Lib.hid (I4.out.below b1); replace b4 := b4.trans (b1.mono b4.size); clear b1)
          | (go_at_call 43; refine (RC.out _).mono ?_; rintro e w7 ⟨rfl, b1⟩; replace I4 := Lib.hid (I4.out.below b1); replace b4 := b4.trans (b1.mono b4.size); clear b1)
          | (go_at_call 44; refine (HF.out _).mono ?_; rintro e w8 ⟨rfl, rfl⟩)
          | (go_at_call 45; fail))
        refine (HRI.out _).mono ?_
        rintro e w9 ⟨A9, c9, rfl, o9, b9⟩
        obtain ⟨A9', c9', e9, -, -, i9⟩ := own_intsI o9
        injection e9 with e1 e2 e3
        subst e1 e3
        have HII := Lib.hid (ints_yes A4 A9 c4 c9 M a w9 HML.out (by omega) (I4.out.below b9) i9)
        replace b4 := b4.trans (b9.mono b4.size)
        clear o9 i9 e2 I4 b9
        go_wp2_with (first
          | (go_at_call 23; refine HII.out.mono ?_; rintro e w10 ⟨rfl, n10, rfl⟩; replace b4 := b4.trans (below_drewN n10))
          | (go_at_call 21; refine (awake_any _).mono ?_; rintro e w11 ⟨rfl, b1⟩; replace b4 := b4.trans (b1.mono b4.size); clear b1))
        go_ret
        exact ⟨rfl, b4⟩
end Go.Proofs.Ytheblebfeinjjaa
