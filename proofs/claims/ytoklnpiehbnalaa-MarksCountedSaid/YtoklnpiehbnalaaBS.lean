/- MarksCounted walked. -/
import Derived.Test.YtoklnpiehbnalaaBL
import Derived.Test.YtoklnpiehbnalaaMC
import Derived.Test.YtoklnpiehbnalaaAY
namespace Go.Proofs.Ytoklnpiehbnalaa
open Go.RowKit Go.PlainAid
set_option maxHeartbeats 2000000
set_option maxRecDepth 100000
theorem marksCounted_0 (n m : Int) (a c d e : Nat) (w : World) (ha : a < 15) (_hc : c ≤ 100000000) (h1 : d ≤ c * 0) (h2 : c % 1 = 0) (h3 : c ≤ e) (_he : e ≤ 100000000)
    (H0 : Hid (∀ V, Calls Try.prog 50 #[.int .i64 n, .int .i64 15] V fun e w' => e = .returned (.int .i64 a) ∧ V = w'))
    (H1 : Hid (∀ V, Calls Try.prog 50 #[.int .i64 m, .int .i64 3] V fun e w' => e = .returned (.int .i64 0) ∧ V = w'))
    (H2 : Hid (∀ V, Calls Try.prog 35 #[.int .i64 (1 + (a : Int)), .int .i64 1] V fun e w' => e = .returned (.tuple #[.int .i64 c, .int .i64 0]) ∧ Below V.heap.size V w'))
    (H3 : Hid (∀ V, Calls Try.prog 35 #[.int .i64 (1 + (a : Int) + 1), .int .i64 1] V fun e w' => e = .returned (.tuple #[.int .i64 d, .int .i64 0]) ∧ Below V.heap.size V w'))
    (H4 : Hid (∀ V, Calls Try.prog 35 #[.int .i64 (1 + (a : Int)), .int .i64 2] V fun e' w' => e' = .returned (.tuple #[.int .i64 e, .int .i64 0]) ∧ Below V.heap.size V w')) :
    Calls Try.prog 14 #[.int .i64 n, .int .i64 m] w fun e w' => e = .returned (.bool true) ∧ Below w.heap.size w w' := by
  have HAW := Lib.hid awake_any
  have b0 := Below.refl w.heap.size w
  have g1 : Int.tmod (c : Int) 1 = 0 := by
    have : Int.tmod (c : Int) 1 = ((c % 1 : Nat) : Int) := rfl
    rw [this, h2]; rfl
  obtain rfl : d = 0 := by omega
  clear h2
  go_enter Try.func14, Try.ntmps14
  go_wp2_with (first
    | (go_at_call 50; (with_reducible refine (H0.out _).mono ?_); rintro e w1 ⟨rfl, rfl⟩)
    | (go_at_call 50; (with_reducible refine (H1.out _).mono ?_); rintro e w1 ⟨rfl, rfl⟩)
    | (go_at_call 35; (with_reducible refine (H2.out _).mono ?_); rintro e w1 ⟨rfl, b1⟩; replace b0 := b0.trans (b1.mono b0.size))
    | (go_at_call 35; (with_reducible refine (H3.out _).mono ?_); rintro e w2 ⟨rfl, b2⟩; replace b0 := b0.trans (b2.mono b0.size))
    | (go_at_call 35; (with_reducible refine (H4.out _).mono ?_); rintro e w3 ⟨rfl, b3⟩; replace b0 := b0.trans (b3.mono b0.size))
    | (go_at_call 24; (with_reducible refine (HAW.out _).mono ?_); rintro e w4 ⟨rfl, b4⟩; replace b0 := b0.trans (b4.mono b0.size)))
  go_ret
  exact ⟨rfl, b0⟩
theorem marksCounted_1 (n m : Int) (a c d e : Nat) (w : World) (ha : a < 15) (hc : c ≤ 100000000) (h1 : d ≤ c * 1) (h2 : c % 2 = 0) (h3 : c ≤ e) (_he : e ≤ 100000000)
    (H0 : Hid (∀ V, Calls Try.prog 50 #[.int .i64 n, .int .i64 15] V fun e w' => e = .returned (.int .i64 a) ∧ V = w'))
    (H1 : Hid (∀ V, Calls Try.prog 50 #[.int .i64 m, .int .i64 3] V fun e w' => e = .returned (.int .i64 1) ∧ V = w'))
    (H2 : Hid (∀ V, Calls Try.prog 35 #[.int .i64 (1 + (a : Int)), .int .i64 2] V fun e w' => e = .returned (.tuple #[.int .i64 c, .int .i64 0]) ∧ Below V.heap.size V w'))
    (H3 : Hid (∀ V, Calls Try.prog 35 #[.int .i64 (1 + (a : Int) + 1), .int .i64 2] V fun e w' => e = .returned (.tuple #[.int .i64 d, .int .i64 0]) ∧ Below V.heap.size V w'))
    (H4 : Hid (∀ V, Calls Try.prog 35 #[.int .i64 (1 + (a : Int)), .int .i64 3] V fun e' w' => e' = .returned (.tuple #[.int .i64 e, .int .i64 0]) ∧ Below V.heap.size V w')) :
    Calls Try.prog 14 #[.int .i64 n, .int .i64 m] w fun e w' => e = .returned (.bool true) ∧ Below w.heap.size w w' := by
  have HAW := Lib.hid awake_any
  have b0 := Below.refl w.heap.size w
  have g1 : Int.tmod (c : Int) 2 = 0 := by
    have : Int.tmod (c : Int) 2 = ((c % 2 : Nat) : Int) := rfl
    rw [this, h2]; rfl
  skip
  clear h2
  go_enter Try.func14, Try.ntmps14
  go_wp2_with (first
    | (go_at_call 50; (with_reducible refine (H0.out _).mono ?_); rintro e w1 ⟨rfl, rfl⟩)
    | (go_at_call 50; (with_reducible refine (H1.out _).mono ?_); rintro e w1 ⟨rfl, rfl⟩)
    | (go_at_call 35; (with_reducible refine (H2.out _).mono ?_); rintro e w1 ⟨rfl, b1⟩; replace b0 := b0.trans (b1.mono b0.size))
    | (go_at_call 35; (with_reducible refine (H3.out _).mono ?_); rintro e w2 ⟨rfl, b2⟩; replace b0 := b0.trans (b2.mono b0.size))
    | (go_at_call 35; (with_reducible refine (H4.out _).mono ?_); rintro e w3 ⟨rfl, b3⟩; replace b0 := b0.trans (b3.mono b0.size))
    | (go_at_call 24; (with_reducible refine (HAW.out _).mono ?_); rintro e w4 ⟨rfl, b4⟩; replace b0 := b0.trans (b4.mono b0.size)))
  go_ret
  exact ⟨rfl, b0⟩
theorem marksCounted_2 (n m : Int) (a c d : Nat) (w : World) (ha : a < 15) (hc : c ≤ 100000000) (h1 : d ≤ c * 2) (h2 : c % 3 = 0) (h3 : 3 ≤ c)
    (H0 : Hid (∀ V, Calls Try.prog 50 #[.int .i64 n, .int .i64 15] V fun e w' => e = .returned (.int .i64 a) ∧ V = w'))
    (H1 : Hid (∀ V, Calls Try.prog 50 #[.int .i64 m, .int .i64 3] V fun e w' => e = .returned (.int .i64 2) ∧ V = w'))
    (H2 : Hid (∀ V, Calls Try.prog 35 #[.int .i64 (1 + (a : Int)), .int .i64 3] V fun e w' => e = .returned (.tuple #[.int .i64 c, .int .i64 0]) ∧ Below V.heap.size V w'))
    (H3 : Hid (∀ V, Calls Try.prog 35 #[.int .i64 (1 + (a : Int) + 1), .int .i64 3] V fun e w' => e = .returned (.tuple #[.int .i64 d, .int .i64 0]) ∧ Below V.heap.size V w')) :
    Calls Try.prog 14 #[.int .i64 n, .int .i64 m] w fun e w' => e = .returned (.bool true) ∧ Below w.heap.size w w' := by
  have HAW := Lib.hid awake_any
  have b0 := Below.refl w.heap.size w
  have g1 : Int.tmod (c : Int) 3 = 0 := by
    have : Int.tmod (c : Int) 3 = ((c % 3 : Nat) : Int) := rfl
    rw [this, h2]; rfl
  skip
  clear h2
  go_enter Try.func14, Try.ntmps14
  go_wp2_with (first
    | (go_at_call 50; (with_reducible refine (H0.out _).mono ?_); rintro e w1 ⟨rfl, rfl⟩)
    | (go_at_call 50; (with_reducible refine (H1.out _).mono ?_); rintro e w1 ⟨rfl, rfl⟩)
    | (go_at_call 35; (with_reducible refine (H2.out _).mono ?_); rintro e w1 ⟨rfl, b1⟩; replace b0 := b0.trans (b1.mono b0.size))
    | (go_at_call 35; (with_reducible refine (H3.out _).mono ?_); rintro e w2 ⟨rfl, b2⟩; replace b0 := b0.trans (b2.mono b0.size))
    | (go_at_call 24; (with_reducible refine (HAW.out _).mono ?_); rintro e w4 ⟨rfl, b4⟩; replace b0 := b0.trans (b4.mono b0.size)))
  go_ret
  exact ⟨rfl, b0⟩
theorem marksCounted_any (n m : Int) (w : World) :
    Calls Try.prog 14 #[.int .i64 n, .int .i64 m] w fun e w' => e = .returned (.bool true) ∧ Below w.heap.size w w' := by
  have ha := modI_lt n (n := 15) (by decide)
  have H0 : Hid (∀ V, Calls Try.prog 50 #[.int .i64 n, .int .i64 15] V fun e w' => e = .returned (.int .i64 (modI n 15)) ∧ V = w') := Lib.hid (fun V => mod_any n 15 V (by decide) (by decide))
  have hb := modI_lt m (n := 3) (by decide)
  have H1 : Hid (∀ V, Calls Try.prog 50 #[.int .i64 m, .int .i64 3] V fun e w' => e = .returned (.int .i64 (modI m 3)) ∧ V = w') := Lib.hid (fun V => mod_any m 3 V (by decide) (by decide))
  generalize modI n 15 = a at *
  generalize modI m 3 = b at *
  have hf := cFact_at ha hb
  have HC : Hid (∀ k, 1 ≤ k → k ≤ 3 → ∀ V, Calls Try.prog 35 #[.int .i64 (1 + (a : Int)), .int .i64 (k : Nat)] V fun e w' => e = .returned (.tuple #[.int .i64 (cntN (1 + a) k), .int .i64 0]) ∧ Below V.heap.size V w') := Lib.hid (fun k h1 h2 V => Count_yes (1 + a) k V (by omega) h1 h2)
  have HD : Hid (∀ k, 1 ≤ k → k ≤ 3 → ∀ V, Calls Try.prog 35 #[.int .i64 (1 + (a : Int) + 1), .int .i64 (k : Nat)] V fun e w' => e = .returned (.tuple #[.int .i64 (cntN (1 + a + 1) k), .int .i64 0]) ∧ Below V.heap.size V w') := Lib.hid (fun k h1 h2 V => Count_yes (1 + a + 1) k V (by omega) h1 h2)
  have hle : ∀ k, k ≤ 3 → cntN (1 + a) k ≤ 100000000 := fun k hk => Nat.le_trans (cntN_le (by omega) hk) (by decide)
  unfold cFact at hf
  obtain ⟨h12, h3⟩ := Bool.and_eq_true_iff.1 hf
  obtain ⟨h1, h2⟩ := Bool.and_eq_true_iff.1 h12
  replace h1 := of_decide_eq_true h1
  replace h2 := of_decide_eq_true h2
  match b, hb with
  | 0, _ =>
    have h3' : cntN (1 + a) 1 ≤ cntN (1 + a) 2 := of_decide_eq_true (by simpa using h3)
    exact marksCounted_0 n m a (cntN (1 + a) 1) (cntN (1 + a + 1) 1) (cntN (1 + a) 2) w ha (hle 1 (by decide)) h1 h2 h3' (hle 2 (by decide)) H0 H1 (Lib.hid (HC.out 1 (by decide) (by decide))) (Lib.hid (HD.out 1 (by decide) (by decide))) (Lib.hid (HC.out 2 (by decide) (by decide)))
  | 1, _ =>
    have h3' : cntN (1 + a) 2 ≤ cntN (1 + a) 3 := of_decide_eq_true (by simpa using h3)
    exact marksCounted_1 n m a (cntN (1 + a) 2) (cntN (1 + a + 1) 2) (cntN (1 + a) 3) w ha (hle 2 (by decide)) h1 h2 h3' (hle 3 (by decide)) H0 H1 (Lib.hid (HC.out 2 (by decide) (by decide))) (Lib.hid (HD.out 2 (by decide) (by decide))) (Lib.hid (HC.out 3 (by decide) (by decide)))
  | 2, _ =>
    have h3' : 3 ≤ cntN (1 + a) 3 := of_decide_eq_true (by simpa using h3)
    exact marksCounted_2 n m a (cntN (1 + a) 3) (cntN (1 + a + 1) 3) w ha (hle 3 (by decide)) h1 h2 h3' H0 H1 (Lib.hid (HC.out 3 (by decide) (by decide))) (Lib.hid (HD.out 3 (by decide) (by decide)))
end Go.Proofs.Ytoklnpiehbnalaa
