/- MarksCounts walked. -/
import Derived.Test.YtoklnpiehbnalaaBI
import Derived.Test.YtoklnpiehbnalaaBD
namespace Go.Proofs.Ytoklnpiehbnalaa
open Go.RowKit Go.PlainAid
set_option maxHeartbeats 2000000
set_option maxRecDepth 100000
theorem marksCounts_c1 (n k : Int) (w : World)
    (H1 : Hid (∀ V, Calls Try.prog 35 #[.int .i64 n, .int .i64 k] V fun e w' => e = .returned (.tuple #[.int .i64 0, .int .i64 2]) ∧ Below V.heap.size V w'))
    (H2 : Hid (∀ V, Calls Try.prog 36 #[.int .i64 n, .int .i64 k] V fun e w' => e = .returned (.tuple #[.string ⟨#[]⟩, .int .i64 2]) ∧ Below V.heap.size V w'))
    (gn0 : decide (n < 0) = true) :
    Calls Try.prog 6 #[.int .i64 n, .int .i64 k] w fun e w' => e = .returned (.bool true) ∧ Below w.heap.size w w' := by
  have HAW := Lib.hid awake_any
  have b0 := Below.refl w.heap.size w
  have hne := nil_empty
  go_enter Try.func6, Try.ntmps6
  go_wp2_with (first
    | (go_at_call 35; (with_reducible refine (H1.out _).mono ?_); rintro e w1 ⟨rfl, b1⟩; replace b0 := b0.trans (b1.mono b0.size))
    | (go_at_call 36; (with_reducible refine (H2.out _).mono ?_); rintro e w1 ⟨rfl, b1⟩; replace b0 := b0.trans (b1.mono b0.size))
    | (go_at_call 37; (with_reducible refine (H3.out _).mono ?_); rintro e w1 ⟨rfl, b1⟩; replace b0 := b0.trans (b1.mono b0.size))
    | (go_at_call 38; (with_reducible refine (H4.out _).mono ?_); rintro e w1 ⟨rfl, b1⟩; replace b0 := b0.trans (b1.mono b0.size))
    | (go_at_call 24; (with_reducible refine (HAW.out _).mono ?_); rintro e w1 ⟨rfl, b1⟩; replace b0 := b0.trans (b1.mono b0.size)))
  go_ret
  exact ⟨rfl, b0⟩
theorem marksCounts_c2 (n k : Int) (w : World)
    (H1 : Hid (∀ V, Calls Try.prog 35 #[.int .i64 n, .int .i64 k] V fun e w' => e = .returned (.tuple #[.int .i64 0, .int .i64 2]) ∧ Below V.heap.size V w'))
    (H2 : Hid (∀ V, Calls Try.prog 36 #[.int .i64 n, .int .i64 k] V fun e w' => e = .returned (.tuple #[.string ⟨#[]⟩, .int .i64 2]) ∧ Below V.heap.size V w'))
    (gn0 : decide (n < 0) = false)
    (gn16 : decide (16 < n) = true)
    (gn60 : decide (60 < n) = true) :
    Calls Try.prog 6 #[.int .i64 n, .int .i64 k] w fun e w' => e = .returned (.bool true) ∧ Below w.heap.size w w' := by
  have HAW := Lib.hid awake_any
  have b0 := Below.refl w.heap.size w
  have hne := nil_empty
  go_enter Try.func6, Try.ntmps6
  go_wp2_with (first
    | (go_at_call 35; (with_reducible refine (H1.out _).mono ?_); rintro e w1 ⟨rfl, b1⟩; replace b0 := b0.trans (b1.mono b0.size))
    | (go_at_call 36; (with_reducible refine (H2.out _).mono ?_); rintro e w1 ⟨rfl, b1⟩; replace b0 := b0.trans (b1.mono b0.size))
    | (go_at_call 37; (with_reducible refine (H3.out _).mono ?_); rintro e w1 ⟨rfl, b1⟩; replace b0 := b0.trans (b1.mono b0.size))
    | (go_at_call 38; (with_reducible refine (H4.out _).mono ?_); rintro e w1 ⟨rfl, b1⟩; replace b0 := b0.trans (b1.mono b0.size))
    | (go_at_call 24; (with_reducible refine (HAW.out _).mono ?_); rintro e w1 ⟨rfl, b1⟩; replace b0 := b0.trans (b1.mono b0.size)))
  go_ret
  exact ⟨rfl, b0⟩
theorem marksCounts_c3a (n k : Int) (w : World)
    (H1 : Hid (∀ V, Calls Try.prog 35 #[.int .i64 n, .int .i64 k] V fun e w' => e = .returned (.tuple #[.int .i64 0, .int .i64 2]) ∧ Below V.heap.size V w'))
    (H2 : Hid (∀ V, Calls Try.prog 36 #[.int .i64 n, .int .i64 k] V fun e w' => e = .returned (.tuple #[.string ⟨#[]⟩, .int .i64 2]) ∧ Below V.heap.size V w'))
    (gn0 : decide (n < 0) = false)
    (gn16 : decide (16 < n) = true)
    (gn60 : decide (60 < n) = false)
    (gk1 : decide (k < 1) = true) :
    Calls Try.prog 6 #[.int .i64 n, .int .i64 k] w fun e w' => e = .returned (.bool true) ∧ Below w.heap.size w w' := by
  have HAW := Lib.hid awake_any
  have b0 := Below.refl w.heap.size w
  have hne := nil_empty
  go_enter Try.func6, Try.ntmps6
  go_wp2_with (first
    | (go_at_call 35; (with_reducible refine (H1.out _).mono ?_); rintro e w1 ⟨rfl, b1⟩; replace b0 := b0.trans (b1.mono b0.size))
    | (go_at_call 36; (with_reducible refine (H2.out _).mono ?_); rintro e w1 ⟨rfl, b1⟩; replace b0 := b0.trans (b1.mono b0.size))
    | (go_at_call 37; (with_reducible refine (H3.out _).mono ?_); rintro e w1 ⟨rfl, b1⟩; replace b0 := b0.trans (b1.mono b0.size))
    | (go_at_call 38; (with_reducible refine (H4.out _).mono ?_); rintro e w1 ⟨rfl, b1⟩; replace b0 := b0.trans (b1.mono b0.size))
    | (go_at_call 24; (with_reducible refine (HAW.out _).mono ?_); rintro e w1 ⟨rfl, b1⟩; replace b0 := b0.trans (b1.mono b0.size)))
  go_ret
  exact ⟨rfl, b0⟩
theorem marksCounts_c3b (n k : Int) (w : World)
    (H1 : Hid (∀ V, Calls Try.prog 35 #[.int .i64 n, .int .i64 k] V fun e w' => e = .returned (.tuple #[.int .i64 0, .int .i64 2]) ∧ Below V.heap.size V w'))
    (H2 : Hid (∀ V, Calls Try.prog 36 #[.int .i64 n, .int .i64 k] V fun e w' => e = .returned (.tuple #[.string ⟨#[]⟩, .int .i64 2]) ∧ Below V.heap.size V w'))
    (gn0 : decide (n < 0) = false)
    (gn16 : decide (16 < n) = true)
    (gn60 : decide (60 < n) = false)
    (gk1 : decide (k < 1) = false)
    (gk4 : decide (4 < k) = true) :
    Calls Try.prog 6 #[.int .i64 n, .int .i64 k] w fun e w' => e = .returned (.bool true) ∧ Below w.heap.size w w' := by
  have HAW := Lib.hid awake_any
  have b0 := Below.refl w.heap.size w
  have hne := nil_empty
  go_enter Try.func6, Try.ntmps6
  go_wp2_with (first
    | (go_at_call 35; (with_reducible refine (H1.out _).mono ?_); rintro e w1 ⟨rfl, b1⟩; replace b0 := b0.trans (b1.mono b0.size))
    | (go_at_call 36; (with_reducible refine (H2.out _).mono ?_); rintro e w1 ⟨rfl, b1⟩; replace b0 := b0.trans (b1.mono b0.size))
    | (go_at_call 37; (with_reducible refine (H3.out _).mono ?_); rintro e w1 ⟨rfl, b1⟩; replace b0 := b0.trans (b1.mono b0.size))
    | (go_at_call 38; (with_reducible refine (H4.out _).mono ?_); rintro e w1 ⟨rfl, b1⟩; replace b0 := b0.trans (b1.mono b0.size))
    | (go_at_call 24; (with_reducible refine (HAW.out _).mono ?_); rintro e w1 ⟨rfl, b1⟩; replace b0 := b0.trans (b1.mono b0.size)))
  go_ret
  exact ⟨rfl, b0⟩
theorem marksCounts_c3n (n k : Int) (w : World)
    (H1 : Hid (∀ V, Calls Try.prog 35 #[.int .i64 n, .int .i64 k] V fun e w' => e = .returned (.tuple #[.int .i64 0, .int .i64 2]) ∧ Below V.heap.size V w'))
    (H2 : Hid (∀ V, Calls Try.prog 36 #[.int .i64 n, .int .i64 k] V fun e w' => e = .returned (.tuple #[.string ⟨#[]⟩, .int .i64 6]) ∧ Below V.heap.size V w'))
    (H4 : Hid (∀ V, Calls Try.prog 38 #[.string ⟨#[]⟩, .int .i64 n, .int .i64 k] V fun e w' => e = .returned (.tuple #[.string ⟨#[]⟩, .bool false]) ∧ Below V.heap.size V w'))
    (gn0 : decide (n < 0) = false)
    (gn16 : decide (16 < n) = true)
    (gn60 : decide (60 < n) = false)
    (gk1 : decide (k < 1) = false)
    (gk4 : decide (4 < k) = false) :
    Calls Try.prog 6 #[.int .i64 n, .int .i64 k] w fun e w' => e = .returned (.bool true) ∧ Below w.heap.size w w' := by
  have HAW := Lib.hid awake_any
  have b0 := Below.refl w.heap.size w
  have hne := nil_empty
  go_enter Try.func6, Try.ntmps6
  go_wp2_with (first
    | (go_at_call 35; (with_reducible refine (H1.out _).mono ?_); rintro e w1 ⟨rfl, b1⟩; replace b0 := b0.trans (b1.mono b0.size))
    | (go_at_call 36; (with_reducible refine (H2.out _).mono ?_); rintro e w1 ⟨rfl, b1⟩; replace b0 := b0.trans (b1.mono b0.size))
    | (go_at_call 37; (with_reducible refine (H3.out _).mono ?_); rintro e w1 ⟨rfl, b1⟩; replace b0 := b0.trans (b1.mono b0.size))
    | (go_at_call 38; (with_reducible refine (H4.out _).mono ?_); rintro e w1 ⟨rfl, b1⟩; replace b0 := b0.trans (b1.mono b0.size))
    | (go_at_call 24; (with_reducible refine (HAW.out _).mono ?_); rintro e w1 ⟨rfl, b1⟩; replace b0 := b0.trans (b1.mono b0.size)))
  go_ret
  exact ⟨rfl, b0⟩
theorem marksCounts_c3s (n k : Int) (u : ByteArray) (w : World)
    (H1 : Hid (∀ V, Calls Try.prog 35 #[.int .i64 n, .int .i64 k] V fun e w' => e = .returned (.tuple #[.int .i64 0, .int .i64 2]) ∧ Below V.heap.size V w'))
    (H2 : Hid (∀ V, Calls Try.prog 36 #[.int .i64 n, .int .i64 k] V fun e w' => e = .returned (.tuple #[.string u, .int .i64 0]) ∧ Below V.heap.size V w'))
    (H4 : Hid (∀ V, Calls Try.prog 38 #[.string ⟨#[]⟩, .int .i64 n, .int .i64 k] V fun e w' => e = .returned (.tuple #[.string u, .bool true]) ∧ Below V.heap.size V w'))
    (gn0 : decide (n < 0) = false)
    (gn16 : decide (16 < n) = true)
    (gn60 : decide (60 < n) = false)
    (gk1 : decide (k < 1) = false)
    (gk4 : decide (4 < k) = false) :
    Calls Try.prog 6 #[.int .i64 n, .int .i64 k] w fun e w' => e = .returned (.bool true) ∧ Below w.heap.size w w' := by
  have HAW := Lib.hid awake_any
  have b0 := Below.refl w.heap.size w
  have hne := nil_empty
  go_enter Try.func6, Try.ntmps6
  go_wp2_with (first
    | (go_at_call 35; (with_reducible refine (H1.out _).mono ?_); rintro e w1 ⟨rfl, b1⟩; replace b0 := b0.trans (b1.mono b0.size))
    | (go_at_call 36; (with_reducible refine (H2.out _).mono ?_); rintro e w1 ⟨rfl, b1⟩; replace b0 := b0.trans (b1.mono b0.size))
    | (go_at_call 37; (with_reducible refine (H3.out _).mono ?_); rintro e w1 ⟨rfl, b1⟩; replace b0 := b0.trans (b1.mono b0.size))
    | (go_at_call 38; (with_reducible refine (H4.out _).mono ?_); rintro e w1 ⟨rfl, b1⟩; replace b0 := b0.trans (b1.mono b0.size))
    | (go_at_call 24; (with_reducible refine (HAW.out _).mono ?_); rintro e w1 ⟨rfl, b1⟩; replace b0 := b0.trans (b1.mono b0.size)))
  go_ret
  exact ⟨rfl, b0⟩
theorem marksCounts_c4a (n k : Int) (w : World)
    (H1 : Hid (∀ V, Calls Try.prog 35 #[.int .i64 n, .int .i64 k] V fun e w' => e = .returned (.tuple #[.int .i64 0, .int .i64 2]) ∧ Below V.heap.size V w'))
    (H2 : Hid (∀ V, Calls Try.prog 36 #[.int .i64 n, .int .i64 k] V fun e w' => e = .returned (.tuple #[.string ⟨#[]⟩, .int .i64 2]) ∧ Below V.heap.size V w'))
    (gn0 : decide (n < 0) = false)
    (gn16 : decide (16 < n) = false)
    (gn60 : decide (60 < n) = false)
    (gk1 : decide (k < 1) = true) :
    Calls Try.prog 6 #[.int .i64 n, .int .i64 k] w fun e w' => e = .returned (.bool true) ∧ Below w.heap.size w w' := by
  have HAW := Lib.hid awake_any
  have b0 := Below.refl w.heap.size w
  have hne := nil_empty
  go_enter Try.func6, Try.ntmps6
  go_wp2_with (first
    | (go_at_call 35; (with_reducible refine (H1.out _).mono ?_); rintro e w1 ⟨rfl, b1⟩; replace b0 := b0.trans (b1.mono b0.size))
    | (go_at_call 36; (with_reducible refine (H2.out _).mono ?_); rintro e w1 ⟨rfl, b1⟩; replace b0 := b0.trans (b1.mono b0.size))
    | (go_at_call 37; (with_reducible refine (H3.out _).mono ?_); rintro e w1 ⟨rfl, b1⟩; replace b0 := b0.trans (b1.mono b0.size))
    | (go_at_call 38; (with_reducible refine (H4.out _).mono ?_); rintro e w1 ⟨rfl, b1⟩; replace b0 := b0.trans (b1.mono b0.size))
    | (go_at_call 24; (with_reducible refine (HAW.out _).mono ?_); rintro e w1 ⟨rfl, b1⟩; replace b0 := b0.trans (b1.mono b0.size)))
  go_ret
  exact ⟨rfl, b0⟩
theorem marksCounts_c4b (n k : Int) (w : World)
    (H1 : Hid (∀ V, Calls Try.prog 35 #[.int .i64 n, .int .i64 k] V fun e w' => e = .returned (.tuple #[.int .i64 0, .int .i64 2]) ∧ Below V.heap.size V w'))
    (H2 : Hid (∀ V, Calls Try.prog 36 #[.int .i64 n, .int .i64 k] V fun e w' => e = .returned (.tuple #[.string ⟨#[]⟩, .int .i64 2]) ∧ Below V.heap.size V w'))
    (gn0 : decide (n < 0) = false)
    (gn16 : decide (16 < n) = false)
    (gn60 : decide (60 < n) = false)
    (gk1 : decide (k < 1) = false)
    (gk3 : decide (3 < k) = true)
    (gk4 : decide (4 < k) = true) :
    Calls Try.prog 6 #[.int .i64 n, .int .i64 k] w fun e w' => e = .returned (.bool true) ∧ Below w.heap.size w w' := by
  have HAW := Lib.hid awake_any
  have b0 := Below.refl w.heap.size w
  have hne := nil_empty
  go_enter Try.func6, Try.ntmps6
  go_wp2_with (first
    | (go_at_call 35; (with_reducible refine (H1.out _).mono ?_); rintro e w1 ⟨rfl, b1⟩; replace b0 := b0.trans (b1.mono b0.size))
    | (go_at_call 36; (with_reducible refine (H2.out _).mono ?_); rintro e w1 ⟨rfl, b1⟩; replace b0 := b0.trans (b1.mono b0.size))
    | (go_at_call 37; (with_reducible refine (H3.out _).mono ?_); rintro e w1 ⟨rfl, b1⟩; replace b0 := b0.trans (b1.mono b0.size))
    | (go_at_call 38; (with_reducible refine (H4.out _).mono ?_); rintro e w1 ⟨rfl, b1⟩; replace b0 := b0.trans (b1.mono b0.size))
    | (go_at_call 24; (with_reducible refine (HAW.out _).mono ?_); rintro e w1 ⟨rfl, b1⟩; replace b0 := b0.trans (b1.mono b0.size)))
  go_ret
  exact ⟨rfl, b0⟩
theorem marksCounts_c4n (n k : Int) (w : World)
    (H1 : Hid (∀ V, Calls Try.prog 35 #[.int .i64 n, .int .i64 k] V fun e w' => e = .returned (.tuple #[.int .i64 0, .int .i64 2]) ∧ Below V.heap.size V w'))
    (H2 : Hid (∀ V, Calls Try.prog 36 #[.int .i64 n, .int .i64 k] V fun e w' => e = .returned (.tuple #[.string ⟨#[]⟩, .int .i64 6]) ∧ Below V.heap.size V w'))
    (H4 : Hid (∀ V, Calls Try.prog 38 #[.string ⟨#[]⟩, .int .i64 n, .int .i64 k] V fun e w' => e = .returned (.tuple #[.string ⟨#[]⟩, .bool false]) ∧ Below V.heap.size V w'))
    (gn0 : decide (n < 0) = false)
    (gn16 : decide (16 < n) = false)
    (gn60 : decide (60 < n) = false)
    (gk1 : decide (k < 1) = false)
    (gk3 : decide (3 < k) = true)
    (gk4 : decide (4 < k) = false) :
    Calls Try.prog 6 #[.int .i64 n, .int .i64 k] w fun e w' => e = .returned (.bool true) ∧ Below w.heap.size w w' := by
  have HAW := Lib.hid awake_any
  have b0 := Below.refl w.heap.size w
  have hne := nil_empty
  go_enter Try.func6, Try.ntmps6
  go_wp2_with (first
    | (go_at_call 35; (with_reducible refine (H1.out _).mono ?_); rintro e w1 ⟨rfl, b1⟩; replace b0 := b0.trans (b1.mono b0.size))
    | (go_at_call 36; (with_reducible refine (H2.out _).mono ?_); rintro e w1 ⟨rfl, b1⟩; replace b0 := b0.trans (b1.mono b0.size))
    | (go_at_call 37; (with_reducible refine (H3.out _).mono ?_); rintro e w1 ⟨rfl, b1⟩; replace b0 := b0.trans (b1.mono b0.size))
    | (go_at_call 38; (with_reducible refine (H4.out _).mono ?_); rintro e w1 ⟨rfl, b1⟩; replace b0 := b0.trans (b1.mono b0.size))
    | (go_at_call 24; (with_reducible refine (HAW.out _).mono ?_); rintro e w1 ⟨rfl, b1⟩; replace b0 := b0.trans (b1.mono b0.size)))
  go_ret
  exact ⟨rfl, b0⟩
theorem marksCounts_c4s (n k : Int) (u : ByteArray) (w : World)
    (H1 : Hid (∀ V, Calls Try.prog 35 #[.int .i64 n, .int .i64 k] V fun e w' => e = .returned (.tuple #[.int .i64 0, .int .i64 2]) ∧ Below V.heap.size V w'))
    (H2 : Hid (∀ V, Calls Try.prog 36 #[.int .i64 n, .int .i64 k] V fun e w' => e = .returned (.tuple #[.string u, .int .i64 0]) ∧ Below V.heap.size V w'))
    (H4 : Hid (∀ V, Calls Try.prog 38 #[.string ⟨#[]⟩, .int .i64 n, .int .i64 k] V fun e w' => e = .returned (.tuple #[.string u, .bool true]) ∧ Below V.heap.size V w'))
    (gn0 : decide (n < 0) = false)
    (gn16 : decide (16 < n) = false)
    (gn60 : decide (60 < n) = false)
    (gk1 : decide (k < 1) = false)
    (gk3 : decide (3 < k) = true)
    (gk4 : decide (4 < k) = false) :
    Calls Try.prog 6 #[.int .i64 n, .int .i64 k] w fun e w' => e = .returned (.bool true) ∧ Below w.heap.size w w' := by
  have HAW := Lib.hid awake_any
  have b0 := Below.refl w.heap.size w
  have hne := nil_empty
  go_enter Try.func6, Try.ntmps6
  go_wp2_with (first
    | (go_at_call 35; (with_reducible refine (H1.out _).mono ?_); rintro e w1 ⟨rfl, b1⟩; replace b0 := b0.trans (b1.mono b0.size))
    | (go_at_call 36; (with_reducible refine (H2.out _).mono ?_); rintro e w1 ⟨rfl, b1⟩; replace b0 := b0.trans (b1.mono b0.size))
    | (go_at_call 37; (with_reducible refine (H3.out _).mono ?_); rintro e w1 ⟨rfl, b1⟩; replace b0 := b0.trans (b1.mono b0.size))
    | (go_at_call 38; (with_reducible refine (H4.out _).mono ?_); rintro e w1 ⟨rfl, b1⟩; replace b0 := b0.trans (b1.mono b0.size))
    | (go_at_call 24; (with_reducible refine (HAW.out _).mono ?_); rintro e w1 ⟨rfl, b1⟩; replace b0 := b0.trans (b1.mono b0.size)))
  go_ret
  exact ⟨rfl, b0⟩
theorem marksCounts_c5n (n k : Int) (N : Int) (w : World)
    (H1 : Hid (∀ V, Calls Try.prog 35 #[.int .i64 n, .int .i64 k] V fun e w' => e = .returned (.tuple #[.int .i64 N, .int .i64 0]) ∧ Below V.heap.size V w'))
    (H2 : Hid (∀ V, Calls Try.prog 36 #[.int .i64 n, .int .i64 k] V fun e w' => e = .returned (.tuple #[.string ⟨#[]⟩, .int .i64 6]) ∧ Below V.heap.size V w'))
    (H3 : Hid (∀ V, Calls Try.prog 37 #[.string ⟨#[]⟩, .int .i64 n, .int .i64 k] V fun e w' => e = .returned (.int .i64 N) ∧ Below V.heap.size V w'))
    (H4 : Hid (∀ V, Calls Try.prog 38 #[.string ⟨#[]⟩, .int .i64 n, .int .i64 k] V fun e w' => e = .returned (.tuple #[.string ⟨#[]⟩, .bool false]) ∧ Below V.heap.size V w'))
    (gn0 : decide (n < 0) = false)
    (gn16 : decide (16 < n) = false)
    (gn60 : decide (60 < n) = false)
    (gk1 : decide (k < 1) = false)
    (gk3 : decide (3 < k) = false)
    (gk4 : decide (4 < k) = false) :
    Calls Try.prog 6 #[.int .i64 n, .int .i64 k] w fun e w' => e = .returned (.bool true) ∧ Below w.heap.size w w' := by
  have HAW := Lib.hid awake_any
  have b0 := Below.refl w.heap.size w
  have hne := nil_empty
  go_enter Try.func6, Try.ntmps6
  go_wp2_with (first
    | (go_at_call 35; (with_reducible refine (H1.out _).mono ?_); rintro e w1 ⟨rfl, b1⟩; replace b0 := b0.trans (b1.mono b0.size))
    | (go_at_call 36; (with_reducible refine (H2.out _).mono ?_); rintro e w1 ⟨rfl, b1⟩; replace b0 := b0.trans (b1.mono b0.size))
    | (go_at_call 37; (with_reducible refine (H3.out _).mono ?_); rintro e w1 ⟨rfl, b1⟩; replace b0 := b0.trans (b1.mono b0.size))
    | (go_at_call 38; (with_reducible refine (H4.out _).mono ?_); rintro e w1 ⟨rfl, b1⟩; replace b0 := b0.trans (b1.mono b0.size))
    | (go_at_call 24; (with_reducible refine (HAW.out _).mono ?_); rintro e w1 ⟨rfl, b1⟩; replace b0 := b0.trans (b1.mono b0.size)))
  go_ret
  exact ⟨rfl, b0⟩
theorem marksCounts_c5s (n k : Int) (N : Int) (u : ByteArray) (w : World)
    (H1 : Hid (∀ V, Calls Try.prog 35 #[.int .i64 n, .int .i64 k] V fun e w' => e = .returned (.tuple #[.int .i64 N, .int .i64 0]) ∧ Below V.heap.size V w'))
    (H2 : Hid (∀ V, Calls Try.prog 36 #[.int .i64 n, .int .i64 k] V fun e w' => e = .returned (.tuple #[.string u, .int .i64 0]) ∧ Below V.heap.size V w'))
    (H3 : Hid (∀ V, Calls Try.prog 37 #[.string ⟨#[]⟩, .int .i64 n, .int .i64 k] V fun e w' => e = .returned (.int .i64 N) ∧ Below V.heap.size V w'))
    (H4 : Hid (∀ V, Calls Try.prog 38 #[.string ⟨#[]⟩, .int .i64 n, .int .i64 k] V fun e w' => e = .returned (.tuple #[.string u, .bool true]) ∧ Below V.heap.size V w'))
    (gn0 : decide (n < 0) = false)
    (gn16 : decide (16 < n) = false)
    (gn60 : decide (60 < n) = false)
    (gk1 : decide (k < 1) = false)
    (gk3 : decide (3 < k) = false)
    (gk4 : decide (4 < k) = false) :
    Calls Try.prog 6 #[.int .i64 n, .int .i64 k] w fun e w' => e = .returned (.bool true) ∧ Below w.heap.size w w' := by
  have HAW := Lib.hid awake_any
  have b0 := Below.refl w.heap.size w
  have hne := nil_empty
  go_enter Try.func6, Try.ntmps6
  go_wp2_with (first
    | (go_at_call 35; (with_reducible refine (H1.out _).mono ?_); rintro e w1 ⟨rfl, b1⟩; replace b0 := b0.trans (b1.mono b0.size))
    | (go_at_call 36; (with_reducible refine (H2.out _).mono ?_); rintro e w1 ⟨rfl, b1⟩; replace b0 := b0.trans (b1.mono b0.size))
    | (go_at_call 37; (with_reducible refine (H3.out _).mono ?_); rintro e w1 ⟨rfl, b1⟩; replace b0 := b0.trans (b1.mono b0.size))
    | (go_at_call 38; (with_reducible refine (H4.out _).mono ?_); rintro e w1 ⟨rfl, b1⟩; replace b0 := b0.trans (b1.mono b0.size))
    | (go_at_call 24; (with_reducible refine (HAW.out _).mono ?_); rintro e w1 ⟨rfl, b1⟩; replace b0 := b0.trans (b1.mono b0.size)))
  go_ret
  exact ⟨rfl, b0⟩
theorem marksCounts_any (n k : Int) (w : World) :
    Calls Try.prog 6 #[.int .i64 n, .int .i64 k] w fun e w' => e = .returned (.bool true) ∧ Below w.heap.size w w' := by
  have dt : ∀ {p : Prop} [Decidable p], p → decide p = true := fun h => decide_eq_true h
  have df : ∀ {p : Prop} [Decidable p], ¬ p → decide p = false := fun h => decide_eq_false h
  by_cases n0 : n < 0
  · exact marksCounts_c1 n k w (Lib.hid (fun V => Count_no n k V (by omega))) (Lib.hid (fun V => First_no n k V (by omega))) (dt n0)
  by_cases n60 : 60 < n
  · exact marksCounts_c2 n k w (Lib.hid (fun V => Count_no n k V (by omega))) (Lib.hid (fun V => First_no n k V (by omega))) (df n0) (dt (by omega)) (dt n60)
  by_cases k1 : k < 1
  · by_cases n16 : 16 < n
    · exact marksCounts_c3a n k w (Lib.hid (fun V => Count_no n k V (by omega))) (Lib.hid (fun V => First_no n k V (by omega))) (df n0) (dt n16) (df n60) (dt k1)
    · exact marksCounts_c4a n k w (Lib.hid (fun V => Count_no n k V (by omega))) (Lib.hid (fun V => First_no n k V (by omega))) (df n0) (df n16) (df n60) (dt k1)
  by_cases k4 : 4 < k
  · by_cases n16 : 16 < n
    · exact marksCounts_c3b n k w (Lib.hid (fun V => Count_no n k V (by omega))) (Lib.hid (fun V => First_no n k V (by omega))) (df n0) (dt n16) (df n60) (df k1) (dt k4)
    · exact marksCounts_c4b n k w (Lib.hid (fun V => Count_no n k V (by omega))) (Lib.hid (fun V => First_no n k V (by omega))) (df n0) (df n16) (df n60) (df k1) (dt (by omega)) (dt k4)
  obtain ⟨a, rfl⟩ : ∃ a : Nat, n = a := ⟨n.toNat, by omega⟩
  obtain ⟨b, rfl⟩ : ∃ b : Nat, k = b := ⟨k.toNat, by omega⟩
  have H2 := Lib.hid (fun V => First_yes a b V (by omega) (by omega) (by omega))
  have H4 : Hid (∀ V, Calls Try.prog 38 #[.string ⟨#[]⟩, .int .i64 a, .int .i64 b] V fun e w' => e = .returned (fiRV (exts b a []).head?) ∧ Below V.heap.size V w') := Lib.hid (fun V => refFirst_any a b (by omega) (by omega) a [] V (by simp) (fun c hc => by cases hc))
  have e2 : fiV a b = match (exts b a []).head? with | some x => .tuple #[.string (wS x), .int .i64 0] | none => .tuple #[.string ⟨#[]⟩, .int .i64 6] := rfl
  rw [e2] at H2
  by_cases n16 : (16 : Int) < a
  · have H1 := Lib.hid (fun V => Count_no a b V (by omega))
    cases hh : (exts b a []).head? with
    | none =>
      rw [hh] at H2 H4
      exact marksCounts_c3n a b w H1 H2 H4 (df n0) (dt n16) (df n60) (df k1) (df k4)
    | some x =>
      rw [hh] at H2 H4
      exact marksCounts_c3s a b (wS x) w H1 H2 H4 (df n0) (dt n16) (df n60) (df k1) (df k4)
  · by_cases k3 : (3 : Int) < b
    · have H1 := Lib.hid (fun V => Count_no a b V (by omega))
      cases hh : (exts b a []).head? with
      | none =>
        rw [hh] at H2 H4
        exact marksCounts_c4n a b w H1 H2 H4 (df n0) (df n16) (df n60) (df k1) (dt k3) (df k4)
      | some x =>
        rw [hh] at H2 H4
        exact marksCounts_c4s a b (wS x) w H1 H2 H4 (df n0) (df n16) (df n60) (df k1) (dt k3) (df k4)
    · have H1 := Lib.hid (fun V => Count_yes a b V (by omega) (by omega) (by omega))
      have H3 : Hid (∀ V, Calls Try.prog 37 #[.string ⟨#[]⟩, .int .i64 a, .int .i64 b] V fun e w' => e = .returned (.int .i64 (cntN a b : Nat)) ∧ Below V.heap.size V w') := Lib.hid (fun V => refCount_any a b (by omega) (by omega) a [] V (by simp) (fun c hc => by cases hc))
      cases hh : (exts b a []).head? with
      | none =>
        rw [hh] at H2 H4
        exact marksCounts_c5n a b _ w H1 H2 H3 H4 (df n0) (df n16) (df n60) (df k1) (df k3) (df k4)
      | some x =>
        rw [hh] at H2 H4
        exact marksCounts_c5s a b _ (wS x) w H1 H2 H3 H4 (df n0) (df n16) (df n60) (df k1) (df k3) (df k4)
end Go.Proofs.Ytoklnpiehbnalaa
