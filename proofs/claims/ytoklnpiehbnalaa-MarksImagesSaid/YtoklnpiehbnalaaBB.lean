/- MarksSquares walked. -/
import Derived.Test.YtoklnpiehbnalaaBA
import Derived.Test.YtoklnpiehbnalaaAH
namespace Go.Proofs.Ytoklnpiehbnalaa
open Go.RowKit Go.PlainAid
set_option maxHeartbeats 2000000
set_option maxRecDepth 100000
theorem shB_of (s : ByteArray) : shB s = s.extract 0 (min s.size 121) := rfl
theorem short_call (s : ByteArray) (w : World) (hs : s.size ≤ 9223372036854775807) : Calls Try.prog 19 #[.string s] w fun e w' => e = .returned (.string (shB s)) ∧ Below w.heap.size w w' := short_any s w hs
theorem marksSquares_no (s : ByteArray) (w : World) (hs : s.size ≤ 9223372036854775807) (h : okB (shB s) = false) :
    Calls Try.prog 3 #[.string s] w fun e w' => e = .returned (.bool true) ∧ Below w.heap.size w w' := by
  have hl := shB_len s
  have H0 := Lib.hid (fun V => short_call s V hs)
  have H1 := Lib.hid (fun V => Square_no (shB s) V (by omega) h)
  have H2 := Lib.hid (fun V => Abelian_no (shB s) V (by omega) h)
  have H3 := Lib.hid (fun V => Periods_no (shB s) V (by omega) h)
  have H4 := Lib.hid (fun V => refWord_any (shB s) V (by omega))
  rw [h] at H4
  have HAW := Lib.hid awake_any
  have b0 := Below.refl w.heap.size w
  clear h hl hs
  generalize shB s = t at *
  go_enter Try.func3, Try.ntmps3
  go_wp2_with (first
    | (go_at_call 19; (with_reducible refine (H0.out _).mono ?_); rintro e w1 ⟨rfl, b1⟩; replace b0 := b0.trans (b1.mono b0.size))
    | (go_at_call 20; (with_reducible refine (H1.out _).mono ?_); rintro e w1 ⟨rfl, b1⟩; replace b0 := b0.trans (b1.mono b0.size))
    | (go_at_call 21; (with_reducible refine (H2.out _).mono ?_); rintro e w1 ⟨rfl, b1⟩; replace b0 := b0.trans (b1.mono b0.size))
    | (go_at_call 22; (with_reducible refine (H3.out _).mono ?_); rintro e w1 ⟨rfl, b1⟩; replace b0 := b0.trans (b1.mono b0.size))
    | (go_at_call 23; (with_reducible refine (H4.out _).mono ?_); rintro e w1 ⟨rfl, rfl⟩)
    | (go_at_call 24; (with_reducible refine (HAW.out _).mono ?_); rintro e w1 ⟨rfl, b1⟩; replace b0 := b0.trans (b1.mono b0.size)))
  go_ret
  exact ⟨rfl, b0⟩
theorem marksSquares_nn (s t : ByteArray) (L : List Int)  (w : World)
    (H0 : Hid (∀ V, Calls Try.prog 19 #[.string s] V fun e w' => e = .returned (.string t) ∧ Below V.heap.size V w'))
    (H1 : Hid (∀ V, Calls Try.prog 20 #[.string t] V fun e w' => e = .returned (.tuple #[.int .i64 0, .int .i64 0, .int .i64 6]) ∧ Below V.heap.size V w'))
    (H2 : Hid (∀ V, Calls Try.prog 21 #[.string t] V fun e w' => e = .returned (.tuple #[.int .i64 0, .int .i64 0, .int .i64 6]) ∧ Below V.heap.size V w'))
    (H3 : Hid (∀ V, Calls Try.prog 22 #[.string t] V (NewLE V L 0)))
    (H4 : Hid (∀ V, Calls Try.prog 23 #[.string t] V fun e w' => e = .returned (.bool true) ∧ V = w'))
    (H5 : Hid (∀ V, Calls Try.prog 25 #[.string t] V fun e w' => e = .returned (.tuple #[.int .i64 0, .int .i64 0, .bool false]) ∧ Below V.heap.size V w'))
    (H6 : Hid (∀ V, Calls Try.prog 26 #[.string t] V fun e w' => e = .returned (.tuple #[.int .i64 0, .int .i64 0, .bool false]) ∧ Below V.heap.size V w'))
    (H7 : Hid (∀ V, Calls Try.prog 28 #[.string t] V (NewL V L))) (hL : L.length ≤ 1000) :
    Calls Try.prog 3 #[.string s] w fun e w' => e = .returned (.bool true) ∧ Below w.heap.size w w' := by
  have HAW := Lib.hid awake_any
  have b0 := Below.refl w.heap.size w
  obtain ⟨n, hn⟩ : ∃ n, L.length = n := ⟨_, rfl⟩
  have HN := Lib.hid hn
  have HI := Lib.hid (fun (A B : Option Addr) (c d : Nat) (V : World) (h1 : IntsAt V A L) (h2 : IntsAt V B L) => ints_yes A B c d L n V hn (by omega) h1 h2)
  clear hn
  go_enter Try.func3, Try.ntmps3
  go_wp2_with (first
    | (go_at_call 19; (with_reducible refine (H0.out _).mono ?_); rintro e w1 ⟨rfl, b1⟩; replace b0 := b0.trans (b1.mono b0.size))
    | (go_at_call 20; (with_reducible refine (H1.out _).mono ?_); rintro e w1 ⟨rfl, b1⟩; replace b0 := b0.trans (b1.mono b0.size))
    | (go_at_call 21; (with_reducible refine (H2.out _).mono ?_); rintro e w1 ⟨rfl, b1⟩; replace b0 := b0.trans (b1.mono b0.size))
    | (go_at_call 22; ((with_reducible refine (H3.out _).mono ?_); rintro e w1 ⟨v1, rfl, o1, b1⟩); replace b0 := b0.trans (b1.mono b0.size); obtain ⟨A1, c1, rfl, -, -, i1⟩ := own_intsI o1; rw [HN.out]; clear o1)
    | (go_at_call 23; (with_reducible refine (H4.out _).mono ?_); rintro e w2 ⟨rfl, rfl⟩)
    | (go_at_call 25; (with_reducible refine (H5.out _).mono ?_); rintro e w2 ⟨rfl, b1⟩; replace b0 := b0.trans (b1.mono b0.size); replace i1 := i1.below b1)
    | (go_at_call 26; (with_reducible refine (H6.out _).mono ?_); rintro e w2 ⟨rfl, b1⟩; replace b0 := b0.trans (b1.mono b0.size); replace i1 := i1.below b1)
    | (go_at_call 28; ((with_reducible refine (H7.out _).mono ?_); rintro e w2 ⟨v2, rfl, o2, b1⟩); replace b0 := b0.trans (b1.mono b0.size); replace i1 := i1.below b1; obtain ⟨A2, c2, rfl, -, -, i2⟩ := own_intsI o2; rw [HN.out]; clear o2)
    | (go_at_call 27; (with_reducible refine (HI.out _ _ _ _ _ i1 i2).mono ?_); rintro e w2 ⟨rfl, m, rfl⟩; replace b0 := b0.trans (below_drewN m))
    | (go_at_call 24; (with_reducible refine (HAW.out _).mono ?_); rintro e w2 ⟨rfl, b1⟩; replace b0 := b0.trans (b1.mono b0.size)))
  go_ret
  exact ⟨rfl, b0⟩
theorem marksSquares_ns (s t : ByteArray) (L : List Int) (b j : Nat) (w : World)
    (H0 : Hid (∀ V, Calls Try.prog 19 #[.string s] V fun e w' => e = .returned (.string t) ∧ Below V.heap.size V w'))
    (H1 : Hid (∀ V, Calls Try.prog 20 #[.string t] V fun e w' => e = .returned (.tuple #[.int .i64 0, .int .i64 0, .int .i64 6]) ∧ Below V.heap.size V w'))
    (H2 : Hid (∀ V, Calls Try.prog 21 #[.string t] V fun e w' => e = .returned (.tuple #[.int .i64 b, .int .i64 ((j + 1 : Nat) : Int), .int .i64 0]) ∧ Below V.heap.size V w'))
    (H3 : Hid (∀ V, Calls Try.prog 22 #[.string t] V (NewLE V L 0)))
    (H4 : Hid (∀ V, Calls Try.prog 23 #[.string t] V fun e w' => e = .returned (.bool true) ∧ V = w'))
    (H5 : Hid (∀ V, Calls Try.prog 25 #[.string t] V fun e w' => e = .returned (.tuple #[.int .i64 0, .int .i64 0, .bool false]) ∧ Below V.heap.size V w'))
    (H6 : Hid (∀ V, Calls Try.prog 26 #[.string t] V fun e w' => e = .returned (.tuple #[.int .i64 b, .int .i64 ((j + 1 : Nat) : Int), .bool true]) ∧ Below V.heap.size V w'))
    (H7 : Hid (∀ V, Calls Try.prog 28 #[.string t] V (NewL V L))) (hL : L.length ≤ 1000) :
    Calls Try.prog 3 #[.string s] w fun e w' => e = .returned (.bool true) ∧ Below w.heap.size w w' := by
  have HAW := Lib.hid awake_any
  have b0 := Below.refl w.heap.size w
  obtain ⟨n, hn⟩ : ∃ n, L.length = n := ⟨_, rfl⟩
  have HN := Lib.hid hn
  have HI := Lib.hid (fun (A B : Option Addr) (c d : Nat) (V : World) (h1 : IntsAt V A L) (h2 : IntsAt V B L) => ints_yes A B c d L n V hn (by omega) h1 h2)
  clear hn
  go_enter Try.func3, Try.ntmps3
  go_wp2_with (first
    | (go_at_call 19; (with_reducible refine (H0.out _).mono ?_); rintro e w1 ⟨rfl, b1⟩; replace b0 := b0.trans (b1.mono b0.size))
    | (go_at_call 20; (with_reducible refine (H1.out _).mono ?_); rintro e w1 ⟨rfl, b1⟩; replace b0 := b0.trans (b1.mono b0.size))
    | (go_at_call 21; (with_reducible refine (H2.out _).mono ?_); rintro e w1 ⟨rfl, b1⟩; replace b0 := b0.trans (b1.mono b0.size))
    | (go_at_call 22; ((with_reducible refine (H3.out _).mono ?_); rintro e w1 ⟨v1, rfl, o1, b1⟩); replace b0 := b0.trans (b1.mono b0.size); obtain ⟨A1, c1, rfl, -, -, i1⟩ := own_intsI o1; rw [HN.out]; clear o1)
    | (go_at_call 23; (with_reducible refine (H4.out _).mono ?_); rintro e w2 ⟨rfl, rfl⟩)
    | (go_at_call 25; (with_reducible refine (H5.out _).mono ?_); rintro e w2 ⟨rfl, b1⟩; replace b0 := b0.trans (b1.mono b0.size); replace i1 := i1.below b1)
    | (go_at_call 26; (with_reducible refine (H6.out _).mono ?_); rintro e w2 ⟨rfl, b1⟩; replace b0 := b0.trans (b1.mono b0.size); replace i1 := i1.below b1)
    | (go_at_call 28; ((with_reducible refine (H7.out _).mono ?_); rintro e w2 ⟨v2, rfl, o2, b1⟩); replace b0 := b0.trans (b1.mono b0.size); replace i1 := i1.below b1; obtain ⟨A2, c2, rfl, -, -, i2⟩ := own_intsI o2; rw [HN.out]; clear o2)
    | (go_at_call 27; (with_reducible refine (HI.out _ _ _ _ _ i1 i2).mono ?_); rintro e w2 ⟨rfl, m, rfl⟩; replace b0 := b0.trans (below_drewN m))
    | (go_at_call 24; (with_reducible refine (HAW.out _).mono ?_); rintro e w2 ⟨rfl, b1⟩; replace b0 := b0.trans (b1.mono b0.size)))
  go_ret
  exact ⟨rfl, b0⟩
theorem marksSquares_sn (s t : ByteArray) (L : List Int) (a i : Nat) (w : World)
    (H0 : Hid (∀ V, Calls Try.prog 19 #[.string s] V fun e w' => e = .returned (.string t) ∧ Below V.heap.size V w'))
    (H1 : Hid (∀ V, Calls Try.prog 20 #[.string t] V fun e w' => e = .returned (.tuple #[.int .i64 a, .int .i64 ((i + 1 : Nat) : Int), .int .i64 0]) ∧ Below V.heap.size V w'))
    (H2 : Hid (∀ V, Calls Try.prog 21 #[.string t] V fun e w' => e = .returned (.tuple #[.int .i64 0, .int .i64 0, .int .i64 6]) ∧ Below V.heap.size V w'))
    (H3 : Hid (∀ V, Calls Try.prog 22 #[.string t] V (NewLE V L 0)))
    (H4 : Hid (∀ V, Calls Try.prog 23 #[.string t] V fun e w' => e = .returned (.bool true) ∧ V = w'))
    (H5 : Hid (∀ V, Calls Try.prog 25 #[.string t] V fun e w' => e = .returned (.tuple #[.int .i64 a, .int .i64 ((i + 1 : Nat) : Int), .bool true]) ∧ Below V.heap.size V w'))
    (H6 : Hid (∀ V, Calls Try.prog 26 #[.string t] V fun e w' => e = .returned (.tuple #[.int .i64 0, .int .i64 0, .bool false]) ∧ Below V.heap.size V w'))
    (H7 : Hid (∀ V, Calls Try.prog 28 #[.string t] V (NewL V L))) (hL : L.length ≤ 1000) :
    Calls Try.prog 3 #[.string s] w fun e w' => e = .returned (.bool true) ∧ Below w.heap.size w w' := by
  have HAW := Lib.hid awake_any
  have b0 := Below.refl w.heap.size w
  obtain ⟨n, hn⟩ : ∃ n, L.length = n := ⟨_, rfl⟩
  have HN := Lib.hid hn
  have HI := Lib.hid (fun (A B : Option Addr) (c d : Nat) (V : World) (h1 : IntsAt V A L) (h2 : IntsAt V B L) => ints_yes A B c d L n V hn (by omega) h1 h2)
  clear hn
  go_enter Try.func3, Try.ntmps3
  go_wp2_with (first
    | (go_at_call 19; (with_reducible refine (H0.out _).mono ?_); rintro e w1 ⟨rfl, b1⟩; replace b0 := b0.trans (b1.mono b0.size))
    | (go_at_call 20; (with_reducible refine (H1.out _).mono ?_); rintro e w1 ⟨rfl, b1⟩; replace b0 := b0.trans (b1.mono b0.size))
    | (go_at_call 21; (with_reducible refine (H2.out _).mono ?_); rintro e w1 ⟨rfl, b1⟩; replace b0 := b0.trans (b1.mono b0.size))
    | (go_at_call 22; ((with_reducible refine (H3.out _).mono ?_); rintro e w1 ⟨v1, rfl, o1, b1⟩); replace b0 := b0.trans (b1.mono b0.size); obtain ⟨A1, c1, rfl, -, -, i1⟩ := own_intsI o1; rw [HN.out]; clear o1)
    | (go_at_call 23; (with_reducible refine (H4.out _).mono ?_); rintro e w2 ⟨rfl, rfl⟩)
    | (go_at_call 25; (with_reducible refine (H5.out _).mono ?_); rintro e w2 ⟨rfl, b1⟩; replace b0 := b0.trans (b1.mono b0.size); replace i1 := i1.below b1)
    | (go_at_call 26; (with_reducible refine (H6.out _).mono ?_); rintro e w2 ⟨rfl, b1⟩; replace b0 := b0.trans (b1.mono b0.size); replace i1 := i1.below b1)
    | (go_at_call 28; ((with_reducible refine (H7.out _).mono ?_); rintro e w2 ⟨v2, rfl, o2, b1⟩); replace b0 := b0.trans (b1.mono b0.size); replace i1 := i1.below b1; obtain ⟨A2, c2, rfl, -, -, i2⟩ := own_intsI o2; rw [HN.out]; clear o2)
    | (go_at_call 27; (with_reducible refine (HI.out _ _ _ _ _ i1 i2).mono ?_); rintro e w2 ⟨rfl, m, rfl⟩; replace b0 := b0.trans (below_drewN m))
    | (go_at_call 24; (with_reducible refine (HAW.out _).mono ?_); rintro e w2 ⟨rfl, b1⟩; replace b0 := b0.trans (b1.mono b0.size)))
  go_ret
  exact ⟨rfl, b0⟩
theorem marksSquares_ss (s t : ByteArray) (L : List Int) (a i : Nat) (b j : Nat) (w : World)
    (H0 : Hid (∀ V, Calls Try.prog 19 #[.string s] V fun e w' => e = .returned (.string t) ∧ Below V.heap.size V w'))
    (H1 : Hid (∀ V, Calls Try.prog 20 #[.string t] V fun e w' => e = .returned (.tuple #[.int .i64 a, .int .i64 ((i + 1 : Nat) : Int), .int .i64 0]) ∧ Below V.heap.size V w'))
    (H2 : Hid (∀ V, Calls Try.prog 21 #[.string t] V fun e w' => e = .returned (.tuple #[.int .i64 b, .int .i64 ((j + 1 : Nat) : Int), .int .i64 0]) ∧ Below V.heap.size V w'))
    (H3 : Hid (∀ V, Calls Try.prog 22 #[.string t] V (NewLE V L 0)))
    (H4 : Hid (∀ V, Calls Try.prog 23 #[.string t] V fun e w' => e = .returned (.bool true) ∧ V = w'))
    (H5 : Hid (∀ V, Calls Try.prog 25 #[.string t] V fun e w' => e = .returned (.tuple #[.int .i64 a, .int .i64 ((i + 1 : Nat) : Int), .bool true]) ∧ Below V.heap.size V w'))
    (H6 : Hid (∀ V, Calls Try.prog 26 #[.string t] V fun e w' => e = .returned (.tuple #[.int .i64 b, .int .i64 ((j + 1 : Nat) : Int), .bool true]) ∧ Below V.heap.size V w'))
    (H7 : Hid (∀ V, Calls Try.prog 28 #[.string t] V (NewL V L))) (hL : L.length ≤ 1000) :
    Calls Try.prog 3 #[.string s] w fun e w' => e = .returned (.bool true) ∧ Below w.heap.size w w' := by
  have HAW := Lib.hid awake_any
  have b0 := Below.refl w.heap.size w
  obtain ⟨n, hn⟩ : ∃ n, L.length = n := ⟨_, rfl⟩
  have HN := Lib.hid hn
  have HI := Lib.hid (fun (A B : Option Addr) (c d : Nat) (V : World) (h1 : IntsAt V A L) (h2 : IntsAt V B L) => ints_yes A B c d L n V hn (by omega) h1 h2)
  clear hn
  go_enter Try.func3, Try.ntmps3
  go_wp2_with (first
    | (go_at_call 19; (with_reducible refine (H0.out _).mono ?_); rintro e w1 ⟨rfl, b1⟩; replace b0 := b0.trans (b1.mono b0.size))
    | (go_at_call 20; (with_reducible refine (H1.out _).mono ?_); rintro e w1 ⟨rfl, b1⟩; replace b0 := b0.trans (b1.mono b0.size))
    | (go_at_call 21; (with_reducible refine (H2.out _).mono ?_); rintro e w1 ⟨rfl, b1⟩; replace b0 := b0.trans (b1.mono b0.size))
    | (go_at_call 22; ((with_reducible refine (H3.out _).mono ?_); rintro e w1 ⟨v1, rfl, o1, b1⟩); replace b0 := b0.trans (b1.mono b0.size); obtain ⟨A1, c1, rfl, -, -, i1⟩ := own_intsI o1; rw [HN.out]; clear o1)
    | (go_at_call 23; (with_reducible refine (H4.out _).mono ?_); rintro e w2 ⟨rfl, rfl⟩)
    | (go_at_call 25; (with_reducible refine (H5.out _).mono ?_); rintro e w2 ⟨rfl, b1⟩; replace b0 := b0.trans (b1.mono b0.size); replace i1 := i1.below b1)
    | (go_at_call 26; (with_reducible refine (H6.out _).mono ?_); rintro e w2 ⟨rfl, b1⟩; replace b0 := b0.trans (b1.mono b0.size); replace i1 := i1.below b1)
    | (go_at_call 28; ((with_reducible refine (H7.out _).mono ?_); rintro e w2 ⟨v2, rfl, o2, b1⟩); replace b0 := b0.trans (b1.mono b0.size); replace i1 := i1.below b1; obtain ⟨A2, c2, rfl, -, -, i2⟩ := own_intsI o2; rw [HN.out]; clear o2)
    | (go_at_call 27; (with_reducible refine (HI.out _ _ _ _ _ i1 i2).mono ?_); rintro e w2 ⟨rfl, m, rfl⟩; replace b0 := b0.trans (below_drewN m))
    | (go_at_call 24; (with_reducible refine (HAW.out _).mono ?_); rintro e w2 ⟨rfl, b1⟩; replace b0 := b0.trans (b1.mono b0.size)))
  go_ret
  exact ⟨rfl, b0⟩
theorem marksSquares_any (s : ByteArray) (w : World) (hs : s.size ≤ maxLen) :
    Calls Try.prog 3 #[.string s] w fun e w' => e = .returned (.bool true) ∧ Below w.heap.size w w' := by
  unfold maxLen at hs
  cases h : okB (shB s)
  · exact marksSquares_no s w (by omega) h
  · obtain ⟨x, hx, hok, hl⟩ := okB_word h
    have H0 : Hid (∀ V, Calls Try.prog 19 #[.string s] V fun e w' => e = .returned (.string (wS x)) ∧ Below V.heap.size V w') := Lib.hid (fun V => by rw [← hx]; exact short_call s V (by omega))
    have H1 := Lib.hid (fun V => Square_yes x V hok hl)
    have H2 := Lib.hid (fun V => Abelian_yes x V hok hl)
    have H3 := Lib.hid (fun V => Periods_yes x V hok hl)
    have H4 := Lib.hid (fun V => refWord_any (wS x) V (by rw [wS_len]; omega))
    rw [okB_wS hok hl] at H4
    have H5 := Lib.hid (fun V => refSquare_any x V hok (by omega))
    have H6 := Lib.hid (fun V => refAbelian_any x V hok (by omega))
    have H7 := Lib.hid (fun V => refPeriods_any x V hok (by omega))
    have hL : (perL x).length ≤ 1000 := by have := perU_len x x.length; unfold perL; omega
    cases hq : sqS x with
    | none =>
      rw [hq] at H1 H5
      cases hr : abS x with
      | none =>
        rw [hr] at H2 H6
        exact marksSquares_nn s (wS x) (perL x) w H0 H1 H2 H3 H4 H5 H6 H7 hL
      | some y =>
        obtain ⟨b, j⟩ := y
        rw [hr] at H2 H6
        exact marksSquares_ns s (wS x) (perL x) b j w H0 H1 H2 H3 H4 H5 H6 H7 hL
    | some y =>
      obtain ⟨a, i⟩ := y
      rw [hq] at H1 H5
      cases hr : abS x with
      | none =>
        rw [hr] at H2 H6
        exact marksSquares_sn s (wS x) (perL x) a i w H0 H1 H2 H3 H4 H5 H6 H7 hL
      | some y =>
        obtain ⟨b, j⟩ := y
        rw [hr] at H2 H6
        exact marksSquares_ss s (wS x) (perL x) a i b j w H0 H1 H2 H3 H4 H5 H6 H7 hL
end Go.Proofs.Ytoklnpiehbnalaa
