/- MarksExtends walked. -/
import Derived.Test.YtoklnpiehbnalaaBF
import Derived.Test.YtoklnpiehbnalaaBD
namespace Go.Proofs.Ytoklnpiehbnalaa
open Go.RowKit Go.PlainAid
set_option maxHeartbeats 2000000
set_option maxRecDepth 100000
theorem marksExtends_bad (s t : ByteArray) (k : Int) (B : Bool) (w : World)
    (H0 : Hid (∀ V, Calls Try.prog 19 #[.string s] V fun e w' => e = .returned (.string t) ∧ Below V.heap.size V w'))
    (H1 : Hid (∀ V, Calls Try.prog 33 #[.string t, .int .i64 k] V fun e w' => e = .returned (.tuple #[.string ⟨#[]⟩, .int .i64 2]) ∧ Below V.heap.size V w'))
    (H3 : Hid (∀ V, Calls Try.prog 23 #[.string t] V fun e w' => e = .returned (.bool B) ∧ V = w')) (h : B = false ∨ k < 1 ∨ 4 < k ∨ t.size = 120) :
    Calls Try.prog 5 #[.string s, .int .i64 k] w fun e w' => e = .returned (.bool true) ∧ Below w.heap.size w w' := by
  have HAW := Lib.hid awake_any
  have b0 := Below.refl w.heap.size w
  have hne := nil_empty
  have hts : (0 : Int) ≤ (t.size : Int) := by omega
  cases B
  · clear h
    go_enter Try.func5, Try.ntmps5
    go_wp2_with (first
    | (go_at_call 19; (with_reducible refine (H0.out _).mono ?_); rintro e w1 ⟨rfl, b1⟩; replace b0 := b0.trans (b1.mono b0.size))
    | (go_at_call 33; (with_reducible refine (H1.out _).mono ?_); rintro e w1 ⟨rfl, b1⟩; replace b0 := b0.trans (b1.mono b0.size))
    | (go_at_call 23; (with_reducible refine (H3.out _).mono ?_); rintro e w1 ⟨rfl, rfl⟩)
    | (go_at_call 34; (with_reducible refine (H4.out _).mono ?_); rintro e w1 ⟨rfl, b1⟩; replace b0 := b0.trans (b1.mono b0.size))
    | (go_at_call 24; (with_reducible refine (HAW.out _).mono ?_); rintro e w1 ⟨rfl, b1⟩; replace b0 := b0.trans (b1.mono b0.size)))
    go_ret
    exact ⟨rfl, b0⟩
  · by_cases h1 : k < 1
    · have g1 : decide (k < 1) = true := decide_eq_true h1
      clear h h1
      go_enter Try.func5, Try.ntmps5
      go_wp2_with (first
    | (go_at_call 19; (with_reducible refine (H0.out _).mono ?_); rintro e w1 ⟨rfl, b1⟩; replace b0 := b0.trans (b1.mono b0.size))
    | (go_at_call 33; (with_reducible refine (H1.out _).mono ?_); rintro e w1 ⟨rfl, b1⟩; replace b0 := b0.trans (b1.mono b0.size))
    | (go_at_call 23; (with_reducible refine (H3.out _).mono ?_); rintro e w1 ⟨rfl, rfl⟩)
    | (go_at_call 34; (with_reducible refine (H4.out _).mono ?_); rintro e w1 ⟨rfl, b1⟩; replace b0 := b0.trans (b1.mono b0.size))
    | (go_at_call 24; (with_reducible refine (HAW.out _).mono ?_); rintro e w1 ⟨rfl, b1⟩; replace b0 := b0.trans (b1.mono b0.size)))
      go_ret
      exact ⟨rfl, b0⟩
    · have g1 : decide (k < 1) = false := decide_eq_false h1
      by_cases h2 : 4 < k
      · have g2 : decide (4 < k) = true := decide_eq_true h2
        clear h h1 h2
        go_enter Try.func5, Try.ntmps5
        go_wp2_with (first
    | (go_at_call 19; (with_reducible refine (H0.out _).mono ?_); rintro e w1 ⟨rfl, b1⟩; replace b0 := b0.trans (b1.mono b0.size))
    | (go_at_call 33; (with_reducible refine (H1.out _).mono ?_); rintro e w1 ⟨rfl, b1⟩; replace b0 := b0.trans (b1.mono b0.size))
    | (go_at_call 23; (with_reducible refine (H3.out _).mono ?_); rintro e w1 ⟨rfl, rfl⟩)
    | (go_at_call 34; (with_reducible refine (H4.out _).mono ?_); rintro e w1 ⟨rfl, b1⟩; replace b0 := b0.trans (b1.mono b0.size))
    | (go_at_call 24; (with_reducible refine (HAW.out _).mono ?_); rintro e w1 ⟨rfl, b1⟩; replace b0 := b0.trans (b1.mono b0.size)))
        go_ret
        exact ⟨rfl, b0⟩
      · have g2 : decide (4 < k) = false := decide_eq_false h2
        have g3 : ((t.size : Int) == 120) = true := by
          rw [beq_iff_eq]
          rcases h with h | h | h | h
          · cases h
          · omega
          · omega
          · omega
        clear h h1 h2
        go_enter Try.func5, Try.ntmps5
        go_wp2_with (first
    | (go_at_call 19; (with_reducible refine (H0.out _).mono ?_); rintro e w1 ⟨rfl, b1⟩; replace b0 := b0.trans (b1.mono b0.size))
    | (go_at_call 33; (with_reducible refine (H1.out _).mono ?_); rintro e w1 ⟨rfl, b1⟩; replace b0 := b0.trans (b1.mono b0.size))
    | (go_at_call 23; (with_reducible refine (H3.out _).mono ?_); rintro e w1 ⟨rfl, rfl⟩)
    | (go_at_call 34; (with_reducible refine (H4.out _).mono ?_); rintro e w1 ⟨rfl, b1⟩; replace b0 := b0.trans (b1.mono b0.size))
    | (go_at_call 24; (with_reducible refine (HAW.out _).mono ?_); rintro e w1 ⟨rfl, b1⟩; replace b0 := b0.trans (b1.mono b0.size)))
        go_ret
        exact ⟨rfl, b0⟩
theorem marksExtends_none (s t : ByteArray) (k : Int) (w : World)
    (H0 : Hid (∀ V, Calls Try.prog 19 #[.string s] V fun e w' => e = .returned (.string t) ∧ Below V.heap.size V w'))
    (H1 : Hid (∀ V, Calls Try.prog 33 #[.string t, .int .i64 k] V fun e w' => e = .returned (.tuple #[.string ⟨#[]⟩, .int .i64 6]) ∧ Below V.heap.size V w'))
    (H3 : Hid (∀ V, Calls Try.prog 23 #[.string t] V fun e w' => e = .returned (.bool true) ∧ V = w'))
    (H4 : Hid (∀ V, Calls Try.prog 34 #[.string t, .int .i64 k] V fun e w' => e = .returned (.tuple #[.string ⟨#[]⟩, .bool false]) ∧ Below V.heap.size V w'))
    (g1 : decide (k < 1) = false) (g2 : decide (4 < k) = false) (g3 : ((t.size : Int) == 120) = false) :
    Calls Try.prog 5 #[.string s, .int .i64 k] w fun e w' => e = .returned (.bool true) ∧ Below w.heap.size w w' := by
  have HAW := Lib.hid awake_any
  have b0 := Below.refl w.heap.size w
  have hne := nil_empty
  go_enter Try.func5, Try.ntmps5
  go_wp2_with (first
    | (go_at_call 19; (with_reducible refine (H0.out _).mono ?_); rintro e w1 ⟨rfl, b1⟩; replace b0 := b0.trans (b1.mono b0.size))
    | (go_at_call 33; (with_reducible refine (H1.out _).mono ?_); rintro e w1 ⟨rfl, b1⟩; replace b0 := b0.trans (b1.mono b0.size))
    | (go_at_call 23; (with_reducible refine (H3.out _).mono ?_); rintro e w1 ⟨rfl, rfl⟩)
    | (go_at_call 34; (with_reducible refine (H4.out _).mono ?_); rintro e w1 ⟨rfl, b1⟩; replace b0 := b0.trans (b1.mono b0.size))
    | (go_at_call 24; (with_reducible refine (HAW.out _).mono ?_); rintro e w1 ⟨rfl, b1⟩; replace b0 := b0.trans (b1.mono b0.size)))
  go_ret
  exact ⟨rfl, b0⟩
theorem marksExtends_some (s t u : ByteArray) (k : Int) (w : World)
    (H0 : Hid (∀ V, Calls Try.prog 19 #[.string s] V fun e w' => e = .returned (.string t) ∧ Below V.heap.size V w'))
    (H1 : Hid (∀ V, Calls Try.prog 33 #[.string t, .int .i64 k] V fun e w' => e = .returned (.tuple #[.string u, .int .i64 0]) ∧ Below V.heap.size V w'))
    (H3 : Hid (∀ V, Calls Try.prog 23 #[.string t] V fun e w' => e = .returned (.bool true) ∧ V = w'))
    (H4 : Hid (∀ V, Calls Try.prog 34 #[.string t, .int .i64 k] V fun e w' => e = .returned (.tuple #[.string u, .bool true]) ∧ Below V.heap.size V w'))
    (g1 : decide (k < 1) = false) (g2 : decide (4 < k) = false) (g3 : ((t.size : Int) == 120) = false) :
    Calls Try.prog 5 #[.string s, .int .i64 k] w fun e w' => e = .returned (.bool true) ∧ Below w.heap.size w w' := by
  have HAW := Lib.hid awake_any
  have b0 := Below.refl w.heap.size w
  go_enter Try.func5, Try.ntmps5
  go_wp2_with (first
    | (go_at_call 19; (with_reducible refine (H0.out _).mono ?_); rintro e w1 ⟨rfl, b1⟩; replace b0 := b0.trans (b1.mono b0.size))
    | (go_at_call 33; (with_reducible refine (H1.out _).mono ?_); rintro e w1 ⟨rfl, b1⟩; replace b0 := b0.trans (b1.mono b0.size))
    | (go_at_call 23; (with_reducible refine (H3.out _).mono ?_); rintro e w1 ⟨rfl, rfl⟩)
    | (go_at_call 34; (with_reducible refine (H4.out _).mono ?_); rintro e w1 ⟨rfl, b1⟩; replace b0 := b0.trans (b1.mono b0.size))
    | (go_at_call 24; (with_reducible refine (HAW.out _).mono ?_); rintro e w1 ⟨rfl, b1⟩; replace b0 := b0.trans (b1.mono b0.size)))
  go_ret
  exact ⟨rfl, b0⟩
theorem marksExtends_any (s : ByteArray) (k : Int) (w : World) (hs : s.size ≤ maxLen) :
    Calls Try.prog 5 #[.string s, .int .i64 k] w fun e w' => e = .returned (.bool true) ∧ Below w.heap.size w w' := by
  unfold maxLen at hs
  have hl := shB_len s
  have H0 : Hid (∀ V, Calls Try.prog 19 #[.string s] V fun e w' => e = .returned (.string (shB s)) ∧ Below V.heap.size V w') := Lib.hid (fun V => short_call s V (by omega))
  have H3 := Lib.hid (fun V => refWord_any (shB s) V (by omega))
  by_cases h : okB (shB s) = false ∨ k < 1 ∨ 4 < k ∨ (shB s).size = 120
  · exact marksExtends_bad s (shB s) k _ w H0 (Lib.hid (fun V => Extend_no (shB s) k V (by omega) h)) H3 h
  · have h1 : okB (shB s) = true := by
      cases hb : okB (shB s)
      · exact absurd (.inl hb) h
      · rfl
    have h2 : ¬ k < 1 := fun e => h (.inr (.inl e))
    have h3 : ¬ 4 < k := fun e => h (.inr (.inr (.inl e)))
    have h4 : ¬ (shB s).size = 120 := fun e => h (.inr (.inr (.inr e)))
    obtain ⟨n, rfl⟩ : ∃ n : Nat, k = n := ⟨k.toNat, by omega⟩
    obtain ⟨x, hx, hok, hxl⟩ := okB_word h1
    rw [h1] at H3
    rw [hx] at H0 H3 h4
    rw [wS_len] at h4
    have g1 : decide ((n : Int) < 1) = false := decide_eq_false h2
    have g2 : decide ((4 : Int) < (n : Int)) = false := decide_eq_false h3
    have g3 : (((wS x).size : Int) == 120) = false := by rw [beq_eq_false_iff_ne, wS_len]; omega
    have H1 := Lib.hid (fun V => Extend_yes x n V hok (by omega) (by omega) (by omega))
    have H4 := Lib.hid (fun V => refExtend_any x n V hok (by omega) (by omega))
    cases hq : exF x n with
    | none =>
      rw [hq] at H1 H4
      exact marksExtends_none s (wS x) n w H0 H1 H3 H4 g1 g2 g3
    | some c =>
      rw [hq] at H1 H4
      exact marksExtends_some s (wS x) (wS (x ++ [c])) n w H0 H1 H3 H4 g1 g2 g3
end Go.Proofs.Ytoklnpiehbnalaa
