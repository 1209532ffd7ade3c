/- MarksGreatest walked. -/
import Derived.Test.YtoklnpiehbnalaaME
import Derived.Test.YtoklnpiehbnalaaBL
namespace Go.Proofs.Ytoklnpiehbnalaa
open Go.RowKit Go.PlainAid
set_option maxHeartbeats 2000000
set_option maxRecDepth 100000
theorem marksGreatest_none (s : ByteArray) (x y : Int) (w : World)
    (H0 : Hid (∀ V, Calls Try.prog 48 #[.string s, .int .i64 120, .int .i64 4] V fun e w' => e = .returned (.string ⟨#[]⟩) ∧ Below V.heap.size V w')) :
    Calls Try.prog 10 #[.string s, .agg #[.int .i64 x, .int .i64 y]] w fun e w' => e = .returned (.bool true) ∧ Below w.heap.size w w' := by
  have HAW := Lib.hid awake_any
  have HNE := Lib.hid nil_empty
  have b0 := Below.refl w.heap.size w
  replace b0 := b0.alloc (Nat.le_refl _) (.cells #[.int .i64 x, .int .i64 y] 66)
  go_enter Try.func10, Try.ntmps10
  go_wp2_with (first
    | (go_at_call 48; (with_reducible refine (H0.out _).mono ?_); rintro e w1 ⟨rfl, b1⟩; replace b0 := b0.trans (b1.mono b0.size))
    | (go_at_call 24; (with_reducible refine (HAW.out _).mono ?_); rintro e w2 ⟨rfl, b2⟩; replace b0 := b0.trans (b2.mono b0.size)))
  go_ret
  exact ⟨rfl, b0⟩
theorem marksGreatest_yes (s t u : ByteArray) (x y : Int) (i j lo hi : Nat) (n1 d1 n2 d2 A N : Int) (w : World)
    (H0 : Hid (∀ V, Calls Try.prog 48 #[.string s, .int .i64 120, .int .i64 4] V fun e w' => e = .returned (.string t) ∧ Below V.heap.size V w'))
    (hB : t.toList.isEmpty = false) (hl : t.size ≤ 120)
    (H1 : Hid (∀ V, Calls Try.prog 50 #[.int .i64 x, .int .i64 t.size] V fun e w' => e = .returned (.int .i64 i) ∧ V = w'))
    (H2 : Hid (∀ V, Calls Try.prog 50 #[.int .i64 y, .int .i64 t.size] V fun e w' => e = .returned (.int .i64 j) ∧ V = w'))
    (hlo : min (i : Int) (j : Int) = lo) (hhi : max (i : Int) (j : Int) = hi) (h1 : lo ≤ hi) (h2 : hi < t.size) (hu : t.extract lo (hi + 1) = u)
    (H3 : Hid (∀ V, Calls Try.prog 29 #[.string u] V fun e w' => e = .returned (.tuple #[.agg #[.int .i64 n1, .int .i64 d1], .int .i64 0]) ∧ Below V.heap.size V w'))
    (H4 : Hid (∀ V, Calls Try.prog 30 #[.string t] V fun e w' => e = .returned (.tuple #[.agg #[.int .i64 n2, .int .i64 d2], .int .i64 A, .int .i64 N, .int .i64 0]) ∧ Below V.heap.size V w'))
    (g1 : 1 ≤ d1) (g2 : d1 ≤ 120) (g3 : 1 ≤ d2) (g4 : d2 ≤ 120) (g5 : n1 ≤ 120) (g6 : n2 ≤ 120) (g7 : 0 ≤ n1 * d2) (g8 : n1 * d2 ≤ n2 * d1) (g9 : n2 * d1 ≤ 1000000000) :
    Calls Try.prog 10 #[.string s, .agg #[.int .i64 x, .int .i64 y]] w fun e w' => e = .returned (.bool true) ∧ Below w.heap.size w w' := by
  have HAW := Lib.hid awake_any
  have HU := Lib.hid hu
  have hlo2 := Lib.hid hlo
  have hhi2 := Lib.hid hhi
  clear hlo hhi hu
  have b0 := Below.refl w.heap.size w
  have r0 : Row (w.alloc (.cells #[.int .i64 x, .int .i64 y] 66)) w.heap.size 66 [.int .i64 x, .int .i64 y] := row_new rfl
  replace b0 := b0.alloc (Nat.le_refl _) (.cells #[.int .i64 x, .int .i64 y] 66)
  go_enter Try.func10, Try.ntmps10
  go_wp2_with (first
    | (go_at_call 48; (with_reducible refine (H0.out _).mono ?_); rintro e w1 ⟨rfl, b1⟩; replace r0 := r0.below b1; replace b0 := b0.trans (b1.mono b0.size); have k0 : w1.cell? ⟨w.heap.size, 0, none⟩ = some (.int .i64 x) := r0.cell 0; have k1 : w1.cell? ⟨w.heap.size, 1, none⟩ = some (.int .i64 y) := r0.cell 1))
  go_region_held3 (fun w' => w'.cell? ⟨w.heap.size, 0, none⟩ = some (.int .i64 x) ∧ w'.cell? ⟨w.heap.size, 1, none⟩ = some (.int .i64 y)) (first | assumption | exact ⟨k0, k1⟩)
    (first
      | (go_at_call 50; (with_reducible refine (H1.out _).mono ?_); rintro e w2 ⟨rfl, rfl⟩)
      | (go_at_call 50; (with_reducible refine (H2.out _).mono ?_); rintro e w2 ⟨rfl, rfl⟩))
  replace b0 := b0.drew
  clear H0 H1 H2 k0 k1 r0
  generalize World.drew _ = wd at *
  go_wp2_with (first
    | (rw [hlo2.out]) | (rw [hhi2.out]) | (rw [HU.out])
    | (go_at_call 29; (with_reducible refine (H3.out _).mono ?_); rintro e w3 ⟨rfl, b3⟩; replace b0 := (b0.trans (b3.mono b0.size)).alloc (by have := b0.size; have := b3.size; omega) (.cells #[.int .i64 n1, .int .i64 d1] 36); have r4 : Row (w3.alloc (.cells #[.int .i64 n1, .int .i64 d1] 36)) w3.heap.size 36 [.int .i64 n1, .int .i64 d1] := row_new rfl)
    | (go_at_call 30; (with_reducible refine (H4.out _).mono ?_); rintro e w4 ⟨rfl, b4⟩; replace b0 := (b0.trans (b4.mono b0.size)).alloc (by have := b0.size; have := b4.size; omega) (.cells #[.int .i64 n2, .int .i64 d2] 36); replace r4 := (r4.below b4).alloc (.cells #[.int .i64 n2, .int .i64 d2] 36); have r6 : Row (w4.alloc (.cells #[.int .i64 n2, .int .i64 d2] 36)) w4.heap.size 36 [.int .i64 n2, .int .i64 d2] := row_new rfl; have c40 := r4.cell 0; have c41 := r4.cell 1; have c60 := r6.cell 0; have c61 := r6.cell 1)
    | (go_at_call 24; (with_reducible refine (HAW.out _).mono ?_); rintro e w5 ⟨rfl, b5⟩; replace b0 := b0.trans (b5.mono b0.size)))
  go_ret
  exact ⟨rfl, b0⟩
theorem marksGreatest_any (s : ByteArray) (x y : Int) (w : World) (hs : s.size ≤ maxLen) :
    Calls Try.prog 10 #[.string s, .agg #[.int .i64 x, .int .i64 y]] w fun e w' => e = .returned (.bool true) ∧ Below w.heap.size w w' := by
  unfold maxLen at hs
  obtain ⟨X, hX⟩ : ∃ X, tmW 4 120 s = X := ⟨_, rfl⟩
  have hl := tmW_len 4 120 s
  have hok : okW X := hX ▸ tmW_ok (by decide) 120 s
  rw [hX] at hl
  have H0 : Hid (∀ V, Calls Try.prog 48 #[.string s, .int .i64 120, .int .i64 4] V fun e w' => e = .returned (.string (wS X)) ∧ Below V.heap.size V w') := Lib.hid (fun V => by rw [← hX]; exact tame_any 4 120 s V (by decide) (by decide) (by omega) (by decide))
  clear hX
  rcases Nat.eq_zero_or_pos X.length with h0 | h1
  · have hnil : X = [] := List.eq_nil_of_length_eq_zero h0
    subst hnil
    exact marksGreatest_none s x y w H0
  · have H1 : Hid (∀ V, Calls Try.prog 50 #[.int .i64 x, .int .i64 (wS X).size] V fun e w' => e = .returned (.int .i64 (modI x X.length)) ∧ V = w') := Lib.hid (fun V => by rw [wS_len]; exact mod_any x X.length V h1 (by omega))
    have H2 : Hid (∀ V, Calls Try.prog 50 #[.int .i64 y, .int .i64 (wS X).size] V fun e w' => e = .returned (.int .i64 (modI y X.length)) ∧ V = w') := Lib.hid (fun V => by rw [wS_len]; exact mod_any y X.length V h1 (by omega))
    have hi := modI_lt x h1
    have hj := modI_lt y h1
    generalize modI x X.length = i at *
    generalize modI y X.length = j at *
    obtain ⟨lo, hi', e1, e2, e3, e4⟩ : ∃ lo hi' : Nat, min (i : Int) (j : Int) = lo ∧ max (i : Int) (j : Int) = hi' ∧ lo ≤ hi' ∧ hi' < X.length := by
      rcases Nat.le_total i j with h | h
      · exact ⟨i, j, by omega, by omega, h, hj⟩
      · exact ⟨j, i, by omega, by omega, h, hi⟩
    have hel : (sub X lo (hi' + 1 - lo)).length = hi' + 1 - lo := by rw [sub_len]; omega
    obtain ⟨m1, m2, m3⟩ := mper_le (x := sub X lo (hi' + 1 - lo)) (p := 1) (by omega)
    obtain ⟨f1, f2, f3, f4⟩ := grT_fit h1
    have fn := grT_num h1
    have hle := grT_max (x := X) (by omega) h1 (a := lo) (n := hi' + 1 - lo) (by omega) (by omega)
    have H3 := Lib.hid (fun V => Exponent_yes (sub X lo (hi' + 1 - lo)) V (okW_sub hok _ _) (by omega) (by omega))
    rw [hel] at H3 m2
    obtain ⟨a1, a2, a3, a4, -⟩ := frc_facts (n := hi' + 1 - lo) (d := mper (sub X lo (hi' + 1 - lo)) 1) (by omega) m1
    obtain ⟨b1, b2, b3, b4, -⟩ := frc_facts (n := (grT X).1) (d := (grT X).2.1) fn f2
    have hp := frc_le (n := hi' + 1 - lo) (by omega) m1 fn f2 hle
    have hp' := Int.ofNat_le.2 hp
    rw [Int.natCast_mul, Int.natCast_mul] at hp'
    have q1 := prod_le (a := (hi' + 1 - lo) / Nat.gcd (hi' + 1 - lo) (mper (sub X lo (hi' + 1 - lo)) 1)) (b := (grT X).2.1 / Nat.gcd (grT X).1 (grT X).2.1) (l := 120) (m := 120) (by omega) (by omega) (by decide)
    have q2 := prod_le (a := (grT X).1 / Nat.gcd (grT X).1 (grT X).2.1) (b := mper (sub X lo (hi' + 1 - lo)) 1 / Nat.gcd (hi' + 1 - lo) (mper (sub X lo (hi' + 1 - lo)) 1)) (l := 120) (m := 120) (by omega) (by omega) (by decide)
    exact marksGreatest_yes s (wS X) (wS (sub X lo (hi' + 1 - lo))) x y i j lo hi' _ _ _ _ _ _ w H0 (not_empty h1) (by rw [wS_len]; exact hl) H1 H2 e1 e2 e3 (by rw [wS_len]; exact e4) (wS_extract X lo (hi' + 1)) H3 (Lib.hid (fun V => Greatest_yes X V hok h1 hl)) (by omega) (by omega) (by omega) (by omega) (by omega) (by omega) q1.1 hp' q2.2
end Go.Proofs.Ytoklnpiehbnalaa
