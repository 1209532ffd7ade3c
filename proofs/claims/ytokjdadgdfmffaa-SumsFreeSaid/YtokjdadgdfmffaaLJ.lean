/- Groups are made. -/
import Derived.Test.YtokjdadgdfmffaaLG
namespace Go.Proofs.Ytokjdadgdfmffaa
open Go.RowKit
set_option maxHeartbeats 2000000
set_option maxRecDepth 100000
theorem at_int (A : Option Addr) (c : Nat) (xs : List Int) (i : Int) (w : World) (hl : xs.length ≤ 9223372036854775807) (h0 : 0 ≤ i) (hi : i ≤ 1000000) (ha : IntsAt w A xs) :
    Calls Try.prog 45 #[.slice A xs.length c, .int .i64 i] w fun e w' => e = .returned (.int .i64 (geti xs i.toNat)) ∧ w = w' := by
  obtain ⟨k, rfl⟩ := Int.eq_ofNat_of_zero_le h0
  rw [Int.toNat_natCast]
  exact at_any A c xs k w hl (by omega) ha
theorem mod_int (x N : Int) (w : World) (h0 : 0 < N) (h1 : N ≤ 1000000) :
    Calls Try.prog 44 #[.int .i64 x, .int .i64 N] w fun e w' => e = .returned (.int .i64 (modI x N.toNat)) ∧ w = w' := by
  obtain ⟨k, rfl⟩ := Int.eq_ofNat_of_zero_le (show 0 ≤ N by omega)
  rw [Int.toNat_natCast]
  exact mod_any2 x k w (by omega) (by omega)
theorem own_row {w : World} {g b : Nat} {xs : List Int} (h : Row w g 3 (iv xs)) (hb : b ≤ g) (hl : xs.length ≤ 1000000) : w.ownsRow b 3 1 (.slice (some ⟨g, 0, none⟩) xs.length xs.length) xs.length (iv xs) :=
  ⟨by rw [iv_len]; omega, .inr ⟨g, xs.length, (iv xs).toArray, rfl, hb, h, Nat.le_refl _, by unfold maxLen; omega, by rw [List.size_toArray, iv_len]; omega, List.take_of_length_le (by show (iv xs).length ≤ _; rw [iv_len]; omega)⟩⟩
def GroupR (w : World) (e : Ending) (w' : World) : Prop := ∃ v g m n, e = .returned v ∧ IsG g m n ∧ w'.ownsRow w.heap.size 3 1 v g.length (iv g) ∧ Below w.heap.size w w'
theorem isG_one {n : Nat} (h1 : 2 ≤ n) (h2 : n ≤ 24) : IsG [(n : Int)] 1 n := ⟨⟨by omega, by omega, by omega, h2⟩, .inl ⟨rfl, rfl⟩, h1, by omega, Nat.mod_one _⟩
theorem isG_two {m k : Nat} (h1 : 2 ≤ m) (h2 : 1 ≤ k) (h3 : m * k ≤ 24) (h4 : m * (m * k) ≤ 144) : IsG [(m : Int), ((m * k : Nat) : Int)] m (m * k) := by
  have h5 : m ≤ m * k := Nat.le_mul_of_pos_right m h2
  exact ⟨⟨by omega, by omega, by omega, h3⟩, .inr ⟨rfl, h1⟩, by omega, h4, Nat.mul_mod_right _ _⟩
theorem group_any (A : Option Addr) (c : Nat) (l : List Int) (w : World) (hl : l.length ≤ 9223372036854775807) (ha : IntsAt w A l) : Calls Try.prog 39 #[.slice A l.length c] w (GroupR w) := by
  have HA := Lib.hid ha
  have HAT := Lib.hid (fun w' i h0 hi h => at_int A c l i w' hl h0 hi h)
  have ONE : Hid (∀ (x : Int) (w' : World), Below w.heap.size w w' → GroupR w (.returned (.slice (some ⟨w'.heap.size, 0, none⟩) 1 1)) (w'.alloc (.cells #[.int .i64 (2 + (modI x 23 : Int))] 3))) := Lib.hid fun x w' h => by
    have h1 := modI_lt x (n := 23) (by omega)
    have hr : Row (w'.alloc (.cells #[.int .i64 (2 + (modI x 23 : Int))] 3)) w'.heap.size 3 (iv [((2 + modI x 23 : Nat) : Int)]) := by
      rw [show ((2 + modI x 23 : Nat) : Int) = 2 + (modI x 23 : Int) by omega]; exact row_new rfl
    exact ⟨_, _, 1, 2 + modI x 23, rfl, isG_one (by omega) (by omega), own_row hr h.size (by simp), h.alloc h.size _⟩
  have H23 : Hid (∀ x w, Calls Try.prog 44 #[.int .i64 x, .int .i64 23] w fun e w' => e = .returned (.int .i64 (modI x 23)) ∧ w = w') := Lib.hid fun x w => mod_int x 23 w (by omega) (by omega)
  have hb23 := modI_lt (geti l 1) (n := 23) (by omega)
  by_cases h0 : l.length < 1
  · have g1 : decide ((l.length : Int) < 1) = true := decide_eq_true (by omega)
    clear h0
    go_enter Try.func39, Try.ntmps39
    go_wp2_with (first
      | (go_at_call 45; with_reducible refine (HAT.out _ 1 (by omega) (by omega) HA.out).mono ?_; rintro e w1 ⟨rfl, rfl⟩)
      | (go_at_call 44; with_reducible refine (H23.out _ _).mono ?_; rintro e w1 ⟨rfl, rfl⟩))
    go_ret
    exact ONE.out (geti l 1) w (Below.refl _ _)
  · have g1 : decide ((l.length : Int) < 1) = false := decide_eq_false (by omega)
    obtain ⟨b, o, hAe, hb, hc⟩ := ha (by omega)
    subst hAe
    have c0 := hc 0 (by omega)
    have hpos : 0 < l.length := by omega
    rw [Nat.add_zero] at c0
    have hm2 := modI_lt (geti l 0) (n := 2) (by omega)
    clear hc ha
    by_cases hz : modI (geti l 0) 2 = 0
    · have HM : Hid (∀ w, Calls Try.prog 44 #[.int .i64 (geti l 0), .int .i64 2] w fun e w' => e = .returned (.int .i64 0) ∧ w = w') := Lib.hid fun w => (mod_int (geti l 0) 2 w (by omega) (by omega)).mono fun e w' ⟨h1, h2⟩ => ⟨by rw [h1]; show Ending.returned (Value.int .i64 ((modI (geti l 0) 2 : Nat) : Int)) = _; rw [hz]; rfl, h2⟩
      generalize geti l 0 = x0 at *
      clear hz hm2 h0
      go_enter Try.func39, Try.ntmps39
      go_wp2_with (first
        | (go_at_call 45; with_reducible refine (HAT.out _ 1 (by omega) (by omega) HA.out).mono ?_; rintro e w1 ⟨rfl, rfl⟩)
        | (go_at_call 44; with_reducible refine (HM.out _).mono ?_; rintro e w1 ⟨rfl, rfl⟩)
        | (go_at_call 44; with_reducible refine (H23.out _ _).mono ?_; rintro e w1 ⟨rfl, rfl⟩))
      go_ret
      exact ONE.out (geti l 1) w (Below.refl _ _)
    · have hz1 : modI (geti l 0) 2 = 1 := by omega
      have HM : Hid (∀ w, Calls Try.prog 44 #[.int .i64 (geti l 0), .int .i64 2] w fun e w' => e = .returned (.int .i64 1) ∧ w = w') := Lib.hid fun w => (mod_int (geti l 0) 2 w (by omega) (by omega)).mono fun e w' ⟨h1, h2⟩ => ⟨by rw [h1]; show Ending.returned (Value.int .i64 ((modI (geti l 0) 2 : Nat) : Int)) = _; rw [hz1]; rfl, h2⟩
      have hM := modI_lt (geti l 1) (n := 11) (by omega)
      have TWO : Hid (∀ (m k : Nat) (w' : World), 2 ≤ m → 1 ≤ k → m * k ≤ 24 → m * (m * k) ≤ 144 → Below w.heap.size w w' → GroupR w (.returned (.slice (some ⟨w'.heap.size, 0, none⟩) 2 2)) (w'.alloc (.cells #[.int .i64 m, .int .i64 ((m * k : Nat) : Int)] 3))) := Lib.hid fun m k w' h1 h2 h3 h4 h => by
        have hr : Row (w'.alloc (.cells #[.int .i64 m, .int .i64 ((m * k : Nat) : Int)] 3)) w'.heap.size 3 (iv [(m : Int), ((m * k : Nat) : Int)]) := row_new rfl
        exact ⟨_, _, m, m * k, rfl, isG_two h1 h2 h3 h4, own_row hr h.size (by simp), h.alloc h.size _⟩
      have HM1 : Hid (∀ w, Calls Try.prog 44 #[.int .i64 (geti l 1), .int .i64 11] w fun e w' => e = .returned (.int .i64 (modI (geti l 1) 11)) ∧ w = w') := Lib.hid fun w => mod_int (geti l 1) 11 w (by omega) (by omega)
      have HAT1 : Hid (∀ w', IntsAt w' (some ⟨b, o, none⟩) l → Calls Try.prog 45 #[.slice (some ⟨b, o, none⟩) l.length c, .int .i64 1] w' fun e w'' => e = .returned (.int .i64 (geti l 1)) ∧ w' = w'') := Lib.hid fun w' h => HAT.out w' 1 (by omega) (by omega) h
      have HAT2 : Hid (∀ w', IntsAt w' (some ⟨b, o, none⟩) l → Calls Try.prog 45 #[.slice (some ⟨b, o, none⟩) l.length c, .int .i64 2] w' fun e w'' => e = .returned (.int .i64 (geti l 2)) ∧ w' = w'') := Lib.hid fun w' h => HAT.out w' 2 (by omega) (by omega) h
      generalize geti l 0 = x0 at *
      generalize geti l 1 = x1 at *
      generalize geti l 2 = x2 at *
      generalize modI x1 11 = M at *
      clear hz hz1 hm2 h0 HAT
      obtain rfl | rfl | rfl | rfl | rfl | rfl | rfl | rfl | rfl | rfl | rfl : M = 0 ∨ M = 1 ∨ M = 2 ∨ M = 3 ∨ M = 4 ∨ M = 5 ∨ M = 6 ∨ M = 7 ∨ M = 8 ∨ M = 9 ∨ M = 10 := by omega
      · have HMK : Hid (∀ w, Calls Try.prog 44 #[.int .i64 x2, .int .i64 12] w fun e w' => e = .returned (.int .i64 (modI x2 12)) ∧ w = w') := Lib.hid fun w => mod_int x2 12 w (by omega) (by omega)
        have hk := modI_lt x2 (n := 12) (by omega)
        generalize modI x2 12 = k at *
        clear hM
        go_enter Try.func39, Try.ntmps39
        go_wp2_with (first
          | (go_at_call 45; with_reducible refine (HAT1.out _ HA.out).mono ?_; rintro e w1 ⟨rfl, rfl⟩)
          | (go_at_call 44; with_reducible refine (HM.out _).mono ?_; rintro e w1 ⟨rfl, rfl⟩)
          | (go_at_call 44; with_reducible refine (HM1.out _).mono ?_; rintro e w1 ⟨rfl, rfl⟩))
        refine wp_region_quiet_lit (by kernel_rfl) (by kernel_rfl) ?_
        repeat go_big_quiet_step ((first | exact quiet_same (HAT2.out _ (HA.out.drewN _)) | exact quiet_same (HMK.out _)))
        refine wpQuiet_nil ?_
        rintro _ ⟨nq, rfl⟩
        go_wp2
        go_ret
        have h := TWO.out 2 (1 + k) (w.drewN nq) (by omega) (by omega) (by omega) (by omega) (below_drewN nq)
        rw [show ((2 * (1 + k) : Nat) : Int) = 2 * (1 + (k : Int)) by omega] at h
        exact h
      · have HMK : Hid (∀ w, Calls Try.prog 44 #[.int .i64 x2, .int .i64 8] w fun e w' => e = .returned (.int .i64 (modI x2 8)) ∧ w = w') := Lib.hid fun w => mod_int x2 8 w (by omega) (by omega)
        have hk := modI_lt x2 (n := 8) (by omega)
        generalize modI x2 8 = k at *
        clear hM
        go_enter Try.func39, Try.ntmps39
        go_wp2_with (first
          | (go_at_call 45; with_reducible refine (HAT1.out _ HA.out).mono ?_; rintro e w1 ⟨rfl, rfl⟩)
          | (go_at_call 44; with_reducible refine (HM.out _).mono ?_; rintro e w1 ⟨rfl, rfl⟩)
          | (go_at_call 44; with_reducible refine (HM1.out _).mono ?_; rintro e w1 ⟨rfl, rfl⟩))
        refine wp_region_quiet_lit (by kernel_rfl) (by kernel_rfl) ?_
        repeat go_big_quiet_step ((first | exact quiet_same (HAT2.out _ (HA.out.drewN _)) | exact quiet_same (HMK.out _)))
        refine wpQuiet_nil ?_
        rintro _ ⟨nq, rfl⟩
        go_wp2
        go_ret
        have h := TWO.out 3 (1 + k) (w.drewN nq) (by omega) (by omega) (by omega) (by omega) (below_drewN nq)
        rw [show ((3 * (1 + k) : Nat) : Int) = 3 * (1 + (k : Int)) by omega] at h
        exact h
      · have HMK : Hid (∀ w, Calls Try.prog 44 #[.int .i64 x2, .int .i64 6] w fun e w' => e = .returned (.int .i64 (modI x2 6)) ∧ w = w') := Lib.hid fun w => mod_int x2 6 w (by omega) (by omega)
        have hk := modI_lt x2 (n := 6) (by omega)
        generalize modI x2 6 = k at *
        clear hM
        go_enter Try.func39, Try.ntmps39
        go_wp2_with (first
          | (go_at_call 45; with_reducible refine (HAT1.out _ HA.out).mono ?_; rintro e w1 ⟨rfl, rfl⟩)
          | (go_at_call 44; with_reducible refine (HM.out _).mono ?_; rintro e w1 ⟨rfl, rfl⟩)
          | (go_at_call 44; with_reducible refine (HM1.out _).mono ?_; rintro e w1 ⟨rfl, rfl⟩))
        refine wp_region_quiet_lit (by kernel_rfl) (by kernel_rfl) ?_
        repeat go_big_quiet_step ((first | exact quiet_same (HAT2.out _ (HA.out.drewN _)) | exact quiet_same (HMK.out _)))
        refine wpQuiet_nil ?_
        rintro _ ⟨nq, rfl⟩
        go_wp2
        go_ret
        have h := TWO.out 4 (1 + k) (w.drewN nq) (by omega) (by omega) (by omega) (by omega) (below_drewN nq)
        rw [show ((4 * (1 + k) : Nat) : Int) = 4 * (1 + (k : Int)) by omega] at h
        exact h
      · have HMK : Hid (∀ w, Calls Try.prog 44 #[.int .i64 x2, .int .i64 4] w fun e w' => e = .returned (.int .i64 (modI x2 4)) ∧ w = w') := Lib.hid fun w => mod_int x2 4 w (by omega) (by omega)
        have hk := modI_lt x2 (n := 4) (by omega)
        generalize modI x2 4 = k at *
        clear hM
        go_enter Try.func39, Try.ntmps39
        go_wp2_with (first
          | (go_at_call 45; with_reducible refine (HAT1.out _ HA.out).mono ?_; rintro e w1 ⟨rfl, rfl⟩)
          | (go_at_call 44; with_reducible refine (HM.out _).mono ?_; rintro e w1 ⟨rfl, rfl⟩)
          | (go_at_call 44; with_reducible refine (HM1.out _).mono ?_; rintro e w1 ⟨rfl, rfl⟩))
        refine wp_region_quiet_lit (by kernel_rfl) (by kernel_rfl) ?_
        repeat go_big_quiet_step ((first | exact quiet_same (HAT2.out _ (HA.out.drewN _)) | exact quiet_same (HMK.out _)))
        refine wpQuiet_nil ?_
        rintro _ ⟨nq, rfl⟩
        go_wp2
        go_ret
        have h := TWO.out 5 (1 + k) (w.drewN nq) (by omega) (by omega) (by omega) (by omega) (below_drewN nq)
        rw [show ((5 * (1 + k) : Nat) : Int) = 5 * (1 + (k : Int)) by omega] at h
        exact h
      · have HMK : Hid (∀ w, Calls Try.prog 44 #[.int .i64 x2, .int .i64 4] w fun e w' => e = .returned (.int .i64 (modI x2 4)) ∧ w = w') := Lib.hid fun w => mod_int x2 4 w (by omega) (by omega)
        have hk := modI_lt x2 (n := 4) (by omega)
        generalize modI x2 4 = k at *
        clear hM
        go_enter Try.func39, Try.ntmps39
        go_wp2_with (first
          | (go_at_call 45; with_reducible refine (HAT1.out _ HA.out).mono ?_; rintro e w1 ⟨rfl, rfl⟩)
          | (go_at_call 44; with_reducible refine (HM.out _).mono ?_; rintro e w1 ⟨rfl, rfl⟩)
          | (go_at_call 44; with_reducible refine (HM1.out _).mono ?_; rintro e w1 ⟨rfl, rfl⟩))
        refine wp_region_quiet_lit (by kernel_rfl) (by kernel_rfl) ?_
        repeat go_big_quiet_step ((first | exact quiet_same (HAT2.out _ (HA.out.drewN _)) | exact quiet_same (HMK.out _)))
        refine wpQuiet_nil ?_
        rintro _ ⟨nq, rfl⟩
        go_wp2
        go_ret
        have h := TWO.out 6 (1 + k) (w.drewN nq) (by omega) (by omega) (by omega) (by omega) (below_drewN nq)
        rw [show ((6 * (1 + k) : Nat) : Int) = 6 * (1 + (k : Int)) by omega] at h
        exact h
      · have HMK : Hid (∀ w, Calls Try.prog 44 #[.int .i64 x2, .int .i64 2] w fun e w' => e = .returned (.int .i64 (modI x2 2)) ∧ w = w') := Lib.hid fun w => mod_int x2 2 w (by omega) (by omega)
        have hk := modI_lt x2 (n := 2) (by omega)
        generalize modI x2 2 = k at *
        clear hM
        go_enter Try.func39, Try.ntmps39
        go_wp2_with (first
          | (go_at_call 45; with_reducible refine (HAT1.out _ HA.out).mono ?_; rintro e w1 ⟨rfl, rfl⟩)
          | (go_at_call 44; with_reducible refine (HM.out _).mono ?_; rintro e w1 ⟨rfl, rfl⟩)
          | (go_at_call 44; with_reducible refine (HM1.out _).mono ?_; rintro e w1 ⟨rfl, rfl⟩))
        refine wp_region_quiet_lit (by kernel_rfl) (by kernel_rfl) ?_
        repeat go_big_quiet_step ((first | exact quiet_same (HAT2.out _ (HA.out.drewN _)) | exact quiet_same (HMK.out _)))
        refine wpQuiet_nil ?_
        rintro _ ⟨nq, rfl⟩
        go_wp2
        go_ret
        have h := TWO.out 7 (1 + k) (w.drewN nq) (by omega) (by omega) (by omega) (by omega) (below_drewN nq)
        rw [show ((7 * (1 + k) : Nat) : Int) = 7 * (1 + (k : Int)) by omega] at h
        exact h
      · have HMK : Hid (∀ w, Calls Try.prog 44 #[.int .i64 x2, .int .i64 2] w fun e w' => e = .returned (.int .i64 (modI x2 2)) ∧ w = w') := Lib.hid fun w => mod_int x2 2 w (by omega) (by omega)
        have hk := modI_lt x2 (n := 2) (by omega)
        generalize modI x2 2 = k at *
        clear hM
        go_enter Try.func39, Try.ntmps39
        go_wp2_with (first
          | (go_at_call 45; with_reducible refine (HAT1.out _ HA.out).mono ?_; rintro e w1 ⟨rfl, rfl⟩)
          | (go_at_call 44; with_reducible refine (HM.out _).mono ?_; rintro e w1 ⟨rfl, rfl⟩)
          | (go_at_call 44; with_reducible refine (HM1.out _).mono ?_; rintro e w1 ⟨rfl, rfl⟩))
        refine wp_region_quiet_lit (by kernel_rfl) (by kernel_rfl) ?_
        repeat go_big_quiet_step ((first | exact quiet_same (HAT2.out _ (HA.out.drewN _)) | exact quiet_same (HMK.out _)))
        refine wpQuiet_nil ?_
        rintro _ ⟨nq, rfl⟩
        go_wp2
        go_ret
        have h := TWO.out 8 (1 + k) (w.drewN nq) (by omega) (by omega) (by omega) (by omega) (below_drewN nq)
        rw [show ((8 * (1 + k) : Nat) : Int) = 8 * (1 + (k : Int)) by omega] at h
        exact h
      · have HMK : Hid (∀ w, Calls Try.prog 44 #[.int .i64 x2, .int .i64 1] w fun e w' => e = .returned (.int .i64 (modI x2 1)) ∧ w = w') := Lib.hid fun w => mod_int x2 1 w (by omega) (by omega)
        have hk := modI_lt x2 (n := 1) (by omega)
        generalize modI x2 1 = k at *
        clear hM
        go_enter Try.func39, Try.ntmps39
        go_wp2_with (first
          | (go_at_call 45; with_reducible refine (HAT1.out _ HA.out).mono ?_; rintro e w1 ⟨rfl, rfl⟩)
          | (go_at_call 44; with_reducible refine (HM.out _).mono ?_; rintro e w1 ⟨rfl, rfl⟩)
          | (go_at_call 44; with_reducible refine (HM1.out _).mono ?_; rintro e w1 ⟨rfl, rfl⟩))
        refine wp_region_quiet_lit (by kernel_rfl) (by kernel_rfl) ?_
        repeat go_big_quiet_step ((first | exact quiet_same (HAT2.out _ (HA.out.drewN _)) | exact quiet_same (HMK.out _)))
        refine wpQuiet_nil ?_
        rintro _ ⟨nq, rfl⟩
        go_wp2
        go_ret
        have h := TWO.out 9 (1 + k) (w.drewN nq) (by omega) (by omega) (by omega) (by omega) (below_drewN nq)
        rw [show ((9 * (1 + k) : Nat) : Int) = 9 * (1 + (k : Int)) by omega] at h
        exact h
      · have HMK : Hid (∀ w, Calls Try.prog 44 #[.int .i64 x2, .int .i64 1] w fun e w' => e = .returned (.int .i64 (modI x2 1)) ∧ w = w') := Lib.hid fun w => mod_int x2 1 w (by omega) (by omega)
        have hk := modI_lt x2 (n := 1) (by omega)
        generalize modI x2 1 = k at *
        clear hM
        go_enter Try.func39, Try.ntmps39
        go_wp2_with (first
          | (go_at_call 45; with_reducible refine (HAT1.out _ HA.out).mono ?_; rintro e w1 ⟨rfl, rfl⟩)
          | (go_at_call 44; with_reducible refine (HM.out _).mono ?_; rintro e w1 ⟨rfl, rfl⟩)
          | (go_at_call 44; with_reducible refine (HM1.out _).mono ?_; rintro e w1 ⟨rfl, rfl⟩))
        refine wp_region_quiet_lit (by kernel_rfl) (by kernel_rfl) ?_
        repeat go_big_quiet_step ((first | exact quiet_same (HAT2.out _ (HA.out.drewN _)) | exact quiet_same (HMK.out _)))
        refine wpQuiet_nil ?_
        rintro _ ⟨nq, rfl⟩
        go_wp2
        go_ret
        have h := TWO.out 10 (1 + k) (w.drewN nq) (by omega) (by omega) (by omega) (by omega) (below_drewN nq)
        rw [show ((10 * (1 + k) : Nat) : Int) = 10 * (1 + (k : Int)) by omega] at h
        exact h
      · have HMK : Hid (∀ w, Calls Try.prog 44 #[.int .i64 x2, .int .i64 1] w fun e w' => e = .returned (.int .i64 (modI x2 1)) ∧ w = w') := Lib.hid fun w => mod_int x2 1 w (by omega) (by omega)
        have hk := modI_lt x2 (n := 1) (by omega)
        generalize modI x2 1 = k at *
        clear hM
        go_enter Try.func39, Try.ntmps39
        go_wp2_with (first
          | (go_at_call 45; with_reducible refine (HAT1.out _ HA.out).mono ?_; rintro e w1 ⟨rfl, rfl⟩)
          | (go_at_call 44; with_reducible refine (HM.out _).mono ?_; rintro e w1 ⟨rfl, rfl⟩)
          | (go_at_call 44; with_reducible refine (HM1.out _).mono ?_; rintro e w1 ⟨rfl, rfl⟩))
        refine wp_region_quiet_lit (by kernel_rfl) (by kernel_rfl) ?_
        repeat go_big_quiet_step ((first | exact quiet_same (HAT2.out _ (HA.out.drewN _)) | exact quiet_same (HMK.out _)))
        refine wpQuiet_nil ?_
        rintro _ ⟨nq, rfl⟩
        go_wp2
        go_ret
        have h := TWO.out 11 (1 + k) (w.drewN nq) (by omega) (by omega) (by omega) (by omega) (below_drewN nq)
        rw [show ((11 * (1 + k) : Nat) : Int) = 11 * (1 + (k : Int)) by omega] at h
        exact h
      · have HMK : Hid (∀ w, Calls Try.prog 44 #[.int .i64 x2, .int .i64 1] w fun e w' => e = .returned (.int .i64 (modI x2 1)) ∧ w = w') := Lib.hid fun w => mod_int x2 1 w (by omega) (by omega)
        have hk := modI_lt x2 (n := 1) (by omega)
        generalize modI x2 1 = k at *
        clear hM
        go_enter Try.func39, Try.ntmps39
        go_wp2_with (first
          | (go_at_call 45; with_reducible refine (HAT1.out _ HA.out).mono ?_; rintro e w1 ⟨rfl, rfl⟩)
          | (go_at_call 44; with_reducible refine (HM.out _).mono ?_; rintro e w1 ⟨rfl, rfl⟩)
          | (go_at_call 44; with_reducible refine (HM1.out _).mono ?_; rintro e w1 ⟨rfl, rfl⟩))
        refine wp_region_quiet_lit (by kernel_rfl) (by kernel_rfl) ?_
        repeat go_big_quiet_step ((first | exact quiet_same (HAT2.out _ (HA.out.drewN _)) | exact quiet_same (HMK.out _)))
        refine wpQuiet_nil ?_
        rintro _ ⟨nq, rfl⟩
        go_wp2
        go_ret
        have h := TWO.out 12 (1 + k) (w.drewN nq) (by omega) (by omega) (by omega) (by omega) (below_drewN nq)
        rw [show ((12 * (1 + k) : Nat) : Int) = 12 * (1 + (k : Int)) by omega] at h
        exact h
end Go.Proofs.Ytokjdadgdfmffaa
