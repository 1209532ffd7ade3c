/- The reference's Group, Element and List. -/
import Derived.Test.YtokjdadgdfmffaaKG
namespace Go.Proofs.Ytokjdadgdfmffaa
open Go.RowKit
set_option maxHeartbeats 2000000
set_option maxRecDepth 100000
/-- The product of the first i numbers of a group. -/
def prG (g : List Int) (i : Nat) : Int := if i = 0 then 1 else if i = 1 then geti g 0 else geti g 0 * geti g 1
/-- A number of a group. -/
def gdG (g : List Int) (j : Nat) : Prop := (2 ≤ geti g j ∧ geti g j ≤ 24) ∧ geti g j % geti g 0 = 0
theorem grV_iff {g : List Int} (h : g.length = 1 ∨ g.length = 2) : grV g = true ↔ (∀ j, j < g.length → gdG g j) ∧ prG g g.length ≤ 144 := by
  match g, h with
  | [x], _ =>
    show decide (2 ≤ x ∧ x ≤ 24) = true ↔ _
    rw [decide_eq_true_eq]
    constructor
    · intro h
      refine ⟨fun j hj => ?_, ?_⟩
      · obtain rfl : j = 0 := by simp at hj; omega
        exact ⟨h, Int.emod_self⟩
      · show x ≤ 144
        omega
    · rintro ⟨h, -⟩
      exact (h 0 (by simp)).1
  | [x, y], _ =>
    show decide (((2 ≤ x ∧ x ≤ 24) ∧ 2 ≤ y ∧ y ≤ 24) ∧ y % x = 0 ∧ x * y ≤ 144) = true ↔ _
    rw [decide_eq_true_eq]
    constructor
    · rintro ⟨⟨h1, h2⟩, h3, h4⟩
      refine ⟨fun j hj => ?_, h4⟩
      have hj2 : j < 2 := hj
      obtain rfl | rfl : j = 0 ∨ j = 1 := by omega
      · exact ⟨h1, Int.emod_self⟩
      · exact ⟨h2, h3⟩
    · rintro ⟨h, h4⟩
      exact ⟨⟨(h 0 (by simp)).1, (h 1 (by simp)).1⟩, (h 1 (by simp)).2, h4⟩
  | [], h => simp at h
  | _ :: _ :: _ :: _, h => simp at h
theorem grV_len {g : List Int} (h : ¬ (g.length = 1 ∨ g.length = 2)) : grV g = false := by
  match g, h with
  | [], _ => rfl
  | [_], h => simp at h
  | [_, _], h => simp at h
  | _ :: _ :: _ :: _, _ => rfl
theorem prG_bd {g : List Int} {i : Nat} (hi : i ≤ 2) (h : ∀ j, j < i → gdG g j) : 1 ≤ prG g i ∧ prG g i ≤ 1000 := by
  unfold prG
  obtain rfl | rfl | rfl : i = 0 ∨ i = 1 ∨ i = 2 := by omega
  · rw [if_pos rfl]; omega
  · rw [if_neg (by decide), if_pos rfl]
    have := (h 0 (by omega)).1
    omega
  · rw [if_neg (by decide), if_neg (by decide)]
    obtain ⟨a1, a2⟩ := (h 0 (by omega)).1
    obtain ⟨b1, b2⟩ := (h 1 (by omega)).1
    have h1 := Int.mul_le_mul a1 b1 (by omega) (by omega)
    have h2 := Int.mul_le_mul a2 b2 (by omega) (by omega : (0 : Int) ≤ 24)
    omega
theorem prG_next {g : List Int} {i : Nat} (hi : i < 2) : prG g (i + 1) = prG g i * geti g i := by
  unfold prG
  obtain rfl | rfl : i = 0 ∨ i = 1 := by omega
  · simp
  · simp
theorem RefGroup_any (A : Option Addr) (c : Nat) (g : List Int) (w : World) (hl : g.length ≤ 1000000) (ha : IntsAt w A g) :
    Calls Try.prog 18 #[.slice A g.length c] w fun e w' => e = .returned (.bool (grV g)) ∧ Below w.heap.size w w' := by
  have b0 : Below w.heap.size w w := Below.refl _ _
  by_cases h12 : g.length = 1 ∨ g.length = 2
  · have HV := Lib.hid (grV_iff h12)
    have HA := Lib.hid ha
    have g1 : decide ((g.length : Int) < 1) = false := decide_eq_false (by omega)
    have g2 : decide (2 < (g.length : Int)) = false := decide_eq_false (by omega)
    have g1' : decide (g.length < 1) = false := decide_eq_false (by omega)
    have g2' : decide (2 < g.length) = false := decide_eq_false (by omega)
    have H0 : Hid (∀ j, j < 0 → gdG g j) := Lib.hid (fun j h => absurd h (Nat.not_lt_zero j))
    obtain ⟨N, hN⟩ : ∃ N, g.length = N := ⟨_, rfl⟩
    have HN := Lib.hid hN
    have hN2 : N = 1 ∨ N = 2 := by omega
    rw [hN] at g1 g2 g1' g2' ⊢ HV hl
    clear ha h12 hN
    go_enter Try.func18, Try.ntmps18
    go_wp2
    go_loopw [3, 4] (fun s i wr => ∃ k : Nat, k ≤ N ∧ i = .int .i64 k ∧ s = .int .i64 (prG g k) ∧ Hid (∀ j, j < k → gdG g j) ∧ Below w.heap.size w wr) (fun _ i _ => N - (intOf i).toNat)
    case atStart => exact ⟨0, by omega, rfl, rfl, H0, b0⟩
    case round =>
      clear H0 b0
      obtain ⟨k, hk, rfl, rfl, HG, b0⟩ := hrel
      by_cases hlt : k < N
      · have g3 : decide ((k : Int) < (N : Int)) = true := decide_eq_true (by omega)
        have g3' : decide (k < N) = true := decide_eq_true hlt
        obtain ⟨b, o, hAe, hb, hc⟩ := (HA.out.below b0) (by have := HN.out; omega)
        subst hAe
        have c1 := hc k (by have := HN.out; omega)
        have c0 := hc 0 (by have := HN.out; omega)
        rw [Nat.add_zero] at c0
        have HBAD : Hid (¬ gdG g k → grV g = false) := Lib.hid (fun h => by
          rw [Bool.eq_false_iff]
          intro h2
          exact h ((HV.out.1 h2).1 k hlt))
        have hpb := prG_bd (by omega) HG.out
        have HPN := Lib.hid (prG_next (g := g) (i := k) (by omega))
        clear hc
        by_cases h1 : geti g k < 2
        · have hv := Lib.hid (HBAD.out (fun h => by have := h.1; omega))
          have g4 : decide (geti g k < 2) = true := decide_eq_true h1
          generalize geti g k = x at *
          generalize geti g 0 = x0 at *
          clear h1 HBAD HV HPN
          go_wp2
          refine wp_region_quiet_lit (by kernel_rfl) (by kernel_rfl) ?_
          repeat go_big_quiet_step ((fail))
          refine wpQuiet_nil ?_
          rintro _ ⟨nq, rfl⟩
          go_wp2
          go_ret
          exact ⟨by rw [hv.out]; rfl, b0.trans (below_drewN nq)⟩
        have g4 : decide (geti g k < 2) = false := decide_eq_false h1
        by_cases h2 : 24 < geti g k
        · have hv := Lib.hid (HBAD.out (fun h => by have := h.1; omega))
          have g5 : decide (24 < geti g k) = true := decide_eq_true h2
          generalize geti g k = x at *
          generalize geti g 0 = x0 at *
          clear h1 h2 HBAD HV HPN
          go_wp2
          refine wp_region_quiet_lit (by kernel_rfl) (by kernel_rfl) ?_
          repeat go_big_quiet_step ((fail))
          refine wpQuiet_nil ?_
          rintro _ ⟨nq, rfl⟩
          go_wp2
          go_ret
          exact ⟨by rw [hv.out]; rfl, b0.trans (below_drewN nq)⟩
        have g5 : decide (24 < geti g k) = false := decide_eq_false h2
        have hx0 : 2 ≤ geti g 0 ∧ geti g 0 ≤ 24 := by
          rcases Nat.eq_zero_or_pos k with h | h
          · rw [← h]; omega
          · exact (HG.out 0 h).1
        have gz : ((geti g 0) == 0) = false := by rw [beq_eq_false_iff_ne]; omega
        have ht : Int.tmod (geti g k) (geti g 0) = geti g k % geti g 0 := Int.tmod_eq_emod_of_nonneg (by omega)
        have e1 := Int.emod_nonneg (geti g k) (show geti g 0 ≠ 0 by omega)
        have e2 := Int.emod_lt_of_pos (geti g k) (show 0 < geti g 0 by omega)
        by_cases h3 : geti g k % geti g 0 = 0
        · have HG2 : Hid (∀ j, j < k + 1 → gdG g j) := Lib.hid (fun j hj => by
            rcases Nat.lt_or_ge j k with h | h
            · exact HG.out j h
            · rw [show j = k by omega]; exact ⟨by omega, h3⟩)
          have hpb2 := prG_bd (by omega) HG2.out
          rw [HPN.out] at hpb2
          rw [h3] at ht
          generalize hp : prG g k = p at *
          generalize geti g k = x at *
          generalize geti g 0 = x0 at *
          clear HBAD HV h3 e1 e2 hp
          go_wp2
          refine wp_region_quiet_lit (by kernel_rfl) (by kernel_rfl) ?_
          repeat go_big_quiet_step ((fail))
          refine wpQuiet_nil ?_
          rintro _ ⟨nq, rfl⟩
          have c1 := (below_drewN (w := wr) (B := wr.heap.size) nq).cell (p := ⟨b, o + k, none⟩) hb |>.trans c1
          go_wp2
          go_roundw
          case rel => exact ⟨k + 1, by omega, by go_num, by rw [HPN.out], HG2, b0.trans (below_drewN nq)⟩
          case measure => simp [intOf]; omega
        · have hv := Lib.hid (HBAD.out (fun h => h3 h.2))
          have g6 : ((geti g k % geti g 0) != 0) = true := by rw [bne_iff_ne]; exact h3
          generalize geti g k % geti g 0 = r at *
          generalize geti g k = x at *
          generalize geti g 0 = x0 at *
          clear h1 h2 h3 HBAD HV HPN
          go_wp2
          refine wp_region_quiet_lit (by kernel_rfl) (by kernel_rfl) ?_
          repeat go_big_quiet_step ((fail))
          refine wpQuiet_nil ?_
          rintro _ ⟨nq, rfl⟩
          go_wp2
          go_ret
          exact ⟨by rw [hv.out]; rfl, b0.trans (below_drewN nq)⟩
      · obtain rfl : k = N := by omega
        have g3 : decide ((k : Int) < (k : Int)) = false := decide_eq_false (by omega)
        have g3' : decide (k < k) = false := decide_eq_false (by omega)
        have hv : Hid (grV g = decide (prG g k ≤ 144)) := Lib.hid (by
          rw [Bool.eq_iff_iff, HV.out, decide_eq_true_eq]
          exact ⟨fun h => h.2, fun h => ⟨HG.out, h⟩⟩)
        clear HV
        go_wp2
        go_ret
        exact ⟨by rw [hv.out]; rfl, b0⟩
  · have hv := grV_len h12
    rw [hv]
    rcases Nat.lt_or_ge g.length 1 with h | h
    · have g1 : decide ((g.length : Int) < 1) = true := decide_eq_true (by omega)
      have g1' : decide (g.length < 1) = true := decide_eq_true (by omega)
      clear h12 hv h ha
      generalize g.length = N at *
      go_enter Try.func18, Try.ntmps18
      go_wp2
      go_ret
      exact ⟨rfl, b0⟩
    · have g1 : decide ((g.length : Int) < 1) = false := decide_eq_false (by omega)
      have g1' : decide (g.length < 1) = false := decide_eq_false (by omega)
      have g2 : decide (2 < (g.length : Int)) = true := decide_eq_true (by omega)
      have g2' : decide (2 < g.length) = true := decide_eq_true (by omega)
      clear h12 hv h ha
      generalize g.length = N at *
      go_enter Try.func18, Try.ntmps18
      go_wp2
      go_ret
      exact ⟨rfl, b0⟩
end Go.Proofs.Ytokjdadgdfmffaa
