/- The reference's Element, List, Size, Code, Decoded, Less. -/
import Derived.Test.YtokjdadgdfmffaaMB
import Derived.Test.YtokjdadgdfmffaaMC
import Derived.Test.YtokjdadgdfmffaaKF
namespace Go.Proofs.Ytokjdadgdfmffaa
open Go.RowKit
set_option maxHeartbeats 2000000
set_option maxRecDepth 100000
theorem elV_all {g : List Int} {m n : Nat} (hg : IsG g m n) (xs : List Int) : elV m n xs = true ↔ xs.length = g.length ∧ ∀ j, j < g.length → 0 ≤ geti xs j ∧ geti xs j < geti g j := by
  obtain ⟨⟨g1, g2, g3, g4⟩, ⟨rfl, h1⟩ | ⟨rfl, h1⟩, h2, _⟩ := hg
  · match xs with
    | [y] =>
      show decide (m = 1 ∧ 0 ≤ y ∧ y < n) = true ↔ _
      rw [decide_eq_true_eq]
      constructor
      · rintro ⟨_, h3⟩
        exact ⟨rfl, fun j hj => by obtain rfl : j = 0 := by simp at hj; omega
                                   exact h3⟩
      · rintro ⟨_, h3⟩
        exact ⟨h1, h3 0 (by simp)⟩
    | [] => exact ⟨fun h => (by cases h), fun h => (by have := h.1; simp at this)⟩
    | [x, y] =>
      show decide (m ≠ 1 ∧ _) = true ↔ _
      rw [decide_eq_true_eq]
      exact ⟨fun h => absurd h1 h.1, fun h => by have := h.1; simp at this⟩
    | _ :: _ :: _ :: _ => exact ⟨fun h => (by cases h), fun h => (by have := h.1; simp at this)⟩
  · match xs with
    | [x, y] =>
      show decide (m ≠ 1 ∧ (0 ≤ x ∧ x < m) ∧ 0 ≤ y ∧ y < n) = true ↔ _
      rw [decide_eq_true_eq]
      constructor
      · rintro ⟨_, h3, h4⟩
        refine ⟨rfl, fun j hj => ?_⟩
        have hj2 : j < 2 := hj
        obtain rfl | rfl : j = 0 ∨ j = 1 := by omega
        · exact h3
        · exact h4
      · rintro ⟨_, h3⟩
        exact ⟨by omega, h3 0 (by simp), h3 1 (by simp)⟩
    | [] => exact ⟨fun h => (by cases h), fun h => (by have := h.1; simp at this)⟩
    | [y] =>
      show decide (m = 1 ∧ _) = true ↔ _
      rw [decide_eq_true_eq]
      exact ⟨fun h => by have := h.1; omega, fun h => by have := h.1; simp at this⟩
    | _ :: _ :: _ :: _ => exact ⟨fun h => (by cases h), fun h => (by have := h.1; simp at this)⟩
theorem RefElement_any (A B : Option Addr) (c d m n : Nat) (g xs : List Int) (w : World) (hg : IsG g m n) (_hx : xs.length ≤ 1000000) (ha : IntsAt w A g) (hb : IntsAt w B xs) :
    Calls Try.prog 24 #[.slice A g.length c, .slice B xs.length d] w fun e w' => e = .returned (.bool (elV m n xs)) ∧ Below w.heap.size w w' := by
  have hgl := isG_len hg
  have HV := Lib.hid (elV_all hg xs)
  have HA := Lib.hid ha
  have HB := Lib.hid hb
  have b0 : Below w.heap.size w w := Below.refl _ _
  clear ha hb hg
  by_cases hl : xs.length = g.length
  · have g1 : ((xs.length : Int) != (g.length : Int)) = false := by rw [bne_eq_false_iff_eq]; omega
    have H0 : Hid (∀ j, j < 0 → 0 ≤ geti xs j ∧ geti xs j < geti g j) := Lib.hid (fun j h => absurd h (Nat.not_lt_zero j))
    have HL := Lib.hid hl
    obtain ⟨N, hN⟩ : ∃ N, g.length = N := ⟨_, rfl⟩
    have HN := Lib.hid hN
    rw [hl] at g1 ⊢
    rw [hN] at g1 hgl HV ⊢
    clear hl hN
    go_enter Try.func24, Try.ntmps24
    go_wp2
    go_loopw [5] (fun i wr => ∃ k : Nat, k ≤ N ∧ i = .int .i64 k ∧ Hid (∀ j, j < k → 0 ≤ geti xs j ∧ geti xs j < geti g j) ∧ Below w.heap.size w wr) (fun i _ => N - (intOf i).toNat)
    case atStart => exact ⟨0, by omega, rfl, H0, b0⟩
    case round =>
      clear H0 b0
      obtain ⟨k, hk, rfl, HG, b0⟩ := hrel
      by_cases hlt : k < N
      · have g3 : decide ((k : Int) < (N : Int)) = true := decide_eq_true (by omega)
        have g3' : decide (k < N) = true := decide_eq_true hlt
        obtain ⟨b, o, hAe, hb, hc⟩ := (HA.out.below b0) (by have := HN.out; omega)
        subst hAe
        obtain ⟨b', o', hBe, hb', hc'⟩ := (HB.out.below b0) (by have := HN.out; have := HL.out; omega)
        subst hBe
        have c1 := hc k (by have := HN.out; omega)
        have c2 := hc' k (by have := HN.out; have := HL.out; omega)
        have HBAD : Hid (¬(0 ≤ geti xs k ∧ geti xs k < geti g k) → elV m n xs = false) := Lib.hid (fun h => by
          rw [Bool.eq_false_iff]
          intro h2
          exact h ((HV.out.1 h2).2 k hlt))
        clear hc hc'
        by_cases h1 : geti xs k < 0
        · have hv := Lib.hid (HBAD.out (fun h => by omega))
          have g4 : decide (geti xs k < 0) = true := decide_eq_true h1
          generalize geti xs k = x at *
          generalize geti g k = y at *
          clear h1 HBAD HV
          go_wp2
          refine wp_region_quiet_lit (by kernel_rfl) (by kernel_rfl) ?_
          repeat go_big_quiet_step ((fail))
          refine wpQuiet_nil ?_
          rintro _ ⟨nq, rfl⟩
          go_wp2
          go_ret
          exact ⟨by rw [hv.out]; rfl, b0.trans (below_drewN nq)⟩
        have g4 : decide (geti xs k < 0) = false := decide_eq_false h1
        by_cases h2 : geti g k ≤ geti xs k
        · have hv := Lib.hid (HBAD.out (fun h => by omega))
          have g5 : decide (geti g k ≤ geti xs k) = true := decide_eq_true h2
          generalize geti xs k = x at *
          generalize geti g k = y at *
          clear h1 h2 HBAD HV
          go_wp2
          refine wp_region_quiet_lit (by kernel_rfl) (by kernel_rfl) ?_
          repeat go_big_quiet_step ((fail))
          refine wpQuiet_nil ?_
          rintro _ ⟨nq, rfl⟩
          go_wp2
          go_ret
          exact ⟨by rw [hv.out]; rfl, b0.trans (below_drewN nq)⟩
        have g5 : decide (geti g k ≤ geti xs k) = false := decide_eq_false h2
        have HG2 : Hid (∀ j, j < k + 1 → 0 ≤ geti xs j ∧ geti xs j < geti g j) := Lib.hid (fun j hj => by
          rcases Nat.lt_or_ge j k with h | h
          · exact HG.out j h
          · rw [show j = k by omega]; omega)
        generalize geti xs k = x at *
        generalize geti g k = y at *
        clear h1 h2 HBAD HV HG
        go_wp2
        refine wp_region_quiet_lit (by kernel_rfl) (by kernel_rfl) ?_
        repeat go_big_quiet_step ((fail))
        refine wpQuiet_nil ?_
        rintro _ ⟨nq, rfl⟩
        go_wp2
        go_roundw
        case rel => exact ⟨k + 1, by omega, by go_num, HG2, b0.trans (below_drewN nq)⟩
        case measure => simp [intOf]; omega
      · obtain rfl : k = N := by omega
        have g3 : decide ((k : Int) < (k : Int)) = false := decide_eq_false (by omega)
        have g3' : decide (k < k) = false := decide_eq_false (by omega)
        have hv : Hid (elV m n xs = true) := Lib.hid (HV.out.2 ⟨by rw [HL.out, HN.out], HG.out⟩)
        clear HV
        go_wp2
        go_ret
        exact ⟨by rw [hv.out]; rfl, b0⟩
  · have g1 : ((xs.length : Int) != (g.length : Int)) = true := by rw [bne_iff_ne]; omega
    have hv : elV m n xs = false := by
      rw [Bool.eq_false_iff]
      intro h
      exact hl (HV.out.1 h).1
    rw [hv]
    clear HV hv hl
    generalize g.length = N at *
    generalize xs.length = M at *
    go_enter Try.func24, Try.ntmps24
    go_wp2
    go_ret
    exact ⟨rfl, b0⟩
theorem RefList_any (A B : Option Addr) (c d m n : Nat) (g : List Int) (L : List (List Int)) (w : World) (hg : IsG g m n) (hl : L.length ≤ 1000000) (hx : ∀ i, i < L.length → (getl L i).length ≤ 1000000) (ha : IntsAt w A g) (hb : RowsAt w B L) :
    Calls Try.prog 19 #[.slice A g.length c, .slice B L.length d] w fun e w' => e = .returned (.bool (rlV m n L)) ∧ Below w.heap.size w w' := by
  have HE := Lib.hid (fun (V : World) i B d (hi : i < L.length) (ha : IntsAt V A g) (hb : IntsAt V B (getl L i)) => RefElement_any A B c d m n g (getl L i) V hg (hx i hi) ha hb)
  have HA := Lib.hid ha
  have HB := Lib.hid hb
  have HV : Hid (rlV m n L = true ↔ L.length ≤ 60 ∧ ∀ i, i < L.length → elV m n (getl L i) = true) := Lib.hid (by unfold rlV; rw [decide_eq_true_eq])
  have b0 : Below w.heap.size w w := Below.refl _ _
  have H0 : Hid (∀ j, j < 0 → elV m n (getl L j) = true) := Lib.hid (fun j h => absurd h (Nat.not_lt_zero j))
  clear ha hb hg hx
  go_enter Try.func19, Try.ntmps19
  go_wp2
  go_loopw [5] (fun i wr => ∃ k : Nat, k ≤ L.length ∧ i = .int .i64 k ∧ Hid (∀ j, j < k → elV m n (getl L j) = true) ∧ Below w.heap.size w wr) (fun i _ => L.length - (intOf i).toNat)
  case atStart => exact ⟨0, by omega, rfl, H0, b0⟩
  case round =>
    clear H0 b0
    obtain ⟨k, hk, rfl, HG, b0⟩ := hrel
    by_cases hlt : k < L.length
    · have g3 : decide ((k : Int) < (L.length : Int)) = true := decide_eq_true (by omega)
      obtain ⟨b, o, hBe, hb, hc⟩ := (HB.out.below b0) (by omega)
      subst hBe
      obtain ⟨Bx, cx, e1, hi⟩ := hc k hlt
      have HC := Lib.hid (HE.out wr k Bx cx hlt (HA.out.below b0) hi)
      have HBAD : Hid (elV m n (getl L k) = false → rlV m n L = false) := Lib.hid (fun h => by
        rw [Bool.eq_false_iff]
        intro h2
        rw [(HV.out.1 h2).2 k hlt] at h
        cases h)
      clear hc hi
      cases he : elV m n (getl L k) with
      | false =>
        have hv := Lib.hid (HBAD.out he)
        rw [he] at HC
        generalize (getl L k).length = z at *
        clear he HBAD HV HG
        go_wp2_with (go_at_call 24; refine HC.out.mono ?_; rintro e w2 ⟨rfl, b2⟩; replace b0 := b0.trans (b2.mono b0.size))
        go_ret
        exact ⟨by rw [hv.out]; rfl, b0⟩
      | true =>
        have HG2 : Hid (∀ j, j < k + 1 → elV m n (getl L j) = true) := Lib.hid (fun j hj => by
          rcases Nat.lt_or_ge j k with h | h
          · exact HG.out j h
          · rw [show j = k by omega]; exact he)
        rw [he] at HC
        generalize (getl L k).length = z at *
        clear he HBAD HV HG
        go_wp2_with (go_at_call 24; refine HC.out.mono ?_; rintro e w2 ⟨rfl, b2⟩; replace b0 := b0.trans (b2.mono b0.size))
        go_roundw
        case rel => exact ⟨k + 1, by omega, by go_num, HG2, b0⟩
        case measure => simp [intOf]; omega
    · obtain rfl : k = L.length := by omega
      have g3 : decide ((L.length : Int) < (L.length : Int)) = false := decide_eq_false (by omega)
      have hv : Hid (rlV m n L = decide ((L.length : Int) ≤ 60)) := Lib.hid (by
        rw [Bool.eq_iff_iff, HV.out, decide_eq_true_eq]
        exact ⟨fun h => by omega, fun h => ⟨by omega, HG.out⟩⟩)
      clear HV
      go_wp2
      go_ret
      exact ⟨by rw [hv.out]; first | rfl | (congr 1; simp; done) | simp, b0⟩
end Go.Proofs.Ytokjdadgdfmffaa
