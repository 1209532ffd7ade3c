/- Primes and sets. -/
import Derived.Test.YtokjdadgdfmffaaKN
import Derived.Deep.WholeRow
namespace Go.Proofs.Ytokjdadgdfmffaa
open Go.RowKit
set_option maxHeartbeats 1000000
set_option maxRecDepth 100000
/-- Is it a prime within the limit? -/
def prV (p : Int) : Bool := decide (2 ≤ p ∧ p ≤ 97 ∧ ∀ d : Nat, d < p.toNat → 2 ≤ d → p % d ≠ 0)
theorem isPrime_any (p : Int) (w : World) : Calls Try.prog 61 #[.int .i64 p] w fun e w' => e = .returned (.bool (prV p)) ∧ w = w' := by
  by_cases h1 : p < 2
  · have g1 : decide (p < 2) = true := decide_eq_true h1
    have hv : Hid (prV p = false) := Lib.hid (decide_eq_false (fun h => by omega))
    clear h1
    go_enter Try.func61, Try.ntmps61
    go_wp2
    go_ret
    exact ⟨by rw [hv.out]; rfl, rfl⟩
  · have g1 : decide (p < 2) = false := decide_eq_false h1
    by_cases h2 : 97 < p
    · have g2 : decide (97 < p) = true := decide_eq_true h2
      have hv : Hid (prV p = false) := Lib.hid (decide_eq_false (fun h => by omega))
      clear h1 h2
      go_enter Try.func61, Try.ntmps61
      go_wp2
      go_ret
      exact ⟨by rw [hv.out]; rfl, rfl⟩
    · have g2 : decide (97 < p) = false := decide_eq_false h2
      have b1 : 2 ≤ p := by omega
      have b2 : p ≤ 97 := by omega
      clear h1 h2
      have H0 : Hid (∀ d : Nat, d < 2 → 2 ≤ d → p % d ≠ 0) := Lib.hid (fun d h1 h2 => by omega)
      go_enter Try.func61, Try.ntmps61
      go_wp2
      go_loop [3] (fun i => ∃ d : Nat, 2 ≤ d ∧ (d : Int) ≤ p ∧ i = .int .i64 d ∧ Hid (∀ e : Nat, e < d → 2 ≤ e → p % e ≠ 0)) (fun i => 100 - (intOf i).toNat)
      case atStart => exact ⟨2, by omega, by omega, rfl, H0⟩
      case round =>
        clear H0
        obtain ⟨d, hd, hdp, rfl, H0⟩ := hrel
        by_cases hlt : (d : Int) < p
        · by_cases h0 : p % d = 0
          · have g3 : (p % d == 0) = true := by simp [h0]
            have hv : Hid (prV p = false) := Lib.hid (decide_eq_false (fun h => h.2.2 d (by omega) hd h0))
            clear h0
            go_wp2
            go_ret
            exact ⟨by rw [hv.out]; rfl, rfl⟩
          · have g3 : (p % d == 0) = false := by simp [h0]
            have HN := Lib.hid h0
            clear h0
            go_wp2
            go_round
            case rel => exact ⟨d + 1, by omega, by omega, by go_num, Lib.hid fun e he he2 => by
              by_cases h : e = d
              · subst h; exact HN.out
              · exact H0.out e (by omega) he2⟩
            case measure => simp [intOf]; omega
        · obtain rfl : p = (d : Int) := by omega
          have hv : Hid (prV (d : Int) = true) := Lib.hid (decide_eq_true ⟨b1, b2, fun e he he2 => H0.out e (by simpa using he) he2⟩)
          go_wp2
          go_ret
          exact ⟨by rw [hv.out]; rfl, rfl⟩
/-- Which numbers are there. -/
def hasV (S : List Int) : List Value := (List.range 97).map fun v : Nat => .bool (decide ((v : Int) ∈ S))
theorem hasV_len (S : List Int) : (hasV S).length = 97 := by simp [hasV]
theorem hasV_at (S : List Int) {v : Nat} (h : v < 97) : (hasV S)[v]? = some (.bool (decide ((v : Int) ∈ S))) := by
  unfold hasV
  rw [List.getElem?_map, List.getElem?_range h]; rfl
theorem hasV_set (S : List Int) {x : Nat} (_h : x < 97) : (hasV S).set x (.bool true) = hasV (S ++ [(x : Int)]) := by
  apply List.ext_getElem?
  intro j
  by_cases hj : j < 97
  · rw [List.getElem?_set, hasV_at _ hj, hasV_at _ hj, hasV_len]
    by_cases e : x = j
    · subst e
      simp [hj]
    · rw [if_neg e]
      have e2 : ¬ ((j : Int) = (x : Int)) := by omega
      simp [e2]
  · rw [List.getElem?_eq_none (by rw [List.length_set, hasV_len]; omega), List.getElem?_eq_none (by rw [hasV_len]; omega)]
theorem hasV_zero : hasV [] = List.replicate 97 (.bool false) := by
  apply List.ext_getElem?
  intro j
  by_cases hj : j < 97
  · rw [hasV_at _ hj, List.getElem?_replicate, if_pos hj]; simp
  · rw [List.getElem?_eq_none (by rw [hasV_len]; omega), List.getElem?_eq_none (by rw [List.length_replicate]; omega)]
/-- Is it a set of remainders? -/
def stV (p : Int) (xs : List Int) : Bool := decide (0 < xs.length ∧ ∀ i, i < xs.length → (0 ≤ geti xs i ∧ geti xs i < p) ∧ geti xs i ∉ xs.take i)
theorem z101 : ∀ w, (zeroValue 101).run Try.prog w = .ok (.agg (hasV []).toArray) w := by
  rw [hasV_zero]
  exact (zero_of_info (n := 97) (by kernel_rfl)).1
theorem isSet_any (p : Int) (A : Option Addr) (c : Nat) (xs : List Int) (w : World) (hp : p ≤ 97) (hl : xs.length ≤ 1000000) (ha : IntsAt w A xs) :
    Calls Try.prog 62 #[.int .i64 p, .slice A xs.length c] w fun e w' => e = .returned (.bool (stV p xs)) ∧ Below w.heap.size w w' := by
  have r0 : Row (w.alloc (.cells (hasV []).toArray 101)) w.heap.size 101 (hasV (xs.take 0)) := row_new rfl
  have b0 : Below w.heap.size w (w.alloc (.cells (hasV []).toArray 101)) := (Below.refl _ w).alloc (Nat.le_refl _) _
  have HA := Lib.hid ha
  have z1 := z101
  have H0 : Hid (∀ i, i < 0 → (0 ≤ geti xs i ∧ geti xs i < p) ∧ geti xs i ∉ xs.take i) := Lib.hid (fun i h => absurd h (Nat.not_lt_zero i))
  clear ha
  go_enter Try.func62, Try.ntmps62
  go_wp2
  go_loopw [10] (fun i wr => ∃ k : Nat, k ≤ xs.length ∧ i = .int .i64 k ∧ Row wr w.heap.size 101 (hasV (xs.take k)) ∧ Below w.heap.size w wr ∧ Hid (∀ i, i < k → (0 ≤ geti xs i ∧ geti xs i < p) ∧ geti xs i ∉ xs.take i)) (fun i _ => xs.length - (intOf i).toNat)
  case atStart => exact ⟨0, by omega, rfl, r0, b0, H0⟩
  case round =>
    clear r0 b0 H0
    obtain ⟨k, hk, rfl, r0, b0, H0⟩ := hrel
    by_cases hlt : k < xs.length
    · obtain ⟨b, o, hAe, hb, hc⟩ := (HA.out.below b0) (by omega)
      subst hAe
      have hcell := hc k hlt
      have hbad : ∀ h : ¬ ((0 ≤ geti xs k ∧ geti xs k < p) ∧ geti xs k ∉ xs.take k), stV p xs = false := fun h => decide_eq_false (fun h2 => h (h2.2 k hlt))
      have HB := Lib.hid hbad
      have hts : xs.take (k + 1) = xs.take k ++ [geti xs k] := by rw [List.take_succ_eq_append_getElem hlt, geti_eq hlt]
      have HT := Lib.hid hts
      have HX := Lib.hid (rfl : geti xs k = geti xs k)
      clear hc hbad hts
      by_cases h1 : geti xs k < 0
      · have hv := Lib.hid (HB.out (fun h => by omega))
        generalize geti xs k = x at *
        have g1 : decide (x < 0) = true := decide_eq_true h1
        clear h1
        go_wp2
        go_ret
        exact ⟨by rw [hv.out]; rfl, b0⟩
      · by_cases h2 : p ≤ geti xs k
        · have hv := Lib.hid (HB.out (fun h => by omega))
          generalize geti xs k = x at *
          have g1 : decide (x < 0) = false := decide_eq_false h1
          have g2 : decide (p ≤ x) = true := decide_eq_true h2
          clear h1 h2
          go_wp2
          go_ret
          exact ⟨by rw [hv.out]; rfl, b0⟩
        · have hn : ∃ x : Nat, geti xs k = x := ⟨(geti xs k).toNat, by omega⟩
          obtain ⟨x, hx⟩ := hn
          rw [hx] at hcell
          have hx97 : x < 97 := by omega
          have hlook := hasV_at (xs.take k) hx97
          have hel : w.heap.size = w.heap.size := rfl
          have hc2 := r0.cell x
          rw [hlook] at hc2
          have hf2 := r0.free x
          have g1 : decide ((x : Int) < 0) = false := decide_eq_false (by omega)
          have g2 : decide (p ≤ (x : Int)) = false := decide_eq_false (by omega)
          have hset := hasV_set (xs.take k) hx97
          by_cases h3 : (x : Int) ∈ xs.take k
          · rw [decide_eq_true h3] at hc2
            have hv := Lib.hid (HB.out (fun h => h.2 (by rw [hx]; exact h3)))
            clear h3 hx h1 h2 hlook HX hset HT HB
            go_wp2
            go_ret
            exact ⟨by rw [hv.out]; rfl, b0⟩
          · rw [decide_eq_false h3] at hc2
            have HOK : Hid ((0 ≤ geti xs k ∧ geti xs k < p) ∧ geti xs k ∉ xs.take k) := Lib.hid ⟨by omega, by rw [hx]; exact h3⟩
            have HST : Hid ((hasV (xs.take k)).set x (.bool true) = hasV (xs.take (k + 1))) := Lib.hid (by rw [hset, HT.out, hx])
            clear h3 hx h1 h2 hlook HX hset HT HB
            go_wp2
            go_roundw
            case rel =>
              refine ⟨k + 1, by omega, by go_num, ?_, b0.setCell (Nat.le_refl _) _, Lib.hid fun i hi => ?_⟩
              · rw [← HST.out]; exact r0.set x _
              · by_cases e : i = k
                · subst e; exact HOK.out
                · exact H0.out i (by omega)
            case measure => simp [intOf]; omega
    · obtain rfl : k = xs.length := by omega
      have hv : Hid (stV p xs = decide ((0 : Int) < xs.length)) := Lib.hid (by
        unfold stV
        rw [Bool.eq_iff_iff]
        simp only [decide_eq_true_eq]
        exact ⟨fun h => by omega, fun h => ⟨by omega, fun i hi => H0.out i hi⟩⟩)
      go_wp2
      go_ret
      exact ⟨by rw [hv.out]; simp, b0⟩
end Go.Proofs.Ytokjdadgdfmffaa
