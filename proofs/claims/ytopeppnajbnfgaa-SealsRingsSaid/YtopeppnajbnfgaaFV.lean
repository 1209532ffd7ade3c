/- The reference: cuts. -/
import Derived.Test.YtopeppnajbnfgaaFU
namespace Go.Proofs.Ytopeppnajbnfgaa
open Go.RowKit
set_option maxHeartbeats 1000000
set_option maxRecDepth 100000
theorem okCut_from {first n : Int} {xs : List Int} {k : Nat} (h : ∀ j, j < k → okCut first n xs j) : ∀ j, j < k → first ≤ geti xs j := by
  intro j
  induction j with
  | zero =>
    intro hj
    have := (h 0 hj).1
    unfold fromC at this
    rw [if_pos rfl] at this; exact this
  | succ j ih =>
    intro hj
    have h1 := ih (by omega)
    have := (h (j + 1) hj).1
    unfold fromC at this
    rw [if_neg (by omega), Nat.add_sub_cancel] at this
    omega
theorem Cuts_any (s : ByteArray) (A : Option Addr) (c : Nat) (xs : List Int) (first : Int) (w : World) (_hs : s.size ≤ 1000000) (hl : xs.length ≤ 1000000) (hx : IntsAt w A xs) :
    Calls Try.prog 21 #[.string s, .slice A xs.length c, .int .i64 first] w fun e w' => e = .returned (.bool (cutV first s.size xs)) ∧ ∃ k, w' = w.drewN k := by
  go_enter Try.func21, Try.ntmps21
  go_wp2
  go_loopw [7] (fun i wr => ∃ k q : Nat, k ≤ xs.length ∧ i = .int .i64 k ∧ wr = w.drewN q ∧ ∀ j, j < k → okCut first s.size xs j) (fun i _ => xs.length - (intOf i).toNat)
  case atStart => exact ⟨0, 0, by omega, rfl, rfl, fun j hj => absurd hj (by omega)⟩
  case round =>
    obtain ⟨k, q, hk, rfl, rfl, hok⟩ := hrel
    have HOK := Lib.hid hok
    clear hok
    by_cases hlt : k < xs.length
    · obtain ⟨b, o, rfl, hb, hc⟩ := hx (by omega)
      have c0 := hc k hlt
      have HN := Lib.hid (fun h => cutV_no (first := first) (n := s.size) hlt h)
      have HFR := Lib.hid (okCut_from HOK.out)
      rcases Nat.eq_zero_or_pos k with hk0 | hk0
      · have HY := Lib.hid (show okCut first s.size xs k = (first ≤ geti xs k ∧ geti xs k < s.size) by unfold okCut fromC; rw [if_pos hk0])
        have g3 : decide ((0 : Int) < k) = false := decide_eq_false (by omega)
        have g3' : decide (0 < k) = false := decide_eq_false (by omega)
        have HK0 := Lib.hid hk0
        clear hc hx hk0
        generalize geti xs k = x at *
        cases g1 : decide (x < first)
        · cases g2 : decide ((s.size : Int) ≤ x)
          · have h1 := of_decide_eq_false g1
            have h2 := of_decide_eq_false g2
            go_wp2
            go_quiet (fail)
            go_wp2
            go_roundw
            case rel =>
              refine ⟨k + 1, q + nq, by omega, by go_num, by first | rfl | exact World.drewN_drewN _ _ _, fun j hj => ?_⟩
              obtain rfl : j = k := by have := HK0.out; omega
              rw [HY.out]; omega
            case measure => simp [intOf]; omega
          · have h2 := of_decide_eq_true g2
            have HB := Lib.hid (HN.out (by rw [HY.out]; omega))
            go_wp2
            go_quiet (fail)
            go_wp2
            go_ret
            exact ⟨ret_bool HB.out.symm, _, by first | rfl | exact World.drewN_drewN _ _ _⟩
        · have h1 := of_decide_eq_true g1
          have HB := Lib.hid (HN.out (by rw [HY.out]; omega))
          go_wp2
          go_quiet (fail)
          go_wp2
          go_ret
          exact ⟨ret_bool HB.out.symm, _, by first | rfl | exact World.drewN_drewN _ _ _⟩
      · have HY := Lib.hid (show okCut first s.size xs k = (geti xs (k - 1) + 1 ≤ geti xs k ∧ geti xs k < s.size) by unfold okCut fromC; rw [if_neg (by omega)])
        have c1 := hc (k - 1) (by omega)
        have hpf := HFR.out (k - 1) (by omega)
        have g3 : decide ((0 : Int) < k) = true := decide_eq_true (by omega)
        clear hc hx
        generalize geti xs (k - 1) = p at *
        generalize geti xs k = x at *
        cases g1 : decide (x < first)
        · cases g2 : decide ((s.size : Int) ≤ x)
          · cases g4 : decide (x ≤ p)
            · have h1 := of_decide_eq_false g1
              have h2 := of_decide_eq_false g2
              have h4 := of_decide_eq_false g4
              go_wp2
              go_quiet (fail)
              go_wp2
              go_roundw
              case rel =>
                refine ⟨k + 1, q + nq, by omega, by go_num, by first | rfl | exact World.drewN_drewN _ _ _, fun j hj => ?_⟩
                by_cases e : j = k
                · subst e; rw [HY.out]; omega
                · exact HOK.out j (by omega)
              case measure => simp [intOf]; omega
            · have h4 := of_decide_eq_true g4
              have HB := Lib.hid (HN.out (by rw [HY.out]; omega))
              go_wp2
              go_quiet (fail)
              go_wp2
              go_ret
              exact ⟨ret_bool HB.out.symm, _, by first | rfl | exact World.drewN_drewN _ _ _⟩
          · have h2 := of_decide_eq_true g2
            have HB := Lib.hid (HN.out (by rw [HY.out]; omega))
            go_wp2
            go_quiet (fail)
            go_wp2
            go_ret
            exact ⟨ret_bool HB.out.symm, _, by first | rfl | exact World.drewN_drewN _ _ _⟩
        · have h1 := of_decide_eq_true g1
          have HB := Lib.hid (HN.out (by rw [HY.out]; omega))
          go_wp2
          go_quiet (fail)
          go_wp2
          go_ret
          exact ⟨ret_bool HB.out.symm, _, by first | rfl | exact World.drewN_drewN _ _ _⟩
    · obtain rfl : k = xs.length := by omega
      have HB := Lib.hid (show cutV first s.size xs = true from decide_eq_true HOK.out)
      go_wp2
      go_ret
      exact ⟨ret_bool HB.out.symm, _, rfl⟩
end Go.Proofs.Ytopeppnajbnfgaa
