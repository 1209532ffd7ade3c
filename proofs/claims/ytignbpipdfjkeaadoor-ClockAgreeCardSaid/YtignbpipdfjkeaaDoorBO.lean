/- The reference's sets and words. -/
import Derived.Test.YtignbpipdfjkeaaDoorBK
namespace Go.Proofs.YtignbpipdfjkeaaDoor
open Go.RowKit Go.PlainAid
set_option maxHeartbeats 2000000
set_option maxRecDepth 100000
theorem refSet_any (A B : Option Addr) (c d : Nat) (L : List (List Int)) (l : List Int) (w : World) (h : IsMI L) (ha : RowsAt w A L) (hb : IntsAt w B l) (hl : l.length ≤ 1000) :
    Calls Tryd.prog 33 #[.slice A L.length c, .slice B l.length d] w fun e w' => e = .returned (.bool (okS (nS L) l)) ∧ ∃ n, w' = w.drewN n := by
  have hn9 := h.n9
  obtain ⟨bA, oA, hA, hbA, hcA⟩ := ha h.k1
  subst hA
  obtain ⟨B0, c0, d0, -⟩ := hcA 0 h.k1
  rw [show (getl L 0).length = nS L from rfl, Nat.add_zero] at d0
  have HC : Hid (∀ k, k < l.length → ∃ b o, B = some ⟨b, o, none⟩ ∧ ∀ i, i < l.length → w.cell? ⟨b, o + i, none⟩ = some (.int .i64 (geti l i))) := Lib.hid (fun k hk => by
    obtain ⟨b, o, e, -, hc⟩ := hb (by omega)
    exact ⟨b, o, e, hc⟩)
  have HNO := Lib.hid (fun i (hi : i < l.length) => okS_no (n := nS L) hi)
  have HYES := Lib.hid (okS_yes (n := nS L) (l := l))
  have HG0 : Hid (∀ i, i < 0 → goodA (nS L) l i = true) := Lib.hid (fun i hi => absurd hi (Nat.not_lt_zero i))
  have hk1 := h.k1
  clear ha hb hcA h
  generalize nS L = n at *
  go_enter Tryd.func33, Tryd.ntmps33
  go_wp2
  go_loopw [5] (fun i wr => ∃ k m : Nat, i = .int .i64 k ∧ k ≤ l.length ∧ wr = w.drewN m ∧ Hid (∀ i, i < k → goodA n l i = true)) (fun i _ => l.length - (intOf i).toNat)
  case atStart => exact ⟨0, 0, rfl, by omega, rfl, HG0⟩
  case round =>
    clear HG0
    obtain ⟨k, m, rfl, hk, rfl, HG⟩ := hrel
    by_cases hlt : k < l.length
    · have g1 : decide (k < l.length) = true := decide_eq_true hlt
      obtain ⟨bB, oB, rfl, hcB⟩ := HC.out k hlt
      have HN1 := Lib.hid (HNO.out k hlt)
      have HGA : Hid (goodA n l k = (!decide (geti l k ≤ preB l k) && isQ n (geti l k))) := Lib.hid rfl
      have HGK : Hid (goodA n l k = true → ∀ i, i < k + 1 → goodA n l i = true) := Lib.hid (fun hg i hi => by
        rcases Nat.lt_or_ge i k with h | h
        · exact HG.out i h
        · rw [show i = k by omega]; exact hg)
      have cx := hcB k hlt
      have HCB := Lib.hid hcB
      have HX : Hid (isQ n (geti l k) = (decide (0 ≤ geti l k) && decide (geti l k < n))) := Lib.hid rfl
      obtain ⟨x, hx⟩ : ∃ x, geti l k = x := ⟨_, rfl⟩
      rw [hx] at HGA cx HX
      clear hx hcB
      by_cases h1 : x < 0
      · have g2 : decide (x < 0) = true := decide_eq_true h1
        have hno := Lib.hid (HN1.out (by rw [HGA.out, HX.out, decide_eq_false (show ¬ 0 ≤ x by omega), Bool.false_and, Bool.and_false]))
        clear HN1 HGA HGK HG HX h1 HNO HYES
        go_wp2
        refine wp_region_quiet_lit (by kernel_rfl) (by kernel_rfl) ?_
        repeat go_big_quiet_step ((fail))
        refine wpQuiet_nil ?_
        rintro _ ⟨nq, rfl⟩
        go_wp2
        go_ret
        exact ⟨ret_bool hno.out.symm, m + nq, (by first | rfl | exact World.drewN_drewN _ _ _)⟩
      · have g2 : decide (x < 0) = false := decide_eq_false h1
        by_cases h2 : (n : Int) ≤ x
        · have g3 : decide ((n : Int) ≤ x) = true := decide_eq_true h2
          have hno := Lib.hid (HN1.out (by rw [HGA.out, HX.out, decide_eq_false (show ¬ x < (n : Int) by omega), Bool.and_false, Bool.and_false]))
          clear HN1 HGA HGK HG HX h1 HNO HYES h2
          go_wp2
          refine wp_region_quiet_lit (by kernel_rfl) (by kernel_rfl) ?_
          repeat go_big_quiet_step ((fail))
          refine wpQuiet_nil ?_
          rintro _ ⟨nq, rfl⟩
          go_wp2
          go_ret
          exact ⟨ret_bool hno.out.symm, m + nq, (by first | rfl | exact World.drewN_drewN _ _ _)⟩
        · have g3 : decide ((n : Int) ≤ x) = false := decide_eq_false h2
          cases k with
          | zero =>
            rw [Nat.add_zero] at cx
            have HG2 := Lib.hid (HGK.out (by rw [HGA.out, HX.out, preB_zero, decide_eq_false (show ¬ x ≤ -1 by omega), decide_eq_true (show 0 ≤ x by omega), decide_eq_true (show x < (n : Int) by omega)]; rfl))
            clear HN1 HGA HGK HG HX h1 HNO h2
            go_wp2
            refine wp_region_quiet_lit (by kernel_rfl) (by kernel_rfl) ?_
            repeat go_big_quiet_step ((fail))
            refine wpQuiet_nil ?_
            rintro _ ⟨nq, rfl⟩
            go_wp2
            go_roundw
            case rel => exact ⟨1, m + nq, by go_num, by omega, (by first | rfl | exact World.drewN_drewN _ _ _), HG2⟩
            case measure => simp [intOf]; omega
          | succ j =>
            have cp := HCB.out j (by omega)
            rw [preB_succ] at HGA
            obtain ⟨p, hp⟩ : ∃ p, geti l j = p := ⟨_, rfl⟩
            rw [hp] at HGA cp
            clear hp
            have g0 : decide ((0 : Int) < (j : Int) + 1) = true := decide_eq_true (by omega)
            have e1 : ((j : Int) + 1 - 1).toNat = j := by omega
            have e2 : IntKind.i64.wrap ((j : Int) + 1 - 1) = j := by rw [show (j : Int) + 1 - 1 = j by omega]; exact IntWalk.i64_in _ (by omega)
            by_cases h3 : x ≤ p
            · have g4 : decide (x ≤ p) = true := decide_eq_true h3
              have hno := Lib.hid (HN1.out (by rw [HGA.out, g4]; rfl))
              clear HN1 HGA HGK HG HX h1 HNO HYES h2 h3
              go_wp2
              refine wp_region_quiet_lit (by kernel_rfl) (by kernel_rfl) ?_
              repeat go_big_quiet_step ((fail))
              refine wpQuiet_nil ?_
              rintro _ ⟨nq, rfl⟩
              go_wp2
              go_ret
              exact ⟨ret_bool hno.out.symm, m + nq, (by first | rfl | exact World.drewN_drewN _ _ _)⟩
            · have g4 : decide (x ≤ p) = false := decide_eq_false h3
              have HG2 := Lib.hid (HGK.out (by rw [HGA.out, HX.out, g4, decide_eq_true (show 0 ≤ x by omega), decide_eq_true (show x < (n : Int) by omega)]; rfl))
              clear HN1 HGA HGK HG HX h1 HNO h2 h3
              go_wp2
              refine wp_region_quiet_lit (by kernel_rfl) (by kernel_rfl) ?_
              repeat go_big_quiet_step ((fail))
              refine wpQuiet_nil ?_
              rintro _ ⟨nq, rfl⟩
              go_wp2
              go_roundw
              case rel => exact ⟨j + 1 + 1, m + nq, by go_num, by omega, (by first | rfl | exact World.drewN_drewN _ _ _), HG2⟩
              case measure => simp [intOf]; omega
    · obtain rfl : k = l.length := by omega
      have g1 : decide (l.length < l.length) = false := decide_eq_false hlt
      have hy := Lib.hid (HYES.out HG.out)
      go_wp2
      go_ret
      exact ⟨ret_bool hy.out.symm, m, rfl⟩
end Go.Proofs.YtignbpipdfjkeaaDoor
