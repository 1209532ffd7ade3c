/- The reference's search for the greatest exponent. -/
import Derived.Test.YtoklnpiehbnalaaAN
namespace Go.Proofs.Ytoklnpiehbnalaa
open Go.RowKit Go.PlainAid
set_option maxHeartbeats 2000000
set_option maxRecDepth 100000
theorem refGreatest_any (x : List Nat) (w : World) (hx : okW x) (h1 : 1 ≤ x.length) (hl : x.length ≤ 120) :
    Calls Try.prog 32 #[.string (wS x)] w fun e w' => e = .returned (.tuple #[.int .i64 (grT x).1, .int .i64 (grT x).2.1, .int .i64 (grT x).2.2]) ∧ ∃ n, w' = w.drewN n := by
  have HEQ : Hid (∀ a n p, a + n ≤ x.length → p ≤ n → (((wS x).extract (a + p) (a + n)).toList == ((wS x).extract a (a + n - p)).toList) = perP (sub x a n) p) := Lib.hid (fun a n p h2 h3 => by
    rw [wS_extract, wS_extract, wS_beq (okW_sub hx _ _) (okW_sub hx _ _)]
    unfold perP
    rw [sub_len, Nat.min_eq_left (by omega), sub_sub x (by omega), sub_sub x (by omega), show a + n - (a + p) = n - p by omega, show a + n - p - a = n - p by omega, Nat.add_zero])
  have HE := Lib.hid (fun a n p q h1 h2 h3 h4 => @mper_eq (sub x a n) p q h1 h2 h3 h4)
  have HSL : Hid (∀ a n, a + n ≤ x.length → (sub x a n).length = n) := Lib.hid (fun a n h => by rw [sub_len]; omega)
  have HPL : Hid (∀ a n, a + n ≤ x.length → perP (sub x a n) n = true) := Lib.hid (fun a n h => by
    have := per_len (sub x a n)
    rw [sub_len, Nat.min_eq_left (by omega)] at this
    exact this)
  have HP : Hid (∀ a n, a + n ≤ x.length → 1 ≤ rowP x a n ∧ rowP x a n ≤ max 1 n) := Lib.hid (fun a n h => rowP_le x a n h)
  have HRP : Hid (∀ a n, 1 ≤ n → rowP x a n = mper (sub x a n) (rowP x a (n - 1))) := Lib.hid (fun a n h => by
    obtain ⟨n, rfl⟩ : ∃ m, n = m + 1 := ⟨n - 1, by omega⟩
    rfl)
  have HFR : Hid (∀ a b n, FitB b 120 → a + n ≤ x.length → FitB (bstR x a b n) 120) := Lib.hid (fun a b n h h2 => bstR_fit h hl n h2)
  have HFA : Hid (∀ a, a ≤ x.length → FitB (bstA x (1, 1, 0) a) 120) := Lib.hid (fun a h => bstA_fit ⟨by decide, by decide, by decide, by decide⟩ hl a h)
  have HRS : Hid (∀ a b n, 1 ≤ n → bstR x a b n = bst (bstR x a b (n - 1)) n (rowP x a n) a) := Lib.hid (fun a b n h => by
    obtain ⟨n, rfl⟩ : ∃ m, n = m + 1 := ⟨n - 1, by omega⟩
    rfl)
  have HAS : Hid (∀ a, bstA x (1, 1, 0) (a + 1) = bstR x a (bstA x (1, 1, 0) a) (x.length - a)) := Lib.hid (fun a => rfl)
  have HG : Hid (bstA x (1, 1, 0) x.length = grT x) := Lib.hid (grT_ref h1).symm
  have hz := wS_len x
  obtain ⟨N, hN⟩ : ∃ N, x.length = N := ⟨_, rfl⟩
  rw [hN] at hz hl HEQ HSL HPL HP HFR HFA HAS HG h1
  generalize wS x = s at *
  subst hz
  clear hN hx
  go_enter Try.func32, Try.ntmps32
  go_wp2
  go_loopw [5, 6, 7, 8] (fun l p q i wr => ∃ a m : Nat, i = .int .i64 a ∧ a ≤ s.size ∧ l = .int .i64 (bstA x (1, 1, 0) a).1 ∧ p = .int .i64 (bstA x (1, 1, 0) a).2.1 ∧ q = .int .i64 (bstA x (1, 1, 0) a).2.2 ∧ wr = w.drewN m) (fun _ _ _ i _ => s.size - (intOf i).toNat)
  case atStart => exact ⟨0, 0, rfl, by omega, rfl, rfl, rfl, rfl⟩
  case round =>
    obtain ⟨a, m, rfl, ha, rfl, rfl, rfl, rfl⟩ := hrel
    by_cases hlt : a < s.size
    · have g1 : decide (a < s.size) = true := decide_eq_true hlt
      have HEQ1 := Lib.hid (HEQ.out a)
      have HE1 := Lib.hid (HE.out a)
      have HSL1 := Lib.hid (HSL.out a)
      have HPL1 := Lib.hid (HPL.out a)
      have HP1 := Lib.hid (HP.out a)
      have HRP1 := Lib.hid (HRP.out a)
      have HFR1 := Lib.hid (fun n => HFR.out a (bstA x (1, 1, 0) a) n (HFA.out a ha))
      have HRS1 := Lib.hid (HRS.out a (bstA x (1, 1, 0) a))
      have HAS1 := Lib.hid (HAS.out a)
      have HR0 : Hid (bstR x a (bstA x (1, 1, 0) a) (1 - 1) = bstA x (1, 1, 0) a) := Lib.hid rfl
      have HP0 : Hid (rowP x a (1 - 1) = 1) := Lib.hid rfl
      clear HEQ HE HSL HPL HP HRP HFR HFA HRS HAS HG
      generalize bstA x (1, 1, 0) a = b at *
      have e1 : Value.int .i64 (b.1 : Nat) = .int .i64 ((bstR x a b (1 - 1)).1 : Nat) := by rw [HR0.out]
      have e2 : Value.int .i64 (b.2.1 : Nat) = .int .i64 ((bstR x a b (1 - 1)).2.1 : Nat) := by rw [HR0.out]
      have e3 : Value.int .i64 (b.2.2 : Nat) = .int .i64 ((bstR x a b (1 - 1)).2.2 : Nat) := by rw [HR0.out]
      have e4 : Value.int .i64 1 = .int .i64 ((rowP x a (1 - 1)) : Nat) := by rw [HP0.out]; rfl
      have E1 := Lib.hid e1
      have E2 := Lib.hid e2
      have E3 := Lib.hid e3
      have E4 := Lib.hid e4
      clear e1 e2 e3 e4 HR0 HP0
      go_wp2
      go_loopw [5, 6, 7, 9, 10] (fun l p q r i wr => ∃ n m : Nat, i = .int .i64 n ∧ 1 ≤ n ∧ a + n ≤ s.size + 1 ∧ r = .int .i64 (rowP x a (n - 1) : Nat) ∧ l = .int .i64 (bstR x a b (n - 1)).1 ∧ p = .int .i64 (bstR x a b (n - 1)).2.1 ∧ q = .int .i64 (bstR x a b (n - 1)).2.2 ∧ wr = w.drewN m) (fun _ _ _ _ i _ => s.size + 1 - (intOf i).toNat)
      case atStart => exact ⟨1, m, rfl, by omega, by omega, E4.out, E1.out, E2.out, E3.out, rfl⟩
      case round =>
        clear E1 E2 E3 E4
        obtain ⟨n, m, rfl, hn1, hn2, rfl, rfl, rfl, rfl, rfl⟩ := hrel
        by_cases hle : a + n ≤ s.size
        · have g2 : decide ((a : Int) + (n : Int) ≤ (s.size : Int)) = true := decide_eq_true (by omega)
          have g2' : decide (a + n ≤ s.size) = true := decide_eq_true hle
          have hfit := HFR1.out (n - 1) (by omega)
          obtain ⟨hp1, hp2⟩ := HP1.out (n - 1) (by omega)
          have hp3 : rowP x a (n - 1) ≤ n := by omega
          have HEQ2 := Lib.hid (fun p h => HEQ1.out n p hle h)
          have HE2 := Lib.hid (HE1.out n)
          have HPL2 := Lib.hid (HPL1.out n hle)
          have HSL2 := Lib.hid (HSL1.out n hle)
          have HRP2 := Lib.hid (HRP1.out n hn1)
          have HRS2 := Lib.hid (HRS1.out n hn1)
          clear HEQ1 HE1 HSL1 HPL1 HP1 HRP1 HFR1 HRS1 HAS1 hp2
          generalize rowP x a (n - 1) = P0 at *
          generalize hy : sub x a n = y at *
          have HY := Lib.hid hy
          clear hy
          have HQ0 : Hid (∀ r, P0 ≤ r → r < P0 → perP y r = false) := Lib.hid (fun r h1 h2 => absurd h2 (by omega))
          generalize bstR x a b (n - 1) = B0 at *
          obtain ⟨N, D, A⟩ := B0
          obtain ⟨hN, hD1, hD, hA⟩ := hfit
          have hN' : N ≤ 120 := hN
          have hD1' : 1 ≤ D := hD1
          have hD' : D ≤ 120 := hD
          clear hN hD1 hD hA
          go_wp2
          go_loopw [9] (fun r wr => ∃ p m : Nat, r = .int .i64 p ∧ P0 ≤ p ∧ p ≤ n ∧ wr = w.drewN m ∧ Hid (∀ r, P0 ≤ r → r < p → perP y r = false)) (fun r _ => n - (intOf r).toNat)
          case atStart => exact ⟨P0, m, rfl, by omega, hp3, rfl, HQ0⟩
          case round =>
            clear HQ0
            obtain ⟨p, m, rfl, hpp, hpn, rfl, HQ⟩ := hrel
            have he := HEQ2.out p hpn
            have hap : a + p ≤ s.size := by omega
            have hap2 : a + p ≤ a + n := by omega
            cases hb : perP y p
            · have hlt : p < n := by
                rcases Nat.lt_or_ge p n with h | h
                · exact h
                · obtain rfl : p = n := by omega
                  rw [HPL2.out] at hb; cases hb
              have HQ2 : Hid (∀ r, P0 ≤ r → r < p + 1 → perP y r = false) := Lib.hid (fun r h1 h2 => by
                rcases Nat.lt_or_ge r p with h | h
                · exact HQ.out r h1 h
                · rw [show r = p by omega]; exact hb)
              rw [hb] at he
              clear HQ hb HEQ2 HE2 HPL2 HSL2 HRP2 HRS2
              go_wp2
              go_quiet (fail)
              go_wp2
              go_roundw
              case rel => exact ⟨p + 1, m + nq, by go_num, by omega, by omega, (by first | rfl | exact World.drewN_drewN _ _ _), HQ2⟩
              case measure => simp [intOf]; omega
            · have HM : Hid (rowP x a n = p) := Lib.hid (by
                rw [HRP2.out]
                exact HE2.out P0 p hpp (by rw [HSL2.out]; exact hpn) HQ.out hb)
              rw [HM.out] at HRS2
              rw [hb] at he
              clear HQ hb HEQ2 HE2 HPL2 HSL2 HRP2
              obtain ⟨q1a, q1b⟩ := prod_le (a := N) (b := p) (l := 120) (m := 120) hN' (by omega) (by decide)
              obtain ⟨q2a, q2b⟩ := prod_le (a := n) (b := D) (l := 120) (m := 120) (by omega) hD' (by decide)
              by_cases hc : N * p < n * D
              · have g3 : decide ((N : Int) * (p : Int) < (n : Int) * (D : Int)) = true := decide_eq_true (prod_lt.2 hc)
                have HB : Hid (bstR x a b n = (n, p, a)) := Lib.hid (by rw [HRS2.out]; exact bst_yes (b := (N, D, A)) hc)
                clear hc HRS2
                go_wp2
                go_quiet (fail)
                go_wp2
                go_roundw
                case rel => exact ⟨n + 1, m + nq, by go_num, by omega, by omega, by rw [Nat.add_sub_cancel, HM.out], by rw [Nat.add_sub_cancel, HB.out], by rw [Nat.add_sub_cancel, HB.out], by rw [Nat.add_sub_cancel, HB.out], (by first | rfl | exact World.drewN_drewN _ _ _)⟩
                case measure => simp [intOf]; omega
              · have g3 : decide ((N : Int) * (p : Int) < (n : Int) * (D : Int)) = false := decide_eq_false (fun h => hc (prod_lt.1 h))
                have HB : Hid (bstR x a b n = (N, D, A)) := Lib.hid (by rw [HRS2.out]; exact bst_no (b := (N, D, A)) hc)
                clear hc HRS2
                go_wp2
                go_quiet (fail)
                go_wp2
                go_roundw
                case rel => exact ⟨n + 1, m + nq, by go_num, by omega, by omega, by rw [Nat.add_sub_cancel, HM.out], by rw [Nat.add_sub_cancel, HB.out], by rw [Nat.add_sub_cancel, HB.out], by rw [Nat.add_sub_cancel, HB.out], (by first | rfl | exact World.drewN_drewN _ _ _)⟩
                case measure => simp [intOf]; omega
        · have g2 : decide ((a : Int) + (n : Int) ≤ (s.size : Int)) = false := decide_eq_false (by omega)
          have g2' : decide (a + n ≤ s.size) = false := decide_eq_false hle
          have HB : Hid (bstA x (1, 1, 0) (a + 1) = bstR x a b (n - 1)) := Lib.hid (by rw [HAS1.out, show n - 1 = s.size - a by omega])
          clear HEQ1 HE1 HSL1 HPL1 HP1 HRP1 HFR1 HRS1 HAS1
          generalize bstR x a b (n - 1) = B0 at *
          generalize rowP x a (n - 1) = P0 at *
          go_wp2
          go_roundw
          case rel => exact ⟨a + 1, m, by go_num, by omega, by rw [HB.out], by rw [HB.out], by rw [HB.out], rfl⟩
          case measure => simp [intOf]; omega
    · obtain rfl : a = s.size := by omega
      have g1 : decide (s.size < s.size) = false := decide_eq_false hlt
      clear HEQ HE HSL HPL HP HRP HFR HFA HRS HAS
      have HGG : Hid (bstA x (1, 1, 0) s.size = grT x) := Lib.hid HG.out
      clear HG
      generalize bstA x (1, 1, 0) s.size = b at *
      go_wp2
      exact bodyPost_ret (v := .tuple #[.int .i64 b.1, .int .i64 b.2.1, .int .i64 b.2.2]) (by simp [results, Try.results32, go_sem]) rfl ⟨by rw [HGG.out], m, rfl⟩
end Go.Proofs.Ytoklnpiehbnalaa
