/- OrderSums, walked. -/
import Derived.Test.YtheblebfeinjjaaOA
import Derived.Test.YtheblebfeinjjaaNY
namespace Go.Proofs.Ytheblebfeinjjaa
open Go.RowKit
set_option maxHeartbeats 1000000
set_option maxRecDepth 100000
theorem Factorial_any (n : Nat) (w : World) (hn : n ≤ 18) : Calls Try.prog 44 #[.int .i64 n] w fun e w' => e = .returned (.int .i64 (facN n : Nat)) ∧ w = w' := by
  have HB : Hid (∀ k : Nat, 1 ≤ k → k ≤ 18 → ((facN (k - 1) : Nat) : Int) * k = (facN k : Nat) ∧ 0 ≤ ((facN (k - 1) : Nat) : Int) * k ∧ ((facN (k - 1) : Nat) : Int) * k ≤ 6402373705728000) := Lib.hid (fun k h1 h2 => by
    obtain ⟨i, rfl⟩ : ∃ i, k = i + 1 := ⟨k - 1, by omega⟩
    have h := facN_le h2
    have e : facN (i + 1) = (i + 1) * facN i := rfl
    have e2 : ((facN (i + 1 - 1) : Nat) : Int) * ((i + 1 : Nat) : Int) = (facN (i + 1) : Nat) := by
      rw [Nat.add_sub_cancel, ← Int.natCast_mul, e, Nat.mul_comm]
    refine ⟨e2, ?_, ?_⟩ <;> rw [e2] <;> omega)
  by_cases h2 : n < 2
  · have g1 : decide ((2 : Int) ≤ n) = false := decide_eq_false (by omega)
    have hv : facN n = 1 := by
      obtain rfl | rfl : n = 0 ∨ n = 1 := by omega
      · rfl
      · rfl
    rw [hv]
    go_enter Try.func44, Try.ntmps44
    go_wp2
    go_loopw [3, 4] (fun o i wr => o = .int .i64 1 ∧ i = .int .i64 2 ∧ w = wr) (fun _ _ _ => 0)
    case atStart => exact ⟨rfl, rfl, rfl⟩
    case round =>
      obtain ⟨rfl, rfl, rfl⟩ := hrel
      go_wp2
      go_ret
      exact ⟨rfl, rfl⟩
  · have e1 : facN 1 = 1 := rfl
    go_enter Try.func44, Try.ntmps44
    go_wp2
    go_loopw [3, 4] (fun o i wr => ∃ k : Nat, 2 ≤ k ∧ k ≤ n + 1 ∧ i = .int .i64 k ∧ o = .int .i64 (facN (k - 1) : Nat) ∧ w = wr) (fun _ i _ => n + 1 - (intOf i).toNat)
    case atStart => exact ⟨2, by omega, by omega, rfl, by rw [show (2 : Nat) - 1 = 1 from rfl, e1]; rfl, rfl⟩
    case round =>
      obtain ⟨k, hk2, hk, rfl, rfl, rfl⟩ := hrel
      by_cases hlt : k ≤ n
      · obtain ⟨f1, f2, f3⟩ := HB.out k (by omega) (by omega)
        have HF := Lib.hid f1
        generalize facN (k - 1) = f at *
        clear f1
        go_wp2
        go_roundw
        case rel => exact ⟨k + 1, by omega, by omega, by go_num, by rw [Nat.add_sub_cancel, ← HF.out], by first | rfl | trivial⟩
        case measure => simp [intOf]; omega
      · obtain rfl : k = n + 1 := by omega
        rw [Nat.add_sub_cancel]
        go_wp2
        go_ret
        exact ⟨rfl, rfl⟩
theorem cv4 : cntV mC 1 1 = .tuple #[.int .i64 1, .int .i64 0] := by
  have h := cntV_ok (m := mC) (a := 1) (b := 1) (by omega)
  rw [show getn (rowN mC 1) 1 = 1 by decide +kernel] at h; exact h
theorem cv5 : cntV mC 2 2 = .tuple #[.int .i64 1, .int .i64 0] := by
  have h := cntV_ok (m := mC) (a := 2) (b := 2) (by omega)
  rw [show getn (rowN mC 2) 2 = 1 by decide +kernel] at h; exact h
def smZ (Z : List Nat) (j : Nat) : Nat := (Z.take j).sum
theorem OrderSums_any (n k : Int) (w : World) : Calls Try.prog 13 #[.int .i64 n, .int .i64 k] w fun e w' => e = .returned (.bool true) ∧ Below w.heap.size w w' := by
  have hm0 := modI_lt n (show 0 < 18 by omega)
  obtain ⟨N, hN⟩ : ∃ N : Nat, N = modI n 18 + 1 := ⟨_, rfl⟩
  have hN2 : (1 : Int) + (modI n 18 : Nat) = (N : Int) := by omega
  have HM1 := Lib.hid (mod_any n 18 w (by omega) (by omega))
  generalize modI n 18 = m0 at *
  have hNr : 1 ≤ N ∧ N ≤ 18 := by omega
  clear hN
  have hpr : ((N : Int) * ((N : Int) - 1)).tdiv 2 = (tri N : Nat) ∧ 0 ≤ (N : Int) * ((N : Int) - 1) ∧ (N : Int) * ((N : Int) - 1) ≤ 306 := by
    have : ∀ N : Nat, N < 19 → 1 ≤ N → ((N : Int) * ((N : Int) - 1)).tdiv 2 = (tri N : Nat) ∧ 0 ≤ (N : Int) * ((N : Int) - 1) ∧ (N : Int) * ((N : Int) - 1) ≤ 306 := by decide +kernel
    exact this N (by omega) hNr.1
  obtain ⟨p1, p2, p3⟩ := hpr
  have htr := tri_le hNr.2
  obtain ⟨hN1, hN18⟩ := hNr
  go_enter Try.func13, Try.ntmps13
  go_wp2_with (go_at_call 48; refine HM1.out.mono ?_; rintro e w1 ⟨rfl, rfl⟩)
  have HRI := Lib.hid (rowN_facts growI rfl N hN18)
  have HRD := Lib.hid (rowN_facts growD rfl N hN18)
  have HRC := Lib.hid (rowN_facts growC rfl N hN18)
  have HSI := Lib.hid (rowI_sym N hN18)
  have HSD := Lib.hid (fun k (hk : k < N) => rowD_sym hN18 hk)
  have HFC := Lib.hid (facN_le hN18)
  have HFA := Lib.hid (fun w => Factorial_any N w hN18)
  have HCI : Hid (∀ (j : Nat) (w : World), Calls Try.prog 37 #[.int .i64 N, .int .i64 j] w fun e w' => e = .returned (.tuple #[.int .i64 (getn (rowN mI N) j : Nat), .int .i64 0]) ∧ Below w.heap.size w w') := Lib.hid (fun j w => cntV_ok (m := mI) hN18 ▸ Inversions_any N j w)
  have HCD : Hid (∀ (j : Nat) (w : World), Calls Try.prog 38 #[.int .i64 N, .int .i64 j] w fun e w' => e = .returned (.tuple #[.int .i64 (getn (rowN mD N) j : Nat), .int .i64 0]) ∧ Below w.heap.size w w') := Lib.hid (fun j w => cntV_ok (m := mD) hN18 ▸ Descents_any N j w)
  have HCC : Hid (∀ (j : Nat) (w : World), Calls Try.prog 39 #[.int .i64 N, .int .i64 j] w fun e w' => e = .returned (.tuple #[.int .i64 (getn (rowN mC N) j : Nat), .int .i64 0]) ∧ Below w.heap.size w w') := Lib.hid (fun j w => cntV_ok (m := mC) hN18 ▸ CyclesOf_any N j w)
  have HST : Hid (∀ (Z : List Nat) (s j : Nat), InF s Z (facN N) → j < 154 → smZ Z (j + 1) = smZ Z j + getn Z j ∧ smZ Z j + getn Z j ≤ 6402373705728000) := Lib.hid (fun Z s j hZ hj => by
    have h1 := sum_take (Z := Z) (k := j) (by rw [hZ.len]; exact hj)
    have h2 := sum_take_le (Z := Z) (k := j + 1)
    rw [hZ.sum] at h2
    have := HFC.out
    refine ⟨h1, ?_⟩
    unfold smZ
    omega)
  have HZ0 : Hid (∀ Z : List Nat, smZ Z 0 = 0) := Lib.hid (fun Z => rfl)
  clear p1 p2 p3
  obtain ⟨T, hT⟩ : ∃ T, tri N = T := ⟨_, rfl⟩
  rw [hT]
  rw [hT] at htr HRI HRD HSI
  have HT := Lib.hid hT
  clear hT
  have b0 : Below w.heap.size w w := Below.refl _ _
  generalize rowN mI N = RI at *
  generalize rowN mD N = RD at *
  generalize hRC : rowN mC N = RC at *
  have HRCe := Lib.hid hRC
  clear hRC
  go_loopw [6, 7, 8, 9] (fun a b c i wr => ∃ j : Nat, j ≤ T + 1 ∧ i = .int .i64 j ∧ a = .int .i64 (smZ RI j : Nat) ∧ b = .int .i64 (smZ RD j : Nat) ∧ c = .int .i64 (smZ RC j : Nat) ∧ Below w.heap.size w wr) (fun _ _ _ i _ => T + 1 - (intOf i).toNat)
  case atStart => exact ⟨0, by omega, rfl, by rw [HZ0.out]; rfl, by rw [HZ0.out]; rfl, by rw [HZ0.out]; rfl, b0⟩
  case round =>
    clear b0
    obtain ⟨j, hj, rfl, rfl, rfl, rfl, b0⟩ := hrel
    by_cases hlt : j ≤ T
    · obtain ⟨a1, a2⟩ := HST.out RI _ j HRI.out (by omega)
      obtain ⟨a3, a4⟩ := HST.out RD _ j HRD.out (by omega)
      obtain ⟨a5, a6⟩ := HST.out RC _ j HRC.out (by omega)
      have A1 := Lib.hid a1
      have A3 := Lib.hid a3
      have A5 := Lib.hid a5
      have C1 := Lib.hid (HCI.out j)
      have C2 := Lib.hid (HCD.out j)
      have C3 := Lib.hid (HCC.out j)
      clear a1 a3 a5
      generalize getn RI j = x at *
      generalize getn RD j = y at *
      generalize getn RC j = z at *
      generalize smZ RI j = a at *
      generalize smZ RD j = b at *
      generalize smZ RC j = c at *
      go_wp2_with (first
        | (go_at_call 37; refine (C1.out _).mono ?_; rintro e w1 ⟨rfl, b1⟩; replace b0 := b0.trans (b1.mono b0.size); clear b1)
        | (go_at_call 38; refine (C2.out _).mono ?_; rintro e w2 ⟨rfl, b1⟩; replace b0 := b0.trans (b1.mono b0.size); clear b1)
        | (go_at_call 39; refine (C3.out _).mono ?_; rintro e w3 ⟨rfl, b1⟩; replace b0 := b0.trans (b1.mono b0.size); clear b1))
      go_roundw
      case rel => exact ⟨j + 1, by omega, by go_num, by rw [A1.out]; go_num, by rw [A3.out]; go_num, by rw [A5.out]; go_num, b0⟩
      case measure => simp [intOf]; omega
    · obtain rfl : j = T + 1 := by omega
      clear HST HZ0
      have hI : smZ RI (T + 1) = facN N := (take_all HRI.out.sup (by omega)).trans HRI.out.sum
      have hD : smZ RD (T + 1) = facN N := (take_all HRD.out.sup (by omega)).trans HRD.out.sum
      rw [hI, hD]
      clear hI hD
      by_cases h1 : N = 1
      · have hT0 : T = 0 := by rw [← HT.out, h1]; rfl
        have hF1 : facN N = 1 := by rw [h1]; rfl
        have hC1 : smZ RC (T + 1) = 0 := by rw [← HRCe.out, h1, hT0]; decide +kernel
        have g1 : ((N : Int) == 1) = true := by rw [h1]; rfl
        have CC1 := Lib.hid (fun w => cv4 ▸ CyclesOf_any 1 1 w)
        rw [hF1, hC1]
        clear hF1 hC1 h1 hT0 HCI HCD HCC HRI HRD HRC HSI HSD HFC HFA HRCe HT
        go_wp2_with (first
          | (go_at_call 39; refine (CC1.out _).mono ?_; rintro e w3 ⟨rfl, b1⟩; replace b0 := b0.trans (b1.mono b0.size); clear b1)
          | (go_at_call 21; refine (awake_any _).mono ?_; rintro e w5 ⟨rfl, b1⟩; replace b0 := b0.trans (b1.mono b0.size); clear b1))
        go_ret
        exact ⟨rfl, b0⟩
      · have g1 : ((N : Int) == 1) = false := by simp; omega
        have CC2 := Lib.hid (fun w => cv5 ▸ CyclesOf_any 2 2 w)
        by_cases h2 : N = 2
        · have g2 : ((N : Int) == 2) = true := by rw [h2]; rfl
          have hT1 : T = 1 := by rw [← HT.out, h2]; rfl
          have hF2 : facN N = 2 := by rw [h2]; rfl
          have hC2 : smZ RC (T + 1) = 1 := by rw [← HRCe.out, h2, hT1]; decide +kernel
          rw [hC2, hF2]
          rw [hF2] at HFA HFC
          clear hC2 h2 h1 hF2 hT1
          obtain ⟨K, hK⟩ : ∃ K, modI k (T + 1) = K := ⟨_, rfl⟩
          have hKT : K ≤ T := by have := modI_lt k (show 0 < T + 1 by omega); omega
          have HM2 : Hid (∀ w : World, Calls Try.prog 48 #[.int .i64 k, .int .i64 ((T : Int) + 1)] w fun e w' => e = .returned (.int .i64 (K : Nat)) ∧ w = w') := Lib.hid (fun w => by
            have h := mod_any k (T + 1) w (by omega) (by omega)
            rw [Int.natCast_add, Int.natCast_one, hK] at h
            exact h)
          clear hK
          obtain ⟨J, hJ⟩ : ∃ J, modI (K : Int) N = J := ⟨_, rfl⟩
          have hJN : J < N := by have := modI_lt (K : Int) (show 0 < N by omega); omega
          have HM3 : Hid (∀ w : World, Calls Try.prog 48 #[.int .i64 (K : Nat), .int .i64 (N : Nat)] w fun e w' => e = .returned (.int .i64 (J : Nat)) ∧ w = w') := Lib.hid (fun w => by
            have h := mod_any (K : Int) N w (by omega) (by omega)
            rw [hJ] at h
            exact h)
          clear hJ
          obtain ⟨D, hD⟩ : ∃ D : Nat, (T : Int) - K = D := ⟨T - K, by omega⟩
          obtain ⟨E, hE⟩ : ∃ E : Nat, (N : Int) - 1 - J = E := ⟨N - 1 - J, by omega⟩
          have C1 := Lib.hid (HCI.out K)
          have C2 := HCI.out D
          have C3 := Lib.hid (HCD.out J)
          have C4 := HCD.out E
          rw [show D = T - K by omega, ← HSI.out K hKT, show T - K = D by omega] at C2
          rw [show E = N - 1 - J by omega, ← HSD.out J hJN, show N - 1 - J = E by omega] at C4
          replace C2 := Lib.hid C2
          replace C4 := Lib.hid C4
          have HF2 := Lib.hid HFA.out
          have HFB := HFC.out
          generalize getn RI K = P at *
          generalize getn RD J = Q at *
          clear HCI HCD HCC HRI HRD HRC HSI HSD HFC HFA HRCe HT
          go_wp2_with (first
            | (go_at_call 48; with_reducible refine (HM2.out _).mono ?_; rintro e w1 ⟨rfl, rfl⟩)
            | (go_at_call 48; with_reducible refine (HM3.out _).mono ?_; rintro e w1 ⟨rfl, rfl⟩)
            | (go_at_call 37; with_reducible refine (C1.out _).mono ?_; rintro e w1 ⟨rfl, b1⟩; replace b0 := b0.trans (b1.mono b0.size); clear b1)
            | (go_at_call 37; with_reducible refine (C2.out _).mono ?_; rintro e w1 ⟨rfl, b1⟩; replace b0 := b0.trans (b1.mono b0.size); clear b1)
            | (go_at_call 38; with_reducible refine (C3.out _).mono ?_; rintro e w1 ⟨rfl, b1⟩; replace b0 := b0.trans (b1.mono b0.size); clear b1)
            | (go_at_call 38; with_reducible refine (C4.out _).mono ?_; rintro e w1 ⟨rfl, b1⟩; replace b0 := b0.trans (b1.mono b0.size); clear b1)
            | (go_at_call 39; refine (CC2.out _).mono ?_; rintro e w3 ⟨rfl, b1⟩; replace b0 := b0.trans (b1.mono b0.size); clear b1)
            | (go_at_call 44; with_reducible refine (HF2.out _).mono ?_; rintro e w1 ⟨rfl, rfl⟩)
            | (go_at_call 21; refine (awake_any _).mono ?_; rintro e w5 ⟨rfl, b1⟩; replace b0 := b0.trans (b1.mono b0.size); clear b1))
          go_ret
          exact ⟨rfl, b0⟩
        · have g2 : ((N : Int) == 2) = false := by simp; omega
          have hNT : N ≤ T := by
            have : ∀ N : Nat, N < 19 → 3 ≤ N → N ≤ tri N := by decide
            rw [← HT.out]
            exact this N (by omega) (by omega)
          have hC3 : smZ RC (T + 1) = facN N := (take_all HRC.out.sup (by show N < T + 1; omega)).trans HRC.out.sum
          rw [hC3]
          clear hC3 h1 h2
          obtain ⟨K, hK⟩ : ∃ K, modI k (T + 1) = K := ⟨_, rfl⟩
          have hKT : K ≤ T := by have := modI_lt k (show 0 < T + 1 by omega); omega
          have HM2 : Hid (∀ w : World, Calls Try.prog 48 #[.int .i64 k, .int .i64 ((T : Int) + 1)] w fun e w' => e = .returned (.int .i64 (K : Nat)) ∧ w = w') := Lib.hid (fun w => by
            have h := mod_any k (T + 1) w (by omega) (by omega)
            rw [Int.natCast_add, Int.natCast_one, hK] at h
            exact h)
          clear hK
          obtain ⟨J, hJ⟩ : ∃ J, modI (K : Int) N = J := ⟨_, rfl⟩
          have hJN : J < N := by have := modI_lt (K : Int) (show 0 < N by omega); omega
          have HM3 : Hid (∀ w : World, Calls Try.prog 48 #[.int .i64 (K : Nat), .int .i64 (N : Nat)] w fun e w' => e = .returned (.int .i64 (J : Nat)) ∧ w = w') := Lib.hid (fun w => by
            have h := mod_any (K : Int) N w (by omega) (by omega)
            rw [hJ] at h
            exact h)
          clear hJ
          obtain ⟨D, hD⟩ : ∃ D : Nat, (T : Int) - K = D := ⟨T - K, by omega⟩
          obtain ⟨E, hE⟩ : ∃ E : Nat, (N : Int) - 1 - J = E := ⟨N - 1 - J, by omega⟩
          have C1 := Lib.hid (HCI.out K)
          have C2 := HCI.out D
          have C3 := Lib.hid (HCD.out J)
          have C4 := HCD.out E
          rw [show D = T - K by omega, ← HSI.out K hKT, show T - K = D by omega] at C2
          rw [show E = N - 1 - J by omega, ← HSD.out J hJN, show N - 1 - J = E by omega] at C4
          replace C2 := Lib.hid C2
          replace C4 := Lib.hid C4
          have HF2 := Lib.hid HFA.out
          have HFB := HFC.out
          generalize facN N = F at *
          generalize getn RI K = P at *
          generalize getn RD J = Q at *
          clear HCI HCD HCC HRI HRD HRC HSI HSD HFC HFA HRCe HT
          go_wp2_with (first
            | (go_at_call 48; with_reducible refine (HM2.out _).mono ?_; rintro e w1 ⟨rfl, rfl⟩)
            | (go_at_call 48; with_reducible refine (HM3.out _).mono ?_; rintro e w1 ⟨rfl, rfl⟩)
            | (go_at_call 37; with_reducible refine (C1.out _).mono ?_; rintro e w1 ⟨rfl, b1⟩; replace b0 := b0.trans (b1.mono b0.size); clear b1)
            | (go_at_call 37; with_reducible refine (C2.out _).mono ?_; rintro e w1 ⟨rfl, b1⟩; replace b0 := b0.trans (b1.mono b0.size); clear b1)
            | (go_at_call 38; with_reducible refine (C3.out _).mono ?_; rintro e w1 ⟨rfl, b1⟩; replace b0 := b0.trans (b1.mono b0.size); clear b1)
            | (go_at_call 38; with_reducible refine (C4.out _).mono ?_; rintro e w1 ⟨rfl, b1⟩; replace b0 := b0.trans (b1.mono b0.size); clear b1)
            | (go_at_call 39; refine (CC2.out _).mono ?_; rintro e w3 ⟨rfl, b1⟩; replace b0 := b0.trans (b1.mono b0.size); clear b1)
            | (go_at_call 44; with_reducible refine (HF2.out _).mono ?_; rintro e w1 ⟨rfl, rfl⟩)
            | (go_at_call 21; refine (awake_any _).mono ?_; rintro e w5 ⟨rfl, b1⟩; replace b0 := b0.trans (b1.mono b0.size); clear b1))
          go_ret
          exact ⟨rfl, b0⟩
end Go.Proofs.Ytheblebfeinjjaa
