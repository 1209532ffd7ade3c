/- ref.Map. -/
import Derived.Test.YtoklnpiehbnalaaCB
import Derived.Test.YtoklnpiehbnalaaAH
namespace Go.Proofs.Ytoklnpiehbnalaa
open Go.RowKit Go.PlainAid
set_option maxHeartbeats 2000000
set_option maxRecDepth 100000
theorem okI_ref {s : ByteArray} (h : s.size ≤ 12) (h1 : 1 ≤ s.size) : okI s = ltK 4 s := by
  unfold okI okB
  rw [decide_eq_true h1, decide_eq_true h, decide_eq_true (show s.size ≤ 120 by omega), Bool.true_and, Bool.true_and, Bool.true_and]
  unfold ltK
  congr 1
  funext i
  rw [Bool.eq_iff_iff, goodB_iff, goodK_iff]
  omega
theorem okI_short {s : ByteArray} (h : s.size < 1) : okI s = false := by unfold okI; rw [decide_eq_false (by omega)]; rfl
theorem okI_long {s : ByteArray} (h : 12 < s.size) : okI s = false := by unfold okI; rw [decide_eq_false (show ¬ s.size ≤ 12 by omega), Bool.and_false]; rfl
theorem okMp_all {ss : List ByteArray} (h : ∀ i, i < ss.length → okI (gets ss i) = true) : okMp ss = decide (ss.length = 3) := by
  by_cases h3 : ss.length = 3
  · rw [okMp_yes h3 (fun i hi => h i (by omega)), decide_eq_true h3]
  · rw [okMp_len h3, decide_eq_false h3]
theorem refMap_any (A : Option Addr) (c : Nat) (ss : List ByteArray) (w : World) (hs : ∀ i, (gets ss i).size ≤ 100000) (hl : ss.length ≤ 100000) (ha : StrsAt w A ss) :
    Calls Try.prog 42 #[.slice A ss.length c] w fun e w' => e = .returned (.bool (okMp ss)) ∧ w = w' := by
  have HNO := Lib.hid (fun i (hi : i < ss.length) h => @okMp_no ss i hi h)
  have HALL := Lib.hid (@okMp_all ss)
  have HLT := Lib.hid (fun i V => refLetters_any (gets ss i) 4 V (by have := hs i; omega) (by decide))
  have HLT4 : Hid (∀ i V, Calls Try.prog 44 #[.string (gets ss i), .int .i64 4] V fun e w' => e = .returned (.bool (ltK 4 (gets ss i))) ∧ V = w') := Lib.hid (fun i V => HLT.out i V)
  have HSZ := Lib.hid hs
  have HA := Lib.hid ha
  have H0 : Hid (∀ i, i < 0 → okI (gets ss i) = true) := Lib.hid (fun i h => absurd h (by omega))
  clear hs ha HLT
  generalize hR : okMp ss = R at *
  generalize hn : ss.length = n at *
  clear hR
  go_enter Try.func42, Try.ntmps42
  go_wp2
  go_loopw [3] (fun i wr => ∃ j : Nat, i = .int .i64 j ∧ j ≤ n ∧ wr = w ∧ Hid (∀ i, i < j → okI (gets ss i) = true)) (fun i _ => n - (intOf i).toNat)
  case atStart => exact ⟨0, rfl, by omega, by first | rfl | trivial, H0⟩
  case round =>
    clear H0
    obtain ⟨j, rfl, hj, rfl, HQ⟩ := hrel
    by_cases hlt : j < n
    · have g1 : decide (j < n) = true := decide_eq_true hlt
      obtain ⟨bA, oA, hAe, hbA, hcA⟩ := HA.out (by omega)
      have hc1 := hcA j (by omega)
      have hsz := HSZ.out j
      have HLT1 := Lib.hid (HLT4.out j)
      have HNO1 := Lib.hid (HNO.out j (by omega))
      have HQ2 : Hid (okI (gets ss j) = true → ∀ i, i < j + 1 → okI (gets ss i) = true) := Lib.hid (fun h i hi => by
        rcases Nat.lt_or_ge i j with h1 | h1
        · exact HQ.out i h1
        · rw [show i = j by omega]; exact h)
      have HI1 := Lib.hid (fun h => @okI_short (gets ss j) h)
      have HI2 := Lib.hid (fun h => @okI_long (gets ss j) h)
      have HI3 := Lib.hid (fun h h2 => @okI_ref (gets ss j) h h2)
      clear hcA HSZ HLT4 HNO HQ HALL HA
      subst hAe
      generalize gets ss j = s at *
      by_cases h1 : s.size < 1
      · have g2 : decide ((s.size : Int) < 1) = true := decide_eq_true (by omega)
        have HR := Lib.hid (HNO1.out (HI1.out h1))
        clear HNO1 HI1 HI2 HI3 HQ2
        have hs0 : s.size = 0 := by omega
        go_wp2
        go_ret
        exact ⟨by rw [HR.out]; rfl, by first | rfl | trivial⟩
      · have g2 : decide ((s.size : Int) < 1) = false := decide_eq_false (by omega)
        by_cases h2 : 12 < s.size
        · have g3 : decide ((12 : Int) < (s.size : Int)) = true := decide_eq_true (by omega)
          have HR := Lib.hid (HNO1.out (HI2.out h2))
          clear HNO1 HI1 HI2 HI3 HQ2
          go_wp2
          go_ret
          exact ⟨by rw [HR.out]; rfl, by first | rfl | trivial⟩
        · have g3 : decide ((12 : Int) < (s.size : Int)) = false := decide_eq_false (by omega)
          have HI4 := HI3.out (by omega) (by omega)
          cases hb : ltK 4 s
          · rw [hb] at HLT1 HI4
            have HR := Lib.hid (HNO1.out HI4)
            clear HNO1 HI1 HI2 HI3 HQ2 HI4 hb
            go_wp2_with (go_at_call 44; (with_reducible refine (HLT1.out _).mono ?_); rintro e w2 ⟨rfl, rfl⟩)
            go_ret
            exact ⟨by rw [HR.out]; rfl, by first | rfl | trivial⟩
          · rw [hb] at HLT1 HI4
            have HQ3 := Lib.hid (HQ2.out HI4)
            clear HNO1 HI1 HI2 HI3 HQ2 HI4 hb
            go_wp2_with (go_at_call 44; (with_reducible refine (HLT1.out _).mono ?_); rintro e w2 ⟨rfl, rfl⟩)
            go_roundw
            case rel => exact ⟨j + 1, by go_num, by omega, by first | rfl | trivial, HQ3⟩
            case measure => simp [intOf]; omega
    · obtain rfl : j = n := by omega
      have g1 : decide (j < j) = false := decide_eq_false (by omega)
      have HR := Lib.hid (HALL.out (fun i hi => HQ.out i (by omega)))
      clear HNO HSZ HLT4 HQ HALL HA
      by_cases h3 : j = 3
      · subst h3
        go_wp2
        go_ret
        exact ⟨by rw [HR.out]; rfl, by first | rfl | trivial⟩
      · have g4 : ((j : Int) == 3) = false := by rw [beq_eq_false_iff_ne]; omega
        rw [decide_eq_false h3] at HR
        go_wp2
        go_ret
        exact ⟨by rw [HR.out]; rfl, by first | rfl | trivial⟩
end Go.Proofs.Ytoklnpiehbnalaa
