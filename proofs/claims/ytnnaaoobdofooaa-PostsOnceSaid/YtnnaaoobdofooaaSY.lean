/- PostsChooses, walked. -/
import Derived.Test.YtnnaaoobdofooaaSX
import Derived.Test.YtnnaaoobdofooaaSH
namespace Go.Proofs.Ytnnaaoobdofooaa
open Go.RowKit
set_option maxHeartbeats 1000000
set_option maxRecDepth 100000
theorem ints_nil (w : World) : IntsAt w none [] := fun h => absurd h (by simp)
theorem PostsChooses_any (A : Option Addr) (c : Nat) (L : List (List Int)) (w : World) (hx : L.length ≤ c) (hc : c ≤ maxLen) (ha : RowsIn w A L) :
    Calls Try.prog 5 #[.slice A L.length c] w fun e w' => e = .returned (.bool true) ∧ Below w.heap.size w w' := by
  have HT := Lib.hid (table_any A c L w (by omega) ha)
  have hl : (tbR L (min L.length 11)).length = min L.length 11 := tbR_len (by omega)
  have hl2 : min L.length 11 ≤ 11 := by omega
  clear ha hx hc
  generalize min L.length 11 = m at *
  generalize tbR L m = T at *
  subst hl
  go_enter Try.func5, Try.ntmps5
  go_wp2_with (go_at_call 17; fail)
  refine HT.out.mono ?_
  rintro e w1 ⟨A1, c1, cs, rfl, o1, R1, b1⟩
  have C1 := Lib.hid (rows_c R1 o1)
  clear HT o1 R1
  have z1 := Below.refl w1.heap.size w1
  have HR := Lib.hid (fun (V : World) hV => refTable_any A1 c1 T V (by omega) (C1.out.at.below hV))
  cases hok : okT T
  · have HC := Lib.hid (fun (V : World) hV => Choose_no A1 c1 T V hok (C1.out.at.below hV))
    have HK : Hid (∀ V : World, Below w1.heap.size w1 V → Calls Try.prog 32 #[.slice A1 T.length c1, .slice none 0 0, .slice none 0 0] V fun e w' => e = .returned (.int .i64 2) ∧ Below V.heap.size V w') := Lib.hid (fun V hV => CheckChoice_no A1 none none c1 0 0 T [] [] V hok (C1.out.at.below hV))
    rw [hok] at HR
    clear hok
    go_wp2_with (go_at_call 31; fail)
    refine (HC.out _ z1).mono ?_
    rintro e w2 ⟨rfl, b2⟩
    go_wp2_with (go_at_call 20; fail)
    refine (HR.out _ b2).mono ?_
    rintro e w3 ⟨rfl, b3⟩
    replace b3 := b2.trans (b3.mono b2.size)
    go_wp2_with (go_at_call 32; fail)
    refine (HK.out _ b3).mono ?_
    rintro e w4 ⟨rfl, b4⟩
    replace b4 := b3.trans (b4.mono b3.size)
    replace b4 := b1.trans (b4.mono b1.size)
    clear HC HR HK b1 b2 b3 C1 z1
    go_wp2_with (go_at_call 21; refine (awake_any _).mono ?_; rintro e w5 ⟨rfl, b5⟩; replace b4 := b4.trans (b5.mono b4.size); clear b5)
    go_ret
    exact ⟨rfl, b4⟩
  · have hI := okT_iff.1 hok
    have HRC := Lib.hid (fun (V : World) hV => refChoices_any A1 c1 T V hI (C1.out.at.below hV))
    rw [hok] at HR
    clear hok
    by_cases hk : 0 < chN T (sAll T.length)
    · obtain ⟨hps, hil⟩ := itm_poss hI (Int.le_refl 0) hk
      have HC := Lib.hid (fun (V : World) hV => Choose_yes A1 c1 T V hI hk (C1.out.at.below hV))
      have HRI := Lib.hid (fun (V : World) hV => refItem_any A1 c1 T 0 V hI (Int.le_refl 0) hk (C1.out.at.below hV))
      have hck : chk T (itm T T.length (sAll T.length) 0) [] = true := by unfold chk; rw [hps]; simp
      have HK : Hid (∀ (V : World) (A2 : Option Addr) (c2 : Nat), Below w1.heap.size w1 V → IntsAt V A2 (itm T T.length (sAll T.length) 0) → Calls Try.prog 32 #[.slice A1 T.length c1, .slice A2 (itm T T.length (sAll T.length) 0).length c2, .slice none 0 0] V fun e w' => e = .returned (.int .i64 0) ∧ Below V.heap.size V w') := Lib.hid (fun V A2 c2 hV hA => by
        have := CheckChoice_yes A1 A2 none c1 c2 0 T (itm T T.length (sAll T.length) 0) [] V hI (by omega) (by simp) (C1.out.at.below hV) hA (ints_nil V)
        rw [hck] at this
        exact this)
      have g1 : decide (0 < chN T (sAll T.length)) = true := decide_eq_true hk
      have hX : (itm T T.length (sAll T.length) 0).length ≤ 11 := by omega
      clear hps hil hck hk hI C1
      generalize itm T T.length (sAll T.length) 0 = X at *
      generalize chN T (sAll T.length) = q at *
      go_wp2_with (go_at_call 31; fail)
      refine (HC.out _ z1).mono ?_
      rintro e w2 ⟨A2, c2, rfl, o2, b2⟩
      obtain ⟨A2', c2', e2, -, -, i2⟩ := own_intsI o2
      injection e2 with e21 e22 e23
      subst e21 e23
      have I2 := Lib.hid i2
      clear o2 i2 e22
      go_wp2_with (go_at_call 20; fail)
      refine (HR.out _ b2).mono ?_
      rintro e w3 ⟨rfl, b3⟩
      replace I2 := Lib.hid (I2.out.below b3)
      replace b3 := b2.trans (b3.mono b2.size)
      go_wp2_with (go_at_call 32; fail)
      refine (HK.out _ A2 c2 b3 I2.out).mono ?_
      rintro e w4 ⟨rfl, b4⟩
      replace I2 := Lib.hid (I2.out.below b4)
      replace b4 := b3.trans (b4.mono b3.size)
      go_wp2_with (go_at_call 23; fail)
      refine (HRC.out _ b4).mono ?_
      rintro e w5 ⟨rfl, b5⟩
      replace I2 := Lib.hid (I2.out.below b5)
      replace b5 := b4.trans (b5.mono b4.size)
      go_wp2_with (go_at_call 25; fail)
      refine (HRI.out _ b5).mono ?_
      rintro e w6 ⟨v6, rfl, o6, b6⟩
      obtain ⟨A6, c6, rfl, -, -, i6⟩ := own_intsI o6
      have HE := Lib.hid (ints_yes A2 A6 c2 c6 X X.length w6 rfl (by omega) (I2.out.below b6) i6)
      replace b6 := b5.trans (b6.mono b5.size)
      replace b6 := b1.trans (b6.mono b1.size)
      clear HC HR HRC HRI HK b1 b2 b3 b4 b5 I2 o6 i6 z1
      go_wp2_with (go_at_call 24; fail)
      refine HE.out.mono ?_
      rintro e w8 ⟨rfl, n8, rfl⟩
      replace b6 := b6.trans (below_drewN n8)
      clear HE
      go_wp2_with (go_at_call 21; refine (awake_any _).mono ?_; rintro e w9 ⟨rfl, b9⟩; replace b6 := b6.trans (b9.mono b6.size); clear b9)
      go_ret
      exact ⟨rfl, b6⟩
    · have hbk := blkL_ok hI (by omega)
      have hbl : (blkL T).length ≤ 10 := lsS_len _ 10
      have HC := Lib.hid (fun (V : World) hV => Choose_none A1 c1 T V hI (by omega) (C1.out.at.below hV))
      have hck : chk T [] (blkL T) = true := by unfold chk; rw [hbk]; simp
      have HK : Hid (∀ (V : World) (A2 : Option Addr) (c2 : Nat), Below w1.heap.size w1 V → IntsAt V A2 (blkL T) → Calls Try.prog 32 #[.slice A1 T.length c1, .slice none 0 0, .slice A2 (blkL T).length c2] V fun e w' => e = .returned (.int .i64 0) ∧ Below V.heap.size V w') := Lib.hid (fun V A2 c2 hV hA => by
        have := CheckChoice_yes A1 none A2 c1 0 c2 T [] (blkL T) V hI (by simp) (by omega) (C1.out.at.below hV) (ints_nil V) hA
        rw [hck] at this
        exact this)
      have HRB : Hid (∀ (V : World) (A2 : Option Addr) (c2 : Nat), Below w1.heap.size w1 V → IntsAt V A2 (blkL T) → Calls Try.prog 33 #[.slice A1 T.length c1, .slice A2 (blkL T).length c2] V fun e w' => e = .returned (.bool true) ∧ Below V.heap.size V w') := Lib.hid (fun V A2 c2 hV hA => by
        have := refBlock_any A1 A2 c1 c2 T (blkL T) V hI (by omega) (C1.out.at.below hV) hA
        rw [hbk] at this
        exact this)
      have g1 : decide (0 < chN T (sAll T.length)) = false := decide_eq_false hk
      clear hck hk hI C1 hbk
      generalize blkL T = X at *
      generalize chN T (sAll T.length) = q at *
      go_wp2_with (go_at_call 31; fail)
      refine (HC.out _ z1).mono ?_
      rintro e w2 ⟨A2, c2, rfl, o2, b2⟩
      obtain ⟨A2', c2', e2, -, -, i2⟩ := own_intsI o2
      injection e2 with e21 e22 e23
      subst e21 e23
      have I2 := Lib.hid i2
      clear o2 i2 e22
      go_wp2_with (go_at_call 20; fail)
      refine (HR.out _ b2).mono ?_
      rintro e w3 ⟨rfl, b3⟩
      replace I2 := Lib.hid (I2.out.below b3)
      replace b3 := b2.trans (b3.mono b2.size)
      go_wp2_with (go_at_call 32; fail)
      refine (HK.out _ A2 c2 b3 I2.out).mono ?_
      rintro e w4 ⟨rfl, b4⟩
      replace I2 := Lib.hid (I2.out.below b4)
      replace b4 := b3.trans (b4.mono b3.size)
      go_wp2_with (go_at_call 23; fail)
      refine (HRC.out _ b4).mono ?_
      rintro e w5 ⟨rfl, b5⟩
      replace I2 := Lib.hid (I2.out.below b5)
      replace b5 := b4.trans (b5.mono b4.size)
      go_wp2_with (go_at_call 33; fail)
      refine (HRB.out _ A2 c2 b5 I2.out).mono ?_
      rintro e w6 ⟨rfl, b6⟩
      replace b6 := b5.trans (b6.mono b5.size)
      replace b6 := b1.trans (b6.mono b1.size)
      clear HC HR HRC HRB HK b1 b2 b3 b4 b5 I2 z1
      go_wp2_with (go_at_call 21; refine (awake_any _).mono ?_; rintro e w9 ⟨rfl, b9⟩; replace b6 := b6.trans (b9.mono b6.size); clear b9)
      go_ret
      exact ⟨rfl, b6⟩
end Go.Proofs.Ytnnaaoobdofooaa
