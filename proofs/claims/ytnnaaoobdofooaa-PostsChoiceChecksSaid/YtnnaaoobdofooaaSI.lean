/- PostsChoiceChecks, walked. -/
import Derived.Test.YtnnaaoobdofooaaSH
namespace Go.Proofs.Ytnnaaoobdofooaa
open Go.RowKit
set_option maxHeartbeats 1000000
set_option maxRecDepth 100000
theorem PostsChoiceChecks_any (A : Option Addr) (c : Nat) (L : List (List Int)) (B : Option Addr) (d : Nat) (xs : List Int) (C : Option Addr) (f : Nat) (ys : List Int) (w : World) (hx : L.length ≤ c) (hc : c ≤ maxLen) (ha : RowsIn w A L)
    (hxB : xs.length ≤ d) (hcB : d ≤ maxLen) (hB : IntsAt w B xs) (hxC : ys.length ≤ f) (hcC : f ≤ maxLen) (hC : IntsAt w C ys) :
    Calls Try.prog 6 #[.slice A L.length c, .slice B xs.length d, .slice C ys.length f] w fun e w' => e = .returned (.bool true) ∧ Below w.heap.size w w' := by
  have HT := Lib.hid (table_any A c L w (by omega) ha)
  have HL1 := Lib.hid (fun (V : World) hV => list_copy_any B d xs V hxB hcB (hB.below hV))
  have HL2 := Lib.hid (fun (V : World) hV => list_copy_any C f ys V hxC hcC (hC.below hV))
  have hl : (tbR L (min L.length 11)).length = min L.length 11 := tbR_len (by omega)
  have hl2 : min L.length 11 ≤ 11 := by omega
  have lX : (xs.take 12).length ≤ 12 := by rw [List.length_take]; omega
  have lY : (ys.take 12).length ≤ 12 := by rw [List.length_take]; omega
  clear ha hx hc hxB hcB hB hxC hcC hC
  generalize min L.length 11 = m at *
  generalize tbR L m = T at *
  subst hl
  generalize xs.take 12 = X at *
  generalize ys.take 12 = Y at *
  go_enter Try.func6, Try.ntmps6
  go_wp2_with (go_at_call 17; fail)
  refine HT.out.mono ?_
  rintro e w1 ⟨A1, c1, cs, rfl, o1, R1, b1⟩
  have C1 := Lib.hid (rows_c R1 o1)
  clear HT o1 R1
  go_wp2_with (go_at_call 34; fail)
  refine (HL1.out _ b1).mono ?_
  rintro e w2 ⟨v2, n2, rfl, o2, b2⟩
  obtain ⟨A2, c2, rfl, -, -, i2⟩ := own_intsI o2
  have I2 := Lib.hid i2
  replace C1 := Lib.hid (C1.out.below b2)
  replace b2 := b1.trans (b2.mono b1.size)
  clear HL1 o2 i2 b1
  go_wp2_with (go_at_call 34; fail)
  refine (HL2.out _ b2).mono ?_
  rintro e w3 ⟨v3, n3, rfl, o3, b3⟩
  obtain ⟨A3, c3, rfl, -, -, i3⟩ := own_intsI o3
  have I3 := Lib.hid i3
  replace C1 := Lib.hid (C1.out.below b3)
  replace I2 := Lib.hid (I2.out.below b3)
  replace b3 := b2.trans (b3.mono b2.size)
  clear HL2 o3 i3 b2
  have HR := Lib.hid (fun (V : World) hV => refTable_any A1 c1 T V (by omega) (C1.out.at.below hV))
  have z3 := Below.refl w3.heap.size w3
  cases hok : okT T
  · have HK := Lib.hid (CheckChoice_no A1 A2 A3 c1 c2 c3 T X Y w3 hok C1.out.at)
    rw [hok] at HR
    clear hok I2 I3 C1
    go_wp2_with (go_at_call 32; fail)
    refine HK.out.mono ?_
    rintro e w4 ⟨rfl, b4⟩
    go_wp2_with (go_at_call 20; fail)
    refine (HR.out _ b4).mono ?_
    rintro e w5 ⟨rfl, b5⟩
    replace b5 := b3.trans ((b4.trans (b5.mono b4.size)).mono b3.size)
    clear HK HR b4 b3 z3
    go_wp2_with (go_at_call 21; refine (awake_any _).mono ?_; rintro e w6 ⟨rfl, b6⟩; replace b5 := b5.trans (b6.mono b5.size); clear b6)
    go_ret
    exact ⟨rfl, b5⟩
  · have hI := okT_iff.1 hok
    have HK := Lib.hid (CheckChoice_yes A1 A2 A3 c1 c2 c3 T X Y w3 hI (by omega) (by omega) C1.out.at I2.out I3.out)
    have HRP := Lib.hid (fun (V : World) hV => refPossible_any A1 A2 c1 c2 T X V hI (by omega) (C1.out.at.below hV) (I2.out.below hV))
    have HRB := Lib.hid (fun (V : World) hV => refBlock_any A1 A3 c1 c3 T Y V hI (by omega) (C1.out.at.below hV) (I3.out.below hV))
    have hzero : T.length = 0 → blkB T Y = false := fun h => by rw [List.eq_nil_of_length_eq_zero h]; exact blkB_zero Y
    have hk : chk T X Y = ((decide (Y.length = 0) && possB T X) || (decide (X.length = 0) && blkB T Y)) := rfl
    rw [hk] at HK
    rw [hok] at HR
    clear hok hI hk I2 I3 C1
    generalize possB T X = p at *
    generalize blkB T Y = q at *
    obtain ⟨ev, hev⟩ : ∃ ev : Int, ev = if ((decide (Y.length = 0) && p) || (decide (X.length = 0) && q)) = true then 0 else 10 := ⟨_, rfl⟩
    rw [← hev] at HK
    have HEV := Lib.hid hev
    have HZ := Lib.hid hzero
    clear hev hzero
    go_wp2_with (go_at_call 32; fail)
    refine HK.out.mono ?_
    rintro e w4 ⟨rfl, b4⟩
    go_wp2_with (go_at_call 20; fail)
    refine (HR.out _ b4).mono ?_
    rintro e w5 ⟨rfl, b5⟩
    replace b5 := b4.trans (b5.mono b4.size)
    clear HK HR b4
    go_wp2_with (go_at_call 35; fail)
    refine (HRP.out _ b5).mono ?_
    rintro e w6 ⟨rfl, b6⟩
    replace b6 := b5.trans (b6.mono b5.size)
    clear HRP b5
    cases hy1 : decide (Y.length = 0)
    · have g1 : ((Y.length : Int) == 0) = false := by rw [beq_eq_false_iff_ne]; have := of_decide_eq_false hy1; omega
      rw [hy1] at HEV
      clear hy1
      cases p
      · by_cases ht : 0 < T.length
        · have g3 : decide (0 < T.length) = true := decide_eq_true ht
          cases hx1 : decide (X.length = 0)
          · have g2 : ((X.length : Int) == 0) = false := by rw [beq_eq_false_iff_ne]; have := of_decide_eq_false hx1; omega
            rw [hx1] at HEV
            clear hx1 HRB HZ
            obtain rfl : ev = 10 := by have := HEV.out; simpa using this
            clear HEV
            replace b6 := b3.trans (b6.mono b3.size)
            go_wp2_with (go_at_call 21; refine (awake_any _).mono ?_; rintro e w7 ⟨rfl, b7⟩; replace b6 := b6.trans (b7.mono b6.size); clear b7)
            go_ret
            exact ⟨rfl, b6⟩
          · have g2 : ((X.length : Int) == 0) = true := by rw [beq_iff_eq]; have := of_decide_eq_true hx1; omega
            rw [hx1] at HEV
            clear hx1 HZ
            go_wp2_with (go_at_call 33; fail)
            refine (HRB.out _ b6).mono ?_
            rintro e w9 ⟨rfl, b9⟩
            replace b6 := b6.trans (b9.mono b6.size)
            clear HRB b9
            cases q
            · obtain rfl : ev = 10 := by have := HEV.out; simpa using this
              clear HEV
              replace b6 := b3.trans (b6.mono b3.size)
              go_wp2_with (go_at_call 21; refine (awake_any _).mono ?_; rintro e w7 ⟨rfl, b7⟩; replace b6 := b6.trans (b7.mono b6.size); clear b7)
              go_ret
              exact ⟨rfl, b6⟩
            · obtain rfl : ev = 0 := by have := HEV.out; simpa using this
              clear HEV
              replace b6 := b3.trans (b6.mono b3.size)
              go_wp2_with (go_at_call 21; refine (awake_any _).mono ?_; rintro e w7 ⟨rfl, b7⟩; replace b6 := b6.trans (b7.mono b6.size); clear b7)
              go_ret
              exact ⟨rfl, b6⟩
        · have g3 : decide (0 < T.length) = false := decide_eq_false ht
          obtain rfl := HZ.out (by omega)
          clear HRB HZ
          rw [Bool.and_false] at HEV
          obtain rfl : ev = 10 := by have := HEV.out; simpa using this
          clear HEV
          replace b6 := b3.trans (b6.mono b3.size)
          go_wp2_with (go_at_call 21; refine (awake_any _).mono ?_; rintro e w7 ⟨rfl, b7⟩; replace b6 := b6.trans (b7.mono b6.size); clear b7)
          go_ret
          exact ⟨rfl, b6⟩
      · by_cases ht : 0 < T.length
        · have g3 : decide (0 < T.length) = true := decide_eq_true ht
          cases hx1 : decide (X.length = 0)
          · have g2 : ((X.length : Int) == 0) = false := by rw [beq_eq_false_iff_ne]; have := of_decide_eq_false hx1; omega
            rw [hx1] at HEV
            clear hx1 HRB HZ
            obtain rfl : ev = 10 := by have := HEV.out; simpa using this
            clear HEV
            replace b6 := b3.trans (b6.mono b3.size)
            go_wp2_with (go_at_call 21; refine (awake_any _).mono ?_; rintro e w7 ⟨rfl, b7⟩; replace b6 := b6.trans (b7.mono b6.size); clear b7)
            go_ret
            exact ⟨rfl, b6⟩
          · have g2 : ((X.length : Int) == 0) = true := by rw [beq_iff_eq]; have := of_decide_eq_true hx1; omega
            rw [hx1] at HEV
            clear hx1 HZ
            go_wp2_with (go_at_call 33; fail)
            refine (HRB.out _ b6).mono ?_
            rintro e w9 ⟨rfl, b9⟩
            replace b6 := b6.trans (b9.mono b6.size)
            clear HRB b9
            cases q
            · obtain rfl : ev = 10 := by have := HEV.out; simpa using this
              clear HEV
              replace b6 := b3.trans (b6.mono b3.size)
              go_wp2_with (go_at_call 21; refine (awake_any _).mono ?_; rintro e w7 ⟨rfl, b7⟩; replace b6 := b6.trans (b7.mono b6.size); clear b7)
              go_ret
              exact ⟨rfl, b6⟩
            · obtain rfl : ev = 0 := by have := HEV.out; simpa using this
              clear HEV
              replace b6 := b3.trans (b6.mono b3.size)
              go_wp2_with (go_at_call 21; refine (awake_any _).mono ?_; rintro e w7 ⟨rfl, b7⟩; replace b6 := b6.trans (b7.mono b6.size); clear b7)
              go_ret
              exact ⟨rfl, b6⟩
        · have g3 : decide (0 < T.length) = false := decide_eq_false ht
          obtain rfl := HZ.out (by omega)
          clear HRB HZ
          rw [Bool.and_false] at HEV
          obtain rfl : ev = 10 := by have := HEV.out; simpa using this
          clear HEV
          replace b6 := b3.trans (b6.mono b3.size)
          go_wp2_with (go_at_call 21; refine (awake_any _).mono ?_; rintro e w7 ⟨rfl, b7⟩; replace b6 := b6.trans (b7.mono b6.size); clear b7)
          go_ret
          exact ⟨rfl, b6⟩
    · have g1 : ((Y.length : Int) == 0) = true := by rw [beq_iff_eq]; have := of_decide_eq_true hy1; omega
      rw [hy1] at HEV
      clear hy1
      cases p
      · by_cases ht : 0 < T.length
        · have g3 : decide (0 < T.length) = true := decide_eq_true ht
          cases hx1 : decide (X.length = 0)
          · have g2 : ((X.length : Int) == 0) = false := by rw [beq_eq_false_iff_ne]; have := of_decide_eq_false hx1; omega
            rw [hx1] at HEV
            clear hx1 HRB HZ
            obtain rfl : ev = 10 := by have := HEV.out; simpa using this
            clear HEV
            replace b6 := b3.trans (b6.mono b3.size)
            go_wp2_with (go_at_call 21; refine (awake_any _).mono ?_; rintro e w7 ⟨rfl, b7⟩; replace b6 := b6.trans (b7.mono b6.size); clear b7)
            go_ret
            exact ⟨rfl, b6⟩
          · have g2 : ((X.length : Int) == 0) = true := by rw [beq_iff_eq]; have := of_decide_eq_true hx1; omega
            rw [hx1] at HEV
            clear hx1 HZ
            go_wp2_with (go_at_call 33; fail)
            refine (HRB.out _ b6).mono ?_
            rintro e w9 ⟨rfl, b9⟩
            replace b6 := b6.trans (b9.mono b6.size)
            clear HRB b9
            cases q
            · obtain rfl : ev = 10 := by have := HEV.out; simpa using this
              clear HEV
              replace b6 := b3.trans (b6.mono b3.size)
              go_wp2_with (go_at_call 21; refine (awake_any _).mono ?_; rintro e w7 ⟨rfl, b7⟩; replace b6 := b6.trans (b7.mono b6.size); clear b7)
              go_ret
              exact ⟨rfl, b6⟩
            · obtain rfl : ev = 0 := by have := HEV.out; simpa using this
              clear HEV
              replace b6 := b3.trans (b6.mono b3.size)
              go_wp2_with (go_at_call 21; refine (awake_any _).mono ?_; rintro e w7 ⟨rfl, b7⟩; replace b6 := b6.trans (b7.mono b6.size); clear b7)
              go_ret
              exact ⟨rfl, b6⟩
        · have g3 : decide (0 < T.length) = false := decide_eq_false ht
          obtain rfl := HZ.out (by omega)
          clear HRB HZ
          rw [Bool.and_false] at HEV
          obtain rfl : ev = 10 := by have := HEV.out; simpa using this
          clear HEV
          replace b6 := b3.trans (b6.mono b3.size)
          go_wp2_with (go_at_call 21; refine (awake_any _).mono ?_; rintro e w7 ⟨rfl, b7⟩; replace b6 := b6.trans (b7.mono b6.size); clear b7)
          go_ret
          exact ⟨rfl, b6⟩
      · clear HRB HZ
        obtain rfl : ev = 0 := by have := HEV.out; simpa using this
        clear HEV
        replace b6 := b3.trans (b6.mono b3.size)
        go_wp2_with (go_at_call 21; refine (awake_any _).mono ?_; rintro e w7 ⟨rfl, b7⟩; replace b6 := b6.trans (b7.mono b6.size); clear b7)
        go_ret
        exact ⟨rfl, b6⟩
end Go.Proofs.Ytnnaaoobdofooaa
