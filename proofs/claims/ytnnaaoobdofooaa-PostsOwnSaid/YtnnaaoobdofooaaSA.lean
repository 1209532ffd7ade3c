/- PostsPermanents, walked. -/
import Derived.Test.YtnnaaoobdofooaaRZ
import Derived.Test.YtnnaaoobdofooaaRU
namespace Go.Proofs.Ytnnaaoobdofooaa
open Go.RowKit
set_option maxHeartbeats 1000000
set_option maxRecDepth 100000
theorem itm_len (L : List (List Int)) : ∀ (m s : Nat) (k : Int), (itm L m s k).length ≤ m
  | 0, _, _ => by simp [itm]
  | m + 1, s, k => by
    cases h : pk L (L.length - (m + 1)) s (List.range L.length) k with
    | none => rw [itm_none h]; exact Nat.le_succ_of_le (itm_len L m s k)
    | some p =>
      obtain ⟨c, k'⟩ := p
      rw [itm_some h, List.length_cons]
      exact Nat.succ_le_succ (itm_len L m _ k')
theorem PostsPermanents_any (A : Option Addr) (c : Nat) (L : List (List Int)) (k : Int) (w : World) (hx : L.length ≤ c) (hc : c ≤ maxLen) (ha : RowsIn w A L) :
    Calls Try.prog 3 #[.slice A L.length c, .int .i64 k] w fun e w' => e = .returned (.bool true) ∧ Below w.heap.size w w' := by
  have HT := Lib.hid (table_any A c L w (by omega) ha)
  have hl : (tbR L (min L.length 11)).length = min L.length 11 := tbR_len (by omega)
  have hl2 : min L.length 11 ≤ 11 := by omega
  clear ha hx hc
  generalize min L.length 11 = m at *
  generalize tbR L m = T at *
  subst hl
  go_enter Try.func3, Try.ntmps3
  go_wp2_with (go_at_call 17; fail)
  refine HT.out.mono ?_
  rintro e w1 ⟨A1, c1, cs, rfl, o1, R1, b1⟩
  have C1 := Lib.hid (rows_c R1 o1)
  clear HT o1 R1
  cases hok : okT T
  · have HP := Lib.hid (fun (V : World) hV => Permanent_no A1 c1 T V hok (C1.out.at.below hV))
    have HI := Lib.hid (fun (V : World) hV => Item_no A1 c1 T k V hok (C1.out.at.below hV))
    have HR := Lib.hid (fun (V : World) hV => refTable_any A1 c1 T V (by omega) (C1.out.at.below hV))
    rw [hok] at HR
    clear hok
    go_wp2_with (go_at_call 18; fail)
    refine (HP.out _ (Below.refl _ _)).mono ?_
    rintro e w2 ⟨rfl, b2⟩
    go_wp2_with (go_at_call 19; fail)
    refine (HI.out _ b2).mono ?_
    rintro e w3 ⟨rfl, b3⟩
    replace b3 := b2.trans (b3.mono b2.size)
    go_wp2_with (go_at_call 20; fail)
    refine (HR.out _ b3).mono ?_
    rintro e w4 ⟨rfl, b4⟩
    replace b4 := b1.trans ((b3.trans (b4.mono b3.size)).mono b1.size)
    clear HP HI HR b1 b2 b3 C1
    go_wp2_with (go_at_call 21; refine (awake_any _).mono ?_; rintro e w5 ⟨rfl, b5⟩; replace b4 := b4.trans (b5.mono b4.size); clear b5)
    go_ret
    exact ⟨rfl, b4⟩
  · have hI := okT_iff.1 hok
    have HP := Lib.hid (fun (V : World) hV => Permanent_yes A1 c1 T V hI (C1.out.at.below hV))
    have HR := Lib.hid (fun (V : World) hV => refTable_any A1 c1 T V (by omega) (C1.out.at.below hV))
    have HRP := Lib.hid (fun (V : World) hV => refPermanent_any A1 c1 T V hI (C1.out.at.below hV))
    have HRC := Lib.hid (fun (V : World) hV => refChoices_any A1 c1 T V hI (C1.out.at.below hV))
    rw [hok] at HR
    clear hok
    by_cases hin : k < 0 ∨ chN T (sAll T.length) ≤ k
    · have HI : Hid (∀ V : World, Below w1.heap.size w1 V → Calls Try.prog 19 #[.slice A1 T.length c1, .int .i64 k] V fun e w' => e = .returned (.tuple #[.slice none 0 0, .int .i64 2]) ∧ Below V.heap.size V w') := Lib.hid (fun V hV => by
        by_cases h0 : k < 0
        · exact Item_neg A1 c1 T k V hI h0 (C1.out.at.below hV)
        · exact Item_big A1 c1 T k V hI (by omega) (hin.resolve_left h0) (C1.out.at.below hV))
      generalize perm T = p at *
      generalize chN T (sAll T.length) = q at *
      clear hI
      go_wp2_with (go_at_call 18; fail)
      refine (HP.out _ (Below.refl _ _)).mono ?_
      rintro e w2 ⟨rfl, b2⟩
      go_wp2_with (go_at_call 19; fail)
      refine (HI.out _ b2).mono ?_
      rintro e w3 ⟨rfl, b3⟩
      replace b3 := b2.trans (b3.mono b2.size)
      go_wp2_with (go_at_call 20; fail)
      refine (HR.out _ b3).mono ?_
      rintro e w4 ⟨rfl, b4⟩
      replace b4 := b3.trans (b4.mono b3.size)
      go_wp2_with (go_at_call 22; fail)
      refine (HRP.out _ b4).mono ?_
      rintro e w5 ⟨rfl, b5⟩
      replace b5 := b4.trans (b5.mono b4.size)
      by_cases h0 : k < 0
      · have g1 : decide (k < 0) = true := decide_eq_true h0
        replace b5 := b1.trans (b5.mono b1.size)
        clear HP HI HR HRP HRC b1 b2 b3 b4 C1 hin
        go_wp2_with (go_at_call 21; refine (awake_any _).mono ?_; rintro e w6 ⟨rfl, b6⟩; replace b5 := b5.trans (b6.mono b5.size); clear b6)
        go_ret
        exact ⟨rfl, b5⟩
      · have g1 : decide (k < 0) = false := decide_eq_false h0
        have g2 : decide (q ≤ k) = true := decide_eq_true (hin.resolve_left h0)
        clear hin h0
        go_wp2_with (go_at_call 23; fail)
        refine (HRC.out _ b5).mono ?_
        rintro e w6 ⟨rfl, b6⟩
        replace b6 := b5.trans (b6.mono b5.size)
        replace b6 := b1.trans (b6.mono b1.size)
        clear HP HI HR HRP HRC b1 b2 b3 b4 b5 C1
        go_wp2_with (go_at_call 21; refine (awake_any _).mono ?_; rintro e w7 ⟨rfl, b7⟩; replace b6 := b6.trans (b7.mono b6.size); clear b7)
        go_ret
        exact ⟨rfl, b6⟩
    · have h0 : 0 ≤ k := by omega
      have h1 : k < chN T (sAll T.length) := by omega
      have HI := Lib.hid (fun (V : World) hV => Item_yes A1 c1 T k V hI h0 h1 (C1.out.at.below hV))
      have HRI := Lib.hid (fun (V : World) hV => refItem_any A1 c1 T k V hI h0 h1 (C1.out.at.below hV))
      have hil : (itm T T.length (sAll T.length) k).length ≤ 1000000 := Nat.le_trans (itm_len T T.length (sAll T.length) k) (by omega)
      have g1 : decide (k < 0) = false := decide_eq_false (by omega)
      have g2 : decide (chN T (sAll T.length) ≤ k) = false := decide_eq_false (by omega)
      clear hin h0 h1 hI
      generalize itm T T.length (sAll T.length) k = X at *
      generalize perm T = p at *
      generalize chN T (sAll T.length) = q at *
      go_wp2_with (go_at_call 18; fail)
      refine (HP.out _ (Below.refl _ _)).mono ?_
      rintro e w2 ⟨rfl, b2⟩
      go_wp2_with (go_at_call 19; fail)
      refine (HI.out _ b2).mono ?_
      rintro e w3 ⟨A3, c3, rfl, o3, b3⟩
      obtain ⟨A3', c3', e3, -, -, i3⟩ := own_intsI o3
      injection e3 with e31 e32 e33
      subst e31 e33
      have I3 := Lib.hid i3
      clear o3 i3 e32
      replace b3 := b2.trans (b3.mono b2.size)
      go_wp2_with (go_at_call 20; fail)
      refine (HR.out _ b3).mono ?_
      rintro e w4 ⟨rfl, b4⟩
      replace I3 := Lib.hid (I3.out.below b4)
      replace b4 := b3.trans (b4.mono b3.size)
      go_wp2_with (go_at_call 22; fail)
      refine (HRP.out _ b4).mono ?_
      rintro e w5 ⟨rfl, b5⟩
      replace I3 := Lib.hid (I3.out.below b5)
      replace b5 := b4.trans (b5.mono b4.size)
      go_wp2_with (go_at_call 23; fail)
      refine (HRC.out _ b5).mono ?_
      rintro e w6 ⟨rfl, b6⟩
      replace I3 := Lib.hid (I3.out.below b6)
      replace b6 := b5.trans (b6.mono b5.size)
      go_wp2_with (go_at_call 25; fail)
      refine (HRI.out _ b6).mono ?_
      rintro e w7 ⟨v7, rfl, o7, b7⟩
      obtain ⟨A7, c7, rfl, -, -, i7⟩ := own_intsI o7
      have HE := Lib.hid (ints_yes A3 A7 c3 c7 X X.length w7 rfl hil (I3.out.below b7) i7)
      replace b7 := b6.trans (b7.mono b6.size)
      replace b7 := b1.trans (b7.mono b1.size)
      clear HP HI HR HRP HRC HRI b1 b2 b3 b4 b5 b6 C1 I3 o7 i7
      go_wp2_with (go_at_call 24; fail)
      refine HE.out.mono ?_
      rintro e w8 ⟨rfl, n8, rfl⟩
      replace b7 := b7.trans (below_drewN n8)
      clear HE
      go_wp2_with (go_at_call 21; refine (awake_any _).mono ?_; rintro e w9 ⟨rfl, b9⟩; replace b7 := b7.trans (b9.mono b7.size); clear b9)
      go_ret
      exact ⟨rfl, b7⟩
end Go.Proofs.Ytnnaaoobdofooaa
