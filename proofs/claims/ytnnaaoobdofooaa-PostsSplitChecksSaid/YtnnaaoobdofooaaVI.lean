/- PostsSplitChecks, walked. -/
import Derived.Test.YtnnaaoobdofooaaVE
import Derived.Test.YtnnaaoobdofooaaVG
import Derived.Test.YtnnaaoobdofooaaVH
namespace Go.Proofs.Ytnnaaoobdofooaa
open Go.RowKit
set_option maxHeartbeats 1000000
set_option maxRecDepth 100000
theorem PostsSplitChecks_any (A : Option Addr) (c : Nat) (L : List (List Int)) (B : Option Addr) (d : Nat) (ks : List Lay) (w : World) (hx : L.length ≤ c) (hc : c ≤ maxLen) (ha : RowsIn w A L) (hx2 : ks.length ≤ d) (hd : d ≤ maxLen) (hb : LaysIn w B ks) :
    Calls Try.prog 9 #[.slice A L.length c, .slice B ks.length d] w fun e w' => e = .returned (.bool true) ∧ Below w.heap.size w w' := by
  have HT := Lib.hid (table_any A c L w (by omega) ha)
  have HY := Lib.hid (fun (V : World) hV => layers_any B d ks V (by omega) (hb.below hV))
  have hl : (tbR L (min L.length 11)).length = min L.length 11 := tbR_len (by omega)
  have hl2 : min L.length 11 ≤ 11 := by omega
  have hk : (lyR ks (min ks.length 101)).length = min ks.length 101 := lyR_len (by omega)
  have hk2 : min ks.length 101 ≤ 101 := by omega
  have HK12 := Lib.hid (fun i => lyR_12 ks (min ks.length 101) i)
  clear ha hx hc hb hx2 hd
  generalize min L.length 11 = m at *
  generalize tbR L m = T at *
  subst hl
  generalize min ks.length 101 = m2 at *
  generalize lyR ks m2 = ls at *
  subst hk
  go_enter Try.func9, Try.ntmps9
  go_wp2_with (go_at_call 17; fail)
  refine HT.out.mono ?_
  rintro e w1 ⟨A1, c1, cs, rfl, o1, R1, b1⟩
  have C1 := Lib.hid (rows_c R1 o1)
  clear HT o1 R1
  go_wp2_with (go_at_call 42; fail)
  refine (HY.out _ b1).mono ?_
  rintro e w2 ⟨v2, ps, rfl, o2, hw2, R2, b2⟩
  obtain ⟨A2, c2, rfl, Y2⟩ := lays_at o2 hw2 R2 rfl (fun i _ => HK12.out i)
  have HY2 := Lib.hid Y2
  have C2 := Lib.hid (C1.out.below b2)
  have b3 := b1.trans (b2.mono b1.size)
  clear HY o2 hw2 R2 b1 b2 C1 HK12 Y2
  have z2 := Below.refl w2.heap.size w2
  have HR := Lib.hid (fun (V : World) hV => refTable_any A1 c1 T V (by omega) (C2.out.at.below hV))
  cases hok : okT T
  · have HC := Lib.hid (fun (V : World) hV => CheckSplit_no A1 A2 c1 c2 T ls V hok (C2.out.at.below hV))
    rw [hok] at HR
    clear hok
    go_wp2_with (go_at_call 40; fail)
    refine (HC.out _ z2).mono ?_
    rintro e w3 ⟨rfl, y3⟩
    go_wp2_with (go_at_call 20; fail)
    refine (HR.out _ y3).mono ?_
    rintro e w4 ⟨rfl, y4⟩
    replace y4 := b3.trans ((y3.trans (y4.mono y3.size)).mono b3.size)
    clear HC HR y3 C2 HY2 z2 b3
    go_wp2_with (go_at_call 21; refine (awake_any _).mono ?_; rintro e w5 ⟨rfl, b5⟩; replace y4 := y4.trans (b5.mono y4.size); clear b5)
    go_ret
    exact ⟨rfl, y4⟩
  · have hI := okT_iff.1 hok
    have HC := Lib.hid (fun (V : World) hV => CheckSplit_yes A1 A2 c1 c2 T ls V hI (by omega) (C2.out.at.below hV) (HY2.out.below hV))
    have HL := Lib.hid (fun (V : World) hV => refLevel_any A1 c1 T V hI (C2.out.at.below hV))
    have HS := Lib.hid (fun (V : World) hV => refLayers_any A1 A2 c1 c2 T ls V hI (by omega) (C2.out.below hV) (HY2.out.below hV))
    rw [hok] at HR
    have HE : Hid (csN T ls = if isLev T = true then (if splA T ls = true then 0 else 10) else 2) := Lib.hid rfl
    clear hok hI C2 HY2
    generalize csN T ls = N at *
    generalize splA T ls = sb at *
    generalize isLev T = lb at *
    go_wp2_with (go_at_call 40; fail)
    refine (HC.out _ z2).mono ?_
    rintro e w3 ⟨rfl, y3⟩
    go_wp2_with (go_at_call 20; fail)
    refine (HR.out _ y3).mono ?_
    rintro e w4 ⟨rfl, y4⟩
    replace y4 := y3.trans (y4.mono y3.size)
    go_wp2_with (go_at_call 28; fail)
    refine (HL.out _ y4).mono ?_
    rintro e w5 ⟨rfl, y5⟩
    replace y5 := y4.trans (y5.mono y4.size)
    clear HC HR HL y3 y4 z2
    cases lb
    · have hN : N = 2 := by have := HE.out; simpa using this
      subst hN
      replace y5 := b3.trans (y5.mono b3.size)
      clear HE HS b3
      go_wp2_with (go_at_call 21; refine (awake_any _).mono ?_; rintro e w9 ⟨rfl, b9⟩; replace y5 := y5.trans (b9.mono y5.size); clear b9)
      go_ret
      exact ⟨rfl, y5⟩
    · go_wp2_with (go_at_call 41; fail)
      refine (HS.out _ y5).mono ?_
      rintro e w6 ⟨rfl, y6⟩
      replace y6 := b3.trans ((y5.trans (y6.mono y5.size)).mono b3.size)
      clear HS y5 b3
      cases sb
      · have hN : N = 10 := by have := HE.out; simpa using this
        subst hN
        clear HE
        go_wp2_with (go_at_call 21; refine (awake_any _).mono ?_; rintro e w9 ⟨rfl, b9⟩; replace y6 := y6.trans (b9.mono y6.size); clear b9)
        go_ret
        exact ⟨rfl, y6⟩
      · have hN : N = 0 := by have := HE.out; simpa using this
        subst hN
        clear HE
        go_wp2_with (go_at_call 21; refine (awake_any _).mono ?_; rintro e w9 ⟨rfl, b9⟩; replace y6 := y6.trans (b9.mono y6.size); clear b9)
        go_ret
        exact ⟨rfl, y6⟩
end Go.Proofs.Ytnnaaoobdofooaa
