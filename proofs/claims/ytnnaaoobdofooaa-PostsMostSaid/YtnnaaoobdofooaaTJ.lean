/- PostsMost, walked. -/
import Derived.Test.YtnnaaoobdofooaaTI
import Derived.Test.YtnnaaoobdofooaaRO
import Derived.Test.YtnnaaoobdofooaaRU
namespace Go.Proofs.Ytnnaaoobdofooaa
open Go.RowKit
set_option maxHeartbeats 1000000
set_option maxRecDepth 100000
theorem PostsMost_any (A : Option Addr) (c : Nat) (L : List (List Int)) (w : World) (hx : L.length ≤ c) (hc : c ≤ maxLen) (ha : RowsIn w A L) :
    Calls Try.prog 7 #[.slice A L.length c] w fun e w' => e = .returned (.bool true) ∧ Below w.heap.size w w' := by
  have HT := Lib.hid (table_any A c L w (by omega) ha)
  have hl : (tbR L (min L.length 11)).length = min L.length 11 := tbR_len (by omega)
  have hl2 : min L.length 11 ≤ 11 := by omega
  clear ha hx hc
  generalize min L.length 11 = m at *
  generalize tbR L m = T at *
  subst hl
  go_enter Try.func7, Try.ntmps7
  go_wp2_with (go_at_call 17; fail)
  refine HT.out.mono ?_
  rintro e w1 ⟨A1, c1, cs, rfl, o1, R1, b1⟩
  have C1 := Lib.hid (rows_c R1 o1)
  clear HT o1 R1
  have z1 := Below.refl w1.heap.size w1
  have HR := Lib.hid (fun (V : World) hV => refTable_any A1 c1 T V (by omega) (C1.out.at.below hV))
  cases hok : okT T
  · have HC := Lib.hid (fun (V : World) hV => Most_no A1 c1 T V hok (C1.out.at.below hV))
    rw [hok] at HR
    clear hok
    go_wp2_with (go_at_call 36; fail)
    refine (HC.out _ z1).mono ?_
    rintro e w2 ⟨rfl, b2⟩
    go_wp2_with (go_at_call 20; fail)
    refine (HR.out _ b2).mono ?_
    rintro e w3 ⟨rfl, b3⟩
    replace b3 := b2.trans (b3.mono b2.size)
    replace b3 := b1.trans (b3.mono b1.size)
    clear HC HR b1 b2 C1 z1
    go_wp2_with (go_at_call 21; refine (awake_any _).mono ?_; rintro e w5 ⟨rfl, b5⟩; replace b3 := b3.trans (b5.mono b3.size); clear b5)
    go_ret
    exact ⟨rfl, b3⟩
  · have hI := okT_iff.1 hok
    have I := mI hI
    have hle := hI.le
    have HC := Lib.hid (fun (V : World) hV => Most_yes A1 c1 T V hI (C1.out.at.below hV))
    have hpl : (rsP (mM T) T.length).length = (prs (mM T) T.length).length := rsP_len _ _
    have hcnt : (mR T).length + (mC T).length = (rsP (mM T) T.length).length := by rw [hpl]; exact most_count hI I
    have hp10 : (rsP (mM T) T.length).length ≤ 10 := by rw [hpl]; have := prs_len (mM T) T.length; omega
    have HP := Lib.hid (fun (V : World) (B : Option Addr) (d : Nat) hV hB => refPairs_yes A1 B c1 d T (rsP (mM T) T.length) (csP (mM T) T.length) V hI (by omega) (by rw [hpl]; exact prs_ok hI I) (C1.out.at.below hV) hB)
    have hS1 : ∀ c, (rowS T.length (mM T) (mS T)).testBit c = true → c < T.length := fun c h => by
      rw [rowS_bit hle] at h
      simp only [Bool.and_eq_true, decide_eq_true_eq] at h
      exact h.1
    have g1 := (lsS_ag (n := T.length) hS1 10).1
    have g2 := (lsS_ag (n := T.length) (S := mS T) (fun c h => (I.a1 c h).1) 10).1
    have HV := Lib.hid (fun (V : World) (B D : Option Addr) (d f : Nat) hV hB hD => refCovers_yes A1 B D c1 d f T (mR T) (mC T) V hI (by omega) (by omega) g1 g2 (most_cover hI I) (C1.out.at.below hV) hB hD)
    rw [hok] at HR
    clear hok hpl g1 g2 hS1 I hI
    generalize rsP (mM T) T.length = rs at *
    generalize csP (mM T) T.length = cs at *
    generalize mR T = R at *
    generalize mC T = C at *
    have gq : ((R.length : Int) + (C.length : Int) == (rs.length : Int)) = true := by rw [beq_iff_eq]; omega
    go_wp2_with (go_at_call 36; fail)
    refine (HC.out _ z1).mono ?_
    rintro e w2 ⟨A2, c2, A3, c3, A4, c4, rfl, P2, I3, I4, b2⟩
    go_wp2_with (go_at_call 20; fail)
    refine (HR.out _ b2).mono ?_
    rintro e w3 ⟨rfl, b3⟩
    replace P2 := P2.below b3
    replace I3 := I3.below b3
    replace I4 := I4.below b3
    replace b3 := b2.trans (b3.mono b2.size)
    go_wp2_with (go_at_call 37; fail)
    refine (HP.out _ A2 c2 b3 P2).mono ?_
    rintro e w4 ⟨rfl, b4⟩
    replace I3 := I3.below b4
    replace I4 := I4.below b4
    replace b4 := b3.trans (b4.mono b3.size)
    clear P2
    go_wp2_with (go_at_call 38; fail)
    refine (HV.out _ A3 A4 c3 c4 b4 I3 I4).mono ?_
    rintro e w5 ⟨rfl, b5⟩
    replace b5 := b4.trans (b5.mono b4.size)
    replace b5 := b1.trans (b5.mono b1.size)
    clear HC HR HP HV b1 b2 b3 b4 C1 z1 I3 I4
    go_wp2_with (go_at_call 21; refine (awake_any _).mono ?_; rintro e w9 ⟨rfl, b9⟩; replace b5 := b5.trans (b9.mono b5.size); clear b9)
    go_ret
    exact ⟨rfl, b5⟩
end Go.Proofs.Ytnnaaoobdofooaa
