/- SumsBoth, walked. -/
import Derived.Test.YtokjdadgdfmffaaKT
namespace Go.Proofs.Ytokjdadgdfmffaa
open Go.RowKit
set_option maxHeartbeats 1000000
set_option maxRecDepth 100000
theorem SumsBoth_any (p : Int) (A : Option Addr) (c : Nat) (a : List Int) (B : Option Addr) (d : Nat) (b : List Int) (w : World) (hx : a.length ≤ c) (hc : c ≤ maxLen) (ha : IntsAt w A a) (hx' : b.length ≤ d) (hc' : d ≤ maxLen) (hb : IntsAt w B b) :
    Calls Try.prog 6 #[.int .i64 p, .slice A a.length c, .slice B b.length d] w fun e w' => e = .returned (.bool true) ∧ Below w.heap.size w w' := by
  have HB := Lib.hid hb
  have HL1 := Lib.hid (list_copy_any A c a w hx hc ha)
  have HL2 := Lib.hid (fun w' h => list_copy_any B d b w' hx' hc' h)
  have la : (a.take 110).length ≤ 1000000 := by rw [List.length_take]; omega
  have lb : (b.take 110).length ≤ 1000000 := by rw [List.length_take]; omega
  clear hb ha hx hc hx' hc'
  generalize a.take 110 = X at *
  generalize b.take 110 = Y at *
  go_enter Try.func6, Try.ntmps6
  go_wp2_with (go_at_call 14; fail)
  refine HL1.out.mono ?_
  rintro e w1 ⟨v1, n1, rfl, o1, b1⟩
  obtain ⟨A1, c1, rfl, -, -, i1⟩ := own_intsI o1
  have HB1 := Lib.hid (HB.out.below b1)
  go_wp2_with (go_at_call 14; fail)
  refine (HL2.out _ HB1.out).mono ?_
  rintro e w2 ⟨v2, n2, rfl, o2, b2⟩
  obtain ⟨A2, c2, rfl, -, -, i2⟩ := own_intsI o2
  have I1 := Lib.hid (i1.below b2)
  have I2 := Lib.hid i2
  replace b2 := b1.trans (b2.mono b1.size)
  clear HL1 HL2 HB HB1 o1 o2 i1 i2 b1
  cases hok : bothOk p X Y
  · have HBB := Lib.hid (Both_bad p A1 A2 c1 c2 X Y w2 la lb I1.out I2.out hok)
    go_wp2_with (go_at_call 35; fail)
    refine HBB.out.mono ?_
    rintro e w3 ⟨rfl, b3⟩
    have J1 := Lib.hid (I1.out.below b3)
    have J2 := Lib.hid (I2.out.below b3)
    replace b3 := b2.trans (b3.mono b2.size)
    clear HBB I1 I2 b2
    unfold bothOk at hok
    cases h1 : prV p
    · have HP := Lib.hid h1
      clear h1 hok
      go_wp2_with (go_at_call 36; with_reducible refine (RefPrime_any p _).mono ?_; rintro e w4 ⟨he, rfl⟩; rw [HP.out] at he; subst he)
      go_wp2_with (go_at_call 20; fail)
      refine (awake_any _).mono ?_
      rintro e w5 ⟨rfl, b5⟩
      go_wp2
      go_ret
      exact ⟨rfl, b3.trans (b5.mono b3.size)⟩
    · have HP := Lib.hid h1
      cases h2 : stV p X
      · have HS := Lib.hid h2
        clear h1 h2 hok
        go_wp2_with (go_at_call 36; with_reducible refine (RefPrime_any p _).mono ?_; rintro e w4 ⟨he, rfl⟩; rw [HP.out] at he; subst he)
        go_wp2_with (go_at_call 37; fail)
        refine (RefSet_any p A1 c1 X _ la J1.out).mono ?_
        rintro e w4 ⟨he, b4⟩
        rw [HS.out] at he
        subst he
        replace b4 := b3.trans (b4.mono b3.size)
        go_wp2_with (go_at_call 20; fail)
        refine (awake_any _).mono ?_
        rintro e w5 ⟨rfl, b5⟩
        go_wp2
        go_ret
        exact ⟨rfl, b4.trans (b5.mono b4.size)⟩
      · have h3 : stV p Y = false := by rw [h1, h2] at hok; simpa using hok
        have HS := Lib.hid h2
        have HT := Lib.hid h3
        clear h1 h2 hok h3
        go_wp2_with (go_at_call 36; with_reducible refine (RefPrime_any p _).mono ?_; rintro e w4 ⟨he, rfl⟩; rw [HP.out] at he; subst he)
        go_wp2_with (go_at_call 37; fail)
        refine (RefSet_any p A1 c1 X _ la J1.out).mono ?_
        rintro e w4 ⟨he, b4⟩
        rw [HS.out] at he
        subst he
        have K2 := Lib.hid (J2.out.below b4)
        replace b4 := b3.trans (b4.mono b3.size)
        go_wp2_with (go_at_call 37; fail)
        refine (RefSet_any p A2 c2 Y _ lb K2.out).mono ?_
        rintro e w5 ⟨he, b5⟩
        rw [HT.out] at he
        subst he
        replace b5 := b4.trans (b5.mono b4.size)
        go_wp2_with (go_at_call 20; fail)
        refine (awake_any _).mono ?_
        rintro e w6 ⟨rfl, b6⟩
        go_wp2
        go_ret
        exact ⟨rfl, b5.trans (b6.mono b5.size)⟩
  · have HBG := Lib.hid (Both_go p A1 A2 c1 c2 X Y w2 la lb I1.out I2.out hok)
    unfold bothOk at hok
    simp only [Bool.and_eq_true] at hok
    obtain ⟨⟨h1, h2⟩, h3⟩ := hok
    have HP := Lib.hid h1
    have HS := Lib.hid h2
    have HT := Lib.hid h3
    have hpp : ∃ q : Nat, p = q ∧ 1 ≤ q ∧ q ≤ 97 := ⟨p.toNat, by have := of_decide_eq_true h1; omega, by have := of_decide_eq_true h1; omega, by have := of_decide_eq_true h1; omega⟩
    obtain ⟨q, rfl, q1, q2⟩ := hpp
    have hlen : (bothL q X Y).length ≤ 97 := colL_len _ _
    clear h1 h2 h3
    go_wp2_with (go_at_call 35; fail)
    refine HBG.out.mono ?_
    rintro e w3 ⟨v3, rfl, o3, b3⟩
    obtain ⟨A3, c3, rfl, -, -, i3⟩ := own_intsI o3
    have J1 := Lib.hid (I1.out.below b3)
    have J2 := Lib.hid (I2.out.below b3)
    have J3 := Lib.hid i3
    replace b3 := b2.trans (b3.mono b2.size)
    clear HBG I1 I2 b2 o3 i3
    go_wp2_with (go_at_call 36; with_reducible refine (RefPrime_any _ _).mono ?_; rintro e w4 ⟨he, rfl⟩; rw [HP.out] at he; subst he)
    go_wp2_with (go_at_call 37; fail)
    refine (RefSet_any q A1 c1 X _ la J1.out).mono ?_
    rintro e w4 ⟨he, b4⟩
    rw [HS.out] at he
    subst he
    have K1 := Lib.hid (J1.out.below b4)
    have K2 := Lib.hid (J2.out.below b4)
    have K3 := Lib.hid (J3.out.below b4)
    replace b4 := b3.trans (b4.mono b3.size)
    clear J1 J2 J3 b3
    go_wp2_with (go_at_call 37; fail)
    refine (RefSet_any q A2 c2 Y _ lb K2.out).mono ?_
    rintro e w5 ⟨he, b5⟩
    rw [HT.out] at he
    subst he
    have J1 := Lib.hid (K1.out.below b5)
    have J2 := Lib.hid (K2.out.below b5)
    have J3 := Lib.hid (K3.out.below b5)
    replace b5 := b4.trans (b5.mono b4.size)
    clear K1 K2 K3 b4
    go_wp2_with (go_at_call 38; fail)
    refine (RefBoth_any q A1 A2 c1 c2 X Y _ ⟨q1, q2⟩ la lb J1.out J2.out (stV_rng HS.out) (stV_rng HT.out)).mono ?_
    rintro e w6 ⟨v6, rfl, o6, b6⟩
    obtain ⟨A6, c6, rfl, -, -, i6⟩ := own_intsI o6
    have K3 := Lib.hid (J3.out.below b6)
    replace b6 := b5.trans (b6.mono b5.size)
    clear J1 J2 J3 b5 o6
    go_wp2_with (go_at_call 23; fail)
    refine (ints_yes _ _ _ _ (bothL q X Y) _ _ rfl (by omega) K3.out i6).mono ?_
    rintro e w7 ⟨rfl, n7, rfl⟩
    have b7 := b6.trans (below_drewN n7)
    clear K3 i6 b6
    go_wp2_with (go_at_call 20; fail)
    refine (awake_any _).mono ?_
    rintro e w8 ⟨rfl, b8⟩
    go_wp2
    go_ret
    exact ⟨rfl, b7.trans (b8.mono b7.size)⟩
end Go.Proofs.Ytokjdadgdfmffaa
