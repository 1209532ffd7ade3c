/- OrderTables, walked. -/
import Derived.Test.YtheblebfeinjjaaOK
namespace Go.Proofs.Ytheblebfeinjjaa
open Go.RowKit
set_option maxHeartbeats 1000000
set_option maxRecDepth 100000
theorem OrderTables_any (A : Option Addr) (c : Nat) (a : List Int) (w : World) (hx : a.length ≤ c) (hc : c ≤ maxLen) (ha : IntsAt w A a) :
    Calls Try.prog 4 #[.slice A a.length c] w fun e w' => e = .returned (.bool true) ∧ Below w.heap.size w w' := by
  have HL1 := Lib.hid (list_copy_any A c a w hx hc ha)
  have la : (a.take 13).length ≤ 13 := by rw [List.length_take]; omega
  clear ha hx hc
  generalize a.take 13 = X at *
  go_enter Try.func4, Try.ntmps4
  go_wp2_with (go_at_call 15; fail)
  refine HL1.out.mono ?_
  rintro e w1 ⟨v1, n1, rfl, o1, b1⟩
  obtain ⟨A1, c1, rfl, -, -, i1⟩ := own_intsI o1
  clear HL1 o1
  cases hT : isT X
  · have HO := Lib.hid (Order_no A1 c1 X w1 (by omega) hT i1)
    have I1 := Lib.hid i1
    have HT := Lib.hid hT
    clear i1 hT
    go_wp2_with (go_at_call 27; fail)
    refine HO.out.mono ?_
    rintro e w2 ⟨rfl, b2⟩
    have HM := Lib.hid (Made_any A1 c1 X w2 (by omega) (I1.out.below b2))
    replace b2 := b1.trans (b2.mono b1.size)
    clear HO I1 b1
    go_wp2_with (go_at_call 28; fail)
    refine HM.out.mono ?_
    rintro e w3 ⟨hm, b3⟩
    unfold madeR at hm
    rw [HT.out] at hm
    obtain ⟨A3, n3, c3, rfl⟩ := hm
    replace b3 := b2.trans (b3.mono b2.size)
    clear HM b2
    go_wp2_with (go_at_call 21; refine (awake_any _).mono ?_; rintro e w5 ⟨rfl, b5⟩; replace b3 := b3.trans (b5.mono b3.size); clear b5)
    go_ret
    exact ⟨rfl, b3⟩
  · have HO := Lib.hid (Order_yes A1 c1 X w1 hT i1)
    have I1 := Lib.hid i1
    have HT := Lib.hid hT
    clear i1 hT
    go_wp2_with (go_at_call 27; fail)
    refine HO.out.mono ?_
    rintro e w2 ⟨A2, c2, rfl, i2, -, b2⟩
    have HM := Lib.hid (Made_any A1 c1 X w2 (by omega) (I1.out.below b2))
    have I2 := Lib.hid i2
    replace b2 := b1.trans (b2.mono b1.size)
    clear HO I1 b1 i2
    go_wp2_with (go_at_call 28; fail)
    refine HM.out.mono ?_
    rintro e w3 ⟨hm, b3⟩
    unfold madeR at hm
    rw [HT.out] at hm
    obtain ⟨A3, c3, rfl, o3⟩ := hm
    obtain ⟨A3', c3', e3, -, -, i3⟩ := own_intsI o3
    injection e3 with e1 e2 e4
    subst e1 e4
    have HI := Lib.hid (ints_yes A2 A3 c2 c3 (mdL X) X.length w3 (mdL_len X) (by omega) (I2.out.below b3) i3)
    replace b3 := b2.trans (b3.mono b2.size)
    clear HM b2 o3 e2 i3 I2
    go_wp2_with (first
      | (go_at_call 23; refine HI.out.mono ?_; rintro e w4 ⟨rfl, n4, rfl⟩; replace b3 := b3.trans (below_drewN n4))
      | (go_at_call 21; refine (awake_any _).mono ?_; rintro e w5 ⟨rfl, b5⟩; replace b3 := b3.trans (b5.mono b3.size); clear b5))
    go_ret
    exact ⟨rfl, b3⟩
end Go.Proofs.Ytheblebfeinjjaa
