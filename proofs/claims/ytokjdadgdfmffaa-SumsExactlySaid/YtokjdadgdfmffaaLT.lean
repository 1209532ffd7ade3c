/- SumsExactly, walked. -/
import Derived.Test.YtokjdadgdfmffaaLS
namespace Go.Proofs.Ytokjdadgdfmffaa
open Go.RowKit
set_option maxHeartbeats 1000000
set_option maxRecDepth 100000
theorem exL_gr {n : Nat} (hn : 1 ≤ n ∧ n ≤ 20) (xs : List Int) (hl : xs.length = 2 * n - 1) : exL n xs = grL n 0 xs n 0 := by
  have hg : Gr n n := ⟨hn.1, by omega, hn.1, by omega⟩
  obtain ⟨hlen, -, -, -⟩ := exL_some hn xs hl
  have h0 : 0 < (exL n xs).length := by omega
  have h1 := isP_cn xs 0 _ 0 0 (sh_sound hg (exE n xs) 0 0 0 h0)
  have h2 : cnB n xs n 0 = true := by
    have h := h1.1
    change cnB n xs (exL n xs).length 0 = true at h
    rwa [hlen] at h
  have h3 := sh_gr hn xs 0 n 0 (by omega) (by omega) (by omega) (by omega) h2
  rw [Int.emod_self] at h3
  exact h3
theorem SumsExactly_any (n : Int) (A : Option Addr) (c : Nat) (a : List Int) (w : World) (hx : a.length ≤ c) (hc : c ≤ maxLen) (ha : IntsAt w A a) :
    Calls Try.prog 5 #[.int .i64 n, .slice A a.length c] w fun e w' => e = .returned (.bool true) ∧ Below w.heap.size w w' := by
  have HL1 := Lib.hid (list_copy_any A c a w hx hc ha)
  have la : (a.take 110).length ≤ 1000 := by rw [List.length_take]; omega
  clear ha hx hc
  generalize a.take 110 = X at *
  go_enter Try.func5, Try.ntmps5
  go_wp2_with (go_at_call 14; fail)
  refine HL1.out.mono ?_
  rintro e w1 ⟨v1, n1, rfl, o1, b1⟩
  obtain ⟨A1, c1, rfl, -, -, i1⟩ := own_intsI o1
  have I1 := Lib.hid i1
  clear HL1 o1 i1
  by_cases hv : n < 1 ∨ 20 < n ∨ (X.length : Int) ≠ 2 * n - 1
  · have HE := Lib.hid (Exactly_bad n A1 c1 X w1 (by omega) hv)
    go_wp2_with (go_at_call 33; fail)
    refine HE.out.mono ?_
    rintro e w2 ⟨rfl, b2⟩
    replace b2 := b1.trans (b2.mono b1.size)
    have fin : ∀ w, Below w1.heap.size w1 w → True := fun _ _ => trivial
    clear HE fin
    by_cases h1 : n < 1
    · have g1 : decide (n < 1) = true := decide_eq_true h1
      clear hv h1
      go_wp2_with (go_at_call 20; fail)
      refine (awake_any _).mono ?_
      rintro e w5 ⟨rfl, b5⟩
      go_wp2
      go_ret
      exact ⟨rfl, b2.trans (b5.mono b2.size)⟩
    · have g1 : decide (n < 1) = false := decide_eq_false h1
      by_cases h2 : 20 < n
      · have g2 : decide (20 < n) = true := decide_eq_true h2
        clear hv h1 h2
        go_wp2_with (go_at_call 20; fail)
        refine (awake_any _).mono ?_
        rintro e w5 ⟨rfl, b5⟩
        go_wp2
        go_ret
        exact ⟨rfl, b2.trans (b5.mono b2.size)⟩
      · have g2 : decide (20 < n) = false := decide_eq_false h2
        have g3 : ((X.length : Int) != 2 * n - 1) = true := by simp; omega
        clear hv
        go_wp2_with (go_at_call 20; fail)
        refine (awake_any _).mono ?_
        rintro e w5 ⟨rfl, b5⟩
        go_wp2
        go_ret
        exact ⟨rfl, b2.trans (b5.mono b2.size)⟩
  · obtain ⟨q, rfl⟩ : ∃ q : Nat, n = q := ⟨n.toNat, by omega⟩
    have hq : 1 ≤ q ∧ q ≤ 20 := by omega
    have hXl : X.length = 2 * q - 1 := by omega
    have HGR := Lib.hid (exL_gr hq X hXl)
    obtain ⟨hlen, -, -, -⟩ := exL_some hq X hXl
    have HE := Lib.hid (Exactly_go q A1 c1 X w1 hq hXl I1.out (by omega))
    have g1 : decide ((q : Int) < 1) = false := decide_eq_false (by omega)
    have g2 : decide ((20 : Int) < q) = false := decide_eq_false (by omega)
    have g3 : ((X.length : Int) != 2 * q - 1) = false := by simp; omega
    generalize exL q X = L at *
    have HLEN := Lib.hid hlen
    have HRX := Lib.hid (fun (w : World) (h : IntsAt w A1 X) => RefExactly_any q A1 c1 X w hq la h)
    rw [← HGR.out] at HRX
    obtain ⟨hq1, hq2⟩ := hq
    clear hv hlen hXl HGR
    go_wp2_with (go_at_call 33; fail)
    refine HE.out.mono ?_
    rintro e w2 ⟨b2, o2, c2, rfl, i2, b3⟩
    have J1 := Lib.hid (I1.out.below b3)
    have J2 := Lib.hid i2
    replace b3 := b1.trans (b3.mono b1.size)
    clear HE I1 i2 b1
    have HRE := Lib.hid (HRX.out w2 J1.out)
    clear HRX
    go_wp2_with (go_at_call 34; fail)
    refine HRE.out.mono ?_
    rintro e w3 ⟨v3, rfl, o3, b4⟩
    obtain ⟨A3, c3, rfl, -, -, i3⟩ := own_intsI o3
    have K2 := Lib.hid (J2.out.below b4)
    replace b4 := b3.trans (b4.mono b3.size)
    have I3 := Lib.hid i3
    clear HRE o3 i3 J1 J2 b3
    go_wp2_with (go_at_call 23; fail)
    refine (ints_yes _ _ _ _ L _ _ rfl (by have := HLEN.out; omega) K2.out I3.out).mono ?_
    rintro e w4 ⟨rfl, n4, rfl⟩
    replace b4 := b4.trans (below_drewN n4)
    clear K2 I3
    go_wp2_with (go_at_call 20; fail)
    refine (awake_any _).mono ?_
    rintro e w5 ⟨rfl, b5⟩
    go_wp2
    go_ret
    exact ⟨rfl, b4.trans (b5.mono b4.size)⟩
end Go.Proofs.Ytokjdadgdfmffaa
