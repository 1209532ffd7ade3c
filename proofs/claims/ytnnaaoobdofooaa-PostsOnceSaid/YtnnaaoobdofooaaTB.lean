/- PostsOnce, walked. -/
import Derived.Test.YtnnaaoobdofooaaTA
import Derived.Test.YtnnaaoobdofooaaSY
import Derived.Test.YtnnaaoobdofooaaSK
namespace Go.Proofs.Ytnnaaoobdofooaa
open Go.RowKit
set_option maxHeartbeats 1000000
set_option maxRecDepth 100000
theorem PostsOnce_any (n0 : Int) (A : Option Addr) (c : Nat) (L : List (List Int)) (B : Option Addr) (d : Nat) (l : List Int) (w : World) (_hx : L.length ≤ c) (_hc : c ≤ maxLen) (ha : RowsIn w A L) (hxB : l.length ≤ d) (hcB : d ≤ maxLen) (hB : IntsAt w B l) :
    Calls Try.prog 10 #[.int .i64 n0, .slice A L.length c, .slice B l.length d] w fun e w' => e = .returned (.bool true) ∧ Below w.heap.size w w' := by
  have hmm := modI_lt n0 (n := 10) (by omega)
  have HM1 : Hid (∀ W : World, Calls Try.prog 43 #[.int .i64 n0, .int .i64 10] W fun e w' => e = .returned (.int .i64 (modI n0 10)) ∧ W = w') := Lib.hid (fun W => mod_any n0 10 W (by omega) (by omega))
  generalize modI n0 10 = m at *
  obtain ⟨n, hn⟩ : ∃ n, n = m + 1 := ⟨_, rfl⟩
  have hT := tmL_isT L (n := n) (mo := 9) (by omega) (by omega)
  have HTM : Hid (∀ (V : World) (z : Int), z = n → Below w.heap.size w V → Calls Try.prog 44 #[.slice A L.length c, .int .i64 z, .int .i64 9] V fun e w' => ∃ A' c' cs, e = .returned (.slice A' n c') ∧ w'.ownsRow V.heap.size 27 1 (.slice A' n c') n cs ∧ RowsOwn w' V.heap.size cs (tmL L n 9) ∧ Below V.heap.size V w') := Lib.hid (fun V z hz hV => by subst hz; exact tame_any A c L n 9 V (by omega) (by omega) (ha.below hV))
  have hTl : (tmL L n 9).length = n := tmP_len L n 9 n
  generalize tmL L n 9 = T at *
  have HL1 := Lib.hid (fun (V : World) hV => list_copy_any B d l V hxB hcB (hB.below hV))
  have lY : (l.take 12).length ≤ 12 := by rw [List.length_take]; omega
  generalize l.take 12 = Y at *
  have HN := Lib.hid hn
  have hn10 : 1 ≤ n ∧ n ≤ 10 := by omega
  have b0 := Below.refl w.heap.size w
  clear hn ha hxB hcB hB
  go_enter Try.func10, Try.ntmps10
  go_wp2_with (go_at_call 43; refine (HM1.out _).mono ?_; rintro e w1 ⟨rfl, rfl⟩)
  refine (HTM.out _ _ (by have := HN.out; omega) b0).mono ?_
  rintro e w2 ⟨A2, c2, cs2, rfl, o2, R2, b2⟩
  have C2 := Lib.hid (rows_c R2 o2)
  have z2 := Below.refl w2.heap.size w2
  clear HTM R2 o2 HM1
  by_cases hk : 0 < chN T (sAll T.length)
  · have hp := (perm_chN hT).2 hk
    obtain ⟨hps, hil⟩ := itm_poss hT (Int.le_refl 0) hk
    have HC := Lib.hid (fun (V : World) hV => by have := Choose_yes A2 c2 T V hT hk (C2.out.at.below hV); rw [hil, hTl] at this; exact this)
    have HPM := Lib.hid (fun (V : World) hV => by have := Permanent_yes A2 c2 T V hT (C2.out.at.below hV); rw [hTl] at this; exact this)
    have hck : chk T [] Y = false := by
      unfold chk
      rw [not_both hT hk Y]
      have : possB T [] = false := by unfold possB colsOk; rw [decide_eq_false (show ¬ ([] : List Int).length = T.length by simp; omega)]; simp
      rw [this]; simp
    have HK : Hid (∀ (V : World) (A3 : Option Addr) (c3 : Nat), Below w2.heap.size w2 V → IntsAt V A3 Y → Calls Try.prog 32 #[.slice A2 n c2, .slice none 0 0, .slice A3 Y.length c3] V fun e w' => e = .returned (.int .i64 10) ∧ Below V.heap.size V w') := Lib.hid (fun V A3 c3 hV hA => by
      have := CheckChoice_yes A2 none A3 c2 0 c3 T [] Y V hT (by simp) (by omega) (C2.out.at.below hV) (ints_nil V) hA
      rw [hck, hTl] at this
      exact this)
    clear hck hps hil hk hT hTl C2
    generalize itm T T.length (sAll T.length) 0 = X at *
    generalize perm T = p at *
    have g1 : decide (0 < p) = true := decide_eq_true hp
    have g2 : decide (0 < n) = true := decide_eq_true (by omega)
    go_wp2_with (go_at_call 31; fail)
    refine (HC.out _ z2).mono ?_
    rintro e w3 ⟨A3, c3, rfl, o3, b3⟩
    clear o3
    go_wp2_with (go_at_call 18; fail)
    refine (HPM.out _ b3).mono ?_
    rintro e w4 ⟨rfl, b4⟩
    replace b4 := b3.trans (b4.mono b3.size)
    have b5 := b2.trans (b4.mono b2.size)
    clear HC HPM b3
    go_wp2_with (go_at_call 34; fail)
    refine (HL1.out _ b5).mono ?_
    rintro e w6 ⟨v6, n6, rfl, o6, b6⟩
    obtain ⟨A6, c6, rfl, -, -, i6⟩ := own_intsI o6
    replace b4 := b4.trans (b6.mono b4.size)
    replace b5 := b5.trans (b6.mono b5.size)
    have HK2 := Lib.hid (HK.out _ A6 c6 b4 i6)
    clear HK HL1 o6 i6 b6 b4
    go_wp2_with (go_at_call 32; fail)
    refine HK2.out.mono ?_
    rintro e w7 ⟨rfl, b7⟩
    replace b5 := b5.trans (b7.mono b5.size)
    clear HK2 b7 b2 z2
    go_wp2_with (go_at_call 21; refine (awake_any _).mono ?_; rintro e w9 ⟨rfl, b9⟩; replace b5 := b5.trans (b9.mono b5.size); clear b9)
    go_ret
    exact ⟨rfl, b5⟩
  · have hp : ¬ 0 < perm T := fun h => hk ((perm_chN hT).1 h)
    have hbk := blkL_ok hT (by omega)
    have hbl : (blkL T).length ≤ 10 := lsS_len _ 10
    have hb0 : 0 < (blkL T).length := by
      unfold blkB at hbk
      simp only [Bool.and_eq_true, decide_eq_true_eq] at hbk
      omega
    have HC := Lib.hid (fun (V : World) hV => by have := Choose_none A2 c2 T V hT (by omega) (C2.out.at.below hV); rw [hTl] at this; exact this)
    have HPM := Lib.hid (fun (V : World) hV => by have := Permanent_yes A2 c2 T V hT (C2.out.at.below hV); rw [hTl] at this; exact this)
    have hck : chk T Y [] = false := by
      unfold chk
      rw [blkB_nil]
      have : possB T Y = false := by
        cases h : possB T Y
        · rfl
        · exact absurd (poss_chN hT h) hk
      rw [this]; simp
    have HK : Hid (∀ (V : World) (A3 : Option Addr) (c3 : Nat), Below w2.heap.size w2 V → IntsAt V A3 Y → Calls Try.prog 32 #[.slice A2 n c2, .slice A3 Y.length c3, .slice none 0 0] V fun e w' => e = .returned (.int .i64 10) ∧ Below V.heap.size V w') := Lib.hid (fun V A3 c3 hV hA => by
      have := CheckChoice_yes A2 A3 none c2 c3 0 T Y [] V hT (by omega) (by simp) (C2.out.at.below hV) hA (ints_nil V)
      rw [hck, hTl] at this
      exact this)
    clear hck hbk hk hT hTl C2
    generalize blkL T = X at *
    generalize perm T = p at *
    have g1 : decide (0 < p) = false := decide_eq_false hp
    have g2 : decide (0 < X.length) = true := decide_eq_true hb0
    go_wp2_with (go_at_call 31; fail)
    refine (HC.out _ z2).mono ?_
    rintro e w3 ⟨A3, c3, rfl, o3, b3⟩
    clear o3
    go_wp2_with (go_at_call 18; fail)
    refine (HPM.out _ b3).mono ?_
    rintro e w4 ⟨rfl, b4⟩
    replace b4 := b3.trans (b4.mono b3.size)
    have b5 := b2.trans (b4.mono b2.size)
    clear HC HPM b3
    go_wp2_with (go_at_call 34; fail)
    refine (HL1.out _ b5).mono ?_
    rintro e w6 ⟨v6, n6, rfl, o6, b6⟩
    obtain ⟨A6, c6, rfl, -, -, i6⟩ := own_intsI o6
    replace b4 := b4.trans (b6.mono b4.size)
    replace b5 := b5.trans (b6.mono b5.size)
    have HK2 := Lib.hid (HK.out _ A6 c6 b4 i6)
    clear HK HL1 o6 i6 b6 b4
    go_wp2_with (go_at_call 32; fail)
    refine HK2.out.mono ?_
    rintro e w7 ⟨rfl, b7⟩
    replace b5 := b5.trans (b7.mono b5.size)
    clear HK2 b7 b2 z2
    go_wp2_with (go_at_call 21; refine (awake_any _).mono ?_; rintro e w9 ⟨rfl, b9⟩; replace b5 := b5.trans (b9.mono b5.size); clear b9)
    go_ret
    exact ⟨rfl, b5⟩
end Go.Proofs.Ytnnaaoobdofooaa
