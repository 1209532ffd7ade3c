/- MarksKept walked. -/
import Derived.Test.YtoklnpiehbnalaaCQ
import Derived.Test.YtoklnpiehbnalaaCN
import Derived.Test.YtoklnpiehbnalaaBY
import Derived.Test.YtoklnpiehbnalaaBQ
namespace Go.Proofs.Ytoklnpiehbnalaa
open Go.RowKit Go.PlainAid
set_option maxHeartbeats 2000000
set_option maxRecDepth 100000
theorem marksKept_none (A : Option Addr) (n c : Nat) (s t u i : ByteArray) (R : List ByteArray) (w : World) (hR : R.length = 3) (hi : i.size ≤ 360)
    (H0 : Hid (∀ V, Below w.heap.size w V → Calls Try.prog 52 #[.slice A n c, .int .i64 4] V fun e w' => ∃ v, e = .returned v ∧ w'.ownsRow V.heap.size 9 1 v 3 (strv R) ∧ Below V.heap.size V w'))
    (H1 : Hid (∀ V A c, StrsAt V A R → Calls Try.prog 41 #[.slice A 3 c] V fun e w' => e = .returned (.tuple #[.string ⟨#[]⟩, .int .i64 6]) ∧ Below V.heap.size V w'))
    (H2 : Hid (∀ V, Calls Try.prog 48 #[.string s, .int .i64 30, .int .i64 3] V fun e w' => e = .returned (.string t) ∧ Below V.heap.size V w'))
    (H3 : Hid (∀ V, Calls Try.prog 51 #[.string t] V fun e w' => e = .returned (.string u) ∧ Below V.heap.size V w'))
    (H4 : Hid (∀ V A c, StrsAt V A R → Calls Try.prog 40 #[.slice A 3 c, .string u] V fun e w' => e = .returned (.tuple #[.string i, .int .i64 0]) ∧ Below V.heap.size V w'))
    (H5 : Hid (∀ V, Calls Try.prog 53 #[.string i] V fun e w' => e = .returned (.bool true) ∧ Below V.heap.size V w')) :
    Calls Try.prog 15 #[.slice A n c, .string s] w fun e w' => e = .returned (.bool true) ∧ Below w.heap.size w w' := by
  have HAW := Lib.hid awake_any
  have g1 : decide (360 < i.size) = false := decide_eq_false (by omega)
  have g1' : decide ((360 : Int) < (i.size : Int)) = false := decide_eq_false (by omega)
  have b0 := Below.refl w.heap.size w
  go_enter Try.func15, Try.ntmps15
  go_wp2_with (first
    | (go_at_call 52; (with_reducible refine (H0.out _ b0).mono ?_); rintro e w1 ⟨v1, rfl, o1, b1⟩; replace b0 := b0.trans (b1.mono b0.size); obtain ⟨A1, c1, rfl, -, -, st⟩ := own_strs o1; rw [hR]; clear o1)
    | (go_at_call 41; (with_reducible refine (H1.out _ _ _ st).mono ?_); rintro e w2 ⟨rfl, b2⟩; replace b0 := b0.trans (b2.mono b0.size); replace st := st.below b2)
    | (go_at_call 48; (with_reducible refine (H2.out _).mono ?_); rintro e w3 ⟨rfl, b3⟩; replace b0 := b0.trans (b3.mono b0.size); replace st := st.below b3)
    | (go_at_call 51; (with_reducible refine (H3.out _).mono ?_); rintro e w4 ⟨rfl, b4⟩; replace b0 := b0.trans (b4.mono b0.size); replace st := st.below b4)
    | (go_at_call 40; (with_reducible refine (H4.out _ _ _ st).mono ?_); rintro e w5 ⟨rfl, b5⟩; replace b0 := b0.trans (b5.mono b0.size))
    | (go_at_call 53; (with_reducible refine (H5.out _).mono ?_); rintro e w6 ⟨rfl, b6⟩; replace b0 := b0.trans (b6.mono b0.size))
    | (go_at_call 24; (with_reducible refine (HAW.out _).mono ?_); rintro e w9 ⟨rfl, b9⟩; replace b0 := b0.trans (b9.mono b0.size)))
  go_ret
  exact ⟨rfl, b0⟩
theorem marksKept_some (A : Option Addr) (n c : Nat) (s t u i y z : ByteArray) (R : List ByteArray) (f : Bool) (w : World) (hR : R.length = 3) (hi : i.size ≤ 360) (hy : y.size ≤ 20) (_hu : u.size ≤ 1000) (hf : f = false → y.size ≤ u.size)
    (H0 : Hid (∀ V, Below w.heap.size w V → Calls Try.prog 52 #[.slice A n c, .int .i64 4] V fun e w' => ∃ v, e = .returned v ∧ w'.ownsRow V.heap.size 9 1 v 3 (strv R) ∧ Below V.heap.size V w'))
    (H1 : Hid (∀ V A c, StrsAt V A R → Calls Try.prog 41 #[.slice A 3 c] V fun e w' => e = .returned (.tuple #[.string y, .int .i64 0]) ∧ Below V.heap.size V w'))
    (H2 : Hid (∀ V, Calls Try.prog 48 #[.string s, .int .i64 30, .int .i64 3] V fun e w' => e = .returned (.string t) ∧ Below V.heap.size V w'))
    (H3 : Hid (∀ V, Calls Try.prog 51 #[.string t] V fun e w' => e = .returned (.string u) ∧ Below V.heap.size V w'))
    (H4 : Hid (∀ V A c, StrsAt V A R → Calls Try.prog 40 #[.slice A 3 c, .string u] V fun e w' => e = .returned (.tuple #[.string i, .int .i64 0]) ∧ Below V.heap.size V w'))
    (H5 : Hid (∀ V, Calls Try.prog 53 #[.string i] V fun e w' => e = .returned (.bool f) ∧ Below V.heap.size V w'))
    (H6 : Hid (∀ V, Calls Try.prog 44 #[.string y, .int .i64 3] V fun e w' => e = .returned (.bool true) ∧ V = w'))
    (H7 : Hid (∀ V, Calls Try.prog 53 #[.string y] V fun e w' => e = .returned (.bool true) ∧ Below V.heap.size V w'))
    (H8 : Hid (∀ V A c, StrsAt V A R → Calls Try.prog 40 #[.slice A 3 c, .string y] V fun e w' => e = .returned (.tuple #[.string z, .int .i64 0]) ∧ Below V.heap.size V w'))
    (H9 : Hid (∀ V, Calls Try.prog 53 #[.string z] V fun e w' => e = .returned (.bool false) ∧ Below V.heap.size V w')) :
    Calls Try.prog 15 #[.slice A n c, .string s] w fun e w' => e = .returned (.bool true) ∧ Below w.heap.size w w' := by
  have HAW := Lib.hid awake_any
  have g1 : decide (360 < i.size) = false := decide_eq_false (by omega)
  have g1' : decide ((360 : Int) < (i.size : Int)) = false := decide_eq_false (by omega)
  have g2 : decide (20 < y.size) = false := decide_eq_false (by omega)
  have g2' : decide ((20 : Int) < (y.size : Int)) = false := decide_eq_false (by omega)
  have b0 := Below.refl w.heap.size w
  cases f with
  | true =>
    clear hf
    go_enter Try.func15, Try.ntmps15
    go_wp2_with (first
      | (go_at_call 52; (with_reducible refine (H0.out _ b0).mono ?_); rintro e w1 ⟨v1, rfl, o1, b1⟩; replace b0 := b0.trans (b1.mono b0.size); obtain ⟨A1, c1, rfl, -, -, st⟩ := own_strs o1; rw [hR]; clear o1)
      | (go_at_call 41; (with_reducible refine (H1.out _ _ _ st).mono ?_); rintro e w2 ⟨rfl, b2⟩; replace b0 := b0.trans (b2.mono b0.size); replace st := st.below b2)
      | (go_at_call 48; (with_reducible refine (H2.out _).mono ?_); rintro e w3 ⟨rfl, b3⟩; replace b0 := b0.trans (b3.mono b0.size); replace st := st.below b3)
      | (go_at_call 51; (with_reducible refine (H3.out _).mono ?_); rintro e w4 ⟨rfl, b4⟩; replace b0 := b0.trans (b4.mono b0.size); replace st := st.below b4)
      | (go_at_call 40; first | ((with_reducible refine (H4.out _ _ _ st).mono ?_); rintro e w5 ⟨rfl, b5⟩; replace b0 := b0.trans (b5.mono b0.size); replace st := st.below b5) | ((with_reducible refine (H8.out _ _ _ st).mono ?_); rintro e w5 ⟨rfl, b5⟩; replace b0 := b0.trans (b5.mono b0.size); replace st := st.below b5))
      | (go_at_call 44; (with_reducible refine (H6.out _).mono ?_); rintro e w7 ⟨rfl, rfl⟩)
      | (go_at_call 53; first | ((with_reducible refine (H5.out _).mono ?_); rintro e w6 ⟨rfl, b6⟩; replace b0 := b0.trans (b6.mono b0.size); replace st := st.below b6) | ((with_reducible refine (H7.out _).mono ?_); rintro e w6 ⟨rfl, b6⟩; replace b0 := b0.trans (b6.mono b0.size); replace st := st.below b6) | ((with_reducible refine (H9.out _).mono ?_); rintro e w6 ⟨rfl, b6⟩; replace b0 := b0.trans (b6.mono b0.size); replace st := st.below b6))
      | (go_at_call 24; (with_reducible refine (HAW.out _).mono ?_); rintro e w9 ⟨rfl, b9⟩; replace b0 := b0.trans (b9.mono b0.size)))
    go_ret
    exact ⟨rfl, b0⟩
  | false =>
    have hyu := hf rfl
    have g3 : decide (y.size ≤ u.size) = true := decide_eq_true (by omega)
    have g3' : decide ((y.size : Int) ≤ (u.size : Int)) = true := decide_eq_true (by omega)
    clear hf
    go_enter Try.func15, Try.ntmps15
    go_wp2_with (first
      | (go_at_call 52; (with_reducible refine (H0.out _ b0).mono ?_); rintro e w1 ⟨v1, rfl, o1, b1⟩; replace b0 := b0.trans (b1.mono b0.size); obtain ⟨A1, c1, rfl, -, -, st⟩ := own_strs o1; rw [hR]; clear o1)
      | (go_at_call 41; (with_reducible refine (H1.out _ _ _ st).mono ?_); rintro e w2 ⟨rfl, b2⟩; replace b0 := b0.trans (b2.mono b0.size); replace st := st.below b2)
      | (go_at_call 48; (with_reducible refine (H2.out _).mono ?_); rintro e w3 ⟨rfl, b3⟩; replace b0 := b0.trans (b3.mono b0.size); replace st := st.below b3)
      | (go_at_call 51; (with_reducible refine (H3.out _).mono ?_); rintro e w4 ⟨rfl, b4⟩; replace b0 := b0.trans (b4.mono b0.size); replace st := st.below b4)
      | (go_at_call 40; first | ((with_reducible refine (H4.out _ _ _ st).mono ?_); rintro e w5 ⟨rfl, b5⟩; replace b0 := b0.trans (b5.mono b0.size); replace st := st.below b5) | ((with_reducible refine (H8.out _ _ _ st).mono ?_); rintro e w5 ⟨rfl, b5⟩; replace b0 := b0.trans (b5.mono b0.size); replace st := st.below b5))
      | (go_at_call 44; (with_reducible refine (H6.out _).mono ?_); rintro e w7 ⟨rfl, rfl⟩)
      | (go_at_call 53; first | ((with_reducible refine (H5.out _).mono ?_); rintro e w6 ⟨rfl, b6⟩; replace b0 := b0.trans (b6.mono b0.size); replace st := st.below b6) | ((with_reducible refine (H7.out _).mono ?_); rintro e w6 ⟨rfl, b6⟩; replace b0 := b0.trans (b6.mono b0.size); replace st := st.below b6) | ((with_reducible refine (H9.out _).mono ?_); rintro e w6 ⟨rfl, b6⟩; replace b0 := b0.trans (b6.mono b0.size); replace st := st.below b6))
      | (go_at_call 24; (with_reducible refine (HAW.out _).mono ?_); rintro e w9 ⟨rfl, b9⟩; replace b0 := b0.trans (b9.mono b0.size)))
    go_ret
    exact ⟨rfl, b0⟩
theorem marksKept_any (A : Option Addr) (c : Nat) (ss : List ByteArray) (s : ByteArray) (w : World) (hx : ss.length ≤ c) (hc : c ≤ maxLen) (hz : ∀ i, (gets ss i).size ≤ maxLen) (ha : StrsAt w A ss) (hs : s.size ≤ maxLen) :
    Calls Try.prog 15 #[.slice A ss.length c, .string s] w fun e w' => e = .returned (.bool true) ∧ Below w.heap.size w w' := by
  unfold maxLen at hc hz hs
  obtain ⟨X, hX⟩ : ∃ X, tmW 3 30 s = X := ⟨_, rfl⟩
  have hl := tmW_len 3 30 s
  have hk := tmW_ok (k := 3) (by decide) 30 s
  have H2 := Lib.hid (fun V => tame_any 3 30 s V (by decide) (by decide) hs (by decide))
  rw [hX] at hl hk H2
  have hok : okW X := fun b hb => by have := hk b hb; omega
  have H3 := Lib.hid (fun V => free51_any X V hok (by omega))
  obtain ⟨p1, p2, -⟩ := prefN_facts X
  obtain ⟨U, hU⟩ : ∃ U, X.take (prefN X) = U := ⟨_, rfl⟩
  have hUl : U.length ≤ 30 := by rw [← hU, List.length_take]; omega
  have hUk : letW 3 U := fun b hb => hk b (by rw [← hU] at hb; exact List.mem_of_mem_take hb)
  rw [hU] at p2 H3
  have hm := gNs_map ss
  have H0 := Lib.hid (fun V (hV : Below w.heap.size w V) => maps4_any A c ss V (by omega) hz (ha.below hV))
  generalize gNs ss = ms at *
  have hR : (ms.map wS).length = 3 := by rw [List.length_map]; exact hm.len
  have H1 := fun V A c ha => Keeps_yes A c ms V hm ha
  have H4 := Lib.hid (fun V A c ha => Image_yes A c ms U V hm ha hUk (by omega))
  have hil := imW_len hm hUk
  have H5 := fun V => refFree_any (imW ms U) V (imW_ok hm hUk) (by omega)
  cases hkp : kpX ms with
  | none =>
    rw [hkp] at H1
    rw [kp_all hm hkp hUk p2] at H5
    exact marksKept_none A _ c s _ _ _ _ w hR (by rw [wS_len]; omega) H0 (Lib.hid H1) H2 H3 H4 (Lib.hid H5)
  | some y =>
    rw [hkp] at H1
    obtain ⟨k1, k2, k3, k4, k5⟩ := kp_some hkp
    have hyo : okW y := fun b hb => by have := k1 b hb; omega
    have hyl := imW_len hm k1
    have H6 := Lib.hid (fun V => refLetters_any (wS y) 3 V (by rw [wS_len]; omega) (by decide))
    rw [lettersK k1 (by decide)] at H6
    have H7 := Lib.hid (fun V => refFree_any y V hyo (by omega))
    rw [k2] at H7
    have H8 := Lib.hid (fun V A c ha => Image_yes A c ms y V hm ha k1 (by omega))
    have H9 := Lib.hid (fun V => refFree_any (imW ms y) V (imW_ok hm k1) (by omega))
    rw [k3] at H9
    exact marksKept_some A _ c s _ _ _ _ _ _ (free (imW ms U)) w hR (by rw [wS_len]; omega) (by rw [wS_len]; omega) (by rw [wS_len]; omega) (fun h => by
      rw [wS_len, wS_len]
      rcases Nat.lt_or_ge U.length y.length with h1 | h1
      · rw [k5 U hUk p2 h1] at h; cases h
      · exact h1) H0 (Lib.hid H1) H2 H3 H4 (Lib.hid H5) H6 H7 H8 H9
end Go.Proofs.Ytoklnpiehbnalaa
