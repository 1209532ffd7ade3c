/- MarksOwn walked. -/
import Derived.Test.YtoklnpiehbnalaaBY
import Derived.Test.YtoklnpiehbnalaaAH
namespace Go.Proofs.Ytoklnpiehbnalaa
open Go.RowKit Go.PlainAid
set_option maxHeartbeats 2000000
set_option maxRecDepth 100000
theorem iM_same {m : List Nat} (h : m.length ≤ 12) : iM (wS m) = wS m := by
  unfold iM
  rw [wS_len, Nat.min_eq_left (by omega), wS_extract]
  congr 1
  exact sub_all m
theorem iMs_map {ms : List (List Nat)} (hm : IsMp ms) : iMs (ms.map wS) = ms.map wS := by
  have h1 := hm.most
  have h2 := hm.len
  match ms, h2 with
  | [a, b, c], _ =>
    show [iM (wS a), iM (wS b), iM (wS c)] = [wS a, wS b, wS c]
    rw [iM_same (h1 a (by simp)), iM_same (h1 b (by simp)), iM_same (h1 c (by simp))]
theorem marksOwn_walk (A : Option Addr) (n c : Nat) (s t u : ByteArray) (R : List ByteArray) (L : List Int) (w : World) (hR : R.length = 3) (hL : L.length ≤ 1000)
    (H0 : Hid (∀ V, Calls Try.prog 48 #[.string s, .int .i64 120, .int .i64 3] V fun e w' => e = .returned (.string t) ∧ Below V.heap.size V w'))
    (H1 : Hid (∀ V, Below w.heap.size w V → Calls Try.prog 52 #[.slice A n c, .int .i64 3] V fun e w' => ∃ v, e = .returned v ∧ w'.ownsRow V.heap.size 9 1 v 3 (strv R) ∧ Below V.heap.size V w'))
    (H2 : Hid (∀ V A c, StrsAt V A R → Calls Try.prog 39 #[.slice A 3 c] V fun e w' => ∃ v, e = .returned v ∧ w'.ownsRow V.heap.size 9 1 v 3 (strv R) ∧ Below V.heap.size V w'))
    (H3 : Hid (∀ V, Calls Try.prog 22 #[.string t] V (NewLE V L 0)))
    (H4 : Hid (∀ V A c, StrsAt V A R → Calls Try.prog 40 #[.slice A 3 c, .string t] V fun e w' => e = .returned (.tuple #[.string u, .int .i64 0]) ∧ Below V.heap.size V w'))
    (H5 : Hid (∀ V, Calls Try.prog 28 #[.string t] V (NewL V L))) :
    Calls Try.prog 18 #[.slice A n c, .string s] w fun e w' => e = .returned (.bool true) ∧ Below w.heap.size w w' := by
  have HAW := Lib.hid awake_any
  have b0 := Below.refl w.heap.size w
  obtain ⟨N, hN⟩ : ∃ N, L.length = N := ⟨_, rfl⟩
  have HI := Lib.hid (fun (A B : Option Addr) (c d : Nat) (V : World) (h1 : IntsAt V A L) (h2 : IntsAt V B L) => ints_yes A B c d L N V hN (by omega) h1 h2)
  have HN := Lib.hid hN
  have HR := Lib.hid hR
  have HBE : Hid (∀ s : ByteArray, (s.toList == s.toList) = true) := Lib.hid (fun s => beq_self_eq_true _)
  have hN2 : N ≤ 1000 := by omega
  clear hN hR hL
  go_enter Try.func18, Try.ntmps18
  go_wp2_with (first
    | (go_at_call 48; (with_reducible refine (H0.out _).mono ?_); rintro e w1 ⟨rfl, b1⟩; replace b0 := b0.trans (b1.mono b0.size))
    | (go_at_call 52; (with_reducible refine (H1.out _ b0).mono ?_); rintro e w2 ⟨v1, rfl, o1, b1⟩; replace b0 := b0.trans (b1.mono b0.size); obtain ⟨A1, c1, rfl, -, -, s1⟩ := own_strs o1; rw [HR.out]; clear o1)
    | (go_at_call 39; (with_reducible refine (H2.out _ _ _ s1).mono ?_); rintro e w3 ⟨v2, rfl, o2, b2⟩; replace b0 := b0.trans (b2.mono b0.size); replace s1 := s1.below b2; obtain ⟨A2, c2, rfl, -, -, s2⟩ := own_strs o2; rw [HR.out]; clear o2)
    | (go_at_call 22; ((with_reducible refine (H3.out _).mono ?_); rintro e w4 ⟨v3, rfl, o3, b3⟩); obtain ⟨A3, c3, rfl, W3⟩ := own_wr o3; rw [HN.out] at W3; rw [HN.out]; clear o3)
    | (go_at_call 40; (with_reducible refine (H4.out _ _ _ (s1.below b3)).mono ?_); rintro e w5 ⟨rfl, b5⟩))
  have b35 : Below w3.heap.size w3 w5 := b3.trans (b5.mono b3.size)
  have W5 : Wr w3.heap.size 3 w5 A3 N := fun hp => by
    obtain ⟨b, cs, e, h1, h2, h3⟩ := W3 hp
    exact ⟨b, cs, e, h1, h2.below b5, h3⟩
  clear W3 H0 H1 H2 H4 b1 b2 b3 b5
  go_loopw [12] (fun i wr => ∃ j : Nat, i = .int .i64 j ∧ j ≤ N ∧ Wr w3.heap.size 3 wr A3 N ∧ Below w3.heap.size w3 wr) (fun i _ => N - (intOf i).toNat)
  case atStart => exact ⟨0, rfl, by omega, W5, b35⟩
  case round =>
    clear W5 b35
    obtain ⟨j, rfl, hj, W5, b35⟩ := hrel
    by_cases hlt : j < N
    · have g1 : decide (j < N) = true := decide_eq_true hlt
      obtain ⟨b, cs, hAe, hb, r, hcl⟩ := W5 (by omega)
      obtain ⟨x, hx⟩ : ∃ x, cs[j]? = some x := ⟨_, List.getElem?_eq_getElem (by omega)⟩
      have hcj : wr.cell? ⟨b, j, none⟩ = some x := (r.cell j).trans hx
      have hfj := r.free j
      have HW : Hid (Wr w3.heap.size 3 (wr.setCell ⟨b, j, none⟩ (.int .i64 (-7))) (some ⟨b, 0, none⟩) N) := Lib.hid (fun _ => ⟨b, cs.set j (.int .i64 (-7)), rfl, hb, r.set j _, by rw [List.length_set]; exact hcl⟩)
      have HB : Hid (Below w3.heap.size w3 (wr.setCell ⟨b, j, none⟩ (.int .i64 (-7)))) := Lib.hid (b35.setCell hb _)
      clear W5 hx r hcl
      subst hAe
      go_wp2
      go_roundw
      case rel => exact ⟨j + 1, by go_num, by omega, HW.out, HB.out⟩
      case measure => simp [intOf]; omega
    · obtain rfl : j = N := by omega
      have g1 : decide (j < j) = false := decide_eq_false (by omega)
      have st1 := s1.below b35
      have st2 := s2.below b35
      have b07 := b0.trans (b35.mono b0.size)
      clear s1 s2 b0 b35 W5
      go_wp2_with (first
        | (go_at_call 22; ((with_reducible refine (H3.out _).mono ?_); rintro e w6 ⟨v6, rfl, o6, b6⟩); obtain ⟨A6, c6, rfl, -, -, i6⟩ := own_intsI o6; rw [HN.out]; clear o6; replace st1 := st1.below b6; replace st2 := st2.below b6; replace b07 := b07.trans (b6.mono b07.size)))
      clear H3 b6
      have bz := Below.refl w6.heap.size w6
      go_loopw [15] (fun i wr => ∃ j : Nat, i = .int .i64 j ∧ j ≤ 3 ∧ Below w6.heap.size w6 wr) (fun i _ => 3 - (intOf i).toNat)
      case atStart => exact ⟨0, rfl, by omega, bz⟩
      case round =>
        clear bz
        obtain ⟨k, rfl, hk, bz⟩ := hrel
        by_cases hlt : k < 3
        · have g1 : decide ((k : Int) < 3) = true := decide_eq_true (by omega)
          have g2 : decide (k < 3) = true := decide_eq_true (by omega)
          obtain ⟨p1, q1, e1, -, k1⟩ := (st1.below bz) (by have := HR.out; omega)
          obtain ⟨p2, q2, e2, -, k2⟩ := (st2.below bz) (by have := HR.out; omega)
          have c1' := k1 k (by have := HR.out; omega)
          have c2' := k2 k (by have := HR.out; omega)
          have hbe := HBE.out (gets R k)
          clear k1 k2 st1 st2 i6 HI HN HR HBE H5
          subst e1 e2
          generalize gets R k = y at *
          go_wp2
          go_quiet (fail)
          go_wp2
          go_roundw
          case rel => exact ⟨k + 1, by go_num, by omega, bz.trans (below_drewN nq)⟩
          case measure => simp [intOf]; omega
        · obtain rfl : k = 3 := by omega
          have g1 : decide (((3 : Nat) : Int) < 3) = false := decide_eq_false (by omega)
          have i7 := i6.below bz
          have b08 := b07.trans (bz.mono b07.size)
          clear st1 st2 i6 bz b07
          go_wp2_with (first
            | (go_at_call 28; ((with_reducible refine (H5.out _).mono ?_); rintro e w8 ⟨v8, rfl, o8, b8⟩); obtain ⟨A8, c8, rfl, -, -, i8⟩ := own_intsI o8; rw [HN.out]; clear o8; replace i7 := i7.below b8; replace b08 := b08.trans (b8.mono b08.size))
            | (go_at_call 27; (with_reducible refine (HI.out _ _ _ _ _ i7 i8).mono ?_); rintro e w9 ⟨rfl, m, rfl⟩; replace b08 := b08.trans (below_drewN m))
            | (go_at_call 24; (with_reducible refine (HAW.out _).mono ?_); rintro e w10 ⟨rfl, b10⟩; replace b08 := b08.trans (b10.mono b08.size)))
          go_ret
          exact ⟨rfl, b08⟩
theorem marksOwn_any (A : Option Addr) (c : Nat) (ss : List ByteArray) (s : ByteArray) (w : World) (hx : ss.length ≤ c) (hc : c ≤ maxLen) (hz : ∀ i, (gets ss i).size ≤ maxLen) (ha : StrsAt w A ss) (hs : s.size ≤ maxLen) :
    Calls Try.prog 18 #[.slice A ss.length c, .string s] w fun e w' => e = .returned (.bool true) ∧ Below w.heap.size w w' := by
  unfold maxLen at hc hz hs
  obtain ⟨X, hX⟩ : ∃ X, tmW 3 120 s = X := ⟨_, rfl⟩
  have hl := tmW_len 3 120 s
  have hk : ∀ b, b ∈ X → b < 3 := hX ▸ tmW_ok (by decide) 120 s
  rw [hX] at hl
  have hok : okW X := fun b hb => by have := hk b hb; omega
  have H0 : Hid (∀ V, Calls Try.prog 48 #[.string s, .int .i64 120, .int .i64 3] V fun e w' => e = .returned (.string (wS X)) ∧ Below V.heap.size V w') := Lib.hid (fun V => by rw [← hX]; exact tame_any 3 120 s V (by decide) (by decide) (by omega) (by decide))
  have hm := gMs_map ss
  have hl3 : ((gMs ss).map wS).length = 3 := by rw [List.length_map]; exact hm.len
  have H2 : Hid (∀ V A c, StrsAt V A ((gMs ss).map wS) → Calls Try.prog 39 #[.slice A 3 c] V fun e w' => ∃ v, e = .returned v ∧ w'.ownsRow V.heap.size 9 1 v 3 (strv ((gMs ss).map wS)) ∧ Below V.heap.size V w') := Lib.hid (fun V A c h => by
    have := images_any A c ((gMs ss).map wS) V (by omega) (fun i => Nat.le_trans (mp_size hm i) (by decide)) h
    rw [iMs_map hm, hl3] at this
    exact this)
  have hpl : (perL X).length ≤ 1000 := by have := perU_len X X.length; unfold perL; omega
  exact marksOwn_walk A ss.length c s (wS X) (wS (imW (gMs ss) X)) ((gMs ss).map wS) (perL X) w hl3 hpl H0 (Lib.hid (fun V hV => maps_any A c ss V (by omega) hz (ha.below hV))) H2 (Lib.hid (fun V => Periods_yes X V hok hl)) (Lib.hid (fun V A c h => Image_yes A c (gMs ss) X V hm h hk hl)) (Lib.hid (fun V => refPeriods_any X V hok (by omega)))
end Go.Proofs.Ytoklnpiehbnalaa
