/- SumsMultiples, walked. -/
import Derived.Test.YtokjdadgdfmffaaLC
namespace Go.Proofs.Ytokjdadgdfmffaa
open Go.RowKit
set_option maxHeartbeats 2000000
set_option maxRecDepth 100000
/-- The sum of the numbers at the first so many positions. -/
def psum (L P : List Int) (j : Nat) : Int := ((P.take j).map fun x => geti L x.toNat).sum
theorem psum_step (L P : List Int) {j : Nat} (h : j < P.length) : psum L P (j + 1) = psum L P j + geti L (geti P j).toNat := by
  unfold psum
  rw [List.take_succ_eq_append_getElem h, List.map_append, List.sum_append, ← geti_eq h]
  simp
theorem psum_rng (L P : List Int) (hL : ∀ y ∈ L, -1099511627776 ≤ y ∧ y ≤ 1099511627776) (hP : ∀ x ∈ P, 0 ≤ x ∧ x < L.length) : ∀ j, j ≤ P.length → -(j * 1099511627776 : Int) ≤ psum L P j ∧ psum L P j ≤ j * 1099511627776
  | 0, _ => by simp [psum]
  | j + 1, h => by
    have ih := psum_rng L P hL hP j (by omega)
    rw [psum_step L P (by omega)]
    have h1 := hP _ (geti_mem (xs := P) (i := j) (by omega))
    have h2 := hL _ (geti_mem (xs := L) (i := (geti P j).toNat) (by omega))
    rw [Int.natCast_add]
    omega
theorem SumsMultiples_any (n0 : Int) (A : Option Addr) (c : Nat) (xs : List Int) (by0 : Int) (w : World) (hx : xs.length ≤ c) (hc : c ≤ maxLen) (ha : IntsAt w A xs) :
    Calls Try.prog 11 #[.int .i64 n0, .slice A xs.length c, .int .i64 by0] w fun e w' => e = .returned (.bool true) ∧ Below w.heap.size w w' := by
  have hM := modI_lt n0 (n := 20) (by omega)
  have hD := modI_lt by0 (n := 1000) (by omega)
  have HM : Hid (∀ w, Calls Try.prog 44 #[.int .i64 n0, .int .i64 20] w fun e w' => e = .returned (.int .i64 (modI n0 20)) ∧ w = w') := Lib.hid (fun w => mod_any2 n0 20 w (by omega) (by omega))
  have HDD : Hid (∀ w, Calls Try.prog 44 #[.int .i64 by0, .int .i64 1000] w fun e w' => e = .returned (.int .i64 (modI by0 1000)) ∧ w = w') := Lib.hid (fun w => mod_any2 by0 1000 w (by omega) (by omega))
  have HA := Lib.hid ha
  have hxl : xs.length ≤ 9223372036854775807 := by unfold maxLen at hc; omega
  clear ha hx hc
  generalize modI n0 20 = M at *
  generalize modI by0 1000 = D at *
  have o0 : w.ownsRow w.heap.size 3 1 (.slice none 0 0) 0 (iv (numP xs 0)) := ⟨rfl, .inl ⟨rfl, rfl⟩⟩
  have q0 : w.ownsRow w.heap.size 3 1 (.slice none 0 0) 0 (iv ((numP xs 0).map (· + (D : Int)))) := ⟨rfl, .inl ⟨rfl, rfl⟩⟩
  have ap0 : Hid (Apart (.slice none 0 0) (.slice none 0 0)) := Lib.hid (fun g h1 _ => by simp [Value.ownBlock] at h1)
  obtain ⟨j0, ji, jz0, jz1, jz2⟩ := info_parts info3
  have hb0 : Below w.heap.size w w := Below.refl _ _
  go_enter Try.func11, Try.ntmps11
  go_wp2_with (go_at_call 44; with_reducible refine (HM.out _).mono ?_; rintro e w1 ⟨rfl, rfl⟩)
  go_loopw [7, 8, 9] (fun v u i wr => ∃ k : Nat, k ≤ 2 * M + 1 ∧ i = .int .i64 k ∧ wr.ownsRow w.heap.size 3 1 v k (iv (numP xs k)) ∧ wr.ownsRow w.heap.size 3 1 u k (iv ((numP xs k).map (· + (D : Int)))) ∧ Hid (Apart v u) ∧ Below w.heap.size w wr) (fun _ _ i _ => 2 * M + 1 - (intOf i).toNat)
  case atStart => exact ⟨0, by omega, rfl, o0, q0, ap0, hb0⟩
  case round =>
    clear o0 q0 ap0 hb0
    obtain ⟨k, hk, rfl, o0, q0, ap0, b0⟩ := hrel
    by_cases hlt : k < 2 * M + 1
    · have HAT := Lib.hid (at_any A c xs k wr hxl (by omega) (HA.out.below b0))
      have hnum := numV_rng (geti xs k)
      have HS := Lib.hid (numP_succ xs k)
      have hbs := b0.size
      have HO := Lib.hid o0
      have HQ := Lib.hid q0
      have HN : Hid (numV (geti xs k) = if 1099511627776 < geti xs k ∨ geti xs k < -1099511627776 then (modI (geti xs k) 1099511627776 : Int) else geti xs k) := Lib.hid rfl
      have HB : Hid (∀ w, Calls Try.prog 44 #[.int .i64 (geti xs k), .int .i64 1099511627776] w fun e w' => e = .returned (.int .i64 (modI (geti xs k) 1099511627776)) ∧ w = w') := Lib.hid (fun w => mod_any2 (geti xs k) 1099511627776 w (by omega) (by omega))
      generalize geti xs k = x at *
      by_cases h1 : 1099511627776 < x
      · have HY : Hid (numV x = (modI x 1099511627776 : Int)) := Lib.hid (by rw [HN.out, if_pos (.inl h1)])
        have hr : (modI x 1099511627776 : Int) ≤ 1099511627776 := by have := HY.out; omega
        have g1 : decide (1099511627776 < x) = true := decide_eq_true h1
        generalize modI x 1099511627776 = R at *
        clear h1 hnum
        have hnr : Row (wr.alloc (.cells #[.int .i64 (R : Int)] 3)) wr.heap.size 3 [.int .i64 (R : Int)] := row_new rfl
        go_wp2_with (first
          | (go_at_call 45; with_reducible refine HAT.out.mono ?_; rintro e w2 ⟨rfl, rfl⟩)
          | (go_at_call 44; with_reducible refine (HB.out _).mono ?_; rintro e w3 ⟨rfl, rfl⟩)
          | (go_at_call 44; with_reducible refine (HDD.out _).mono ?_; rintro e w3 ⟨rfl, rfl⟩)
          | ((with_reducible refine (?_ : wpList _ _ _ (Oper.mk (some 41) _ _ _ _ _ :: _) _ _)); refine wpList_append_own_at _ rfl (.tmp 38) (.tmp 40) 22 rfl w.heap.size 3 j0 (.int .i64 0) 1 8 Try.underlying22 ji jz0 jz1 jz2 rfl (by decide) _ k _ rfl (HO.out.alloc _) ⟨wr.heap.size, 0, none⟩ 1 1 [.int .i64 (R : Int)] rfl rfl (news_one hnr) (by simp [Value.oneCell']) (by unfold maxLen; omega) (by omega) (by simp; omega) ?_; intro v4 w4 o4 hg4 _ h4; obtain ⟨q4, ap4⟩ := apart_keep HO.out HQ.out ap0.out hg4 h4; have b4 := b0.trans (app1' HO.out hbs hg4); have hbs4 := b4.size; have hnr4 : Row (w4.alloc (.cells #[.int .i64 ((R : Int) + D)] 3)) w4.heap.size 3 [.int .i64 ((R : Int) + D)] := row_new rfl; have O4 := Lib.hid o4; have Q4 := Lib.hid q4; have AP4 := Lib.hid ap4; clear o4 q4 ap4 hg4 h4)
          | ((with_reducible refine (?_ : wpList _ _ _ (Oper.mk (some 48) _ _ _ _ _ :: _) _ _)); refine wpList_append_own_at _ rfl (.tmp 42) (.tmp 47) 22 rfl w.heap.size 3 j0 (.int .i64 0) 1 8 Try.underlying22 ji jz0 jz1 jz2 rfl (by decide) _ k _ rfl (Q4.out.alloc _) ⟨w4.heap.size, 0, none⟩ 1 1 [.int .i64 ((R : Int) + D)] rfl rfl (news_one hnr4) (by simp [Value.oneCell']) (by unfold maxLen; omega) (by omega) (by simp; omega) ?_; intro v5 w5 o5 hg5 _ h5; obtain ⟨q5, ap5⟩ := apart_keep Q4.out O4.out AP4.out.symm hg5 h5; have b5 := b4.trans (app1' Q4.out hbs4 hg5); have O5 := Lib.hid o5; have Q5 := Lib.hid q5; have AP5 := Lib.hid ap5.symm; clear o5 q5 ap5 hg5 h5))
        go_roundw
        case rel =>
          refine ⟨k + 1, by omega, by go_num, ?_, ?_, AP5, b5⟩
          · rw [HS.out, HY.out, iv_snoc]; exact Q5.out
          · rw [HS.out, HY.out, List.map_append, List.map_cons, List.map_nil, iv_snoc]; exact O5.out
        case measure => simp [intOf]; omega
      · have g1 : decide (1099511627776 < x) = false := decide_eq_false h1
        by_cases h2 : x < -1099511627776
        · have HY : Hid (numV x = (modI x 1099511627776 : Int)) := Lib.hid (by rw [HN.out, if_pos (.inr h2)])
          have hr : (modI x 1099511627776 : Int) ≤ 1099511627776 := by have := HY.out; omega
          have g2 : decide (x < -1099511627776) = true := decide_eq_true h2
          generalize modI x 1099511627776 = R at *
          clear h1 h2 hnum
          have hnr : Row (wr.alloc (.cells #[.int .i64 (R : Int)] 3)) wr.heap.size 3 [.int .i64 (R : Int)] := row_new rfl
          go_wp2_with (first
            | (go_at_call 45; with_reducible refine HAT.out.mono ?_; rintro e w2 ⟨rfl, rfl⟩)
            | (go_at_call 44; with_reducible refine (HB.out _).mono ?_; rintro e w3 ⟨rfl, rfl⟩)
            | (go_at_call 44; with_reducible refine (HDD.out _).mono ?_; rintro e w3 ⟨rfl, rfl⟩)
            | ((with_reducible refine (?_ : wpList _ _ _ (Oper.mk (some 41) _ _ _ _ _ :: _) _ _)); refine wpList_append_own_at _ rfl (.tmp 38) (.tmp 40) 22 rfl w.heap.size 3 j0 (.int .i64 0) 1 8 Try.underlying22 ji jz0 jz1 jz2 rfl (by decide) _ k _ rfl (HO.out.alloc _) ⟨wr.heap.size, 0, none⟩ 1 1 [.int .i64 (R : Int)] rfl rfl (news_one hnr) (by simp [Value.oneCell']) (by unfold maxLen; omega) (by omega) (by simp; omega) ?_; intro v4 w4 o4 hg4 _ h4; obtain ⟨q4, ap4⟩ := apart_keep HO.out HQ.out ap0.out hg4 h4; have b4 := b0.trans (app1' HO.out hbs hg4); have hbs4 := b4.size; have hnr4 : Row (w4.alloc (.cells #[.int .i64 ((R : Int) + D)] 3)) w4.heap.size 3 [.int .i64 ((R : Int) + D)] := row_new rfl; have O4 := Lib.hid o4; have Q4 := Lib.hid q4; have AP4 := Lib.hid ap4; clear o4 q4 ap4 hg4 h4)
            | ((with_reducible refine (?_ : wpList _ _ _ (Oper.mk (some 48) _ _ _ _ _ :: _) _ _)); refine wpList_append_own_at _ rfl (.tmp 42) (.tmp 47) 22 rfl w.heap.size 3 j0 (.int .i64 0) 1 8 Try.underlying22 ji jz0 jz1 jz2 rfl (by decide) _ k _ rfl (Q4.out.alloc _) ⟨w4.heap.size, 0, none⟩ 1 1 [.int .i64 ((R : Int) + D)] rfl rfl (news_one hnr4) (by simp [Value.oneCell']) (by unfold maxLen; omega) (by omega) (by simp; omega) ?_; intro v5 w5 o5 hg5 _ h5; obtain ⟨q5, ap5⟩ := apart_keep Q4.out O4.out AP4.out.symm hg5 h5; have b5 := b4.trans (app1' Q4.out hbs4 hg5); have O5 := Lib.hid o5; have Q5 := Lib.hid q5; have AP5 := Lib.hid ap5.symm; clear o5 q5 ap5 hg5 h5))
          go_roundw
          case rel =>
            refine ⟨k + 1, by omega, by go_num, ?_, ?_, AP5, b5⟩
            · rw [HS.out, HY.out, iv_snoc]; exact Q5.out
            · rw [HS.out, HY.out, List.map_append, List.map_cons, List.map_nil, iv_snoc]; exact O5.out
          case measure => simp [intOf]; omega
        · have HY : Hid (numV x = x) := Lib.hid (by rw [HN.out, if_neg (by omega)])
          have g2 : decide (x < -1099511627776) = false := decide_eq_false h2
          have x1 : -1099511627776 ≤ x := by omega
          have x2 : x ≤ 1099511627776 := by omega
          clear h1 h2 hnum
          have hnr : Row (wr.alloc (.cells #[.int .i64 x] 3)) wr.heap.size 3 [.int .i64 x] := row_new rfl
          go_wp2_with (first
            | (go_at_call 45; with_reducible refine HAT.out.mono ?_; rintro e w2 ⟨rfl, rfl⟩)
            | fail
            | (go_at_call 44; with_reducible refine (HDD.out _).mono ?_; rintro e w3 ⟨rfl, rfl⟩)
            | ((with_reducible refine (?_ : wpList _ _ _ (Oper.mk (some 41) _ _ _ _ _ :: _) _ _)); refine wpList_append_own_at _ rfl (.tmp 38) (.tmp 40) 22 rfl w.heap.size 3 j0 (.int .i64 0) 1 8 Try.underlying22 ji jz0 jz1 jz2 rfl (by decide) _ k _ rfl (HO.out.alloc _) ⟨wr.heap.size, 0, none⟩ 1 1 [.int .i64 x] rfl rfl (news_one hnr) (by simp [Value.oneCell']) (by unfold maxLen; omega) (by omega) (by simp; omega) ?_; intro v4 w4 o4 hg4 _ h4; obtain ⟨q4, ap4⟩ := apart_keep HO.out HQ.out ap0.out hg4 h4; have b4 := b0.trans (app1' HO.out hbs hg4); have hbs4 := b4.size; have hnr4 : Row (w4.alloc (.cells #[.int .i64 (x + D)] 3)) w4.heap.size 3 [.int .i64 (x + D)] := row_new rfl; have O4 := Lib.hid o4; have Q4 := Lib.hid q4; have AP4 := Lib.hid ap4; clear o4 q4 ap4 hg4 h4)
            | ((with_reducible refine (?_ : wpList _ _ _ (Oper.mk (some 48) _ _ _ _ _ :: _) _ _)); refine wpList_append_own_at _ rfl (.tmp 42) (.tmp 47) 22 rfl w.heap.size 3 j0 (.int .i64 0) 1 8 Try.underlying22 ji jz0 jz1 jz2 rfl (by decide) _ k _ rfl (Q4.out.alloc _) ⟨w4.heap.size, 0, none⟩ 1 1 [.int .i64 (x + D)] rfl rfl (news_one hnr4) (by simp [Value.oneCell']) (by unfold maxLen; omega) (by omega) (by simp; omega) ?_; intro v5 w5 o5 hg5 _ h5; obtain ⟨q5, ap5⟩ := apart_keep Q4.out O4.out AP4.out.symm hg5 h5; have b5 := b4.trans (app1' Q4.out hbs4 hg5); have O5 := Lib.hid o5; have Q5 := Lib.hid q5; have AP5 := Lib.hid ap5.symm; clear o5 q5 ap5 hg5 h5))
          go_roundw
          case rel =>
            refine ⟨k + 1, by omega, by go_num, ?_, ?_, AP5, b5⟩
            · rw [HS.out, HY.out, iv_snoc]; exact Q5.out
            · rw [HS.out, HY.out, List.map_append, List.map_cons, List.map_nil, iv_snoc]; exact O5.out
          case measure => simp [intOf]; omega
    · obtain rfl : k = 2 * M + 1 := by omega
      have hPL := exL_some (n := 1 + M) ⟨by omega, by omega⟩ (numP xs (2 * M + 1)) (by rw [numP_len]; omega)
      have hPT := exL_turn (n := 1 + M) ⟨by omega, by omega⟩ (numP xs (2 * M + 1)) (D : Int)
      have hLr := numP_rng xs (2 * M + 1)
      have hLl := numP_len xs (2 * M + 1)
      generalize numP xs (2 * M + 1) = L at *
      obtain ⟨A1, c1, e1, -, -, i1⟩ := own_intsI o0
      subst e1
      obtain ⟨A2, c2, e2, -, -, i2⟩ := own_intsI q0
      rw [List.length_map] at e2
      subst e2
      have hE1 := Exactly_go (1 + M) A1 c1 L wr ⟨by omega, by omega⟩ (by omega) i1 (by rw [hPL.1]; omega)
      have hE2 : ∀ w', IntsAt w' A2 (L.map (· + (D : Int))) → Calls Try.prog 33 #[.int .i64 ((1 + M : Nat) : Int), .slice A2 L.length c2] w' (SomeR w' (exL (1 + M) L)) := fun w' h => by
        have h2 := Exactly_go (1 + M) A2 c2 (L.map (· + (D : Int))) w' ⟨by omega, by omega⟩ (by rw [List.length_map]; omega) h (by rw [hPT, hPL.1]; omega)
        rwa [List.length_map, hPT] at h2
      rw [show ((1 + M : Nat) : Int) = 1 + (M : Int) by omega] at hE1 hE2
      generalize exL (1 + M) L = P at *
      obtain ⟨hP1, hP2, hP3, hP4⟩ := hPL
      have hps : ∀ j, j < P.length → psum L P (j + 1) = psum L P j + geti L (geti P j).toNat := fun j hj => psum_step L P hj
      have hpr := psum_rng L P hLr hP2
      have hpf : psum L P P.length = (P.map fun x => geti L x.toNat).sum := by unfold psum; rw [List.take_length]
      have HE1 := Lib.hid hE1
      have HE2 := Lib.hid hE2
      have HLl := Lib.hid hLl
      have HP1 := Lib.hid hP1
      have HP2 := Lib.hid hP2
      have HP3 := Lib.hid hP3
      have HP4 := Lib.hid hP4
      have HPS := Lib.hid hps
      have HPR := Lib.hid hpr
      have HPF := Lib.hid hpf
      have HLR := Lib.hid hLr
      have HI1 := Lib.hid i1
      have HI2 := Lib.hid i2
      have hLlen : L.length ≤ 39 := by omega
      have hPlen : P.length ≤ 20 := by omega
      have hP0 : 1 ≤ P.length := by omega
      clear hE1 hE2 hLl hP1 hP2 hP3 hP4 hps hpr hpf hLr i1 i2 o0 q0 ap0 hPT hlt hk
      go_wp2_with (go_at_call 33; fail)
      refine HE1.out.mono ?_
      rintro e w2 ⟨b2, o2, c3, rfl, i2, b3⟩
      have J1 := Lib.hid (HI1.out.below b3)
      have J2 := Lib.hid (HI2.out.below b3)
      have J3 := Lib.hid i2
      replace b3 := b0.trans (b3.mono b0.size)
      clear i2 HI1 HI2 HE1
      go_wp2_with (go_at_call 33; fail)
      refine (HE2.out _ J2.out).mono ?_
      rintro e w3 ⟨b4, o4, c4, rfl, i4, b5⟩
      have K1 := Lib.hid (J1.out.below b5)
      have K3 := Lib.hid (J3.out.below b5)
      have K4 := Lib.hid i4
      replace b5 := b3.trans (b5.mono b3.size)
      have g1 : ((P.length : Int) != 1 + M) = false := by have := HP1.out; simp; omega
      clear i4 J1 J2 J3 HE2 b3 b0
      go_wp2_with (go_at_call 23; fail)
      refine (ints_yes _ _ _ _ P _ _ rfl (by omega) K3.out K4.out).mono ?_
      rintro e w4 ⟨rfl, n4, rfl⟩
      clear K4 g1
      go_wp2
      go_loopw [15, 16] (fun s i wr => ∃ j nn : Nat, j ≤ P.length ∧ i = .int .i64 j ∧ s = .int .i64 (psum L P j) ∧ wr = w3.drewN nn) (fun _ i _ => P.length - (intOf i).toNat)
      case atStart => exact ⟨0, n4, by omega, rfl, rfl, rfl⟩
      case round =>
        obtain ⟨j, nn, hj, rfl, rfl, rfl⟩ := hrel
        by_cases hjt : j < P.length
        · have hjM : j < 1 + M := by have := HP1.out; omega
          obtain ⟨bp, op, hbe, hbp, hcp⟩ := K3.out (by omega)
          injection hbe with hbe
          injection hbe with e1 e2
          subst e1 e2
          obtain ⟨bl, ol, hAe, hbl, hcl⟩ := K1.out (by have := HLl.out; omega)
          subst hAe
          have hpj := HP2.out _ (geti_mem hjt)
          obtain ⟨t, ht⟩ := Int.eq_ofNat_of_zero_le hpj.1
          have c0 := hcp j hjt
          rw [ht] at c0 hpj
          have htl : t < L.length := by omega
          have c1 := hcl t htl
          have hst := HPS.out j hjt
          rw [ht, Int.toNat_natCast] at hst
          obtain ⟨r1, r2⟩ := HPR.out j hj
          have hyr := HLR.out _ (geti_mem htl)
          obtain ⟨y1, y2⟩ := hyr
          have rr1 : -22000000000000 ≤ psum L P j := by omega
          have rr2 : psum L P j ≤ 22000000000000 := by omega
          have HST := Lib.hid hst
          have g1 : decide ((t : Int) < 0) = false := decide_eq_false (by omega)
          have g2 : decide (L.length ≤ t) = false := decide_eq_false (by omega)
          generalize geti L t = y at *
          generalize hs : psum L P j = s at *
          clear hs
          rcases Nat.eq_zero_or_pos j with h0 | h0
          · have HJ0 := Lib.hid h0
            have g3 : decide (0 < j) = false := decide_eq_false (by omega)
            clear hcp hcl hst ht hpj r1 r2 h0
            go_wp2
            refine wp_region_quiet_lit (by kernel_rfl) (by kernel_rfl) ?_
            repeat go_big_quiet_step ((fail))
            refine wpQuiet_nil ?_
            rintro _ ⟨nq, rfl⟩
            go_wp2
            go_roundw
            case rel => exact ⟨j + 1, nn + nq, by omega, by go_num, by rw [HST.out], by first | rfl | exact World.drewN_drewN _ _ _⟩
            case measure => simp [intOf]; omega
          · obtain ⟨i, rfl⟩ : ∃ i, j = i + 1 := ⟨j - 1, by omega⟩
            have hp3 : geti P i < geti P (i + 1) := by
              have := List.pairwise_iff_getElem.1 HP3.out i (i + 1) (by omega) hjt (by omega)
              rwa [geti_eq (by omega), geti_eq hjt]
            have hpi := HP2.out _ (geti_mem (xs := P) (i := i) (by omega))
            obtain ⟨t2, ht2⟩ := Int.eq_ofNat_of_zero_le hpi.1
            have c2 := hcp i (by omega)
            rw [ht2] at c2 hp3
            rw [ht] at hp3
            have g3 : decide (0 < i + 1) = true := decide_eq_true (by omega)
            have g4 : decide (t ≤ t2) = false := decide_eq_false (by omega)
            clear hcp hcl hst ht hpj r1 r2 h0 ht2 hpi hp3
            go_wp2
            refine wp_region_quiet_lit (by kernel_rfl) (by kernel_rfl) ?_
            repeat go_big_quiet_step ((fail))
            refine wpQuiet_nil ?_
            rintro _ ⟨nq, rfl⟩
            go_wp2
            go_roundw
            case rel => exact ⟨i + 1 + 1, nn + nq, by omega, by go_num, by rw [HST.out], by first | rfl | exact World.drewN_drewN _ _ _⟩
            case measure => simp [intOf]; omega
        · obtain rfl : j = P.length := by omega
          have hz : (psum L P P.length).tmod (1 + M) = 0 := by
            rw [HPF.out]
            refine Int.tmod_eq_zero_of_dvd (Int.dvd_of_emod_eq_zero ?_)
            have := HP4.out
            rwa [show ((1 + M : Nat) : Int) = 1 + (M : Int) by omega] at this
          obtain ⟨r1, r2⟩ := HPR.out _ hj
          have rr1 : -22000000000000 ≤ psum L P P.length := by omega
          have rr2 : psum L P P.length ≤ 22000000000000 := by omega
          have g1 : ((psum L P P.length).tmod (1 + M) == 0) = true := by rw [hz]; rfl
          have g2 : decide ((P.length : Int) < 1 + M) = false := decide_eq_false (by have := HP1.out; omega)
          clear hz r1 r2
          generalize psum L P P.length = s at *
          go_wp2_with (go_at_call 20; fail)
          refine (awake_any _).mono ?_
          rintro e w8 ⟨rfl, b8⟩
          have b7 := b5.trans (below_drewN nn)
          go_wp2
          go_ret
          exact ⟨rfl, b7.trans (b8.mono b7.size)⟩
end Go.Proofs.Ytokjdadgdfmffaa
