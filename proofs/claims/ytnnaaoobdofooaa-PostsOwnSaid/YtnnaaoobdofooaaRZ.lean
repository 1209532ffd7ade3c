/- The reference's permanents and items. -/
import Derived.Test.YtnnaaoobdofooaaRW
namespace Go.Proofs.Ytnnaaoobdofooaa
open Go.RowKit
set_option maxHeartbeats 1000000
set_option maxRecDepth 100000
theorem refPermanent_any (A : Option Addr) (cc : Nat) (L : List (List Int)) (w : World) (h : IsT L) (ha : RowsAt w A L) :
    Calls Try.prog 22 #[.slice A L.length cc] w fun e w' => e = .returned (.int .i64 (perm L)) ∧ Below w.heap.size w w' := by
  have HS := Lib.hid (sums_any A cc L L 0 false w h h rfl (fun i c => rfl) (Nat.zero_le _) ha)
  have hp := pow_le10 h.le
  obtain ⟨M, hM⟩ : ∃ M, 2^L.length = M + 1 := ⟨2^L.length - 1, by have := Nat.two_pow_pos L.length; omega⟩
  have HV : Hid (geti (smL L 0) M = perm L) := Lib.hid (by rw [smL_at L 0 (by omega), ← sm_all h, show M = 2^L.length - 1 by omega])
  have HLN : Hid ((smL L 0).length = M + 1) := Lib.hid (by rw [smL_len, hM])
  rw [hM] at HS
  rw [hM] at hp
  clear hM h ha
  generalize perm L = p at *
  go_enter Try.func22, Try.ntmps22
  go_wp2_with (go_at_call 52; fail)
  refine HS.out.mono ?_
  rintro e w1 ⟨g, rfl, q1, hg, b1⟩
  have e1 := ivR q1 (i := M) (by rw [HLN.out]; omega)
  rw [HV.out] at e1
  clear HS
  go_wp2
  go_ret
  exact ⟨rfl, b1⟩
theorem refChoices_any (A : Option Addr) (cc : Nat) (L : List (List Int)) (w : World) (h : IsT L) (ha : RowsAt w A L) :
    Calls Try.prog 23 #[.slice A L.length cc] w fun e w' => e = .returned (.int .i64 (chN L (sAll L.length))) ∧ Below w.heap.size w w' := by
  have HS := Lib.hid (sums_any A cc L (onesL L) 0 true w h h.ones (onesL_len L) (fun i c => by rw [onesL_at]; rfl) (Nat.zero_le _) ha)
  have hp := pow_le10 h.le
  obtain ⟨M, hM⟩ : ∃ M, 2^L.length = M + 1 := ⟨2^L.length - 1, by have := Nat.two_pow_pos L.length; omega⟩
  have HV : Hid (geti (smL (onesL L) 0) M = chN L (sAll L.length)) := Lib.hid (by
    have := sm_all h.ones
    unfold perm at this
    rw [onesL_len] at this
    rw [smL_at (onesL L) 0 (by rw [onesL_len]; omega), show M = 2^L.length - 1 by omega, this])
  have HLN : Hid ((smL (onesL L) 0).length = M + 1) := Lib.hid (by rw [smL_len, onesL_len, hM])
  rw [hM] at HS
  rw [hM] at hp
  clear hM h ha
  generalize chN L (sAll L.length) = p at *
  go_enter Try.func23, Try.ntmps23
  go_wp2_with (go_at_call 52; fail)
  refine HS.out.mono ?_
  rintro e w1 ⟨g, rfl, q1, hg, b1⟩
  have e1 := ivR q1 (i := M) (by rw [HLN.out]; omega)
  rw [HV.out] at e1
  clear HS
  go_wp2
  go_ret
  exact ⟨rfl, b1⟩
theorem refItem_any (A : Option Addr) (cc : Nat) (L : List (List Int)) (k : Int) (w : World) (h : IsT L) (hk0 : 0 ≤ k) (hk : k < chN L (sAll L.length)) (ha : RowsAt w A L) :
    Calls Try.prog 25 #[.slice A L.length cc, .int .i64 k] w fun e w' => ∃ v, e = .returned v ∧ w'.ownsRow w.heap.size 3 1 v (itm L L.length (sAll L.length) k).length (iv (itm L L.length (sAll L.length) k)) ∧ Below w.heap.size w w' := by
  obtain ⟨j0, ji, jz0, jz1, jz2⟩ := info_parts info3
  have hle := h.le
  have HA := Lib.hid ha
  have hAll : sAll L.length < 2^L.length := by unfold sAll; have := Nat.one_le_two_pow (n := L.length); omega
  have hP10 : 2^L.length ≤ 1024 := pow_le10 hle
  have HSM := Lib.hid (fun (W : World) i (hi : i ≤ L.length) (hA : RowsAt W A L) => sums_any A cc L (onesL L) i true W h h.ones (onesL_len L) (fun i c => by rw [onesL_at]; rfl) hi hA)
  have HPI := Lib.hid (fun s (hs : s < 1024) => prm_bd h.ones hs)
  have hkb := (prm_bd h.ones (s := sAll L.length) (by omega)).2
  have HBS := Lib.hid (fun r s c => bfN_step h r s c)
  have HCS := Lib.hid (fun r s (hr : r < L.length) (hs : s < 2^L.length) (hp : pc 16 s + r = L.length) => chN_sum h hr hs hp)
  have hpa := pc_all (m := L.length) (by omega)
  have HK00 : Hid (k < chN L (sAll L.length)) := Lib.hid hk
  have HRW := Lib.hid (fun i (hi : i < L.length) => h.row i hi)
  obtain ⟨T, HTT⟩ : ∃ T, Hid (itm L L.length (sAll L.length) k = T) := ⟨_, Lib.hid rfl⟩
  rw [HTT.out]
  obtain ⟨N, hN⟩ : ∃ N, N = 2^L.length := ⟨_, rfl⟩
  have HSV : Hid (∀ r t, t < N → pc 16 t + r = L.length → geti (smL (onesL L) r) t = chN L t) := Lib.hid (fun r t ht hp => by
    rw [smL_at (onesL L) r (by rw [onesL_len, ← hN]; exact ht)]
    unfold sm
    rw [onesL_len, if_pos hp])
  have HSL : Hid (∀ r, (smL (onesL L) r).length = N) := Lib.hid (fun r => by rw [smL_len, onesL_len, hN])
  have hsa : sAll L.length + 1 = N := by rw [hN]; exact Nat.sub_add_cancel Nat.one_le_two_pow
  have hs0 : (N : Int) - 1 = (sAll L.length : Int) := by clear hkb hk hk0; omega
  have hsh : wrap64 ((2 : Int)^L.length) = (N : Int) := by rw [hN]; exact wrap64_pow (by omega)
  rw [← hN] at hAll hP10 HSM HCS
  have HI0 : Hid ([] ++ itm L (L.length - 0) (sAll L.length) k = T) := HTT
  have o0 : w.ownsRow w.heap.size 3 1 (.slice none 0 0) 0 (iv []) := ⟨rfl, .inl ⟨rfl, rfl⟩⟩
  have b0 : Below w.heap.size w w := Below.refl _ _
  have hkB : k ≤ 12652843234348800 := Int.le_trans (Int.le_of_lt hk) hkb
  clear h ha hN hsa hkb
  generalize sAll L.length = s0 at *
  go_enter Try.func25, Try.ntmps25
  go_wp2
  go_loopw [1, 6, 7, 8] (fun kv fv cv i wr => ∃ (r s : Nat) (k' : Int) (done : List Int), r ≤ L.length ∧ i = .int .i64 r ∧ fv = .int .i64 s ∧ s < N ∧ kv = .int .i64 k' ∧ 0 ≤ k' ∧ k' ≤ k ∧ done.length ≤ r ∧ wr.ownsRow w.heap.size 3 1 cv done.length (iv done) ∧ Hid (done ++ itm L (L.length - r) s k' = T) ∧ Below w.heap.size w wr ∧ pc 16 s + r = L.length ∧ Hid (k' < chN L s)) (fun _ _ _ i _ => L.length - (intOf i).toNat)
  case atStart => exact ⟨0, s0, k, [], by omega, rfl, rfl, hAll, rfl, hk0, by omega, by simp, o0, HI0, b0, hpa, HK00⟩
  case round =>
    clear o0 b0 HI0 hpa HK00 hs0 hsh hAll hk
    obtain ⟨r, s, k', done, hr, rfl, rfl, hs, rfl, hk1, hk2, hdl, o0, HT, b0, hpcs, HKC⟩ := hrel
    by_cases hlt : r < L.length
    · have g1 : decide ((r : Int) < (L.length : Int)) = true := decide_eq_true (by omega)
      have HC := Lib.hid (HSM.out wr (r + 1) (by omega) (HA.out.below b0))
      obtain ⟨A2, c2, rfl, -, -, -⟩ := own_intsI o0
      have HO := Lib.hid o0
      have hbs := b0.size
      have HPK0 : Hid (pk L r s ((List.range L.length).drop 0) k' = pk L r s (List.range L.length) k') := Lib.hid rfl
      have HBF0 : Hid (k' + bfN L r s 0 = k') := Lib.hid (by show k' + 0 = k'; omega)
      clear o0
      go_wp2_with (go_at_call 52; fail)
      refine HC.out.mono ?_
      rintro e w3 ⟨g, rfl, q3, hg3, b3⟩
      have o3 := HO.out.kept' b3
      replace b3 := b0.trans (b3.mono hbs)
      have hbs3 := b3.size
      have HQ := Lib.hid q3
      have HO3 := Lib.hid o3
      have HB := Lib.hid b3
      clear HC HO b0 q3 o3 b3
      go_wp2
      go_loopw [1, 6, 7, 10] (fun kv fv cv i wr2 => ∃ (c : Nat) (k2 : Int), c ≤ L.length ∧ i = .int .i64 c ∧ kv = .int .i64 k2 ∧ fv = .int .i64 s ∧ cv = .slice A2 done.length c2 ∧ 0 ≤ k2 ∧ k2 ≤ k ∧ Hid (pk L r s ((List.range L.length).drop c) k2 = pk L r s (List.range L.length) k') ∧ Hid (k2 + bfN L r s c = k') ∧ w3 = wr2) (fun _ _ _ i _ => L.length - (intOf i).toNat)
      case atStart => exact ⟨0, k', by omega, rfl, rfl, rfl, rfl, hk1, hk2, HPK0, HBF0, rfl⟩
      case round =>
        obtain ⟨c, k2, hc, rfl, rfl, rfl, rfl, hk3, hk4, HPK, HBF, rfl⟩ := hrel
        by_cases hlc : c < L.length
        · have g2 : decide ((c : Int) < (L.length : Int)) = true := decide_eq_true (by omega)
          have g3 := bit_tmod s c
          have hpd := HPK.out
          rw [range_drop hlc] at hpd
          have HPD := Lib.hid hpd
          clear hpd HPK
          obtain ⟨bA, oA, hAe, hbA, hcs⟩ := (HA.out.below HB.out) (by omega)
          subst hAe
          obtain ⟨B, cB, e1, i1⟩ := hcs r hlt
          rw [HRW.out r hlt] at e1
          obtain ⟨bB, oB, rfl, hbB, f1⟩ := i1 (by rw [HRW.out r hlt]; omega)
          have e2 := f1 c (by rw [HRW.out r hlt]; exact hlc)
          rw [show geti (getl L r) c = gat L r c from rfl] at e2
          clear hcs f1 i1
          cases hbit : s.testBit c
          · have HN : Hid (okC L r s c = false) := Lib.hid (by unfold okC; rw [hbit]; rfl)
            rw [hbit] at g3
            simp only [Bool.not_false] at g3
            have HP2 : Hid (pk L r s ((List.range L.length).drop (c + 1)) k2 = pk L r s (List.range L.length) k') := Lib.hid (by rw [← pk_skip HN.out]; exact HPD.out)
            clear HPD hbit e1 e2
            go_wp2
            go_roundw
            case rel => exact ⟨c + 1, k2, by omega, by go_num, rfl, rfl, rfl, hk3, hk4, HP2, Lib.hid (by rw [HBS.out, HN.out]; have := HBF.out; simp only [Bool.false_eq_true, if_false]; omega), by first | rfl | trivial⟩
            case measure => simp [intOf]; omega
          · rw [hbit] at g3
            simp only [Bool.not_true] at g3
            obtain ⟨x, hx⟩ : ∃ x, gat L r c = x := ⟨_, rfl⟩
            rw [hx] at e2
            by_cases hx0 : x = 0
            · have HN : Hid (okC L r s c = false) := Lib.hid (by unfold okC; rw [hx, hx0]; simp)
              have HP2 : Hid (pk L r s ((List.range L.length).drop (c + 1)) k2 = pk L r s (List.range L.length) k') := Lib.hid (by rw [← pk_skip HN.out]; exact HPD.out)
              have g4 : (x == 0) = true := by simp [hx0]
              clear HPD hbit hx hx0
              go_wp2
              go_roundw
              case rel => exact ⟨c + 1, k2, by omega, by go_num, rfl, rfl, rfl, hk3, hk4, HP2, Lib.hid (by rw [HBS.out, HN.out]; have := HBF.out; simp only [Bool.false_eq_true, if_false]; omega), by first | rfl | trivial⟩
              case measure => simp [intOf]; omega
            · have HN : Hid (okC L r s c = true) := Lib.hid (by unfold okC; rw [hx, hbit]; simp [hx0])
              have g4 : (x == 0) = false := by simp [hx0]
              have hpw := pc_without (s := s) (v := c) (by omega) (by omega) hbit
              have hls := without_le s c
              have hpb := HPI.out (sWithout s c) (by omega)
              have hval := HSV.out (r + 1) (sWithout s c) (by omega) (by omega)
              have e3 := ivR HQ.out (i := sWithout s c) (by rw [HSL.out]; omega)
              rw [hval] at e3
              obtain ⟨P, hP⟩ : ∃ P, P = 2^c := ⟨_, rfl⟩
              have hsc : wrap64 ((2 : Int)^c) = (P : Int) := by rw [hP]; exact wrap64_pow (by omega)
              have hsP : s = sWithout s c + P := by
                rw [hP, with_add (by rw [without_bit s c c (by omega) (by omega)]; simp)]
                exact with_without (by omega) (by omega) hbit rfl
              obtain ⟨y, hy⟩ : ∃ y, chN L (sWithout s c) = y := ⟨_, rfl⟩
              have hy' : prm (onesL L) (sWithout s c) = y := hy
              rw [hy] at e3
              rw [hy'] at hpb
              have HY : Hid (chN L (sWithout s c) = y) := Lib.hid hy
              have HPW := Lib.hid hpw
              obtain ⟨hp1, hp2⟩ := hpb
              obtain ⟨t, ht⟩ : ∃ t, sWithout s c = t := ⟨_, rfl⟩
              rw [ht] at hsP e3 hls
              have hsub : (s : Int) - (P : Int) = (t : Int) := by
                have := congrArg (fun x : Nat => (x : Int)) hsP
                simp only [Int.natCast_add] at this
                rw [this, Int.add_sub_cancel]
              have HT' := Lib.hid ht
              have htN : t < N := Nat.lt_of_le_of_lt hls hs
              clear hbit hx hx0 hy hy' hval hpw hP ht hsP
              by_cases hky : k2 < y
              · have g5 : decide (k2 < y) = true := decide_eq_true hky
                have HP2 : Hid (pk L r s (List.range L.length) k' = some (c, k2)) := Lib.hid (by rw [← HPD.out]; exact pk_take HN.out (by rw [HY.out]; exact hky))
                have hnr : Row (w3.alloc (.cells #[.int .i64 (c : Int)] 3)) w3.heap.size 3 [.int .i64 (c : Int)] := row_new rfl
                have HSN : Hid (iv (done ++ [(c : Int)]) = iv done ++ [.int .i64 (c : Int)]) := Lib.hid (iv_snoc _ _)
                go_wp2_with (at_builtin; refine wpList_append_own_at _ rfl _ _ 27 rfl w.heap.size 3 j0 (.int .i64 0) 1 8 Try.underlying27 ji jz0 jz1 jz2 rfl (by decide) _ _ _ rfl (HO3.out.alloc _) ⟨w3.heap.size, 0, none⟩ 1 1 [.int .i64 (c : Int)] rfl rfl (news_one hnr) (by simp [Value.oneCell']) (by unfold maxLen; omega) (by omega) (by simp; omega) ?_; intro v2 w2 o2 hg2 _ _; rw [← HSN.out] at o2; have b4 := HB.out.trans (app1' HO3.out hbs3 hg2))
                have HKN : Hid (k2 < chN L t) := Lib.hid (by rw [← HT'.out, HY.out]; exact hky)
                have HT2 : Hid ((done ++ [(c : Int)]) ++ itm L (L.length - (r + 1)) t k2 = T) := Lib.hid (by
                  rw [← HT.out, List.append_assoc, List.singleton_append]
                  congr 1
                  obtain ⟨m, hm⟩ : ∃ m, L.length - r = m + 1 := ⟨L.length - r - 1, by omega⟩
                  rw [hm, show L.length - (r + 1) = m by omega, ← HT'.out]
                  refine (itm_some ?_).symm
                  rw [show L.length - (m + 1) = r by omega]; exact HP2.out)
                go_roundw
                case rel => exact ⟨r + 1, t, k2, done ++ [(c : Int)], by omega, by go_num, rfl, htN, rfl, hk3, hk4, by simp; omega, by rw [List.length_append, List.length_singleton]; exact o2, HT2, b4, by have h1 := HPW.out; rw [HT'.out] at h1; omega, HKN⟩
                case measure => simp [intOf]; omega
              · have g5 : decide (k2 < y) = false := decide_eq_false hky
                have HP2 : Hid (pk L r s ((List.range L.length).drop (c + 1)) (k2 - y) = pk L r s (List.range L.length) k') := Lib.hid (by rw [← HPD.out, pk_next HN.out (by rw [HY.out]; exact hky), HY.out])
                go_wp2
                go_roundw
                case rel => exact ⟨c + 1, k2 - y, by omega, by go_num, rfl, rfl, rfl, by omega, by omega, HP2, Lib.hid (by rw [HBS.out, HN.out, HY.out]; have := HBF.out; simp only [if_true]; omega), by first | rfl | trivial⟩
                case measure => simp [intOf]; omega
        · obtain rfl : c = L.length := by omega
          exact absurd HKC.out (by rw [HCS.out r s hlt hs hpcs]; have := HBF.out; omega)
    · obtain rfl : r = L.length := by omega
      have g1 : decide ((L.length : Int) < (L.length : Int)) = false := decide_eq_false (by omega)
      have HT3 : Hid (done = T) := Lib.hid (by rw [← HT.out, Nat.sub_self]; simp [itm])
      rw [HT3.out] at o0
      obtain ⟨A2, c2, rfl, -, -, -⟩ := own_intsI o0
      go_wp2
      go_ret
      exact ⟨_, rfl, o0, b0⟩
end Go.Proofs.Ytnnaaoobdofooaa
