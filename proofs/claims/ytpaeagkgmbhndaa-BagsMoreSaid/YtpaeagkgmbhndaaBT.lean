/- BagsMore returns true: the walk. -/
import Derived.Test.YtpaeagkgmbhndaaBS
namespace Go.Proofs.Ytpaeagkgmbhndaa
open Go.RowKit
set_option maxHeartbeats 1000000
set_option maxRecDepth 100000
theorem BagsMore_any (n : Int) (A : Option Addr) (c : Nat) (es : List (Int × Int)) (x y : Int) (w : World) (hx : es.length ≤ c) (hc : c ≤ maxLen) (ha : PairsAt w A es) :
    Calls Try.prog 9 #[.int .i64 n, .slice A es.length c, .agg #[.int .i64 x, .int .i64 y]] w fun e w' => e = .returned (.bool true) ∧ Below w.heap.size w w' := by
  obtain ⟨i0, hi, hz0, hz1, hz2⟩ := info_parts info67k
  have hml := modI_lt n (show 0 < 9 by omega)
  have HM := Lib.hid (fun W => mod_any n 9 W (by omega) (by omega))
  generalize modI n 9 = m0 at *
  obtain ⟨m, hmm⟩ : ∃ m : Nat, m = 2 + m0 := ⟨_, rfl⟩
  have HMM := Lib.hid (show (2 + (m0 : Int)) = (m : Int) by omega)
  have hm1 : 1 ≤ m := by omega
  have hm12 : m ≤ 12 := by omega
  clear hmm
  have HT := Lib.hid (tame_any m A c es (w.alloc (.cells #[.int .i64 x, .int .i64 y] 65)) hx hc (ha.alloc _) hm1 (by omega))
  have ha1 := modI_lt x hm1
  have ha2 := modI_lt y hm1
  have HX := Lib.hid (fun W => mod_any x m W hm1 (by omega))
  have HY := Lib.hid (fun W => mod_any y m W hm1 (by omega))
  generalize modI x m = a at *
  generalize modI y m = b at *
  clear hx hc ha
  go_enter Try.func9, Try.ntmps9
  go_wp2_with (first
    | (go_at_call 36; refine (HM.out _).mono ?_; rintro e w' ⟨rfl, rfl⟩)
    | (go_at_call 37; rw [HMM.out]; refine HT.out.mono ?_; rintro e w1 ⟨v1, own, gs, rfl, hol, hgs, o1, b1⟩; obtain ⟨A1, c1, rfl, -, hc1, p1⟩ := own_pairs o1; have HG := Lib.hid hgs; have bb : Below w.heap.size w w1 := ((Below.refl _ w).alloc (Nat.le_refl _) (.cells #[.int .i64 x, .int .i64 y] 65)).trans (b1.mono (by simp)); have y0 : Row w1 w.heap.size 65 [.int .i64 x, .int .i64 y] := (row_new rfl : Row (w.alloc (.cells #[.int .i64 x, .int .i64 y] 65)) w.heap.size 65 [.int .i64 x, .int .i64 y]).below b1; have l0 := y0.lt; obtain ⟨⟨k0, k1⟩, -⟩ := y0.cells2; have hc1m : c1 ≤ maxLen := (by rcases o1.2 with ⟨h, _⟩ | ⟨g, cap, cur, h, _, _, _, hcm, _⟩ <;> (injection h with _ _ h; first | omega | (unfold maxLen; omega))); clear o1 b1 hgs))
  go_quiet ((go_at_call 36; first | (with_reducible exact quiet_same (HX.out _)) | (with_reducible exact quiet_same (HY.out _))))
  replace bb := bb.trans (below_drewN nq)
  have q1 : PairsAt (w1.drewN nq) A1 own := p1.below (below_drewN nq)
  clear p1 y0 k0 k1 l0
  generalize w1.drewN nq = w1' at *
  have HED := Lib.hid (edges_any A1 c1 own w1' hc1 hc1m q1)
  have HTK := Lib.hid (List.take_of_length_le (show own.length ≤ 130 by omega))
  clear hc1 hc1m
  have hzw := bb.size
  have bbo := bb
  rcases Nat.lt_trichotomy a b with hab | hab | hab
  · obtain ⟨es2, hes2⟩ : ∃ es2, es2 = own ++ [(((a : Nat) : Int), ((b : Nat) : Int))] := ⟨_, rfl⟩
    have E1 : es2.length ≤ 1000000 := by rw [hes2]; simp; omega
    have E2 : es2.length ≤ 131 := by rw [hes2]; simp; omega
    have HE1 := Lib.hid E1
    have HES := Lib.hid hes2
    clear E1
    rcases hq : readF m es2 with _ | gs2
    · have HQ := Lib.hid (show (readF m es2).isSome = false by rw [hq]; rfl)
      clear hq hes2
      go_wp2_with (first
        | (go_at_call 14; refine HED.out.mono ?_; rintro e w2 ⟨v2, n2, rfl, o2, b2⟩; rw [HTK.out] at o2; obtain ⟨A2, c2, rfl, rfl, -, p2⟩ := own_pairs o2; have hz2' := b2.size)
        | (at_builtin; refine wpList_append_own_at _ rfl (.tmp 47) (.tmp 55) 22 rfl w1'.heap.size 67 i0 _ 2 16 Try.underlying22 hi hz0 hz1 hz2 rfl (by omega) _ _ _ rfl (o2.alloc _) ⟨w2.heap.size, 0, none⟩ 1 1 [.int .i64 ((a : Nat) : Int), .int .i64 ((b : Nat) : Int)] rfl rfl (news_two (row_new rfl)) (by simp [Value.oneCell']) (by unfold maxLen; omega) (by omega) (by simp; omega) ?_; intro v3 w3 o3 hg3 _ _; have b3 := app1' o2 hz2' hg3; rw [← pv_snoc] at o3; obtain ⟨A3, c3, e3, -, -, p3⟩ := own_pairs o3; rw [← HES.out] at e3 p3; subst e3; have b3' := b2.trans b3; replace bb := bbo.trans (b3'.mono bbo.size); clear b3 b3' b2 hg3 o3 o2 p2)
        | (go_at_call 16; refine (Graph_any m A3 c3 es2 _ HE1.out p3).mono ?_; rintro e w4 ⟨rfl, b4⟩; rw [HQ.out]; replace bb := bb.trans (b4.mono bb.size))
        | (go_at_call 18; refine (awake_any _).mono ?_; rintro e w5 ⟨rfl, b5⟩))
      go_ret
      exact ⟨rfl, bb.trans (b5.mono bb.size)⟩
    · have HQ := Lib.hid (show (readF m es2).isSome = true by rw [hq]; rfl)
      have HO := Lib.hid (show OneMore m own (((a : Nat) : Int), ((b : Nat) : Int)) gs gs2 from ⟨HG.out, by rw [← hes2]; exact hq⟩)
      have HG2 := Lib.hid hq
      clear hq hes2
      go_wp2_with (first
        | (go_at_call 14; refine HED.out.mono ?_; rintro e w2 ⟨v2, n2, rfl, o2, b2⟩; rw [HTK.out] at o2; obtain ⟨A2, c2, rfl, rfl, -, p2⟩ := own_pairs o2; have hz2' := b2.size)
        | (at_builtin; refine wpList_append_own_at _ rfl (.tmp 47) (.tmp 55) 22 rfl w1'.heap.size 67 i0 _ 2 16 Try.underlying22 hi hz0 hz1 hz2 rfl (by omega) _ _ _ rfl (o2.alloc _) ⟨w2.heap.size, 0, none⟩ 1 1 [.int .i64 ((a : Nat) : Int), .int .i64 ((b : Nat) : Int)] rfl rfl (news_two (row_new rfl)) (by simp [Value.oneCell']) (by unfold maxLen; omega) (by omega) (by simp; omega) ?_; intro v3 w3 o3 hg3 _ _; have b3 := app1' o2 hz2' hg3; rw [← pv_snoc] at o3; obtain ⟨A3, c3, e3, -, -, p3⟩ := own_pairs o3; rw [← HES.out] at e3 p3; subst e3; have b3' := b2.trans b3; replace bb := bbo.trans (b3'.mono bbo.size); replace q1 := q1.below b3'; clear b3 b3' b2 hg3 o3 o2 p2)
        | (go_at_call 16; refine (Graph_any m A3 c3 es2 _ HE1.out p3).mono ?_; rintro e w4 ⟨rfl, b4⟩; rw [HQ.out]; replace q1 := q1.below b4; replace p3 := p3.below b4; replace bb := bb.trans (b4.mono bb.size); clear b4)
        | (go_at_call 15; (with_reducible refine (Densest_some m A1 c1 own gs _ (by omega) q1 HG.out).mono ?_); rintro e w5 ⟨v5, g5, s, p, q, H, L, f, rfl, hD, -, -, -, -, -, -, b5⟩; have HD := Lib.hid hD; have q0 := hD.q0; have q16 := hD.q16; have p120 := den_small hm12 hD.lt hD.ne hD.sub hD.den; replace q1 := q1.below b5; replace p3 := p3.below b5; replace bb := bb.trans (b5.mono bb.size); replace q1 := q1.alloc (.cells #[.int .i64 p, .int .i64 q] 26); replace p3 := p3.alloc (.cells #[.int .i64 p, .int .i64 q] 26); replace bb := bb.alloc bb.size (.cells #[.int .i64 p, .int .i64 q] 26); have y : Row (w5.alloc (.cells #[.int .i64 p, .int .i64 q] 26)) w5.heap.size 26 [.int .i64 p, .int .i64 q] := row_new rfl; clear b5 hD)
        | (go_at_call 15; (with_reducible refine (Densest_some m A3 c3 es2 gs2 _ HE1.out p3 HG2.out).mono ?_); rintro e w6 ⟨v6, g6, s2, p2, q2, H2, L2, f2, rfl, hD, -, -, -, -, -, -, b6⟩; have HD2 := Lib.hid hD; have q20 := hD.q0; have q216 := hD.q16; have p2120 := den_small hm12 hD.lt hD.ne hD.sub hD.den; replace q1 := q1.below b6; replace p3 := p3.below b6; replace y := y.below b6; replace bb := bb.trans (b6.mono bb.size); replace q1 := q1.alloc (.cells #[.int .i64 p2, .int .i64 q2] 26); replace p3 := p3.alloc (.cells #[.int .i64 p2, .int .i64 q2] 26); replace y := y.alloc (.cells #[.int .i64 p2, .int .i64 q2] 26); replace bb := bb.alloc bb.size (.cells #[.int .i64 p2, .int .i64 q2] 26); have z : Row (w6.alloc (.cells #[.int .i64 p2, .int .i64 q2] 26)) w6.heap.size 26 [.int .i64 p2, .int .i64 q2] := row_new rfl; clear b6 hD)
        | (go_at_call 27; (with_reducible refine (Orient_some m A1 c1 own gs _ (by omega) q1 HG.out).mono ?_); rintro e w7 ⟨v7, v7', hs, ts, s', p', q', rfl, hO, ow, -, b7⟩; obtain ⟨A7, c7, e7, -, i7⟩ := own_ints ow; rw [← natI_len] at e7; subst e7; obtain ⟨hh, hhg⟩ := between HG.out HD.out hO; have HH := Lib.hid hh; have HHG := Lib.hid hhg; have HBD := Lib.hid (hh.bound HG.out); have hlen : (natI hs).length ≤ 130 := (by rw [hh.1]; exact hol); generalize natI hs = oi at *; replace q1 := q1.below b7; replace p3 := p3.below b7; replace y := y.below b7; replace z := z.below b7; replace bb := bb.trans (b7.mono bb.size); clear b7 ow hO hh hhg)
        | (go_at_call 27; (with_reducible refine (Orient_some m A3 c3 es2 gs2 _ HE1.out p3 HG2.out).mono ?_); rintro e w8 ⟨v8, v8', hs2, ts2, s2', p2', q2', rfl, hO, ow, -, b8⟩; obtain ⟨A8, c8, e8, -, i8⟩ := own_ints ow; rw [← natI_len] at e8; subst e8; obtain ⟨hh, hhg⟩ := between HG2.out HD2.out hO; have HH2 := Lib.hid hh; have HHG2 := Lib.hid hhg; have HBD2 := Lib.hid (hh.bound HG2.out); have hlen2 : (natI hs2).length ≤ 131 := (by rw [hh.1]; exact E2); generalize natI hs2 = oj at *; have hup := dens_up HO.out HD.out HD2.out; have hby := dens_by HO.out HD.out HD2.out; have g12 := ceil_up q0 q20 hup; have g21 := ceil_by q0 q20 hby; have g1k : (p2 + q2 - 1) / q2 ≤ 1000 := Nat.le_trans (Nat.div_le_self _ _) (by omega); generalize (p + q - 1) / q = G1 at *; generalize (p2 + q2 - 1) / q2 = G2 at *; have HDL := Lib.hid (show decide (p2 * q < p * q2) = false from decide_eq_false (by omega)); obtain ⟨X1, hX1⟩ : ∃ X : Nat, X = p2 * q := ⟨_, rfl⟩; obtain ⟨X2, hX2⟩ : ∃ X : Nat, X = p * q2 := ⟨_, rfl⟩; obtain ⟨X3, hX3⟩ : ∃ X : Nat, X = q * q2 := ⟨_, rfl⟩; have xb1 : X1 ≤ 120 * 16 := (by rw [hX1]; exact Nat.mul_le_mul p2120 q16); have xb2 : X2 ≤ 120 * 16 := (by rw [hX2]; exact Nat.mul_le_mul p120 q216); have xb3 : X3 ≤ 16 * 16 := (by rw [hX3]; exact Nat.mul_le_mul q16 q216); have hw1 : IntKind.i64.wrap ((p2 : Int) * q) = X1 := (by rw [← Int.natCast_mul, ← hX1]; exact IntWalk.i64_in _ (by omega)); have hw2 : IntKind.i64.wrap ((p : Int) * q2) = X2 := (by rw [← Int.natCast_mul, ← hX2]; exact IntWalk.i64_in _ (by omega)); have hw3 : IntKind.i64.wrap ((q : Int) * q2) = X3 := (by rw [← Int.natCast_mul, ← hX3]; exact IntWalk.i64_in _ (by omega)); rw [← hX1, ← hX2] at hup hby; rw [← hX3] at hby; have hd1 : decide ((X3 : Int) ≤ X1 - X2) = false := decide_eq_false (by omega); have hd2 : decide (G2 < G1) = false := decide_eq_false (by omega); have hd3 : decide ((G2 : Int) < G1) = false := decide_eq_false (by omega); have hd4 : decide ((G1 : Int) + 1 < G2) = false := decide_eq_false (by omega); have hd5 : decide (G1 + 1 < G2) = false := decide_eq_false (by omega); clear hX1 hX2 hX3 hup hby; replace q1 := q1.below b8; replace p3 := p3.below b8; replace y := y.below b8; replace z := z.below b8; replace i7 := i7.below b8; replace bb := bb.trans (b8.mono bb.size); clear b8 ow hO hh hhg)
        | (go_at_call 32; (with_reducible refine (Cores_some m A1 c1 own gs _ (by omega) q1 HG.out).mono ?_); rintro e w9 ⟨g9, hg9, rfl, r9, b9⟩; have ic := row_ints r9; replace q1 := q1.below b9; replace p3 := p3.below b9; replace y := y.below b9; replace z := z.below b9; replace i7 := i7.below b9; replace i8 := i8.below b9; replace bb := bb.trans (b9.mono bb.size); clear b9 r9 hg9)
        | (go_at_call 32; (with_reducible refine (Cores_some m A3 c3 es2 gs2 _ HE1.out p3 HG2.out).mono ?_); rintro e wa ⟨ga, hga, rfl, ra, ba⟩; have id := row_ints ra; replace q1 := q1.below ba; replace p3 := p3.below ba; replace y := y.below ba; replace z := z.below ba; replace i7 := i7.below ba; replace i8 := i8.below ba; replace ic := ic.below ba; replace bb := bb.trans (ba.mono bb.size); obtain ⟨⟨k0, k1⟩, -⟩ := y.cells2; obtain ⟨⟨l0, l1⟩, -⟩ := z.cells2; clear ba ra hga)
        | (go_at_call 39; (with_reducible refine (valid_any p q p120 q16 q0 _).mono ?_); rintro e wb ⟨rfl, bv⟩; replace q1 := q1.below bv; replace p3 := p3.below bv; replace y := y.below bv; replace z := z.below bv; replace i7 := i7.below bv; replace i8 := i8.below bv; replace ic := ic.below bv; replace id := id.below bv; replace bb := bb.trans (bv.mono bb.size); clear k0 k1 l0 l1; obtain ⟨⟨k0, k1⟩, -⟩ := y.cells2; obtain ⟨⟨l0, l1⟩, -⟩ := z.cells2; clear bv)
        | (go_at_call 39; (with_reducible refine (valid_any p2 q2 p2120 q216 q20 _).mono ?_); rintro e wb ⟨rfl, bv⟩; replace q1 := q1.below bv; replace p3 := p3.below bv; replace y := y.below bv; replace z := z.below bv; replace i7 := i7.below bv; replace i8 := i8.below bv; replace ic := ic.below bv; replace id := id.below bv; replace bb := bb.trans (bv.mono bb.size); clear k0 k1 l0 l1; obtain ⟨⟨k0, k1⟩, -⟩ := y.cells2; obtain ⟨⟨l0, l1⟩, -⟩ := z.cells2; clear bv)
        | (go_at_call 28; (with_reducible refine (heads_yes (by omega) q1 i7 HH.out).mono ?_); rintro e wc' ⟨rfl, nc, rfl⟩; replace q1 := q1.below (below_drewN nc); replace p3 := p3.below (below_drewN nc); replace y := y.below (below_drewN nc); replace z := z.below (below_drewN nc); replace i7 := i7.below (below_drewN nc); replace i8 := i8.below (below_drewN nc); replace ic := ic.below (below_drewN nc); replace id := id.below (below_drewN nc); replace bb := bb.trans (below_drewN nc); clear k0 k1 l0 l1; generalize wb.drewN nc = wc at *; obtain ⟨⟨k0, k1⟩, -⟩ := y.cells2; obtain ⟨⟨l0, l1⟩, -⟩ := z.cells2)
        | (go_at_call 28; (with_reducible refine (heads_yes HE1.out p3 i8 HH2.out).mono ?_); rintro e wd' ⟨rfl, nd, rfl⟩; replace q1 := q1.below (below_drewN nd); replace p3 := p3.below (below_drewN nd); replace y := y.below (below_drewN nd); replace z := z.below (below_drewN nd); replace i7 := i7.below (below_drewN nd); replace i8 := i8.below (below_drewN nd); replace ic := ic.below (below_drewN nd); replace id := id.below (below_drewN nd); replace bb := bb.trans (below_drewN nd); clear k0 k1 l0 l1; generalize wc.drewN nd = wd at *; obtain ⟨⟨k0, k1⟩, -⟩ := y.cells2; obtain ⟨⟨l0, l1⟩, -⟩ := z.cells2)
        | (go_at_call 29; (with_reducible refine (RefHeight_any m A7 c7 oi _ (by omega) (by omega) i7 HBD.out).mono ?_); rintro e we ⟨rfl, be⟩; rw [HHG.out]; replace y := y.below be; replace z := z.below be; replace i8 := i8.below be; replace ic := ic.below be; replace id := id.below be; replace bb := bb.trans (be.mono bb.size); clear k0 k1 l0 l1; obtain ⟨⟨k0, k1⟩, -⟩ := y.cells2; obtain ⟨⟨l0, l1⟩, -⟩ := z.cells2; clear be)
        | (go_at_call 29; (with_reducible refine (RefHeight_any m A8 c8 oj _ (by omega) (by omega) i8 HBD2.out).mono ?_); rintro e wf ⟨rfl, bf⟩; rw [HHG2.out]; replace y := y.below bf; replace z := z.below bf; replace ic := ic.below bf; replace id := id.below bf; replace bb := bb.trans (bf.mono bb.size); clear k0 k1 l0 l1; obtain ⟨⟨k0, k1⟩, -⟩ := y.cells2; obtain ⟨⟨l0, l1⟩, -⟩ := z.cells2; clear bf)
        | (go_at_call 40; refine (less_any p2 q2 p q (by omega) q216 (by omega) q16 _).mono ?_; rintro e wg ⟨rfl, bg⟩; rw [HDL.out]; replace y := y.below bg; replace z := z.below bg; replace ic := ic.below bg; replace id := id.below bg; replace bb := bb.trans (bg.mono bb.size); clear k0 k1 l0 l1; obtain ⟨⟨k0, k1⟩, -⟩ := y.cells2; obtain ⟨⟨l0, l1⟩, -⟩ := z.cells2; clear bg))
      clear q1 p3 i7 i8 y z k0 k1 l0 l1
      have HIC := Lib.hid ic
      have HID := Lib.hid id
      clear ic id
      go_loopw [31] (fun v wr => ∃ (j n : Nat), j ≤ m ∧ v = .int .i64 j ∧ wr = wg.drewN n) (fun v _ => m - (intOf v).toNat)
      case atStart => exact ⟨0, 0, by omega, rfl, rfl⟩
      case round =>
        obtain ⟨j, nq, hj, rfl, rfl⟩ := hrel
        by_cases hlt : j < m
        · obtain ⟨K, hK, hK16⟩ := TopC.ex HG.out
          have hck := hK.le j hlt
          clear hK
          obtain ⟨cu1, cu2⟩ := core_up HO.out hlt
          have hcl : (coreF m gs).length = m := coreL_len m _
          have hcl2 : (coreF m gs2).length = m := coreL_len m _
          obtain ⟨B5, o5, e5, hB5, hc5⟩ := HIC.out (by rw [natI_len, hcl]; omega)
          obtain ⟨B6, o6, e6, hB6, hc6⟩ := HID.out (by rw [natI_len, hcl2]; omega)
          injection e5 with e5
          injection e5 with e5 e5'
          injection e6 with e6
          injection e6 with e6 e6'
          subst e5 e5' e6 e6'
          have z0 := hc5 j (by rw [natI_len, hcl]; omega)
          have z1 := hc6 j (by rw [natI_len, hcl2]; omega)
          rw [geti_natI, Nat.zero_add] at z0 z1
          clear hc5 hc6 hcl hcl2
          generalize getn (coreF m gs) j = cj at *
          generalize getn (coreF m gs2) j = dj at *
          have hd6 : decide (dj < cj) = false := decide_eq_false (by omega)
          have hd7 : decide ((dj : Int) < cj) = false := decide_eq_false (by omega)
          have hd8 : decide ((cj : Int) + 1 < dj) = false := decide_eq_false (by omega)
          have hd9 : decide (cj + 1 < dj) = false := decide_eq_false (by omega)
          go_wp2
          go_quiet (fail)
          go_wp2
          go_roundw
          case rel => exact ⟨j + 1, _, by omega, by go_num, by first | rfl | exact World.drewN_drewN _ _ _⟩
          case measure => simp [intOf]; omega
        · obtain rfl : j = m := by omega
          go_wp2_with (go_at_call 18; refine (awake_any _).mono ?_; rintro e w9 ⟨rfl, b9⟩)
          go_ret
          exact ⟨rfl, (bb.trans (below_drewN nq)).trans (b9.mono (bb.trans (below_drewN nq)).size)⟩
  · subst hab
    obtain ⟨es2, hes2⟩ : ∃ es2, es2 = own ++ [(((a : Nat) : Int), ((a : Nat) : Int))] := ⟨_, rfl⟩
    have E1 : es2.length ≤ 1000000 := by rw [hes2]; simp; omega
    have E2 : es2.length ≤ 131 := by rw [hes2]; simp; omega
    have HE1 := Lib.hid E1
    have HES := Lib.hid hes2
    clear E1
    rcases hq : readF m es2 with _ | gs2
    · have HQ := Lib.hid (show (readF m es2).isSome = false by rw [hq]; rfl)
      clear hq hes2
      go_wp2_with (first
        | (go_at_call 14; refine HED.out.mono ?_; rintro e w2 ⟨v2, n2, rfl, o2, b2⟩; rw [HTK.out] at o2; obtain ⟨A2, c2, rfl, rfl, -, p2⟩ := own_pairs o2; have hz2' := b2.size)
        | (at_builtin; refine wpList_append_own_at _ rfl (.tmp 47) (.tmp 55) 22 rfl w1'.heap.size 67 i0 _ 2 16 Try.underlying22 hi hz0 hz1 hz2 rfl (by omega) _ _ _ rfl (o2.alloc _) ⟨w2.heap.size, 0, none⟩ 1 1 [.int .i64 ((a : Nat) : Int), .int .i64 ((a : Nat) : Int)] rfl rfl (news_two (row_new rfl)) (by simp [Value.oneCell']) (by unfold maxLen; omega) (by omega) (by simp; omega) ?_; intro v3 w3 o3 hg3 _ _; have b3 := app1' o2 hz2' hg3; rw [← pv_snoc] at o3; obtain ⟨A3, c3, e3, -, -, p3⟩ := own_pairs o3; rw [← HES.out] at e3 p3; subst e3; have b3' := b2.trans b3; replace bb := bbo.trans (b3'.mono bbo.size); clear b3 b3' b2 hg3 o3 o2 p2)
        | (go_at_call 16; refine (Graph_any m A3 c3 es2 _ HE1.out p3).mono ?_; rintro e w4 ⟨rfl, b4⟩; rw [HQ.out]; replace bb := bb.trans (b4.mono bb.size))
        | (go_at_call 18; refine (awake_any _).mono ?_; rintro e w5 ⟨rfl, b5⟩))
      go_ret
      exact ⟨rfl, bb.trans (b5.mono bb.size)⟩
    · have HQ := Lib.hid (show (readF m es2).isSome = true by rw [hq]; rfl)
      have HO := Lib.hid (show OneMore m own (((a : Nat) : Int), ((a : Nat) : Int)) gs gs2 from ⟨HG.out, by rw [← hes2]; exact hq⟩)
      have HG2 := Lib.hid hq
      clear hq hes2
      go_wp2_with (first
        | (go_at_call 14; refine HED.out.mono ?_; rintro e w2 ⟨v2, n2, rfl, o2, b2⟩; rw [HTK.out] at o2; obtain ⟨A2, c2, rfl, rfl, -, p2⟩ := own_pairs o2; have hz2' := b2.size)
        | (at_builtin; refine wpList_append_own_at _ rfl (.tmp 47) (.tmp 55) 22 rfl w1'.heap.size 67 i0 _ 2 16 Try.underlying22 hi hz0 hz1 hz2 rfl (by omega) _ _ _ rfl (o2.alloc _) ⟨w2.heap.size, 0, none⟩ 1 1 [.int .i64 ((a : Nat) : Int), .int .i64 ((a : Nat) : Int)] rfl rfl (news_two (row_new rfl)) (by simp [Value.oneCell']) (by unfold maxLen; omega) (by omega) (by simp; omega) ?_; intro v3 w3 o3 hg3 _ _; have b3 := app1' o2 hz2' hg3; rw [← pv_snoc] at o3; obtain ⟨A3, c3, e3, -, -, p3⟩ := own_pairs o3; rw [← HES.out] at e3 p3; subst e3; have b3' := b2.trans b3; replace bb := bbo.trans (b3'.mono bbo.size); replace q1 := q1.below b3'; clear b3 b3' b2 hg3 o3 o2 p2)
        | (go_at_call 16; refine (Graph_any m A3 c3 es2 _ HE1.out p3).mono ?_; rintro e w4 ⟨rfl, b4⟩; rw [HQ.out]; replace q1 := q1.below b4; replace p3 := p3.below b4; replace bb := bb.trans (b4.mono bb.size); clear b4)
        | (go_at_call 15; (with_reducible refine (Densest_some m A1 c1 own gs _ (by omega) q1 HG.out).mono ?_); rintro e w5 ⟨v5, g5, s, p, q, H, L, f, rfl, hD, -, -, -, -, -, -, b5⟩; have HD := Lib.hid hD; have q0 := hD.q0; have q16 := hD.q16; have p120 := den_small hm12 hD.lt hD.ne hD.sub hD.den; replace q1 := q1.below b5; replace p3 := p3.below b5; replace bb := bb.trans (b5.mono bb.size); replace q1 := q1.alloc (.cells #[.int .i64 p, .int .i64 q] 26); replace p3 := p3.alloc (.cells #[.int .i64 p, .int .i64 q] 26); replace bb := bb.alloc bb.size (.cells #[.int .i64 p, .int .i64 q] 26); have y : Row (w5.alloc (.cells #[.int .i64 p, .int .i64 q] 26)) w5.heap.size 26 [.int .i64 p, .int .i64 q] := row_new rfl; clear b5 hD)
        | (go_at_call 15; (with_reducible refine (Densest_some m A3 c3 es2 gs2 _ HE1.out p3 HG2.out).mono ?_); rintro e w6 ⟨v6, g6, s2, p2, q2, H2, L2, f2, rfl, hD, -, -, -, -, -, -, b6⟩; have HD2 := Lib.hid hD; have q20 := hD.q0; have q216 := hD.q16; have p2120 := den_small hm12 hD.lt hD.ne hD.sub hD.den; replace q1 := q1.below b6; replace p3 := p3.below b6; replace y := y.below b6; replace bb := bb.trans (b6.mono bb.size); replace q1 := q1.alloc (.cells #[.int .i64 p2, .int .i64 q2] 26); replace p3 := p3.alloc (.cells #[.int .i64 p2, .int .i64 q2] 26); replace y := y.alloc (.cells #[.int .i64 p2, .int .i64 q2] 26); replace bb := bb.alloc bb.size (.cells #[.int .i64 p2, .int .i64 q2] 26); have z : Row (w6.alloc (.cells #[.int .i64 p2, .int .i64 q2] 26)) w6.heap.size 26 [.int .i64 p2, .int .i64 q2] := row_new rfl; clear b6 hD)
        | (go_at_call 27; (with_reducible refine (Orient_some m A1 c1 own gs _ (by omega) q1 HG.out).mono ?_); rintro e w7 ⟨v7, v7', hs, ts, s', p', q', rfl, hO, ow, -, b7⟩; obtain ⟨A7, c7, e7, -, i7⟩ := own_ints ow; rw [← natI_len] at e7; subst e7; obtain ⟨hh, hhg⟩ := between HG.out HD.out hO; have HH := Lib.hid hh; have HHG := Lib.hid hhg; have HBD := Lib.hid (hh.bound HG.out); have hlen : (natI hs).length ≤ 130 := (by rw [hh.1]; exact hol); generalize natI hs = oi at *; replace q1 := q1.below b7; replace p3 := p3.below b7; replace y := y.below b7; replace z := z.below b7; replace bb := bb.trans (b7.mono bb.size); clear b7 ow hO hh hhg)
        | (go_at_call 27; (with_reducible refine (Orient_some m A3 c3 es2 gs2 _ HE1.out p3 HG2.out).mono ?_); rintro e w8 ⟨v8, v8', hs2, ts2, s2', p2', q2', rfl, hO, ow, -, b8⟩; obtain ⟨A8, c8, e8, -, i8⟩ := own_ints ow; rw [← natI_len] at e8; subst e8; obtain ⟨hh, hhg⟩ := between HG2.out HD2.out hO; have HH2 := Lib.hid hh; have HHG2 := Lib.hid hhg; have HBD2 := Lib.hid (hh.bound HG2.out); have hlen2 : (natI hs2).length ≤ 131 := (by rw [hh.1]; exact E2); generalize natI hs2 = oj at *; have hup := dens_up HO.out HD.out HD2.out; have hby := dens_by HO.out HD.out HD2.out; have g12 := ceil_up q0 q20 hup; have g21 := ceil_by q0 q20 hby; have g1k : (p2 + q2 - 1) / q2 ≤ 1000 := Nat.le_trans (Nat.div_le_self _ _) (by omega); generalize (p + q - 1) / q = G1 at *; generalize (p2 + q2 - 1) / q2 = G2 at *; have HDL := Lib.hid (show decide (p2 * q < p * q2) = false from decide_eq_false (by omega)); obtain ⟨X1, hX1⟩ : ∃ X : Nat, X = p2 * q := ⟨_, rfl⟩; obtain ⟨X2, hX2⟩ : ∃ X : Nat, X = p * q2 := ⟨_, rfl⟩; obtain ⟨X3, hX3⟩ : ∃ X : Nat, X = q * q2 := ⟨_, rfl⟩; have xb1 : X1 ≤ 120 * 16 := (by rw [hX1]; exact Nat.mul_le_mul p2120 q16); have xb2 : X2 ≤ 120 * 16 := (by rw [hX2]; exact Nat.mul_le_mul p120 q216); have xb3 : X3 ≤ 16 * 16 := (by rw [hX3]; exact Nat.mul_le_mul q16 q216); have hw1 : IntKind.i64.wrap ((p2 : Int) * q) = X1 := (by rw [← Int.natCast_mul, ← hX1]; exact IntWalk.i64_in _ (by omega)); have hw2 : IntKind.i64.wrap ((p : Int) * q2) = X2 := (by rw [← Int.natCast_mul, ← hX2]; exact IntWalk.i64_in _ (by omega)); have hw3 : IntKind.i64.wrap ((q : Int) * q2) = X3 := (by rw [← Int.natCast_mul, ← hX3]; exact IntWalk.i64_in _ (by omega)); rw [← hX1, ← hX2] at hup hby; rw [← hX3] at hby; have hd1 : decide ((X3 : Int) ≤ X1 - X2) = false := decide_eq_false (by omega); have hd2 : decide (G2 < G1) = false := decide_eq_false (by omega); have hd3 : decide ((G2 : Int) < G1) = false := decide_eq_false (by omega); have hd4 : decide ((G1 : Int) + 1 < G2) = false := decide_eq_false (by omega); have hd5 : decide (G1 + 1 < G2) = false := decide_eq_false (by omega); clear hX1 hX2 hX3 hup hby; replace q1 := q1.below b8; replace p3 := p3.below b8; replace y := y.below b8; replace z := z.below b8; replace i7 := i7.below b8; replace bb := bb.trans (b8.mono bb.size); clear b8 ow hO hh hhg)
        | (go_at_call 32; (with_reducible refine (Cores_some m A1 c1 own gs _ (by omega) q1 HG.out).mono ?_); rintro e w9 ⟨g9, hg9, rfl, r9, b9⟩; have ic := row_ints r9; replace q1 := q1.below b9; replace p3 := p3.below b9; replace y := y.below b9; replace z := z.below b9; replace i7 := i7.below b9; replace i8 := i8.below b9; replace bb := bb.trans (b9.mono bb.size); clear b9 r9 hg9)
        | (go_at_call 32; (with_reducible refine (Cores_some m A3 c3 es2 gs2 _ HE1.out p3 HG2.out).mono ?_); rintro e wa ⟨ga, hga, rfl, ra, ba⟩; have id := row_ints ra; replace q1 := q1.below ba; replace p3 := p3.below ba; replace y := y.below ba; replace z := z.below ba; replace i7 := i7.below ba; replace i8 := i8.below ba; replace ic := ic.below ba; replace bb := bb.trans (ba.mono bb.size); obtain ⟨⟨k0, k1⟩, -⟩ := y.cells2; obtain ⟨⟨l0, l1⟩, -⟩ := z.cells2; clear ba ra hga)
        | (go_at_call 39; (with_reducible refine (valid_any p q p120 q16 q0 _).mono ?_); rintro e wb ⟨rfl, bv⟩; replace q1 := q1.below bv; replace p3 := p3.below bv; replace y := y.below bv; replace z := z.below bv; replace i7 := i7.below bv; replace i8 := i8.below bv; replace ic := ic.below bv; replace id := id.below bv; replace bb := bb.trans (bv.mono bb.size); clear k0 k1 l0 l1; obtain ⟨⟨k0, k1⟩, -⟩ := y.cells2; obtain ⟨⟨l0, l1⟩, -⟩ := z.cells2; clear bv)
        | (go_at_call 39; (with_reducible refine (valid_any p2 q2 p2120 q216 q20 _).mono ?_); rintro e wb ⟨rfl, bv⟩; replace q1 := q1.below bv; replace p3 := p3.below bv; replace y := y.below bv; replace z := z.below bv; replace i7 := i7.below bv; replace i8 := i8.below bv; replace ic := ic.below bv; replace id := id.below bv; replace bb := bb.trans (bv.mono bb.size); clear k0 k1 l0 l1; obtain ⟨⟨k0, k1⟩, -⟩ := y.cells2; obtain ⟨⟨l0, l1⟩, -⟩ := z.cells2; clear bv)
        | (go_at_call 28; (with_reducible refine (heads_yes (by omega) q1 i7 HH.out).mono ?_); rintro e wc' ⟨rfl, nc, rfl⟩; replace q1 := q1.below (below_drewN nc); replace p3 := p3.below (below_drewN nc); replace y := y.below (below_drewN nc); replace z := z.below (below_drewN nc); replace i7 := i7.below (below_drewN nc); replace i8 := i8.below (below_drewN nc); replace ic := ic.below (below_drewN nc); replace id := id.below (below_drewN nc); replace bb := bb.trans (below_drewN nc); clear k0 k1 l0 l1; generalize wb.drewN nc = wc at *; obtain ⟨⟨k0, k1⟩, -⟩ := y.cells2; obtain ⟨⟨l0, l1⟩, -⟩ := z.cells2)
        | (go_at_call 28; (with_reducible refine (heads_yes HE1.out p3 i8 HH2.out).mono ?_); rintro e wd' ⟨rfl, nd, rfl⟩; replace q1 := q1.below (below_drewN nd); replace p3 := p3.below (below_drewN nd); replace y := y.below (below_drewN nd); replace z := z.below (below_drewN nd); replace i7 := i7.below (below_drewN nd); replace i8 := i8.below (below_drewN nd); replace ic := ic.below (below_drewN nd); replace id := id.below (below_drewN nd); replace bb := bb.trans (below_drewN nd); clear k0 k1 l0 l1; generalize wc.drewN nd = wd at *; obtain ⟨⟨k0, k1⟩, -⟩ := y.cells2; obtain ⟨⟨l0, l1⟩, -⟩ := z.cells2)
        | (go_at_call 29; (with_reducible refine (RefHeight_any m A7 c7 oi _ (by omega) (by omega) i7 HBD.out).mono ?_); rintro e we ⟨rfl, be⟩; rw [HHG.out]; replace y := y.below be; replace z := z.below be; replace i8 := i8.below be; replace ic := ic.below be; replace id := id.below be; replace bb := bb.trans (be.mono bb.size); clear k0 k1 l0 l1; obtain ⟨⟨k0, k1⟩, -⟩ := y.cells2; obtain ⟨⟨l0, l1⟩, -⟩ := z.cells2; clear be)
        | (go_at_call 29; (with_reducible refine (RefHeight_any m A8 c8 oj _ (by omega) (by omega) i8 HBD2.out).mono ?_); rintro e wf ⟨rfl, bf⟩; rw [HHG2.out]; replace y := y.below bf; replace z := z.below bf; replace ic := ic.below bf; replace id := id.below bf; replace bb := bb.trans (bf.mono bb.size); clear k0 k1 l0 l1; obtain ⟨⟨k0, k1⟩, -⟩ := y.cells2; obtain ⟨⟨l0, l1⟩, -⟩ := z.cells2; clear bf)
        | (go_at_call 40; refine (less_any p2 q2 p q (by omega) q216 (by omega) q16 _).mono ?_; rintro e wg ⟨rfl, bg⟩; rw [HDL.out]; replace y := y.below bg; replace z := z.below bg; replace ic := ic.below bg; replace id := id.below bg; replace bb := bb.trans (bg.mono bb.size); clear k0 k1 l0 l1; obtain ⟨⟨k0, k1⟩, -⟩ := y.cells2; obtain ⟨⟨l0, l1⟩, -⟩ := z.cells2; clear bg))
      clear q1 p3 i7 i8 y z k0 k1 l0 l1
      have HIC := Lib.hid ic
      have HID := Lib.hid id
      clear ic id
      go_loopw [31] (fun v wr => ∃ (j n : Nat), j ≤ m ∧ v = .int .i64 j ∧ wr = wg.drewN n) (fun v _ => m - (intOf v).toNat)
      case atStart => exact ⟨0, 0, by omega, rfl, rfl⟩
      case round =>
        obtain ⟨j, nq, hj, rfl, rfl⟩ := hrel
        by_cases hlt : j < m
        · obtain ⟨K, hK, hK16⟩ := TopC.ex HG.out
          have hck := hK.le j hlt
          clear hK
          obtain ⟨cu1, cu2⟩ := core_up HO.out hlt
          have hcl : (coreF m gs).length = m := coreL_len m _
          have hcl2 : (coreF m gs2).length = m := coreL_len m _
          obtain ⟨B5, o5, e5, hB5, hc5⟩ := HIC.out (by rw [natI_len, hcl]; omega)
          obtain ⟨B6, o6, e6, hB6, hc6⟩ := HID.out (by rw [natI_len, hcl2]; omega)
          injection e5 with e5
          injection e5 with e5 e5'
          injection e6 with e6
          injection e6 with e6 e6'
          subst e5 e5' e6 e6'
          have z0 := hc5 j (by rw [natI_len, hcl]; omega)
          have z1 := hc6 j (by rw [natI_len, hcl2]; omega)
          rw [geti_natI, Nat.zero_add] at z0 z1
          clear hc5 hc6 hcl hcl2
          generalize getn (coreF m gs) j = cj at *
          generalize getn (coreF m gs2) j = dj at *
          have hd6 : decide (dj < cj) = false := decide_eq_false (by omega)
          have hd7 : decide ((dj : Int) < cj) = false := decide_eq_false (by omega)
          have hd8 : decide ((cj : Int) + 1 < dj) = false := decide_eq_false (by omega)
          have hd9 : decide (cj + 1 < dj) = false := decide_eq_false (by omega)
          go_wp2
          go_quiet (fail)
          go_wp2
          go_roundw
          case rel => exact ⟨j + 1, _, by omega, by go_num, by first | rfl | exact World.drewN_drewN _ _ _⟩
          case measure => simp [intOf]; omega
        · obtain rfl : j = m := by omega
          go_wp2_with (go_at_call 18; refine (awake_any _).mono ?_; rintro e w9 ⟨rfl, b9⟩)
          go_ret
          exact ⟨rfl, (bb.trans (below_drewN nq)).trans (b9.mono (bb.trans (below_drewN nq)).size)⟩
  · obtain ⟨es2, hes2⟩ : ∃ es2, es2 = own ++ [(((b : Nat) : Int), ((a : Nat) : Int))] := ⟨_, rfl⟩
    have E1 : es2.length ≤ 1000000 := by rw [hes2]; simp; omega
    have E2 : es2.length ≤ 131 := by rw [hes2]; simp; omega
    have HE1 := Lib.hid E1
    have HES := Lib.hid hes2
    clear E1
    rcases hq : readF m es2 with _ | gs2
    · have HQ := Lib.hid (show (readF m es2).isSome = false by rw [hq]; rfl)
      clear hq hes2
      go_wp2_with (first
        | (go_at_call 14; refine HED.out.mono ?_; rintro e w2 ⟨v2, n2, rfl, o2, b2⟩; rw [HTK.out] at o2; obtain ⟨A2, c2, rfl, rfl, -, p2⟩ := own_pairs o2; have hz2' := b2.size)
        | (at_builtin; refine wpList_append_own_at _ rfl (.tmp 47) (.tmp 55) 22 rfl w1'.heap.size 67 i0 _ 2 16 Try.underlying22 hi hz0 hz1 hz2 rfl (by omega) _ _ _ rfl (o2.alloc _) ⟨w2.heap.size, 0, none⟩ 1 1 [.int .i64 ((b : Nat) : Int), .int .i64 ((a : Nat) : Int)] rfl rfl (news_two (row_new rfl)) (by simp [Value.oneCell']) (by unfold maxLen; omega) (by omega) (by simp; omega) ?_; intro v3 w3 o3 hg3 _ _; have b3 := app1' o2 hz2' hg3; rw [← pv_snoc] at o3; obtain ⟨A3, c3, e3, -, -, p3⟩ := own_pairs o3; rw [← HES.out] at e3 p3; subst e3; have b3' := b2.trans b3; replace bb := bbo.trans (b3'.mono bbo.size); clear b3 b3' b2 hg3 o3 o2 p2)
        | (go_at_call 16; refine (Graph_any m A3 c3 es2 _ HE1.out p3).mono ?_; rintro e w4 ⟨rfl, b4⟩; rw [HQ.out]; replace bb := bb.trans (b4.mono bb.size))
        | (go_at_call 18; refine (awake_any _).mono ?_; rintro e w5 ⟨rfl, b5⟩))
      go_ret
      exact ⟨rfl, bb.trans (b5.mono bb.size)⟩
    · have HQ := Lib.hid (show (readF m es2).isSome = true by rw [hq]; rfl)
      have HO := Lib.hid (show OneMore m own (((b : Nat) : Int), ((a : Nat) : Int)) gs gs2 from ⟨HG.out, by rw [← hes2]; exact hq⟩)
      have HG2 := Lib.hid hq
      clear hq hes2
      go_wp2_with (first
        | (go_at_call 14; refine HED.out.mono ?_; rintro e w2 ⟨v2, n2, rfl, o2, b2⟩; rw [HTK.out] at o2; obtain ⟨A2, c2, rfl, rfl, -, p2⟩ := own_pairs o2; have hz2' := b2.size)
        | (at_builtin; refine wpList_append_own_at _ rfl (.tmp 47) (.tmp 55) 22 rfl w1'.heap.size 67 i0 _ 2 16 Try.underlying22 hi hz0 hz1 hz2 rfl (by omega) _ _ _ rfl (o2.alloc _) ⟨w2.heap.size, 0, none⟩ 1 1 [.int .i64 ((b : Nat) : Int), .int .i64 ((a : Nat) : Int)] rfl rfl (news_two (row_new rfl)) (by simp [Value.oneCell']) (by unfold maxLen; omega) (by omega) (by simp; omega) ?_; intro v3 w3 o3 hg3 _ _; have b3 := app1' o2 hz2' hg3; rw [← pv_snoc] at o3; obtain ⟨A3, c3, e3, -, -, p3⟩ := own_pairs o3; rw [← HES.out] at e3 p3; subst e3; have b3' := b2.trans b3; replace bb := bbo.trans (b3'.mono bbo.size); replace q1 := q1.below b3'; clear b3 b3' b2 hg3 o3 o2 p2)
        | (go_at_call 16; refine (Graph_any m A3 c3 es2 _ HE1.out p3).mono ?_; rintro e w4 ⟨rfl, b4⟩; rw [HQ.out]; replace q1 := q1.below b4; replace p3 := p3.below b4; replace bb := bb.trans (b4.mono bb.size); clear b4)
        | (go_at_call 15; (with_reducible refine (Densest_some m A1 c1 own gs _ (by omega) q1 HG.out).mono ?_); rintro e w5 ⟨v5, g5, s, p, q, H, L, f, rfl, hD, -, -, -, -, -, -, b5⟩; have HD := Lib.hid hD; have q0 := hD.q0; have q16 := hD.q16; have p120 := den_small hm12 hD.lt hD.ne hD.sub hD.den; replace q1 := q1.below b5; replace p3 := p3.below b5; replace bb := bb.trans (b5.mono bb.size); replace q1 := q1.alloc (.cells #[.int .i64 p, .int .i64 q] 26); replace p3 := p3.alloc (.cells #[.int .i64 p, .int .i64 q] 26); replace bb := bb.alloc bb.size (.cells #[.int .i64 p, .int .i64 q] 26); have y : Row (w5.alloc (.cells #[.int .i64 p, .int .i64 q] 26)) w5.heap.size 26 [.int .i64 p, .int .i64 q] := row_new rfl; clear b5 hD)
        | (go_at_call 15; (with_reducible refine (Densest_some m A3 c3 es2 gs2 _ HE1.out p3 HG2.out).mono ?_); rintro e w6 ⟨v6, g6, s2, p2, q2, H2, L2, f2, rfl, hD, -, -, -, -, -, -, b6⟩; have HD2 := Lib.hid hD; have q20 := hD.q0; have q216 := hD.q16; have p2120 := den_small hm12 hD.lt hD.ne hD.sub hD.den; replace q1 := q1.below b6; replace p3 := p3.below b6; replace y := y.below b6; replace bb := bb.trans (b6.mono bb.size); replace q1 := q1.alloc (.cells #[.int .i64 p2, .int .i64 q2] 26); replace p3 := p3.alloc (.cells #[.int .i64 p2, .int .i64 q2] 26); replace y := y.alloc (.cells #[.int .i64 p2, .int .i64 q2] 26); replace bb := bb.alloc bb.size (.cells #[.int .i64 p2, .int .i64 q2] 26); have z : Row (w6.alloc (.cells #[.int .i64 p2, .int .i64 q2] 26)) w6.heap.size 26 [.int .i64 p2, .int .i64 q2] := row_new rfl; clear b6 hD)
        | (go_at_call 27; (with_reducible refine (Orient_some m A1 c1 own gs _ (by omega) q1 HG.out).mono ?_); rintro e w7 ⟨v7, v7', hs, ts, s', p', q', rfl, hO, ow, -, b7⟩; obtain ⟨A7, c7, e7, -, i7⟩ := own_ints ow; rw [← natI_len] at e7; subst e7; obtain ⟨hh, hhg⟩ := between HG.out HD.out hO; have HH := Lib.hid hh; have HHG := Lib.hid hhg; have HBD := Lib.hid (hh.bound HG.out); have hlen : (natI hs).length ≤ 130 := (by rw [hh.1]; exact hol); generalize natI hs = oi at *; replace q1 := q1.below b7; replace p3 := p3.below b7; replace y := y.below b7; replace z := z.below b7; replace bb := bb.trans (b7.mono bb.size); clear b7 ow hO hh hhg)
        | (go_at_call 27; (with_reducible refine (Orient_some m A3 c3 es2 gs2 _ HE1.out p3 HG2.out).mono ?_); rintro e w8 ⟨v8, v8', hs2, ts2, s2', p2', q2', rfl, hO, ow, -, b8⟩; obtain ⟨A8, c8, e8, -, i8⟩ := own_ints ow; rw [← natI_len] at e8; subst e8; obtain ⟨hh, hhg⟩ := between HG2.out HD2.out hO; have HH2 := Lib.hid hh; have HHG2 := Lib.hid hhg; have HBD2 := Lib.hid (hh.bound HG2.out); have hlen2 : (natI hs2).length ≤ 131 := (by rw [hh.1]; exact E2); generalize natI hs2 = oj at *; have hup := dens_up HO.out HD.out HD2.out; have hby := dens_by HO.out HD.out HD2.out; have g12 := ceil_up q0 q20 hup; have g21 := ceil_by q0 q20 hby; have g1k : (p2 + q2 - 1) / q2 ≤ 1000 := Nat.le_trans (Nat.div_le_self _ _) (by omega); generalize (p + q - 1) / q = G1 at *; generalize (p2 + q2 - 1) / q2 = G2 at *; have HDL := Lib.hid (show decide (p2 * q < p * q2) = false from decide_eq_false (by omega)); obtain ⟨X1, hX1⟩ : ∃ X : Nat, X = p2 * q := ⟨_, rfl⟩; obtain ⟨X2, hX2⟩ : ∃ X : Nat, X = p * q2 := ⟨_, rfl⟩; obtain ⟨X3, hX3⟩ : ∃ X : Nat, X = q * q2 := ⟨_, rfl⟩; have xb1 : X1 ≤ 120 * 16 := (by rw [hX1]; exact Nat.mul_le_mul p2120 q16); have xb2 : X2 ≤ 120 * 16 := (by rw [hX2]; exact Nat.mul_le_mul p120 q216); have xb3 : X3 ≤ 16 * 16 := (by rw [hX3]; exact Nat.mul_le_mul q16 q216); have hw1 : IntKind.i64.wrap ((p2 : Int) * q) = X1 := (by rw [← Int.natCast_mul, ← hX1]; exact IntWalk.i64_in _ (by omega)); have hw2 : IntKind.i64.wrap ((p : Int) * q2) = X2 := (by rw [← Int.natCast_mul, ← hX2]; exact IntWalk.i64_in _ (by omega)); have hw3 : IntKind.i64.wrap ((q : Int) * q2) = X3 := (by rw [← Int.natCast_mul, ← hX3]; exact IntWalk.i64_in _ (by omega)); rw [← hX1, ← hX2] at hup hby; rw [← hX3] at hby; have hd1 : decide ((X3 : Int) ≤ X1 - X2) = false := decide_eq_false (by omega); have hd2 : decide (G2 < G1) = false := decide_eq_false (by omega); have hd3 : decide ((G2 : Int) < G1) = false := decide_eq_false (by omega); have hd4 : decide ((G1 : Int) + 1 < G2) = false := decide_eq_false (by omega); have hd5 : decide (G1 + 1 < G2) = false := decide_eq_false (by omega); clear hX1 hX2 hX3 hup hby; replace q1 := q1.below b8; replace p3 := p3.below b8; replace y := y.below b8; replace z := z.below b8; replace i7 := i7.below b8; replace bb := bb.trans (b8.mono bb.size); clear b8 ow hO hh hhg)
        | (go_at_call 32; (with_reducible refine (Cores_some m A1 c1 own gs _ (by omega) q1 HG.out).mono ?_); rintro e w9 ⟨g9, hg9, rfl, r9, b9⟩; have ic := row_ints r9; replace q1 := q1.below b9; replace p3 := p3.below b9; replace y := y.below b9; replace z := z.below b9; replace i7 := i7.below b9; replace i8 := i8.below b9; replace bb := bb.trans (b9.mono bb.size); clear b9 r9 hg9)
        | (go_at_call 32; (with_reducible refine (Cores_some m A3 c3 es2 gs2 _ HE1.out p3 HG2.out).mono ?_); rintro e wa ⟨ga, hga, rfl, ra, ba⟩; have id := row_ints ra; replace q1 := q1.below ba; replace p3 := p3.below ba; replace y := y.below ba; replace z := z.below ba; replace i7 := i7.below ba; replace i8 := i8.below ba; replace ic := ic.below ba; replace bb := bb.trans (ba.mono bb.size); obtain ⟨⟨k0, k1⟩, -⟩ := y.cells2; obtain ⟨⟨l0, l1⟩, -⟩ := z.cells2; clear ba ra hga)
        | (go_at_call 39; (with_reducible refine (valid_any p q p120 q16 q0 _).mono ?_); rintro e wb ⟨rfl, bv⟩; replace q1 := q1.below bv; replace p3 := p3.below bv; replace y := y.below bv; replace z := z.below bv; replace i7 := i7.below bv; replace i8 := i8.below bv; replace ic := ic.below bv; replace id := id.below bv; replace bb := bb.trans (bv.mono bb.size); clear k0 k1 l0 l1; obtain ⟨⟨k0, k1⟩, -⟩ := y.cells2; obtain ⟨⟨l0, l1⟩, -⟩ := z.cells2; clear bv)
        | (go_at_call 39; (with_reducible refine (valid_any p2 q2 p2120 q216 q20 _).mono ?_); rintro e wb ⟨rfl, bv⟩; replace q1 := q1.below bv; replace p3 := p3.below bv; replace y := y.below bv; replace z := z.below bv; replace i7 := i7.below bv; replace i8 := i8.below bv; replace ic := ic.below bv; replace id := id.below bv; replace bb := bb.trans (bv.mono bb.size); clear k0 k1 l0 l1; obtain ⟨⟨k0, k1⟩, -⟩ := y.cells2; obtain ⟨⟨l0, l1⟩, -⟩ := z.cells2; clear bv)
        | (go_at_call 28; (with_reducible refine (heads_yes (by omega) q1 i7 HH.out).mono ?_); rintro e wc' ⟨rfl, nc, rfl⟩; replace q1 := q1.below (below_drewN nc); replace p3 := p3.below (below_drewN nc); replace y := y.below (below_drewN nc); replace z := z.below (below_drewN nc); replace i7 := i7.below (below_drewN nc); replace i8 := i8.below (below_drewN nc); replace ic := ic.below (below_drewN nc); replace id := id.below (below_drewN nc); replace bb := bb.trans (below_drewN nc); clear k0 k1 l0 l1; generalize wb.drewN nc = wc at *; obtain ⟨⟨k0, k1⟩, -⟩ := y.cells2; obtain ⟨⟨l0, l1⟩, -⟩ := z.cells2)
        | (go_at_call 28; (with_reducible refine (heads_yes HE1.out p3 i8 HH2.out).mono ?_); rintro e wd' ⟨rfl, nd, rfl⟩; replace q1 := q1.below (below_drewN nd); replace p3 := p3.below (below_drewN nd); replace y := y.below (below_drewN nd); replace z := z.below (below_drewN nd); replace i7 := i7.below (below_drewN nd); replace i8 := i8.below (below_drewN nd); replace ic := ic.below (below_drewN nd); replace id := id.below (below_drewN nd); replace bb := bb.trans (below_drewN nd); clear k0 k1 l0 l1; generalize wc.drewN nd = wd at *; obtain ⟨⟨k0, k1⟩, -⟩ := y.cells2; obtain ⟨⟨l0, l1⟩, -⟩ := z.cells2)
        | (go_at_call 29; (with_reducible refine (RefHeight_any m A7 c7 oi _ (by omega) (by omega) i7 HBD.out).mono ?_); rintro e we ⟨rfl, be⟩; rw [HHG.out]; replace y := y.below be; replace z := z.below be; replace i8 := i8.below be; replace ic := ic.below be; replace id := id.below be; replace bb := bb.trans (be.mono bb.size); clear k0 k1 l0 l1; obtain ⟨⟨k0, k1⟩, -⟩ := y.cells2; obtain ⟨⟨l0, l1⟩, -⟩ := z.cells2; clear be)
        | (go_at_call 29; (with_reducible refine (RefHeight_any m A8 c8 oj _ (by omega) (by omega) i8 HBD2.out).mono ?_); rintro e wf ⟨rfl, bf⟩; rw [HHG2.out]; replace y := y.below bf; replace z := z.below bf; replace ic := ic.below bf; replace id := id.below bf; replace bb := bb.trans (bf.mono bb.size); clear k0 k1 l0 l1; obtain ⟨⟨k0, k1⟩, -⟩ := y.cells2; obtain ⟨⟨l0, l1⟩, -⟩ := z.cells2; clear bf)
        | (go_at_call 40; refine (less_any p2 q2 p q (by omega) q216 (by omega) q16 _).mono ?_; rintro e wg ⟨rfl, bg⟩; rw [HDL.out]; replace y := y.below bg; replace z := z.below bg; replace ic := ic.below bg; replace id := id.below bg; replace bb := bb.trans (bg.mono bb.size); clear k0 k1 l0 l1; obtain ⟨⟨k0, k1⟩, -⟩ := y.cells2; obtain ⟨⟨l0, l1⟩, -⟩ := z.cells2; clear bg))
      clear q1 p3 i7 i8 y z k0 k1 l0 l1
      have HIC := Lib.hid ic
      have HID := Lib.hid id
      clear ic id
      go_loopw [31] (fun v wr => ∃ (j n : Nat), j ≤ m ∧ v = .int .i64 j ∧ wr = wg.drewN n) (fun v _ => m - (intOf v).toNat)
      case atStart => exact ⟨0, 0, by omega, rfl, rfl⟩
      case round =>
        obtain ⟨j, nq, hj, rfl, rfl⟩ := hrel
        by_cases hlt : j < m
        · obtain ⟨K, hK, hK16⟩ := TopC.ex HG.out
          have hck := hK.le j hlt
          clear hK
          obtain ⟨cu1, cu2⟩ := core_up HO.out hlt
          have hcl : (coreF m gs).length = m := coreL_len m _
          have hcl2 : (coreF m gs2).length = m := coreL_len m _
          obtain ⟨B5, o5, e5, hB5, hc5⟩ := HIC.out (by rw [natI_len, hcl]; omega)
          obtain ⟨B6, o6, e6, hB6, hc6⟩ := HID.out (by rw [natI_len, hcl2]; omega)
          injection e5 with e5
          injection e5 with e5 e5'
          injection e6 with e6
          injection e6 with e6 e6'
          subst e5 e5' e6 e6'
          have z0 := hc5 j (by rw [natI_len, hcl]; omega)
          have z1 := hc6 j (by rw [natI_len, hcl2]; omega)
          rw [geti_natI, Nat.zero_add] at z0 z1
          clear hc5 hc6 hcl hcl2
          generalize getn (coreF m gs) j = cj at *
          generalize getn (coreF m gs2) j = dj at *
          have hd6 : decide (dj < cj) = false := decide_eq_false (by omega)
          have hd7 : decide ((dj : Int) < cj) = false := decide_eq_false (by omega)
          have hd8 : decide ((cj : Int) + 1 < dj) = false := decide_eq_false (by omega)
          have hd9 : decide (cj + 1 < dj) = false := decide_eq_false (by omega)
          go_wp2
          go_quiet (fail)
          go_wp2
          go_roundw
          case rel => exact ⟨j + 1, _, by omega, by go_num, by first | rfl | exact World.drewN_drewN _ _ _⟩
          case measure => simp [intOf]; omega
        · obtain rfl : j = m := by omega
          go_wp2_with (go_at_call 18; refine (awake_any _).mono ?_; rintro e w9 ⟨rfl, b9⟩)
          go_ret
          exact ⟨rfl, (bb.trans (below_drewN nq)).trans (b9.mono (bb.trans (below_drewN nq)).size)⟩
end Go.Proofs.Ytpaeagkgmbhndaa
