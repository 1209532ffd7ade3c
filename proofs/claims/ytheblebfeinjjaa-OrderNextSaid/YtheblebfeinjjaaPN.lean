/- OrderNext, walked. -/
import Derived.Test.YtheblebfeinjjaaPM
import Derived.Test.YtheblebfeinjjaaOB
import Derived.Test.YtheblebfeinjjaaPA
import Derived.Test.YtheblebfeinjjaaNY
namespace Go.Proofs.Ytheblebfeinjjaa
open Go.RowKit
set_option maxHeartbeats 1000000
set_option maxRecDepth 100000
theorem mod_wrap2 (x : Int) (n : Nat) (hn : 0 < n) (hn2 : n ≤ 1099511627776) : wrap64 ((IntKind.u64.wrap x).tmod ↑n) = (modI x n : Int) := by
  have e : IntKind.u64.wrap x = x % 18446744073709551616 := by simp [IntKind.wrap, IntKind.bits, IntKind.signed]
  rw [e]
  unfold modI
  have h0 : 0 ≤ x % 18446744073709551616 := by omega
  generalize x % 18446744073709551616 = r at *
  obtain ⟨m, rfl⟩ := Int.eq_ofNat_of_zero_le h0
  have e2 : Int.tmod (m:Int) (n:Int) = ((m % n : Nat) : Int) := rfl
  have h3 : m % n < n := Nat.mod_lt _ hn
  rw [e2, Int.toNat_natCast, IntWalk.wrap64_in _ ⟨by omega, by omega⟩]
theorem mod_any2 (x : Int) (n : Nat) (w : World) (hn : 0 < n) (hn2 : n ≤ 1099511627776) :
    Calls Try.prog 48 #[.int .i64 x, .int .i64 n] w fun e w' => e = .returned (.int .i64 (modI x n)) ∧ w = w' := by
  have H := Lib.hid (mod_wrap2 x n hn hn2)
  go_enter Try.func48, Try.ntmps48
  go_wp2
  go_ret
  exact ⟨ret_int H.out, rfl⟩
/-- The numbers from place j on, the last first. -/
def rvP (l : List Int) (j : Nat) : List Int := (l.drop j).reverse
theorem rvP_len (l : List Int) (j : Nat) : (rvP l j).length = l.length - j := by simp [rvP]
theorem rvP_step {l : List Int} {j : Nat} (h : j < l.length) : rvP l j = rvP l (j + 1) ++ [geti l j] := by
  unfold rvP
  rw [drop_cons h, List.reverse_cons]
theorem rvP_end (l : List Int) : rvP l l.length = [] := by simp [rvP]
theorem rvP_zero (l : List Int) : rvP l 0 = l.reverse := rfl
theorem drew_cell {w : World} {p : Addr} {v : Value} (h : w.cell? p = some v) (n : Nat) : (w.drewN n).cell? p = some v := h
theorem OrderNext_any (n k : Int) (w : World) : Calls Try.prog 11 #[.int .i64 n, .int .i64 k] w fun e w' => e = .returned (.bool true) ∧ Below w.heap.size w w' := by
  obtain ⟨j0, ji, jz0, jz1, jz2⟩ := info_parts info3
  have hm0 := modI_lt n (show 0 < 12 by omega)
  obtain ⟨N, hN⟩ : ∃ N : Nat, N = modI n 12 + 1 := ⟨_, rfl⟩
  have hN2 : (1 : Int) + (modI n 12 : Nat) = (N : Int) := by omega
  have HM1 := Lib.hid (mod_any n 12 w (by omega) (by omega))
  generalize modI n 12 = m0 at *
  have hNr : 1 ≤ N ∧ N ≤ 12 := by omega
  clear hN
  have hpr : ((N : Int) * ((N : Int) - 1)).tdiv 2 = (tri N : Nat) ∧ 0 ≤ (N : Int) * ((N : Int) - 1) ∧ (N : Int) * ((N : Int) - 1) ≤ 132 ∧ (N : Int) * ((N : Int) - 1) = 2 * (tri N : Nat) := by
    have : ∀ N : Nat, N < 13 → 1 ≤ N → ((N : Int) * ((N : Int) - 1)).tdiv 2 = (tri N : Nat) ∧ 0 ≤ (N : Int) * ((N : Int) - 1) ∧ (N : Int) * ((N : Int) - 1) ≤ 132 ∧ (N : Int) * ((N : Int) - 1) = 2 * (tri N : Nat) := by decide +kernel
    exact this N (by omega) hNr.1
  obtain ⟨p1, p2, p3, p4⟩ := hpr
  obtain ⟨hN1, hN12⟩ := hNr
  have hfp := facN_pos N
  have hfm : facN N ≤ 479001600 := by
    have : ∀ n, n < 13 → facN n ≤ 479001600 := by decide
    exact this _ (by omega)
  have HM2 := Lib.hid (fun w => mod_any2 k (facN N) w hfp (by omega))
  have hK := modI_lt k hfp
  generalize modI k (facN N) = K at *
  have HF := Lib.hid (fun w => Factorial_any N w (by omega))
  have hQ : ∀ k, k < facN N → dgQ k N = 0 := fun k hk => by rw [dgQ_eq, Nat.div_eq_of_lt hk]
  have HY := Lib.hid (fun k w (hk : k < facN N) => Item_yes N k w hN12 (by omega) (hQ k hk))
  have HIS : ∀ k, IsO (mdL (dgL k N)) := fun k => okT_iso (by rw [dgL_len]; exact hN12) (dgL_ok k N)
  have HLN : ∀ k, (mdL (dgL k N)).length = N := fun k => by rw [mdL_len, dgL_len]
  have hIR := inv_rev (HIS K)
  have hDR := des_rev (HIS K)
  have hlast : K + 1 = facN N → sumN (tabL (mdL (dgL K N))) N = (tri N : Nat) := fun e => by
    rw [tab_mdL (dgL_ok K N), show K = facN N - 1 by omega]
    have := dgL_last N
    omega
  have HLX := Lib.hid (fun (h : K + 1 < facN N) => item_lex h)
  have HI1 := HIS K
  have HI2 := HI1.rev
  have hl1 := HLN K
  have hl2 : (mdL (dgL K N)).reverse.length = N := by rw [List.length_reverse]; exact hl1
  have HLN2 := Lib.hid (HLN (K + 1))
  rw [hl1] at hIR hDR
  clear HIS HLN hQ hm0
  have HY1 := Lib.hid (fun w => HY.out K w hK)
  have HY2 := Lib.hid (fun (h : K + 1 < facN N) w => HY.out (K + 1) w h)
  clear HY
  generalize mdL (dgL (K + 1) N) = O2 at *
  generalize mdL (dgL K N) = O at *
  have HN1 : ∃ s1 s2 s3 s4 s5 s6, nmL O = [s1, s2, s3, s4, s5, s6] ∧ s1 = sumN (tabL O) N ∧ s3 = (cntN (isDb O) N : Nat) := ⟨_, _, _, _, _, _, rfl, by rw [hl1], by rw [hl1]⟩
  have HN2 : ∃ u1 u2 u3 u4 u5 u6, nmL O.reverse = [u1, u2, u3, u4, u5, u6] ∧ u1 = sumN (tabL O.reverse) N ∧ u3 = (cntN (isDb O.reverse) N : Nat) := ⟨_, _, _, _, _, _, rfl, by rw [hl2], by rw [hl2]⟩
  obtain ⟨s1, s2, s3, s4, s5, s6, N1, e1, e3⟩ := HN1
  obtain ⟨u1, u2, u3, u4, u5, u6, N2, f1, f3⟩ := HN2
  rw [← e1, ← f1] at hIR
  rw [← e1] at hlast
  have hIR2 : s1 + u1 = (tri N : Nat) := by omega
  have hDR2 : s3 + u3 = (N : Int) - 1 := by omega
  have hs1 := sumN_tab O HI1.le N (by omega)
  have hu1 := sumN_tab O.reverse HI2.le N (by omega)
  rw [← e1] at hs1
  rw [← f1] at hu1
  have hs3 : 0 ≤ s3 ∧ s3 ≤ 12 := by have := cntN_le (isDb O) N; omega
  have hu3 : 0 ≤ u3 ∧ u3 ≤ 12 := by have := cntN_le (isDb O.reverse) N; omega
  have HX1 := fun A c w hw => Numbers_yes A c O w HI1 hw
  have HX2 := fun A c w hw => Numbers_yes A c O.reverse w HI2 hw
  rw [N1, hl1] at HX1
  rw [N2, hl2] at HX2
  replace HX1 := Lib.hid HX1
  replace HX2 := Lib.hid HX2
  have HL1 := Lib.hid hl1
  have HLa := Lib.hid hlast
  have HRZ := Lib.hid (rvP_zero O)
  have HRE : Hid (rvP O N = []) := Lib.hid (by rw [← hl1]; exact rvP_end O)
  have HRS : Hid (∀ j, j < N → rvP O j = rvP O (j + 1) ++ [geti O j]) := Lib.hid (fun j hj => rvP_step (by omega))
  have HRL : Hid (∀ j, (rvP O j).length = N - j) := Lib.hid (fun j => by rw [rvP_len, hl1])
  clear N1 N2 e1 e3 f1 f3 hIR hDR hlast HI1 HI2 hl1 hl2 hfp
  generalize facN N = F at *
  go_enter Try.func11, Try.ntmps11
  go_wp2_with (first
    | (go_at_call 48; refine HM1.out.mono ?_; rintro e w1 ⟨rfl, rfl⟩)
    | (go_at_call 44; fail))
  refine (HF.out _).mono ?_
  rintro e w2 ⟨rfl, rfl⟩
  go_wp2_with (go_at_call 48; fail)
  refine (HM2.out _).mono ?_
  rintro e w2 ⟨rfl, rfl⟩
  clear HM1 HM2
  go_wp2_with (go_at_call 40; fail)
  refine (HY1.out _).mono ?_
  rintro e w3 ⟨A1, c1, rfl, i1, -, b3⟩
  have I1 := Lib.hid i1
  clear i1 HY1
  have hi1 : (Try.prog.info? 25).map (·.size) = some (iv [s1, s2, s3, s4, s5, s6]).toArray.size := info25
  have hi2 : (Try.prog.info? 25).map (·.size) = some (iv [u1, u2, u3, u4, u5, u6]).toArray.size := info25
  go_wp2_with (go_at_call 16; fail)
  refine (HX1.out _ _ _ I1.out).mono ?_
  rintro e w4 ⟨rfl, b4⟩
  have q1 : Row (w4.alloc (.cells Z6.toArray 25)) w4.heap.size 25 Z6 := row_new rfl
  have g4 : Below w4.heap.size w4 (w4.alloc (.cells Z6.toArray 25)) := (Below.refl _ _).alloc (Nat.le_refl _) _
  clear HX1
  go_wp2_with (first
    | (with_reducible refine (?_ : wpList _ _ _ (Oper.mk _ (Op.store 25 (.tmp 7) _) _ _ _ _ :: _) _ _); refine wpList_store_row rfl 25 (.tmp 7) (.tmp 32) rfl w4.heap.size (iv [s1, s2, s3, s4, s5, s6]).toArray rfl rfl 25 Z6.toArray (row_heap q1) hi1 rfl (iv_all _) ?_; replace q1 := q1.row (iv [s1, s2, s3, s4, s5, s6]); replace g4 := below_row (g := w4.heap.size) g4 (Nat.le_refl _) (iv [s1, s2, s3, s4, s5, s6]).toArray; generalize World.setRow (w4.alloc _) _ _ = W at *))
  replace I1 := Lib.hid ((I1.out.below b4).below g4)
  replace b4 := b3.trans ((b4.trans (g4.mono b4.size)).mono b3.size)
  have Q1 := Lib.hid q1
  have o0 : W.ownsRow W.heap.size 3 1 (.slice none 0 0) 0 (iv (rvP O N)) := by rw [HRE.out]; exact ⟨rfl, .inl ⟨rfl, rfl⟩⟩
  clear b3 q1 g4
  go_loopw [9, 10] (fun v i wr => ∃ j : Nat, j ≤ N ∧ i = .int .i64 ((j : Int) - 1) ∧ wr.ownsRow W.heap.size 3 1 v (N - j) (iv (rvP O j)) ∧ Below W.heap.size W wr) (fun _ i _ => (intOf i + 1).toNat)
  case atStart => exact ⟨N, Nat.le_refl _, rfl, by rw [Nat.sub_self]; exact o0, Below.refl _ _⟩
  case round =>
    clear o0
    obtain ⟨j, hj, rfl, o0, z0⟩ := hrel
    by_cases hj0 : 0 < j
    · obtain ⟨i, rfl⟩ : ∃ i, j = i + 1 := ⟨j - 1, by omega⟩
      rw [show (((i + 1 : Nat) : Int) - 1) = (i : Int) by omega]
      obtain ⟨a1, b1, rfl, -, f1⟩ := (I1.out.below z0) (by rw [HL1.out]; omega)
      have h1 := f1 i (by rw [HL1.out]; omega)
      have HPS := Lib.hid (HRS.out i (by omega))
      have hbs := z0.size
      clear f1 Q1
      generalize geti O i = x at *
      have hnr : Row (wr.alloc (.cells #[.int .i64 x] 3)) wr.heap.size 3 [.int .i64 x] := row_new rfl
      obtain ⟨P1, HP1⟩ : ∃ P, Hid (rvP O i = P) := ⟨_, Lib.hid rfl⟩
      rw [HP1.out] at HPS
      have hpl := HRL.out (i + 1)
      generalize rvP O (i + 1) = P at *
      go_wp2_with (at_builtin; refine wpList_append_own_at _ rfl (.tmp 41) (.tmp 46) 22 rfl W.heap.size 3 j0 (.int .i64 0) 1 8 Try.underlying22 ji jz0 jz1 jz2 rfl (by decide) _ _ _ rfl (o0.alloc _) ⟨wr.heap.size, 0, none⟩ 1 1 [.int .i64 x] rfl rfl (news_one hnr) (by simp [Value.oneCell']) (by unfold maxLen; omega) (by omega) (by simp; omega) ?_; intro v2 w2 o2 hg2 _ _; rw [← iv_snoc, ← HPS.out] at o2; have b3 := z0.trans (app1' o0 hbs hg2))
      go_roundw
      case rel => exact ⟨i, by omega, rfl, by rw [HP1.out, show N - i = N - (i + 1) + 1 by omega]; exact o2, b3⟩
      case measure => simp [intOf]
    · obtain rfl : j = 0 := by omega
      rw [HRZ.out] at o0
      obtain ⟨A9, c9, rfl, hl9, -, i9⟩ := own_intsI o0
      rw [← hl9, Nat.sub_zero]
      replace I1 := Lib.hid (I1.out.below z0)
      replace Q1 := Lib.hid (Q1.out.below z0)
      have I9 := Lib.hid i9
      replace b4 := b4.trans (z0.mono b4.size)
      clear o0 z0 i9 hl9 HRZ HRE HRS HRL
      go_wp2_with (go_at_call 16; fail)
      refine (HX2.out _ _ _ I9.out).mono ?_
      rintro e w5 ⟨rfl, b5⟩
      replace I1 := Lib.hid (I1.out.below b5)
      replace Q1 := Lib.hid (Q1.out.below b5)
      replace b5 := b4.trans (b5.mono b4.size)
      have q2 : Row (w5.alloc (.cells Z6.toArray 25)) w5.heap.size 25 Z6 := row_new rfl
      have g5 : Below w5.heap.size w5 (w5.alloc (.cells Z6.toArray 25)) := (Below.refl _ _).alloc (Nat.le_refl _) _
      have HC1 := Lib.hid (fun (V : World) (h : Row V w4.heap.size 25 (iv [s1, s2, s3, s4, s5, s6])) => (⟨ivR h (i := 0) (by simp), ivR h (i := 2) (by simp)⟩ : V.cell? ⟨w4.heap.size, 0, none⟩ = some (.int .i64 s1) ∧ V.cell? ⟨w4.heap.size, 2, none⟩ = some (.int .i64 s3)))
      have HC2 := Lib.hid (fun (V : World) (h : Row V w5.heap.size 25 (iv [u1, u2, u3, u4, u5, u6])) => (⟨ivR h (i := 0) (by simp), ivR h (i := 2) (by simp)⟩ : V.cell? ⟨w5.heap.size, 0, none⟩ = some (.int .i64 u1) ∧ V.cell? ⟨w5.heap.size, 2, none⟩ = some (.int .i64 u3)))
      obtain ⟨hs1, hs1'⟩ := hs1
      obtain ⟨hu1, hu1'⟩ := hu1
      obtain ⟨hs3, hs3'⟩ := hs3
      obtain ⟨hu3, hu3'⟩ := hu3
      have g1 : (s1 + u1 != ((tri N : Nat) : Int)) = false := by simp; omega
      have g3 : (s3 + u3 != (N : Int) - 1) = false := by simp; omega
      have htr : tri N ≤ 66 := by omega
      have hw1 : wrap64 ((tri N : Nat) : Int) = ((tri N : Nat) : Int) := IntWalk.wrap64_in _ ⟨by omega, by omega⟩
      clear HX2 I9 b4 hIR2 hDR2 p4
      go_wp2_with (first
        | (with_reducible refine (?_ : wpList _ _ _ (Oper.mk _ (Op.store 25 (.tmp 11) _) _ _ _ _ :: _) _ _); refine wpList_store_row rfl 25 (.tmp 11) (.tmp 51) rfl w5.heap.size (iv [u1, u2, u3, u4, u5, u6]).toArray rfl rfl 25 Z6.toArray (row_heap q2) hi2 rfl (iv_all _) ?_; replace q2 := q2.row (iv [u1, u2, u3, u4, u5, u6]); replace g5 := below_row (g := w5.heap.size) g5 (Nat.le_refl _) (iv [u1, u2, u3, u4, u5, u6]).toArray; generalize World.setRow (w5.alloc _) _ _ = V at *; obtain ⟨d1, d3⟩ := HC1.out V (Q1.out.below g5); obtain ⟨d2, d4⟩ := HC2.out V q2; replace b5 := b5.trans (g5.mono b5.size); replace I1 := Lib.hid (I1.out.below g5); clear q2)
        | (go_at_call 44; fail))
      refine (HF.out _).mono ?_
      rintro e w6 ⟨rfl, rfl⟩
      clear d2 d3 d4 g1 g3 hs1' hu1 hu1' hs3 hs3' hu3 hu3' htr HC1 HC2 hi1 hi2
      by_cases hKF : K + 1 = F
      · have hst := HLa.out hKF
        subst hst
        have g1 : ((K : Int) + 1 == (F : Int)) = true := by simp; omega
        clear HLa HLX HY2
        go_wp2_with (go_at_call 21; refine (awake_any _).mono ?_; rintro e w9 ⟨rfl, b9⟩; replace b5 := b5.trans (b9.mono b5.size); clear b9)
        go_ret
        exact ⟨rfl, b5⟩
      · have g1 : ((K : Int) + 1 == (F : Int)) = false := by simp; omega
        have HY := Lib.hid (HY2.out (by omega))
        rw [Int.natCast_add] at HY
        obtain ⟨x, hx0, hx1, hx2⟩ := HLX.out (by omega)
        rw [HL1.out] at hx0
        have HX1 := Lib.hid hx1
        have HX2 := Lib.hid hx2
        clear HLa HLX HY2 hx1 hx2 d1 hw1 p1
        go_wp2_with (go_at_call 40; fail)
        refine (HY.out _).mono ?_
        rintro e w7 ⟨A2, c2, rfl, i2, -, b7⟩
        replace I1 := Lib.hid (I1.out.below b7)
        have I2 := Lib.hid i2
        replace b7 := b5.trans (b7.mono b5.size)
        clear HY b5 i2
        go_wp2
        go_loopw [15] (fun i wr => ∃ j : Nat, j ≤ x ∧ i = .int .i64 j ∧ Hid (IntsAt wr A1 O) ∧ Hid (IntsAt wr A2 O2) ∧ Below w.heap.size w wr) (fun i _ => N - (intOf i).toNat)
        case atStart => exact ⟨0, by omega, rfl, I1, I2, b7⟩
        case round =>
          clear I1 I2 b7
          obtain ⟨j, hj, rfl, I1, I2, b7⟩ := hrel
          obtain ⟨a1, b1, rfl, -, f1⟩ := I1.out (by rw [HL1.out]; omega)
          obtain ⟨a2, b2, rfl, -, f2⟩ := I2.out (by rw [HLN2.out]; omega)
          have h1 := f1 j (by rw [HL1.out]; omega)
          have h2 := f2 j (by rw [HLN2.out]; omega)
          clear f1 f2
          by_cases hjx : j = x
          · subst hjx
            have e1 := HX1.out
            generalize geti O j = y at *
            generalize geti O2 j = z at *
            have g2 : (y != z) = true := by simp; omega
            have g3 : decide (y < z) = true := decide_eq_true e1
            go_wp2
            refine wp_region_quiet_lit (by kernel_rfl) (by kernel_rfl) ?_
            repeat go_big_quiet_step ((fail))
            refine wpQuiet_nil ?_
            rintro _ ⟨nq, rfl⟩
            replace h1 := drew_cell h1 nq
            replace h2 := drew_cell h2 nq
            replace b7 := b7.trans (below_drewN nq)
            generalize wr.drewN nq = W1 at *
            go_wp2
            refine wp_region_quiet_tail 10 (by kernel_rfl) (by kernel_rfl) ?_
            simp only [List.take_succ_cons, List.take_zero, List.drop_succ_cons, List.drop_zero]
            repeat go_big_quiet_step ((fail))
            refine wpQuiet_nil ?_
            rintro _ ⟨nq, rfl⟩
            replace b7 := b7.trans (below_drewN nq)
            clear h1 h2
            generalize W1.drewN nq = W2 at *
            go_wp2_with (go_at_call 21; refine (awake_any _).mono ?_; rintro e w9 ⟨rfl, b9⟩; replace b7 := b7.trans (b9.mono b7.size); clear b9)
            go_ret
            exact ⟨rfl, b7⟩
          · have e1 := HX2.out j (by omega)
            rw [← e1] at h2
            generalize geti O j = y at *
            have g2 : (y != y) = false := by simp
            go_wp2
            refine wp_region_quiet_lit (by kernel_rfl) (by kernel_rfl) ?_
            repeat go_big_quiet_step ((fail))
            refine wpQuiet_nil ?_
            rintro _ ⟨nq, rfl⟩
            replace I1 := Lib.hid (I1.out.drewN nq)
            replace I2 := Lib.hid (I2.out.drewN nq)
            replace b7 := b7.trans (below_drewN nq)
            clear h1 h2
            generalize wr.drewN nq = W1 at *
            go_wp2
            go_roundw
            case rel => exact ⟨j + 1, by omega, by go_num, I1, I2, b7⟩
            case measure => simp [intOf]; omega
end Go.Proofs.Ytheblebfeinjjaa
