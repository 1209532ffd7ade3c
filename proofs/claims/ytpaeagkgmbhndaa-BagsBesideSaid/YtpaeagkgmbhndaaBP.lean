/- BagsGreatest returns true: the walk. -/
import Derived.Test.YtpaeagkgmbhndaaZO
/- A set made from any list. -/
namespace Go.Proofs.Ytpaeagkgmbhndaa
open Go.RowKit
set_option maxHeartbeats 1000000
set_option maxRecDepth 100000
theorem asc_snoc {m k : Nat} {xs : List Int} (h : asc m xs xs.length) (hb : ∀ j, j < xs.length → geti xs j < k) (hk : k < m) : asc m (xs ++ [(k : Int)]) (xs.length + 1) := by
  intro i hi
  by_cases e : i < xs.length
  · obtain ⟨a, b, c⟩ := h i e
    rw [geti_snoc, if_pos e]
    refine ⟨a, b, fun h0 => ?_⟩
    rw [geti_snoc, if_pos (by omega)]
    exact c h0
  · have : i = xs.length := by omega
    subst this
    rw [geti_snoc, if_neg (by omega), if_pos rfl]
    refine ⟨by omega, by omega, fun h0 => ?_⟩
    rw [geti_snoc, if_pos (by omega)]
    exact hb _ (by omega)
/-- The vertices below k that a list marks. -/
structure PickI (m k : Nat) (xs out : List Int) : Prop where
  asc : asc m out out.length
  lt : ∀ j, j < out.length → geti out j < k
  len : out.length ≤ k
  some : (xs.length = 0 → 0 < k) → (0 < xs.length → modI (geti xs 0) m < k) → 0 < out.length
theorem PickI.skip {m k : Nat} {xs out : List Int} (h : PickI m k xs out) (h1 : 0 < xs.length → modI (geti xs 0) m ≠ k) (h2 : ¬ (xs.length = 0 ∧ k = 0)) : PickI m (k + 1) xs out := by
  refine ⟨h.asc, fun j hj => ?_, by have := h.len; omega, fun a b => h.some (fun e => ?_) (fun e => ?_)⟩
  · have := h.lt j hj; omega
  · have : ¬ k = 0 := fun e2 => h2 ⟨e, e2⟩
    omega
  · have := b e; have := h1 e; omega
theorem PickI.put {m k : Nat} {xs out : List Int} (h : PickI m k xs out) (hk : k < m) : PickI m (k + 1) xs (out ++ [(k : Int)]) := by
  have hl : (out ++ [(k : Int)]).length = out.length + 1 := by simp
  refine ⟨by rw [hl]; exact asc_snoc h.asc h.lt hk, fun j hj => ?_, by rw [hl]; have := h.len; omega, fun _ _ => by omega⟩
  rw [geti_snoc]
  split
  · have := h.lt j ‹_›; omega
  · rw [if_pos (by omega)]; omega
theorem picked_any (m : Nat) (B : Option Addr) (d : Nat) (xs : List Int) (w : World) (_hx : xs.length ≤ d) (hd : d ≤ maxLen) (hb : IntsAt w B xs) (h1 : 1 ≤ m) (hm : m ≤ 16) :
    Calls Try.prog 38 #[.slice B xs.length d, .int .i64 m] w fun e w' => ∃ v ts, e = .returned v ∧ IsSet m ts ∧ w'.ownsRow w.heap.size 3 1 v ts.length (iv ts) ∧ Below w.heap.size w w' := by
  obtain ⟨i0, hi, hz0, hz1, hz2⟩ := info_parts info3
  have hd2 : xs.length ≤ 9223372036854775807 := by unfold maxLen at hd; omega
  have hm0 : 0 < xs.length → modI (geti xs 0) m < m := fun _ => modI_lt _ h1
  clear _hx hd
  go_enter Try.func38, Try.ntmps38
  go_wp2
  go_loopw [5, 6] (fun o i wr => ∃ (k : Nat) (out : List Int), k ≤ m ∧ i = .int .i64 k ∧ PickI m k xs out ∧ wr.ownsRow w.heap.size 3 1 o out.length (iv out) ∧ Below w.heap.size w wr) (fun _ i _ => m - (intOf i).toNat)
  case atStart =>
    refine ⟨0, [], by omega, rfl, ⟨fun j hj => absurd hj (by simp), fun j hj => absurd hj (by simp), by simp, fun a b => ?_⟩, ⟨rfl, .inl ⟨rfl, rfl⟩⟩, Below.refl _ _⟩
    by_cases e : xs.length = (0 : Nat)
    · exact absurd (a e) (by omega)
    · exact absurd (b (by omega)) (by omega)
  case round =>
    obtain ⟨k, out, hk, rfl, hp, ho, hbr⟩ := hrel
    obtain ⟨A4, c4, e4, -, -, i4⟩ := own_intsI ho
    subst e4
    have HP := Lib.hid hp
    have hlk : out.length ≤ 16 := by have := hp.len; omega
    have hzr := hbr.size
    clear hp i4
    by_cases hlt : k < m
    · have HB := Lib.hid (hb.below hbr)
      have hsp : (xs.length = 0 ∧ k = 0) ∨ (xs.length = 0 ∧ k ≠ 0) ∨ xs.length ≠ 0 := by omega
      rcases hsp with ⟨q0, q1⟩ | ⟨q0, q1⟩ | q0
      all_goals
        have Q0 := Lib.hid q0
        first
          | (have e0 : ((xs.length : Int) == 0) = true := by simp [q0])
          | (have e0 : ((xs.length : Int) == 0) = false := by simp [q0])
        try have Q1 := Lib.hid q1
        first
          | (have e1 : ((k : Int) == 0) = true := by simp [q1])
          | (have e1 : ((k : Int) == 0) = false := by simp [q1])
          | skip
        try clear q1
        clear q0
        go_wp2
        clear e0
        try clear e1
        go_loopw [7, 8] (fun b i wi => wi = wr ∧ ∃ (j : Nat) (t : Bool), j ≤ xs.length ∧ j ≤ 40 ∧ b = .bool t ∧ i = .int .i64 j ∧ (0 < j → modI (geti xs 0) m = k → t = true) ∧ (xs.length = 0 ∧ k = 0 → t = true)) (fun _ i _ => xs.length - (intOf i).toNat)
        case atStart => exact ⟨rfl, 0, _, by omega, by omega, rfl, rfl, fun h => absurd h (by omega), by first | (intro _; rfl) | (intro h; exact absurd h.2 Q1.out) | (intro h; exact absurd h.1 Q0.out)⟩
        case round =>
          obtain ⟨rfl, j, t, hj, hj40, rfl, rfl, ht1, ht2⟩ := hrel
          have HT1 := Lib.hid ht1
          have HT2 := Lib.hid ht2
          clear ht1 ht2
          by_cases hl1 : j < xs.length
          · by_cases hl2 : j < 40
            · obtain ⟨B5, o5, rfl, hB5, hc5⟩ := HB.out (by omega)
              have z0 := hc5 j hl1
              clear hc5
              cases t
              · have hm2 := modI_lt (geti xs j) h1
                have HM2 := Lib.hid (mod_any (geti xs j) m wr h1 (by omega))
                cases hr : ((modI (geti xs j) m : Int) == (k : Int))
                all_goals
                  have HR := Lib.hid hr
                  clear hr
                  generalize hz : geti xs j = z at *
                  generalize hrr : modI z m = r at *
                  have HZ := Lib.hid hz
                  have HRR := Lib.hid hrr
                  clear hz hrr
                  go_wp2_with (first
                    | (go_at_call 36; refine HM2.out.mono ?_; rintro e w' ⟨rfl, rfl⟩))
                  go_roundw
                  case rel => exact ⟨trivial, j + 1, _, by omega, by omega, rfl, by go_num, by
                    intro _ h
                    by_cases e : j = 0
                    · have h3 : r = k := by rw [← HRR.out, ← HZ.out, e]; exact h
                      rw [h3]; simp
                    · exact absurd (HT1.out (by omega) h) (by simp), fun h => absurd (HT2.out h) (by simp)⟩
                  case measure => simp [intOf]; omega
              · go_wp2
                go_roundw
                case rel => exact ⟨trivial, j + 1, true, by omega, by omega, rfl, by go_num, fun _ _ => rfl, fun _ => rfl⟩
                case measure => simp [intOf]; omega
            · cases t
              · go_wp2
                go_roundw
                case rel => exact ⟨k + 1, out, by omega, by go_num, HP.out.skip (fun h e => absurd (HT1.out (by omega) e) (by simp)) (fun h => absurd (HT2.out h) (by simp)), ho, hbr⟩
                case measure => simp [intOf]; omega
              · go_wp2_with (at_builtin; refine wpList_append_own_at _ rfl (.tmp 43) (.tmp 45) 24 rfl w.heap.size 3 i0 (.int .i64 0) 1 8 Try.underlying24 hi hz0 hz1 hz2 rfl (by decide) _ _ _ rfl (ho.alloc _) ⟨wr.heap.size, 0, none⟩ 1 1 [.int .i64 k] rfl rfl (cell_one_new _ _ _) (by simp [Value.oneCell']) (by unfold maxLen; omega) (by omega) (by simp; omega) ?_; intro v9 w9 hn9 hg9 _ _; have hb9 := (app1 ho hzr hg9).1)
                go_roundw
                case rel => exact ⟨k + 1, out ++ [(k : Int)], by omega, by go_num, HP.out.put hlt, by rw [iv_snoc]; simpa using hn9, hbr.trans hb9⟩
                case measure => simp [intOf]; omega
          · cases t
            · go_wp2
              go_roundw
              case rel => exact ⟨k + 1, out, by omega, by go_num, HP.out.skip (fun h e => absurd (HT1.out (by omega) e) (by simp)) (fun h => absurd (HT2.out h) (by simp)), ho, hbr⟩
              case measure => simp [intOf]; omega
            · go_wp2_with (at_builtin; refine wpList_append_own_at _ rfl (.tmp 43) (.tmp 45) 24 rfl w.heap.size 3 i0 (.int .i64 0) 1 8 Try.underlying24 hi hz0 hz1 hz2 rfl (by decide) _ _ _ rfl (ho.alloc _) ⟨wr.heap.size, 0, none⟩ 1 1 [.int .i64 k] rfl rfl (cell_one_new _ _ _) (by simp [Value.oneCell']) (by unfold maxLen; omega) (by omega) (by simp; omega) ?_; intro v9 w9 hn9 hg9 _ _; have hb9 := (app1 ho hzr hg9).1)
              go_roundw
              case rel => exact ⟨k + 1, out ++ [(k : Int)], by omega, by go_num, HP.out.put hlt, by rw [iv_snoc]; simpa using hn9, hbr.trans hb9⟩
              case measure => simp [intOf]; omega
    · obtain rfl : k = m := by omega
      go_wp2
      go_ret
      exact ⟨_, out, rfl, ⟨HP.out.asc, HP.out.some (fun _ => h1) hm0⟩, ho, hbr⟩
end Go.Proofs.Ytpaeagkgmbhndaa
/- Fractions compared. -/
namespace Go.Proofs.Ytpaeagkgmbhndaa
open Go.RowKit
set_option maxHeartbeats 1000000
set_option maxRecDepth 100000
theorem den_small {m : Nat} {gs : List Nat} {S p q : Nat} (hm : m ≤ 12) (hs : S < 65536) (h0 : S ≠ 0) (hsub : ∀ v, sHas S v = true → v < m) (h : denV gs S = (p, q)) : p ≤ 120 := by
  unfold denV at h
  injection h with h1 h2
  obtain ⟨f1, f2, f3, f4⟩ := frac_mul (a := endsOf gs S (ms S) / 2) (pc_pos hs h0)
  have he := endsOf_le gs S (ms S)
  have hp : pc 16 S ≤ m := by
    have := pc_mono (s := S) (t := sAll m) (fun v _ hv => by unfold sHas; rw [all_bit]; simpa using hsub v hv)
    rw [pc_all (by omega)] at this
    exact this
  have : (ms S).length = pc 16 S := rfl
  omega
theorem valid_any (p q : Nat) (hp : p ≤ 120) (hq : q ≤ 16) (h0 : 0 < q) (w : World) :
    Calls Try.prog 39 #[frac p q] w fun e w' => e = .returned (.bool true) ∧ Below w.heap.size w w' := by
  unfold frac
  go_enter Try.func39, Try.ntmps39
  go_wp2
  go_ret
  refine ⟨?_, by (repeat (first | exact Below.refl _ _ | assumption | (refine Below.setCell ?_ (by first | exact Nat.le_refl _ | omega | (simp; done) | (simp; omega)) _) | (refine Below.trans ?_ (below_drewN _)) | (refine Below.drew ?_) | (refine Below.alloc ?_ (by first | exact Nat.le_refl _ | omega | (simp; done) | (simp; omega)) _) | (refine below_row ?_ (by first | exact Nat.le_refl _ | omega | (simp; done) | (simp; omega)) _)))⟩
  show Ending.returned (.bool (decide ((p : Int) ≤ 120))) = _
  rw [decide_eq_true (by omega)]
theorem less_any (a b c d : Nat) (ha : a ≤ 128) (hb : b ≤ 16) (hc : c ≤ 128) (hd : d ≤ 16) (w : World) :
    Calls Try.prog 40 #[frac a b, frac c d] w fun e w' => e = .returned (.bool (decide (a * d < c * b))) ∧ Below w.heap.size w w' := by
  unfold frac
  go_enter Try.func40, Try.ntmps40
  go_wp2
  go_ret
  refine ⟨?_, by (repeat (first | exact Below.refl _ _ | assumption | (refine Below.setCell ?_ (by first | exact Nat.le_refl _ | omega | (simp; done) | (simp; omega)) _) | (refine Below.trans ?_ (below_drewN _)) | (refine Below.drew ?_) | (refine Below.alloc ?_ (by first | exact Nat.le_refl _ | omega | (simp; done) | (simp; omega)) _) | (refine below_row ?_ (by first | exact Nat.le_refl _ | omega | (simp; done) | (simp; omega)) _)))⟩
  show Ending.returned (.bool (decide (wrap64 ((a : Int) * d) < wrap64 ((c : Int) * b)))) = _
  have h1 : a * d ≤ 128 * 16 := Nat.mul_le_mul ha hd
  have h2 : c * b ≤ 128 * 16 := Nat.mul_le_mul hc hb
  rw [← Int.natCast_mul, ← Int.natCast_mul, IntWalk.wrap64_in _ ⟨by omega, by omega⟩, IntWalk.wrap64_in _ ⟨by omega, by omega⟩]
  congr 2
  rw [decide_eq_decide]
  omega
end Go.Proofs.Ytpaeagkgmbhndaa
/- BagsGreatest returns true: the walk. -/
namespace Go.Proofs.Ytpaeagkgmbhndaa
open Go.RowKit
set_option maxHeartbeats 1000000
set_option maxRecDepth 100000
theorem set_den {m : Nat} (hm : m ≤ 12) {gs : List Nat} {s p q : Nat} (D : Dens m gs s p q) {ts : List Int} (h : IsSet m ts) :
    setV m ts ≠ 0 ∧ ∃ p2 q2, denV gs (setV m ts) = (p2, q2) ∧ 0 < q2 ∧ q2 ≤ 16 ∧ p2 ≤ 120 ∧ p2 * q ≤ p * q2 ∧ (p2 = p ∧ q2 = q → ∀ i, i < ts.length → ∃ j, j < (natI (ms s)).length ∧ geti (natI (ms s)) j = geti ts i) := by
  obtain ⟨h1, h2, h3, h4, h5⟩ := setV_yes (by omega) h
  refine ⟨h2, (denV gs (setV m ts)).1, (denV gs (setV m ts)).2, rfl, ?_⟩
  obtain ⟨f1, f2, f3, f4⟩ := den_terms h1 h2 (p := (denV gs (setV m ts)).1) (q := (denV gs (setV m ts)).2) rfl
  have f5 := den_small hm h1 h2 h4 (p := (denV gs (setV m ts)).1) (q := (denV gs (setV m ts)).2) rfl
  generalize (denV gs (setV m ts)).1 = p2 at *
  generalize (denV gs (setV m ts)).2 = q2 at *
  have hp := pc_pos h1 h2
  have hu := D.up _ h1 h4
  have hx := D.max _ h1 h4
  generalize endsOf gs (setV m ts) (ms (setV m ts)) / 2 = E at *
  generalize setV m ts = T at *
  refine ⟨f1, f2, f5, ?_, ?_⟩
  · refine Nat.le_of_mul_le_mul_right (c := pc 16 T) ?_ hp
    calc p2 * q * pc 16 T = q * E * q2 := by rw [show p2 * q * pc 16 T = q * (p2 * pc 16 T) by ac_rfl, f4]; ac_rfl
      _ ≤ p * pc 16 T * q2 := Nat.mul_le_mul_right _ hu
      _ = p * q2 * pc 16 T := by ac_rfl
  · rintro ⟨rfl, rfl⟩ i hi
    have hsub := hx (by rw [f4]; ac_rfl)
    obtain ⟨a, b, _⟩ := h.1 i hi
    have hmem : geti ts i ∈ ts := by rw [geti_eq hi]; exact List.getElem_mem hi
    have e1 : geti ts i = ((geti ts i).toNat : Int) := by omega
    rw [e1] at hmem
    have := (ms_has D.lt).2 (hsub _ ((h5 _).1 hmem))
    rw [← e1] at this
    obtain ⟨j, hj, e2⟩ := List.getElem_of_mem this
    exact ⟨j, hj, by rw [geti_eq hj, e2]⟩
theorem BagsGreatest_any (n : Int) (A : Option Addr) (c : Nat) (es : List (Int × Int)) (B : Option Addr) (d : Nat) (xs : List Int) (w : World) (hx : es.length ≤ c) (hc : c ≤ maxLen) (ha : PairsAt w A es) (hx2 : xs.length ≤ d) (hd : d ≤ maxLen) (hb : IntsAt w B xs) :
    Calls Try.prog 8 #[.int .i64 n, .slice A es.length c, .slice B xs.length d] w fun e w' => e = .returned (.bool true) ∧ Below w.heap.size w w' := by
  have hml := modI_lt n (show 0 < 10 by omega)
  have HM := Lib.hid (mod_any n 10 w (by omega) (by omega))
  generalize modI n 10 = m0 at *
  obtain ⟨m, hmm⟩ : ∃ m : Nat, m = 1 + m0 := ⟨_, rfl⟩
  have HMM := Lib.hid (show (1 + (m0 : Int)) = (m : Int) by omega)
  have hm1 : 1 ≤ m := by omega
  have hm12 : m ≤ 12 := by omega
  clear hmm
  have HT := Lib.hid (tame_any m A c es w hx hc ha hm1 (by omega))
  have HPK := Lib.hid (fun (W : World) (hW : Below w.heap.size w W) => picked_any m B d xs W hx2 hd (hb.below hW) hm1 (by omega))
  clear hx hc ha hx2 hd hb
  go_enter Try.func8, Try.ntmps8
  go_wp2_with (first
    | (go_at_call 36; refine HM.out.mono ?_; rintro e w' ⟨rfl, rfl⟩)
    | (go_at_call 37; rw [HMM.out]; refine HT.out.mono ?_; rintro e w1 ⟨v1, own, gs, rfl, hol, hgs, o1, b1⟩; obtain ⟨A1, c1, rfl, -, -, p1⟩ := own_pairs o1; have HG := Lib.hid hgs; clear o1 hgs)
    | (go_at_call 15; refine (Densest_some m A1 c1 own gs _ (by omega) p1 HG.out).mono ?_; rintro e w2 ⟨v2, g2, s, p, q, H, L, f, rfl, hD, -, -, -, o2, -, -, b2⟩; obtain ⟨A2, c2, e2, -, i2⟩ := own_ints o2; rw [← natI_len] at e2; subst e2; have HD := Lib.hid (fun (ts : List Int) (ht : IsSet m ts) => set_den hm12 hD ht); have HSI := Lib.hid (ms_set hD.lt hD.ne hD.sub); have hsl : (natI (ms s)).length ≤ 16 := (by rw [natI_len]; exact ms_len s); have q0 := hD.q0; have q16 := hD.q16; have p120 := den_small hm12 hD.lt hD.ne hD.sub hD.den; have b3 := b1.trans (b2.mono b1.size); have p2 := (p1.below b2).alloc (.cells #[.int .i64 p, .int .i64 q] 26); clear b1 b2 p1 hD o2; generalize natI (ms s) = sI at *; have y : Row (w2.alloc (.cells #[.int .i64 p, .int .i64 q] 26)) w2.heap.size 26 [.int .i64 p, .int .i64 q] := row_new rfl; have j := i2.alloc (.cells #[.int .i64 p, .int .i64 q] 26); have bb := b3.alloc b3.size (.cells #[.int .i64 p, .int .i64 q] 26); clear b3 i2)
    | (go_at_call 38; refine (HPK.out _ bb).mono ?_; rintro e w3 ⟨v3, ts, rfl, hts, o3, b4⟩; obtain ⟨A3, c3, rfl, -, -, i⟩ := own_intsI o3; replace j := j.below b4; replace y := y.below b4; replace p2 := p2.below b4; replace bb := bb.trans (b4.mono bb.size); obtain ⟨HS0, P2, Q2, hden, q20, q216, p2120, hless, hin⟩ := HD.out ts hts; have HDD := Lib.hid hden; have HTS := Lib.hid hts; have htl : ts.length ≤ 16 := (by have := (setV_yes (by omega) hts).2.2.1; have h2 := pc_le 16 (setV m ts); omega); have HIN := Lib.hid hin; have hdl : decide (p * Q2 < P2 * q) = false := decide_eq_false (by omega); clear b4 o3 hden hts hin)
    | (go_at_call 25; refine (Density_good m A1 A3 c1 c3 own gs ts _ (by omega) (by omega) p2 i HG.out HS0).mono ?_; rintro e w4 ⟨rfl, b6⟩; rw [HDD.out]; replace j := (j.below b6).alloc (.cells #[.int .i64 P2, .int .i64 Q2] 26); replace i := (i.below b6).alloc (.cells #[.int .i64 P2, .int .i64 Q2] 26); replace bb := (bb.trans (b6.mono bb.size)).alloc (bb.trans (b6.mono bb.size)).size (.cells #[.int .i64 P2, .int .i64 Q2] 26); replace y := (y.below b6).alloc (.cells #[.int .i64 P2, .int .i64 Q2] 26); have z : Row (w4.alloc (.cells #[.int .i64 P2, .int .i64 Q2] 26)) w4.heap.size 26 [.int .i64 P2, .int .i64 Q2] := row_new rfl; obtain ⟨⟨k0, k1⟩, -⟩ := y.cells2; obtain ⟨⟨k2, k3⟩, -⟩ := z.cells2; clear b6 p2)
    | (go_at_call 39; (first | (with_reducible refine (valid_any p q p120 q16 q0 _).mono ?_) | (with_reducible refine (valid_any P2 Q2 p2120 q216 q20 _).mono ?_)); rintro e w5 ⟨rfl, b9⟩; replace y := y.below b9; replace z := z.below b9; replace j := j.below b9; replace i := i.below b9; replace bb := bb.trans (b9.mono bb.size); clear b9 k0 k1 k2 k3; obtain ⟨⟨k0, k1⟩, -⟩ := y.cells2; obtain ⟨⟨k2, k3⟩, -⟩ := z.cells2)
    | (go_at_call 40; refine (less_any p q P2 Q2 (by omega) q16 (by omega) q216 _).mono ?_; rintro e w6 ⟨rfl, b9⟩; rw [hdl]; replace y := y.below b9; replace z := z.below b9; replace j := j.below b9; replace i := i.below b9; replace bb := bb.trans (b9.mono bb.size); clear b9 k0 k1 k2 k3; obtain ⟨⟨k0, k1⟩, -⟩ := y.cells2; obtain ⟨⟨k2, k3⟩, -⟩ := z.cells2)
    | (go_at_call 26; refine (set_yes (by omega) j HSI.out).mono ?_; rintro e w8 ⟨rfl, n8, rfl⟩; replace y := y.drewN n8; replace z := z.drewN n8; replace j := j.drewN n8; replace i := i.drewN n8; replace bb := bb.trans (below_drewN n8); clear k0 k1 k2 k3; obtain ⟨⟨k0, k1⟩, -⟩ := y.cells2; obtain ⟨⟨k2, k3⟩, -⟩ := z.cells2)
    | (go_at_call 18; refine (awake_any _).mono ?_; rintro e w9 ⟨rfl, b9⟩))
  · have HIN2 := Lib.hid (HIN.out ⟨by omega, by omega⟩)
    generalize w6.drewN n8 = W at *
    clear y z k0 k1 k2 k3
    have HJ := Lib.hid (fun (V : World) (h : Below W.heap.size W V) => j.below h)
    have HI := Lib.hid (fun (V : World) (h : Below W.heap.size W V) => i.below h)
    clear j i
    go_loopw [15, 16, 17] (fun i f g wr => ∃ (k : Nat), k ≤ ts.length ∧ i = .int .i64 k ∧ Below W.heap.size W wr) (fun i _ _ _ => ts.length - (intOf i).toNat)
    case atStart => exact ⟨0, by omega, rfl, Below.refl _ _⟩
    case round =>
      obtain ⟨k, hk, rfl, hbr⟩ := hrel
      by_cases hlt : k < ts.length
      · go_wp2
        go_loopw [16, 17] (fun f g wi => ∃ (t : Bool) (u : Nat), u ≤ sI.length ∧ f = .bool t ∧ g = .int .i64 u ∧ ((∃ j, j < u ∧ geti sI j = geti ts k) → t = true) ∧ Below W.heap.size W wi) (fun _ g _ => sI.length - (intOf g).toNat)
        case atStart => exact ⟨false, 0, by omega, rfl, rfl, fun ⟨j, h, _⟩ => absurd h (by omega), hbr⟩
        case round =>
          obtain ⟨t, u, hu, rfl, rfl, ht, hbi⟩ := hrel
          have HTT := Lib.hid ht
          clear ht
          by_cases hlu : u < sI.length
          · obtain ⟨B2, o2, rfl, hB2, hc2⟩ := HJ.out _ hbi (by omega)
            obtain ⟨B3, o3, rfl, hB3, hc3⟩ := HI.out _ hbi (by omega)
            have z2 := hc2 u hlu
            have z3 := hc3 k hlt
            clear hc2 hc3
            cases t
            · cases hr : (geti sI u == geti ts k)
              all_goals
                have HR := Lib.hid hr
                go_wp2
                go_quiet (fail)
                clear hr
                go_wp2
                go_roundw
                case rel => exact ⟨_, u + 1, by omega, rfl, by go_num, fun ⟨j, h1, h2⟩ => by
                  by_cases e : j = u
                  · subst e; first | rfl | (have h3 := HR.out; rw [h2] at h3; simp at h3)
                  · exact absurd (HTT.out ⟨j, by omega, h2⟩) (by simp), hbi.trans (below_drewN _)⟩
                case measure => simp [intOf]; omega
            · go_wp2
              go_quiet (fail)
              go_wp2
              go_roundw
              case rel => exact ⟨true, u + 1, by omega, rfl, by go_num, fun _ => rfl, hbi.trans (below_drewN _)⟩
              case measure => simp [intOf]; omega
          · obtain rfl : t = true := by
              obtain ⟨j, h1, h2⟩ := HIN2.out k hlt
              exact HTT.out ⟨j, by omega, h2⟩
            obtain rfl : u = sI.length := by omega
            go_wp2
            go_roundw
            case rel => exact ⟨k + 1, by omega, by go_num, hbi⟩
            case measure => simp [intOf]; omega
      · obtain rfl : k = ts.length := by omega
        go_wp2_with (go_at_call 18; refine (awake_any _).mono ?_; rintro e w9 ⟨rfl, b9⟩)
        go_ret
        exact ⟨rfl, (bb.trans (hbr.mono bb.size)).trans (b9.mono (bb.trans (hbr.mono bb.size)).size)⟩
  · go_ret
    exact ⟨rfl, bb.trans (b9.mono bb.size)⟩
  · go_ret
    exact ⟨rfl, bb.trans (b9.mono bb.size)⟩
end Go.Proofs.Ytpaeagkgmbhndaa
