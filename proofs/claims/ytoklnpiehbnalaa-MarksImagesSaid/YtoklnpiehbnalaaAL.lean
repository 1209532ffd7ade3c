/- The greatest exponent of a part: the code's search. -/
import Derived.Test.YtoklnpiehbnalaaAJ
namespace Go.Proofs.Ytoklnpiehbnalaa
open Go.RowKit Go.PlainAid
set_option maxHeartbeats 2000000
set_option maxRecDepth 100000
def frq (b : Nat × Nat × Nat) : List Value := [.int .i64 b.1, .int .i64 b.2.1]
theorem res3 {P : Program} {F : Func} {tm : Array Value} {i j l k : Nat} {t : TypeId} {v u u' : Value} {W : World} (hF : F.results = #[ResultVar.cell i t, ResultVar.tmp j, ResultVar.tmp l]) (h0 : tm.getD i undef = .pointer (some ⟨k, 0, none⟩)) (h1 : tm.getD j undef = u) (h2 : tm.getD l undef = u')
    (hl : (loadVar t ⟨k, 0, none⟩).run P W = .ok v W) : (results F tm).run P W = .ok (.tuple #[v, u, u']) W := by
  have h0' : tm[i]?.getD undef = .pointer (some ⟨k, 0, none⟩) := by simpa using h0
  have h1' : tm[j]?.getD undef = u := by simpa using h1
  have h2' : tm[l]?.getD undef = u' := by simpa using h2
  simp [results, hF, h0', h1', h2', asAddr, hl]
theorem greatest_any (x : List Nat) (w : World) (hx : okW x) (h1 : 1 ≤ x.length) (hl : x.length ≤ 120) :
    Calls Try.prog 63 #[.string (wS x)] w fun e w' => e = .returned (.tuple #[frc (grT x).1 (grT x).2.1, .int .i64 (grT x).2.2, .int .i64 (grT x).1]) ∧ Below w.heap.size w w' := by
  have HSP : Hid (∀ a E V, a < E → E ≤ x.length → Calls Try.prog 62 #[.string ((wS x).extract a E), .int .i64 (rowP x a (E - a - 1) : Nat)] V fun e w' => e = .returned (.int .i64 (rowP x a (E - a) : Nat)) ∧ ∃ m, w' = V.drewN m) := Lib.hid (fun a E V h2 h3 => by
    have hp := rowP_le x a (E - a - 1) (by omega)
    have e : rowP x a (E - a) = mper (sub x a (E - a)) (rowP x a (E - a - 1)) := by
      rw [show E - a = E - a - 1 + 1 by omega]
      rfl
    rw [wS_extract, e]
    exact smallestPeriod_any (sub x a (E - a)) _ V (okW_sub hx _ _) (by rw [sub_len]; omega) (by rw [sub_len]; omega))
  have HZ : Hid (∀ a E, a < E → E ≤ x.length → ((wS x).extract a E).size = E - a) := Lib.hid (fun a E h1 h => by rw [wS_extract, wS_len, sub_len]; omega)
  have HP : Hid (∀ a E, a < E → E ≤ x.length → 1 ≤ rowP x a (E - a) ∧ rowP x a (E - a) ≤ 120) := Lib.hid (fun a E h1 h2 => by
    have := rowP_le x a (E - a) (by omega)
    omega)
  have HFR : Hid (∀ a b E, FitB b 120 → a < E → E ≤ x.length + 1 → FitB (bstR x a b (E - a - 1)) 120) := Lib.hid (fun a b E h h2 h3 => bstR_fit h hl _ (by omega))
  have HFA : Hid (∀ a, a ≤ x.length → FitB (bstA x (0, 1, 0) a) 120) := Lib.hid (fun a h => bstA_fit ⟨by decide, by decide, by decide, by decide⟩ hl a h)
  have HRS : Hid (∀ a b E, a < E → bstR x a b (E + 1 - a - 1) = bst (bstR x a b (E - a - 1)) (E - a) (rowP x a (E - a)) a) := Lib.hid (fun a b E h => by
    rw [show E + 1 - a - 1 = E - a - 1 + 1 by omega]
    show bst (bstR x a b (E - a - 1)) (E - a - 1 + 1) (rowP x a (E - a - 1 + 1)) a = _
    rw [show E - a - 1 + 1 = E - a by omega])
  have HRE : Hid (∀ a b, bstR x a b (a + 1 - a - 1) = b) := Lib.hid (fun a b => by rw [show a + 1 - a - 1 = 0 by omega]; rfl)
  have HPE : Hid (∀ a, rowP x a (a + 1 - a - 1) = 1) := Lib.hid (fun a => by rw [show a + 1 - a - 1 = 0 by omega]; rfl)
  have HPN : Hid (∀ a E, a < E → rowP x a (E + 1 - a - 1) = rowP x a (E - a)) := Lib.hid (fun a E h => by rw [show E + 1 - a - 1 = E - a by omega])
  have HAS : Hid (∀ a, a < x.length → bstA x (0, 1, 0) (a + 1) = bstR x a (bstA x (0, 1, 0) a) (x.length + 1 - a - 1)) := Lib.hid (fun a h => by rw [show x.length + 1 - a - 1 = x.length - a by omega]; rfl)
  have HG : Hid (bstA x (0, 1, 0) x.length = grT x) := Lib.hid rfl
  have HGN := Lib.hid (grT_num h1)
  have HA0 : Hid (bstA x (0, 1, 0) 0 = (0, 1, 0)) := Lib.hid rfl
  have HFC := Lib.hid (fun (n d : Nat) (V : World) (h1 : 1 ≤ n) (h2 : n ≤ 10000) (h3 : d ≤ 10000) => fraction_any n d V h1 h2 h3)
  have hz := wS_len x
  have b0 : Below w.heap.size w (((w.alloc (.cells #[.int .i64 0, .int .i64 0] 36)).alloc (.cells #[.int .i64 0, .int .i64 1] 36))) := ((Below.refl _ w).alloc (Nat.le_refl _) _).alloc (by simp) _
  have r0 : Row (((w.alloc (.cells #[.int .i64 0, .int .i64 0] 36)).alloc (.cells #[.int .i64 0, .int .i64 1] 36))) w.heap.size 36 [.int .i64 0, .int .i64 0] := (row_new rfl).alloc _
  have r1 : Row (((w.alloc (.cells #[.int .i64 0, .int .i64 0] 36)).alloc (.cells #[.int .i64 0, .int .i64 1] 36))) (w.heap.size + 1) 36 (frq (bstA x (0, 1, 0) 0)) := row_new (by simp)
  obtain ⟨N, hN⟩ : ∃ N, x.length = N := ⟨_, rfl⟩
  rw [hN] at hz hl HSP HZ HP HFR HFA HAS HG h1
  generalize wS x = s at *
  subst hz
  clear hN hx
  go_enter Try.func63, Try.ntmps63
  go_wp2
  go_loopw [6, 7, 15] (fun at_ ln i wr => ∃ a : Nat, i = .int .i64 a ∧ a ≤ s.size ∧ at_ = .int .i64 (bstA x (0, 1, 0) a).2.2 ∧ ln = .int .i64 (bstA x (0, 1, 0) a).1 ∧ Row wr w.heap.size 36 [.int .i64 0, .int .i64 0] ∧ Row wr (w.heap.size + 1) 36 (frq (bstA x (0, 1, 0) a)) ∧ Below w.heap.size w wr) (fun _ _ i _ => s.size - (intOf i).toNat)
  case atStart => exact ⟨0, rfl, by omega, rfl, rfl, r0, r1, b0⟩
  case round =>
    clear r0 r1 b0 HA0
    obtain ⟨a, rfl, ha, rfl, rfl, r0, r1, b0⟩ := hrel
    by_cases hlt : a < s.size
    · have g1 : decide (a < s.size) = true := decide_eq_true hlt
      have HSP1 := Lib.hid (HSP.out a)
      have HZ1 := Lib.hid (HZ.out a)
      have HP1 := Lib.hid (HP.out a)
      have HFR1 := Lib.hid (fun E h => HFR.out a (bstA x (0, 1, 0) a) E (HFA.out a ha) h)
      have HRS1 := Lib.hid (HRS.out a (bstA x (0, 1, 0) a))
      have HRE1 := Lib.hid (HRE.out a (bstA x (0, 1, 0) a))
      have HPE1 := Lib.hid (HPE.out a)
      have HPN1 := Lib.hid (HPN.out a)
      have HAS1 := Lib.hid (HAS.out a hlt)
      clear HSP HZ HP HFR HFA HRS HRE HPE HPN HAS HG HGN HFC
      generalize bstA x (0, 1, 0) a = b at *
      have r1' : Row wr (w.heap.size + 1) 36 (frq (bstR x a b (a + 1 - a - 1))) := by rw [HRE1.out]; exact r1
      clear r1
      have e1 : Value.int .i64 (b.2.2 : Nat) = .int .i64 ((bstR x a b (a + 1 - a - 1)).2.2 : Nat) := by rw [HRE1.out]
      have e2 : Value.int .i64 (b.1 : Nat) = .int .i64 ((bstR x a b (a + 1 - a - 1)).1 : Nat) := by rw [HRE1.out]
      have e3 : Value.int .i64 1 = .int .i64 ((rowP x a (a + 1 - a - 1)) : Nat) := by rw [HPE1.out]; rfl
      have E1 := Lib.hid e1
      have E2 := Lib.hid e2
      have E3 := Lib.hid e3
      clear e1 e2 e3 HRE1 HPE1
      go_wp2
      go_loopw [6, 7, 9, 10] (fun at_ ln p i wr => ∃ E : Nat, i = .int .i64 E ∧ a + 1 ≤ E ∧ E ≤ s.size + 1 ∧ p = .int .i64 (rowP x a (E - a - 1) : Nat) ∧ at_ = .int .i64 (bstR x a b (E - a - 1)).2.2 ∧ ln = .int .i64 (bstR x a b (E - a - 1)).1 ∧ Row wr w.heap.size 36 [.int .i64 0, .int .i64 0] ∧ Row wr (w.heap.size + 1) 36 (frq (bstR x a b (E - a - 1))) ∧ Below w.heap.size w wr) (fun _ _ _ i _ => s.size + 1 - (intOf i).toNat)
      case atStart => exact ⟨a + 1, by go_num, by omega, by omega, E3.out, E1.out, E2.out, r0, r1', b0⟩
      case round =>
        clear r0 r1' b0 E1 E2 E3
        obtain ⟨E, rfl, hE1, hE2, rfl, rfl, rfl, r0, r1, b0⟩ := hrel
        by_cases hle : E ≤ s.size
        · have g2 : decide (E ≤ s.size) = true := decide_eq_true hle
          have hfit := HFR1.out E (by omega) (by omega)
          obtain ⟨hp1, hp2⟩ := HP1.out E (by omega) hle
          have HC := Lib.hid (fun V => HSP1.out E V (by omega) hle)
          have HPN2 := Lib.hid (HPN1.out E (by omega))
          have HRS2 := Lib.hid (HRS1.out E (by omega))
          clear HSP1 HZ1 HP1 HFR1 HRS1 HPN1 HAS1
          generalize rowP x a (E - a) = P1 at *
          generalize rowP x a (E - a - 1) = P0 at *
          generalize bstR x a b (E - a - 1) = B0 at *
          obtain ⟨N, D, A⟩ := B0
          obtain ⟨hN, hD1, hD, hA⟩ := hfit
          have hN' : N ≤ 120 := hN
          have hD1' : 1 ≤ D := hD1
          have hD' : D ≤ 120 := hD
          clear hN hD1 hD hA
          have hae : a ≤ E := by omega
          have hts : (E - a) ≤ 120 := by omega
          have q1 := prod_le (a := N) (b := P1) hN' hp2 (by decide)
          have q2 := prod_le (a := (E - a)) (b := D) hts hD' (by decide)
          obtain ⟨q1a, q1b⟩ := q1
          obtain ⟨q2a, q2b⟩ := q2
          have d0 : wr.cell? ⟨w.heap.size + 1, 0, none⟩ = some (.int .i64 N) := r1.cell 0
          have d1 : wr.cell? ⟨w.heap.size + 1, 1, none⟩ = some (.int .i64 D) := r1.cell 1
          have f0 := r1.free 0
          have f1 := r1.free 1
          by_cases hc : N * P1 < (E - a) * D
          · have g3 : decide ((N : Int) * (P1 : Int) < ((E - a : Nat) : Int) * (D : Int)) = true := decide_eq_true (prod_lt.2 hc)
            have HB : Hid (bstR x a b (E + 1 - a - 1) = ((E - a), P1, a)) := Lib.hid (by rw [HRS2.out]; exact bst_yes (b := (N, D, A)) hc)
            clear hc HRS2
            go_wp2_with (go_at_call 62; (with_reducible refine (HC.out _).mono ?_); rintro e w2 ⟨rfl, m, rfl⟩)
            go_roundw
            case rel =>
              refine ⟨E + 1, by go_num, by omega, by omega, by rw [HPN2.out], by rw [HB.out], by rw [HB.out], ?_, ?_, ?_⟩
              · exact ((r0.drewN m).far (by dsimp only; omega) _).far (by dsimp only; omega) _
              · rw [HB.out]
                exact ((r1.drewN m).set 0 (.int .i64 (E - a : Nat))).set 1 (.int .i64 P1)
              · exact ((b0.trans (below_drewN m)).setCell (by dsimp only; omega) _).setCell (by dsimp only; omega) _
            case measure => simp [intOf]; omega
          · have g3 : decide ((N : Int) * (P1 : Int) < ((E - a : Nat) : Int) * (D : Int)) = false := decide_eq_false (fun h => hc (prod_lt.1 h))
            have HB : Hid (bstR x a b (E + 1 - a - 1) = (N, D, A)) := Lib.hid (by rw [HRS2.out]; exact bst_no (b := (N, D, A)) hc)
            clear hc HRS2
            go_wp2_with (go_at_call 62; (with_reducible refine (HC.out _).mono ?_); rintro e w2 ⟨rfl, m, rfl⟩)
            go_roundw
            case rel => exact ⟨E + 1, by go_num, by omega, by omega, by rw [HPN2.out], by rw [HB.out], by rw [HB.out], r0.drewN m, by rw [HB.out]; exact r1.drewN m, b0.trans (below_drewN m)⟩
            case measure => simp [intOf]; omega
        · have g2 : decide (E ≤ s.size) = false := decide_eq_false hle
          have HB : Hid (bstA x (0, 1, 0) (a + 1) = bstR x a b (E - a - 1)) := Lib.hid (by rw [HAS1.out, show E = s.size + 1 by omega])
          clear HSP1 HZ1 HP1 HFR1 HRS1 HPN1 HAS1
          generalize bstR x a b (E - a - 1) = B0 at *
          generalize rowP x a (E - a - 1) = P0 at *
          go_wp2
          go_roundw
          case rel => exact ⟨a + 1, by go_num, by omega, by rw [HB.out], by rw [HB.out], r0, by rw [HB.out]; exact r1, b0⟩
          case measure => simp [intOf]; omega
    · obtain rfl : a = s.size := by omega
      have g1 : decide (s.size < s.size) = false := decide_eq_false hlt
      have hfit := HFA.out s.size ha
      rw [HG.out] at r1 hfit
      have hn1 := HGN.out
      have HG2 := Lib.hid HG.out
      clear HSP HZ HP HFR HFA HRS HRE HPE HPN HAS HG HGN
      have HGG : Hid (bstA x (0, 1, 0) s.size = grT x) := Lib.hid HG2.out
      generalize bstA x (0, 1, 0) s.size = b at *
      have HBG : Hid (grT x = b) := Lib.hid HGG.out.symm
      rw [HBG.out] at r1 hfit hn1
      clear HG2 HGG
      obtain ⟨N, D, A⟩ := b
      obtain ⟨hN, hD1, hD, hA⟩ := hfit
      have hN' : N ≤ 120 := hN
      have hD' : D ≤ 120 := hD
      have hn1' : 1 ≤ N := hn1
      clear hN hD1 hD hA hn1
      have d0 : wr.cell? ⟨w.heap.size + 1, 0, none⟩ = some (.int .i64 N) := r1.cell 0
      have d1 : wr.cell? ⟨w.heap.size + 1, 1, none⟩ = some (.int .i64 D) := r1.cell 1
      have f0 := r0.free 0
      have f1 := r0.free 1
      have HC := Lib.hid (fun V => HFC.out N D V hn1' (by omega) (by omega))
      have hr1 := r1.lt
      obtain ⟨u, v, huv⟩ : ∃ u v, frc N D = .agg #[.int .i64 u, .int .i64 v] := ⟨_, _, rfl⟩
      have HUV := Lib.hid huv
      rw [huv] at HC
      clear huv
      go_wp2_with (go_at_call 61; (with_reducible refine (HC.out _).mono ?_); rintro e w2 ⟨rfl, b2⟩; replace r0 := r0.below b2; replace b0 := b0.trans (b2.mono b0.size); have f0' := r0.free 0; have f1' := r0.free 1; have c0' := r0.cell 0; have c1' := r0.cell 1)
      exact bodyPost_ret (v := .tuple #[.agg #[.int .i64 u, .int .i64 v], .int .i64 A, .int .i64 N]) (res3 Try.results63 rfl rfl rfl (cell2_res ((r0.set 0 (.int .i64 u)).set 1 (.int .i64 v)))) rfl ⟨by rw [HBG.out]; show _ = Ending.returned (.tuple #[frc N D, _, _]); rw [HUV.out], (b0.setCell (Nat.le_refl _) _).setCell (Nat.le_refl _) _⟩
end Go.Proofs.Ytoklnpiehbnalaa
