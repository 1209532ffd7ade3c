/- Moving pieces along a way. -/
import Derived.Test.YtmfpegadcecknaaS
namespace Go.Proofs.Ytmfpegadcecknaa
open Go.RowKit
set_option maxHeartbeats 1000000
set_option maxRecDepth 100000
def mn (a b : Int) : Int := if b < a then b else a
/-- The pieces that can be moved along the first j steps of the way, and the division behind them. -/
def minT (ws : List Nat) (H : Nat → Nat → Int) (p : Int) : Nat → Int
  | 0 => p
  | j + 1 => mn (minT ws H p j) (H (getn ws (j + 1)) (getn ws j))
def movS (H : Nat → Nat → Int) (p : Int) (u v : Nat) : Nat → Nat → Int := upd2 (upd2 H u v (H u v - p)) v u (upd2 H u v (H u v - p) v u + p)
def movT (ws : List Nat) (H : Nat → Nat → Int) (p : Int) : Nat → Nat → Nat → Int
  | 0 => H
  | j + 1 => movS (movT ws H p j) p (getn ws (j + 1)) (getn ws j)
theorem mn_eq (a b : Int) : (if b < a then b else a) = mn a b := rfl
theorem mn_bd {a b B : Int} (h1 : -B ≤ a ∧ a ≤ B) (h2 : -B ≤ b ∧ b ≤ B) : -B ≤ mn a b ∧ mn a b ≤ B := by unfold mn; split <;> omega
theorem minT_bd {ws : List Nat} {H : Nat → Nat → Int} {p : Int} (hp : -100000 ≤ p ∧ p ≤ 100000) (hH : ∀ u v, u < 16 → v < 16 → 0 ≤ H u v ∧ H u v ≤ 100000) (hws : ∀ k, k < ws.length → getn ws k < 16) : ∀ j, j + 1 ≤ ws.length → -100000 ≤ minT ws H p j ∧ minT ws H p j ≤ 100000 := by
  intro j
  induction j with
  | zero => intro _; exact hp
  | succ j ih =>
    intro hj
    have h1 := hH (getn ws (j + 1)) (getn ws j) (hws _ (by omega)) (hws _ (by omega))
    exact mn_bd (ih (by omega)) ⟨by omega, h1.2⟩
theorem movT_bd {ws : List Nat} {H : Nat → Nat → Int} {p : Int} (hp : -100000 ≤ p ∧ p ≤ 100000) (hH : ∀ u v, u < 16 → v < 16 → 0 ≤ H u v ∧ H u v ≤ 100000) (hws : ∀ k, k < ws.length → getn ws k < 16) : ∀ j : Nat, j + 1 ≤ ws.length → ∀ u v, u < 16 → v < 16 → -(100000 * (1 + 2 * j : Int)) ≤ movT ws H p j u v ∧ movT ws H p j u v ≤ 100000 * (1 + 2 * j : Int) := by
  intro j
  induction j with
  | zero => intro _ u v hu hv; have := hH u v hu hv; simp only [movT]; omega
  | succ j ih =>
    intro hj u v hu hv
    have ih := ih (by omega)
    have h1 := ih u v hu hv
    have h2 := ih (getn ws (j + 1)) (getn ws j) (hws _ (by omega)) (hws _ (by omega))
    have h3 := ih (getn ws j) (getn ws (j + 1)) (hws _ (by omega)) (hws _ (by omega))
    simp only [movT, movS, upd2]
    split
    · split <;> omega
    · split <;> omega
set_option maxHeartbeats 4000000 in
theorem move_any (g m : Nat) (gs : List Nat) (H : Nat → Nat → Int) (L : Nat → Int) (A : Option Addr) (c : Nat) (ws : List Nat) (lim : Int) (w : World) (hg : Rows16 gs) (hd : Div w g m gs H L)
    (ha : IntsAt w A (natI ws)) (hne : ∀ b o, A = some ⟨b, o, none⟩ → b ≠ g) (hl : 2 ≤ ws.length) (hl2 : ws.length ≤ 16) (hc : ws.length ≤ c) (hws : ∀ k, k < ws.length → getn ws k < 16) (hH : ∀ u v, u < 16 → v < 16 → 0 ≤ H u v ∧ H u v ≤ 100000) (hL : ∀ v, v < 16 → 0 ≤ L v ∧ L v ≤ 100000) (hlim : 0 ≤ lim ∧ lim ≤ 100000)
    (P : Int) (hP : P = minT ws H (mn (L (getn ws (ws.length - 1)) - lim) (lim - L (getn ws 0))) (ws.length - 1)) :
    Calls Try.prog 65 #[.pointer (some ⟨g, 0, none⟩), .slice A ws.length c, .int .i64 lim] w fun e w' => e = .returned (.tuple #[]) ∧ Div w' g m gs (movT ws H P (ws.length - 1)) (upd (upd L (getn ws (ws.length - 1)) (L (getn ws (ws.length - 1)) - P)) (getn ws 0) (upd L (getn ws (ws.length - 1)) (L (getn ws (ws.length - 1)) - P) (getn ws 0) + P)) ∧ Fr (fun k => k = g) w w' := by
  obtain ⟨b, o, rfl, hb, hcell⟩ := ha (by rw [natI_len]; omega)
  have hbg := hne b o rfl
  have t0 := hws 0 (by omega)
  have f0 := hws (ws.length - 1) (by omega)
  have hce : ∀ k, k < ws.length → w.cell? ⟨b, o + k, none⟩ = some (.int .i64 (getn ws k)) := fun k hk => by have := hcell k (by rw [natI_len]; exact hk); rwa [geti_natI] at this
  have c0 : w.cell? ⟨b, o, none⟩ = some (.int .i64 (getn ws 0)) := by have := hce 0 (by omega); simpa using this
  have c1 := hce (ws.length - 1) (by omega)
  have l0 := hd.load hg t0
  have l1 := hd.load hg f0
  obtain ⟨b1, b2⟩ := hL _ t0
  obtain ⟨b3, b4⟩ := hL _ f0
  obtain ⟨b5, b6⟩ := hlim
  have HMB := Lib.hid (fun p hp j hj => minT_bd (p := p) hp hH hws j hj)
  have HVB := Lib.hid (fun p hp j hj => movT_bd (p := p) hp hH hws j hj)
  have HWS := Lib.hid hws
  have HCE := Lib.hid hce
  have HHB := Lib.hid hH
  have e1 : ((ws.length : Int) - 1).toNat = ws.length - 1 := by omega
  have e2 : 0 ≤ (ws.length : Int) - 1 := by omega
  have hp0 := mn_bd (a := L (getn ws (ws.length - 1)) - lim) (b := lim - L (getn ws 0)) (B := 100000) ⟨by omega, by omega⟩ ⟨by omega, by omega⟩
  have hmn := mn_eq (L (getn ws (ws.length - 1)) - lim) (lim - L (getn ws 0))
  generalize mn (L (getn ws (ws.length - 1)) - lim) (lim - L (getn ws 0)) = P0 at *
  clear hcell hws hL ha hce hH hne
  generalize hto : getn ws 0 = tt at *
  generalize hfr : getn ws (ws.length - 1) = ff at *
  have HTO := Lib.hid hto
  have HFR := Lib.hid hfr
  have HPP := Lib.hid hP
  have HP0 := Lib.hid hp0
  have hPb : -100000 ≤ P ∧ P ≤ 100000 := by rw [hP]; exact HMB.out P0 hp0 _ (by omega)
  obtain ⟨pb1, pb2⟩ := hPb
  clear hto hfr hP
  go_enter Try.func65, Try.ntmps65
  go_wp2
  refine wp_region_quiet_lit (by kernel_rfl) (by kernel_rfl) ?_
  repeat go_big_quiet_step ((fail))
  refine wpQuiet_nil ?_
  rintro _ ⟨nq, rfl⟩
  go_wp2
  refine wp_region_quiet_lit (by kernel_rfl) (by kernel_rfl) ?_
  repeat go_big_quiet_step ((fail))
  refine wpQuiet_nil ?_
  rintro _ ⟨nq, rfl⟩
  go_wp2
  clear hmn hp0
  go_loopw [8, 9, 10, 43] (fun p _ _ i wr => ∃ j n : Nat, j ≤ ws.length - 1 ∧ i = .int .i64 j ∧ p = .int .i64 (minT ws H P0 j) ∧ wr = w.drewN n) (fun _ _ _ i _ => ws.length - 1 - (intOf i).toNat)
  case atStart => exact ⟨0, _, by omega, rfl, rfl, rfl⟩
  case round =>
    obtain ⟨j, n, hj, rfl, rfl, rfl⟩ := hrel
    by_cases hlt : j < ws.length - 1
    · have k0 := HCE.out j (by omega)
      have k1 : w.cell? ⟨b, o + 1 + j, none⟩ = some (.int .i64 (getn ws (j + 1))) := by have := HCE.out (j + 1) (by omega); rw [show o + 1 + j = o + (j + 1) by omega]; exact this
      have u1 := HWS.out j (by omega)
      have u2 := HWS.out (j + 1) (by omega)
      have h1 := hd.has hg u2 u1
      have hmn := mn_eq (minT ws H P0 j) (H (getn ws (j + 1)) (getn ws j))
      have HMS : Hid (mn (minT ws H P0 j) (H (getn ws (j + 1)) (getn ws j)) = minT ws H P0 (j + 1)) := rfl
      generalize mn (minT ws H P0 j) (H (getn ws (j + 1)) (getn ws j)) = P1 at *
      generalize getn ws j = y1 at *
      generalize getn ws (j + 1) = y2 at *
      generalize minT ws H P0 j = Pj at *
      go_wp2
      refine wp_region_quiet_lit (by kernel_rfl) (by kernel_rfl) ?_
      repeat go_big_quiet_step ((fail))
      refine wpQuiet_nil ?_
      rintro _ ⟨nq, rfl⟩
      go_wp2
      clear hmn
      go_roundw
      case rel => exact ⟨j + 1, n + nq, by omega, by go_num, by rw [HMS.out], (by first | rfl | exact World.drewN_drewN _ _ _)⟩
      case measure => simp [intOf]; omega
    · obtain rfl : j = ws.length - 1 := by omega
      have hPj : minT ws H P0 (ws.length - 1) = P := HPP.out.symm
      rw [hPj]
      clear hPj
      go_wp2
      go_loopw [11, 12, 13, 65] (fun _ _ _ i wr => ∃ j : Nat, j ≤ ws.length - 1 ∧ i = .int .i64 j ∧ Div wr g m gs (movT ws H P j) L ∧ Fr (fun k => k = g) w wr) (fun _ _ _ i _ => ws.length - 1 - (intOf i).toNat)
      case atStart => exact ⟨0, by omega, rfl, hd, (Fr.refl _ w).drewN _⟩
      case round =>
        obtain ⟨j, hj, rfl, d1, hF⟩ := hrel
        by_cases hlt : j < ws.length - 1
        · have k0 : _ = _ := (hF.cell (o := o + j) hb hbg).trans (HCE.out j (by omega))
          have k1 : _ = _ := (hF.cell (o := o + (j + 1)) hb hbg).trans (HCE.out (j + 1) (by omega))
          rw [show o + (j + 1) = o + 1 + j by omega] at k1
          have u1 := HWS.out j (by omega)
          have u2 := HWS.out (j + 1) (by omega)
          have h1 := d1.has hg u2 u1
          have f1 := Row.free d1 (17 + getn ws (j + 1) * 16 + getn ws j)
          obtain ⟨v1, v2⟩ := HVB.out P ⟨pb1, pb2⟩ j (by omega) _ _ u2 u1
          obtain ⟨v3, v4⟩ := HVB.out P ⟨pb1, pb2⟩ j (by omega) _ _ u1 u2
          have HMS : Hid (movS (movT ws H P j) P (getn ws (j + 1)) (getn ws j) = movT ws H P (j + 1)) := rfl
          generalize movT ws H P j = M at *
          generalize getn ws j = y1 at *
          generalize getn ws (j + 1) = y2 at *
          go_wp2
          refine wp_region_quiet_tail 14 (by kernel_rfl) (by kernel_rfl) ?_
          simp only [List.take_succ_cons, List.take_zero, List.drop_succ_cons, List.drop_zero]
          repeat go_big_quiet_step ((fail))
          refine wpQuiet_nil ?_
          rintro _ ⟨nq, rfl⟩
          go_wp2
          generalize hw2 : World.setCell _ _ _ = W2
          have d2 : Div W2 g m gs (upd2 M y2 y1 (M y2 y1 - P)) L := by
            rw [← hw2]; exact Div.setH (Row.drewN d1 _) hg u2 u1 _
          have hF2 : Fr (fun k => k = g) w W2 := by
            rw [← hw2]; exact (hF.drewN _).setCell (.inl rfl) _
          clear hw2
          have h2 := d2.has hg u1 u2
          have f2 := Row.free d2 (17 + y1 * 16 + y2)
          have hx : -1000000000 ≤ upd2 M y2 y1 (M y2 y1 - P) y1 y2 ∧ upd2 M y2 y1 (M y2 y1 - P) y1 y2 ≤ 1000000000 := by
            unfold upd2; split <;> omega
          obtain ⟨x1, x2⟩ := hx
          have HMS2 : Hid (upd2 (upd2 M y2 y1 (M y2 y1 - P)) y1 y2 (upd2 M y2 y1 (M y2 y1 - P) y1 y2 + P) = movS M P y2 y1) := rfl
          generalize upd2 M y2 y1 (M y2 y1 - P) = M2 at *
          clear k0 k1 h1 f1
          refine wp_region_quiet_tail 14 (by kernel_rfl) (by kernel_rfl) ?_
          simp only [List.take_succ_cons, List.take_zero, List.drop_succ_cons, List.drop_zero]
          repeat go_big_quiet_step ((fail))
          refine wpQuiet_nil ?_
          rintro _ ⟨nq, rfl⟩
          go_wp2
          go_roundw
          case rel => exact ⟨j + 1, by omega, by go_num, by rw [← HMS.out, ← HMS2.out]; exact Div.setH (Row.drewN d2 _) hg u1 u2 _, (hF2.drewN _).setCell (.inl rfl) _⟩
          case measure => simp [intOf]; omega
        · obtain rfl : j = ws.length - 1 := by omega
          have hLf := d1.load hg f0
          have ff1 := Row.free d1 (273 + ff)
          generalize hM : movT ws H P (ws.length - 1) = M at *
          have HM := Lib.hid hM
          clear hM
          go_wp2
          refine wp_region_quiet_tail 11 (by kernel_rfl) (by kernel_rfl) ?_
          simp only [List.take_succ_cons, List.take_zero, List.drop_succ_cons, List.drop_zero]
          repeat go_big_quiet_step ((fail))
          refine wpQuiet_nil ?_
          rintro _ ⟨nq, rfl⟩
          go_wp2
          generalize hw2 : World.setCell _ _ _ = W2
          have d2 : Div W2 g m gs M (upd L ff (L ff - P)) := by
            rw [← hw2]; exact Div.setL (Row.drewN d1 _) hg f0 _
          have hF2 : Fr (fun k => k = g) w W2 := by
            rw [← hw2]; exact (hF.drewN _).setCell (.inl rfl) _
          clear hw2
          have hLt := d2.load hg t0
          have ft1 := Row.free d2 (273 + tt)
          have hx : -1000000000 ≤ upd L ff (L ff - P) tt ∧ upd L ff (L ff - P) tt ≤ 1000000000 := by
            unfold upd; split <;> omega
          obtain ⟨x1, x2⟩ := hx
          generalize hL2 : upd L ff (L ff - P) = L2 at *
          have HL2 := Lib.hid hL2
          clear hL2
          refine wp_region_quiet_tail 11 (by kernel_rfl) (by kernel_rfl) ?_
          simp only [List.take_succ_cons, List.take_zero, List.drop_succ_cons, List.drop_zero]
          repeat go_big_quiet_step ((fail))
          refine wpQuiet_nil ?_
          rintro _ ⟨nq, rfl⟩
          go_wp2
          go_end0
          rw [HM.out, HL2.out]
          exact ⟨rfl, Div.setL (Row.drewN d2 _) hg t0 _, (hF2.drewN _).setCell (.inl rfl) _⟩
end Go.Proofs.Ytmfpegadcecknaa
