/- Are these layers? -/
import Derived.Test.YtnnaaoobdofooaaVC
import Derived.Test.YtnnaaoobdofooaaTK
namespace Go.Proofs.Ytnnaaoobdofooaa
open Go.RowKit
set_option maxHeartbeats 1000000
set_option maxRecDepth 100000
/-- Layers in memory. -/
def LaysAt (w : World) (A : Option Addr) (ls : List Lay) : Prop :=
  0 < ls.length → ∃ b o, A = some ⟨b, o, none⟩ ∧ b < w.heap.size ∧ ∀ i, i < ls.length → w.cell? ⟨b, o + i * 2, none⟩ = some (.int .i64 (laW ls i)) ∧ ∃ B c, w.cell? ⟨b, o + i * 2 + 1, none⟩ = some (.slice B (laC ls i).length c) ∧ IntsAt w B (laC ls i) ∧ (laC ls i).length ≤ 1000000
theorem LaysAt.below {w w' : World} {A : Option Addr} {ls : List Lay} (h : LaysAt w A ls) (k : Below w.heap.size w w') : LaysAt w' A ls := fun hp => by
  obtain ⟨b, o, e, hb, hc⟩ := h hp
  refine ⟨b, o, e, Nat.lt_of_lt_of_le hb k.size, fun i hi => ?_⟩
  obtain ⟨h1, B, c, h2, h3, h4⟩ := hc i hi
  exact ⟨(k.cell (p := ⟨b, _, none⟩) hb).trans h1, B, c, (k.cell (p := ⟨b, _, none⟩) hb).trans h2, h3.below k, h4⟩
theorem lay_w9 {K : List (List Int)} (hK : IsT K) {wt : Int} {xs : List Int} (h : layOk K (wt, xs) = true) : wt ≤ 9 ∨ K.length = 0 := by
  obtain ⟨h1, h2, h3⟩ := layOk_parts h
  by_cases e : K.length = 0
  · exact Or.inr e
  · have := brs_at h3 (j := 0) (by omega)
    have := (hK.bd 0 (geti xs 0).toNat).2
    exact Or.inl (by omega)
theorem isSplit_any (T : List (List Int)) (A : Option Addr) (c : Nat) (ls : List Lay) (w : World) (h : IsT T) (hls : ls.length ≤ 1000000) (ha : LaysAt w A ls) :
    Calls Try.prog 64 #[.agg (iv (grd T)).toArray, .slice A ls.length c] w fun e w' => e = .returned (.bool (splA T ls)) ∧ Below w.heap.size w w' := by
  have hle := h.le
  have r0 : Row (w.alloc (.cells (iv (grd T)).toArray 73)) w.heap.size 73 (iv (grd T)) := row_new rfl
  have b0 : Below w.heap.size w (w.alloc (.cells (iv (grd T)).toArray 73)) := by (repeat (first | exact Below.refl _ _ | assumption | (refine Below.setCell ?_ (by first | exact Nat.le_refl _ | omega | (simp; done) | (simp; omega)) _) | (refine Below.trans ?_ (below_drewN _)) | (refine Below.drew ?_) | (refine Below.alloc ?_ (by first | exact Nat.le_refl _ | omega | (simp; done) | (simp; omega)) _) | (refine below_row ?_ (by first | exact Nat.le_refl _ | omega | (simp; done) | (simp; omega)) _)))
  by_cases hl : ls.length ≤ 100
  · have g0 : decide (100 < (ls.length : Int)) = false := decide_eq_false (by omega)
    have HF : Hid (splA T ls = splB T ls) := Lib.hid (by unfold splA; rw [decide_eq_true hl]; rfl)
    have HA := Lib.hid ha
    go_enter Try.func64, Try.ntmps64
    go_wp2
    have HI0 : Hid (splB T ls = splB T (ls.drop 0)) := Lib.hid (by rw [List.drop_zero])
    have HT0 : Hid (IsT T) := Lib.hid h
    have hi := info73_iv (x := grd T) (grdP_len _ 100)
    have HSA := Lib.hid (fun K k (hk : k < ls.length) => splB_at (K := K) hk)
    have HSE := Lib.hid (fun K => splB_end (K := K) (ls := ls) (Nat.le_refl _))
    clear ha h
    go_loopw [12] (fun v wr => ∃ (k : Nat) (K : List (List Int)), k ≤ ls.length ∧ v = .int .i64 k ∧ Hid (splB T ls = splB K (ls.drop k)) ∧ Hid (IsT K) ∧ Hid (K.length = T.length) ∧ Row wr w.heap.size 73 (iv (grd K)) ∧ Below w.heap.size w wr) (fun v _ => ls.length - (intOf v).toNat)
    case atStart => exact ⟨0, T, by omega, rfl, HI0, HT0, Lib.hid rfl, r0, b0⟩
    case round =>
      clear HI0 HT0 r0 b0
      obtain ⟨k, K, hk, rfl, HI0, HT0, HL0, r0, b0⟩ := hrel
      by_cases hlt : k < ls.length
      · have g1 : decide ((k : Int) < (ls.length : Int)) = true := decide_eq_true (by omega)
        obtain ⟨b, o, hAe, hb, hc⟩ := HA.out (by omega)
        subst hAe
        obtain ⟨e1, B, d, e2, i2, hl2⟩ := hc k hlt
        replace e1 := (b0.cell (p := ⟨b, _, none⟩) hb).trans e1
        replace e2 := (b0.cell (p := ⟨b, _, none⟩) hb).trans e2
        have HIL : Hid (0 < (laC ls k).length → ∀ b' o', B = some ⟨b', o', none⟩ → b' < w.heap.size) := Lib.hid (fun hp b' o' hB => by
          obtain ⟨b9, o9, e9, hb9, -⟩ := i2 hp
          rw [hB] at e9
          injection e9 with e9
          injection e9 with e9
          omega)
        replace i2 := i2.below b0
        have HS1 := Lib.hid (by have := HSA.out K k hlt; exact this)
        have HI2 := Lib.hid i2
        clear hc i2
        generalize laW ls k = wt at *
        generalize laC ls k = xs at *
        have hi1 := info73_iv (x := grd K) (grdP_len _ 100)
        have q0 : Row (wr.alloc (.cells #[.int .i64 wt, .slice B xs.length d] 69)) wr.heap.size 69 [.int .i64 wt, .slice B xs.length d] := row_new rfl
        have r1 := r0.alloc (.cells #[.int .i64 wt, .slice B xs.length d] 69)
        have b1 := b0.alloc b0.size (.cells #[.int .i64 wt, .slice B xs.length d] 69)
        have z1 : Below wr.heap.size wr (wr.alloc (.cells #[.int .i64 wt, .slice B xs.length d] 69)) := (Below.refl _ _).alloc (Nat.le_refl _) _
        obtain ⟨⟨c0, c1⟩, -⟩ := q0.cells2
        by_cases hw1 : wt < 1
        · have g2 : decide (wt < 1) = true := decide_eq_true hw1
          have HF2 : Hid (splA T ls = false) := Lib.hid (by rw [HF.out, HI0.out, HS1.out]; unfold layOk; rw [g2]; rfl)
          clear hw1
          go_wp2
          go_ret
          exact ⟨by rw [HF2.out]; rfl, b1⟩
        · have g2 : decide (wt < 1) = false := decide_eq_false hw1
          have HC := Lib.hid (isChoice_any K B d xs _ HT0.out hl2 (HI2.out.below z1))
          cases hco : colsOk K.length xs
          · have HF2 : Hid (splA T ls = false) := Lib.hid (by rw [HF.out, HI0.out, HS1.out]; unfold layOk; rw [g2, hco]; rfl)
            rw [hco] at HC
            clear hw1 hco
            go_wp2_with (first
              | (go_big_want; refine wp_load_row 73 (.tmp 2) rfl w.heap.size rfl 73 (iv (grd K)).toArray (0, 0) _ (row_heap r1) Try.underlying73 rfl hi1 ?_)
              | (go_at_call 72; refine HC.out.mono ?_; rintro e w2 ⟨rfl, b2⟩; replace b1 := b1.trans (b2.mono b1.size)))
            go_ret
            exact ⟨by rw [HF2.out]; rfl, b1⟩
          · rw [hco] at HC
            have hxl := cols_len hco
            have HBR := Lib.hid (fun (V : World) hV => bears_any K B d wt xs V HT0.out hco ((HI2.out.below z1).below hV))
            cases hbr : brs K wt xs K.length
            · have HF2 : Hid (splA T ls = false) := Lib.hid (by rw [HF.out, HI0.out, HS1.out]; unfold layOk; rw [g2, hco, hbr]; rfl)
              rw [hbr] at HBR
              clear hw1 hco hbr hxl
              go_wp2_with (first
                | (go_big_want; refine wp_load_row 73 (.tmp 2) rfl w.heap.size rfl 73 (iv (grd K)).toArray (0, 0) _ (row_heap r1) Try.underlying73 rfl hi1 ?_)
                | (go_at_call 72; refine HC.out.mono ?_; rintro e w2 ⟨rfl, b2⟩; replace r1 := r1.below b2; replace q0 := q0.below b2; obtain ⟨⟨c0, c1⟩, -⟩ := q0.cells2; replace b1 := b1.trans (b2.mono b1.size))
                | (go_at_call 77; refine (HBR.out _ b2).mono ?_; rintro e w3 ⟨rfl, b3⟩; replace b1 := b1.trans (b3.mono b1.size)))
              go_ret
              exact ⟨by rw [HF2.out]; rfl, b1⟩
            · have hok : layOk K (wt, xs) = true := by unfold layOk; rw [g2, hco, hbr]; rfl
              have HTK := Lib.hid (fun (V : World) (hi : IntsAt V B xs) (hr : Row V w.heap.size 73 (iv (grd K))) (hB : 0 < xs.length → ∀ b o, B = some ⟨b, o, none⟩ → b < w.heap.size) => take_any K B d w.heap.size wt xs V HT0.out (by omega) (lay_w9 HT0.out hok) hco hbr hi hr hB)
              have HN1 : Hid (IsT (subP K wt xs K.length)) := Lib.hid (subP_isT HT0.out (by omega) hco hbr (Nat.le_refl _))
              have HN2 : Hid ((subP K wt xs K.length).length = T.length) := Lib.hid (by rw [subP_len]; exact HL0.out)
              have HN3 : Hid (splB T ls = splB (subP K wt xs K.length) (ls.drop (k + 1))) := Lib.hid (by rw [HI0.out, HS1.out, hok]; rfl)
              rw [hbr] at HBR
              clear hw1 hco hbr hok hxl
              go_wp2_with (first
                | (go_big_want; refine wp_load_row 73 (.tmp 2) rfl w.heap.size rfl 73 (iv (grd K)).toArray (0, 0) _ (row_heap r1) Try.underlying73 rfl hi1 ?_)
                | (go_at_call 72; refine HC.out.mono ?_; rintro e w2 ⟨rfl, b2⟩; replace r1 := r1.below b2; replace q0 := q0.below b2; obtain ⟨⟨c0, c1⟩, -⟩ := q0.cells2; replace b1 := b1.trans (b2.mono b1.size); have I2 := Lib.hid ((HI2.out.below z1).below b2))
                | (go_at_call 77; refine (HBR.out _ b2).mono ?_; rintro e w3 ⟨rfl, b3⟩; replace r1 := r1.below b3; replace q0 := q0.below b3; obtain ⟨⟨c0, c1⟩, -⟩ := q0.cells2; replace b1 := b1.trans (b3.mono b1.size); replace I2 := Lib.hid (I2.out.below b3))
                | (go_at_call 76; fail))
              refine (HTK.out _ I2.out r1 HIL.out).mono ?_
              rintro e w4 ⟨rfl, r4, b4⟩
              have b5 := b1.trans b4
              go_wp2
              exact ⟨⟨k + 1, subP K wt xs K.length, by omega, by go_num, HN3, HN1, HN2, r4, b5⟩, by simp [intOf]; omega⟩
      · obtain rfl : k = ls.length := by omega
        have g1 : decide ((ls.length : Int) < (ls.length : Int)) = false := decide_eq_false (by omega)
        have hz : Try.zeroCells73.setIfInBounds 0 (.int .i64 (K.length : Int)) = (iv (zgrd K.length)).toArray := by rw [z73, z73_set K, grdP_zero K]; rfl
        have hi1 := info73_iv (x := grd K) (grdP_len _ 100)
        have c0 := ivR r0 (i := 0) (by unfold grd; rw [grdP_len]; omega)
        rw [show geti (grd K) 0 = (K.length : Int) from rfl] at c0
        have HZ := Lib.hid (zer_grd HT0.out)
        have HFE : Hid (splA T ls = zerB K) := Lib.hid (by rw [HF.out, HI0.out, HSE.out])
        have E73 := fun W => eq73 (X := grd K) (Y := zgrd K.length) (grdP_len _ 100) (by unfold zgrd; simp) W
        clear HI0 HT0 HL0 HF HA HSA HSE
        go_wp2_with (with_reducible refine (?_ : wpList _ _ _ (Oper.mk _ (Op.load 73 _) _ _ _ _ :: _) _ _); refine wpList_load_row rfl 73 (.tmp 2) rfl w.heap.size rfl 73 (iv (grd K)).toArray (0, 0) _ (row_heap r0) Try.underlying73 rfl hi1 ?_)
        go_ret
        exact ⟨by rw [HZ.out, HFE.out]; rfl, b0⟩
  · have g0 : decide (100 < (ls.length : Int)) = true := decide_eq_true (by omega)
    have HF : Hid (splA T ls = false) := Lib.hid (by unfold splA; rw [decide_eq_false hl]; rfl)
    clear ha h
    go_enter Try.func64, Try.ntmps64
    go_wp2
    go_ret
    exact ⟨by rw [HF.out]; rfl, b0⟩
end Go.Proofs.Ytnnaaoobdofooaa
