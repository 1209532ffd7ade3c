/- The reference's own look at shares. -/
import Derived.Test.YtmfpegadcecknaaBE
import Derived.Test.YtmfpegadcecknaaAD
namespace Go.Proofs.Ytmfpegadcecknaa
open Go.RowKit
set_option maxHeartbeats 1000000
set_option maxRecDepth 100000
theorem ldT_far (es ss : List (Int × Int)) {m : Nat} : ∀ k, (∀ i, i < k → (pA es i).toNat < m ∧ (pB es i).toNat < m) → ∀ v, m ≤ v → getn (ldT es ss k) v = 0
  | 0, _, v, _ => getn_zer v
  | k + 1, h, v, hv => by
    obtain ⟨h1, h2⟩ := h k (by omega)
    have ih := ldT_far es ss k (fun i hi => h i (by omega)) v hv
    have hl := ldT_len es ss k
    rw [ldT]
    unfold ldS
    by_cases e1 : (pB es k).toNat < 16
    · rw [getn_set (by rw [List.length_set, hl]; exact e1), if_neg (by omega)]
      by_cases e2 : (pA es k).toNat < 16
      · rw [getn_set (by rw [hl]; exact e2), if_neg (by omega), ih]
      · rw [List.set_eq_of_length_le (by rw [hl]; omega), ih]
    · rw [List.set_eq_of_length_le (by rw [List.length_set, hl]; omega)]
      by_cases e2 : (pA es k).toNat < 16
      · rw [getn_set (by rw [hl]; exact e2), if_neg (by omega), ih]
      · rw [List.set_eq_of_length_le (by rw [hl]; omega), ih]
theorem RefProves_any (m : Nat) (A B : Option Addr) (c d p q : Nat) (es ss : List (Int × Int)) (gs : List Nat) (w : World) (hx : es.length ≤ 1000000) (ha : PairsAt w A es) (hb : PairsAt w B ss) (hq : q ≤ 1000) (h : readF m es = some gs) :
    Calls Try.prog 22 #[.int .i64 m, .slice A es.length c, .slice B ss.length d, frac p q] w fun e w' => e = .returned (.bool (provV es ss p q)) ∧ Below w.heap.size w w' := by
  obtain ⟨i0, hi, hz0, hz1, hz2⟩ := info_parts info3
  have hm : m ≤ 16 := by have := readF_ok h; omega
  have HE := Lib.hid (fun k (hk : k < es.length) => (by have := readF_edges h hk; exact ⟨(pA es k).toNat, (pB es k).toNat, by omega, by omega, by omega, by omega⟩ : ∃ a b : Nat, pA es k = a ∧ pB es k = b ∧ a < b ∧ b < m))
  clear h
  cases gl : ((ss.length : Int) != es.length)
  case true =>
    have hne : ¬ ss.length = es.length := by intro e; rw [e] at gl; simp at gl
    go_enter Try.func22, Try.ntmps22
    go_wp2
    go_ret
    refine ⟨ret_bool (by unfold provV; symm; apply decide_eq_false; exact fun h => hne h.1), ?_⟩
    (repeat (first | exact Below.refl _ _ | assumption | (refine Below.setCell ?_ (by first | exact Nat.le_refl _ | omega | (simp; done) | (simp; omega)) _) | (refine Below.trans ?_ (below_drewN _)) | (refine Below.drew ?_) | (refine Below.alloc ?_ (by first | exact Nat.le_refl _ | omega | (simp; done) | (simp; omega)) _) | (refine below_row ?_ (by first | exact Nat.le_refl _ | omega | (simp; done) | (simp; omega)) _)))
  case false =>
    have hel : ss.length = es.length := by simp at gl; omega
    have HL := Lib.hid hel
    clear hel
    go_enter Try.func22, Try.ntmps22
    go_wp2_with (at_make; refine wpList_make_full _ rfl _ _ 24 rfl (w.heap.size + 1) 3 i0 (.int .i64 0) 1 Try.underlying24 hi hz0 hz1 .i64 .i64 _ _ m rfl rfl rfl rfl (by rw [hz2]; omega) (by unfold maxLen; omega) (by simp) ?_; intro w4 o3 hg4; rw [World.size_alloc] at o3; have r4 := own_made o3; have r0 : Row w4 w.heap.size 26 [.int .i64 p, .int .i64 q] := (Row.new w 26 _).grown hg4 (by simp); have hb4 : Below w.heap.size w w4 := ((Below.refl _ _).alloc (Nat.le_refl _) _).grown hg4 (by simp) (by simp); clear o3 hg4)
    go_loopw [10] (fun i wr => ∃ (k : Nat) (cs : List Nat), k ≤ es.length ∧ i = .int .i64 k ∧ shOK ss q k ∧ (cs.length = m ∧ ∀ v, v < m → getn cs v = getn (ldT es ss k) v) ∧ Row wr (w.heap.size + 1) 3 (intv cs) ∧ Row wr w.heap.size 26 [.int .i64 p, .int .i64 q] ∧ Below w.heap.size w wr) (fun i _ => es.length - (intOf i).toNat)
    case atStart => exact ⟨0, List.replicate m 0, by omega, rfl, fun j hj => absurd hj (by omega), ⟨by simp, fun v hv => by show _ = getn zer v; rw [getn_zer]; unfold getn; rw [List.getD_eq_getElem?_getD, List.getElem?_replicate]; split <;> rfl⟩, r4, r0, hb4⟩
    case round =>
      clear r4 r0 hb4
      obtain ⟨k, cs, hk, rfl, hall, ⟨hcl, hcv⟩, hr, hr0, hbr⟩ := hrel
      have HALL := Lib.hid hall
      have HLE := Lib.hid (ldT_le es k hall)
      have HCL := Lib.hid hcl
      have HCV := Lib.hid hcv
      obtain ⟨⟨k0, k1⟩, -⟩ := hr0.cells2
      clear hall hcl hcv
      by_cases hlt : k < es.length
      · obtain ⟨b, o, rfl, hb1, hc⟩ := (ha.below hbr) (by omega)
        obtain ⟨b', o', rfl, hb1', hc'⟩ := (hb.below hbr) (by have := HL.out; omega)
        obtain ⟨c1, c2⟩ := hc k hlt
        obtain ⟨c3, c4⟩ := hc' k (by have := HL.out; omega)
        obtain ⟨ea, eb, e1, e2, hab, hbm⟩ := HE.out k hlt
        have hlk : k < ss.length := by have := HL.out; omega
        have E1 := Lib.hid e1
        have E2 := Lib.hid e2
        rw [e1] at c1
        rw [e2] at c2
        clear hc hc' e1 e2
        have d5 : wr.cell? ⟨w.heap.size + 1, ea, none⟩ = some (.int .i64 (getn cs ea)) := intv_row hr (by rw [HCL.out]; omega)
        have f5 := hr.free ea
        have d6 : wr.cell? ⟨w.heap.size + 1, eb, none⟩ = some (.int .i64 (getn cs eb)) := intv_row hr (by rw [HCL.out]; omega)
        have f6 := hr.free eb
        have hba : getn cs ea ≤ 1000000 * (2 * 1000) := by
          rw [HCV.out ea (by omega)]; exact Nat.le_trans (HLE.out ea) (Nat.mul_le_mul (by omega) (by omega))
        have hbb : getn cs eb ≤ 1000000 * (2 * 1000) := by
          rw [HCV.out eb hbm]; exact Nat.le_trans (HLE.out eb) (Nat.mul_le_mul (by omega) (by omega))
        have hne : ea ≠ eb := by omega
        have HBAD := Lib.hid (fun (hbad : ¬ (0 ≤ pA ss k ∧ pA ss k ≤ q ∧ pB ss k = q - pA ss k)) => (by unfold provV; apply decide_eq_false; exact fun h => hbad (h.2.1 k hlt) : provV es ss p q = false))
        generalize hX : pA ss k = x at *
        generalize hY : pB ss k = y at *
        have HX := Lib.hid hX
        have HY := Lib.hid hY
        clear hX hY
        cases g1 : decide (x < 0)
        · cases g2 : decide ((q : Int) < x)
          · cases g3 : decide (y < 0)
            · cases g4 : decide ((q : Int) < y)
              · have := of_decide_eq_false g1
                have := of_decide_eq_false g2
                have := of_decide_eq_false g3
                have := of_decide_eq_false g4
                obtain ⟨xa, rfl⟩ : ∃ xa : Nat, x = xa := ⟨x.toNat, by omega⟩
                obtain ⟨yb, rfl⟩ : ∃ yb : Nat, y = yb := ⟨y.toNat, by omega⟩
                cases g5 : ((xa : Int) + yb != q)
                · have hxy : xa + yb = q := by simp at g5; omega
                  have HXY := Lib.hid hxy
                  clear hxy
                  go_wp2
                  go_quiet (fail)
                  go_wp2
                  go_quiet (fail)
                  go_wp2
                  go_roundw
                  case rel =>
                    have h5 : ∀ N, Row (((wr.drewN N).setCell ⟨w.heap.size + 1, ea, none⟩ (.int .i64 ((getn cs ea + xa : Nat) : Int))).setCell ⟨w.heap.size + 1, eb, none⟩ (.int .i64 ((getn cs eb + yb : Nat) : Int))) (w.heap.size + 1) 3 (intv ((cs.set ea (getn cs ea + xa)).set eb (getn cs eb + yb))) := fun N => by
                      have := ((hr.drewN N).set ea (.int .i64 ((getn cs ea + xa : Nat) : Int))).set eb (.int .i64 ((getn cs eb + yb : Nat) : Int))
                      rwa [intv_set, intv_set] at this
                    refine ⟨k + 1, (cs.set ea (getn cs ea + xa)).set eb (getn cs eb + yb), by omega, by go_num, fun j hj => ?_, ⟨by simp [HCL.out], fun v hv => ?_⟩, h5 _, ((hr0.drewN _).far (by dsimp only; omega) _).far (by dsimp only; omega) _, ((hbr.trans (below_drewN _)).setCell (by dsimp only; omega) _).setCell (by dsimp only; omega) _⟩
                    · by_cases e : j = k
                      · subst e; have := HXY.out; rw [HX.out, HY.out]; omega
                      · exact HALL.out j (by omega)
                    · rw [ldT, E1.out, E2.out, HX.out, HY.out]
                      unfold ldS
                      simp only [Int.toNat_natCast]
                      rw [getn_set (by rw [List.length_set, HCL.out]; omega), getn_set (by rw [HCL.out]; omega), getn_set (by rw [List.length_set, ldT_len]; omega), getn_set (by rw [ldT_len]; omega), getn_set (by rw [ldT_len]; omega)]
                      rw [if_neg hne, HCV.out ea (by omega), HCV.out eb hbm, HCV.out v hv]
                  case measure => simp [intOf]; omega
                · go_wp2
                  go_quiet (fail)
                  go_wp2
                  go_ret
                  exact ⟨ret_bool (HBAD.out (by simp at g5; omega)).symm, hbr.trans (below_drewN nq)⟩
              · go_wp2
                go_quiet (fail)
                go_wp2
                go_ret
                exact ⟨ret_bool (HBAD.out (by have := of_decide_eq_true g4; have := of_decide_eq_false g1; omega)).symm, hbr.trans (below_drewN nq)⟩
            · go_wp2
              go_quiet (fail)
              go_wp2
              go_ret
              exact ⟨ret_bool (HBAD.out (by have := of_decide_eq_true g3; have := of_decide_eq_false g2; omega)).symm, hbr.trans (below_drewN nq)⟩
          · go_wp2
            go_quiet (fail)
            go_wp2
            go_ret
            exact ⟨ret_bool (HBAD.out (by have := of_decide_eq_true g2; omega)).symm, hbr.trans (below_drewN nq)⟩
        · go_wp2
          go_quiet (fail)
          go_wp2
          go_ret
          exact ⟨ret_bool (HBAD.out (by have := of_decide_eq_true g1; omega)).symm, hbr.trans (below_drewN nq)⟩
      · obtain rfl : k = es.length := by omega
        have hzero := ldT_far es ss (m := m) es.length (fun i hi => by obtain ⟨a, b, h1, h2, h3, h4⟩ := HE.out i hi; omega)
        have HZ := Lib.hid hzero
        clear hzero
        obtain ⟨wo, rfl⟩ : ∃ wo : World, wo = wr := ⟨_, rfl⟩
        go_wp2
        go_loopw [15] (fun i wr => ∃ (v n : Nat), v ≤ m ∧ i = .int .i64 v ∧ (∀ u, u < v → getn cs u ≤ p) ∧ wr = wo.drewN n) (fun i _ => m - (intOf i).toNat)
        case atStart => exact ⟨0, 0, by omega, rfl, fun u hu => absurd hu (by omega), rfl⟩
        case round =>
          obtain ⟨v, n, hv, rfl, hup, rfl⟩ := hrel
          have HUP := Lib.hid hup
          clear hup
          by_cases hvm : v < m
          · have d7 : wo.cell? ⟨w.heap.size + 1, v, none⟩ = some (.int .i64 (getn cs v)) := intv_row hr (by rw [HCL.out]; exact hvm)
            cases g6 : decide (p < getn cs v)
            · go_wp2
              go_quiet (fail)
              go_wp2
              go_roundw
              case rel => exact ⟨v + 1, n + nq, by omega, by go_num, fun u hu => by
                by_cases e : u = v
                · subst e; have := of_decide_eq_false g6; omega
                · exact HUP.out u (by omega), by first | rfl | exact World.drewN_drewN _ _ _⟩
              case measure => simp [intOf]; omega
            · go_wp2
              go_quiet (fail)
              go_wp2
              go_ret
              refine ⟨ret_bool ?_, (hbr.trans (below_drewN n)).trans (below_drewN nq)⟩
              symm
              unfold provV
              apply decide_eq_false
              intro hh
              have h1 := hh.2.2 v (by omega)
              have := of_decide_eq_true g6
              have := HCV.out v hvm
              omega
          · obtain rfl : v = m := by omega
            go_wp2
            go_ret
            refine ⟨ret_bool ?_, hbr.trans (below_drewN n)⟩
            symm
            unfold provV
            apply decide_eq_true
            refine ⟨HL.out, HALL.out, fun u hu => ?_⟩
            by_cases e : u < v
            · have := HCV.out u e; have := HUP.out u e; omega
            · rw [HZ.out u (by omega)]; omega
end Go.Proofs.Ytmfpegadcecknaa
