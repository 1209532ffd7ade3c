/- Positive numbers of a row; possible choices; blocks. -/
import Derived.Test.YtnnaaoobdofooaaSD
namespace Go.Proofs.Ytnnaaoobdofooaa
open Go.RowKit
set_option maxHeartbeats 1000000
set_option maxRecDepth 100000
theorem positive_any (L : List (List Int)) (r : Nat) (w : World) (hr : r < 10) :
    Calls Try.prog 73 #[.agg (iv (grd L)).toArray, .int .i64 r] w fun e w' => e = .returned (.int .u16 (pz L r 10)) ∧ Below w.heap.size w w' := by
  have r0 : Row (w.alloc (.cells (iv (grd L)).toArray 73)) w.heap.size 73 (iv (grd L)) := row_new rfl
  have b0 : Below w.heap.size w (w.alloc (.cells (iv (grd L)).toArray 73)) := by (repeat (first | exact Below.refl _ _ | assumption | (refine Below.setCell ?_ (by first | exact Nat.le_refl _ | omega | (simp; done) | (simp; omega)) _) | (refine Below.trans ?_ (below_drewN _)) | (refine Below.drew ?_) | (refine Below.alloc ?_ (by first | exact Nat.le_refl _ | omega | (simp; done) | (simp; omega)) _) | (refine below_row ?_ (by first | exact Nat.le_refl _ | omega | (simp; done) | (simp; omega)) _)))
  have hrg := row_range r0 hr
  have hrl := rowE_len L r
  have hi7 : (Try.prog.info? 70).map (·.size) = some (iv (rowE L r)).length := by rw [iv_len, hrl]; exact info70
  have HIX := Lib.hid (fun (c : Nat) (hc : c < 10) (w : World) => run_index70 (rowE L r) hrl c hc w)
  have HRE := Lib.hid (fun (c : Nat) (hc : c < 10) => rowE_at L r (c := c) hc)
  have HPL := Lib.hid (fun c (hc : c ≤ 10) => pz_lt L r hc)
  have HPS : Hid (∀ c, pz L r (c + 1) = if 0 < gat L r c then sWith (pz L r c) c else pz L r c) := Lib.hid (fun c => rfl)
  have HP0 : Hid (pz L r 0 = 0) := Lib.hid rfl
  go_enter Try.func73, Try.ntmps73
  go_wp2_with ((with_reducible refine (?_ : wpList _ _ _ (Oper.mk (some 11) _ _ _ _ _ :: _) _ _)); refine wpList_load_mid rfl 70 (.tmp 10) rfl w.heap.size (1 + r * 10) rfl (iv (rowE L r)) _ hrg Try.underlying70 rfl hi7 ?_)
  generalize World.alloc w _ = W at *
  clear hrg hi7 hrl r0
  go_loopw [5, 12] (fun cv i wr => ∃ m : Nat, m ≤ 10 ∧ i = .int .i64 m ∧ cv = .int .u16 (pz L r m) ∧ W = wr) (fun _ i _ => 10 - (intOf i).toNat)
  case atStart => exact ⟨0, by omega, rfl, by rw [HP0.out]; rfl, rfl⟩
  case round =>
    obtain ⟨m, hm, rfl, rfl, rfl⟩ := hrel
    by_cases hlt : m < 10
    · have g1 : decide ((m : Int) < 10) = true := decide_eq_true (by omega)
      have hix := fun w => HIX.out m hlt w
      rw [HRE.out m hlt] at hix
      have hsl := HPL.out m (by omega)
      have HW := Lib.hid (with_any (pz L r m) m W hsl (by omega))
      have HS := Lib.hid (HPS.out m)
      generalize gat L r m = x at *
      generalize pz L r m = s at *
      by_cases h0 : 0 < x
      · have g2 : decide (0 < x) = true := decide_eq_true h0
        have hS := HS.out
        rw [if_pos h0] at hS
        rw [← hS] at HW
        clear h0 hS HS
        go_wp2_with (go_at_call 71; refine HW.out.mono ?_; rintro e w1 ⟨rfl, rfl⟩)
        go_roundw
        case rel => exact ⟨m + 1, by omega, by go_num, rfl, by first | rfl | trivial⟩
        case measure => simp [intOf]; omega
      · have g2 : decide (0 < x) = false := decide_eq_false h0
        have hS := HS.out
        rw [if_neg h0] at hS
        have HS2 := Lib.hid hS
        clear h0 hS HS HW
        go_wp2
        go_roundw
        case rel => exact ⟨m + 1, by omega, by go_num, by rw [HS2.out], by first | rfl | trivial⟩
        case measure => simp [intOf]; omega
    · obtain rfl : m = 10 := by omega
      go_wp2
      go_ret
      exact ⟨rfl, b0⟩
theorem isPossible_any (L : List (List Int)) (A : Option Addr) (c : Nat) (xs : List Int) (w : World) (h : IsT L) (hx : xs.length ≤ 1000000) (ha : IntsAt w A xs) :
    Calls Try.prog 58 #[.agg (iv (grd L)).toArray, .slice A xs.length c] w fun e w' => e = .returned (.bool (possB L xs)) ∧ Below w.heap.size w w' := by
  have hle := h.le
  have r0 : Row (w.alloc (.cells (iv (grd L)).toArray 73)) w.heap.size 73 (iv (grd L)) := row_new rfl
  have b0 : Below w.heap.size w (w.alloc (.cells (iv (grd L)).toArray 73)) := by (repeat (first | exact Below.refl _ _ | assumption | (refine Below.setCell ?_ (by first | exact Nat.le_refl _ | omega | (simp; done) | (simp; omega)) _) | (refine Below.trans ?_ (below_drewN _)) | (refine Below.drew ?_) | (refine Below.alloc ?_ (by first | exact Nat.le_refl _ | omega | (simp; done) | (simp; omega)) _) | (refine below_row ?_ (by first | exact Nat.le_refl _ | omega | (simp; done) | (simp; omega)) _)))
  have hi := info73_iv (x := grd L) (grdP_len _ 100)
  have HC := isChoice_any L A c xs (w.alloc (.cells (iv (grd L)).toArray 73)) h hx (ha.below b0)
  have HA := Lib.hid (ha.below b0)
  have HCG : Hid (∀ (W : World) (r c : Nat), r < 10 → c < 10 → Row W w.heap.size 73 (iv (grd L)) → W.cell? ⟨w.heap.size, 1 + r * 10 + c, none⟩ = some (.int .i64 (gat L r c))) := Lib.hid (fun W r c hr hc h => by
    have := ivR h (i := 1 + r * 10 + c) (by unfold grd; rw [grdP_len]; omega)
    rwa [Nat.add_assoc, grd_at L hr hc, ← Nat.add_assoc] at this)
  cases hco : colsOk L.length xs
  · have HF : Hid (possB L xs = false) := Lib.hid (by unfold possB; rw [hco]; rfl)
    rw [hco] at HC
    have HC := Lib.hid HC
    clear ha h hco
    go_enter Try.func58, Try.ntmps58
    go_wp2_with (first
      | (with_reducible refine (?_ : wpList _ _ _ (Oper.mk _ (Op.load 73 _) _ _ _ _ :: _) _ _); refine wpList_load_row rfl 73 _ rfl w.heap.size rfl 73 (iv (grd L)).toArray (0, 0) _ (row_heap r0) Try.underlying73 rfl hi ?_)
      | (go_at_call 72; refine HC.out.mono ?_; rintro e w1 ⟨rfl, b1⟩; replace b0 := b0.trans (b1.mono b0.size)))
    go_ret
    exact ⟨by rw [HF.out]; rfl, b0⟩
  · have hco' := hco
    unfold colsOk at hco'
    rw [Bool.and_eq_true, decide_eq_true_eq] at hco'
    obtain ⟨hcg, hxl⟩ := hco'
    have HAT := Lib.hid (fun j (hj : j < xs.length) => cg_at hcg hj)
    have HNO := Lib.hid (fun k (hk : k < xs.length) h => pg_no (L := L) hk h)
    have HYS := Lib.hid (fun k h0 h => pg_yes (L := L) (xs := xs) (k := k) h0 h)
    have HE : Hid (pg L xs xs.length = true → possB L xs = true) := Lib.hid (fun h => by unfold possB; rw [hco, h]; rfl)
    have HXL := Lib.hid hxl
    have HG0 : Hid (pg L xs 0 = true) := Lib.hid rfl
    rw [hco] at HC
    have HC := Lib.hid HC
    clear ha h hco hcg hxl
    go_enter Try.func58, Try.ntmps58
    go_wp2_with (first
      | (with_reducible refine (?_ : wpList _ _ _ (Oper.mk _ (Op.load 73 _) _ _ _ _ :: _) _ _); refine wpList_load_row rfl 73 _ rfl w.heap.size rfl 73 (iv (grd L)).toArray (0, 0) _ (row_heap r0) Try.underlying73 rfl hi ?_)
      | (go_at_call 72; refine HC.out.mono ?_; rintro e w1 ⟨rfl, b1⟩; replace r0 := r0.below b1; replace HA := Lib.hid (HA.out.below b1); replace b0 := b0.trans (b1.mono b0.size); clear b1))
    go_loopw [13] (fun i wr => ∃ k : Nat, k ≤ xs.length ∧ i = .int .i64 k ∧ Hid (pg L xs k = true) ∧ w1 = wr) (fun i _ => xs.length - (intOf i).toNat)
    case atStart => exact ⟨0, by omega, rfl, HG0, rfl⟩
    case round =>
      clear HG0
      obtain ⟨k, hk, rfl, HG, rfl⟩ := hrel
      by_cases hlt : k < xs.length
      · have g1 : decide ((k : Int) < (xs.length : Int)) = true := decide_eq_true (by omega)
        have hkL : k < L.length := by rw [← HXL.out]; exact hlt
        obtain ⟨b, o, rfl, -, f1⟩ := HA.out (by omega)
        have e1 := f1 k hlt
        have hat := HAT.out k hlt
        have HN1 := Lib.hid (HNO.out k hlt)
        have HY1 := Lib.hid (HYS.out k HG.out)
        clear f1
        generalize geti xs k = x at *
        obtain ⟨X, rfl⟩ : ∃ X : Nat, x = X := ⟨x.toNat, by omega⟩
        have e3 := HCG.out _ k X (by omega) (by omega) r0
        rw [Int.toNat_natCast] at HN1 HY1
        have hX10 : X < 10 := by omega
        have hk10 : k < 10 := by omega
        clear hat
        generalize gat L k X = y at *
        by_cases h0 : y = 0
        · have g2 : (y == 0) = true := by simp [h0]
          have HF := Lib.hid (HN1.out h0)
          clear h0
          go_wp2
          go_ret
          exact ⟨by rw [HF.out]; rfl, b0⟩
        · have g2 : (y == 0) = false := by simp [h0]
          have HG2 := Lib.hid (HY1.out h0)
          clear h0
          go_wp2
          go_roundw
          case rel => exact ⟨k + 1, by omega, by go_num, HG2, by first | rfl | trivial⟩
          case measure => simp [intOf]; omega
      · obtain rfl : k = xs.length := by omega
        have g1 : decide ((xs.length : Int) < (xs.length : Int)) = false := decide_eq_false (by omega)
        have HF := Lib.hid (HE.out HG.out)
        go_wp2
        go_ret
        exact ⟨by rw [HF.out]; rfl, b0⟩
theorem isBlock_any (L : List (List Int)) (A : Option Addr) (c : Nat) (xs : List Int) (w : World) (h : IsT L) (hx : xs.length ≤ 1000000) (ha : IntsAt w A xs) :
    Calls Try.prog 59 #[.agg (iv (grd L)).toArray, .slice A xs.length c] w fun e w' => e = .returned (.bool (blkB L xs)) ∧ Below w.heap.size w w' := by
  have hle := h.le
  have r0 : Row (w.alloc (.cells (iv (grd L)).toArray 73)) w.heap.size 73 (iv (grd L)) := row_new rfl
  have b0 : Below w.heap.size w (w.alloc (.cells (iv (grd L)).toArray 73)) := by (repeat (first | exact Below.refl _ _ | assumption | (refine Below.setCell ?_ (by first | exact Nat.le_refl _ | omega | (simp; done) | (simp; omega)) _) | (refine Below.trans ?_ (below_drewN _)) | (refine Below.drew ?_) | (refine Below.alloc ?_ (by first | exact Nat.le_refl _ | omega | (simp; done) | (simp; omega)) _) | (refine below_row ?_ (by first | exact Nat.le_refl _ | omega | (simp; done) | (simp; omega)) _)))
  have hi := info73_iv (x := grd L) (grdP_len _ 100)
  have HA := Lib.hid (ha.below b0)
  have HC0 : Hid (∀ (W : World), Row W w.heap.size 73 (iv (grd L)) → W.cell? ⟨w.heap.size, 0, none⟩ = some (.int .i64 (L.length : Int))) := Lib.hid (fun W h => ivR h (i := 0) (by unfold grd; rw [grdP_len]; omega))
  have HNO : Hid (∀ k, k < xs.length → ag L.length xs (k + 1) = false → blkB L xs = false) := Lib.hid (fun k hk h => by unfold blkB; rw [ag_no hk h]; rfl)
  have HYS := Lib.hid (fun k h0 h1 h2 => ag_yes (n := L.length) (xs := xs) (k := k) h0 h1 h2)
  have HE : Hid (ag L.length xs xs.length = true → blkB L xs = decide (pc 16 (us L xs xs.length) < xs.length)) := Lib.hid (fun h => by unfold blkB; rw [h]; rfl)
  have HLA := Lib.hid (fun k h => ag_last (n := L.length) (xs := xs) (k := k) h)
  have HUL := Lib.hid (fun k => us_lt L xs k)
  have HPL := Lib.hid (fun r => pz_lt L r (Nat.le_refl 10))
  have HUS : Hid (∀ k X, (geti xs k).toNat = X → us L xs k ||| pz L X 10 = us L xs (k + 1)) := Lib.hid (fun k X h => by subst h; rfl)
  have HLS : Hid (∀ k, lastN xs (k + 1) = geti xs k) := Lib.hid (fun k => rfl)
  have HG0 : Hid (ag L.length xs 0 = true) := Lib.hid rfl
  clear ha h
  go_enter Try.func59, Try.ntmps59
  go_wp2
  generalize World.alloc w _ = W at *
  go_loopw [5, 6, 11] (fun cv lv i wr => ∃ k : Nat, k ≤ xs.length ∧ i = .int .i64 k ∧ cv = .int .u16 (us L xs k) ∧ lv = .int .i64 (lastN xs k) ∧ Hid (ag L.length xs k = true) ∧ Row wr w.heap.size 73 (iv (grd L)) ∧ Below w.heap.size w wr ∧ Below W.heap.size W wr) (fun _ _ i _ => xs.length - (intOf i).toNat)
  case atStart => exact ⟨0, by omega, rfl, rfl, rfl, HG0, r0, b0, Below.refl _ _⟩
  case round =>
    clear HG0 r0 b0
    obtain ⟨k, hk, rfl, rfl, rfl, HG, r0, b0, bW⟩ := hrel
    have c0 := HC0.out _ r0
    by_cases hlt : k < xs.length
    · have g1 : decide ((k : Int) < (xs.length : Int)) = true := decide_eq_true (by omega)
      obtain ⟨b, o, rfl, -, f1⟩ := (HA.out.below bW) (by omega)
      have e1 := f1 k hlt
      have HN1 := Lib.hid (HNO.out k hlt)
      have HY1 := Lib.hid (HYS.out k HG.out)
      have HLO : Hid (geti xs k ≤ lastN xs k → ag L.length xs (k + 1) = false) := Lib.hid (fun h => ag_low h)
      have HBI : Hid ((L.length : Int) ≤ geti xs k → ag L.length xs (k + 1) = false) := Lib.hid (fun h => ag_big h)
      have hla := HLA.out k HG.out
      have hul := HUL.out k
      have HU1 := Lib.hid (HUS.out k)
      have HL1 := Lib.hid (HLS.out k)
      clear f1
      generalize geti xs k = x at *
      generalize lastN xs k = l at *
      generalize us L xs k = s at *
      by_cases h0 : x ≤ l
      · have g2 : decide (x ≤ l) = true := decide_eq_true h0
        have HF := Lib.hid (HN1.out (HLO.out h0))
        clear h0
        go_wp2
        go_ret
        exact ⟨by rw [HF.out]; rfl, b0⟩
      · have g2 : decide (x ≤ l) = false := decide_eq_false h0
        by_cases h1 : (L.length : Int) ≤ x
        · have g3 : decide ((L.length : Int) ≤ x) = true := decide_eq_true h1
          have HF := Lib.hid (HN1.out (HBI.out h1))
          clear h1
          go_wp2
          go_ret
          exact ⟨by rw [HF.out]; rfl, b0⟩
        · obtain ⟨X, rfl⟩ : ∃ X : Nat, x = X := ⟨x.toNat, by omega⟩
          have g3 : decide ((L.length : Int) ≤ (X : Int)) = false := decide_eq_false h1
          have hXn : X < L.length := by omega
          have hXn' : ¬ L.length ≤ X := by omega
          have HG2 := Lib.hid (HY1.out (by omega) (by omega))
          have HP := Lib.hid (positive_any L X wr (by omega))
          have hor := or_bits s (pz L X 10) hul (HPL.out X)
          rw [HU1.out X rfl] at hor
          generalize pz L X 10 = t at *
          clear h0 h1 HN1 HY1 HLO HBI HU1
          go_wp2_with (first
            | (with_reducible refine (?_ : wpList _ _ _ (Oper.mk _ (Op.load 73 _) _ _ _ _ :: _) _ _); refine wpList_load_row rfl 73 _ rfl w.heap.size rfl 73 (iv (grd L)).toArray (0, 0) _ (row_heap r0) Try.underlying73 rfl hi ?_)
            | (go_at_call 73; refine HP.out.mono ?_; rintro e w1 ⟨rfl, b1⟩; replace r0 := r0.below b1; replace bW := bW.trans (b1.mono bW.size); replace b0 := b0.trans (b1.mono b0.size); clear b1))
          go_roundw
          case rel => exact ⟨k + 1, by omega, by go_num, rfl, by rw [HL1.out], HG2, r0, b0, bW⟩
          case measure => simp [intOf]; omega
    · obtain rfl : k = xs.length := by omega
      have g1 : decide ((xs.length : Int) < (xs.length : Int)) = false := decide_eq_false (by omega)
      have HF := Lib.hid (HE.out HG.out)
      have HZ := Lib.hid (size_any (us L xs xs.length) wr (HUL.out _))
      generalize us L xs xs.length = s at *
      generalize pc 16 s = q at *
      go_wp2_with (go_at_call 65; refine HZ.out.mono ?_; rintro e w1 ⟨rfl, n1, rfl⟩; replace b0 := b0.trans (below_drewN (B := w.heap.size) n1))
      go_ret
      exact ⟨by rw [HF.out]; first | rfl | exact ret_bool (by rw [Bool.eq_iff_iff]; first | (simp; done) | (simp; omega)), b0⟩
end Go.Proofs.Ytnnaaoobdofooaa
