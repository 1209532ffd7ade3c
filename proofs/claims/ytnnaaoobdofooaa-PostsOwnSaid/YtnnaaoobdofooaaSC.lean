/- Different columns; possible choices. -/
import Derived.Test.YtnnaaoobdofooaaRU
namespace Go.Proofs.Ytnnaaoobdofooaa
open Go.RowKit
set_option maxHeartbeats 1000000
set_option maxRecDepth 100000
/-- The set of the first columns of a list. -/
def cs (xs : List Int) : Nat → Nat
  | 0 => 0
  | k + 1 => sWith (cs xs k) (geti xs k).toNat
/-- The first numbers of a list are different columns. -/
def cg (n : Nat) (xs : List Int) : Nat → Bool
  | 0 => true
  | k + 1 => cg n xs k && decide (0 ≤ geti xs k) && decide (geti xs k < n) && !(cs xs k).testBit (geti xs k).toNat
def colsOk (n : Nat) (xs : List Int) : Bool := cg n xs xs.length && decide (xs.length = n)
/-- They have positive numbers in their rows. -/
def pg (L : List (List Int)) (xs : List Int) : Nat → Bool
  | 0 => true
  | k + 1 => pg L xs k && !decide (gat L k (geti xs k).toNat = 0)
def possB (L : List (List Int)) (xs : List Int) : Bool := colsOk L.length xs && pg L xs xs.length
theorem cg_mono {n : Nat} {xs : List Int} {k : Nat} (h : cg n xs k = false) : ∀ d, cg n xs (k + d) = false
  | 0 => h
  | d + 1 => by
    show (cg n xs (k + d) && _ && _ && _) = false
    rw [cg_mono h d]; rfl
theorem cg_no {n : Nat} {xs : List Int} {k : Nat} (hk : k < xs.length) (h : cg n xs (k + 1) = false) : colsOk n xs = false := by
  have := cg_mono h (xs.length - (k + 1))
  rw [show k + 1 + (xs.length - (k + 1)) = xs.length by omega] at this
  unfold colsOk
  rw [this]; rfl
theorem cg_neg {n : Nat} {xs : List Int} {k : Nat} (h : geti xs k < 0) : cg n xs (k + 1) = false := by
  unfold cg
  rw [decide_eq_false (show ¬ 0 ≤ geti xs k by omega)]; simp
theorem cg_big {n : Nat} {xs : List Int} {k : Nat} (h : (n : Int) ≤ geti xs k) : cg n xs (k + 1) = false := by
  unfold cg
  rw [decide_eq_false (show ¬ geti xs k < n by omega)]; simp
theorem cg_has {n : Nat} {xs : List Int} {k : Nat} (h : (cs xs k).testBit (geti xs k).toNat = true) : cg n xs (k + 1) = false := by
  unfold cg
  rw [h]; simp
theorem cg_yes {n : Nat} {xs : List Int} {k : Nat} (h0 : cg n xs k = true) (h1 : 0 ≤ geti xs k) (h2 : geti xs k < n) (h : (cs xs k).testBit (geti xs k).toNat = false) : cg n xs (k + 1) = true := by
  unfold cg
  rw [h0, h, decide_eq_true h1, decide_eq_true h2]; rfl
theorem cs_lt {n : Nat} (hn : n ≤ 10) {xs : List Int} : ∀ {k : Nat}, cg n xs k = true → cs xs k < 65536
  | 0, _ => by simp [cs]
  | k + 1, h => by
    unfold cg at h
    simp only [Bool.and_eq_true, decide_eq_true_eq] at h
    unfold cs
    exact with_lt (cs_lt hn h.1.1.1) (by omega)
theorem cg_at {n : Nat} {xs : List Int} : ∀ {k j : Nat}, cg n xs k = true → j < k → 0 ≤ geti xs j ∧ geti xs j < n
  | k + 1, j, h, hj => by
    unfold cg at h
    simp only [Bool.and_eq_true, decide_eq_true_eq] at h
    by_cases e : j = k
    · subst e; exact ⟨h.1.1.2, h.1.2⟩
    · exact cg_at h.1.1.1 (by omega)
theorem pg_mono {L : List (List Int)} {xs : List Int} {k : Nat} (h : pg L xs k = false) : ∀ d, pg L xs (k + d) = false
  | 0 => h
  | d + 1 => by
    show (pg L xs (k + d) && _) = false
    rw [pg_mono h d]; rfl
theorem pg_no {L : List (List Int)} {xs : List Int} {k : Nat} (hk : k < xs.length) (h : gat L k (geti xs k).toNat = 0) : possB L xs = false := by
  have h1 : pg L xs (k + 1) = false := by unfold pg; rw [decide_eq_true h]; simp
  have := pg_mono h1 (xs.length - (k + 1))
  rw [show k + 1 + (xs.length - (k + 1)) = xs.length by omega] at this
  unfold possB
  rw [this]; simp
theorem pg_yes {L : List (List Int)} {xs : List Int} {k : Nat} (h0 : pg L xs k = true) (h : ¬ gat L k (geti xs k).toNat = 0) : pg L xs (k + 1) = true := by
  unfold pg
  rw [h0, decide_eq_false h]; rfl
theorem isChoice_any (L : List (List Int)) (A : Option Addr) (c : Nat) (xs : List Int) (w : World) (h : IsT L) (hx : xs.length ≤ 1000000) (ha : IntsAt w A xs) :
    Calls Try.prog 72 #[.agg (iv (grd L)).toArray, .slice A xs.length c] w fun e w' => e = .returned (.bool (colsOk L.length xs)) ∧ Below w.heap.size w w' := by
  have hle := h.le
  have r0 : Row (w.alloc (.cells (iv (grd L)).toArray 73)) w.heap.size 73 (iv (grd L)) := row_new rfl
  have b0 : Below w.heap.size w (w.alloc (.cells (iv (grd L)).toArray 73)) := by (repeat (first | exact Below.refl _ _ | assumption | (refine Below.setCell ?_ (by first | exact Nat.le_refl _ | omega | (simp; done) | (simp; omega)) _) | (refine Below.trans ?_ (below_drewN _)) | (refine Below.drew ?_) | (refine Below.alloc ?_ (by first | exact Nat.le_refl _ | omega | (simp; done) | (simp; omega)) _) | (refine below_row ?_ (by first | exact Nat.le_refl _ | omega | (simp; done) | (simp; omega)) _)))
  have c0 : (w.alloc (.cells (iv (grd L)).toArray 73)).cell? ⟨w.heap.size, 0, none⟩ = some (.int .i64 (L.length : Int)) := ivR r0 (i := 0) (by unfold grd; rw [grdP_len]; omega)
  have HA := Lib.hid (ha.below b0)
  have HN := Lib.hid (fun k (hk : k < xs.length) h => cg_no (n := L.length) hk h)
  have HY := Lib.hid (fun k h0 h1 h2 h => cg_yes (n := L.length) (xs := xs) (k := k) h0 h1 h2 h)
  have HE : Hid (cg L.length xs xs.length = true → colsOk L.length xs = decide (xs.length = L.length)) := Lib.hid (fun h => by unfold colsOk; rw [h]; rfl)
  have HL := Lib.hid (fun k h => cs_lt (n := L.length) hle (xs := xs) (k := k) h)
  have HG0 : Hid (cg L.length xs 0 = true) := Lib.hid rfl
  have HCS : Hid (∀ k X, (geti xs k).toNat = X → sWith (cs xs k) X = cs xs (k + 1)) := Lib.hid (fun k X h => by subst h; rfl)
  clear ha h
  go_enter Try.func72, Try.ntmps72
  go_wp2
  generalize World.alloc w _ = W at *
  go_loopw [5, 10] (fun cv i wr => ∃ k : Nat, k ≤ xs.length ∧ i = .int .i64 k ∧ cv = .int .u16 (cs xs k) ∧ Hid (cg L.length xs k = true) ∧ W = wr) (fun _ i _ => xs.length - (intOf i).toNat)
  case atStart => exact ⟨0, by omega, rfl, rfl, HG0, rfl⟩
  case round =>
    clear HG0
    obtain ⟨k, hk, rfl, rfl, HG, rfl⟩ := hrel
    by_cases hlt : k < xs.length
    · have g1 : decide ((k : Int) < (xs.length : Int)) = true := decide_eq_true (by omega)
      obtain ⟨b, o, rfl, -, f1⟩ := HA.out (by omega)
      have e1 := f1 k hlt
      have HN1 := Lib.hid (fun h => HN.out k hlt h)
      have HY1 := Lib.hid (fun h1 h2 h => HY.out k HG.out h1 h2 h)
      have HCN : Hid (geti xs k < 0 → cg L.length xs (k + 1) = false) := Lib.hid (fun h => cg_neg h)
      have HCB : Hid ((L.length : Int) ≤ geti xs k → cg L.length xs (k + 1) = false) := Lib.hid (fun h => cg_big h)
      have HCH : Hid ((cs xs k).testBit (geti xs k).toNat = true → cg L.length xs (k + 1) = false) := Lib.hid (fun h => cg_has h)
      have hsl := HL.out k HG.out
      have HS1 := Lib.hid (HCS.out k)
      clear f1
      generalize geti xs k = x at *
      generalize cs xs k = s at *
      by_cases h0 : x < 0
      · have g2 : decide (x < 0) = true := decide_eq_true h0
        have HF := Lib.hid (HN1.out (HCN.out h0))
        clear h0
        go_wp2
        go_ret
        exact ⟨by rw [HF.out]; rfl, b0⟩
      · have g2 : decide (x < 0) = false := decide_eq_false h0
        by_cases h1 : (L.length : Int) ≤ x
        · have g3 : decide ((L.length : Int) ≤ x) = true := decide_eq_true h1
          have HF := Lib.hid (HN1.out (HCB.out h1))
          clear h1
          go_wp2
          go_ret
          exact ⟨by rw [HF.out]; rfl, b0⟩
        · obtain ⟨X, rfl⟩ : ∃ X : Nat, x = X := ⟨x.toNat, by omega⟩
          have g3 : decide ((L.length : Int) ≤ (X : Int)) = false := decide_eq_false h1
          have hXn : X < L.length := by omega
          have hXn' : ¬ L.length ≤ X := by omega
          have HYY := Lib.hid (HY1.out (by omega) (by omega))
          have HSS := Lib.hid (HS1.out X rfl)
          have HH := Lib.hid (has_any s X W hsl (by omega))
          have HWI := Lib.hid (with_any s X W hsl (by omega))
          rw [Int.toNat_natCast] at HCH HYY
          unfold sHas at HH
          rw [HSS.out] at HWI
          cases hb : s.testBit X
          · have HG2 := Lib.hid (HYY.out hb)
            rw [hb] at HH
            clear hb HCN HCB HCH HY1 HYY HS1 h0 h1
            go_wp2_with (first
              | (go_at_call 66; refine HH.out.mono ?_; rintro e w1 ⟨rfl, rfl⟩)
              | (go_at_call 71; refine HWI.out.mono ?_; rintro e w1 ⟨rfl, rfl⟩))
            go_roundw
            case rel => exact ⟨k + 1, by omega, by go_num, rfl, HG2, by first | rfl | trivial⟩
            case measure => simp [intOf]; omega
          · have HF := Lib.hid (HN1.out (HCH.out hb))
            rw [hb] at HH
            clear hb HCN HCB HCH HY1 HYY HS1 h0 h1
            go_wp2_with (go_at_call 66; refine HH.out.mono ?_; rintro e w1 ⟨rfl, rfl⟩)
            go_ret
            exact ⟨by rw [HF.out]; rfl, b0⟩
    · obtain rfl : k = xs.length := by omega
      have g1 : decide ((xs.length : Int) < (xs.length : Int)) = false := decide_eq_false (by omega)
      have HF := Lib.hid (HE.out HG.out)
      go_wp2
      go_ret
      exact ⟨by rw [HF.out]; exact ret_bool (by rw [Bool.eq_iff_iff]; first | (simp; done) | (simp; omega)), b0⟩
end Go.Proofs.Ytnnaaoobdofooaa
