/- The reference's counts of inversions. -/
import Derived.Test.YtheblebfeinjjaaOB
import Derived.Test.YtheblebfeinjjaaNL
namespace Go.Proofs.Ytheblebfeinjjaa
open Go.RowKit
set_option maxHeartbeats 1000000
set_option maxRecDepth 100000
theorem round_le {m : Nat → Nat → Nat} {S : Nat → Nat} (hm : GrowM m S) {Z : List Nat} {n k p : Nat} (hn : n < 18) (hZ : InF (S n) Z (facN n)) (hks : k ≤ S n) (hk : k < 154) (hp : p ≤ n) :
    (inN m Z k p (outN m n Z k)).length = 154 ∧ getn (inN m Z k p (outN m n Z k)) (k + m k p) + getn Z k ≤ 1000000000000000000 := by
  have h2 := hm.top (n + 1) (by omega)
  have h3 := outN_facts hm hn hZ.len hZ.sup k (by omega)
  have h4 := h3.inner (Z := Z) (k := k) (m := m) (len := n) h2 (fun p hp => hm.step k p n hks hp) p (by omega)
  refine ⟨h4.len, ?_⟩
  have h5 := getn_le_sum (N := inN m Z k p (outN m n Z k)) (i := k + m k p)
  rw [h4.sum] at h5
  have h6 := sum_take (Z := Z) (k := k) (by rw [hZ.len]; exact hk)
  have h7 := sum_take_le (Z := Z) (k := k + 1)
  rw [hZ.sum] at h7
  have h8 := facN_le (n := n) (by omega)
  have h9 : (n + 1) * (Z.take k).sum ≤ 18 * (Z.take k).sum := Nat.mul_le_mul_right _ (by omega)
  have h10 : p * getn Z k ≤ 18 * getn Z k := Nat.mul_le_mul_right _ (by omega)
  omega
theorem set_getn : ∀ (N : List Nat) (i : Nat), N.set i (getn N i + 0) = N
  | [], _ => rfl
  | x :: t, 0 => rfl
  | x :: t, i + 1 => by
    rw [List.set_cons_succ]
    have e : getn (x :: t) (i + 1) = getn t i := rfl
    rw [e, set_getn t i]
theorem inN_zero {m : Nat → Nat → Nat} {Z N : List Nat} {k : Nat} (h : getn Z k = 0) : ∀ P, inN m Z k P N = N
  | 0 => rfl
  | P + 1 => by
    show stN m Z k P (inN m Z k P N) = N
    rw [inN_zero h P]
    unfold stN
    rw [h, set_getn]
theorem outN_next {m : Nat → Nat → Nat} {Z : List Nat} {n k : Nat} : inN m Z k (n + 1) (outN m n Z k) = outN m n Z (k + 1) := by
  have e : outN m n Z (k + 1) = if getn Z k = 0 then outN m n Z k else inN m Z k (n + 1) (outN m n Z k) := rfl
  rw [e]
  by_cases h : getn Z k = 0
  · rw [if_pos h, inN_zero h]
  · rw [if_neg h]
theorem outN_stop {m : Nat → Nat → Nat} {Z : List Nat} {n s K : Nat} (hS : Sup Z s) (hK : s < K) : ∀ j, outN m n Z (K + j) = outN m n Z K
  | 0 => rfl
  | j + 1 => by
    rw [← Nat.add_assoc, ← outN_next, inN_zero (hS _ (by omega)), outN_stop hS hK j]
theorem take_set' (N : List Nat) (L i v : Nat) : (N.take L).set i v = (N.set i v).take L := by rw [List.take_set]
theorem getn_take {N : List Nat} {L i : Nat} (h : i < L) : getn (N.take L) i = getn N i := by
  unfold getn
  rw [List.getD_eq_getElem?_getD, List.getD_eq_getElem?_getD, List.getElem?_take, if_pos h]
theorem intv_rep (n : Nat) : iv (List.replicate n 0) = intv (List.replicate n 0) := by
  unfold iv intv
  rw [List.map_replicate, List.map_replicate]; rfl
theorem RefInversions_any (n k : Nat) (w : World) (hn : n ≤ 18) : Calls Try.prog 41 #[.int .i64 n, .int .i64 k] w fun e w' => e = .returned (.int .i64 (getn (rowN mI n) k : Nat)) ∧ Below w.heap.size w w' := by
  have HRF := Lib.hid (fun m (hm : m ≤ 18) => rowN_facts growI rfl m hm)
  have HT := Lib.hid (fun m (hm : m ≤ 18) => tri_le hm)
  have r0 : Row (w.alloc (.cells #[.int .i64 1] 3)) w.heap.size 3 (intv ((rowN mI 1).take 1)) := by
    rw [show (rowN mI 1).take 1 = [1] by decide +kernel]; exact row_new rfl
  have b0 : Below w.heap.size w (w.alloc (.cells #[.int .i64 1] 3)) := by (repeat (first | exact Below.refl _ _ | assumption | (refine Below.setCell ?_ (by first | exact Nat.le_refl _ | omega | (simp; done) | (simp; omega)) _) | (refine Below.trans ?_ (below_drewN _)) | (refine Below.drew ?_) | (refine Below.alloc ?_ (by first | exact Nat.le_refl _ | omega | (simp; done) | (simp; omega)) _) | (refine below_row ?_ (by first | exact Nat.le_refl _ | omega | (simp; done) | (simp; omega)) _)))
  have H01 : Hid (rowN mI 0 = rowN mI 1) := Lib.hid (by decide +kernel)
  go_enter Try.func41, Try.ntmps41
  go_wp2
  go_loopw [5, 6] (fun v i wr => ∃ m g L : Nat, 1 ≤ m ∧ (m ≤ n ∨ m = 1) ∧ m ≤ 18 ∧ i = .int .i64 ((m : Int) + 1) ∧ v = .slice (some ⟨g, 0, none⟩) L L ∧ L ≤ 154 ∧ Hid (L = tri m + 1) ∧ w.heap.size ≤ g ∧ Row wr g 3 (intv ((rowN mI m).take L)) ∧ Below w.heap.size w wr) (fun _ i _ => n + 1 - (intOf i).toNat)
  case atStart => exact ⟨1, w.heap.size, 1, by omega, by omega, by omega, rfl, rfl, by omega, Lib.hid rfl, Nat.le_refl _, r0, b0⟩
  case round =>
    clear r0 b0
    obtain ⟨m, g, L, hm1, hmn, hm18, rfl, rfl, hL, HL, hg, r0, b0⟩ := hrel
    by_cases hlt : m + 1 ≤ n
    · have g1 : decide ((m : Int) + 1 ≤ n) = true := decide_eq_true (by omega)
      have hF := HRF.out m hm18
      have HLT := Lib.hid (show L + m = tri (m + 1) + 1 by have e : tri (m + 1) = tri m + m := rfl; rw [HL.out, e]; omega)
      have hL2 : L + m ≤ 154 := by rw [HLT.out]; have := HT.out (m + 1) (by omega); omega
      obtain ⟨L2, hLe⟩ : ∃ L2 : Nat, (L : Int) + ((m : Int) + 1) - 1 = L2 := ⟨L + m, by omega⟩
      have hLN : L + m = L2 := by omega
      rw [hLN] at HLT hL2
      have HB := Lib.hid (fun K P (hK : K < L) (hP : P ≤ m) => round_le growI (by omega : m < 18) hF (show K ≤ tri m by have := HL.out; omega) (by omega) hP)
      have HST : Hid (outN mI m (rowN mI m) L = rowN mI (m + 1)) := Lib.hid (by
        have h := outN_stop (m := mI) (n := m) (K := L) hF.sup (by rw [HL.out]; omega) (154 - L)
        rw [show L + (154 - L) = 154 by omega] at h
        rw [← h]; rfl)
      have hlz : ((rowN mI m).take L).length = L := by rw [List.length_take, hF.len]; omega
      have hmk := make_ints L2 (by omega)
      have HR0 : Hid (iv (List.replicate L2 0) = intv ((outN mI m (rowN mI m) 0).take L2)) := Lib.hid (by
        rw [intv_rep]
        unfold outN
        rw [List.take_replicate]
        congr 2
        omega)
      have t0 : Row (wr.alloc (.cells (iv (List.replicate L2 0)).toArray 3)) wr.heap.size 3 (intv ((outN mI m (rowN mI m) 0).take L2)) := by rw [← HR0.out]; exact row_new rfl
      have r1 := r0.alloc (.cells (iv (List.replicate L2 0)).toArray 3)
      have b1 := b0.alloc b0.size (.cells (iv (List.replicate L2 0)).toArray 3)
      have hgg : g < wr.heap.size := r0.lt
      have hgw := b0.size
      clear r0 b0 hF HR0
      generalize rowN mI m = Z at *
      go_wp2
      clear hmk
      generalize wr.heap.size = g2 at *
      go_loopw [8] (fun i wr => ∃ K : Nat, K ≤ L ∧ i = .int .i64 K ∧ Row wr g2 3 (intv ((outN mI m Z K).take L2)) ∧ Row wr g 3 (intv (Z.take L)) ∧ Below w.heap.size w wr) (fun i _ => L - (intOf i).toNat)
      case atStart => exact ⟨0, by omega, rfl, t0, r1, b1⟩
      case round =>
        clear t0 r1 b1
        obtain ⟨K, hK, rfl, t0, r1, b1⟩ := hrel
        by_cases hKL : K < L
        · have HBK := Lib.hid (fun P hP => HB.out K P hKL hP)
          have HNX := Lib.hid (outN_next (m := mI) (Z := Z) (n := m) (k := K))
          have t1 : Row wr g2 3 (intv ((inN mI Z K 0 (outN mI m Z K)).take L2)) := t0
          have HSN : Hid (∀ P, inN mI Z K (P + 1) (outN mI m Z K) = (inN mI Z K P (outN mI m Z K)).set (K + P) (getn (inN mI Z K P (outN mI m Z K)) (K + P) + getn Z K)) := Lib.hid (fun P => rfl)
          generalize outN mI m Z K = O at *
          clear t0
          go_wp2
          go_loopw [9] (fun i wr => ∃ P : Nat, P ≤ m + 1 ∧ i = .int .i64 P ∧ Row wr g2 3 (intv ((inN mI Z K P O).take L2)) ∧ Row wr g 3 (intv (Z.take L)) ∧ Below w.heap.size w wr) (fun i _ => m + 1 - (intOf i).toNat)
          case atStart => exact ⟨0, by omega, rfl, t1, r1, b1⟩
          case round =>
            clear t1 r1 b1
            obtain ⟨P, hP, rfl, t1, r1, b1⟩ := hrel
            by_cases hPm : P ≤ m
            · obtain ⟨x1, x2⟩ := HBK.out P hPm
              have x2' : getn (inN mI Z K P O) (K + P) + getn Z K ≤ 1000000000000000000 := x2
              have HS := Lib.hid (HSN.out P)
              obtain ⟨N, hN⟩ : ∃ N, inN mI Z K P O = N := ⟨_, rfl⟩
              rw [hN] at x1 x2' HS t1
              have hNl : (N.take L2).length = L2 := by rw [List.length_take, x1]; omega
              have hKP : K + P < L2 := by omega
              have c1 := intv_row t1 (i := K + P) (by omega)
              have c2 := intv_row r1 (i := K) (by omega)
              rw [getn_take hKP] at c1
              rw [getn_take hKL] at c2
              clear x1 x2 hN hNl
              generalize getn N (K + P) = y at *
              generalize getn Z K = z at *
              have g3 : decide ((P : Int) < (m : Int) + 1) = true := decide_eq_true (by omega)
              go_wp2
              refine wp_region_quiet_tail 16 (by kernel_rfl) (by kernel_rfl) ?_
              simp only [List.take_succ_cons, List.take_zero, List.drop_succ_cons, List.drop_zero]
              repeat go_big_quiet_step ((fail))
              refine wpQuiet_nil ?_
              rintro _ ⟨nq, rfl⟩
              have c3 : (wr.drewN nq).cell? ⟨g2, K + P, none⟩ = some (.int .i64 y) := c1
              have f3 := (t1.drewN nq).free (K + P)
              clear c1 c2
              go_wp2
              have t2 := (t1.drewN nq).set (K + P) (.int .i64 ((y + z : Nat) : Int))
              rw [intv_set, take_set', ← HS.out, Int.natCast_add] at t2
              go_roundw
              case rel => exact ⟨P + 1, by omega, by go_num, t2, (r1.drewN nq).far (by dsimp only; omega) _, (b1.trans (below_drewN nq)).setCell (by dsimp only; omega) _⟩
              case measure => simp [intOf]; omega
            · obtain rfl : P = m + 1 := by omega
              rw [HNX.out] at t1
              have g3 : decide (((m + 1 : Nat) : Int) < (m : Int) + 1) = false := decide_eq_false (by omega)
              go_wp2
              go_roundw
              case rel => exact ⟨K + 1, by omega, by go_num, t1, r1, b1⟩
              case measure => simp [intOf]; omega
        · obtain rfl : K = L := by omega
          rw [HST.out] at t0
          go_wp2
          go_roundw
          case rel => exact ⟨m + 1, g2, L2, by omega, by omega, by omega, by go_num, rfl, hL2, Lib.hid HLT.out.symm.symm, by omega, t0, b1⟩
          case measure => simp [intOf]; omega
    · have g1 : decide ((m : Int) + 1 ≤ n) = false := decide_eq_false (by omega)
      have HE : Hid (rowN mI m = rowN mI n) := Lib.hid (by
        by_cases h0 : n = 0
        · obtain rfl : m = 1 := by omega
          rw [h0, H01.out]
        · rw [show m = n by omega])
      have hF := HRF.out m hm18
      have hlz : ((rowN mI m).take L).length = L := by rw [List.length_take, hF.len]; omega
      by_cases hkL : k < L
      · have g2 : decide (L ≤ k) = false := decide_eq_false (by omega)
        have c1 := intv_row r0 (i := k) (by omega)
        rw [getn_take hkL, HE.out] at c1
        clear hF hlz
        go_wp2
        go_ret
        exact ⟨rfl, b0⟩
      · have g2 : decide (L ≤ k) = true := decide_eq_true (by omega)
        have HV : Hid (getn (rowN mI n) k = 0) := Lib.hid (by
          rw [← HE.out]
          exact hF.sup k (by have := HL.out; omega))
        clear hF hlz
        go_wp2
        go_ret
        exact ⟨by rw [HV.out]; rfl, b0⟩
end Go.Proofs.Ytheblebfeinjjaa
