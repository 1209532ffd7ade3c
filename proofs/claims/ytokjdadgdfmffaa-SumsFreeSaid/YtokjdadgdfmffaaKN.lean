/- Exactly, in its range. -/
import Derived.Test.YtokjdadgdfmffaaKM
namespace Go.Proofs.Ytokjdadgdfmffaa
open Go.RowKit
set_option maxHeartbeats 1000000
set_option maxRecDepth 100000
theorem exE_el {n : Nat} (hn : 1 ≤ n ∧ n ≤ 20) (xs : List Int) : ∀ i (h : i < (exE n xs).length), El n n (exE n xs)[i].1 (exE n xs)[i].2 := fun i h => by
  have hl : (exE n xs).length = xs.length := by simp [exE]
  rw [exE_at n xs (by omega) h]
  exact el_mod ⟨hn.1, by omega, hn.1, by omega⟩ 1 (geti xs i)
theorem Exactly_go (n : Nat) (A : Option Addr) (c : Nat) (xs : List Int) (w : World) (hn : 1 ≤ n ∧ n ≤ 20) (hl : xs.length = 2 * n - 1) (ha : IntsAt w A xs) (h0 : 0 < (exL n xs).length) :
    Calls Try.prog 33 #[.int .i64 n, .slice A xs.length c] w (SomeR w (exL n xs)) := by
  have g1 : decide ((n : Int) < 1) = false := decide_eq_false (by omega)
  have g2 : decide ((20 : Int) < n) = false := decide_eq_false (by omega)
  have g3 : ((xs.length : Int) != 2 * n - 1) = false := by simp; omega
  obtain ⟨n1, n2⟩ := hn
  have hxl : xs.length ≤ 39 := by omega
  have hmk := make_el xs.length (by omega)
  have hel : (exE n xs).length = xs.length := by simp [exE]
  have HL := Lib.hid hel
  have HA := Lib.hid ha
  have hzl : (exL n xs).length ≤ (exE n xs).length := shF_len _ _ _ _ _ _
  have hzl2 : (exL n xs).length ≤ 39 := by omega
  have HEE := Lib.hid (exE_el ⟨n1, n2⟩ xs)
  have r1 : Row ((w.alloc (.cells #[.int .i64 n, .int .i64 n] 63)).alloc (.cells (pcs (List.replicate xs.length (0, 0))).toArray 69)) (w.heap.size + 1) 69 (pcs (laid (exE n xs) 0)) := by
    rw [show laid (exE n xs) 0 = List.replicate xs.length (0, 0) by unfold laid; rw [hel]; simp]; exact row_new (by simp)
  have r0 : Row ((w.alloc (.cells #[.int .i64 n, .int .i64 n] 63)).alloc (.cells (pcs (List.replicate xs.length (0, 0))).toArray 69)) w.heap.size 63 [.int .i64 n, .int .i64 n] := (row_new rfl).alloc _
  have b0 : Below w.heap.size w ((w.alloc (.cells #[.int .i64 n, .int .i64 n] 63)).alloc (.cells (pcs (List.replicate xs.length (0, 0))).toArray 69)) := by (repeat (first | exact Below.refl _ _ | assumption | (refine Below.setCell ?_ (by first | exact Nat.le_refl _ | omega | (simp; done) | (simp; omega)) _) | (refine Below.trans ?_ (below_drewN _)) | (refine Below.drew ?_) | (refine Below.alloc ?_ (by first | exact Nat.le_refl _ | omega | (simp; done) | (simp; omega)) _) | (refine below_row ?_ (by first | exact Nat.le_refl _ | omega | (simp; done) | (simp; omega)) _)))
  clear hel ha hl hzl
  go_enter Try.func33, Try.ntmps33
  go_wp2
  clear hmk
  go_loopw [32] (fun i wr => ∃ k : Nat, k ≤ xs.length ∧ i = .int .i64 k ∧ Row wr w.heap.size 63 [.int .i64 n, .int .i64 n] ∧ Row wr (w.heap.size + 1) 69 (pcs (laid (exE n xs) k)) ∧ Below w.heap.size w wr) (fun i _ => xs.length - (intOf i).toNat)
  case atStart => exact ⟨0, by omega, rfl, r0, r1, b0⟩
  case round =>
    clear r0 r1 b0
    obtain ⟨k, hk, rfl, r0, r1, b0⟩ := hrel
    by_cases hlt : k < xs.length
    · obtain ⟨b, o, hAe, hb, hc⟩ := (HA.out.below b0) (by omega)
      subst hAe
      have hcell := hc k hlt
      obtain ⟨⟨c0, c1⟩, -, -⟩ := r0.cells2
      have hk2 : k < (exE n xs).length := by rw [HL.out]; exact hlt
      have hX := exE_at n xs hlt hk2
      have hp1 := pcs_at (laid (exE n xs) k) k (by rw [laid_len _ (by omega)]; exact hk2)
      have hst := laid_set (exE n xs) hk2
      rw [hX] at hst
      dsimp only at hst
      have HRD := Lib.hid (fun w => red_any n n 1 (geti xs k) w ⟨n1, by omega⟩ ⟨n1, by omega⟩)
      generalize geti xs k = x at *
      generalize (1 : Int) % n = u at *
      generalize x % n = v at *
      have HST := Lib.hid hst
      have HP := Lib.hid hp1
      clear hst hp1 hc hX
      have hl0 := r0.lt
      have hl1 := r1.lt
      have hbs := b0.size
      go_wp2_with (go_at_call 59; with_reducible refine (HRD.out _).mono ?_; rintro e w1 ⟨rfl, hb1⟩; have p0 := r0.below hb1; have p1 := r1.below hb1; have pb := b0.trans (hb1.mono hbs); have y0 := p1.cell (k * 2); have y1 := p1.cell (k * 2 + 1); rw [HP.out.1] at y0; rw [HP.out.2] at y1; have f0 := p1.free (k * 2); have f1 := p1.free (k * 2 + 1); clear r0 r1 b0)
      go_roundw
      case rel =>
        refine ⟨k + 1, by omega, by go_num, (p0.far (by dsimp only; omega) _).far (by dsimp only; omega) _, ?_, (pb.setCell (by dsimp only; omega) _).setCell (by dsimp only; omega) _⟩
        rw [← HST.out]
        exact (p1.set _ _).set _ _
      case measure => simp [intOf]; omega
    · obtain rfl : k = xs.length := by omega
      have r2 : Row wr (w.heap.size + 1) 69 (pcs (exE n xs)) := by
        have h := laid_all (exE n xs)
        rw [HL.out] at h
        rw [h] at r1; exact r1
      clear r1
      obtain ⟨⟨c0, c1⟩, -, -⟩ := r0.cells2
      have hs := shortest_any n n (w.heap.size + 1) (exE n xs) 0 0 wr ⟨n1, by omega, n1, by omega⟩ HEE.out (by rw [HL.out]; omega) (el_zero ⟨n1, by omega, n1, by omega⟩) r2
      rw [HL.out] at hs
      have HS := Lib.hid hs
      clear hs r2 r0
      go_wp2_with (go_at_call 49; fail)
      refine HS.out.mono ?_
      rintro e w3 ⟨v, rfl, hp, hb3⟩
      have b3 := b0.trans (hb3.mono b0.size)
      change PartV w3 v (exL n xs) at hp
      rcases hp with ⟨h1, rfl⟩ | ⟨h1, b, o, c2, rfl, hi⟩
      · rw [h1] at h0; exact absurd h0 (by simp)
      · go_wp2_with (go_at_call 48; refine (found_some _ _ _ _ ?_ h1).mono ?_; omega; rintro e w4 ⟨rfl, rfl⟩)
        go_ret2
        exact ⟨b, o, c2, rfl, hi, b3⟩
end Go.Proofs.Ytokjdadgdfmffaa
