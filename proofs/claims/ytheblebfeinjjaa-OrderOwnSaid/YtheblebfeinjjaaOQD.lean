/- The reference's counts of descents. -/
import Derived.Test.YtheblebfeinjjaaOQ0
namespace Go.Proofs.Ytheblebfeinjjaa
open Go.RowKit
set_option maxHeartbeats 1000000
set_option maxRecDepth 100000

theorem hitD_zero {K k : Nat} (h : K + 1 < k) : ∀ P, hit mD K k P = 0
  | 0 => rfl
  | P + 1 => by
    show hit mD K k P + (if K + mD K P = k then 1 else 0) = 0
    rw [hitD_zero h P, if_neg (by unfold mD; split <;> omega)]
theorem rowD_far {n k : Nat} (hn : n ≤ 18) (hk : n + 2 ≤ k) : getn (rowN mD n) k = 0 := by
  have h : ∀ n, n ≤ 18 → ∀ k, n + 1 ≤ k → getn (rowN mD n) k = 0 := by
    intro n
    induction n with
    | zero =>
      intro _ k hk
      exact (rowN_facts growD rfl 0 (by omega)).sup k (by show 0 < k; omega)
    | succ n ih =>
      intro hn k hk
      by_cases h30 : k < n + 31
      · exact recD_zero (by omega) (by omega) h30
      · have hs := (rowN_facts growD rfl (n + 1) hn).sup
        by_cases h154 : k < 154
        · have h2 := (outN_get (m := mD) (Z := rowN mD n) (n := n) h154 154).2
          show getn (outN mD n (rowN mD n) 154) k = 0
          rw [h2]
          have hz : ∀ K, sumTo (fun j => getn (rowN mD n) j * hit mD j k (n + 1)) K = 0 := by
            intro K
            induction K with
            | zero => rfl
            | succ K ihK =>
              show sumTo _ K + getn (rowN mD n) K * hit mD K k (n + 1) = 0
              rw [ihK, Nat.zero_add]
              by_cases hK : n + 1 ≤ K
              · rw [ih (by omega) K hK, Nat.zero_mul]
              · rw [hitD_zero (by omega), Nat.mul_zero]
          exact hz 154
        · unfold getn
          rw [List.getD_eq_getElem?_getD, List.getElem?_eq_none (by rw [(rowN_facts growD rfl (n + 1) hn).len]; omega)]; rfl
  exact h n hn k (by omega)
theorem RefDescents_any (n k : Nat) (w : World) (hn : n ≤ 18) : Calls Try.prog 42 #[.int .i64 n, .int .i64 k] w fun e w' => e = .returned (.int .i64 (getn (rowN mD n) k : Nat)) ∧ Below w.heap.size w w' := by
  have HRF := Lib.hid (fun m (hm : m ≤ 18) => rowN_facts growD rfl m hm)
  obtain ⟨L, hLe⟩ : ∃ L : Nat, (n : Int) + 2 = L := ⟨n + 2, by omega⟩
  have hLn : L = n + 2 := by omega
  have HLn := Lib.hid hLn
  have hL20 : 2 ≤ L ∧ L ≤ 20 := by omega
  obtain ⟨hL2, hL20⟩ := hL20
  have HMK := Lib.hid (fun W => make_ints L (by omega) W)
  have hmk := HMK.out w
  have HTL : Hid (∀ m, m ≤ 18 → ((rowN mD m).take L).length = L) := Lib.hid (fun m hm => by rw [List.length_take, (HRF.out m hm).len]; omega)
  have q0 : Row (w.alloc (.cells (iv (List.replicate L 0)).toArray 3)) w.heap.size 3 (intv (List.replicate L 0)) := by rw [← intv_rep]; exact row_new rfl
  have b0 : Below w.heap.size w (w.alloc (.cells (iv (List.replicate L 0)).toArray 3)) := by (repeat (first | exact Below.refl _ _ | assumption | (refine Below.setCell ?_ (by first | exact Nat.le_refl _ | omega | (simp; done) | (simp; omega)) _) | (refine Below.trans ?_ (below_drewN _)) | (refine Below.drew ?_) | (refine Below.alloc ?_ (by first | exact Nat.le_refl _ | omega | (simp; done) | (simp; omega)) _) | (refine below_row ?_ (by first | exact Nat.le_refl _ | omega | (simp; done) | (simp; omega)) _)))
  have HR1 : Hid ((intv (List.replicate L 0)).set 0 (.int .i64 1) = intv ((rowN mD 1).take L)) := Lib.hid (by
    rw [show (Value.int .i64 1) = .int .i64 ((1 : Nat) : Int) from rfl, intv_set]
    congr 1
    rw [show rowN mD 1 = 1 :: List.replicate 153 0 by decide +kernel]
    obtain ⟨l, rfl⟩ : ∃ l, L = l + 1 := ⟨L - 1, by omega⟩
    rw [List.replicate_succ, List.set_cons_zero, List.take_succ_cons, List.take_replicate]
    congr 2
    omega)
  have r0 : Row (w.alloc (.cells ((iv (List.replicate L 0)).set 0 (.int .i64 1)).toArray 3)) w.heap.size 3 (intv ((rowN mD 1).take L)) := by rw [← HR1.out, ← intv_rep]; exact row_new rfl
  replace b0 : Below w.heap.size w (w.alloc (.cells ((iv (List.replicate L 0)).set 0 (.int .i64 1)).toArray 3)) := by (repeat (first | exact Below.refl _ _ | assumption | (refine Below.setCell ?_ (by first | exact Nat.le_refl _ | omega | (simp; done) | (simp; omega)) _) | (refine Below.trans ?_ (below_drewN _)) | (refine Below.drew ?_) | (refine Below.alloc ?_ (by first | exact Nat.le_refl _ | omega | (simp; done) | (simp; omega)) _) | (refine below_row ?_ (by first | exact Nat.le_refl _ | omega | (simp; done) | (simp; omega)) _)))
  have c0 : (w.alloc (.cells (iv (List.replicate L 0)).toArray 3)).cell? ⟨w.heap.size, 0, none⟩ = some (.int .i64 0) := by
    have h := intv_row q0 (i := 0) (by rw [List.length_replicate]; omega)
    rwa [getn_rep] at h
  have f0 := q0.free 0
  clear hLn
  go_enter Try.func42, Try.ntmps42
  go_wp2
  clear hmk q0 HR1 c0 f0
  go_loopw [5, 6] (fun v i wr => ∃ m g : Nat, 1 ≤ m ∧ (m ≤ n ∨ m = 1) ∧ m ≤ 18 ∧ i = .int .i64 ((m : Int) + 1) ∧ v = .slice (some ⟨g, 0, none⟩) L L ∧ w.heap.size ≤ g ∧ Row wr g 3 (intv ((rowN mD m).take L)) ∧ Below w.heap.size w wr) (fun _ i _ => n + 1 - (intOf i).toNat)
  case atStart => exact ⟨1, w.heap.size, by omega, by omega, by omega, rfl, rfl, Nat.le_refl _, r0, b0⟩
  case round =>
    clear r0 b0
    obtain ⟨m, g, hm1, hmn, hm18, rfl, rfl, hg, r0, b0⟩ := hrel
    by_cases hlt : m + 1 ≤ n
    · have g1 : decide ((m : Int) + 1 ≤ n) = true := decide_eq_true (by omega)
      have hmk := HMK.out wr
      have hln := HLn.out
      obtain ⟨R, hR⟩ : ∃ R, (rowN mD (m + 1)).take L = R := ⟨_, rfl⟩
      have hRl : R.length = L := by rw [← hR]; exact HTL.out _ (by omega)
      have hZl := HTL.out m hm18
      obtain ⟨Z, hZ⟩ : ∃ Z, (rowN mD m).take L = Z := ⟨_, rfl⟩
      rw [hZ] at hZl
      have HRI : Hid (∀ i, i < m + 1 → i < L → getn R i = (i + 1) * getn Z i + (if i = 0 then 0 else (m + 1 - i) * getn Z (i - 1))) := Lib.hid (fun i hi hiL => by
        rw [← hR, ← hZ, getn_take hiL, getn_take hiL]
        have h := recD_ok (n := m) (i := i) (by omega) (by omega)
        by_cases h0 : i = 0
        · rw [if_pos h0] at h ⊢; exact h
        · rw [if_neg h0] at h ⊢; rw [getn_take (by omega)]; exact h)
      have HRZ : Hid (prt R (m + 1) = R) := Lib.hid (prt_all (fun j h1 h2 => by
        rw [← hR, getn_take (by omega)]
        exact recD_zero (by omega) h1 (by omega)))
      have HRB : Hid (∀ i, getn R i ≤ 6402373705728000) := Lib.hid (fun i => by
        have h1 := getn_le_sum (N := rowN mD (m + 1)) (i := i)
        rw [(HRF.out (m + 1) (by omega)).sum] at h1
        have h2 := facN_le (n := m + 1) (by omega)
        have h3 : getn R i ≤ getn (rowN mD (m + 1)) i := by
          by_cases h : i < L
          · rw [← hR, getn_take h]; exact Nat.le_refl _
          · have : getn R i = 0 := by
              unfold getn
              rw [List.getD_eq_getElem?_getD, List.getElem?_eq_none (by omega)]; rfl
            omega
        omega)
      have HP0 : Hid (iv (List.replicate L 0) = intv (prt R 0)) := Lib.hid (by rw [intv_rep]; unfold prt; rw [List.take_zero, List.nil_append, Nat.sub_zero, hRl])
      have t0 : Row (wr.alloc (.cells (iv (List.replicate L 0)).toArray 3)) wr.heap.size 3 (intv (prt R 0)) := by rw [← HP0.out]; exact row_new rfl
      have r1 := r0.alloc (.cells (iv (List.replicate L 0)).toArray 3)
      have b1 := b0.alloc b0.size (.cells (iv (List.replicate L 0)).toArray 3)
      have hgg : g < wr.heap.size := r0.lt
      have hgw := b0.size
      have HR := Lib.hid hR
      rw [hZ] at r1
      have HRl := Lib.hid hRl
      have HZl := Lib.hid hZl
      have hupL : m + 1 ≤ L := by omega
      clear r0 b0 HP0 hR hZ hRl hZl hln
      go_wp2
      clear hmk
      generalize wr.heap.size = g2 at *
      go_loopw [8] (fun j wr => ∃ i : Nat, i ≤ m + 1 ∧ j = .int .i64 i ∧ Row wr g2 3 (intv (prt R i)) ∧ Row wr g 3 (intv Z) ∧ Below w.heap.size w wr) (fun j _ => m + 1 - (intOf j).toNat)
      case atStart => exact ⟨0, by omega, rfl, t0, r1, b1⟩
      case round =>
        clear t0 r1 b1
        obtain ⟨i, hi, rfl, t0, r1, b1⟩ := hrel
        by_cases hiu : i < m + 1
        · have g2' : decide ((i : Int) < (m : Int) + 1) = true := decide_eq_true (by omega)
          have hre := HRI.out i hiu (by omega)
          have hrb := HRB.out i
          have HSE := Lib.hid (prt_set (R := R) (i := i) (by rw [HRl.out]; omega))
          have hpl := prt_len (R := R) (i := i) (by rw [HRl.out]; omega)
          have hrl2 := HRl.out
          have hzl2 := HZl.out
          have c1 := intv_row r1 (i := i) (by omega)
          have c3 := intv_row t0 (i := i) (by omega)
          have f3 := t0.free i
          have HPI : Hid ((intv (prt R i)).set i (.int .i64 (getn R i : Nat)) = intv (prt R (i + 1))) := Lib.hid (by rw [intv_set, HSE.out])
          by_cases h0 : i = 0
          · rw [if_pos h0, Nat.add_zero] at hre
            have g3 : decide (0 < i) = false := decide_eq_false (by omega)
            have HE : Hid (((i : Int) + 1) * (getn Z i : Nat) = (getn R i : Nat)) := Lib.hid (by rw [hre]; rw [Int.natCast_mul]; rfl)
            have p1 : 0 ≤ ((i : Int) + 1) * (getn Z i : Nat) ∧ ((i : Int) + 1) * (getn Z i : Nat) ≤ 6402373705728000 := by rw [HE.out]; omega
            obtain ⟨p1, p2⟩ := p1
            generalize getn R i = x at *
            generalize getn Z i = z at *
            generalize getn (prt R i) i = u at *
            clear hre hrb hpl hrl2 hzl2 h0 HSE
            go_wp2
            have t1 := t0.set i (.int .i64 (((i : Int) + 1) * (z : Int)))
            rw [HE.out, HPI.out, ← HE.out] at t1
            go_roundw
            case rel => exact ⟨i + 1, by omega, by go_num, t1, r1.far (by dsimp only; omega) _, b1.setCell (by dsimp only; omega) _⟩
            case measure => simp [intOf]; omega
          · rw [if_neg h0] at hre
            have g3 : decide (0 < i) = true := decide_eq_true (by omega)
            have c2 := intv_row r1 (i := i - 1) (by omega)
            have HE : Hid (((i : Int) + 1) * (getn Z i : Nat) + ((m : Int) + 1 - i) * (getn Z (i - 1) : Nat) = (getn R i : Nat)) := Lib.hid (by rw [hre]; rw [Int.natCast_add, Int.natCast_mul, Int.natCast_mul, show ((m + 1 - i : Nat) : Int) = (m : Int) + 1 - i by omega]; rfl)
            have p1 : 0 ≤ ((i : Int) + 1) * (getn Z i : Nat) ∧ 0 ≤ ((m : Int) + 1 - i) * (getn Z (i - 1) : Nat) ∧ ((i : Int) + 1) * (getn Z i : Nat) + ((m : Int) + 1 - i) * (getn Z (i - 1) : Nat) ≤ 6402373705728000 := by
              refine ⟨?_, ?_, by rw [HE.out]; omega⟩
              · exact Int.mul_nonneg (by omega) (by omega)
              · exact Int.mul_nonneg (by omega) (by omega)
            obtain ⟨p1, p2, p3⟩ := p1
            generalize getn R i = x at *
            generalize getn Z i = z at *
            generalize getn Z (i - 1) = y at *
            generalize getn (prt R i) i = u at *
            clear hre hrb hpl hrl2 hzl2 HSE
            have hi1 : 1 ≤ i := by omega
            clear h0
            go_wp2
            have t1 := t0.set i (.int .i64 (((i : Int) + 1) * (z : Int)))
            have r2 := r1.far (p := ⟨g2, i, none⟩) (by dsimp only; omega) (.int .i64 (((i : Int) + 1) * (z : Int)))
            have b2 := b1.setCell (p := ⟨g2, i, none⟩) (by dsimp only; omega) (.int .i64 (((i : Int) + 1) * (z : Int)))
            generalize World.setCell wr _ _ = W1 at *
            have hpl := prt_len (R := R) (i := i) (by rw [HRl.out]; omega)
            have hrl2 := HRl.out
            have hzl2 := HZl.out
            have c5 : W1.cell? ⟨g2, i, none⟩ = some (.int .i64 (((i : Int) + 1) * (z : Int))) := by
              rw [t1.cell, List.getElem?_set_self (by rw [intv, List.length_map]; omega)]
            have c6 : W1.cell? ⟨g, i - 1, none⟩ = some (.int .i64 y) := by
              rw [← c2, r2.cell, r1.cell]
            clear c1 c2 c3 f3 hpl hrl2 hzl2
            refine wp_region_quiet_tail 17 (by kernel_rfl) (by kernel_rfl) ?_
            simp only [List.take_succ_cons, List.take_zero, List.drop_succ_cons, List.drop_zero]
            repeat go_big_quiet_step ((fail))
            refine wpQuiet_nil ?_
            rintro _ ⟨nq, rfl⟩
            have c7 : (W1.drewN nq).cell? ⟨g2, i, none⟩ = some (.int .i64 (((i : Int) + 1) * (z : Int))) := c5
            have f7 := (t1.drewN nq).free i
            clear c5 c6
            go_wp2
            have t2 := (t1.drewN nq).set i (.int .i64 (((i : Int) + 1) * (z : Int) + ((m : Int) + 1 - i) * (y : Int)))
            rw [List.set_set, HE.out, HPI.out, ← HE.out] at t2
            go_roundw
            case rel => exact ⟨i + 1, by omega, by go_num, t2, (r2.drewN nq).far (by dsimp only; omega) _, (b2.trans (below_drewN nq)).setCell (by dsimp only; omega) _⟩
            case measure => simp [intOf]; omega
        · obtain rfl : i = m + 1 := by omega
          rw [HRZ.out, ← HR.out] at t0
          have g2' : decide (((m + 1 : Nat) : Int) < (m : Int) + 1) = false := decide_eq_false (by omega)
          go_wp2
          go_roundw
          case rel => exact ⟨m + 1, g2, by omega, by omega, by omega, by go_num, rfl, by omega, t0, b1⟩
          case measure => simp [intOf]; omega
    · have g1 : decide ((m : Int) + 1 ≤ n) = false := decide_eq_false (by omega)
      have HE : Hid (rowN mD m = rowN mD n) := Lib.hid (by
        by_cases h0 : n = 0
        · obtain rfl : m = 1 := by omega
          rw [h0]; decide +kernel
        · rw [show m = n by omega])
      have hF := HRF.out m hm18
      have hlz := HTL.out m hm18
      by_cases hkL : k < L
      · have g2 : decide (L ≤ k) = false := decide_eq_false (by omega)
        have c1 := intv_row r0 (i := k) (by omega)
        rw [getn_take hkL, HE.out] at c1
        clear hF hlz
        go_wp2
        go_ret
        exact ⟨rfl, b0⟩
      · have g2 : decide (L ≤ k) = true := decide_eq_true (by omega)
        have HV : Hid (getn (rowN mD n) k = 0) := Lib.hid (by
          exact rowD_far hn (by have := HLn.out; omega))
        clear hF hlz
        go_wp2
        go_ret
        exact ⟨by rw [HV.out]; rfl, b0⟩
end Go.Proofs.Ytheblebfeinjjaa
