/- The reference's different columns and possible choices. -/
import Derived.Test.YtnnaaoobdofooaaSC
namespace Go.Proofs.Ytnnaaoobdofooaa
open Go.RowKit
set_option maxHeartbeats 1000000
set_option maxRecDepth 100000
/-- A table of truth values. -/
def tbB (N : Nat) (f : Nat → Bool) : List Value := (List.range N).map fun v : Nat => .bool (f v)
theorem tb_len (N : Nat) (f : Nat → Bool) : (tbB N f).length = N := by simp [tbB]
theorem tb_at (N : Nat) (f : Nat → Bool) {v : Nat} (h : v < N) : (tbB N f)[v]? = some (.bool (f v)) := by
  unfold tbB
  rw [List.getElem?_map, List.getElem?_range h]; rfl
theorem tb_set (N : Nat) (f : Nat → Bool) (x : Nat) (b : Bool) : (tbB N f).set x (.bool b) = tbB N (fun v => if v = x then b else f v) := by
  unfold tbB
  apply List.ext_getElem?
  intro i
  rw [List.getElem?_set, List.getElem?_map, List.getElem?_map]
  by_cases hi : i < N
  · rw [List.getElem?_range hi]
    by_cases e : x = i
    · subst e; simp [hi]
    · simp [e, Ne.symm e]
  · rw [List.getElem?_eq_none (by simpa using hi)]
    by_cases e : x = i
    · subst e; simp [hi]
    · simp [e]
theorem info4 : (Try.prog.info? 4).map (fun i => (i.zero, i.size, i.bytes)) = some (some (.bool false), 1, 1) := by kernel_rfl
theorem made_bools (m : Nat) : (madeCells (Value.bool false).cells (m * 1)) = (tbB m fun _ => false).toArray := by
  apply Array.ext'
  unfold madeCells tbB
  have : (Value.bool false).cells = #[.bool false] := rfl
  rw [this]
  apply List.ext_getElem?
  intro i
  by_cases h : i < m
  · simp [Nat.mod_one, h]
  · simp [Nat.mod_one, h]
theorem make_bools (n : Nat) (hn : n ≤ 1000000) (W : World) : (Instr.makeSlice 94 (.int .i64 n) (.int .i64 n)).run Try.prog W = .ok (.slice (some ⟨W.heap.size, 0, none⟩) n n) (W.alloc (.cells (tbB n fun _ => false).toArray 4)) := by
  obtain ⟨j0, ji, jz0, jz1, jz2⟩ := info_parts info4
  have h := run_make (P := Try.prog) W 94 4 j0 (.bool false) Try.underlying94 ji jz0 .i64 .i64 n n (by omega) (by omega) (by rw [jz2]; omega) (by omega)
  rw [jz1, Int.toNat_natCast, made_bools] at h
  exact h
theorem cs_tab {n : Nat} {xs : List Int} {k X : Nat} (h : (geti xs k).toNat = X) : tbB n (fun v => if v = X then true else (cs xs k).testBit v) = tbB n (fun v => (cs xs (k + 1)).testBit v) := by
  unfold tbB
  refine List.map_congr_left (fun v _ => ?_)
  show Value.bool _ = Value.bool ((sWith (cs xs k) (geti xs k).toNat).testBit v)
  rw [h, with_bit]
  dsimp only
  by_cases e : v = X
  · subst e; simp
  · rw [if_neg e, decide_eq_false (fun h => e h.symm)]; simp
theorem refColumns_any (A : Option Addr) (c : Nat) (xs : List Int) (n : Nat) (w : World) (hn : n ≤ 10) (hx : xs.length ≤ 1000000) (ha : IntsAt w A xs) :
    Calls Try.prog 61 #[.slice A xs.length c, .int .i64 n] w fun e w' => e = .returned (.bool (colsOk n xs)) ∧ Below w.heap.size w w' := by
  have HA := Lib.hid ha
  have hmk := make_bools n (by omega)
  have q0 : Row (w.alloc (.cells (tbB n fun _ => false).toArray 4)) w.heap.size 4 (tbB n fun v => (cs xs 0).testBit v) := by
    have e : (tbB n fun v => (cs xs 0).testBit v) = tbB n fun _ => false := by unfold tbB cs; simp
    rw [e]; exact row_new rfl
  have b0 : Below w.heap.size w (w.alloc (.cells (tbB n fun _ => false).toArray 4)) := (Below.refl _ _).alloc (Nat.le_refl _) _
  have HN := Lib.hid (fun k (hk : k < xs.length) h => cg_no (n := n) hk h)
  have HY := Lib.hid (fun k h0 h1 h2 h => cg_yes (n := n) (xs := xs) (k := k) h0 h1 h2 h)
  have HT := Lib.hid (fun k X h => cs_tab (n := n) (xs := xs) (k := k) (X := X) h)
  have HE : Hid (cg n xs xs.length = true → colsOk n xs = decide (xs.length = n)) := Lib.hid (fun h => by unfold colsOk; rw [h]; rfl)
  have HG0 : Hid (cg n xs 0 = true) := Lib.hid rfl
  clear ha
  go_enter Try.func61, Try.ntmps61
  go_wp2
  go_loopw [6] (fun i wr => ∃ k : Nat, k ≤ xs.length ∧ i = .int .i64 k ∧ Row wr w.heap.size 4 (tbB n fun v => (cs xs k).testBit v) ∧ Hid (cg n xs k = true) ∧ Below w.heap.size w wr) (fun i _ => xs.length - (intOf i).toNat)
  case atStart => exact ⟨0, by omega, rfl, q0, HG0, b0⟩
  case round =>
    clear q0 b0 HG0
    obtain ⟨k, hk, rfl, q0, HG, b0⟩ := hrel
    by_cases hlt : k < xs.length
    · have g1 : decide ((k : Int) < (xs.length : Int)) = true := decide_eq_true (by omega)
      obtain ⟨b, o, rfl, -, f1⟩ := (HA.out.below b0) (by omega)
      have e1 := f1 k hlt
      have HN1 := Lib.hid (fun h => HN.out k hlt h)
      have HY1 := Lib.hid (fun h1 h2 h => HY.out k HG.out h1 h2 h)
      have HT1 := Lib.hid (fun X h => HT.out k X h)
      have HCN : Hid (geti xs k < 0 → cg n xs (k + 1) = false) := Lib.hid (fun h => cg_neg h)
      have HCB : Hid ((n : Int) ≤ geti xs k → cg n xs (k + 1) = false) := Lib.hid (fun h => cg_big h)
      have HCH : Hid ((cs xs k).testBit (geti xs k).toNat = true → cg n xs (k + 1) = false) := Lib.hid (fun h => cg_has h)
      clear f1
      generalize geti xs k = x at *
      by_cases h0 : x < 0
      · have g2 : decide (x < 0) = true := decide_eq_true h0
        have HF := Lib.hid (HN1.out (HCN.out h0))
        clear h0
        go_wp2
        go_ret
        exact ⟨by rw [HF.out]; rfl, b0⟩
      · have g2 : decide (x < 0) = false := decide_eq_false h0
        by_cases h1 : (n : Int) ≤ x
        · have g3 : decide ((n : Int) ≤ x) = true := decide_eq_true h1
          have HF := Lib.hid (HN1.out (HCB.out h1))
          clear h1
          go_wp2
          go_ret
          exact ⟨by rw [HF.out]; rfl, b0⟩
        · obtain ⟨X, rfl⟩ : ∃ X : Nat, x = X := ⟨x.toNat, by omega⟩
          have g3 : decide ((n : Int) ≤ (X : Int)) = false := decide_eq_false h1
          have hXn : X < n := by omega
          have hXn' : ¬ n ≤ X := by omega
          have e2 : wr.cell? ⟨w.heap.size, X, none⟩ = some (.bool ((cs xs k).testBit X)) := by rw [q0.cell, tb_at _ _ hXn]
          have e3 := q0.free X
          have HYY := Lib.hid (HY1.out (by omega) (by omega))
          have HTT := Lib.hid (HT1.out X rfl)
          rw [Int.toNat_natCast] at HCH HYY
          cases hb : (cs xs k).testBit X
          · have HG2 := Lib.hid (HYY.out hb)
            rw [hb] at e2
            clear hb HCN HCB HCH HY1 HYY HT1 h0 h1
            go_wp2
            go_roundw
            case rel =>
              refine ⟨k + 1, by omega, by go_num, ?_, HG2, b0.setCell (by dsimp only; omega) _⟩
              have hq := q0.set X (.bool true)
              rw [tb_set, HTT.out] at hq
              exact hq
            case measure => simp [intOf]; omega
          · have HF := Lib.hid (HN1.out (HCH.out hb))
            rw [hb] at e2
            clear hb HCN HCB HCH HY1 HYY HT1 h0 h1
            go_wp2
            go_ret
            exact ⟨by rw [HF.out]; rfl, b0⟩
    · obtain rfl : k = xs.length := by omega
      have g1 : decide ((xs.length : Int) < (xs.length : Int)) = false := decide_eq_false (by omega)
      have HF := Lib.hid (HE.out HG.out)
      go_wp2
      go_ret
      exact ⟨by rw [HF.out]; exact ret_bool (by rw [Bool.eq_iff_iff]; first | (simp; done) | (simp; omega)), b0⟩
theorem refPossible_any (A B : Option Addr) (c d : Nat) (L : List (List Int)) (xs : List Int) (w : World) (h : IsT L) (hx : xs.length ≤ 1000000) (hA : RowsAt w A L) (hB : IntsAt w B xs) :
    Calls Try.prog 35 #[.slice A L.length c, .slice B xs.length d] w fun e w' => e = .returned (.bool (possB L xs)) ∧ Below w.heap.size w w' := by
  have HC := Lib.hid (refColumns_any B d xs L.length w h.le hx hB)
  have HA := Lib.hid hA
  have HB := Lib.hid hB
  have HRW := Lib.hid (fun i (hi : i < L.length) => h.row i hi)
  have hle := h.le
  cases hco : colsOk L.length xs
  · have HF : Hid (possB L xs = false) := Lib.hid (by unfold possB; rw [hco]; rfl)
    rw [hco] at HC
    clear hA hB h hco
    go_enter Try.func35, Try.ntmps35
    go_wp2_with (go_at_call 61; refine HC.out.mono ?_; rintro e w1 ⟨rfl, b1⟩)
    go_ret
    exact ⟨by rw [HF.out]; rfl, b1⟩
  · have hco' := hco
    unfold colsOk at hco'
    rw [Bool.and_eq_true, decide_eq_true_eq] at hco'
    obtain ⟨hcg, hxl⟩ := hco'
    have HAT := Lib.hid (fun j (hj : j < xs.length) => cg_at hcg hj)
    have HNO := Lib.hid (fun k (hk : k < xs.length) h => pg_no (L := L) hk h)
    have HYS := Lib.hid (fun k h0 h => pg_yes (L := L) (xs := xs) (k := k) h0 h)
    have HE : Hid (pg L xs xs.length = true → possB L xs = true) := Lib.hid (fun h => by unfold possB; rw [hco, h]; rfl)
    have HXL := Lib.hid hxl
    have HG0 : Hid (pg L xs 0 = true) := Lib.hid rfl
    rw [hco] at HC
    clear hA hB h hco hcg hxl
    go_enter Try.func35, Try.ntmps35
    go_wp2_with (go_at_call 61; refine HC.out.mono ?_; rintro e w1 ⟨rfl, b1⟩)
    go_loopw [5] (fun i wr => ∃ k : Nat, k ≤ xs.length ∧ i = .int .i64 k ∧ Hid (pg L xs k = true) ∧ Below w.heap.size w wr) (fun i _ => xs.length - (intOf i).toNat)
    case atStart => exact ⟨0, by omega, rfl, HG0, b1⟩
    case round =>
      clear b1 HG0
      obtain ⟨k, hk, rfl, HG, b1⟩ := hrel
      by_cases hlt : k < xs.length
      · have g1 : decide ((k : Int) < (xs.length : Int)) = true := decide_eq_true (by omega)
        have hkL : k < L.length := by rw [← HXL.out]; exact hlt
        obtain ⟨b, o, rfl, -, f1⟩ := (HB.out.below b1) (by omega)
        have e1 := f1 k hlt
        obtain ⟨bA, oA, hAe, -, hcs⟩ := (HA.out.below b1) (by omega)
        subst hAe
        obtain ⟨B2, cB, e2, i1⟩ := hcs k hkL
        rw [HRW.out k hkL] at e2
        obtain ⟨bB, oB, rfl, -, f2⟩ := i1 (by rw [HRW.out k hkL]; omega)
        have hat := HAT.out k hlt
        have HN1 := Lib.hid (HNO.out k hlt)
        have HY1 := Lib.hid (HYS.out k HG.out)
        clear f1 hcs i1
        generalize geti xs k = x at *
        obtain ⟨X, rfl⟩ : ∃ X : Nat, x = X := ⟨x.toNat, by omega⟩
        have hXL : X < L.length := by omega
        have e3 := f2 X (by rw [HRW.out k hkL]; exact hXL)
        rw [show geti (getl L k) X = gat L k X from rfl] at e3
        rw [Int.toNat_natCast] at HN1 HY1
        clear f2 hat
        generalize gat L k X = y at *
        by_cases h0 : y = 0
        · have g2 : (y == 0) = true := by simp [h0]
          have HF := Lib.hid (HN1.out h0)
          clear h0
          go_wp2
          refine wp_region_quiet_lit (by kernel_rfl) (by kernel_rfl) ?_
          repeat go_big_quiet_step ((fail))
          refine wpQuiet_nil ?_
          rintro _ ⟨nq, rfl⟩
          go_wp2
          go_ret
          exact ⟨by rw [HF.out]; rfl, b1.trans (below_drewN nq)⟩
        · have g2 : (y == 0) = false := by simp [h0]
          have HG2 := Lib.hid (HY1.out h0)
          clear h0
          go_wp2
          refine wp_region_quiet_lit (by kernel_rfl) (by kernel_rfl) ?_
          repeat go_big_quiet_step ((fail))
          refine wpQuiet_nil ?_
          rintro _ ⟨nq, rfl⟩
          go_wp2
          go_roundw
          case rel => exact ⟨k + 1, by omega, by go_num, HG2, b1.trans (below_drewN nq)⟩
          case measure => simp [intOf]; omega
      · obtain rfl : k = xs.length := by omega
        have g1 : decide ((xs.length : Int) < (xs.length : Int)) = false := decide_eq_false (by omega)
        have HF := Lib.hid (HE.out HG.out)
        go_wp2
        go_ret
        exact ⟨by rw [HF.out]; rfl, b1⟩
end Go.Proofs.Ytnnaaoobdofooaa
