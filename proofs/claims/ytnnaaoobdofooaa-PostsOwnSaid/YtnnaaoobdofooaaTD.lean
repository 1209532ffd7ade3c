/- The reference's covers. -/
import Derived.Test.YtnnaaoobdofooaaSF
namespace Go.Proofs.Ytnnaaoobdofooaa
open Go.RowKit
set_option maxHeartbeats 1000000
set_option maxRecDepth 100000
/-- Is a number among the first ones of a list? -/
def mb (xs : List Int) : Nat → Nat → Bool
  | 0, _ => false
  | k + 1, v => mb xs k v || decide (geti xs k = (v : Int))
theorem mb_tab {n : Nat} {xs : List Int} {k X : Nat} (h : geti xs k = (X : Int)) : tbB n (fun v => if v = X then true else mb xs k v) = tbB n (fun v => mb xs (k + 1) v) := by
  unfold tbB
  refine List.map_congr_left (fun v _ => ?_)
  show Value.bool (if v = X then true else mb xs k v) = Value.bool (mb xs k v || decide (geti xs k = (v : Int)))
  rw [h]
  by_cases e : v = X
  · subst e; simp
  · have e2 : ¬ ((X : Int) = (v : Int)) := by omega
    rw [if_neg e, decide_eq_false e2, Bool.or_false]
theorem refCovers_yes (A B C : Option Addr) (c d f : Nat) (L : List (List Int)) (rs qs : List Int) (w : World) (h : IsT L) (hr : rs.length ≤ 1000000) (hq : qs.length ≤ 1000000) (g1 : ag L.length rs rs.length = true) (g2 : ag L.length qs qs.length = true)
    (hcov : ∀ i k, i < L.length → k < L.length → 0 < gat L i k → mb rs rs.length i = true ∨ mb qs qs.length k = true) (hA : RowsAt w A L) (hB : IntsAt w B rs) (hC : IntsAt w C qs) :
    Calls Try.prog 38 #[.slice A L.length c, .slice B rs.length d, .slice C qs.length f] w fun e w' => e = .returned (.bool true) ∧ Below w.heap.size w w' := by
  have hle := h.le
  have HA1 := Lib.hid (fun (V : World) hV => refAscending_any B d rs L.length V hr hle (hB.below hV))
  have HA2 := Lib.hid (fun (V : World) hV => refAscending_any C f qs L.length V hq hle (hC.below hV))
  rw [g1] at HA1
  rw [g2] at HA2
  have HAT1 := Lib.hid (fun j (hj : j < rs.length) => ag_at g1 hj)
  have HAT2 := Lib.hid (fun j (hj : j < qs.length) => ag_at g2 hj)
  have HA := Lib.hid hA
  have HB := Lib.hid hB
  have HC := Lib.hid hC
  have HRW := Lib.hid (fun i (hi : i < L.length) => h.row i hi)
  have HCV := Lib.hid hcov
  have hmk := make_bools L.length (by omega)
  have b0 := Below.refl w.heap.size w
  have HMT := Lib.hid (fun (xs : List Int) k X h => mb_tab (n := L.length) (xs := xs) (k := k) (X := X) h)
  have H00 : Hid (∀ xs : List Int, (tbB L.length fun v => mb xs 0 v) = tbB L.length fun _ => false) := Lib.hid (fun xs => rfl)
  clear g1 g2 hA hB hC h hcov
  go_enter Try.func38, Try.ntmps38
  go_wp2_with (go_at_call 60; fail)
  refine (HA1.out _ b0).mono ?_
  rintro e w1 ⟨rfl, n1, rfl⟩
  replace b0 := b0.trans (below_drewN (B := w.heap.size) n1)
  go_wp2_with (go_at_call 60; fail)
  refine (HA2.out _ b0).mono ?_
  rintro e w2 ⟨rfl, n2, rfl⟩
  replace b0 := b0.trans (below_drewN (B := w.heap.size) (w := w.drewN n1) n2)
  clear HA1 HA2
  generalize World.drewN _ n2 = W at *
  go_wp2
  go_region_held3 (fun _ => True) (trivial) (fail)
  · have q1 : Row (((W.alloc (.cells (tbB L.length fun _ => false).toArray 4)).alloc (.cells (tbB L.length fun _ => false).toArray 4)).drew) (W.heap.size) 4 (tbB L.length fun v => mb rs 0 v) := by rw [H00.out]; exact (Row.alloc (row_new rfl) _).drew
    have q2 : Row (((W.alloc (.cells (tbB L.length fun _ => false).toArray 4)).alloc (.cells (tbB L.length fun _ => false).toArray 4)).drew) (W.heap.size + 1) 4 (tbB L.length fun v => mb qs 0 v) := by rw [H00.out]; exact (row_new (by simp)).drew
    have hws := b0.size
    have b1 : Below w.heap.size w (((W.alloc (.cells (tbB L.length fun _ => false).toArray 4)).alloc (.cells (tbB L.length fun _ => false).toArray 4)).drew) := ((b0.alloc hws _).alloc (by simp; omega) _).drew
    have hab : (W.heap.size) ≠ (W.heap.size + 1) := by omega
    have ha0 : w.heap.size ≤ W.heap.size := by omega
    have hb0 : w.heap.size ≤ W.heap.size + 1 := by omega
    generalize World.drew _ = V at *
    obtain ⟨gb, hgb⟩ : ∃ gb, W.heap.size + 1 = gb := ⟨_, rfl⟩
    rw [hgb] at hab q2 hb0 ⊢
    obtain ⟨ga, hga⟩ : ∃ ga, W.heap.size = ga := ⟨_, rfl⟩
    rw [hga] at hab q1 ha0 ⊢
    clear hga hgb hws
    go_wp2
    go_loopw [10] (fun v wr => ∃ k : Nat, k ≤ rs.length ∧ v = .int .i64 k ∧ Row wr ga 4 (tbB L.length fun v => mb rs k v) ∧ Row wr gb 4 (tbB L.length fun v => mb qs 0 v) ∧ Below w.heap.size w wr) (fun v _ => rs.length - (intOf v).toNat)
    case atStart => exact ⟨0, by omega, rfl, q1, q2, b1⟩
    case round =>
      clear q1 q2 b1
      obtain ⟨k, hk, rfl, q1, q2, b1⟩ := hrel
      by_cases hlt : k < rs.length
      · have g1 : decide ((k : Int) < (rs.length : Int)) = true := decide_eq_true (by omega)
        obtain ⟨bB, oB, rfl, -, f1⟩ := (HB.out.below b1) (by omega)
        have e1 := f1 k hlt
        have hat := HAT1.out k hlt
        have HM1 := Lib.hid (fun X h => HMT.out rs k X h)
        clear f1
        generalize geti rs k = x at *
        obtain ⟨X, rfl⟩ : ∃ X : Nat, x = X := ⟨x.toNat, by omega⟩
        have hX : X < L.length := by omega
        have e2 : wr.cell? ⟨ga, X, none⟩ = some (.bool (mb rs k X)) := by rw [q1.cell, tb_at _ _ hX]
        have e3 := q1.free X
        have HM2 := Lib.hid (HM1.out X rfl)
        clear HM1 hat
        generalize mb rs k X = bb at *
        go_wp2
        first
          | (go_quiet (fail); go_wp2; go_roundw)
          | go_roundw
        case rel =>
          refine ⟨k + 1, by omega, by go_num, ?_, q2.far (by dsimp only; omega) _, b1.setCell (by dsimp only; omega) _⟩
          have hq := q1.set X (.bool true)
          rw [tb_set, HM2.out] at hq
          exact hq
        case measure => simp [intOf]; omega
      · obtain rfl : k = rs.length := by omega
        have g1 : decide ((rs.length : Int) < (rs.length : Int)) = false := decide_eq_false (by omega)
        go_wp2
        go_loopw [11] (fun v wr => ∃ k : Nat, k ≤ qs.length ∧ v = .int .i64 k ∧ Row wr ga 4 (tbB L.length fun v => mb rs rs.length v) ∧ Row wr gb 4 (tbB L.length fun v => mb qs k v) ∧ Below w.heap.size w wr) (fun v _ => qs.length - (intOf v).toNat)
        case atStart => exact ⟨0, by omega, rfl, q1, q2, b1⟩
        case round =>
          clear q1 q2 b1 g1 hlt hk
          obtain ⟨k, hk, rfl, q1, q2, b1⟩ := hrel
          by_cases hlt : k < qs.length
          · have g1 : decide ((k : Int) < (qs.length : Int)) = true := decide_eq_true (by omega)
            obtain ⟨bB, oB, rfl, -, f1⟩ := (HC.out.below b1) (by omega)
            have e1 := f1 k hlt
            have hat := HAT2.out k hlt
            have HM1 := Lib.hid (fun X h => HMT.out qs k X h)
            clear f1
            generalize geti qs k = x at *
            obtain ⟨X, rfl⟩ : ∃ X : Nat, x = X := ⟨x.toNat, by omega⟩
            have hX : X < L.length := by omega
            have e2 : wr.cell? ⟨gb, X, none⟩ = some (.bool (mb qs k X)) := by rw [q2.cell, tb_at _ _ hX]
            have e3 := q2.free X
            have HM2 := Lib.hid (HM1.out X rfl)
            clear HM1 hat
            generalize mb qs k X = bb at *
            go_wp2
            first
              | (go_quiet (fail); go_wp2; go_roundw)
              | go_roundw
            case rel =>
              refine ⟨k + 1, by omega, by go_num, q1.far (by dsimp only; omega) _, ?_, b1.setCell (by dsimp only; omega) _⟩
              have hq := q2.set X (.bool true)
              rw [tb_set, HM2.out] at hq
              exact hq
            case measure => simp [intOf]; omega
          · obtain rfl : k = qs.length := by omega
            have g1 : decide ((qs.length : Int) < (qs.length : Int)) = false := decide_eq_false (by omega)
            go_wp2
            clear g1 hlt hk
            go_loopw [12] (fun v wr => ∃ i : Nat, i ≤ L.length ∧ v = .int .i64 i ∧ Row wr ga 4 (tbB L.length fun v => mb rs rs.length v) ∧ Row wr gb 4 (tbB L.length fun v => mb qs qs.length v) ∧ Below w.heap.size w wr) (fun v _ => L.length - (intOf v).toNat)
            case atStart => exact ⟨0, by omega, rfl, q1, q2, b1⟩
            case round =>
              clear q1 q2 b1
              obtain ⟨i, hi, rfl, q1, q2, b1⟩ := hrel
              by_cases hlt : i < L.length
              · have g1 : decide ((i : Int) < (L.length : Int)) = true := decide_eq_true (by omega)
                go_wp2
                go_loopw [13] (fun v wr => ∃ k : Nat, k ≤ L.length ∧ v = .int .i64 k ∧ Row wr ga 4 (tbB L.length fun v => mb rs rs.length v) ∧ Row wr gb 4 (tbB L.length fun v => mb qs qs.length v) ∧ Below w.heap.size w wr) (fun v _ => L.length - (intOf v).toNat)
                case atStart => exact ⟨0, by omega, rfl, q1, q2, b1⟩
                case round =>
                  clear q1 q2 b1
                  obtain ⟨k, hk, rfl, q1, q2, b1⟩ := hrel
                  by_cases hlk : k < L.length
                  · have g2 : decide ((k : Int) < (L.length : Int)) = true := decide_eq_true (by omega)
                    obtain ⟨bA, oA, hAe, -, hcs⟩ := (HA.out.below b1) (by omega)
                    subst hAe
                    obtain ⟨B2, cB, e1, i1⟩ := hcs i hlt
                    rw [HRW.out i hlt] at e1
                    obtain ⟨bB, oB, rfl, -, f2⟩ := i1 (by rw [HRW.out i hlt]; omega)
                    have e2 := f2 k (by rw [HRW.out i hlt]; exact hlk)
                    rw [show geti (getl L i) k = gat L i k from rfl] at e2
                    have e3 : wr.cell? ⟨ga, i, none⟩ = some (.bool (mb rs rs.length i)) := by rw [q1.cell, tb_at _ _ hlt]
                    have e4 : wr.cell? ⟨gb, k, none⟩ = some (.bool (mb qs qs.length k)) := by rw [q2.cell, tb_at _ _ hlk]
                    have hcv := HCV.out i k hlt hlk
                    clear f2 i1 hcs
                    generalize gat L i k = y at *
                    generalize mb rs rs.length i = p1 at *
                    generalize mb qs qs.length k = p2 at *
                    have hcv2 : decide (0 < y) = false ∨ p1 = true ∨ p2 = true := by
                      by_cases hy : 0 < y
                      · exact Or.inr (hcv hy)
                      · exact Or.inl (decide_eq_false hy)
                    clear hcv
                    cases hy : decide (0 < y) <;> cases p1 <;> cases p2
                    all_goals first
                      | (exfalso; rcases hcv2 with h | h | h; · rw [hy] at h; cases h
                         · cases h
                         · cases h)
                      | (clear hcv2
                         go_wp2
                         first
                           | (go_quiet (fail); go_wp2; go_roundw)
                           | go_roundw
                         case rel => exact ⟨k + 1, by omega, by go_num, q1, q2, by first | exact b1.trans (below_drewN _) | exact b1⟩
                         case measure => simp [intOf]; omega)
                  · obtain rfl : k = L.length := by omega
                    have g2 : decide ((L.length : Int) < (L.length : Int)) = false := decide_eq_false (by omega)
                    go_wp2
                    exact ⟨⟨i + 1, by omega, rfl, q1, q2, b1⟩, by simp [intOf]; omega⟩
              · obtain rfl : i = L.length := by omega
                have g1 : decide ((L.length : Int) < (L.length : Int)) = false := decide_eq_false (by omega)
                go_wp2
                go_ret
                exact ⟨rfl, b1⟩
  · have q1 : Row (((W.alloc (.cells (tbB L.length fun _ => false).toArray 4)).alloc (.cells (tbB L.length fun _ => false).toArray 4)).drew) (W.heap.size + 1) 4 (tbB L.length fun v => mb rs 0 v) := by rw [H00.out]; exact (row_new (by simp)).drew
    have q2 : Row (((W.alloc (.cells (tbB L.length fun _ => false).toArray 4)).alloc (.cells (tbB L.length fun _ => false).toArray 4)).drew) (W.heap.size) 4 (tbB L.length fun v => mb qs 0 v) := by rw [H00.out]; exact (Row.alloc (row_new rfl) _).drew
    have hws := b0.size
    have b1 : Below w.heap.size w (((W.alloc (.cells (tbB L.length fun _ => false).toArray 4)).alloc (.cells (tbB L.length fun _ => false).toArray 4)).drew) := ((b0.alloc hws _).alloc (by simp; omega) _).drew
    have hab : (W.heap.size + 1) ≠ (W.heap.size) := by omega
    have ha0 : w.heap.size ≤ W.heap.size + 1 := by omega
    have hb0 : w.heap.size ≤ W.heap.size := by omega
    generalize World.drew _ = V at *
    obtain ⟨ga, hga⟩ : ∃ ga, W.heap.size + 1 = ga := ⟨_, rfl⟩
    rw [hga] at hab q1 ha0 ⊢
    obtain ⟨gb, hgb⟩ : ∃ gb, W.heap.size = gb := ⟨_, rfl⟩
    rw [hgb] at hab q2 hb0 ⊢
    clear hga hgb hws
    go_wp2
    go_loopw [10] (fun v wr => ∃ k : Nat, k ≤ rs.length ∧ v = .int .i64 k ∧ Row wr ga 4 (tbB L.length fun v => mb rs k v) ∧ Row wr gb 4 (tbB L.length fun v => mb qs 0 v) ∧ Below w.heap.size w wr) (fun v _ => rs.length - (intOf v).toNat)
    case atStart => exact ⟨0, by omega, rfl, q1, q2, b1⟩
    case round =>
      clear q1 q2 b1
      obtain ⟨k, hk, rfl, q1, q2, b1⟩ := hrel
      by_cases hlt : k < rs.length
      · have g1 : decide ((k : Int) < (rs.length : Int)) = true := decide_eq_true (by omega)
        obtain ⟨bB, oB, rfl, -, f1⟩ := (HB.out.below b1) (by omega)
        have e1 := f1 k hlt
        have hat := HAT1.out k hlt
        have HM1 := Lib.hid (fun X h => HMT.out rs k X h)
        clear f1
        generalize geti rs k = x at *
        obtain ⟨X, rfl⟩ : ∃ X : Nat, x = X := ⟨x.toNat, by omega⟩
        have hX : X < L.length := by omega
        have e2 : wr.cell? ⟨ga, X, none⟩ = some (.bool (mb rs k X)) := by rw [q1.cell, tb_at _ _ hX]
        have e3 := q1.free X
        have HM2 := Lib.hid (HM1.out X rfl)
        clear HM1 hat
        generalize mb rs k X = bb at *
        go_wp2
        first
          | (go_quiet (fail); go_wp2; go_roundw)
          | go_roundw
        case rel =>
          refine ⟨k + 1, by omega, by go_num, ?_, q2.far (by dsimp only; omega) _, b1.setCell (by dsimp only; omega) _⟩
          have hq := q1.set X (.bool true)
          rw [tb_set, HM2.out] at hq
          exact hq
        case measure => simp [intOf]; omega
      · obtain rfl : k = rs.length := by omega
        have g1 : decide ((rs.length : Int) < (rs.length : Int)) = false := decide_eq_false (by omega)
        go_wp2
        go_loopw [11] (fun v wr => ∃ k : Nat, k ≤ qs.length ∧ v = .int .i64 k ∧ Row wr ga 4 (tbB L.length fun v => mb rs rs.length v) ∧ Row wr gb 4 (tbB L.length fun v => mb qs k v) ∧ Below w.heap.size w wr) (fun v _ => qs.length - (intOf v).toNat)
        case atStart => exact ⟨0, by omega, rfl, q1, q2, b1⟩
        case round =>
          clear q1 q2 b1 g1 hlt hk
          obtain ⟨k, hk, rfl, q1, q2, b1⟩ := hrel
          by_cases hlt : k < qs.length
          · have g1 : decide ((k : Int) < (qs.length : Int)) = true := decide_eq_true (by omega)
            obtain ⟨bB, oB, rfl, -, f1⟩ := (HC.out.below b1) (by omega)
            have e1 := f1 k hlt
            have hat := HAT2.out k hlt
            have HM1 := Lib.hid (fun X h => HMT.out qs k X h)
            clear f1
            generalize geti qs k = x at *
            obtain ⟨X, rfl⟩ : ∃ X : Nat, x = X := ⟨x.toNat, by omega⟩
            have hX : X < L.length := by omega
            have e2 : wr.cell? ⟨gb, X, none⟩ = some (.bool (mb qs k X)) := by rw [q2.cell, tb_at _ _ hX]
            have e3 := q2.free X
            have HM2 := Lib.hid (HM1.out X rfl)
            clear HM1 hat
            generalize mb qs k X = bb at *
            go_wp2
            first
              | (go_quiet (fail); go_wp2; go_roundw)
              | go_roundw
            case rel =>
              refine ⟨k + 1, by omega, by go_num, q1.far (by dsimp only; omega) _, ?_, b1.setCell (by dsimp only; omega) _⟩
              have hq := q2.set X (.bool true)
              rw [tb_set, HM2.out] at hq
              exact hq
            case measure => simp [intOf]; omega
          · obtain rfl : k = qs.length := by omega
            have g1 : decide ((qs.length : Int) < (qs.length : Int)) = false := decide_eq_false (by omega)
            go_wp2
            clear g1 hlt hk
            go_loopw [12] (fun v wr => ∃ i : Nat, i ≤ L.length ∧ v = .int .i64 i ∧ Row wr ga 4 (tbB L.length fun v => mb rs rs.length v) ∧ Row wr gb 4 (tbB L.length fun v => mb qs qs.length v) ∧ Below w.heap.size w wr) (fun v _ => L.length - (intOf v).toNat)
            case atStart => exact ⟨0, by omega, rfl, q1, q2, b1⟩
            case round =>
              clear q1 q2 b1
              obtain ⟨i, hi, rfl, q1, q2, b1⟩ := hrel
              by_cases hlt : i < L.length
              · have g1 : decide ((i : Int) < (L.length : Int)) = true := decide_eq_true (by omega)
                go_wp2
                go_loopw [13] (fun v wr => ∃ k : Nat, k ≤ L.length ∧ v = .int .i64 k ∧ Row wr ga 4 (tbB L.length fun v => mb rs rs.length v) ∧ Row wr gb 4 (tbB L.length fun v => mb qs qs.length v) ∧ Below w.heap.size w wr) (fun v _ => L.length - (intOf v).toNat)
                case atStart => exact ⟨0, by omega, rfl, q1, q2, b1⟩
                case round =>
                  clear q1 q2 b1
                  obtain ⟨k, hk, rfl, q1, q2, b1⟩ := hrel
                  by_cases hlk : k < L.length
                  · have g2 : decide ((k : Int) < (L.length : Int)) = true := decide_eq_true (by omega)
                    obtain ⟨bA, oA, hAe, -, hcs⟩ := (HA.out.below b1) (by omega)
                    subst hAe
                    obtain ⟨B2, cB, e1, i1⟩ := hcs i hlt
                    rw [HRW.out i hlt] at e1
                    obtain ⟨bB, oB, rfl, -, f2⟩ := i1 (by rw [HRW.out i hlt]; omega)
                    have e2 := f2 k (by rw [HRW.out i hlt]; exact hlk)
                    rw [show geti (getl L i) k = gat L i k from rfl] at e2
                    have e3 : wr.cell? ⟨ga, i, none⟩ = some (.bool (mb rs rs.length i)) := by rw [q1.cell, tb_at _ _ hlt]
                    have e4 : wr.cell? ⟨gb, k, none⟩ = some (.bool (mb qs qs.length k)) := by rw [q2.cell, tb_at _ _ hlk]
                    have hcv := HCV.out i k hlt hlk
                    clear f2 i1 hcs
                    generalize gat L i k = y at *
                    generalize mb rs rs.length i = p1 at *
                    generalize mb qs qs.length k = p2 at *
                    have hcv2 : decide (0 < y) = false ∨ p1 = true ∨ p2 = true := by
                      by_cases hy : 0 < y
                      · exact Or.inr (hcv hy)
                      · exact Or.inl (decide_eq_false hy)
                    clear hcv
                    cases hy : decide (0 < y) <;> cases p1 <;> cases p2
                    all_goals first
                      | (exfalso; rcases hcv2 with h | h | h; · rw [hy] at h; cases h
                         · cases h
                         · cases h)
                      | (clear hcv2
                         go_wp2
                         first
                           | (go_quiet (fail); go_wp2; go_roundw)
                           | go_roundw
                         case rel => exact ⟨k + 1, by omega, by go_num, q1, q2, by first | exact b1.trans (below_drewN _) | exact b1⟩
                         case measure => simp [intOf]; omega)
                  · obtain rfl : k = L.length := by omega
                    have g2 : decide ((L.length : Int) < (L.length : Int)) = false := decide_eq_false (by omega)
                    go_wp2
                    exact ⟨⟨i + 1, by omega, rfl, q1, q2, b1⟩, by simp [intOf]; omega⟩
              · obtain rfl : i = L.length := by omega
                have g1 : decide ((L.length : Int) < (L.length : Int)) = false := decide_eq_false (by omega)
                go_wp2
                go_ret
                exact ⟨rfl, b1⟩
end Go.Proofs.Ytnnaaoobdofooaa
