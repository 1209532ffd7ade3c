/- The reference's pairs. -/
import Derived.Test.YtnnaaoobdofooaaTG
namespace Go.Proofs.Ytnnaaoobdofooaa
open Go.RowKit
set_option maxHeartbeats 1000000
set_option maxRecDepth 100000
/-- Pairs in memory. -/
def PrsAt (w : World) (A : Option Addr) (rs cs : List Int) : Prop :=
  0 < rs.length → ∃ b o, A = some ⟨b, o, none⟩ ∧ b < w.heap.size ∧ ∀ i, i < rs.length → w.cell? ⟨b, o + i * 2, none⟩ = some (.int .i64 (geti rs i)) ∧ w.cell? ⟨b, o + i * 2 + 1, none⟩ = some (.int .i64 (geti cs i))
theorem PrsAt.below {w w' : World} {A : Option Addr} {rs cs : List Int} (h : PrsAt w A rs cs) (k : Below w.heap.size w w') : PrsAt w' A rs cs := fun hp => by
  obtain ⟨b, o, e, hb, hc⟩ := h hp
  refine ⟨b, o, e, Nat.lt_of_lt_of_le hb k.size, fun i hi => ?_⟩
  rw [k.cell hb, k.cell hb]
  exact hc i hi
theorem mb_tab2 {n : Nat} {xs : List Int} {k X : Nat} (h : geti xs k = (X : Int)) : (tbB n fun v => mb xs k v).set X (.bool true) = tbB n (fun v => mb xs (k + 1) v) := by
  rw [← mb_tab h, tb_set]
theorem refPairs_yes (A B : Option Addr) (c d : Nat) (L : List (List Int)) (rs cs : List Int) (w : World) (h : IsT L) (hr : rs.length ≤ 1000000) (hok : ∀ i, i < rs.length → PrOk L rs cs i) (hA : RowsAt w A L) (hB : PrsAt w B rs cs) :
    Calls Try.prog 37 #[.slice A L.length c, .slice B rs.length d] w fun e w' => e = .returned (.bool true) ∧ Below w.heap.size w w' := by
  have hle := h.le
  have HA := Lib.hid hA
  have HB := Lib.hid hB
  have HRW := Lib.hid (fun i (hi : i < L.length) => h.row i hi)
  have HOK := Lib.hid hok
  have hmk := make_bools L.length (by omega)
  have b0 := Below.refl w.heap.size w
  have HMT := Lib.hid (fun k X h => mb_tab2 (n := L.length) (xs := cs) (k := k) (X := X) h)
  have H00 : Hid ((tbB L.length fun v => mb cs 0 v) = tbB L.length fun _ => false) := Lib.hid rfl
  clear hA hB h hok
  have q0 : Row (w.alloc (.cells (tbB L.length fun _ => false).toArray 4)) w.heap.size 4 (tbB L.length fun v => mb cs 0 v) := by rw [H00.out]; exact row_new rfl
  have b1 : Below w.heap.size w (w.alloc (.cells (tbB L.length fun _ => false).toArray 4)) := b0.alloc (by omega) _
  have hg0 : w.heap.size ≤ w.heap.size := Nat.le_refl _
  go_enter Try.func37, Try.ntmps37
  go_wp2
  go_loopw [7] (fun v wr => ∃ k : Nat, k ≤ rs.length ∧ v = .int .i64 k ∧ Row wr w.heap.size 4 (tbB L.length fun v => mb cs k v) ∧ Below w.heap.size w wr) (fun v _ => rs.length - (intOf v).toNat)
  case atStart => exact ⟨0, by omega, rfl, q0, b1⟩
  case round =>
    clear q0 b1
    obtain ⟨k, hk, rfl, q0, b1⟩ := hrel
    by_cases hlt : k < rs.length
    · have g1 : decide ((k : Int) < (rs.length : Int)) = true := decide_eq_true (by omega)
      obtain ⟨bB, oB, hBe, -, f1⟩ := (HB.out.below b1) (by omega)
      subst hBe
      obtain ⟨e1, e2⟩ := f1 k hlt
      have hO := HOK.out k hlt
      obtain ⟨hO1, hO1'⟩ := hO.r
      obtain ⟨hO2, hO2'⟩ := hO.c
      have HO3 := Lib.hid hO.up
      have HO4 := Lib.hid hO.new
      have HO5 := Lib.hid hO.pos
      have HM1 := Lib.hid (fun X h => HMT.out k X h)
      clear hO
      have HF := Lib.hid f1
      clear f1
      have HK0 := Lib.hid (fun (q : Nat) (h : k = q + 1) => (HF.out q (by omega)).1)
      have HU0 := Lib.hid (fun (q : Nat) (h : k = q + 1) => (show geti rs q < geti rs k by have := HO3.out (by omega); rwa [show k - 1 = q by omega] at this))
      clear HF HO3
      generalize geti cs k = y at *
      generalize geti rs k = x at *
      obtain ⟨Y, rfl⟩ : ∃ Y : Nat, y = Y := ⟨y.toNat, by omega⟩
      obtain ⟨X, rfl⟩ : ∃ X : Nat, x = X := ⟨x.toNat, by omega⟩
      have hY : Y < L.length := by omega
      have hX : X < L.length := by omega
      rw [Int.toNat_natCast] at HO4 HO5
      rw [Int.toNat_natCast] at HO5
      obtain ⟨bA, oA, hAe, -, hcs⟩ := (HA.out.below b1) (by omega)
      subst hAe
      obtain ⟨B2, cB, e3, i1⟩ := hcs X hX
      rw [HRW.out X hX] at e3
      obtain ⟨b2, o2, rfl, -, f2⟩ := i1 (by rw [HRW.out X hX]; omega)
      have e4 := f2 Y (by rw [HRW.out X hX]; exact hY)
      rw [show geti (getl L X) Y = gat L X Y from rfl] at e4
      have g5 : (gat L X Y == 0) = false := by rw [beq_eq_false_iff_ne]; exact HO5.out
      have e5 : wr.cell? ⟨w.heap.size, Y, none⟩ = some (.bool false) := by rw [q0.cell, tb_at _ _ hY, HO4.out]
      have e6 := q0.free Y
      have HM2 := Lib.hid (HM1.out Y rfl)
      have gr1 : decide ((X : Int) < 0) = false := decide_eq_false (by omega)
      have gr2 : decide ((L.length : Int) ≤ (X : Int)) = false := decide_eq_false (by omega)
      have gc1 : decide ((Y : Int) < 0) = false := decide_eq_false (by omega)
      have gc2 : decide ((L.length : Int) ≤ (Y : Int)) = false := decide_eq_false (by omega)
      clear f2 i1 hcs HO4 HO5 HM1
      generalize gat L X Y = z at *
      by_cases hk0 : k = 0
      · have g6 : decide (0 < k) = false := decide_eq_false (by omega)
        clear hk0 HK0 HU0
        go_wp2
        refine wp_region_quiet_lit (by kernel_rfl) (by kernel_rfl) ?_
        repeat go_big_quiet_step ((fail))
        refine wpQuiet_nil ?_
        rintro _ ⟨nq, rfl⟩
        go_wp2
        refine ⟨⟨k + 1, by omega, by go_num, ?_, ?_⟩, by simp [intOf]; omega⟩
        · have hq := (q0.drewN nq).set Y (.bool true)
          rw [HM2.out] at hq
          exact hq
        · exact (b1.trans (below_drewN nq)).setCell (by dsimp only; omega) _
      · obtain ⟨q, rfl⟩ : ∃ q, k = q + 1 := ⟨k - 1, by omega⟩
        have e7 := HK0.out q rfl
        have hlq := HU0.out q rfl
        generalize geti rs q = u at *
        have g7 : decide ((X : Int) ≤ u) = false := decide_eq_false (by omega)
        clear hlq HK0 HU0 hk0
        go_wp2
        refine wp_region_quiet_lit (by kernel_rfl) (by kernel_rfl) ?_
        repeat go_big_quiet_step ((fail))
        refine wpQuiet_nil ?_
        rintro _ ⟨nq, rfl⟩
        go_wp2
        refine ⟨⟨q + 1 + 1, by omega, by go_num, ?_, ?_⟩, by simp [intOf]; omega⟩
        · have hq := (q0.drewN nq).set Y (.bool true)
          rw [HM2.out] at hq
          exact hq
        · exact (b1.trans (below_drewN nq)).setCell (by dsimp only; omega) _
    · obtain rfl : k = rs.length := by omega
      have g1 : decide ((rs.length : Int) < (rs.length : Int)) = false := decide_eq_false (by omega)
      go_wp2
      go_ret
      exact ⟨rfl, b1⟩
end Go.Proofs.Ytnnaaoobdofooaa
