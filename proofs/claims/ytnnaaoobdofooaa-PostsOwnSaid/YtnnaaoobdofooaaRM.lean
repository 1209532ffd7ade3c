/- The reference's tables. -/
import Derived.Test.YtnnaaoobdofooaaRK
namespace Go.Proofs.Ytnnaaoobdofooaa
open Go.RowKit
set_option maxHeartbeats 1000000
set_option maxRecDepth 100000
theorem okT_len {L : List (List Int)} (h : 10 < L.length) : okT L = false := by
  cases e : okT L
  · rfl
  · have := (okT_iff.1 e).le
    omega
theorem okT_row {L : List (List Int)} {i : Nat} (hi : i < L.length) (h : (getl L i).length ≠ L.length) : okT L = false := by
  cases e : okT L
  · rfl
  · exact absurd ((okT_iff.1 e).row i hi) h
theorem okT_num {L : List (List Int)} {i k : Nat} (hi : i < L.length) (hk : k < L.length) (h : gat L i k < 0 ∨ 9 < gat L i k) : okT L = false := by
  cases e : okT L
  · rfl
  · have h1 := (okT_iff.1 e).lo i k hi hk
    have h2 := (okT_iff.1 e).hi i k hi hk
    omega
/-- So many rows are as they should be; so many numbers of one. -/
def RowOk (L : List (List Int)) (i m : Nat) : Prop := ∀ k, k < m → 0 ≤ gat L i k ∧ gat L i k ≤ 9
def RowsOk (L : List (List Int)) (m : Nat) : Prop := ∀ i, i < m → (getl L i).length = L.length ∧ RowOk L i L.length
theorem okT_all {L : List (List Int)} (h1 : L.length ≤ 10) (h : RowsOk L L.length) : okT L = true :=
  okT_iff.2 ⟨h1, fun i hi => (h i hi).1, fun i k hi hk => ((h i hi).2 k hk).1, fun i k hi hk => ((h i hi).2 k hk).2⟩
theorem RowOk.more {L : List (List Int)} {i m : Nat} (h : RowOk L i m) (h1 : 0 ≤ gat L i m) (h2 : gat L i m ≤ 9) : RowOk L i (m + 1) := fun k hk => by
  by_cases e : k < m
  · exact h k e
  · obtain rfl : k = m := by omega
    exact ⟨h1, h2⟩
theorem RowsOk.more {L : List (List Int)} {m : Nat} (h : RowsOk L m) (h1 : (getl L m).length = L.length) (h2 : RowOk L m L.length) : RowsOk L (m + 1) := fun k hk => by
  by_cases e : k < m
  · exact h k e
  · obtain rfl : k = m := by omega
    exact ⟨h1, h2⟩
theorem refTable_any (A : Option Addr) (c : Nat) (L : List (List Int)) (w : World) (hx : L.length ≤ 1000000) (ha : RowsAt w A L) :
    Calls Try.prog 20 #[.slice A L.length c] w fun e w' => e = .returned (.bool (okT L)) ∧ Below w.heap.size w w' := by
  have HA := Lib.hid ha
  have b0 : Below w.heap.size w w := Below.refl _ _
  clear ha
  by_cases hl : L.length ≤ 10
  · have g0 : decide ((10 : Int) < (L.length : Int)) = false := decide_eq_false (by omega)
    have HALL := Lib.hid (fun h => okT_all hl h)
    have HROW := Lib.hid (fun i (hi : i < L.length) h => okT_row hi h)
    have HNUM := Lib.hid (fun i k (hi : i < L.length) (hk : k < L.length) h => okT_num hi hk h)
    have HR0 : Hid (RowsOk L 0) := Lib.hid (fun i hi => absurd hi (by omega))
    go_enter Try.func20, Try.ntmps20
    go_wp2
    go_loopw [4] (fun i wr => ∃ m : Nat, m ≤ L.length ∧ i = .int .i64 m ∧ Hid (RowsOk L m) ∧ Below w.heap.size w wr) (fun i _ => L.length - (intOf i).toNat)
    case atStart => exact ⟨0, by omega, rfl, HR0, b0⟩
    case round =>
      clear b0 HR0
      obtain ⟨m, hm, rfl, HR, b0⟩ := hrel
      by_cases hlt : m < L.length
      · have g1 : decide ((m : Int) < (L.length : Int)) = true := decide_eq_true (by omega)
        obtain ⟨b, o, hAe, hb, hcs⟩ := HA.out (by omega)
        subst hAe
        obtain ⟨B, cB, h1, h2⟩ := hcs m hlt
        have HV := Lib.hid (fun (V : World) (hv : Below w.heap.size w V) => (hv.cell (p := ⟨b, o + m, none⟩) hb).trans h1)
        have HI := Lib.hid (fun (V : World) (hv : Below w.heap.size w V) => h2.below hv)
        clear hcs h1 h2
        have d1 := HV.out _ b0
        by_cases hrl : (getl L m).length = L.length
        · have HRL := Lib.hid hrl
          rw [hrl] at d1 HV
          clear hrl
          go_wp2
          go_loopw [5] (fun j wr => ∃ q : Nat, q ≤ L.length ∧ j = .int .i64 q ∧ Hid (RowOk L m q) ∧ Below w.heap.size w wr) (fun j _ => L.length - (intOf j).toNat)
          case atStart => exact ⟨0, by omega, rfl, Lib.hid (fun k hk => absurd hk (by omega)), b0⟩
          case round =>
            clear b0 d1
            obtain ⟨q, hq, rfl, HQ, b0⟩ := hrel
            by_cases hql : q < L.length
            · have g2 : decide ((q : Int) < (L.length : Int)) = true := decide_eq_true (by omega)
              obtain ⟨bB, oB, hBe, hbB, f1⟩ := (HI.out _ b0) (by rw [HRL.out]; omega)
              subst hBe
              have d1 := HV.out _ b0
              have d2 := f1 q (by rw [HRL.out]; exact hql)
              clear f1
              have HX : Hid (geti (getl L m) q = gat L m q) := Lib.hid rfl
              rw [HX.out] at d2
              have HN := Lib.hid (HNUM.out m q hlt hql)
              have HM := Lib.hid (fun h1 h2 => HQ.out.more h1 h2)
              generalize gat L m q = x at *
              cases g3 : decide (x < 0) <;> cases g4 : decide ((9 : Int) < x)
              all_goals
                go_wp2
                first
                  | exact ⟨⟨q + 1, by omega, rfl, Lib.hid (HM.out (Int.not_lt.1 (of_decide_eq_false g3)) (Int.not_lt.1 (of_decide_eq_false g4))), b0⟩, by simp [intOf]; omega⟩
                  | (go_ret; exact ⟨by rw [HN.out (Or.inl (of_decide_eq_true g3))]; rfl, b0⟩)
                  | (go_ret; exact ⟨by rw [HN.out (Or.inr (of_decide_eq_true g4))]; rfl, b0⟩)
            · have g2 : decide ((q : Int) < (L.length : Int)) = false := decide_eq_false (by omega)
              obtain rfl : q = L.length := by omega
              go_wp2
              exact ⟨⟨m + 1, by omega, rfl, Lib.hid (HR.out.more HRL.out HQ.out), b0⟩, by simp [intOf]; omega⟩
        · have g2 : (((getl L m).length : Int) != (L.length : Int)) = true := by simp; omega
          have HF := Lib.hid (HROW.out m hlt hrl)
          go_wp2
          go_ret
          exact ⟨by rw [HF.out]; rfl, b0⟩
      · obtain rfl : m = L.length := by omega
        go_wp2
        go_ret
        exact ⟨by rw [HALL.out HR.out]; rfl, b0⟩
  · have g0 : decide ((10 : Int) < (L.length : Int)) = true := decide_eq_true (by omega)
    have HF := Lib.hid (okT_len (L := L) (by omega))
    go_enter Try.func20, Try.ntmps20
    go_wp2
    go_ret
    exact ⟨by rw [HF.out]; rfl, b0⟩
end Go.Proofs.Ytnnaaoobdofooaa
