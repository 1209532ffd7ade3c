/- The reference's level. -/
import Derived.Test.YtnnaaoobdofooaaRO
namespace Go.Proofs.Ytnnaaoobdofooaa
open Go.RowKit
set_option maxHeartbeats 1000000
set_option maxRecDepth 100000
theorem rsum_n {L : List (List Int)} (h : IsT L) (r : Nat) : ∀ d, rsum L r (L.length + d) = rsum L r L.length
  | 0 => rfl
  | d + 1 => by
    have e : rsum L r (L.length + (d + 1)) = rsum L r (L.length + d) + gat L r (L.length + d) := rfl
    rw [e, rsum_n h r d, h.zero (Or.inr (by omega))]
    omega
theorem csum_n {L : List (List Int)} (h : IsT L) (c : Nat) : ∀ d, csum L c (L.length + d) = csum L c L.length
  | 0 => rfl
  | d + 1 => by
    have e : csum L c (L.length + (d + 1)) = csum L c (L.length + d) + gat L (L.length + d) c := rfl
    rw [e, csum_n h c d, h.zero (Or.inl (by omega))]
    omega
theorem rsum_all {L : List (List Int)} (h : IsT L) (r : Nat) : rsum L r L.length = rsum L r 10 := by
  have := rsum_n h r (10 - L.length)
  have hl := h.le
  rw [show L.length + (10 - L.length) = 10 by omega] at this
  exact this.symm
theorem csum_all {L : List (List Int)} (h : IsT L) (c : Nat) : csum L c L.length = csum L c 10 := by
  have := csum_n h c (10 - L.length)
  have hl := h.le
  rw [show L.length + (10 - L.length) = 10 by omega] at this
  exact this.symm
/-- So many lines have the first row's sum. -/
def LevAt (L : List (List Int)) (m : Nat) : Prop := ∀ k, k < m → rsum L k 10 = rsum L 0 10 ∧ csum L k 10 = rsum L 0 10
theorem LevAt.more {L : List (List Int)} {m : Nat} (h : LevAt L m) (h1 : rsum L m 10 = rsum L 0 10) (h2 : csum L m 10 = rsum L 0 10) : LevAt L (m + 1) := fun k hk => by
  by_cases e : k < m
  · exact h k e
  · obtain rfl : k = m := by omega
    exact ⟨h1, h2⟩
theorem refLevel_any (A : Option Addr) (c : Nat) (L : List (List Int)) (w : World) (h : IsT L) (ha : RowsAt w A L) :
    Calls Try.prog 28 #[.slice A L.length c] w fun e w' => e = .returned (.tuple #[.int .i64 (lvN L), .bool (isLev L)]) ∧ Below w.heap.size w w' := by
  have HA := Lib.hid ha
  have hle := h.le
  have b0 : Below w.heap.size w w := Below.refl _ _
  have HRS : Hid (∀ r k, rsum L r (k + 1) = rsum L r k + gat L r k) := Lib.hid (fun r k => rfl)
  have HCS : Hid (∀ r k, csum L r (k + 1) = csum L r k + gat L k r) := Lib.hid (fun r k => rfl)
  have HRA := Lib.hid (fun r => rsum_all h r)
  have HCA := Lib.hid (fun r => csum_all h r)
  have HRB := Lib.hid (fun r k hk => rsum_bd h r k hk)
  have HCB := Lib.hid (fun r k hk => csum_bd h r k hk)
  have HGB := Lib.hid (fun r k => h.bd r k)
  have HRW := Lib.hid (fun i (hi : i < L.length) => h.row i hi)
  have HNO := Lib.hid (fun k (hk : k < L.length) h => isLev_no hk h)
  have HYS := Lib.hid (fun h => isLev_yes (L := L) h)
  have HL0 : Hid (LevAt L 0) := Lib.hid (fun k hk => absurd hk (by omega))
  have H00 : Hid (∀ r, rsum L r 0 = 0) := Lib.hid (fun r => rfl)
  have HC0 : Hid (∀ r, csum L r 0 = 0) := Lib.hid (fun r => rfl)
  clear h ha
  go_enter Try.func28, Try.ntmps28
  go_wp2
  go_loopw [4, 5] (fun lv i wr => ∃ (m : Nat) (v : Int), m ≤ L.length ∧ i = .int .i64 m ∧ lv = .int .i64 v ∧ Hid (v = if m = 0 then 0 else rsum L 0 10) ∧ Hid (LevAt L m) ∧ Below w.heap.size w wr) (fun _ i _ => L.length - (intOf i).toNat)
  case atStart => exact ⟨0, 0, by omega, rfl, rfl, Lib.hid (by rw [if_pos rfl]), HL0, b0⟩
  case round =>
    clear b0 HL0
    obtain ⟨m, v, hm, rfl, rfl, HV, HL, b0⟩ := hrel
    by_cases hlt : m < L.length
    · have g1 : decide ((m : Int) < (L.length : Int)) = true := decide_eq_true (by omega)
      go_wp2
      go_loopw [6, 7, 8] (fun rv cv kv wr => ∃ (q : Nat) (x y : Int), q ≤ L.length ∧ kv = .int .i64 q ∧ rv = .int .i64 x ∧ cv = .int .i64 y ∧ Hid (x = rsum L m q) ∧ Hid (y = csum L m q) ∧ Below w.heap.size w wr) (fun _ _ kv _ => L.length - (intOf kv).toNat)
      case atStart => exact ⟨0, 0, 0, by omega, rfl, rfl, rfl, Lib.hid (H00.out _).symm, Lib.hid (HC0.out _).symm, b0⟩
      case round =>
        clear b0
        obtain ⟨q, x, y, hq, rfl, rfl, rfl, HX, HY, b0⟩ := hrel
        have hxb := HRB.out m q (by omega)
        have hyb := HCB.out m q (by omega)
        rw [← HX.out] at hxb
        rw [← HY.out] at hyb
        by_cases hql : q < L.length
        · have g2 : decide ((q : Int) < (L.length : Int)) = true := decide_eq_true (by omega)
          obtain ⟨b, o, hAe, hbb, hcs⟩ := (HA.out.below b0) (by omega)
          subst hAe
          obtain ⟨B1, c1, d1, i1⟩ := hcs m hlt
          obtain ⟨B2, c2, d2, i2⟩ := hcs q hql
          rw [HRW.out m hlt] at d1
          rw [HRW.out q hql] at d2
          obtain ⟨b1, o1, rfl, -, f1⟩ := i1 (by rw [HRW.out m hlt]; omega)
          obtain ⟨b2, o2, rfl, -, f2⟩ := i2 (by rw [HRW.out q hql]; omega)
          have e1 := f1 q (by rw [HRW.out m hlt]; exact hql)
          have e2 := f2 m (by rw [HRW.out q hql]; exact hlt)
          have hg1 := HGB.out m q
          have hg2 := HGB.out q m
          have HS1 := Lib.hid (HRS.out m q)
          have HS2 := Lib.hid (HCS.out m q)
          rw [show geti (getl L m) q = gat L m q from rfl] at e1
          rw [show geti (getl L q) m = gat L q m from rfl] at e2
          clear f1 f2 hcs i1 i2
          generalize gat L m q = s at *
          generalize gat L q m = t at *
          go_wp2
          exact ⟨⟨q + 1, x + s, y + t, by omega, rfl, rfl, rfl, Lib.hid (by rw [HX.out, HS1.out]), Lib.hid (by rw [HY.out, HS2.out]), b0⟩, by simp [intOf]; omega⟩
        · have g2 : decide ((q : Int) < (L.length : Int)) = false := decide_eq_false (by omega)
          have hqe : q = L.length := by omega
          have hx2 : x = rsum L m 10 := by rw [HX.out, hqe, HRA.out]
          have hy2 : y = csum L m 10 := by rw [HY.out, hqe, HCA.out]
          clear hqe HX HY
          have HX := Lib.hid hx2
          have HY := Lib.hid hy2
          clear hx2 hy2
          by_cases hm0 : m = 0
          · subst hm0
            have HRET := Lib.hid (fun (hyx : y ≠ x) => HNO.out 0 hlt (fun h => hyx (by rw [HY.out, HX.out]; exact h.2)))
            have HCON := Lib.hid (fun (hyx : y = x) => HL.out.more rfl (by rw [← HY.out, ← HX.out]; exact hyx))
            by_cases hyx : y = x
            · have HC := Lib.hid (HCON.out hyx)
              have g4 : (y != x) = false := by simp [hyx]
              clear hyx HCON HRET
              go_wp2
              exact ⟨⟨1, x, by omega, rfl, rfl, Lib.hid (by rw [if_neg (by omega)]; exact HX.out), HC, b0⟩, by simp [intOf]; omega⟩
            · have HC := Lib.hid (HRET.out hyx)
              have g4 : (y != x) = true := by simp [hyx]
              clear hyx HCON HRET
              go_wp2
              go_ret2
              exact ⟨by rw [HC.out.1, HC.out.2]; rfl, b0⟩
          · have hv : v = rsum L 0 10 := by rw [HV.out, if_neg hm0]
            have g3 : ((m : Int) == 0) = false := by rw [beq_eq_false_iff_ne]; omega
            have HVV := Lib.hid hv
            have HRET := Lib.hid (fun (hne : ¬ (x = v ∧ y = v)) => HNO.out m hlt (fun h => hne ⟨by rw [HX.out, HVV.out]; exact h.1, by rw [HY.out, HVV.out]; exact h.2⟩))
            have HCON := Lib.hid (fun (h1 : x = v) (h2 : y = v) => HL.out.more (by rw [← HX.out, ← HVV.out]; exact h1) (by rw [← HY.out, ← HVV.out]; exact h2))
            clear hv
            by_cases hxv : x = v
            · have g4 : (x != v) = false := by simp [hxv]
              by_cases hyv : y = v
              · have HC := Lib.hid (HCON.out hxv hyv)
                have g5 : (y != v) = false := by simp [hyv]
                clear hxv hyv HCON HRET
                go_wp2
                exact ⟨⟨m + 1, v, by omega, rfl, rfl, Lib.hid (by rw [if_neg (by omega)]; exact HVV.out), HC, b0⟩, by simp [intOf]; omega⟩
              · have HC := Lib.hid (HRET.out (fun h => hyv h.2))
                have g5 : (y != v) = true := by simp [hyv]
                clear hxv hyv HCON HRET
                go_wp2
                go_ret2
                exact ⟨by rw [HC.out.1, HC.out.2]; rfl, b0⟩
            · have HC := Lib.hid (HRET.out (fun h => hxv h.1))
              have g4 : (x != v) = true := by simp [hxv]
              clear hxv HCON HRET
              go_wp2
              go_ret2
              exact ⟨by rw [HC.out.1, HC.out.2]; rfl, b0⟩
    · obtain rfl : m = L.length := by omega
      have hv : v = rsum L 0 10 := by
        rw [HV.out]
        by_cases h0 : L.length = 0
        · rw [if_pos h0, ← HRA.out, h0]; exact (H00.out 0).symm
        · rw [if_neg h0]
      have hy := HYS.out HL.out
      rw [← hv] at hy
      have HYY := Lib.hid hy
      clear hy hv
      go_wp2
      go_ret2
      exact ⟨by rw [HYY.out.1, HYY.out.2]; rfl, b0⟩
end Go.Proofs.Ytnnaaoobdofooaa
