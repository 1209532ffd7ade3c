/- PostsExpands, walked. -/
import Derived.Test.YtnnaaoobdofooaaSL
import Derived.Test.YtnnaaoobdofooaaSK
import Derived.Test.YtnnaaoobdofooaaRT
namespace Go.Proofs.Ytnnaaoobdofooaa
open Go.RowKit
set_option maxHeartbeats 1000000
set_option maxRecDepth 100000
theorem sumN_mono {g : Nat → Int} {n : Nat} (h : ∀ c, c < n → 0 ≤ g c) : ∀ {d c : Nat}, c + d = n → 0 ≤ sumN g c ∧ sumN g c ≤ sumN g n
  | 0, c, e => by
    subst e
    refine ⟨?_, Int.le_refl _⟩
    have : ∀ k, k ≤ c → 0 ≤ sumN g k := fun k => by
      induction k with
      | zero => intro _; exact Int.le_refl _
      | succ k ih =>
        intro hk
        have h1 := ih (by omega)
        have h2 := h k (by omega)
        show 0 ≤ sumN g k + g k
        omega
    exact this c (Nat.le_refl c)
  | d + 1, c, e => by
    have h1 := sumN_mono h (d := d) (c := c + 1) (by omega)
    have h2 := h c (by omega)
    have e1 : sumN g (c + 1) = sumN g c + g c := rfl
    have h0 : 0 ≤ sumN g c := by
      have : ∀ k, k ≤ c → 0 ≤ sumN g k := fun k => by
        induction k with
        | zero => intro _; exact Int.le_refl _
        | succ k ih =>
          intro hk
          have h1 := ih (by omega)
          have h2 := h k (by omega)
          show 0 ≤ sumN g k + g k
          omega
      exact this c (Nat.le_refl c)
    omega
theorem perm_bd {L : List (List Int)} (h : IsT L) : 0 ≤ perm L ∧ perm L ≤ 12652843234348800 := by
  refine prm_bd h ?_
  have : 2^L.length ≤ 2^10 := Nat.pow_le_pow_right (by omega) h.le
  have h1 := Nat.two_pow_pos L.length
  unfold sAll; omega
abbrev exT (T : List (List Int)) (r c : Nat) : Int := gat T r c * perm (wo T r c)
theorem PostsExpands_any (n0 : Int) (A : Option Addr) (c : Nat) (L : List (List Int)) (row : Int) (w : World) (hx : L.length ≤ c) (hc : c ≤ maxLen) (ha : RowsIn w A L) :
    Calls Try.prog 11 #[.int .i64 n0, .slice A L.length c, .int .i64 row] w fun e w' => e = .returned (.bool true) ∧ Below w.heap.size w w' := by
  have hmm := modI_lt n0 (n := 7) (by omega)
  have HM1 : Hid (∀ W : World, Calls Try.prog 43 #[.int .i64 n0, .int .i64 7] W fun e w' => e = .returned (.int .i64 (modI n0 7)) ∧ W = w') := Lib.hid (fun W => mod_any n0 7 W (by omega) (by omega))
  generalize modI n0 7 = m at *
  obtain ⟨n, hn⟩ : ∃ n, n = m + 1 := ⟨_, rfl⟩
  have hT := tmL_isT L (n := n) (mo := 9) (by omega) (by omega)
  have HTM : Hid (∀ (V : World) (z : Int), z = n → Below w.heap.size w V → Calls Try.prog 44 #[.slice A L.length c, .int .i64 z, .int .i64 9] V fun e w' => ∃ A' c' cs, e = .returned (.slice A' n c') ∧ w'.ownsRow V.heap.size 27 1 (.slice A' n c') n cs ∧ RowsOwn w' V.heap.size cs (tmL L n 9) ∧ Below V.heap.size V w') := Lib.hid (fun V z hz hV => by subst hz; exact tame_any A c L n 9 V (by omega) (by omega) (ha.below hV))
  have hTl : (tmL L n 9).length = n := tmP_len L n 9 n
  generalize tmL L n 9 = T at *
  have HTL := Lib.hid hTl
  have hr := modI_lt row (n := n) (by omega)
  have HM2 : Hid (∀ (W : World) (z : Int), z = n → Calls Try.prog 43 #[.int .i64 row, .int .i64 z] W fun e w' => e = .returned (.int .i64 (modI row n)) ∧ W = w') := Lib.hid (fun W z hz => by subst hz; exact mod_any row n W (by omega) (by omega))
  generalize modI row n = r at *
  have hpb := perm_bd hT
  have HPE : Hid (perm T = sumN (exT T r) n) := Lib.hid (by have := perm_row hT (r := r) (by omega); rwa [hTl] at this)
  have HEB : Hid (∀ k, k < n → 0 ≤ gat T r k ∧ gat T r k ≤ 9 ∧ 0 ≤ perm (wo T r k) ∧ perm (wo T r k) ≤ 12652843234348800 ∧ 0 ≤ exT T r k) := Lib.hid (fun k hk => by
    have h1 := hT.bd r k
    have h2 := perm_bd (wo_isT hT (r := r) (c := k) (by omega) (by omega))
    exact ⟨h1.1, h1.2, h2.1, h2.2, Int.mul_nonneg h1.1 h2.1⟩)
  have HSM : Hid (∀ k, k ≤ n → 0 ≤ sumN (exT T r) k ∧ sumN (exT T r) k ≤ 12652843234348800) := Lib.hid (fun k hk => by
    have h1 := sumN_mono (g := exT T r) (n := n) (fun c hc => (HEB.out c hc).2.2.2.2) (d := n - k) (c := k) (by omega)
    rw [← HPE.out] at h1
    omega)
  have HSS : Hid (∀ k, sumN (exT T r) (k + 1) = sumN (exT T r) k + gat T r k * perm (wo T r k)) := Lib.hid (fun k => rfl)
  have HRW := Lib.hid (fun i (hi : i < n) => by have := hT.row i (by omega); rwa [hTl] at this)
  have b0 := Below.refl w.heap.size w
  have HN := Lib.hid hn
  have hn7 : 1 ≤ n ∧ n ≤ 7 := by omega
  clear hn
  clear ha hx hc
  go_enter Try.func11, Try.ntmps11
  go_wp2_with (go_at_call 43; refine (HM1.out _).mono ?_; rintro e w1 ⟨rfl, rfl⟩)
  refine (HTM.out _ _ (by have := HN.out; omega) b0).mono ?_
  rintro e w2 ⟨A2, c2, cs2, rfl, o2, R2, b2⟩
  have C2 := Lib.hid (by have := rows_c R2 o2; exact this)
  have z2 := Below.refl w2.heap.size w2
  have HPM := Lib.hid (fun (V : World) hV => by have := Permanent_yes A2 c2 T V hT (C2.out.at.below hV); rw [hTl] at this; exact this)
  have HWO := Lib.hid (fun (V : World) (k : Nat) (hk : k < n) hV => by have := Without_yes A2 c2 T r k V hT (by omega) (by omega) (C2.out.at.below hV); rw [hTl] at this; exact this)
  have HWP : Hid (∀ (V : World) (k : Nat) (A' : Option Addr) (c' : Nat), k < n → RowsAt V A' (wo T r k) → Calls Try.prog 18 #[.slice A' (wo T r k).length c'] V fun e w' => e = .returned (.tuple #[.int .i64 (perm (wo T r k)), .int .i64 0]) ∧ Below V.heap.size V w') := Lib.hid (fun V k A' c' hk hA => Permanent_yes A' c' (wo T r k) V (wo_isT hT (by omega) (by omega)) hA)
  clear HTM R2 o2 hT hTl HM1
  go_wp2_with (go_at_call 43; fail)
  refine (HM2.out _ _ (by have := HN.out; omega)).mono ?_
  rintro e w3 ⟨rfl, rfl⟩
  go_wp2_with (go_at_call 18; fail)
  refine (HPM.out _ z2).mono ?_
  rintro e w4 ⟨rfl, b4⟩
  clear HM2 HPM
  have HS0 : Hid (sumN (exT T r) 0 = 0) := Lib.hid rfl
  go_wp2
  go_loopw [11, 12] (fun sv cv wr => ∃ k : Nat, k ≤ n ∧ cv = .int .i64 k ∧ sv = .int .i64 (sumN (exT T r) k) ∧ Below w2.heap.size w2 wr) (fun _ cv _ => n - (intOf cv).toNat)
  case atStart => exact ⟨0, by omega, rfl, by rw [HS0.out], b4⟩
  case round =>
    clear b4 HS0
    obtain ⟨k, hk, rfl, rfl, b4⟩ := hrel
    by_cases hlt : k < n
    · have g1 : decide ((k : Int) < 1 + (m : Int)) = true := decide_eq_true (by have := HN.out; omega)
      have HW1 := Lib.hid (HWO.out wr k hlt b4)
      have HP1 := Lib.hid (fun (V : World) A' c' (h : RowsAt V A' (wo T r k)) => HWP.out V k A' c' hlt h)
      obtain ⟨bA, oA, hAe, hbA, hcs⟩ := C2.out (by have := HTL.out; omega)
      obtain ⟨B, cB, e1, -, i1⟩ := hcs r (by have := HTL.out; omega)
      have hebk := HEB.out k hlt
      have hs0 := HSM.out k hk
      have hs1 := HSM.out (k + 1) (by omega)
      have HS1 := Lib.hid (HSS.out k)
      have hrl := HRW.out r hr
      rw [hrl] at e1
      obtain ⟨bB, oB, rfl, hbB, f1⟩ := i1 (by rw [hrl]; omega)
      have e2 := f1 k (by rw [hrl]; exact hlt)
      rw [show geti (getl T r) k = gat T r k from rfl] at e2
      obtain ⟨hy0, hy9, hq0, hq9, hp0⟩ := hebk
      rw [HS1.out] at hs1
      subst hAe
      clear hcs f1 i1 hrl
      rw [show exT T r k = gat T r k * perm (wo T r k) from rfl] at hp0
      generalize wo T r k = Z at *
      generalize perm Z = q at *
      generalize gat T r k = y at *
      have HSE : Hid (∃ v, v = sumN (exT T r) k) := Lib.hid ⟨_, rfl⟩
      obtain ⟨v, hv⟩ := HSE.out
      rw [← hv] at hs0 hs1
      have hpy : y * q ≤ 12652843234348800 := by omega
      rw [← hv] at HS1 ⊢
      have HS2 := Lib.hid HS1.out
      clear hv HSE HS1
      go_wp2_with (go_at_call 26; fail)
      refine HW1.out.mono ?_
      rintro e w3 ⟨A3, c3, cs3, rfl, o3, R3, b3⟩
      have C3 := Lib.hid (rows_c R3 o3).at
      replace b3 := b4.trans (b3.mono b4.size)
      clear HW1 o3 R3
      go_wp2_with (go_at_call 18; fail)
      refine (HP1.out w3 A3 c3 C3.out).mono ?_
      rintro e w5 ⟨rfl, b5⟩
      replace b5 := b3.trans (b5.mono b3.size)
      replace e1 := (b5.cell (p := ⟨bA, oA + r, none⟩) hbA).trans e1
      replace e2 := (b5.cell (p := ⟨bB, oB + k, none⟩) hbB).trans e2
      clear HP1 C3 b3 b4
      go_wp2
      exact ⟨⟨k + 1, by omega, rfl, by rw [HS2.out], b5⟩, by simp [intOf]; omega⟩
    · obtain rfl : k = n := by omega
      have g1 : decide ((k : Int) < 1 + (m : Int)) = false := decide_eq_false (by have := HN.out; omega)
      have HE := Lib.hid HPE.out
      rw [← HE.out]
      have b5 := b2.trans (b4.mono b2.size)
      generalize perm T = p at *
      go_wp2_with (go_at_call 21; refine (awake_any _).mono ?_; rintro e w6 ⟨rfl, b6⟩; replace b5 := b5.trans (b6.mono b5.size); clear b6)
      go_ret
      exact ⟨rfl, b5⟩
end Go.Proofs.Ytnnaaoobdofooaa
