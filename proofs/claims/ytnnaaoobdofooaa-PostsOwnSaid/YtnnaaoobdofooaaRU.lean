/- The reference's table without a row and a column. -/
import Derived.Test.YtnnaaoobdofooaaRS
namespace Go.Proofs.Ytnnaaoobdofooaa
open Go.RowKit
set_option maxHeartbeats 1000000
set_option maxRecDepth 100000
/-- Rows, with what each one may hold. -/
def RowsC (w : World) (A : Option Addr) (L : List (List Int)) : Prop :=
  0 < L.length → ∃ b o, A = some ⟨b, o, none⟩ ∧ b < w.heap.size ∧ ∀ i, i < L.length → ∃ B c, w.cell? ⟨b, o + i, none⟩ = some (.slice B (getl L i).length c) ∧ (getl L i).length ≤ c ∧ IntsAt w B (getl L i)
theorem RowsC.below {w w' : World} {A : Option Addr} {L : List (List Int)} (h : RowsC w A L) (hg : Below w.heap.size w w') : RowsC w' A L := fun hp => by
  obtain ⟨b, o, e, hb, hc⟩ := h hp
  refine ⟨b, o, e, Nat.lt_of_lt_of_le hb hg.size, fun i hi => ?_⟩
  obtain ⟨B, c, h1, h3, h2⟩ := hc i hi
  exact ⟨B, c, (hg.cell (p := ⟨b, _, none⟩) hb).trans h1, h3, h2.below hg⟩
theorem RowsC.at {w : World} {A : Option Addr} {L : List (List Int)} (h : RowsC w A L) : RowsAt w A L := fun hp => by
  obtain ⟨b, o, e, hb, hc⟩ := h hp
  exact ⟨b, o, e, hb, fun i hi => by
    obtain ⟨B, c, h1, _, h2⟩ := hc i hi
    exact ⟨B, c, h1, h2⟩⟩
theorem rows_c {w : World} {B C c n : Nat} {A : Option Addr} {cs : List Value} {L : List (List Int)} (h : RowsOwn w B cs L) (hu : w.ownsRow C 27 1 (.slice A n c) n cs) : RowsC w A L := fun hp => by
  have hn : cs.length = n := by have := hu.1; omega
  rcases hu.2 with ⟨h1, h0⟩ | ⟨g, cap, cur, h1, hb, hg, hc, _, hs, ht⟩
  · have := h.1; omega
  · injection h1 with h1 h2 h3
    subst h1 h3
    refine ⟨g, 0, rfl, (Array.getElem?_eq_some_iff.1 hg).1, fun j hj => ?_⟩
    obtain ⟨v, h4, h5⟩ := h.2 j hj
    obtain ⟨A', c', rfl, -, h7, h6⟩ := own_intsI h5
    refine ⟨A', c', ?_, h7, h6⟩
    have := hu.cells (g := g) rfl j _ h4
    rw [WideShapes.add_plain] at this
    exact this
theorem IntsAt.part {w : World} {b o : Nat} {xs : List Int} (h : IntsAt w (some ⟨b, o, none⟩) xs) (l : Nat) : IntsAt w (some ⟨b, o + l, none⟩) (xs.drop l) := fun hp => by
  rw [List.length_drop] at hp
  obtain ⟨b', o', e, hb, hc⟩ := h (by omega)
  injection e with e
  injection e with e1 e2
  subst e1 e2
  refine ⟨b, o + l, rfl, hb, fun i hi => ?_⟩
  rw [List.length_drop] at hi
  rw [Nat.add_assoc, hc _ (by omega)]
  unfold geti; rw [List.getD_eq_getElem?_getD, List.getD_eq_getElem?_getD, List.getElem?_drop]
theorem elem27 : Try.prog.elem 27 = 3 := by kernel_rfl
theorem slice27_l {b o n cB l : Nat} (h1 : l ≤ n) (h2 : n ≤ cB) : ∃ o2, (l < n → o2 = o + l) ∧ ∀ w : World, (Instr.sliceAt 27 (.slice (some ⟨b, o, none⟩) n cB) (some (.int .i64 l)) none none).run Try.prog w = .ok (.slice (some ⟨b, o2, none⟩) (n - l) (cB - l)) w := by
  obtain ⟨j0, ji, jz0, jz1, jz2⟩ := info_parts info3
  by_cases h3 : l < cB
  · refine ⟨o + l, fun _ => rfl, fun w => ?_⟩
    rw [run_sliceAt_slice _ _ _ _ _ _ (by rw [elem27]; exact Try.underlying27), run_slice_l (ht := by rw [elem27]; exact Try.underlying27) (h0 := by omega) (h1 := by omega), elem27]
    simp [run_sizeOf, ji, sliced, Addr.add]
    rw [if_neg (by omega), Try.cells3, Nat.mul_one]
    split
    · rename_i h; simp [h]
    · rfl
  · obtain rfl : l = cB := by omega
    refine ⟨o, fun h => absurd h (by omega), fun w => ?_⟩
    rw [run_sliceAt_slice _ _ _ _ _ _ (by rw [elem27]; exact Try.underlying27), run_slice_l (ht := by rw [elem27]; exact Try.underlying27) (h0 := by omega) (h1 := by omega), elem27]
    simp [run_sizeOf, ji, sliced]
theorem refWithout_any (A : Option Addr) (cc : Nat) (L : List (List Int)) (r c : Nat) (w : World) (h : IsT L) (hr : r < L.length) (hc : c < L.length) (ha : RowsC w A L) :
    Calls Try.prog 30 #[.slice A L.length cc, .int .i64 r, .int .i64 c] w fun e w' => ∃ A c' cs, e = .returned (.slice A (wo L r c).length c') ∧ w'.ownsRow w.heap.size 27 1 (.slice A (wo L r c).length c') (wo L r c).length cs ∧ RowsOwn w' w.heap.size cs (wo L r c) ∧ Below w.heap.size w w' := by
  obtain ⟨k0, ki, kz0, kz1, kz2⟩ := info_parts info27
  obtain ⟨i0, hi, hz0, hz1, hz2⟩ := info_parts info3
  have hle := h.le
  have b0 : Below w.heap.size w w := Below.refl _ _
  have o0 : w.ownsRow w.heap.size 27 1 (.slice none 0 0) 0 [] := ⟨rfl, .inl ⟨rfl, rfl⟩⟩
  have R0 : Hid (RowsOwn w w.heap.size [] (woL L r c 0)) := Lib.hid ⟨rfl, fun j hj => absurd hj (by simp [woL])⟩
  have HST := Lib.hid (fun k (hk : k ≠ r) => woL_step L c hk)
  have HSK := Lib.hid (woL_skip L r c)
  have HWL := Lib.hid (woL_len L r c)
  have HA := Lib.hid ha
  have HRW := Lib.hid (fun i (hi : i < L.length) => h.row i hi)
  clear h ha
  go_enter Try.func30, Try.ntmps30
  go_wp2
  go_loopw [7, 8] (fun v i wr => ∃ (k m : Nat) (cs : List Value), k ≤ L.length ∧ i = .int .i64 k ∧ wr.ownsRow w.heap.size 27 1 v m cs ∧ Hid (RowsOwn wr w.heap.size cs (woL L r c k)) ∧ Below w.heap.size w wr) (fun _ i _ => L.length - (intOf i).toNat)
  case atStart => exact ⟨0, 0, [], by omega, rfl, o0, R0, b0⟩
  case round =>
    clear o0 R0 b0
    obtain ⟨k, m, cs, hk, rfl, o0, HR, b0⟩ := hrel
    have hm : m = (woL L r c k).length := by rw [← HR.out.1, o0.1, Nat.mul_one]
    subst hm
    have hml := HWL.out k
    obtain ⟨A2, c2, rfl⟩ := own_head o0
    by_cases hlt : k < L.length
    · have g1 : decide ((k : Int) < (L.length : Int)) = true := decide_eq_true (by omega)
      by_cases hkr : k = r
      · have g2 : ((k : Int) == (r : Int)) = true := by simp [hkr]
        have HKR := Lib.hid hkr
        clear hkr
        go_wp2
        go_roundw
        case rel =>
          obtain rfl := HKR.out
          exact ⟨k + 1, _, cs, by omega, by go_num, o0, Lib.hid (by rw [HSK.out]; exact HR.out), b0⟩
        case measure => simp [intOf]; omega
      · have g2 : ((k : Int) == (r : Int)) = false := by rw [beq_eq_false_iff_ne]; omega
        have HS1 := Lib.hid (HST.out k hkr)
        obtain ⟨bA, oA, hAe, hbA, hcs⟩ := (HA.out.below b0) (by omega)
        subst hAe
        obtain ⟨B, cB, d1, hcB, i1⟩ := hcs k hlt
        rw [HRW.out k hlt] at d1 hcB
        obtain ⟨b1, o1, rfl, hb1, f1⟩ := i1 (by rw [HRW.out k hlt]; omega)
        have hn1 := i1.news c
        have hn2 := iv_one ((getl L k).take c)
        have hl1 : ((getl L k).take c).length = c := by rw [List.length_take, HRW.out k hlt]; omega
        have hl2 : ((getl L k).drop (c + 1)).length = L.length - (c + 1) := by rw [List.length_drop, HRW.out k hlt]
        obtain ⟨o2, ho2, hsl⟩ := slice27_l (b := b1) (o := o1) (n := L.length) (cB := cB) (l := c + 1) (by omega) (by omega)
        have hi2 : IntsAt wr (some ⟨b1, o2, none⟩) ((getl L k).drop (c + 1)) := fun hp => by
          rw [ho2 (by rw [hl2] at hp; omega)]
          exact i1.part (c + 1) hp
        rw [show (((c + 1 : Nat)) : Int) = (c : Int) + 1 from rfl] at hsl
        obtain ⟨cp, hcp⟩ : ∃ cp, cp = cB - (c + 1) := ⟨_, rfl⟩
        rw [← hcp] at hsl
        have hX : (getl L k).take c ++ (getl L k).drop (c + 1) = woR (getl L k) c := rfl
        rw [← hX] at HS1
        generalize (getl L k).take c = X at *
        generalize (getl L k).drop (c + 1) = Y at *
        have HL1 := Lib.hid hl1
        have HL2 := Lib.hid hl2
        have HI2 := Lib.hid hi2
        have HN1 := Lib.hid hn1
        have HN2 := Lib.hid hn2
        have hb0 := b0.size
        have HO := Lib.hid o0
        obtain ⟨Z, hZ⟩ : ∃ Z, Z = X ++ Y := ⟨_, rfl⟩
        rw [← hZ] at HS1
        have HO3 : Hid (∀ (V : World) v, V.ownsRow wr.heap.size 3 1 v (c + (L.length - (c + 1))) (iv X ++ iv Y) → V.ownsRow wr.heap.size 3 1 v Z.length (iv Z)) := Lib.hid (fun V v h => by rw [hZ, List.length_append, hl1, hl2]; unfold iv at h ⊢; rw [List.map_append]; exact h)
        clear hZ
        clear hcp ho2 hkr hcs f1 hX hl1 hl2 hi2 i1 hn1 hn2
        go_wp2_with (first
          | (at_builtin; refine wpList_append_own_at _ rfl (.tmp 19) (.tmp 25) 27 rfl wr.heap.size 3 i0 _ 1 8 Try.underlying27 hi hz0 hz1 hz2 rfl (by omega) (.slice none 0 0) 0 [] rfl ⟨by simp, .inl ⟨rfl, rfl⟩⟩ ⟨b1, o1, none⟩ c cB (iv X) rfl (by rw [iv_len, HL1.out]; try omega) HN1.out HN2.out (by unfold maxLen; omega) (by omega) (Nat.le_refl _) ?_; intro v1 w1 hown hg _ _; have b51 : Below wr.heap.size wr w1 := (Below.refl _ _).grown hg (Nat.le_refl _) (by simp [Value.ownBlock]); have d2 := (b51.cell (p := ⟨bA, oA + k, none⟩) hbA).trans d1; have O1 : Hid (w1.ownsRow wr.heap.size 3 1 v1 c (iv X)) := Lib.hid (by simpa using hown); clear hown hg d1)
          | (at_builtin; refine wpList_append_own_at _ rfl (.tmp 28) (.tmp 35) 27 rfl wr.heap.size 3 i0 _ 1 8 Try.underlying27 hi hz0 hz1 hz2 rfl (by omega) _ c (iv X) rfl O1.out ⟨b1, o2, none⟩ (L.length - (c + 1)) cp (iv Y) rfl (by rw [iv_len, HL2.out]; try omega) (news_ints (HI2.out.below b51)) (iv_one _) (by unfold maxLen; omega) (by omega) b51.size ?_; intro v2 w2 hown2 hg2 _ _; have b52 : Below wr.heap.size wr w2 := b51.trans ((Below.refl wr.heap.size _).grown hg2 b51.size (fun g hg => (own_ge O1.out hg).1)); have o3 : w2.ownsRow wr.heap.size 3 1 v2 Z.length (iv Z) := HO3.out _ _ hown2; obtain ⟨A8, c8, rfl, -, -, -⟩ := own_intsI o3; have O3 := Lib.hid o3; have O4 := Lib.hid (HO.out.kept' b52); have hb2 := b52.size; clear hown2 hg2 d2 o3 O1 b51)
          | (at_builtin; refine wpList_append_own_at _ rfl (.tmp 27) (.tmp 37) 22 rfl w.heap.size 27 k0 (.slice none 0 0) 1 24 Try.underlying22 ki kz0 kz1 kz2 rfl (by decide) _ _ _ rfl (O4.out.alloc _) ⟨w2.heap.size, 0, none⟩ 1 1 [.slice A8 Z.length c8] rfl rfl (news_one (row_new rfl)) (by simp [Value.oneCell']) (by unfold maxLen; omega) (by omega) (by simp; omega) ?_; intro v9 w9 o9 hg9 _ _))
        have b9 := b0.trans ((b52.mono hb0).trans (app1' O4.out (by omega) hg9))
        have R9 := Lib.hid ((((HR.out.below b52).add (r := Z) (own_mono O3.out hb0)).below ((Below.refl _ _).alloc (Nat.le_refl _) _)).grown (O4.out.alloc _) (by decide) hg9)
        go_roundw
        case rel =>
          exact ⟨k + 1, _, _, by omega, by go_num, o9, Lib.hid (by rw [HS1.out]; exact R9.out), b9⟩
        case measure => simp [intOf]; omega
    · obtain rfl : k = L.length := by omega
      have g1 : decide ((L.length : Int) < (L.length : Int)) = false := decide_eq_false (by omega)
      go_wp2
      go_ret
      exact ⟨_, _, _, rfl, o0, HR.out, b0⟩
end Go.Proofs.Ytnnaaoobdofooaa
