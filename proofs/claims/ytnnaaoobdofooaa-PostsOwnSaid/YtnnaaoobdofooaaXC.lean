/- Tables turned, the weight taken (merged) -/
import Derived.Test.YtnnaaoobdofooaaTM
import Derived.Test.YtnnaaoobdofooaaSL
import Derived.Test.YtnnaaoobdofooaaST
import Derived.Test.YtnnaaoobdofooaaXB
/- A table turned. -/
namespace Go.Proofs.Ytnnaaoobdofooaa
open Go.RowKit
set_option maxHeartbeats 1000000
set_option maxRecDepth 100000
def trC (T : List (List Int)) (i k : Nat) : List Int := (List.range k).map fun j => gat T j i
def trP (T : List (List Int)) (m : Nat) : List (List Int) := (List.range m).map fun i => trC T i T.length
abbrev trL (T : List (List Int)) : List (List Int) := trP T T.length
theorem trC_len (T : List (List Int)) (i k : Nat) : (trC T i k).length = k := by simp [trC]
theorem trC_snoc (T : List (List Int)) (i k : Nat) : trC T i (k + 1) = trC T i k ++ [gat T k i] := by unfold trC; rw [List.range_succ, List.map_append]; rfl
theorem trP_len (T : List (List Int)) (m : Nat) : (trP T m).length = m := by simp [trP]
theorem trP_snoc (T : List (List Int)) (m : Nat) : trP T (m + 1) = trP T m ++ [trC T m T.length] := by unfold trP; rw [List.range_succ, List.map_append]; rfl
theorem trP_at {T : List (List Int)} {m i : Nat} (h : i < m) : getl (trP T m) i = trC T i T.length := by
  unfold getl trP
  rw [List.getD_eq_getElem?_getD, List.getElem?_map, List.getElem?_range h]; rfl
theorem trL_gat {T : List (List Int)} {i k : Nat} (hi : i < T.length) (hk : k < T.length) : gat (trL T) i k = gat T k i := by
  unfold gat
  rw [trP_at hi]
  exact geti_map hk
theorem trL_isT {T : List (List Int)} (h : IsT T) : IsT (trL T) := okT_iff.1 (okT_all (by rw [trP_len]; exact h.le) (fun i hi => by
  rw [trP_len] at hi ⊢
  refine ⟨by rw [trP_at hi, trC_len], fun k hk => ?_⟩
  rw [trL_gat hi hk]
  exact ⟨(h.bd k i).1, (h.bd k i).2⟩))
theorem turned_any (A : Option Addr) (c : Nat) (T : List (List Int)) (w : World) (h : IsT T) (ha : RowsAt w A T) :
    Calls Try.prog 45 #[.slice A T.length c] w fun e w' => ∃ A' c' cs, e = .returned (.slice A' T.length c') ∧ w'.ownsRow w.heap.size 27 1 (.slice A' T.length c') T.length cs ∧ RowsOwn w' w.heap.size cs (trL T) ∧ Below w.heap.size w w' := by
  obtain ⟨k0, ki, kz0, kz1, kz2⟩ := info_parts info27
  obtain ⟨j0, ji, jz0, jz1, jz2⟩ := info_parts info3
  have HA := Lib.hid ha
  have hle := h.le
  have HRW := Lib.hid (fun i (hi : i < T.length) => h.row i hi)
  have o0 : w.ownsRow w.heap.size 27 1 (.slice none 0 0) 0 [] := ⟨rfl, .inl ⟨rfl, rfl⟩⟩
  have R0 : Hid (RowsOwn w w.heap.size [] (trP T 0)) := Lib.hid ⟨rfl, fun j hj => absurd hj (by simp [trP])⟩
  have b0 := Below.refl w.heap.size w
  have HSN := Lib.hid (fun m => trP_snoc T m)
  have HCS := Lib.hid (fun i k => trC_snoc T i k)
  have HCL := Lib.hid (fun i k => trC_len T i k)
  have HC0 : Hid (∀ i, trC T i 0 = []) := Lib.hid (fun i => rfl)
  obtain ⟨n, hn⟩ : ∃ n, T.length = n := ⟨_, rfl⟩
  rw [hn] at hle HRW HSN ⊢
  have HN := Lib.hid hn
  clear ha h hn
  go_enter Try.func45, Try.ntmps45
  go_wp2
  go_loopw [3, 4] (fun v i wr => ∃ (k : Nat) (cs : List Value), k ≤ n ∧ i = .int .i64 k ∧ wr.ownsRow w.heap.size 27 1 v k cs ∧ Hid (RowsOwn wr w.heap.size cs (trP T k)) ∧ Below w.heap.size w wr) (fun _ i _ => n - (intOf i).toNat)
  case atStart => exact ⟨0, [], by omega, rfl, o0, R0, b0⟩
  case round =>
    clear o0 R0 b0
    obtain ⟨i, cs, hi, rfl, o0, HR, b0⟩ := hrel
    obtain ⟨A2, c2, rfl⟩ := own_head o0
    by_cases hlt : i < n
    · have g1 : decide ((i : Int) < (n : Int)) = true := decide_eq_true (by omega)
      obtain ⟨W, hW⟩ : ∃ W, W = wr := ⟨_, rfl⟩
      subst hW
      have HO := Lib.hid o0
      have hbs := b0.size
      have z0 := Below.refl W.heap.size W
      have n0 : W.ownsRow W.heap.size 3 1 (.slice none 0 0) 0 (iv (trC T i 0)) := ⟨by rw [HC0.out]; rfl, .inl ⟨rfl, rfl⟩⟩
      clear o0
      go_wp2
      go_loopw [5, 6] (fun v kv wr2 => ∃ k : Nat, k ≤ n ∧ kv = .int .i64 k ∧ wr2.ownsRow W.heap.size 3 1 v k (iv (trC T i k)) ∧ Below W.heap.size W wr2) (fun _ kv _ => n - (intOf kv).toNat)
      case atStart => exact ⟨0, by omega, rfl, n0, z0⟩
      case round =>
        clear n0 z0
        obtain ⟨k, hk, rfl, n0, z0⟩ := hrel
        obtain ⟨A3, c3, rfl⟩ := own_head n0
        by_cases hkn : k < n
        · have g2 : decide ((k : Int) < (n : Int)) = true := decide_eq_true (by omega)
          obtain ⟨bA, oA, hAe, hbA, hcs⟩ := ((HA.out.below b0).below z0) (by have := HN.out; omega)
          subst hAe
          obtain ⟨B, cB, e1, i1⟩ := hcs k (by have := HN.out; omega)
          have hrl := HRW.out k hkn
          rw [hrl] at e1
          obtain ⟨bB, oB, rfl, -, f1⟩ := i1 (by rw [hrl]; omega)
          have e2 := f1 i (by rw [hrl]; exact hlt)
          rw [show geti (getl T k) i = gat T k i from rfl] at e2
          have HS1 := Lib.hid (HCS.out i k)
          have HNO := Lib.hid n0
          have hzs := z0.size
          clear hcs i1 f1 hrl n0
          generalize trC T i k = X at *
          generalize gat T k i = x at *
          have hnr : Row (wr.alloc (.cells #[.int .i64 x] 3)) wr.heap.size 3 [.int .i64 x] := row_new rfl
          go_wp2_with (at_builtin; refine wpList_append_own_at _ rfl _ _ 27 rfl W.heap.size 3 j0 (.int .i64 0) 1 8 Try.underlying27 ji jz0 jz1 jz2 rfl (by decide) _ _ _ rfl (HNO.out.alloc _) ⟨wr.heap.size, 0, none⟩ 1 1 [.int .i64 x] rfl rfl (news_one hnr) (by simp [Value.oneCell']) (by unfold maxLen; omega) (by omega) (by simp; omega) ?_; intro v2 w2 o2 hg2 _ _; have b4 := z0.trans (app1' HNO.out hzs hg2))
          go_roundw
          case rel => exact ⟨k + 1, by omega, by go_num, by rw [HS1.out, iv_snoc]; exact o2, b4⟩
          case measure => simp [intOf]; omega
        · obtain rfl : k = n := by omega
          have g2 : decide ((k : Int) < (k : Int)) = false := decide_eq_false (by omega)
          have hcl := HCL.out i k
          have HN2 := Lib.hid n0
          have OO := Lib.hid (HO.out.kept' z0)
          have b6 := b0.trans (z0.mono hbs)
          have hbs6 := b6.size
          have HS2 := Lib.hid (HSN.out i)
          have RX := Lib.hid ((HR.out.below z0).add (r := trC T i k) (by rw [hcl]; exact own_mono n0 hbs))
          have hnr : Row (wr.alloc (.cells #[.slice A3 k c3] 27)) wr.heap.size 27 [.slice A3 k c3] := row_new rfl
          have HN1 := Lib.hid HN.out
          clear n0 HO HR hcl
          go_wp2_with (at_builtin; refine wpList_append_own_at _ rfl _ _ 22 rfl w.heap.size 27 k0 (.slice none 0 0) 1 24 Try.underlying22 ki kz0 kz1 kz2 rfl (by decide) _ _ _ rfl (OO.out.alloc _) ⟨wr.heap.size, 0, none⟩ 1 1 [.slice A3 k c3] rfl rfl (news_one hnr) (by simp [Value.oneCell']) (by unfold maxLen; omega) (by omega) (by simp; omega) ?_; intro v8 w8 o8 hg8 _ _)
          have b8 := b6.trans (app1' OO.out b6.size hg8)
          go_roundw
          case rel =>
            refine ⟨i + 1, cs ++ [.slice A3 k c3], by omega, by go_num, o8, Lib.hid ?_, b8⟩
            rw [HS2.out]
            exact (RX.out.below ((Below.refl _ _).alloc (Nat.le_refl _) _)).grown (OO.out.alloc _) (by decide) hg8
          case measure => simp [intOf]; omega
    · obtain rfl : i = n := by omega
      have g1 : decide ((i : Int) < (i : Int)) = false := decide_eq_false (by omega)
      go_wp2
      go_ret
      exact ⟨_, _, _, rfl, o0, by rw [show trL T = trP T T.length from rfl, HN.out]; exact HR.out, b0⟩
end Go.Proofs.Ytnnaaoobdofooaa
/- Permanents of turned tables, of tables with rows exchanged, and of sums of rows: mathematics. -/
namespace Go.Proofs.Ytnnaaoobdofooaa
open Go.RowKit
set_option maxHeartbeats 1000000
set_option maxRecDepth 100000
theorem sumN_head (g : Nat → Int) : ∀ k, sumN g (k + 1) = g 0 + sumN (fun i => g (i + 1)) k
  | 0 => by show (0 : Int) + g 0 = g 0 + 0; omega
  | k + 1 => by
    show sumN g (k + 1) + g (k + 1) = g 0 + (sumN (fun i => g (i + 1)) k + g (k + 1))
    rw [sumN_head g k]; omega
theorem one_bit {S c : Nat} (hS : S < 65536) (hc : c < 16) (hb : S.testBit c = true) (hp : pc 16 S = 1) (a : Nat) (ha : a ≠ c) : S.testBit a = false := by
  cases h : S.testBit a
  · rfl
  · have ha16 : a < 16 := by
      apply Classical.byContradiction
      intro hno
      have : S.testBit a = false := Nat.testBit_lt_two_pow (Nat.lt_of_lt_of_le hS (by have := Nat.pow_le_pow_right (n := 2) (by omega) (show 16 ≤ a by omega); omega))
      rw [h] at this; cases this
    have h1 := pc_without hS hc hb
    have h2 : (sWithout S c).testBit a = true := by rw [without_bit S c a hS hc, h, decide_eq_false (Ne.symm ha)]; rfl
    have h3 := pc_without (without_lt hS) ha16 h2
    omega
/-- Expanding along a column. -/
theorem pmF_colx : ∀ (m : Nat) (F : Nat → Nat → Int) (S c : Nat), S < 65536 → c < 10 → S.testBit c = true → pc 16 S = m + 1 →
    pmF (m + 1) F S = sumN (fun r => F r c * pmF m (fun i => F (skip r i)) (sWithout S c)) (m + 1)
  | 0, F, S, c, hS, hc, hb, hp => by
    show sumN (fun a => if S.testBit a = true then F 0 a * 1 else 0) 10 = 0 + F 0 c * 1
    have := sumN_upd (g := fun _ => 0) (h := fun a => if S.testBit a = true then F 0 a * 1 else 0) (c := c) (d := F 0 c * 1) (by rw [if_pos hb]; omega) (fun j hj => by
      rw [one_bit hS (by omega) hb hp j hj]; rfl) (n := 10) hc
    rw [this, sumN_zero]
  | m + 1, F, S, c, hS, hc, hb, hp => by
    let P : Nat → Nat → Int := fun r a => pmF m (fun i => F (skip r i + 1)) (sWithout (sWithout S c) a)
    let A' : Nat → Int := fun a => if (sWithout S c).testBit a = true then F 0 a * sumN (fun r => F (r + 1) c * P r a) (m + 1) else 0
    let B0 : Int := F 0 c * pmF (m + 1) (fun i => F (i + 1)) (sWithout S c)
    have hL : pmF (m + 1 + 1) F S = sumN A' 10 + B0 := by
      show sumN (fun a => if S.testBit a = true then F 0 a * pmF (m + 1) (fun i => F (i + 1)) (sWithout S a) else 0) 10 = _
      refine sumN_upd (g := A') (c := c) (d := B0) ?_ (fun j hj => ?_) hc
      · rw [if_pos hb]
        show B0 = (if (sWithout S c).testBit c = true then _ else 0) + B0
        rw [if_neg (by rw [without_bit S c c hS (by omega)]; simp)]; omega
      · show _ = if (sWithout S c).testBit j = true then _ else 0
        by_cases hj16 : j < 16
        · rw [without_bit S c j hS (by omega), decide_eq_false (Ne.symm hj)]
          cases hbj : S.testBit j
          · simp
          · simp only [if_true, Bool.not_false, Bool.and_true]
            congr 1
            have hpj := pc_without hS hj16 hbj
            rw [pmF_colx m (fun i => F (i + 1)) (sWithout S j) c (without_lt hS) hc (by rw [without_bit S j c hS hj16, hb, decide_eq_false hj]; rfl) (by omega)]
            refine sumN_congr (fun r _ => ?_)
            show F (r + 1) c * pmF m (fun i => F (skip r i + 1)) (sWithout (sWithout S j) c) = F (r + 1) c * pmF m (fun i => F (skip r i + 1)) (sWithout (sWithout S c) j)
            rw [without_comm S j c]
        · have hlow : 65536 ≤ 2 ^ j := by have := Nat.pow_le_pow_right (n := 2) (by omega) (show 16 ≤ j by omega); omega
          rw [Nat.testBit_lt_two_pow (Nat.lt_of_lt_of_le hS hlow), Nat.testBit_lt_two_pow (Nat.lt_of_lt_of_le (without_lt hS) hlow)]
          simp
    have hR : sumN (fun r => F r c * pmF (m + 1) (fun i => F (skip r i)) (sWithout S c)) (m + 1 + 1) = B0 + sumN A' 10 := by
      rw [sumN_head]
      have e00 : (fun i => F (skip 0 i)) = fun i => F (i + 1) := funext fun i => by rw [skip_zero]
      rw [e00]
      show B0 + _ = _
      congr 1
      · have h1 : sumN (fun r => F (r + 1) c * pmF (m + 1) (fun i => F (skip (r + 1) i)) (sWithout S c)) (m + 1) = sumN (fun r => sumN (fun a => if (sWithout S c).testBit a = true then F 0 a * (F (r + 1) c * P r a) else 0) 10) (m + 1) := by
          refine sumN_congr (fun r _ => ?_)
          show F (r + 1) c * sumN (fun a => if (sWithout S c).testBit a = true then F (skip (r + 1) 0) a * pmF m (fun i => F (skip (r + 1) (i + 1))) (sWithout (sWithout S c) a) else 0) 10 = _
          rw [sumN_mul]
          refine sumN_congr (fun a _ => ?_)
          have e0 : (fun i => F (skip (r + 1) (i + 1))) = fun i => F (skip r i + 1) := funext fun i => by rw [skip_succ]
          rw [e0, skip_first]
          split
          · rw [Int.mul_left_comm]
          · rw [Int.mul_zero]
        rw [h1, sumN_swap]
        refine sumN_congr (fun a _ => ?_)
        show sumN (fun r => if (sWithout S c).testBit a = true then F 0 a * (F (r + 1) c * P r a) else 0) (m + 1) = if (sWithout S c).testBit a = true then F 0 a * sumN (fun r => F (r + 1) c * P r a) (m + 1) else 0
        split
        · rw [sumN_mul]
        · rw [sumN_zero]
    rw [hL, hR]; omega
theorem wo_pmF {L : List (List Int)} (h : IsT L) {r c m : Nat} (hr : r < L.length) (hc : c < L.length) (hm : L.length = m + 1) : perm (wo L r c) = pmF m (fun i k => gat L (skip r i) k) (sWithout (sAll L.length) c) := by
  have hl := h.le
  have hS : sAll L.length < 1024 := by
    have : 2^L.length ≤ 2^10 := Nat.pow_le_pow_right (by omega) hl
    have h1 := Nat.two_pow_pos L.length
    unfold sAll; omega
  rw [perm_pmF (wo_isT h hr hc), wo_len c hr, show L.length - 1 = m by omega]
  rw [pmF_col (c := c) (by omega) m (fun i c => gat L (skip r i) c) (sWithout (sAll L.length) c) (sAll m) (Nat.lt_of_le_of_lt (without_le _ _) hS) (by
    have : 2^m ≤ 2^10 := Nat.pow_le_pow_right (by omega) (by omega)
    have h1 := Nat.two_pow_pos m
    unfold sAll; omega) (by rw [without_bit _ _ _ (by omega) (by omega)]; simp) (fun k => by
    by_cases hk : k < 15
    · have hs : skip c k < 16 := by unfold skip; split <;> omega
      rw [without_bit _ _ _ (by omega) (by omega), all_bit, all_bit, Bool.eq_iff_iff]
      simp only [Bool.and_eq_true, Bool.not_eq_true', decide_eq_true_eq, decide_eq_false_iff_not]
      unfold skip
      split <;> omega
    · rw [without_bit _ _ _ (by omega) (by omega), all_bit, all_bit, decide_eq_false (by omega), decide_eq_false (by unfold skip; split <;> omega)]; rfl)]
  exact pmF_congr m (fun i k hi _ => wo_gat h hr hc (by omega) k)
theorem perm_col0 {L : List (List Int)} (h : IsT L) (h0 : 0 < L.length) : perm L = sumN (fun r => gat L r 0 * perm (wo L r 0)) L.length := by
  have hl := h.le
  obtain ⟨m, hm⟩ : ∃ m, L.length = m + 1 := ⟨L.length - 1, by omega⟩
  rw [perm_pmF h, hm, pmF_colx m _ (sAll (m + 1)) 0 (all_lt (by omega)) (by omega) (by rw [all_bit]; simp) (pc_all (by omega))]
  refine sumN_congr (fun r hr => ?_)
  try dsimp only
  rw [wo_pmF h (by omega) (by omega) hm, hm]
theorem isT_ext {A B : List (List Int)} (hA : IsT A) (hB : IsT B) (hl : A.length = B.length) (h : ∀ i k, i < A.length → k < A.length → gat A i k = gat B i k) : A = B := by
  refine List.ext_getElem hl (fun a h1 h2 => ?_)
  have e1 : A[a] = getl A a := by unfold getl; rw [List.getD_eq_getElem?_getD, List.getElem?_eq_getElem h1]; rfl
  have e2 : B[a] = getl B a := by unfold getl; rw [List.getD_eq_getElem?_getD, List.getElem?_eq_getElem h2]; rfl
  rw [e1, e2]
  refine ext_geti (by rw [hA.row a h1, hB.row a h2, hl]) (fun b hb => ?_)
  rw [hA.row a h1] at hb
  exact h a b h1 hb
/-- Exchanging rows with columns does not change the permanent. -/
theorem perm_turn : ∀ (n : Nat) (T : List (List Int)), IsT T → T.length = n → perm (trL T) = perm T
  | 0, T, _, hn => by
    obtain rfl : T = [] := List.eq_nil_of_length_eq_zero hn
    rfl
  | n + 1, T, h, hn => by
    have ht := trL_isT h
    have hl : (trL T).length = T.length := trP_len T T.length
    rw [perm_row ht (r := 0) (by omega), perm_col0 h (by omega), hl]
    refine sumN_congr (fun c hc => ?_)
    try dsimp only
    rw [trL_gat (by omega) hc]
    congr 1
    have hw := wo_isT h (r := c) (c := 0) hc (by omega)
    have hwl := wo_len (L := T) (r := c) 0 hc
    have e : wo (trL T) 0 c = trL (wo T c 0) := by
      refine isT_ext (wo_isT ht (by omega) (by omega)) (trL_isT hw) (by rw [wo_len c (by omega), hl, trP_len, hwl]) (fun i k hi hk => ?_)
      rw [wo_len c (by omega), hl] at hi hk
      have hs1 : skip c k < T.length := by unfold skip; split <;> omega
      have hs2 : skip 0 i < T.length := by unfold skip; split <;> omega
      rw [wo_gat ht (by omega) (by omega) (by omega), trL_gat hs2 hs1, trL_gat (by omega) (by omega), wo_gat h hc (by omega) (by omega)]
    rw [e]
    exact perm_turn n (wo T c 0) hw (by omega)
/-- Expanding along two rows. -/
theorem pmF_two {i k m : Nat} (F : Nat → Nat → Int) (S : Nat) (hik : i < k) (hk : k ≤ m + 1) (hS : S < 65536) :
    pmF (m + 1 + 1) F S = sumN (fun a => sumN (fun b => if S.testBit a = true ∧ S.testBit b = true ∧ a ≠ b then F i a * (F k b * pmF m (fun q => F (skip i (skip (k - 1) q))) (sWithout (sWithout S a) b)) else 0) 10) 10 := by
  rw [pmF_row i (m + 1) F S (by omega) hS]
  refine sumN_congr (fun a ha => ?_)
  try dsimp only
  by_cases hb : S.testBit a = true
  · rw [if_pos hb, pmF_row (k - 1) m (fun q => F (skip i q)) (sWithout S a) (by omega) (without_lt hS), sumN_mul]
    refine sumN_congr (fun b hb2 => ?_)
    try dsimp only
    have hw := without_bit S a b hS (by omega)
    have e : skip i (k - 1) = k := by unfold skip; rw [if_neg (by omega)]; omega
    rw [e]
    by_cases h2 : S.testBit b = true ∧ a ≠ b
    · rw [if_pos (by rw [hw, h2.1, decide_eq_false h2.2]; rfl), if_pos ⟨hb, h2.1, h2.2⟩]
    · rw [if_neg (fun h3 => h2 (by
        rw [hw] at h3
        simp only [Bool.and_eq_true, Bool.not_eq_true', decide_eq_false_iff_not] at h3
        exact h3)), if_neg (fun h3 => h2 h3.2), Int.mul_zero]
  · rw [if_neg hb]
    rw [sumN_congr (h := fun _ => 0) (fun b _ => by rw [if_neg (fun h3 => hb h3.1)]), sumN_zero]
theorem pmF_swap {i k m : Nat} {F G : Nat → Nat → Int} {S : Nat} (hik : i < k) (hk : k ≤ m + 1) (hS : S < 65536) (h1 : ∀ c, G i c = F k c) (h2 : ∀ c, G k c = F i c) (h3 : ∀ q, q ≠ i → q ≠ k → G q = F q) : pmF (m + 1 + 1) G S = pmF (m + 1 + 1) F S := by
  rw [pmF_two G S hik hk hS, pmF_two F S hik hk hS, sumN_swap]
  refine sumN_congr (fun b _ => sumN_congr (fun a _ => ?_))
  try dsimp only
  have e : (fun q => G (skip i (skip (k - 1) q))) = fun q => F (skip i (skip (k - 1) q)) := funext fun q => by
    refine h3 _ ?_ ?_ <;> (unfold skip; split <;> split <;> omega)
  rw [e, h1, h2, without_comm S a b]
  by_cases hx : S.testBit a = true ∧ S.testBit b = true ∧ a ≠ b
  · rw [if_pos hx, if_pos ⟨hx.2.1, hx.1, hx.2.2.symm⟩, Int.mul_left_comm]
  · rw [if_neg hx, if_neg (fun h => hx ⟨h.2.1, h.1, h.2.2.symm⟩)]
theorem perm_swap {T Y : List (List Int)} (hT : IsT T) (hY : IsT Y) (hl : Y.length = T.length) {i k : Nat} (hi : i < T.length) (hk : k < T.length) (hne : i ≠ k)
    (h1 : ∀ c, c < T.length → gat Y i c = gat T k c) (h2 : ∀ c, c < T.length → gat Y k c = gat T i c) (h3 : ∀ q c, q < T.length → c < T.length → q ≠ i → q ≠ k → gat Y q c = gat T q c) : perm Y = perm T := by
  have hle := hT.le
  obtain ⟨m, hm⟩ : ∃ m, T.length = m + 1 + 1 := ⟨T.length - 2, by omega⟩
  have ex : ∀ a b, (b < T.length → gat Y a b = gat T (if a = i then k else if a = k then i else a) b) → gat Y a b = gat T (if a = i then k else if a = k then i else a) b := fun a b h => by
    by_cases hb : b < T.length
    · exact h hb
    · rw [hY.zero (Or.inr (by omega)), hT.zero (Or.inr (by omega))]
  have all : ∀ a b, gat Y a b = gat T (if a = i then k else if a = k then i else a) b := fun a b => ex a b (fun hb => by
    by_cases e1 : a = i
    · subst e1; rw [if_pos rfl]; exact h1 b hb
    · rw [if_neg e1]
      by_cases e2 : a = k
      · subst e2; rw [if_pos rfl]; exact h2 b hb
      · rw [if_neg e2]
        by_cases ha : a < T.length
        · exact h3 a b ha hb e1 e2
        · rw [hY.zero (Or.inl (by omega)), hT.zero (Or.inl (by omega))])
  rw [perm_pmF hY, perm_pmF hT, hl, hm]
  have hS := all_lt (m := m + 1 + 1) (by omega)
  rcases Nat.lt_or_gt_of_ne hne with e | e
  · exact pmF_swap e (by omega) hS (fun c => by rw [all, if_pos rfl]) (fun c => by rw [all, if_neg (by omega), if_pos rfl]) (fun q e1 e2 => funext fun c => by rw [all, if_neg e1, if_neg e2])
  · exact pmF_swap e (by omega) hS (fun c => by rw [all, if_neg (by omega), if_pos rfl]) (fun c => by rw [all, if_pos rfl]) (fun q e1 e2 => funext fun c => by rw [all, if_neg e2, if_neg e1])
theorem perm_add {T A E : List (List Int)} (hT : IsT T) (hA : IsT A) (hE : IsT E) (hla : A.length = T.length) (hle : E.length = T.length) {i : Nat} (hi : i < T.length)
    (h1 : ∀ c, gat A i c = gat T i c + gat E i c) (h2 : ∀ q c, q ≠ i → gat A q c = gat T q c) (h3 : ∀ q c, q ≠ i → gat E q c = gat T q c) : perm A = perm T + perm E := by
  have hl := hT.le
  obtain ⟨m, hm⟩ : ∃ m, T.length = m + 1 := ⟨T.length - 1, by omega⟩
  have hS := all_lt (m := m + 1) (by omega)
  rw [perm_pmF hA, perm_pmF hT, perm_pmF hE, hla, hle, hm, pmF_row i m _ _ (by omega) hS, pmF_row i m (fun i c => gat T i c) _ (by omega) hS, pmF_row i m (fun i c => gat E i c) _ (by omega) hS, ← sumN_add]
  refine sumN_congr (fun c _ => ?_)
  have hne : ∀ q, skip i q ≠ i := fun q => by unfold skip; split <;> omega
  have e1 : (fun q c => gat A (skip i q) c) = fun q c => gat T (skip i q) c := funext fun q => funext fun c => h2 _ _ (hne q)
  have e2 : (fun q c => gat E (skip i q) c) = fun q c => gat T (skip i q) c := funext fun q => funext fun c => h3 _ _ (hne q)
  have e1' : (fun q => (fun i c => gat A i c) (skip i q)) = fun q => (fun i c => gat T i c) (skip i q) := e1
  have e2' : (fun q => (fun i c => gat E i c) (skip i q)) = fun q => (fun i c => gat T i c) (skip i q) := e2
  dsimp only at e1' e2' ⊢
  rw [e1', e2', h1]
  split
  · rw [Int.add_mul]
  · rfl
end Go.Proofs.Ytnnaaoobdofooaa
/- PostsExchanges, walked. -/
namespace Go.Proofs.Ytnnaaoobdofooaa
open Go.RowKit
set_option maxHeartbeats 1000000
set_option maxRecDepth 100000
theorem own_frm {w : World} {C n : Nat} {t : TypeId} {v : Value} {xs : List Value} (h : w.ownsRow C t 1 v n xs) (hn : 0 < n) : ∃ g c, v = .slice (some ⟨g, 0, none⟩) n c ∧ C ≤ g ∧ g < w.heap.size ∧ ∀ j u, xs[j]? = some u → w.cell? ⟨g, j, none⟩ = some u := by
  rcases h.2 with ⟨_, h0⟩ | ⟨g, cap, cur, rfl, hb, hg, hc, hm, hs, ht⟩
  · omega
  · refine ⟨g, cap, rfl, hb, (Array.getElem?_eq_some_iff.1 hg).1, fun j u hj => ?_⟩
    have := h.cells (g := g) rfl j u hj
    rwa [WideShapes.add_plain, Nat.zero_add] at this
theorem perm_bdd {L : List (List Int)} (h : IsT L) : 0 ≤ perm L ∧ perm L ≤ 12652843234348800 := by
  refine prm_bd h ?_
  have : 2^L.length ≤ 2^10 := Nat.pow_le_pow_right (by omega) h.le
  have h1 := Nat.two_pow_pos L.length
  unfold sAll; omega
/-- A row is put in the place of another one. -/
theorem own_put {w : World} {C n g c j : Nat} {t : TypeId} {u : Value} {xs : List Value} (h : w.ownsRow C t 1 (.slice (some ⟨g, 0, none⟩) n c) n xs) : (w.setCell ⟨g, j, none⟩ u).ownsRow C t 1 (.slice (some ⟨g, 0, none⟩) n c) n (xs.set j u) := by
  refine ⟨by rw [List.length_set]; exact h.1, ?_⟩
  rcases h.2 with ⟨h1, _⟩ | ⟨g', cap, cur, h1, hb, hg, hc, hm, hs, ht⟩
  · cases h1
  · injection h1 with h1 h2 h3
    injection h1 with h1
    injection h1 with h1
    subst h1 h3
    have hrow : Row w g t cur.toList := by unfold Row; rw [hg]
    refine .inr ⟨g, c, (cur.toList.set j u).toArray, rfl, hb, hrow.set j u, hc, hm, ?_, ?_⟩
    · rw [List.size_toArray, List.length_set]; simpa using hs
    · show List.take _ (cur.toList.set j u) = _
      rw [List.take_set, ht]
theorem own_heap {w : World} {C n g c : Nat} {t : TypeId} {xs : List Value} (h : w.ownsRow C t 1 (.slice (some ⟨g, 0, none⟩) n c) n xs) : C ≤ g ∧ ∃ cur, w.heap[g]? = some (.cells cur t (0, 0)) := by
  have := own_ge h (g := g) rfl
  exact ⟨this.1, this.2.2⟩
theorem own_far3 {w : World} {C n z g k : Nat} {u v : Value} {xs : List Value} {cur : Array Value} (h : w.ownsRow C 3 z u n xs) (hg : w.heap[g]? = some (.cells cur 27 (0, 0))) : (w.setCell ⟨g, k, none⟩ v).ownsRow C 3 z u n xs :=
  own_far h (fun e => by
    obtain ⟨_, _, c, h2⟩ := own_ge h e
    rw [hg] at h2
    injection h2 with h2
    injection h2 with _ h2
    cases h2)
theorem RowsOwn.setRow {w : World} {B g j : Nat} {cs : List Value} {L : List (List Int)} {v : Value} {r : List Int} {cur : Array Value} (h : RowsOwn w B cs L) (hv : w.ownsRow B 3 1 v r.length (iv r)) (hg : w.heap[g]? = some (.cells cur 27 (0, 0))) :
    RowsOwn (w.setCell ⟨g, j, none⟩ v) B (cs.set j v) (L.set j r) := by
  refine ⟨by rw [List.length_set, List.length_set]; exact h.1, fun q hq => ?_⟩
  rw [List.length_set] at hq
  have e : getl (L.set j r) q = if j = q then r else getl L q := by
    unfold getl
    rw [List.getD_eq_getElem?_getD, List.getD_eq_getElem?_getD, List.getElem?_set]
    by_cases h : j = q
    · subst h; rw [if_pos rfl, if_pos rfl, if_pos hq]; rfl
    · rw [if_neg h, if_neg h]
  rw [e]
  by_cases hjq : j = q
  · subst hjq
    rw [if_pos rfl]
    exact ⟨v, by rw [List.getElem?_set, if_pos rfl, if_pos (by rw [h.1]; exact hq)], own_far3 hv hg⟩
  · rw [if_neg hjq]
    obtain ⟨u, h1, h2⟩ := h.2 q hq
    exact ⟨u, by rw [List.getElem?_set, if_neg hjq]; exact h1, own_far3 h2 hg⟩
theorem RowsOwn.farRow {w : World} {B g j : Nat} {cs : List Value} {L : List (List Int)} {v : Value} {cur : Array Value} (h : RowsOwn w B cs L) (hg : w.heap[g]? = some (.cells cur 27 (0, 0))) : RowsOwn (w.setCell ⟨g, j, none⟩ v) B cs L := ⟨h.1, fun q hq => by
  obtain ⟨u, h1, h2⟩ := h.2 q hq
  exact ⟨u, h1, own_far3 h2 hg⟩⟩
theorem getl_set {L : List (List Int)} {j : Nat} {r : List Int} (hj : j < L.length) (q : Nat) : getl (L.set j r) q = if j = q then r else getl L q := by
  unfold getl
  rw [List.getD_eq_getElem?_getD, List.getD_eq_getElem?_getD, List.getElem?_set]
  by_cases h : j = q
  · subst h; rw [if_pos rfl, if_pos rfl, if_pos hj]; rfl
  · rw [if_neg h, if_neg h]
theorem rows_blk {w : World} {B : Nat} {cs : List Value} {L : List (List Int)} (h : RowsOwn w B cs L) {j : Nat} {v : Value} (hj : cs[j]? = some v) {g : Nat} (hg : v.ownBlock = some g) : B ≤ g ∧ g < w.heap.size := by
  have hl : j < L.length := by rw [← h.1]; exact (List.getElem?_eq_some_iff.1 hj).1
  obtain ⟨u, h1, h2⟩ := h.2 j hl
  rw [hj] at h1
  injection h1 with h1
  subst h1
  have := own_ge h2 hg
  exact ⟨this.1, this.2.1⟩
theorem RowsOwn.farNum {w : World} {B g k : Nat} {cs : List Value} {L : List (List Int)} {x : Value} (h : RowsOwn w B cs L) (hb : ∀ (j : Nat) (v : Value), cs[j]? = some v → v.ownBlock ≠ some g) : RowsOwn (w.setCell ⟨g, k, none⟩ x) B cs L := ⟨h.1, fun q hq => by
  obtain ⟨u, h1, h2⟩ := h.2 q hq
  exact ⟨u, h1, own_far h2 (hb q u h1)⟩⟩
theorem RowsOwn.mono {w : World} {B B' : Nat} {cs : List Value} {L : List (List Int)} (h : RowsOwn w B cs L) (hb : B' ≤ B) : RowsOwn w B' cs L := ⟨h.1, fun q hq => by
  obtain ⟨u, h1, h2⟩ := h.2 q hq
  exact ⟨u, h1, own_mono h2 hb⟩⟩
/-- A table of the call's own. -/
structure Tab (V : World) (g c n : Nat) (B : Nat) (cs : List Value) (K : List (List Int)) : Prop where
  own : V.ownsRow B 27 1 (.slice (some ⟨g, 0, none⟩) n c) n cs
  rows : RowsOwn V B cs K
theorem Tab.below {V V' : World} {g c n B : Nat} {cs : List Value} {K : List (List Int)} (h : Tab V g c n B cs K) (k : Below V.heap.size V V') : Tab V' g c n B cs K := ⟨h.own.kept' k, h.rows.below k⟩
theorem Tab.heap {V : World} {g c n B : Nat} {cs : List Value} {K : List (List Int)} (h : Tab V g c n B cs K) : B ≤ g ∧ g < V.heap.size ∧ (∃ cur, V.heap[g]? = some (.cells cur 27 (0, 0))) ∧ ∀ j, V.frozen? ⟨g, j, none⟩ = false := by
  obtain ⟨h1, cur, h2⟩ := own_heap h.own
  refine ⟨h1, (Array.getElem?_eq_some_iff.1 h2).1, ⟨cur, h2⟩, fun j => ?_⟩
  have : Row V g 27 cur.toList := by unfold Row; rw [h2]
  exact this.free j
/-- Another table gets a row. -/
theorem Tab.farRow {V : World} {g c n B g' c' B' j : Nat} {cs cs' : List Value} {K K' : List (List Int)} {v : Value} (h : Tab V g c n B cs K) (h' : Tab V g' c' n B' cs' K') (hne : g ≠ g') : Tab (V.setCell ⟨g', j, none⟩ v) g c n B cs K := by
  obtain ⟨-, -, ⟨cur, h2⟩, -⟩ := h'.heap
  exact ⟨own_far h.own (fun e => hne (by injection e)), h.rows.farRow h2⟩
/-- This table gets a row. -/
theorem Tab.setRow {V : World} {g c n B j : Nat} {cs : List Value} {K : List (List Int)} {v : Value} {r : List Int} (h : Tab V g c n B cs K) (hv : V.ownsRow B 3 1 v r.length (iv r)) : Tab (V.setCell ⟨g, j, none⟩ v) g c n B (cs.set j v) (K.set j r) := by
  obtain ⟨-, -, ⟨cur, h2⟩, -⟩ := h.heap
  exact ⟨own_put h.own, h.rows.setRow hv h2⟩
/-- A number of another table is written. -/
theorem Tab.farNum {V : World} {g c n B g' k : Nat} {cs : List Value} {K : List (List Int)} {x : Value} {cur : Array Value} (h : Tab V g c n B cs K) (hg : V.heap[g']? = some (.cells cur 3 (0, 0))) (hb : ∀ (j : Nat) (v : Value), cs[j]? = some v → v.ownBlock ≠ some g') : Tab (V.setCell ⟨g', k, none⟩ x) g c n B cs K :=
  ⟨own_far_t h.own (by decide) hg, h.rows.farNum hb⟩
theorem Tab.at {V : World} {g c n B : Nat} {cs : List Value} {K : List (List Int)} (h : Tab V g c n B cs K) : RowsAt V (some ⟨g, 0, none⟩) K := rows_at h.rows h.own
/-- A row being added to another one, number by number. -/
structure AdAt (T K : List (List Int)) (n i k c : Nat) : Prop where
  len : K.length = n
  row : ∀ a, a < n → (getl K a).length = n
  at' : ∀ a b, a < n → b < n → gat K a b = if a = i ∧ b < c then gat T i b + gat T k b else gat T a b
theorem AdAt.start {T : List (List Int)} {n i k : Nat} (hl : T.length = n) (h : ∀ a, a < n → (getl T a).length = n) : AdAt T T n i k 0 := ⟨hl, h, fun a b _ _ => by rw [if_neg (by omega)]⟩
theorem AdAt.next {T K : List (List Int)} {n i k c : Nat} (h : AdAt T K n i k c) (hi : i < n) (hc : c < n) : AdAt T (setT K i c (gat T i c + gat T k c)) n i k (c + 1) := by
  have hl := h.len
  refine ⟨by rw [setT_len, hl], fun a ha => ?_, fun a b ha hb => ?_⟩
  · rw [getl_setT (by omega)]
    split
    · rw [List.length_set]; exact h.row i hi
    · exact h.row a ha
  · rw [gat_setT (by omega) (by rw [h.row i hi]; exact hc)]
    by_cases e : i = a ∧ c = b
    · obtain ⟨rfl, rfl⟩ := e
      rw [if_pos ⟨rfl, rfl⟩, if_pos (by omega)]
    · rw [if_neg e, h.at' a b ha hb]
      by_cases e2 : a = i ∧ b < c
      · rw [if_pos e2, if_pos (by omega)]
      · rw [if_neg e2, if_neg (by omega)]
theorem AdAt.isT {T K : List (List Int)} {n i k : Nat} (h : AdAt T K n i k n) (hn : n ≤ 10) (hb : ∀ a b, 0 ≤ gat T a b ∧ gat T a b ≤ 4) : IsT K := okT_iff.1 (okT_all (by rw [h.len]; exact hn) (fun a ha => by
  rw [h.len] at ha ⊢
  refine ⟨h.row a ha, fun b hb2 => ?_⟩
  rw [h.at' a b ha hb2]
  have h1 := hb i b
  have h2 := hb k b
  have h3 := hb a b
  split <;> omega))
theorem tm4_bd (L : List (List Int)) (n a b : Nat) : 0 ≤ gat (tmL L n 4) a b ∧ gat (tmL L n 4) a b ≤ 4 := by
  by_cases ha : a < n
  · by_cases hb : b < n
    · unfold gat
      rw [tmP_at L n 4 ha, tmR_at _ _ _ _ _ hb, if_pos hb]
      exact tmV_bd L 4 a b
    · have : gat (tmL L n 4) a b = 0 := by unfold gat; exact geti_ge (by rw [tmP_at L n 4 ha, tmR_len]; omega)
      omega
  · have : gat (tmL L n 4) a b = 0 := by unfold gat; rw [getl_ge (by rw [tmP_len]; omega)]; rfl
    omega
def exE (T : List (List Int)) (i k : Nat) : List (List Int) := T.set i (getl T k)
def exY (T : List (List Int)) (i k : Nat) : List (List Int) := (T.set i (getl T k)).set k (getl T i)
theorem exE_isT {T : List (List Int)} (h : IsT T) {i k : Nat} (hi : i < T.length) (hk : k < T.length) : IsT (exE T i k) ∧ (exE T i k).length = T.length ∧ ∀ a b, gat (exE T i k) a b = if i = a then gat T k b else gat T a b := by
  have hl : (exE T i k).length = T.length := by unfold exE; rw [List.length_set]
  have hg : ∀ a, getl (exE T i k) a = if i = a then getl T k else getl T a := fun a => getl_set hi a
  have hgat : ∀ a b, gat (exE T i k) a b = if i = a then gat T k b else gat T a b := fun a b => by
    unfold gat; rw [hg]; split <;> rfl
  refine ⟨okT_iff.1 (okT_all (by rw [hl]; exact h.le) (fun a ha => ?_)), hl, hgat⟩
  rw [hl] at ha ⊢
  refine ⟨by rw [hg]; split; exact h.row k hk; exact h.row a ha, fun b hb => ?_⟩
  rw [hgat]
  have h1 := h.bd k b
  have h2 := h.bd a b
  split <;> omega
theorem exY_isT {T : List (List Int)} (h : IsT T) {i k : Nat} (hi : i < T.length) (hk : k < T.length) : IsT (exY T i k) ∧ (exY T i k).length = T.length ∧ ∀ a b, gat (exY T i k) a b = if k = a then gat T i b else if i = a then gat T k b else gat T a b := by
  have hl : (exY T i k).length = T.length := by unfold exY; rw [List.length_set, List.length_set]
  have hg : ∀ a, getl (exY T i k) a = if k = a then getl T i else if i = a then getl T k else getl T a := fun a => by
    unfold exY
    rw [getl_set (by rw [List.length_set]; exact hk), getl_set hi]
  have hgat : ∀ a b, gat (exY T i k) a b = if k = a then gat T i b else if i = a then gat T k b else gat T a b := fun a b => by
    unfold gat; rw [hg]; split
    · rfl
    · split <;> rfl
  refine ⟨okT_iff.1 (okT_all (by rw [hl]; exact h.le) (fun a ha => ?_)), hl, hgat⟩
  rw [hl] at ha ⊢
  refine ⟨by rw [hg]; split; exact h.row i hi; split; exact h.row k hk; exact h.row a ha, fun b hb => ?_⟩
  rw [hgat]
  have h1 := h.bd k b
  have h2 := h.bd a b
  have h3 := h.bd i b
  split
  · omega
  · split <;> omega
theorem exY_perm {T : List (List Int)} (h : IsT T) {i k : Nat} (hi : i < T.length) (hk : k < T.length) (hne : i ≠ k) : perm (exY T i k) = perm T := by
  obtain ⟨h1, h2, h3⟩ := exY_isT h hi hk
  exact perm_swap h h1 h2 hi hk hne (fun c _ => by rw [h3, if_neg (fun e => hne e.symm), if_pos rfl]) (fun c _ => by rw [h3, if_pos rfl]) (fun q c _ _ e1 e2 => by rw [h3, if_neg (fun e => e2 e.symm), if_neg (fun e => e1 e.symm)])
theorem ad_perm {T K : List (List Int)} {n i k : Nat} (hT : IsT T) (hl : T.length = n) (hi : i < n) (hk : k < n) (h : AdAt T K n i k n) (hK : IsT K) : perm K = perm T + perm (exE T i k) := by
  obtain ⟨h1, h2, h3⟩ := exE_isT hT (i := i) (k := k) (by omega) (by omega)
  have hKl := h.len
  refine perm_add hT hK h1 (by omega) h2 (i := i) (by omega) (fun c => ?_) (fun q c hq => ?_) (fun q c hq => by rw [h3, if_neg (fun e => hq e.symm)])
  · rw [h3, if_pos rfl]
    by_cases hc : c < n
    · rw [h.at' i c hi hc, if_pos ⟨rfl, hc⟩]
    · rw [hK.zero (Or.inr (by omega)), hT.zero (Or.inr (by omega)), hT.zero (Or.inr (by omega))]; rfl
  · by_cases hqn : q < n
    · by_cases hc : c < n
      · rw [h.at' q c hqn hc, if_neg (fun e => hq e.1)]
      · rw [hK.zero (Or.inr (by omega)), hT.zero (Or.inr (by omega))]
    · rw [hK.zero (Or.inl (by omega)), hT.zero (Or.inl (by omega))]
end Go.Proofs.Ytnnaaoobdofooaa
/- The weight is taken: what else lies in memory stays. -/
namespace Go.Proofs.Ytnnaaoobdofooaa
open Go.RowKit
set_option maxHeartbeats 1000000
set_option maxRecDepth 100000
/-- Of what lay there only one block may have changed. -/
structure FrG (g : Nat) (w w' : World) : Prop where
  os : w'.os = w.os
  tape : w'.tape = w.tape
  output : w'.output = w.output
  size : w.heap.size ≤ w'.heap.size
  block : ∀ k, k < w.heap.size → k ≠ g → w'.heap[k]? = w.heap[k]?
theorem FrG.refl (g : Nat) (w : World) : FrG g w w := ⟨rfl, rfl, rfl, Nat.le_refl _, fun _ _ _ => rfl⟩
theorem FrG.of {g : Nat} {a b c : World} (h : FrG g a b) (k : Below b.heap.size b c) : FrG g a c := ⟨k.os.trans h.os, k.tape.trans h.tape, k.output.trans h.output, Nat.le_trans h.size k.size, fun i hi hne => (k.block i (Nat.lt_of_lt_of_le hi h.size)).trans (h.block i hi hne)⟩
theorem FrG.alloc {g : Nat} {a b : World} (h : FrG g a b) (o : Obj) : FrG g a (b.alloc o) := h.of ((Below.refl _ _).alloc (Nat.le_refl _) o)
theorem FrG.drewN {g : Nat} {a b : World} (h : FrG g a b) (n : Nat) : FrG g a (b.drewN n) := h.of (below_drewN n)
theorem FrG.setCell {g : Nat} {a b : World} (h : FrG g a b) (i : Nat) (v : Value) : FrG g a (b.setCell ⟨g, i, none⟩ v) := by
  have k : Below 0 b (b.setCell ⟨g, i, none⟩ v) := (Below.refl 0 b).setCell (Nat.zero_le _) _
  exact ⟨k.os.trans h.os, k.tape.trans h.tape, k.output.trans h.output, Nat.le_trans h.size k.size, fun j hj hne => (Below.heap_setCell b ⟨g, i, none⟩ v j hne).trans (h.block j hj hne)⟩
theorem FrG.cell {g : Nat} {w w' : World} (h : FrG g w w') {p : Addr} (hp : p.block < w.heap.size) (hne : p.block ≠ g) : w'.cell? p = w.cell? p := World.cell?_of_block (h.block _ hp hne)
theorem FrG.below {g B : Nat} {w w' : World} (h : FrG g w w') (hB : B ≤ g) (hs : B ≤ w.heap.size) : Below B w w' := ⟨h.os, h.tape, h.output, h.size, fun k hk => h.block k (by omega) (by omega)⟩
theorem FrG.row {g k : Nat} {w w' : World} {t : TypeId} {cs : List Value} (h : FrG g w w') (hr : Row w k t cs) (hne : k ≠ g) : Row w' k t cs := (h.block k hr.lt hne).trans hr
theorem FrG.own {g C n z : Nat} {w w' : World} {t : TypeId} {u : Value} {xs cs : List Value} {s : TypeId} (h : FrG g w w') (ho : w.ownsRow C t z u n xs) (hg : Row w g s cs) (ht : t ≠ s) : w'.ownsRow C t z u n xs := by
  refine ⟨ho.1, ?_⟩
  rcases ho.2 with h2 | ⟨g', cap, cur, h1, hb, hgg, hr⟩
  · exact .inl h2
  · refine .inr ⟨g', cap, cur, h1, hb, ?_, hr⟩
    have hne : g' ≠ g := fun e => by
      subst e
      unfold Row at hg
      rw [hgg] at hg
      injection hg with hg
      injection hg with _ hg
      exact ht hg
    rw [h.block g' (Array.getElem?_eq_some_iff.1 hgg).1 hne]; exact hgg
theorem FrG.rows {g C : Nat} {w w' : World} {cs : List Value} {L : List (List Int)} {ds : List Value} {s : TypeId} (h : FrG g w w') (hr : RowsOwn w C cs L) (hg : Row w g s ds) (ht : (3 : TypeId) ≠ s) : RowsOwn w' C cs L := ⟨hr.1, fun j hj => by
  obtain ⟨v, h1, h2⟩ := hr.2 j hj
  exact ⟨v, h1, h.own h2 hg ht⟩⟩
theorem take_fr (K : List (List Int)) (A : Option Addr) (c g : Nat) (wt : Int) (xs : List Int) (w : World) (h : IsT K) (h1 : 1 ≤ wt) (hw : wt ≤ 9 ∨ K.length = 0) (hco : colsOk K.length xs = true) (hb : brs K wt xs K.length = true) (ha : IntsAt w A xs) (hr : Row w g 73 (iv (grd K))) (hA : 0 < xs.length → ∀ b o, A = some ⟨b, o, none⟩ → b ≠ g) :
    Calls Try.prog 76 #[.pointer (some ⟨g, 0, none⟩), .agg #[.int .i64 wt, .slice A xs.length c]] w fun e w' => e = .returned (.tuple #[]) ∧ Row w' g 73 (iv (grd (subP K wt xs K.length))) ∧ FrG g w w' := by
  have hle := h.le
  have hxl := cols_len hco
  have hgl := hr.lt
  have r0 : Row (w.alloc (.cells #[.int .i64 wt, .slice A xs.length c] 69)) g 73 (iv (grd (subP K wt xs 0))) := hr.alloc _
  have q0 : Row (w.alloc (.cells #[.int .i64 wt, .slice A xs.length c] 69)) w.heap.size 69 [.int .i64 wt, .slice A xs.length c] := row_new (by simp)
  have b0 : FrG g w (w.alloc (.cells #[.int .i64 wt, .slice A xs.length c] 69)) := (FrG.refl g w).alloc _
  have HA := Lib.hid (fun (V : World) (hV : FrG g w V) (hp : 0 < xs.length) => (by
    obtain ⟨b, o, e, hbl, hc⟩ := ha hp
    exact ⟨b, o, e, fun i hi => by rw [hV.cell (p := ⟨b, o + i, none⟩) hbl (hA hp b o e)]; exact hc i hi⟩ : ∃ b o, A = some ⟨b, o, none⟩ ∧ ∀ i, i < xs.length → V.cell? ⟨b, o + i, none⟩ = some (.int .i64 (geti xs i))))
  have HAT := Lib.hid (fun j (hj : j < xs.length) => cols_at hco (r := j) (by omega))
  have HIS : Hid (∀ k, k ≤ K.length → IsT (subP K wt xs k)) := Lib.hid (fun k hk => subP_isT h h1 hco hb hk)
  have HLN := Lib.hid (fun k => subP_len K wt xs k)
  have HRW := Lib.hid (fun k (hk : k ≤ K.length) r (hr : r < K.length) => subP_row h.row wt xs k hk r hr)
  have HSO := Lib.hid (fun k (hk : k < K.length) => subP_own (wt := wt) h.row hco hk)
  have HBD := Lib.hid (fun r c => h.bd r c)
  have HGS : Hid (∀ k (hk : k < K.length), (iv (grd (subP K wt xs k))).set (1 + k * 10 + (geti xs k).toNat) (.int .i64 (gat K k (geti xs k).toNat - wt)) = iv (grd (subP K wt xs (k + 1)))) := Lib.hid (fun k hk => by
    have hx := cols_at hco (r := k) hk
    have h2 := HRW.out k (by omega) k hk
    rw [grd_set (by rw [subP_len]; exact hle) (by rw [subP_len]; exact hk) (by rw [h2]; omega) (by omega)]
    have e : subP K wt xs (k + 1) = setT (subP K wt xs k) k (geti xs k).toNat (gat (subP K wt xs k) k (geti xs k).toNat - wt) := rfl
    rw [e, HSO.out k hk])
  have HCG : Hid (∀ (V : World) (k : Nat), k < K.length → Row V g 73 (iv (grd (subP K wt xs k))) → V.cell? ⟨g, 1 + k * 10 + (geti xs k).toNat, none⟩ = some (.int .i64 (gat K k (geti xs k).toNat))) := Lib.hid (fun V k hk hV => by
    have hx := cols_at hco (r := k) hk
    have := ivR hV (i := 1 + k * 10 + (geti xs k).toNat) (by unfold grd; rw [grdP_len]; omega)
    rw [Nat.add_assoc, grd_at _ (by omega) (by omega), HSO.out k hk, ← Nat.add_assoc] at this
    exact this)
  have HXL := Lib.hid hxl
  obtain ⟨⟨c0, c1⟩, -⟩ := q0.cells2
  clear ha h hco hxl hb hr hA
  go_enter Try.func76, Try.ntmps76
  go_wp2
  have hs0 : w.heap.size < (w.alloc (.cells #[.int .i64 wt, .slice A xs.length c] 69)).heap.size := by simp
  generalize World.alloc w _ = W at *
  go_loopw [9] (fun i wr => ∃ k : Nat, k ≤ xs.length ∧ i = .int .i64 k ∧ Row wr g 73 (iv (grd (subP K wt xs k))) ∧ Row wr w.heap.size 69 [.int .i64 wt, .slice A xs.length c] ∧ FrG g w wr) (fun i _ => xs.length - (intOf i).toNat)
  case atStart => exact ⟨0, by omega, rfl, r0, q0, b0⟩
  case round =>
    clear r0 q0 b0 c0 c1
    obtain ⟨k, hk, rfl, r0, q0, b0⟩ := hrel
    obtain ⟨⟨c0, c1⟩, -⟩ := q0.cells2
    by_cases hlt : k < xs.length
    · have g1 : decide ((k : Int) < (xs.length : Int)) = true := decide_eq_true (by omega)
      have hkL : k < K.length := by rw [← HXL.out]; exact hlt
      obtain ⟨b, o, hAe, f1⟩ := HA.out wr b0 (by omega)
      subst hAe
      have e1 := f1 k hlt
      have hat := HAT.out k hlt
      have e3 := HCG.out wr k hkL r0
      have HGS1 := Lib.hid (HGS.out k hkL)
      have hbd := HBD.out k (geti xs k).toNat
      clear f1
      generalize geti xs k = x at *
      obtain ⟨X, rfl⟩ : ∃ X : Nat, x = X := ⟨x.toNat, by omega⟩
      rw [Int.toNat_natCast] at e3 HGS1 hbd
      have hX10 : X < 10 := by omega
      have hk10 : k < 10 := by omega
      have hw9 : wt ≤ 9 := by omega
      obtain ⟨hy0, hy9⟩ := hbd
      have e4 := r0.free (1 + k * 10 + X)
      clear hat
      generalize gat K k X = y at *
      go_wp2
      refine wp_region_quiet_tail 15 (by kernel_rfl) (by kernel_rfl) ?_
      simp only [List.take_succ_cons, List.take_zero, List.drop_succ_cons, List.drop_zero]
      repeat go_big_quiet_step ((fail))
      refine wpQuiet_nil ?_
      rintro _ ⟨nq, rfl⟩
      go_wp2
      exact ⟨⟨k + 1, by omega, by go_num, by
          have hq := (r0.drewN nq).set (1 + k * 10 + X) (.int .i64 (y - wt))
          rw [HGS1.out] at hq
          exact hq, (q0.drewN nq).far (by dsimp only; omega) _, (b0.drewN nq).setCell _ _⟩, by simp [intOf]; omega⟩
    · obtain rfl : k = xs.length := by omega
      have g1 : decide ((xs.length : Int) < (xs.length : Int)) = false := decide_eq_false (by omega)
      go_wp2
      go_end0
      exact ⟨rfl, by rw [← HXL.out]; exact r0, b0⟩
end Go.Proofs.Ytnnaaoobdofooaa
