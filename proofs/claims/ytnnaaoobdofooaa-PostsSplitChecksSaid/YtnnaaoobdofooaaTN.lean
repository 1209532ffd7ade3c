/- A table turned. -/
import Derived.Test.YtnnaaoobdofooaaTM
namespace Go.Proofs.Ytnnaaoobdofooaa
open Go.RowKit
set_option maxHeartbeats 1000000
set_option maxRecDepth 100000
def trC (T : List (List Int)) (i k : Nat) : List Int := (List.range k).map fun j => gat T j i
def trP (T : List (List Int)) (m : Nat) : List (List Int) := (List.range m).map fun i => trC T i T.length
abbrev trL (T : List (List Int)) : List (List Int) := trP T T.length
theorem trC_len (T : List (List Int)) (i k : Nat) : (trC T i k).length = k := by simp [trC]
theorem trC_snoc (T : List (List Int)) (i k : Nat) : trC T i (k + 1) = trC T i k ++ [gat T k i] := by unfold trC; rw [List.range_succ, List.map_append]; rfl
theorem trP_len (T : List (List Int)) (m : Nat) : (trP T m).length = m := by simp [trP]
theorem trP_snoc (T : List (List Int)) (m : Nat) : trP T (m + 1) = trP T m ++ [trC T m T.length] := by unfold trP; rw [List.range_succ, List.map_append]; rfl
theorem trP_at {T : List (List Int)} {m i : Nat} (h : i < m) : getl (trP T m) i = trC T i T.length := by
  unfold getl trP
  rw [List.getD_eq_getElem?_getD, List.getElem?_map, List.getElem?_range h]; rfl
theorem trL_gat {T : List (List Int)} {i k : Nat} (hi : i < T.length) (hk : k < T.length) : gat (trL T) i k = gat T k i := by
  unfold gat
  rw [trP_at hi]
  exact geti_map hk
theorem trL_isT {T : List (List Int)} (h : IsT T) : IsT (trL T) := okT_iff.1 (okT_all (by rw [trP_len]; exact h.le) (fun i hi => by
  rw [trP_len] at hi ⊢
  refine ⟨by rw [trP_at hi, trC_len], fun k hk => ?_⟩
  rw [trL_gat hi hk]
  exact ⟨(h.bd k i).1, (h.bd k i).2⟩))
theorem turned_any (A : Option Addr) (c : Nat) (T : List (List Int)) (w : World) (h : IsT T) (ha : RowsAt w A T) :
    Calls Try.prog 45 #[.slice A T.length c] w fun e w' => ∃ A' c' cs, e = .returned (.slice A' T.length c') ∧ w'.ownsRow w.heap.size 27 1 (.slice A' T.length c') T.length cs ∧ RowsOwn w' w.heap.size cs (trL T) ∧ Below w.heap.size w w' := by
  obtain ⟨k0, ki, kz0, kz1, kz2⟩ := info_parts info27
  obtain ⟨j0, ji, jz0, jz1, jz2⟩ := info_parts info3
  have HA := Lib.hid ha
  have hle := h.le
  have HRW := Lib.hid (fun i (hi : i < T.length) => h.row i hi)
  have o0 : w.ownsRow w.heap.size 27 1 (.slice none 0 0) 0 [] := ⟨rfl, .inl ⟨rfl, rfl⟩⟩
  have R0 : Hid (RowsOwn w w.heap.size [] (trP T 0)) := Lib.hid ⟨rfl, fun j hj => absurd hj (by simp [trP])⟩
  have b0 := Below.refl w.heap.size w
  have HSN := Lib.hid (fun m => trP_snoc T m)
  have HCS := Lib.hid (fun i k => trC_snoc T i k)
  have HCL := Lib.hid (fun i k => trC_len T i k)
  have HC0 : Hid (∀ i, trC T i 0 = []) := Lib.hid (fun i => rfl)
  obtain ⟨n, hn⟩ : ∃ n, T.length = n := ⟨_, rfl⟩
  rw [hn] at hle HRW HSN ⊢
  have HN := Lib.hid hn
  clear ha h hn
  go_enter Try.func45, Try.ntmps45
  go_wp2
  go_loopw [3, 4] (fun v i wr => ∃ (k : Nat) (cs : List Value), k ≤ n ∧ i = .int .i64 k ∧ wr.ownsRow w.heap.size 27 1 v k cs ∧ Hid (RowsOwn wr w.heap.size cs (trP T k)) ∧ Below w.heap.size w wr) (fun _ i _ => n - (intOf i).toNat)
  case atStart => exact ⟨0, [], by omega, rfl, o0, R0, b0⟩
  case round =>
    clear o0 R0 b0
    obtain ⟨i, cs, hi, rfl, o0, HR, b0⟩ := hrel
    obtain ⟨A2, c2, rfl⟩ := own_head o0
    by_cases hlt : i < n
    · have g1 : decide ((i : Int) < (n : Int)) = true := decide_eq_true (by omega)
      obtain ⟨W, hW⟩ : ∃ W, W = wr := ⟨_, rfl⟩
      subst hW
      have HO := Lib.hid o0
      have hbs := b0.size
      have z0 := Below.refl W.heap.size W
      have n0 : W.ownsRow W.heap.size 3 1 (.slice none 0 0) 0 (iv (trC T i 0)) := ⟨by rw [HC0.out]; rfl, .inl ⟨rfl, rfl⟩⟩
      clear o0
      go_wp2
      go_loopw [5, 6] (fun v kv wr2 => ∃ k : Nat, k ≤ n ∧ kv = .int .i64 k ∧ wr2.ownsRow W.heap.size 3 1 v k (iv (trC T i k)) ∧ Below W.heap.size W wr2) (fun _ kv _ => n - (intOf kv).toNat)
      case atStart => exact ⟨0, by omega, rfl, n0, z0⟩
      case round =>
        clear n0 z0
        obtain ⟨k, hk, rfl, n0, z0⟩ := hrel
        obtain ⟨A3, c3, rfl⟩ := own_head n0
        by_cases hkn : k < n
        · have g2 : decide ((k : Int) < (n : Int)) = true := decide_eq_true (by omega)
          obtain ⟨bA, oA, hAe, hbA, hcs⟩ := ((HA.out.below b0).below z0) (by have := HN.out; omega)
          subst hAe
          obtain ⟨B, cB, e1, i1⟩ := hcs k (by have := HN.out; omega)
          have hrl := HRW.out k hkn
          rw [hrl] at e1
          obtain ⟨bB, oB, rfl, -, f1⟩ := i1 (by rw [hrl]; omega)
          have e2 := f1 i (by rw [hrl]; exact hlt)
          rw [show geti (getl T k) i = gat T k i from rfl] at e2
          have HS1 := Lib.hid (HCS.out i k)
          have HNO := Lib.hid n0
          have hzs := z0.size
          clear hcs i1 f1 hrl n0
          generalize trC T i k = X at *
          generalize gat T k i = x at *
          have hnr : Row (wr.alloc (.cells #[.int .i64 x] 3)) wr.heap.size 3 [.int .i64 x] := row_new rfl
          go_wp2_with (at_builtin; refine wpList_append_own_at _ rfl _ _ 27 rfl W.heap.size 3 j0 (.int .i64 0) 1 8 Try.underlying27 ji jz0 jz1 jz2 rfl (by decide) _ _ _ rfl (HNO.out.alloc _) ⟨wr.heap.size, 0, none⟩ 1 1 [.int .i64 x] rfl rfl (news_one hnr) (by simp [Value.oneCell']) (by unfold maxLen; omega) (by omega) (by simp; omega) ?_; intro v2 w2 o2 hg2 _ _; have b4 := z0.trans (app1' HNO.out hzs hg2))
          go_roundw
          case rel => exact ⟨k + 1, by omega, by go_num, by rw [HS1.out, iv_snoc]; exact o2, b4⟩
          case measure => simp [intOf]; omega
        · obtain rfl : k = n := by omega
          have g2 : decide ((k : Int) < (k : Int)) = false := decide_eq_false (by omega)
          have hcl := HCL.out i k
          have HN2 := Lib.hid n0
          have OO := Lib.hid (HO.out.kept' z0)
          have b6 := b0.trans (z0.mono hbs)
          have hbs6 := b6.size
          have HS2 := Lib.hid (HSN.out i)
          have RX := Lib.hid ((HR.out.below z0).add (r := trC T i k) (by rw [hcl]; exact own_mono n0 hbs))
          have hnr : Row (wr.alloc (.cells #[.slice A3 k c3] 27)) wr.heap.size 27 [.slice A3 k c3] := row_new rfl
          have HN1 := Lib.hid HN.out
          clear n0 HO HR hcl
          go_wp2_with (at_builtin; refine wpList_append_own_at _ rfl _ _ 22 rfl w.heap.size 27 k0 (.slice none 0 0) 1 24 Try.underlying22 ki kz0 kz1 kz2 rfl (by decide) _ _ _ rfl (OO.out.alloc _) ⟨wr.heap.size, 0, none⟩ 1 1 [.slice A3 k c3] rfl rfl (news_one hnr) (by simp [Value.oneCell']) (by unfold maxLen; omega) (by omega) (by simp; omega) ?_; intro v8 w8 o8 hg8 _ _)
          have b8 := b6.trans (app1' OO.out b6.size hg8)
          go_roundw
          case rel =>
            refine ⟨i + 1, cs ++ [.slice A3 k c3], by omega, by go_num, o8, Lib.hid ?_, b8⟩
            rw [HS2.out]
            exact (RX.out.below ((Below.refl _ _).alloc (Nat.le_refl _) _)).grown (OO.out.alloc _) (by decide) hg8
          case measure => simp [intOf]; omega
    · obtain rfl : i = n := by omega
      have g1 : decide ((i : Int) < (i : Int)) = false := decide_eq_false (by omega)
      go_wp2
      go_ret
      exact ⟨_, _, _, rfl, o0, by rw [show trL T = trP T T.length from rfl, HN.out]; exact HR.out, b0⟩
end Go.Proofs.Ytnnaaoobdofooaa
