/- An order made of any list. -/
import Derived.Test.YtheblebfeinjjaaOC
namespace Go.Proofs.Ytheblebfeinjjaa
open Go.RowKit
set_option maxHeartbeats 1000000
set_option maxRecDepth 100000
/-- Whether the number at place k comes before that at place i. -/
def lsT (l : List Int) (k i : Nat) : Bool := decide (geti l k < geti l i) || (decide (geti l k = geti l i) && decide (k < i))
/-- How many of the first so many come before the one at place i. -/
def rkN (l : List Int) (i : Nat) : Nat → Nat
  | 0 => 0
  | k + 1 => rkN l i k + if lsT l k i then 1 else 0
theorem lsT_iff {l : List Int} {k i : Nat} : lsT l k i = true ↔ geti l k < geti l i ∨ (geti l k = geti l i ∧ k < i) := by
  unfold lsT
  rw [Bool.or_eq_true, Bool.and_eq_true, decide_eq_true_eq, decide_eq_true_eq, decide_eq_true_eq]
theorem lsT_self (l : List Int) (i : Nat) : lsT l i i = false := by
  cases h : lsT l i i
  · rfl
  · have := lsT_iff.1 h; omega
theorem lsT_trans {l : List Int} {a b c : Nat} (h1 : lsT l a b = true) (h2 : lsT l b c = true) : lsT l a c = true := by
  have h1 := lsT_iff.1 h1
  have h2 := lsT_iff.1 h2
  refine lsT_iff.2 ?_
  omega
theorem lsT_or {l : List Int} {a b : Nat} (h : a ≠ b) : lsT l a b = true ∨ lsT l b a = true := by
  rw [lsT_iff, lsT_iff]
  omega
theorem rkN_le (l : List Int) (i : Nat) : ∀ k, rkN l i k ≤ k
  | 0 => Nat.le_refl _
  | k + 1 => by
    have := rkN_le l i k
    unfold rkN
    split <;> omega
theorem rkN_lt {l : List Int} {i j : Nat} (h : lsT l i j = true) : ∀ K, rkN l i K + (if i < K then 1 else 0) ≤ rkN l j K
  | 0 => by simp [rkN]
  | K + 1 => by
    have ih := rkN_lt h K
    have e1 : rkN l i (K + 1) = rkN l i K + if lsT l K i then 1 else 0 := rfl
    have e2 : rkN l j (K + 1) = rkN l j K + if lsT l K j then 1 else 0 := rfl
    rw [e1, e2]
    by_cases hK : K = i
    · subst hK
      rw [lsT_self, h, if_pos rfl]
      rw [if_neg (by omega)] at ih
      simp
      omega
    · by_cases hKi : lsT l K i = true
      · rw [lsT_trans hKi h, hKi]
        simp
        split <;> split at ih <;> omega
      · have hf : lsT l K i = false := by simpa using hKi
        rw [hf]
        simp
        split <;> split at ih <;> split <;> omega
theorem rkN_self {l : List Int} {i : Nat} : ∀ {K : Nat}, i < K → rkN l i K + 1 ≤ K
  | K + 1, h => by
    have e1 : rkN l i (K + 1) = rkN l i K + if lsT l K i then 1 else 0 := rfl
    rw [e1]
    by_cases hK : K = i
    · subst hK
      rw [lsT_self]
      have := rkN_le l K K
      simp
      omega
    · have := rkN_self (l := l) (i := i) (K := K) (by omega)
      split <;> omega
def tmL (l : List Int) (n : Nat) : List Int := (List.range n).map fun i : Nat => ((rkN l i n + 1 : Nat) : Int)
theorem tmL_len (l : List Int) (n : Nat) : (tmL l n).length = n := by simp [tmL]
theorem tmL_at {l : List Int} {n i : Nat} (h : i < n) : geti (tmL l n) i = (rkN l i n + 1 : Nat) := by
  unfold geti tmL
  rw [List.getD_eq_getElem?_getD, List.getElem?_map, List.getElem?_range h]; rfl
theorem tmL_iso (l : List Int) {n : Nat} (hn : n ≤ 12) : IsO (tmL l n) := by
  refine ⟨by rw [tmL_len]; exact hn, fun i hi => ?_, fun i hi => ?_, fun i k hi hk => ?_⟩
  · rw [tmL_len] at hi
    rw [tmL_at hi]; omega
  · rw [tmL_len] at hi ⊢
    rw [tmL_at hi]
    have := rkN_self (l := l) hi
    omega
  · rw [tmL_len] at hi
    rw [tmL_at hi, tmL_at (by omega)]
    rcases lsT_or (l := l) (a := k) (b := i) (by omega) with h | h
    · have := rkN_lt h n
      rw [if_pos (by omega)] at this
      omega
    · have := rkN_lt h n
      rw [if_pos hi] at this
      omega
/-- So many of it. -/
def tmP (l : List Int) (n k : Nat) : List Int := (List.range k).map fun i : Nat => ((rkN l i n + 1 : Nat) : Int)
theorem tmP_snoc (l : List Int) (n k : Nat) : tmP l n (k + 1) = tmP l n k ++ [((rkN l k n + 1 : Nat) : Int)] := by
  unfold tmP
  rw [List.range_succ, List.map_append]; rfl
theorem tame_any (A : Option Addr) (c : Nat) (l : List Int) (w : World) (hx : l.length ≤ c) (hc : c ≤ maxLen) (ha : IntsAt w A l) :
    Calls Try.prog 46 #[.slice A l.length c] w fun e w' => ∃ v, e = .returned v ∧ w'.ownsRow w.heap.size 3 1 v (min l.length 12) (iv (tmL l (min l.length 12))) ∧ Below w.heap.size w w' := by
  obtain ⟨j0, ji, jz0, jz1, jz2⟩ := info_parts info3
  have HA := Lib.hid ha
  obtain ⟨n, hn⟩ : ∃ n : Nat, min l.length 12 = n := ⟨_, rfl⟩
  rw [hn]
  have hmin : min (l.length : Int) 12 = (n : Int) := by omega
  have hnl : n ≤ l.length ∧ n ≤ 12 := by omega
  obtain ⟨hnl, hn12⟩ := hnl
  have o0 : w.ownsRow w.heap.size 3 1 (.slice none 0 0) 0 (iv (tmP l n 0)) := ⟨rfl, .inl ⟨rfl, rfl⟩⟩
  have b0 : Below w.heap.size w w := Below.refl _ _
  have HTN : Hid (tmP l n n = tmL l n) := Lib.hid rfl
  have HTL : Hid (∀ k, (tmP l n k).length = k) := Lib.hid (fun k => by simp [tmP])
  clear hn ha
  go_enter Try.func46, Try.ntmps46
  go_wp2
  go_loopw [3, 5] (fun v j wr => ∃ i : Nat, i ≤ n ∧ j = .int .i64 i ∧ wr.ownsRow w.heap.size 3 1 v i (iv (tmP l n i)) ∧ Below w.heap.size w wr) (fun _ j _ => n - (intOf j).toNat)
  case atStart => exact ⟨0, by omega, rfl, o0, b0⟩
  case round =>
    clear o0 b0
    obtain ⟨i, hi, rfl, o0, b0⟩ := hrel
    obtain ⟨A2, c2, e2, -, -, -⟩ := own_intsI o0
    rw [HTL.out] at e2
    subst e2
    by_cases hlt : i < n
    · have g1 : decide (i < n) = true := decide_eq_true hlt
      have HRS : Hid (∀ k, rkN l i (k + 1) = rkN l i k + if lsT l k i then 1 else 0) := Lib.hid (fun k => rfl)
      have HRL := Lib.hid (rkN_le l i)
      have HPS := Lib.hid ((congrArg iv (tmP_snoc l n i)).trans (iv_snoc _ _))
      go_wp2
      go_loopw [6, 7] (fun r q wr => ∃ k : Nat, k ≤ n ∧ q = .int .i64 k ∧ r = .int .i64 ((rkN l i k + 1 : Nat) : Int) ∧ wr.ownsRow w.heap.size 3 1 (.slice A2 i c2) i (iv (tmP l n i)) ∧ Below w.heap.size w wr) (fun _ q _ => n - (intOf q).toNat)
      case atStart => exact ⟨0, by omega, rfl, rfl, o0, b0⟩
      case round =>
        clear o0 b0
        obtain ⟨k, hk, rfl, rfl, o0, b0⟩ := hrel
        by_cases hkn : k < n
        · have g2 : decide (k < n) = true := decide_eq_true hkn
          obtain ⟨bA, oA, hAe, hbA, hcA⟩ := (HA.out.below b0) (by omega)
          subst hAe
          have d1 := hcA k (by omega)
          have d2 := hcA i (by omega)
          have hrl := HRL.out k
          clear hcA
          replace HRS := Lib.hid (HRS.out k)
          have hcs : geti l k < geti l i ∨ (geti l k = geti l i ∧ k < i) ∨ (geti l k = geti l i ∧ ¬ k < i) ∨ geti l i < geti l k := by omega
          have hxx := hcs
          obtain ⟨x, hx⟩ : ∃ x, geti l k = x := ⟨_, rfl⟩
          obtain ⟨y, hy⟩ : ∃ y, geti l i = y := ⟨_, rfl⟩
          rw [hx] at d1
          rw [hy] at d2
          by_cases c1 : x < y
          · have e1 : decide (x < y) = true := decide_eq_true c1
            have HR2 : Hid (rkN l i (k + 1) = rkN l i k + 1) := Lib.hid (by rw [HRS.out, if_pos (lsT_iff.2 (by omega))])
            clear hcs hxx hx hy c1 HRS
            generalize rkN l i k = m at *
            go_wp2
            refine wp_region_quiet_lit (by kernel_rfl) (by kernel_rfl) ?_
            repeat go_big_quiet_step ((fail))
            refine wpQuiet_nil ?_
            rintro _ ⟨nq, rfl⟩
            go_wp2
            go_roundw
            case rel => exact ⟨k + 1, by omega, by go_num, by rw [HR2.out] <;> go_num, o0.kept' (below_drewN nq), b0.trans (below_drewN nq)⟩
            case measure => simp [intOf]; omega
          · have e1 : decide (x < y) = false := decide_eq_false c1
            by_cases c3 : x = y
            · have e2 : (x == y) = true := by simp [c3]
              by_cases c4 : k < i
              · have e3 : decide (k < i) = true := decide_eq_true c4
                have HR2 : Hid (rkN l i (k + 1) = rkN l i k + 1) := Lib.hid (by rw [HRS.out, if_pos (lsT_iff.2 (by omega))])
                clear hcs hxx hx hy c1 c3 c4 HRS
                generalize rkN l i k = m at *
                go_wp2
                refine wp_region_quiet_lit (by kernel_rfl) (by kernel_rfl) ?_
                repeat go_big_quiet_step ((fail))
                refine wpQuiet_nil ?_
                rintro _ ⟨nq, rfl⟩
                go_wp2
                go_roundw
                case rel => exact ⟨k + 1, by omega, by go_num, by rw [HR2.out] <;> go_num, o0.kept' (below_drewN nq), b0.trans (below_drewN nq)⟩
                case measure => simp [intOf]; omega
              · have e3 : decide (k < i) = false := decide_eq_false c4
                have HR2 : Hid (rkN l i (k + 1) = rkN l i k) := Lib.hid (by
                have h := HRS.out
                rw [if_neg (fun h => by have := lsT_iff.1 h; omega)] at h
                simpa using h)
                clear hcs hxx hx hy c1 c3 c4 HRS
                generalize rkN l i k = m at *
                go_wp2
                refine wp_region_quiet_lit (by kernel_rfl) (by kernel_rfl) ?_
                repeat go_big_quiet_step ((fail))
                refine wpQuiet_nil ?_
                rintro _ ⟨nq, rfl⟩
                go_wp2
                go_roundw
                case rel => exact ⟨k + 1, by omega, by go_num, by rw [HR2.out] <;> go_num, o0.kept' (below_drewN nq), b0.trans (below_drewN nq)⟩
                case measure => simp [intOf]; omega
            · have e2 : (x == y) = false := by simpa using c3
              have HR2 : Hid (rkN l i (k + 1) = rkN l i k) := Lib.hid (by
                have h := HRS.out
                rw [if_neg (fun h => by have := lsT_iff.1 h; omega)] at h
                simpa using h)
              clear hcs hxx hx hy c1 c3 HRS
              generalize rkN l i k = m at *
              go_wp2
              refine wp_region_quiet_lit (by kernel_rfl) (by kernel_rfl) ?_
              repeat go_big_quiet_step ((fail))
              refine wpQuiet_nil ?_
              rintro _ ⟨nq, rfl⟩
              go_wp2
              go_roundw
              case rel => exact ⟨k + 1, by omega, by go_num, by rw [HR2.out] <;> go_num, o0.kept' (below_drewN nq), b0.trans (below_drewN nq)⟩
              case measure => simp [intOf]; omega
        · obtain rfl : k = n := by omega
          have g2 : decide (k < k) = false := decide_eq_false hkn
          have hrl := HRL.out k
          generalize rkN l i k = m at *
          have hnr : Row (wr.alloc (.cells #[.int .i64 ((m + 1 : Nat) : Int)] 3)) wr.heap.size 3 [.int .i64 ((m + 1 : Nat) : Int)] := row_new rfl
          have hbs := b0.size
          go_wp2_with (at_builtin; refine wpList_append_own_at _ rfl (.tmp 48) (.tmp 50) 22 rfl w.heap.size 3 j0 (.int .i64 0) 1 8 Try.underlying22 ji jz0 jz1 jz2 rfl (by decide) _ _ _ rfl (o0.alloc _) ⟨wr.heap.size, 0, none⟩ 1 1 [.int .i64 ((m + 1 : Nat) : Int)] rfl rfl (news_one hnr) (by simp [Value.oneCell']) (by unfold maxLen; omega) (by omega) (by simp; omega) ?_; intro v2 w2 o2 hg2 _ _; rw [← HPS.out] at o2; have b3 := b0.trans (app1' o0 hbs hg2))
          go_roundw
          case rel => exact ⟨i + 1, by omega, by go_num, o2, b3⟩
          case measure => simp [intOf]; omega
    · obtain rfl : i = n := by omega
      rw [HTN.out] at o0
      have g1 : decide (i < i) = false := decide_eq_false hlt
      go_wp2
      go_ret
      exact ⟨_, rfl, o0, b0⟩
end Go.Proofs.Ytheblebfeinjjaa
