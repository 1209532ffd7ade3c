/- Words made from strings; later and All. -/
import Derived.Test.YtignbpipdfjkeaaDoorMH
import Derived.Test.YtignbpipdfjkeaaDoorAR
import Derived.Test.YtignbpipdfjkeaaDoorBB
/- word and later: helpers of the laws. -/
namespace Go.Proofs.YtignbpipdfjkeaaDoor
open Go.RowKit Go.PlainAid
set_option maxHeartbeats 2000000
set_option maxRecDepth 100000
/-- The first i buttons that a string gives. -/
def wdP (k : Nat) (s : ByteArray) (i : Nat) : List Nat := (List.range i).map fun j => (bt s j).toNat % k
theorem wdP_len (k : Nat) (s : ByteArray) (i : Nat) : (wdP k s i).length = i := by simp [wdP]
theorem wdP_succ (k : Nat) (s : ByteArray) (i : Nat) : wdP k s (i + 1) = wdP k s i ++ [(bt s i).toNat % k] := by simp [wdP, List.range_succ]
theorem wdP_ok {k : Nat} (hk : 1 ≤ k) (s : ByteArray) (i : Nat) : okW k (wdP k s i) := fun b hb => by
  unfold wdP at hb
  obtain ⟨j, -, rfl⟩ := List.mem_map.1 hb
  exact Nat.mod_lt _ hk
theorem own_bytes2 {w : World} {b n : Nat} {v : Value} {xs : List Int} (h : w.ownsRow b 5 1 v n (bv xs)) : (v = .slice none 0 0 ∧ n = 0) ∨ ∃ g c, v = .slice (some ⟨g, 0, none⟩) n c ∧ ∀ i, i < n → ∃ x, xs[i]? = some x ∧ w.cell? ⟨g, i, none⟩ = some (.int .u8 x) := by
  have hl : xs.length = n := by have := h.1; rw [bv_len] at this; omega
  rcases h.2 with h1 | ⟨g, cap, cur, rfl, hb, hg, hc, _, hs, ht⟩
  · exact .inl h1
  · refine .inr ⟨g, cap, rfl, fun i hi => ⟨xs[i], List.getElem?_eq_getElem (by omega), ?_⟩⟩
    rw [cell_of_row w g _ _ _ _ hg]
    have e1 : cur.toList[i]? = (bv xs)[i]? := by rw [← ht, List.getElem?_take, if_pos (by omega)]
    rw [← Array.getElem?_toList, e1]
    unfold bv
    rw [List.getElem?_map, List.getElem?_eq_getElem (by omega)]; rfl
theorem conv_own {w : World} {b n : Nat} {v : Value} {x : List Nat} (h : w.ownsRow b 5 1 v n (bv (wI x))) (hn : n = x.length) : (convert 101 9 v).run Tryd.prog w = .ok (.string (wS x)) w := by
  subst hn
  rcases own_bytes2 h with ⟨rfl, h0⟩ | ⟨g, c, rfl, hc⟩
  · have : x = [] := List.eq_nil_of_length_eq_zero h0
    subst this
    rfl
  · refine run_convert_bytes_arg (P := Tryd.prog) w 101 5 Tryd.underlying101 Tryd.underlying5 g 0 x.length c (wI x) (wI_len x) (fun i hi => ?_) 9 Tryd.underlying9
    obtain ⟨z, h1, h2⟩ := hc i (by omega)
    rw [Nat.zero_add, h2, List.getD_eq_getElem?_getD, h1]; rfl
theorem word_any (A : Option Addr) (c k most : Nat) (s : ByteArray) (w : World) (hk : 1 ≤ k) (hk4 : k ≤ 4) (hs : s.size ≤ 9223372036854775807) (hm : most ≤ 1000) :
    Calls Tryd.prog 46 #[.slice A k c, .string s, .int .i64 (most : Nat)] w fun e w' => e = .returned (.string (wS (wdP k s (min s.size most)))) ∧ Below w.heap.size w w' := by
  obtain ⟨j0, ji, jz0, jz1, jz2⟩ := info_parts info5
  have o0 : w.ownsRow w.heap.size 5 1 (.slice none 0 0) 0 (bv (wI (wdP k s 0))) := ⟨rfl, .inl ⟨rfl, rfl⟩⟩
  have b0 := Below.refl w.heap.size w
  have hb := get_bt s
  have hk0 : ((k : Int) == 0) = false := by rw [beq_eq_false_iff_ne]; omega
  have HWS := Lib.hid (wdP_succ k s)
  have HLN := Lib.hid (wdP_len k s)
  obtain ⟨N, hN⟩ : ∃ N, min s.size most = N := ⟨_, rfl⟩
  rw [hN]
  have HN := Lib.hid hN
  have hN1 : N ≤ s.size := by omega
  have hN2 : N ≤ most := by omega
  clear hN
  go_enter Tryd.func46, Tryd.ntmps46
  go_wp2
  go_loopw [7, 8] (fun v i wr => ∃ j : Nat, i = .int .i64 j ∧ j ≤ N ∧ wr.ownsRow w.heap.size 5 1 v j (bv (wI (wdP k s j))) ∧ Below w.heap.size w wr) (fun _ i _ => N - (intOf i).toNat)
  case atStart => exact ⟨0, rfl, by omega, o0, b0⟩
  case round =>
    clear o0 b0
    obtain ⟨j, rfl, hj, o0, b0⟩ := hrel
    by_cases hlt : j < N
    · have g1 : decide (j < s.size) = true := decide_eq_true (by omega)
      have g2 : decide (j < most) = true := decide_eq_true (by omega)
      have hjs : j < s.size := by omega
      have hbj := hb j hjs
      have hb1 := bt_nonneg s j
      have hb2 := bt_le s j
      have HW1 := Lib.hid (HWS.out j)
      obtain ⟨x, hx⟩ : ∃ x : Nat, bt s j = (x : Int) := ⟨(bt s j).toNat, by omega⟩
      rw [hx, Int.toNat_natCast] at HW1
      rw [hx] at hbj hb2
      have e1 : Int.tmod (x : Int) (k : Int) = ((x % k : Nat) : Int) := rfl
      have hlk : x % k < k := Nat.mod_lt _ hk
      obtain ⟨y, hy⟩ : ∃ y, x % k = y := ⟨_, rfl⟩
      rw [hy] at e1 HW1 hlk
      have hw1 : IntKind.u8.wrap (y : Int) = y := by simp [IntKind.wrap, IntKind.bits, IntKind.signed]; omega
      have hw2 : IntKind.u8.wrap (97 + (y : Int)) = 97 + y := by simp [IntKind.wrap, IntKind.bits, IntKind.signed]; omega
      have hw3 : (y : Int) % 256 = y := by omega
      have hw4 : (97 + (y : Int)) % 256 = 97 + y := by omega
      clear hx hy hb hb1
      obtain ⟨A2, c2, rfl⟩ := own_shape o0
      have hbs := b0.size
      have hnr : Row (wr.alloc (.cells #[.int .u8 (97 + (y : Int))] 5)) wr.heap.size 5 [.int .u8 (97 + (y : Int))] := row_new rfl
      go_wp2_with ((with_reducible refine (?_ : wpList _ _ _ (Oper.mk (some 31) _ _ _ _ _ :: _) _ _)); refine wpList_append_own_at _ rfl _ _ 101 rfl w.heap.size 5 j0 (.int .u8 0) 1 1 Tryd.underlying101 ji jz0 jz1 jz2 rfl (by decide) _ _ _ rfl (o0.alloc _) ⟨wr.heap.size, 0, none⟩ 1 1 [.int .u8 (97 + (y : Int))] rfl rfl (news_one hnr) (by simp [Value.oneCell']) (by unfold maxLen; omega) (by omega) (by simp; omega) ?_; intro v2 w2 o2 hg2 _ _; have b4 := b0.trans (app1' o0 hbs hg2))
      go_roundw
      case rel => exact ⟨j + 1, by go_num, by omega, by rw [HW1.out, show wI (wdP k s j ++ [y]) = wI (wdP k s j) ++ [97 + (y : Int)] by simp [wI], bv_snoc]; exact o2, b4⟩
      case measure => simp [intOf]; omega
    · obtain rfl : j = N := by omega
      have hcv := conv_own o0 (by rw [HLN.out])
      obtain ⟨A2, c2, rfl⟩ := own_shape o0
      have HR := HN.out
      by_cases h1 : j < s.size
      · have g1 : decide (j < s.size) = true := decide_eq_true h1
        have g2 : decide (j < most) = false := decide_eq_false (by omega)
        clear HR
        go_wp2
        go_ret
        exact ⟨rfl, b0⟩
      · have g1 : decide (j < s.size) = false := decide_eq_false h1
        clear HR
        go_wp2
        go_ret
        exact ⟨rfl, b0⟩
end Go.Proofs.YtignbpipdfjkeaaDoor
/- later and All. -/
namespace Go.Proofs.YtignbpipdfjkeaaDoor
open Go.RowKit Go.PlainAid
set_option maxHeartbeats 2000000
set_option maxRecDepth 100000
theorem refAll_any (A : Option Addr) (c : Nat) (L : List (List Int)) (w : World) (h : IsMI L) (ha : RowsAt w A L) :
    Calls Tryd.prog 24 #[.slice A L.length c] w fun e w' => e = .returned (.int .i64 (2 ^ nS L - 1 : Nat)) ∧ w = w' := by
  obtain ⟨bA, oA, hA, hbA, hcA⟩ := ha h.k1
  subst hA
  obtain ⟨B0, c0, d0, -⟩ := hcA 0 h.k1
  rw [show (getl L 0).length = nS L from rfl, Nat.add_zero] at d0
  have hk1 := h.k1
  have hn9 := h.n9
  have HP : Hid (wrap64 (wrap64 ((2 : Int) ^ nS L) - 1) = ((2 ^ nS L - 1 : Nat) : Int)) := Lib.hid (by
    have h1 : 2 ^ nS L ≤ 2 ^ 9 := Nat.pow_le_pow_right (by decide) hn9
    have h2 := Nat.two_pow_pos (nS L)
    rw [pow_cast]
    generalize 2 ^ nS L = P at *
    have e1 : wrap64 (P : Int) = P := IntWalk.wrap64_in _ ⟨by omega, by omega⟩
    rw [e1, IntWalk.wrap64_in _ ⟨by omega, by omega⟩]
    omega)
  clear ha hcA h
  generalize nS L = n at *
  go_enter Tryd.func24, Tryd.ntmps24
  go_wp2
  go_ret
  exact ⟨by rw [← HP.out]; rfl, rfl⟩
/-- One string comes after another one: by length, then by bytes. -/
def ltrB (a b : ByteArray) : Bool := decide (b.size < a.size) || (decide (a.size = b.size) && (!Op.bytesLess a.toList b.toList && !a.toList == b.toList))
theorem later_any (a b : ByteArray) (w : World) : Calls Tryd.prog 49 #[.string a, .string b] w fun e w' => e = .returned (.bool (ltrB a b)) ∧ w = w' := by
  have HL : Hid (ltrB a b = (decide (b.size < a.size) || (decide (a.size = b.size) && (!Op.bytesLess a.toList b.toList && !a.toList == b.toList)))) := Lib.hid rfl
  by_cases h1 : b.size < a.size
  · have g1 : decide (b.size < a.size) = true := decide_eq_true h1
    clear h1
    go_enter Tryd.func49, Tryd.ntmps49
    go_wp2
    go_ret
    exact ⟨ret_bool (by rw [HL.out, g1]; rfl), rfl⟩
  · have g1 : decide (b.size < a.size) = false := decide_eq_false h1
    by_cases h2 : a.size = b.size
    · have g2 : ((a.size : Int) == (b.size : Int)) = true := by rw [beq_iff_eq, h2]
      have g3 := Lib.hid (decide_eq_true h2)
      clear h1 h2
      go_enter Tryd.func49, Tryd.ntmps49
      go_wp2
      go_ret
      exact ⟨ret_bool (by rw [HL.out, g1, g3.out]; rfl), rfl⟩
    · have g2 : ((a.size : Int) == (b.size : Int)) = false := by rw [beq_eq_false_iff_ne]; omega
      have g3 := Lib.hid (decide_eq_false h2)
      clear h1 h2
      go_enter Tryd.func49, Tryd.ntmps49
      go_wp2
      go_ret
      exact ⟨ret_bool (by rw [HL.out, g1, g3.out]; rfl), rfl⟩
end Go.Proofs.YtignbpipdfjkeaaDoor
