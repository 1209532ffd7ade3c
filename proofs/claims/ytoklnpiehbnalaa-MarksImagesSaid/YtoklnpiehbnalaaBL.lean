/- tame: a word made from any string. -/
import Derived.Test.YtoklnpiehbnalaaAB
namespace Go.Proofs.Ytoklnpiehbnalaa
open Go.RowKit Go.PlainAid
set_option maxHeartbeats 2000000
set_option maxRecDepth 100000
theorem info5 : (Try.prog.info? 5).map (fun i => (i.zero, i.size, i.bytes)) = some (some (.int .u8 0), 1, 1) := by kernel_rfl
def bv (xs : List Int) : List Value := xs.map (Value.int .u8)
theorem bv_len (xs : List Int) : (bv xs).length = xs.length := by simp [bv]
theorem bv_snoc (xs : List Int) (z : Int) : bv (xs ++ [z]) = bv xs ++ [.int .u8 z] := by simp [bv]
/-- The first i letters that a string gives. -/
def tmP (k : Nat) (s : ByteArray) (i : Nat) : List Nat := (List.range i).map fun j => (bt s j).toNat % k
theorem tmP_len (k : Nat) (s : ByteArray) (i : Nat) : (tmP k s i).length = i := by simp [tmP]
theorem tmP_succ (k : Nat) (s : ByteArray) (i : Nat) : tmP k s (i + 1) = tmP k s i ++ [(bt s i).toNat % k] := by simp [tmP, List.range_succ]
theorem tmP_ok {k : Nat} (hk : 1 ≤ k) (s : ByteArray) (i : Nat) : ∀ b, b ∈ tmP k s i → b < k := fun b hb => by
  unfold tmP at hb
  obtain ⟨j, -, rfl⟩ := List.mem_map.1 hb
  exact Nat.mod_lt _ hk
theorem own_bytes2 {w : World} {b n : Nat} {v : Value} {xs : List Int} (h : w.ownsRow b 5 1 v n (bv xs)) : (v = .slice none 0 0 ∧ n = 0) ∨ ∃ g c, v = .slice (some ⟨g, 0, none⟩) n c ∧ ∀ i, i < n → ∃ x, xs[i]? = some x ∧ w.cell? ⟨g, i, none⟩ = some (.int .u8 x) := by
  have hl : xs.length = n := by have := h.1; rw [bv_len] at this; omega
  rcases h.2 with h1 | ⟨g, cap, cur, rfl, hb, hg, hc, _, hs, ht⟩
  · exact .inl h1
  · refine .inr ⟨g, cap, rfl, fun i hi => ⟨xs[i], List.getElem?_eq_getElem (by omega), ?_⟩⟩
    rw [cell_of_row w g _ _ _ _ hg]
    have e1 : cur.toList[i]? = (bv xs)[i]? := by rw [← ht, List.getElem?_take, if_pos (by omega)]
    rw [← Array.getElem?_toList, e1]
    unfold bv
    rw [List.getElem?_map, List.getElem?_eq_getElem (by omega)]; rfl
theorem conv_own {w : World} {b n : Nat} {v : Value} {x : List Nat} (h : w.ownsRow b 5 1 v n (bv (wI x))) (hn : n = x.length) : (convert 71 9 v).run Try.prog w = .ok (.string (wS x)) w := by
  subst hn
  rcases own_bytes2 h with ⟨rfl, h0⟩ | ⟨g, c, rfl, hc⟩
  · have : x = [] := List.eq_nil_of_length_eq_zero h0
    subst this
    rfl
  · refine run_convert_bytes_arg (P := Try.prog) w 71 5 Try.underlying71 Try.underlying5 g 0 x.length c (wI x) (wI_len x) (fun i hi => ?_) 9 Try.underlying9
    obtain ⟨z, h1, h2⟩ := hc i (by omega)
    rw [Nat.zero_add, h2, List.getD_eq_getElem?_getD, h1]; rfl
theorem own_shape1 {w : World} {b n : Nat} {e : TypeId} {v : Value} {xs : List Value} (h : w.ownsRow b e 1 v n xs) : ∃ A c, v = .slice A n c := by
  rcases h.2 with ⟨rfl, h0⟩ | ⟨g, cap, cur, rfl, _⟩
  · exact ⟨none, 0, by rw [h0]⟩
  · exact ⟨_, cap, rfl⟩
/-- The word that tame makes. -/
def tmW (k most : Nat) (s : ByteArray) : List Nat := tmP k s (min s.size most)
theorem tmW_len (k most : Nat) (s : ByteArray) : (tmW k most s).length ≤ most := by unfold tmW; rw [tmP_len]; omega
theorem tmW_ok {k : Nat} (hk : 1 ≤ k) (most : Nat) (s : ByteArray) : ∀ b, b ∈ tmW k most s → b < k := tmP_ok hk s _
theorem tame_any (k most : Nat) (s : ByteArray) (w : World) (hk : 1 ≤ k) (hk4 : k ≤ 4) (hs : s.size ≤ 9223372036854775807) (hm : most ≤ 1000) :
    Calls Try.prog 48 #[.string s, .int .i64 (most : Nat), .int .i64 k] w fun e w' => e = .returned (.string (wS (tmW k most s))) ∧ Below w.heap.size w w' := by
  obtain ⟨j0, ji, jz0, jz1, jz2⟩ := info_parts info5
  have o0 : w.ownsRow w.heap.size 5 1 (.slice none 0 0) 0 (bv (wI (tmP k s 0))) := ⟨rfl, .inl ⟨rfl, rfl⟩⟩
  have b0 := Below.refl w.heap.size w
  have hb := get_bt s
  have hk0 : ((k : Int) == 0) = false := by rw [beq_eq_false_iff_ne]; omega
  have hkw : IntKind.u8.wrap (k : Int) = k := by simp [IntKind.wrap, IntKind.bits, IntKind.signed]; omega
  have hkm : (k : Int) % 256 = k := by omega
  have HWS := Lib.hid (tmP_succ k s)
  have HLN := Lib.hid (tmP_len k s)
  obtain ⟨N, hN⟩ : ∃ N, min s.size most = N := ⟨_, rfl⟩
  have HTW : Hid (tmW k most s = tmP k s N) := Lib.hid (by rw [← hN]; rfl)
  have hN1 : N ≤ s.size := by omega
  have hN2 : N ≤ most := by omega
  have HN : Hid (min s.size most = N) := Lib.hid hN
  clear hN
  go_enter Try.func48, Try.ntmps48
  go_wp2
  go_loopw [7, 8] (fun v i wr => ∃ j : Nat, i = .int .i64 j ∧ j ≤ N ∧ wr.ownsRow w.heap.size 5 1 v j (bv (wI (tmP k s j))) ∧ Below w.heap.size w wr) (fun _ i _ => N - (intOf i).toNat)
  case atStart => exact ⟨0, rfl, by omega, o0, b0⟩
  case round =>
    clear o0 b0
    obtain ⟨j, rfl, hj, o0, b0⟩ := hrel
    by_cases hlt : j < N
    · have g1 : decide (j < s.size) = true := decide_eq_true (by omega)
      have g2 : decide (j < most) = true := decide_eq_true (by omega)
      have hjs : j < s.size := by omega
      have hbj := hb j hjs
      have hb1 := bt_nonneg s j
      have hb2 := bt_le s j
      have HW1 := Lib.hid (HWS.out j)
      obtain ⟨x, hx⟩ : ∃ x : Nat, bt s j = (x : Int) := ⟨(bt s j).toNat, by omega⟩
      rw [hx, Int.toNat_natCast] at HW1
      rw [hx] at hbj hb2
      have e1 : Int.tmod (x : Int) (k : Int) = ((x % k : Nat) : Int) := rfl
      have hlk : x % k < k := Nat.mod_lt _ hk
      obtain ⟨y, hy⟩ : ∃ y, x % k = y := ⟨_, rfl⟩
      rw [hy] at e1 HW1 hlk
      have hw1 : IntKind.u8.wrap (y : Int) = y := by simp [IntKind.wrap, IntKind.bits, IntKind.signed]; omega
      have hw2 : IntKind.u8.wrap (97 + (y : Int)) = 97 + y := by simp [IntKind.wrap, IntKind.bits, IntKind.signed]; omega
      have hw3 : (y : Int) % 256 = y := by omega
      have hw4 : (97 + (y : Int)) % 256 = 97 + y := by omega
      clear hx hy hb hb1
      obtain ⟨A2, c2, rfl⟩ := own_shape1 o0
      have hbs := b0.size
      have hnr : Row (wr.alloc (.cells #[.int .u8 (97 + (y : Int))] 5)) wr.heap.size 5 [.int .u8 (97 + (y : Int))] := row_new rfl
      go_wp2_with ((with_reducible refine (?_ : wpList _ _ _ (Oper.mk (some 31) _ _ _ _ _ :: _) _ _)); refine wpList_append_own_at _ rfl _ _ 71 rfl w.heap.size 5 j0 (.int .u8 0) 1 1 Try.underlying71 ji jz0 jz1 jz2 rfl (by decide) _ _ _ rfl (o0.alloc _) ⟨wr.heap.size, 0, none⟩ 1 1 [.int .u8 (97 + (y : Int))] rfl rfl (news_one hnr) (by simp [Value.oneCell']) (by unfold maxLen; omega) (by omega) (by simp; omega) ?_; intro v2 w2 o2 hg2 _ _; have b4 := b0.trans (app1' o0 hbs hg2))
      go_roundw
      case rel => exact ⟨j + 1, by go_num, by omega, by rw [HW1.out, show wI (tmP k s j ++ [y]) = wI (tmP k s j) ++ [97 + (y : Int)] by simp [wI], bv_snoc]; exact o2, b4⟩
      case measure => simp [intOf]; omega
    · obtain rfl : j = N := by omega
      have hcv := conv_own o0 (by rw [HLN.out])
      obtain ⟨A2, c2, rfl⟩ := own_shape1 o0
      have HR := HN.out
      by_cases h1 : j < s.size
      · have g1 : decide (j < s.size) = true := decide_eq_true h1
        have g2 : decide (j < most) = false := decide_eq_false (by omega)
        clear HR
        go_wp2
        go_ret
        exact ⟨by rw [HTW.out]; rfl, b0⟩
      · have g1 : decide (j < s.size) = false := decide_eq_false h1
        clear HR
        go_wp2
        go_ret
        exact ⟨by rw [HTW.out]; rfl, b0⟩
end Go.Proofs.Ytoklnpiehbnalaa
