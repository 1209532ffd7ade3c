/- The reference's image of a set under a button. -/
import Derived.Test.YtignbpipdfjkeaaDoorAW
namespace Go.Proofs.YtignbpipdfjkeaaDoor
open Go.RowKit
set_option maxHeartbeats 1000000
set_option maxRecDepth 100000
theorem ofInt_i64 (a : Nat) (ha : a < 4611686018427387904) : (BitVec.ofInt 64 (a : Int)).toNat = a := by
  rw [BitVec.ofInt_natCast, BitVec.toNat_ofNat]; exact Nat.mod_eq_of_lt (by omega)
theorem i64_or_nat (a b : Nat) (ha : a < 65536) (hb : b < 65536) : bits BinOp.or IntKind.i64 (a : Int) (b : Int) = ((a ||| b : Nat) : Int) := by
  have hx : a ||| b < 2 ^ 16 := Nat.or_lt_two_pow (by omega) (by omega)
  show IntKind.i64.wrap ((BitVec.ofInt 64 (a : Int) ||| BitVec.ofInt 64 (b : Int)).toNat : Int) = _
  rw [BitVec.toNat_or, ofInt_i64 a (by omega), ofInt_i64 b (by omega)]
  exact IntWalk.i64_in _ (by omega)
theorem bit_tmod1 (s c : Nat) : ((((s : Int) / (2 : Int)^c).tmod 2) == 1) = s.testBit c := by
  have h1 : ((s:Int) / (2 : Int)^c) = ((s / 2^c : Nat) : Int) := by rw [pow_cast]; rfl
  rw [h1, show Int.tmod ((s / 2^c : Nat) : Int) 2 = ((s / 2^c % 2 : Nat) : Int) from rfl, Nat.testBit_eq_decide_div_mod_eq]
  rw [Bool.eq_iff_iff]; simp; omega
/-- The image of the states below k. -/
def prP (T : Tab) (s b k : Nat) : Nat := orL T b 0 ((List.range k).filter fun q => s.testBit q)
theorem prP_step (T : Tab) (s b k : Nat) : prP T s b (k + 1) = if s.testBit k = true then prP T s b k ||| 2 ^ ld T b k else prP T s b k := by
  unfold prP orL
  rw [List.range_succ, List.filter_append, List.foldl_append]
  cases h : s.testBit k <;> simp [h]
theorem prP_end {T : Tab} {n s b : Nat} (hn : n ≤ 9) (hs : IsS n s) : prP T s b n = prs T s b := by
  unfold prP prs bitsS
  congr 1
  obtain ⟨d, hd⟩ : ∃ d, 9 = n + d := ⟨9 - n, by omega⟩
  rw [hd, List.range_add, List.filter_append]
  have : ((List.range d).map (n + ·)).filter (fun q => s.testBit q) = [] := by
    rw [List.filter_eq_nil_iff]
    intro q hq
    obtain ⟨j, _, rfl⟩ := List.mem_map.1 hq
    rw [Nat.testBit_lt_two_pow (Nat.lt_of_lt_of_le hs (Nat.pow_le_pow_right (by decide) (by omega)))]
    decide
  rw [this, List.append_nil]
theorem wrap_or {y x : Nat} (hy : y < 512) (hx : x < 9) : bits BinOp.or IntKind.i64 (y : Int) (wrap64 ((2 : Int) ^ x)) = ((y ||| 2 ^ x : Nat) : Int) := by
  have h1 : 2 ^ x ≤ 2 ^ 9 := Nat.pow_le_pow_right (by decide) (by omega)
  rw [pow_cast]
  generalize 2 ^ x = P at *
  rw [IntWalk.wrap64_in _ ⟨by omega, by omega⟩, i64_or_nat _ _ (by omega) (by omega)]
theorem Press_any (A : Option Addr) (c : Nat) (L : List (List Int)) (s b : Nat) (w : World) (h : IsMI L) (hs : IsS (nS L) s) (hb : b < L.length) (ha : RowsAt w A L) :
    Calls Tryd.prog 65 #[.slice A L.length c, .int .i64 s, .int .i64 b] w fun e w' => e = .returned (.int .i64 (prs (tabN L) s b)) ∧ ∃ n, w' = w.drewN n := by
  have hs512 := set512 h.n9 hs
  have hk1 := h.k1
  have hn9 := h.n9
  obtain ⟨bA, oA, rfl, hbA, hcA⟩ := ha h.k1
  obtain ⟨B0, c0, h0, -⟩ := hcA 0 h.k1
  obtain ⟨B1, c1, h1, i1⟩ := hcA b hb
  rw [show (getl L 0).length = nS L from rfl, Nat.add_zero] at h0
  rw [h.row b hb] at h1
  have hrow := h.row b hb
  obtain ⟨bB, oB, rfl, hbB, hcB⟩ := i1 (by rw [hrow]; exact h.n1)
  have HCB := Lib.hid (fun q (hq : q < nS L) => (hcB q (by rw [hrow]; exact hq)).trans (congrArg (fun x => some (Value.int .i64 x)) (h.ld b q).1))
  have HLT := Lib.hid (fun q => (h.ld b q).2)
  have HE := Lib.hid (prP_end (T := tabN L) (b := b) h.n9 hs)
  have HP := Lib.hid (prP_step (tabN L) s b)
  clear hcA i1 hcB hrow h hs ha
  generalize prs (tabN L) s b = Y at *
  generalize tabN L = T at *
  generalize nS L = n at *
  have HLE : Hid (∀ k, k ≤ 9 → prP T s b k < 512) := Lib.hid (fun k hk => by
    induction k with
    | zero => unfold prP orL; simp
    | succ k ih =>
      rw [HP.out k]
      split
      · exact or_lt (ih (by omega)) (HLT.out k)
      · exact ih (by omega))
  go_enter Tryd.func65, Tryd.ntmps65
  go_wp2
  go_loopw [7, 8] (fun v u wr => ∃ k m : Nat, k ≤ n ∧ v = .int .i64 (prP T s b k) ∧ u = .int .i64 k ∧ wr = w.drewN m) (fun _ u _ => n - (intOf u).toNat)
  case atStart => exact ⟨0, 0, by omega, rfl, rfl, rfl⟩
  case round =>
    obtain ⟨k, m, hk, rfl, rfl, rfl⟩ := hrel
    by_cases hlt : k < n
    · have g1 : decide (k < n) = true := decide_eq_true hlt
      have c1 := HCB.out k hlt
      have hx := HLT.out k
      have hle := HLE.out k (by omega)
      have HB := bit_tmod1 s k
      have HPS := Lib.hid (HP.out k)
      obtain ⟨x, hxx⟩ : ∃ x, ld T b k = x := ⟨_, rfl⟩
      rw [hxx] at c1 hx HPS
      obtain ⟨y, hy⟩ : ∃ y, prP T s b k = y := ⟨_, rfl⟩
      rw [hy] at HPS hle
      have HWO := Lib.hid (wrap_or hle hx)
      cases hb2 : s.testBit k
      · rw [hb2] at HB HPS
        have HPQ : Hid (prP T s b (k + 1) = y) := HPS
        clear HPS hb2
        have HY := Lib.hid hy
        clear hy
        go_wp2
        go_roundw
        case rel => exact ⟨k + 1, m, by omega, by rw [HPQ.out, HY.out], by go_num, rfl⟩
        case measure => simp [intOf]; omega
      · rw [hb2] at HB HPS
        have HPQ : Hid (prP T s b (k + 1) = y ||| 2 ^ x) := HPS
        clear HPS hb2
        have HY := Lib.hid hy
        clear hy
        go_wp2
        go_roundw
        case rel => exact ⟨k + 1, m, by omega, by rw [HPQ.out, HY.out, HWO.out], by go_num, rfl⟩
        case measure => simp [intOf]; omega
    · obtain rfl : k = n := by omega
      have g1 : decide (k < k) = false := decide_eq_false (by omega)
      have hy := HE.out
      rw [hy]
      go_wp2
      go_ret
      exact ⟨rfl, m, rfl⟩
end Go.Proofs.YtignbpipdfjkeaaDoor
