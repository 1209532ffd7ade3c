/- The reference's numbers, words and images. -/
import Derived.Test.YtignbpipdfjkeaaDoorBK
import Derived.Test.YtignbpipdfjkeaaDoorAZ
namespace Go.Proofs.YtignbpipdfjkeaaDoor
open Go.RowKit Go.PlainAid
set_option maxHeartbeats 2000000
set_option maxRecDepth 100000
theorem refNumber_any (n : Nat) (B : Option Addr) (d : Nat) (l : List Int) (w : World) (hn9 : n ≤ 9) (ho : okS n l = true) (hb : IntsAt w B l) (hl : l.length ≤ 1000) :
    Calls Tryd.prog 36 #[.slice B l.length d] w fun e w' => e = .returned (.int .i64 (setL l : Nat)) ∧ w = w' := by
  have HC : Hid (∀ k, k < l.length → ∃ b o, B = some ⟨b, o, none⟩ ∧ ∃ v : Nat, v < 9 ∧ w.cell? ⟨b, o + k, none⟩ = some (.int .i64 (v : Nat)) ∧ setP l (k + 1) = setP l k + 2 ^ v ∧ setP l k < 512) := Lib.hid (fun k hk => by
    obtain ⟨b, o, e, -, hc⟩ := hb (by omega)
    obtain ⟨g1, g2, g3⟩ := goodA_iff.1 (okS_at ho hk)
    refine ⟨b, o, e, (geti l k).toNat, by omega, ?_, setP_add (n := n) (fun i hi => okS_at ho (by omega)), set512 hn9 (setP_set (n := n) (fun i hi => okS_at ho (by omega)))⟩
    rw [hc k hk, Int.toNat_of_nonneg g2])
  have HSL : Hid (setP l l.length = setL l) := Lib.hid rfl
  clear hb ho hn9
  go_enter Tryd.func36, Tryd.ntmps36
  go_wp2
  go_loopw [3, 4] (fun s i wr => ∃ k : Nat, i = .int .i64 k ∧ k ≤ l.length ∧ s = .int .i64 (setP l k : Nat) ∧ wr = w) (fun _ i _ => l.length - (intOf i).toNat)
  case atStart => exact ⟨0, rfl, by omega, rfl, rfl⟩
  case round =>
    obtain ⟨k, rfl, hk, rfl, rfl⟩ := hrel
    by_cases hlt : k < l.length
    · have g1 : decide (k < l.length) = true := decide_eq_true hlt
      obtain ⟨bB, oB, rfl, v, hv, cx, hs1, hs2⟩ := HC.out k hlt
      have HS1 := Lib.hid hs1
      generalize setP l k = s at *
      have HAD : Hid (wrap64 ((s : Int) + wrap64 ((2 : Int) ^ v)) = ((s + 2 ^ v : Nat) : Int)) := Lib.hid (by
        have h1 : 2 ^ v ≤ 2 ^ 9 := Nat.pow_le_pow_right (by decide) (by omega)
        rw [pow_cast]
        generalize 2 ^ v = P at *
        have e1 : wrap64 (P : Int) = P := IntWalk.wrap64_in _ ⟨by omega, by omega⟩
        rw [e1, IntWalk.wrap64_in _ ⟨by omega, by omega⟩]
        omega)
      clear hs1
      go_wp2
      go_roundw
      case rel => exact ⟨k + 1, by go_num, by omega, by rw [HS1.out, ← HAD.out], trivial⟩
      case measure => simp [intOf]; omega
    · obtain rfl : k = l.length := by omega
      have g1 : decide (l.length < l.length) = false := decide_eq_false hlt
      go_wp2
      go_ret
      exact ⟨by rw [← HSL.out]; rfl, rfl⟩
theorem refWord_any (A : Option Addr) (c k : Nat) (s : ByteArray) (w : World) (hs : s.size ≤ 1000000) (_hk4 : k ≤ 100) :
    Calls Tryd.prog 34 #[.slice A k c, .string s] w fun e w' => e = .returned (.bool (okB k s)) ∧ w = w' := by
  have hb := get_bt s
  have HNO := Lib.hid (fun i (hi : i < s.size) => okB_no (k := k) hi)
  have HYES := Lib.hid (okB_yes (k := k) (s := s))
  have HLONG := Lib.hid (okB_long (k := k) (s := s))
  have HG0 : Hid (∀ i, i < 0 → goodB k s i = true) := Lib.hid (fun i hi => absurd hi (Nat.not_lt_zero i))
  go_enter Tryd.func34, Tryd.ntmps34
  go_wp2
  go_loopw [5] (fun i wr => ∃ j : Nat, i = .int .i64 j ∧ j ≤ s.size ∧ wr = w ∧ Hid (∀ i, i < j → goodB k s i = true)) (fun i _ => s.size - (intOf i).toNat)
  case atStart => exact ⟨0, rfl, by omega, rfl, HG0⟩
  case round =>
    clear HG0
    obtain ⟨j, rfl, hj, rfl, HG⟩ := hrel
    by_cases hlt : j < s.size
    · have g1 : decide (j < s.size) = true := decide_eq_true hlt
      have hbj := hb j hlt
      have hb1 := bt_nonneg s j
      have hb2 := bt_le s j
      have HN1 := Lib.hid (HNO.out j hlt)
      have HGA : Hid (goodB k s j = (!decide (bt s j < 97) && !decide (97 + (k : Int) ≤ bt s j))) := Lib.hid rfl
      have HGK : Hid (goodB k s j = true → ∀ i, i < j + 1 → goodB k s i = true) := Lib.hid (fun hg i hi => by
        rcases Nat.lt_or_ge i j with h | h
        · exact HG.out i h
        · rw [show i = j by omega]; exact hg)
      obtain ⟨x, hx⟩ : ∃ x, bt s j = x := ⟨_, rfl⟩
      rw [hx] at hbj HGA hb1 hb2
      clear hx hb
      by_cases h1 : x < 97
      · have g2 : decide (x < 97) = true := decide_eq_true h1
        have hno := Lib.hid (HN1.out (by rw [HGA.out, g2]; rfl))
        clear HN1 HGA HGK HG h1
        go_wp2
        go_ret
        exact ⟨ret_bool hno.out.symm, rfl⟩
      · have g2 : decide (x < 97) = false := decide_eq_false h1
        have hw1 : IntKind.u8.wrap (x - 97) = x - 97 := by simp [IntKind.wrap, IntKind.bits, IntKind.signed]; omega
        have hw2 : (x - 97) % 256 = x - 97 := by omega
        by_cases h2 : (k : Int) ≤ x - 97
        · have g3 : decide ((k : Int) ≤ x - 97) = true := decide_eq_true h2
          have hno := Lib.hid (HN1.out (by rw [HGA.out, g2, decide_eq_true (show 97 + (k : Int) ≤ x by omega)]; rfl))
          clear HN1 HGA HGK HG h1 h2
          go_wp2
          go_ret
          exact ⟨ret_bool hno.out.symm, rfl⟩
        · have g3 : decide ((k : Int) ≤ x - 97) = false := decide_eq_false h2
          have HG2 := Lib.hid (HGK.out (by rw [HGA.out, g2, decide_eq_false (show ¬ 97 + (k : Int) ≤ x by omega)]; rfl))
          clear HN1 HGA HGK HG h1 h2
          go_wp2
          go_roundw
          case rel => exact ⟨j + 1, by go_num, by omega, trivial, HG2⟩
          case measure => simp [intOf]; omega
    · obtain rfl : j = s.size := by omega
      have g1 : decide (s.size < s.size) = false := decide_eq_false hlt
      by_cases hl : s.size ≤ 1000
      · have g2 : decide ((s.size : Int) ≤ 1000) = true := decide_eq_true (by omega)
        have hy := Lib.hid (HYES.out hl HG.out)
        go_wp2
        go_ret
        exact ⟨ret_bool hy.out.symm, rfl⟩
      · have g2 : decide ((s.size : Int) ≤ 1000) = false := decide_eq_false (by omega)
        have hy := Lib.hid (HLONG.out (by omega))
        go_wp2
        go_ret
        exact ⟨ret_bool hy.out.symm, rfl⟩
theorem refImage_any (A : Option Addr) (c : Nat) (L : List (List Int)) (a : Nat) (s : ByteArray) (w : World) (h : IsMI L) (hA : RowsAt w A L) (ha : IsS (nS L) a) (hs : okB L.length s = true) :
    Calls Tryd.prog 35 #[.slice A L.length c, .int .i64 a, .string s] w fun e w' => e = .returned (.int .i64 (imP (tabN L) a s s.size : Nat)) ∧ Below w.heap.size w w' := by
  have hb := get_bt s
  have hk4 := h.k4
  obtain ⟨hs1, hs2⟩ := okB_at hs
  have HB := Lib.hid (fun i hi => bn_at (hs2 i hi))
  have HPR := Lib.hid (fun (j : Nat) (V : World) (hj : j < s.size) (hV : Below w.heap.size w V) => Press_any A c L (imP (tabN L) a s j) (bn s j) V h (imP_set h.isM ha (fun i hi => hs2 i (by omega))) (bn_at (hs2 j hj)).2 (hA.below hV))
  have HI := Lib.hid (imP_succ (tabN L) a s)
  have HI0 := Lib.hid (imP_zero (tabN L) a s)
  have b0 := Below.refl w.heap.size w
  clear h ha hs hs2 hA
  generalize tabN L = T at *
  go_enter Tryd.func35, Tryd.ntmps35
  go_wp2
  go_loopw [1, 7] (fun t i wr => ∃ j : Nat, i = .int .i64 j ∧ j ≤ s.size ∧ t = .int .i64 (imP T a s j : Nat) ∧ Below w.heap.size w wr) (fun _ i _ => s.size - (intOf i).toNat)
  case atStart => exact ⟨0, rfl, by omega, by rw [HI0.out], b0⟩
  case round =>
    clear b0
    obtain ⟨j, rfl, hj, rfl, b0⟩ := hrel
    by_cases hlt : j < s.size
    · have g1 : decide (j < s.size) = true := decide_eq_true hlt
      have hbj := hb j hlt
      obtain ⟨hbx, hbk⟩ := HB.out j hlt
      have HP := Lib.hid (HPR.out j wr hlt b0)
      have HI1 := Lib.hid (HI.out j)
      rw [hbx] at hbj
      generalize bn s j = b at *
      generalize imP T a s j = t at *
      have hw1 : IntKind.u8.wrap (97 + (b : Int) - 97) = b := by rw [show 97 + (b : Int) - 97 = b by omega]; simp [IntKind.wrap, IntKind.bits, IntKind.signed]; omega
      clear hbx hb
      go_wp2_with (go_at_call 65; refine HP.out.mono ?_; rintro e w3 ⟨rfl, n3, rfl⟩; have b3 := b0.trans (below_drewN n3))
      go_roundw
      case rel => exact ⟨j + 1, by go_num, by omega, by rw [HI1.out], b3⟩
      case measure => simp [intOf]; omega
    · obtain rfl : j = s.size := by omega
      have g1 : decide (s.size < s.size) = false := decide_eq_false hlt
      go_wp2
      go_ret
      exact ⟨rfl, b0⟩
end Go.Proofs.YtignbpipdfjkeaaDoor
