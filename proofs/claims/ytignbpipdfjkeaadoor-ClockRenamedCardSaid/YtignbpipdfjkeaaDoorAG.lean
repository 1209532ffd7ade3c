/- The image of a set under a button. -/
import Derived.Test.YtignbpipdfjkeaaDoorMB
import Derived.Test.YtignbpipdfjkeaaDoorAF
namespace Go.Proofs.YtignbpipdfjkeaaDoor
open Go.RowKit
set_option maxHeartbeats 1000000
set_option maxRecDepth 100000
theorem next_bits {r : Nat} (h0 : r ≠ 0) (h : r < 512) : bits BinOp.and IntKind.u16 (r : Int) ((r : Int) - 1) = ((r &&& (r - 1) : Nat) : Int) := by
  rw [show ((r : Int) - 1) = ((r - 1 : Nat) : Int) by omega, u16_and_nat _ _ (by omega) (by omega)]
theorem press_any (L : List (List Int)) (s b : Nat) (w : World) (h : IsMI L) (hs : s < 512) (hb : b < L.length) (ht : TabW w) :
    Calls Tryd.prog 74 #[.agg (iv (mc L)).toArray, .int .u16 s, .int .i64 b] w fun e w' => e = .returned (.int .u16 (prs (tabN L) s b)) ∧ ∃ k, w' = (w.alloc (.cells (iv (mc L)).toArray 76)).drewN k := by
  have hb4 : b < 4 := by have := h.k4; omega
  have r0 : Row (w.alloc (.cells (iv (mc L)).toArray 76)) w.heap.size 76 (iv (mc L)) := row_new rfl
  have HC := Lib.hid (fun q (hq : q < 9) => (show _ = some (Value.int .i64 (ld (tabN L) b q : Int)) from (ivR r0 (i := 2 + b * 9 + q) (by unfold mc; rw [mcP_len]; omega)).trans (congrArg (fun x => some (Value.int .i64 x)) ((by rw [Nat.add_assoc]; exact mc_at L hb4 hq : geti (mc L) (2 + b * 9 + q) = gat L b q).trans (h.ld b q).1))))
  have HX := Lib.hid (fun q => (h.ld b q).2)
  have HT := Lib.hid (ht.alloc (.cells (iv (mc L)).toArray 76))
  have HS0 : Hid (orL (tabN L) b 0 (bitsS s) = prs (tabN L) s b) := Lib.hid rfl
  generalize prs (tabN L) s b = Y at *
  clear ht h r0 hb
  generalize tabN L = T at *
  go_enter Tryd.func74, Tryd.ntmps74
  go_wp2
  generalize hW : World.alloc _ _ = W at *
  have HW := Lib.hid hW
  clear hW
  go_loopw [7, 8] (fun v u wr => ∃ a r n : Nat, a < 512 ∧ r < 512 ∧ v = .int .u16 a ∧ u = .int .u16 r ∧ wr = W.drewN n ∧ Hid (orL T b a (bitsS r) = Y)) (fun _ u _ => (intOf u).toNat)
  case atStart => exact ⟨0, s, 0, by omega, hs, rfl, rfl, rfl, HS0⟩
  case round =>
    clear HS0 hs
    obtain ⟨a, r, n, ha, hr, rfl, rfl, rfl, HY⟩ := hrel
    by_cases h0 : r = 0
    · subst h0
      have hy := HY.out
      rw [bits_zero] at hy
      clear HY
      change a = Y at hy
      subst hy
      go_wp2
      go_ret
      exact ⟨rfl, n, by rw [HW.out]⟩
    · obtain ⟨hbs, hq⟩ := bits_step h0 hr
      have hy := HY.out
      rw [hbs] at hy
      change orL T b (a ||| 2 ^ ld T b (tzS r)) (bitsS (r &&& (r - 1))) = Y at hy
      have HY2 := Lib.hid hy
      have c0 := HC.out _ hq
      have hx := HX.out (tzS r)
      have HSM := Lib.hid (fun m => smallest_any r (W.drewN m) (.inl ⟨by omega, hr⟩) (HT.out.drewN m))
      obtain ⟨q, hqq⟩ : ∃ q, tzS r = q := ⟨_, rfl⟩
      rw [hqq] at c0 hx HSM hq HY2
      obtain ⟨x, hxx⟩ : ∃ x, ld T b q = x := ⟨_, rfl⟩
      rw [hxx] at c0 hx HY2
      have HWI := Lib.hid (fun m => with_any a x (W.drewN m) (by omega) (by omega))
      have HNB := Lib.hid (next_bits h0 hr)
      have hlt := and_pred h0
      have HOL := Lib.hid (or_lt ha hx)
      have hne : ((r : Int) != 0) = true := by simp; omega
      clear hy hbs HY hqq hxx
      go_wp2
      refine wp_region_quiet_lit (by kernel_rfl) (by kernel_rfl) ?_
      repeat go_big_quiet_step ((first | (go_at_call 53; exact quiet_of2 (HSM.out _)) | (go_at_call 60; exact quiet_same2 (HWI.out _))))
      refine wpQuiet_nil ?_
      rintro _ ⟨nq, rfl⟩
      have hs1 : ((r : Int) - 1) % 65536 = (r : Int) - 1 := by omega
      have HN2 := HNB.out
      go_wp2
      go_roundw
      case rel => exact ⟨sWith a x, r &&& (r - 1), n + nq, HOL.out, by omega, rfl, rfl, (by first | rfl | exact World.drewN_drewN _ _ _), HY2⟩
      case measure => simp [intOf]; omega
end Go.Proofs.YtignbpipdfjkeaaDoor
