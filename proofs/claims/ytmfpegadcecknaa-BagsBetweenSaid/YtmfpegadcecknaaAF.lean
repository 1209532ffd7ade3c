/- Listing heads. -/
import Derived.Test.YtmfpegadcecknaaAE
namespace Go.Proofs.Ytmfpegadcecknaa
open Go.RowKit
set_option maxHeartbeats 1000000
set_option maxRecDepth 100000
/-- Which end of each of the first k edges has a piece of it. -/
def headsOK (es : List (Int × Int)) (H : Nat → Nat → Int) (k : Nat) (hs : List Nat) : Prop := ∀ i, i < k → (getn hs i : Int) = if 0 < H (pB es i).toNat (pA es i).toNat then pB es i else pA es i
theorem heads_div (g m : Nat) (gs : List Nat) (H : Nat → Nat → Int) (L : Nat → Int) (A : Option Addr) (c : Nat) (es : List (Int × Int)) (w : World) (hg : Rows16 gs) (hd : Div w g m gs H L) (hx : es.length ≤ 1000000) (ha : PairsAt w A es)
    (he : ∀ k, k < es.length → 0 ≤ pA es k ∧ pA es k < 16 ∧ 0 ≤ pB es k ∧ pB es k < 16 ∧ pA es k ≠ pB es k) :
    Calls Try.prog 51 #[.pointer (some ⟨g, 0, none⟩), .slice A es.length c] w fun e w' => ∃ hs, hs.length = es.length ∧ headsOK es H es.length hs ∧ e = .returned (.slice (some ⟨w.heap.size, 0, none⟩) es.length es.length) ∧ Row w' w.heap.size 3 (intv hs) ∧ Below w.heap.size w w' := by
  obtain ⟨i0, hi, hz0, hz1, hz2⟩ := info_parts info3
  have HE := Lib.hid he
  clear he
  have hgl : g < w.heap.size := Row.lt hd
  go_enter Try.func51, Try.ntmps51
  go_wp2_with (at_make; refine wpList_make_full _ rfl _ _ 24 rfl w.heap.size 3 i0 (.int .i64 0) 1 Try.underlying24 hi hz0 hz1 .i64 .i64 _ _ es.length rfl rfl rfl rfl (by rw [hz2]; omega) (by unfold maxLen; omega) (Nat.le_refl _) ?_; intro w1 o1 hg1)
  have hb1 : Below w.heap.size w w1 := (Below.refl _ w).grown hg1 (Nat.le_refl _) (by simp)
  have hr1 := own_made o1
  clear o1 hg1
  go_loopw [13] (fun i wr => ∃ (k : Nat) (hs : List Nat), k ≤ es.length ∧ i = .int .i64 k ∧ hs.length = es.length ∧ headsOK es H k hs ∧ Row wr w.heap.size 3 (intv hs) ∧ Below w.heap.size w wr) (fun i _ => es.length - (intOf i).toNat)
  case atStart => exact ⟨0, _, by omega, rfl, List.length_replicate, fun j hj => absurd hj (by omega), hr1, hb1⟩
  case round =>
    obtain ⟨k, hs, hk, rfl, hl, hh, hr, hbr⟩ := hrel
    have HH := Lib.hid hh
    have HL := Lib.hid hl
    clear hh hr1 hb1 hl
    by_cases hlt : k < es.length
    · obtain ⟨b, o, rfl, hb1, hc⟩ := ha (by omega)
      obtain ⟨c1, c2⟩ := hc k hlt
      have c1' : wr.cell? ⟨b, o + k * 2, none⟩ = some (.int .i64 (pA es k)) := (hbr.cell (p := ⟨b, _, none⟩) hb1).trans c1
      have c2' : wr.cell? ⟨b, o + k * 2 + 1, none⟩ = some (.int .i64 (pB es k)) := (hbr.cell (p := ⟨b, _, none⟩) hb1).trans c2
      obtain ⟨e1, e2, e3, e4, e5⟩ := HE.out k hlt
      have hd' : Div wr g m gs H L := Row.fr hd (Fr.of_below hbr : Fr (fun _ => False) w wr) (by simp)
      obtain ⟨a, hA⟩ : ∃ a : Nat, pA es k = a := ⟨(pA es k).toNat, by omega⟩
      obtain ⟨b2, hB⟩ : ∃ b2 : Nat, pB es k = b2 := ⟨(pB es k).toNat, by omega⟩
      rw [hA] at c1' e1 e2 e5
      rw [hB] at c2' e3 e4 e5
      have HA := Lib.hid hA
      have HB := Lib.hid hB
      clear hA hB hc c1 c2
      have a16 : a < 16 := by omega
      have b16 : b2 < 16 := by omega
      have d2 := hd'.has hg b16 a16
      have lb : b < wr.heap.size := Nat.lt_of_lt_of_le hb1 hbr.size
      have lg := Row.lt hd'
      have lr := hr.lt
      have s1 : wr.cell? ⟨w.heap.size, k, none⟩ = some (.int .i64 (getn hs k)) := intv_row hr (by rw [HL.out]; exact hlt)
      have f1 := hr.free k
      have hkl : k < hs.length := by rw [HL.out]; exact hlt
      have HKL := Lib.hid hkl
      clear e1 e2 e3 e4 hd' hkl
      cases g1 : decide (0 < H b2 a)
      · go_wp2
        refine wp_region_quiet_lit (by kernel_rfl) (by kernel_rfl) ?_
        repeat go_big_quiet_step ((fail))
        refine wpQuiet_nil ?_
        rintro _ ⟨nq, rfl⟩
        go_wp2
        go_roundw
        case rel =>
          have h5 := (((hr.set k (.int .i64 a)).alloc (.cells #[.int .i64 a, .int .i64 b2] 67)).drewN nq)
          rw [intv_set] at h5
          refine ⟨k + 1, _, by omega, by go_num, by rw [List.length_set]; exact HL.out, fun j hj => ?_, h5, ?_⟩
          · rw [getn_set HKL.out]
            by_cases h : k = j
            · subst h; rw [HA.out, HB.out, if_pos rfl]
              have h3 := of_decide_eq_false g1
              rw [if_neg (by simpa using h3)]
            · rw [if_neg h]; exact HH.out j (by omega)
          · (repeat (first | exact Below.refl _ _ | assumption | (refine Below.setCell ?_ (by first | exact Nat.le_refl _ | omega | (simp; done) | (simp; omega)) _) | (refine Below.trans ?_ (below_drewN _)) | (refine Below.drew ?_) | (refine Below.alloc ?_ (by first | exact Nat.le_refl _ | omega | (simp; done) | (simp; omega)) _) | (refine below_row ?_ (by first | exact Nat.le_refl _ | omega | (simp; done) | (simp; omega)) _)))
        case measure => simp [intOf]; omega
      · go_wp2
        refine wp_region_quiet_lit (by kernel_rfl) (by kernel_rfl) ?_
        repeat go_big_quiet_step ((fail))
        refine wpQuiet_nil ?_
        rintro _ ⟨nq, rfl⟩
        go_wp2
        go_roundw
        case rel =>
          have h5 := (((hr.set k (.int .i64 a)).alloc (.cells #[.int .i64 a, .int .i64 b2] 67)).drewN nq).set k (.int .i64 b2)
          rw [intv_set, intv_set] at h5
          refine ⟨k + 1, _, by omega, by go_num, by rw [List.length_set, List.length_set]; exact HL.out, fun j hj => ?_, h5, ?_⟩
          · rw [getn_set (by rw [List.length_set]; exact HKL.out)]
            by_cases h : k = j
            · subst h; rw [HA.out, HB.out, if_pos rfl]
              have h3 := of_decide_eq_true g1
              rw [if_pos (by simpa using h3)]
            · rw [if_neg h, getn_set HKL.out, if_neg h]; exact HH.out j (by omega)
          · (repeat (first | exact Below.refl _ _ | assumption | (refine Below.setCell ?_ (by first | exact Nat.le_refl _ | omega | (simp; done) | (simp; omega)) _) | (refine Below.trans ?_ (below_drewN _)) | (refine Below.drew ?_) | (refine Below.alloc ?_ (by first | exact Nat.le_refl _ | omega | (simp; done) | (simp; omega)) _) | (refine below_row ?_ (by first | exact Nat.le_refl _ | omega | (simp; done) | (simp; omega)) _)))
        case measure => simp [intOf]; omega
    · obtain rfl : k = es.length := by omega
      go_wp2
      go_ret
      exact ⟨hs, HL.out, HH.out, rfl, hr, hbr⟩
end Go.Proofs.Ytmfpegadcecknaa
