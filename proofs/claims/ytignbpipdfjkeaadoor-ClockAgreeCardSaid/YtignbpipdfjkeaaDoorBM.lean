/- A word is read, and an image found. -/
import Derived.Test.YtignbpipdfjkeaaDoorBK
namespace Go.Proofs.YtignbpipdfjkeaaDoor
open Go.RowKit Go.PlainAid
set_option maxHeartbeats 2000000
set_option maxRecDepth 100000
theorem isWord_any (L : List (List Int)) (s : ByteArray) (w : World) (h : IsMI L) (hs : s.size ≤ 1000000) :
    Calls Tryd.prog 62 #[.agg (iv (mc L)).toArray, .string s] w fun e w' => e = .returned (.bool (okB L.length s)) ∧ Below w.heap.size w w' := by
  have hk4 := h.k4
  have q0 : Row (w.alloc (.cells (iv (mc L)).toArray 76)) w.heap.size 76 (iv (mc L)) := row_new rfl
  have b0 : Below w.heap.size w (w.alloc (.cells (iv (mc L)).toArray 76)) := (Below.refl _ w).alloc (Nat.le_refl _) _
  have HCK : Hid (∀ (W : World), Row W w.heap.size 76 (iv (mc L)) → W.cell? ⟨w.heap.size, 1, none⟩ = some (.int .i64 (L.length : Int))) := Lib.hid (fun W h => by have := ivR h (i := 1) (by unfold mc; rw [mcP_len]; omega); unfold mc at this; rwa [mcP_k] at this)
  have hb := get_bt s
  have HNO := Lib.hid (fun i (hi : i < s.size) => okB_no (k := L.length) hi)
  have HYES := Lib.hid (okB_yes (k := L.length) (s := s))
  have HG0 : Hid (∀ i, i < 0 → goodB L.length s i = true) := Lib.hid (fun i hi => absurd hi (Nat.not_lt_zero i))
  by_cases hl : 1000 < s.size
  · have g0 : decide ((1000 : Int) < (s.size : Int)) = true := decide_eq_true (by omega)
    have hno := Lib.hid (okB_long (k := L.length) hl)
    clear h q0 hl
    go_enter Tryd.func62, Tryd.ntmps62
    go_wp2
    go_ret
    exact ⟨ret_bool hno.out.symm, b0⟩
  · have g0 : decide ((1000 : Int) < (s.size : Int)) = false := decide_eq_false (by omega)
    generalize L.length = k at *
    go_enter Tryd.func62, Tryd.ntmps62
    go_wp2
    go_loopw [11] (fun i wr => ∃ j : Nat, i = .int .i64 j ∧ j ≤ s.size ∧ Row wr w.heap.size 76 (iv (mc L)) ∧ Below w.heap.size w wr ∧ Hid (∀ i, i < j → goodB k s i = true)) (fun i _ => s.size - (intOf i).toNat)
    case atStart => exact ⟨0, rfl, by omega, q0, b0, HG0⟩
    case round =>
      clear q0 b0 HG0
      obtain ⟨j, rfl, hj, q0, b0, HG⟩ := hrel
      by_cases hlt : j < s.size
      · have g1 : decide (j < s.size) = true := decide_eq_true hlt
        have ck := HCK.out wr q0
        have hbj := hb j hlt
        have hb1 := bt_nonneg s j
        have hb2 := bt_le s j
        have HN1 := Lib.hid (HNO.out j hlt)
        have HGA : Hid (goodB k s j = (!decide (bt s j < 97) && !decide (97 + (k : Int) ≤ bt s j))) := Lib.hid rfl
        have HGK : Hid (goodB k s j = true → ∀ i, i < j + 1 → goodB k s i = true) := Lib.hid (fun hg i hi => by
          rcases Nat.lt_or_ge i j with h | h
          · exact HG.out i h
          · rw [show i = j by omega]; exact hg)
        have hw1 : IntKind.u8.wrap (k : Int) = k := by simp [IntKind.wrap, IntKind.bits, IntKind.signed]; omega
        have hw2 : IntKind.u8.wrap (97 + (k : Int)) = 97 + k := by simp [IntKind.wrap, IntKind.bits, IntKind.signed]; omega
        obtain ⟨x, hx⟩ : ∃ x, bt s j = x := ⟨_, rfl⟩
        rw [hx] at hbj HGA hb1 hb2
        clear hx hb
        by_cases h1 : x < 97
        · have g2 : decide (x < 97) = true := decide_eq_true h1
          have hno := Lib.hid (HN1.out (by rw [HGA.out, g2]; rfl))
          clear HN1 HGA HGK HG h1
          go_wp2
          refine wp_region_quiet_lit (by kernel_rfl) (by kernel_rfl) ?_
          repeat go_big_quiet_step ((fail))
          refine wpQuiet_nil ?_
          rintro _ ⟨nq, rfl⟩
          go_wp2
          go_ret
          exact ⟨ret_bool hno.out.symm, b0.trans (below_drewN nq)⟩
        · have g2 : decide (x < 97) = false := decide_eq_false h1
          by_cases h2 : 97 + (k : Int) ≤ x
          · have g3 : decide (97 + (k : Int) ≤ x) = true := decide_eq_true h2
            have hno := Lib.hid (HN1.out (by rw [HGA.out, g2, g3]; rfl))
            clear HN1 HGA HGK HG h1 h2
            go_wp2
            refine wp_region_quiet_lit (by kernel_rfl) (by kernel_rfl) ?_
            repeat go_big_quiet_step ((fail))
            refine wpQuiet_nil ?_
            rintro _ ⟨nq, rfl⟩
            go_wp2
            go_ret
            exact ⟨ret_bool hno.out.symm, b0.trans (below_drewN nq)⟩
          · have g3 : decide (97 + (k : Int) ≤ x) = false := decide_eq_false h2
            have HG2 := Lib.hid (HGK.out (by rw [HGA.out, g2, g3]; rfl))
            clear HN1 HGA HGK HG h1 h2
            go_wp2
            refine wp_region_quiet_lit (by kernel_rfl) (by kernel_rfl) ?_
            repeat go_big_quiet_step ((fail))
            refine wpQuiet_nil ?_
            rintro _ ⟨nq, rfl⟩
            go_wp2
            go_roundw
            case rel => exact ⟨j + 1, by go_num, by omega, q0.drewN nq, b0.trans (below_drewN nq), HG2⟩
            case measure => simp [intOf]; omega
      · obtain rfl : j = s.size := by omega
        have g1 : decide (s.size < s.size) = false := decide_eq_false hlt
        have hy := Lib.hid (HYES.out (by omega) HG.out)
        go_wp2
        go_ret
        exact ⟨ret_bool hy.out.symm, b0⟩
theorem image_any (L : List (List Int)) (a : Nat) (s : ByteArray) (w : World) (h : IsMI L) (ha : IsS (nS L) a) (hs : okB L.length s = true) (ht : TabW w) :
    Calls Tryd.prog 63 #[.agg (iv (mc L)).toArray, .int .u16 a, .string s] w fun e w' => e = .returned (.int .u16 (imP (tabN L) a s s.size : Nat)) ∧ Below w.heap.size w w' := by
  have hk4 := h.k4
  have hi4 := hi76L L
  have q0 : Row (w.alloc (.cells (iv (mc L)).toArray 76)) w.heap.size 76 (iv (mc L)) := row_new rfl
  have b0 : Below w.heap.size w (w.alloc (.cells (iv (mc L)).toArray 76)) := (Below.refl _ w).alloc (Nat.le_refl _) _
  have hb := get_bt s
  obtain ⟨hs1, hs2⟩ := okB_at hs
  have HB := Lib.hid (fun i hi => bn_at (hs2 i hi))
  have HPR := Lib.hid (fun (j : Nat) (V : World) (hj : j < s.size) (hV : Below w.heap.size w V) => press_any L (imP (tabN L) a s j) (bn s j) V h (set512 h.n9 (imP_set h.isM ha (fun i hi => hs2 i (by omega)))) (bn_at (hs2 j hj)).2 (ht.below hV ht.lt))
  have HI := Lib.hid (imP_succ (tabN L) a s)
  have HI0 := Lib.hid (imP_zero (tabN L) a s)
  clear h ha hs ht hs2
  generalize tabN L = T at *
  go_enter Tryd.func63, Tryd.ntmps63
  go_wp2
  go_loopw [1, 10] (fun t i wr => ∃ j : Nat, i = .int .i64 j ∧ j ≤ s.size ∧ t = .int .u16 (imP T a s j : Nat) ∧ Row wr w.heap.size 76 (iv (mc L)) ∧ Below w.heap.size w wr) (fun _ i _ => s.size - (intOf i).toNat)
  case atStart => exact ⟨0, rfl, by omega, by rw [HI0.out], q0, b0⟩
  case round =>
    clear q0 b0
    obtain ⟨j, rfl, hj, rfl, q0, b0⟩ := hrel
    by_cases hlt : j < s.size
    · have g1 : decide (j < s.size) = true := decide_eq_true hlt
      have hbj := hb j hlt
      obtain ⟨hbx, hbk⟩ := HB.out j hlt
      have HP : Hid (∀ u : After wr, Calls Tryd.prog 74 #[.agg (iv (mc L)).toArray, .int .u16 (imP T a s j : Nat), .int .i64 (bn s j : Nat)] u.v fun e w' => e = .returned (.int .u16 (prs T (imP T a s j) (bn s j) : Nat)) ∧ Below u.v.heap.size u.v w') := Lib.hid (fun u => (HPR.out j u.v hlt (b0.trans (u.h.mono b0.size))).mono (fun e w' ⟨h1, k, h2⟩ => ⟨h1, by rw [h2]; exact ((Below.refl _ u.v).alloc (Nat.le_refl _) _).trans (below_drewN k)⟩))
      have HI1 := Lib.hid (HI.out j)
      rw [hbx] at hbj
      generalize bn s j = b at *
      generalize imP T a s j = t at *
      have hw1 : IntKind.u8.wrap (97 + (b : Int) - 97) = b := by rw [show 97 + (b : Int) - 97 = b by omega]; simp [IntKind.wrap, IntKind.bits, IntKind.signed]; omega
      clear hbx hb
      go_wp2
      refine wp_region_class_all (C := fun w' => ∃ u : After _, w' = u.v) (by kernel_rfl) (by kernel_rfl) (isAfter_start _) ?_
      try simp only [Act.put]
      repeat (first | ((with_reducible refine (?_ : wpQuiet _ _ _ _ (Oper.mk (some 13) _ _ _ _ _ :: _) _); go_big_quiet_want); refine quiet_load_row 76 (.tmp 3) rfl w.heap.size rfl 76 (iv (mc L)) _ (fun _ hc => after_row q0 hc) Tryd.underlying76 rfl hi4 ?_; simp only [Act.put, List.setIfInBounds_toArray, List.set_cons_zero, List.set_cons_succ]; go_big_quiet_on) | go_big_quiet_step ((with_reducible refine (HP.out _).mono ?_; rintro e w8 ⟨rfl, b8⟩; exact ⟨rfl, After.done _ b8⟩)))
      refine wpQuiet_nil ?_
      rintro _ ⟨ua, rfl⟩
      go_wp2
      go_roundw
      case rel => exact ⟨j + 1, by go_num, by omega, by rw [HI1.out], q0.below ua.h, b0.trans (ua.h.mono b0.size)⟩
      case measure => simp [intOf]; omega
    · obtain rfl : j = s.size := by omega
      have g1 : decide (s.size < s.size) = false := decide_eq_false hlt
      go_wp2
      go_ret
      exact ⟨rfl, b0⟩
end Go.Proofs.YtignbpipdfjkeaaDoor
