/- The reference's smallest images, and pairs that are merged. -/
import Derived.Test.YtignbpipdfjkeaaDoorBC
import Derived.Test.YtignbpipdfjkeaaDoorME
namespace Go.Proofs.YtignbpipdfjkeaaDoor
open Go.RowKit
set_option maxHeartbeats 2000000
set_option maxRecDepth 100000
theorem Shrink_any (A : Option Addr) (c : Nat) (L : List (List Int)) (s : Nat) (w : World) (h : IsMI L) (hs : IsS (nS L) s) (h0 : s ≠ 0) (ha : RowsAt w A L) :
    Calls Tryd.prog 23 #[.slice A L.length c, .int .i64 s] w fun e w' => e = .returned (.tuple #[.int .i64 (szS (shE (tabN L) L.length s).1), .string (wS (shE (tabN L) L.length s).2), .int .i64 (shE (tabN L) L.length s).1]) ∧ Below w.heap.size w w' := by
  have HR := Lib.hid (Reached_any A c L s w h hs h0 ha)
  have hM := h.isM
  have hm := reach_met hM hs
  have hpos := (reach_pos hM hs).1
  have hlen : (reach (tabN L) L.length s).length ≤ 512 := by
    have := nodup_len 512 ((reach (tabN L) L.length s).map (·.1)) (fun x hx => by
      obtain ⟨e, he, rfl⟩ := List.mem_map.1 hx
      obtain ⟨h1, h2⟩ := hm.im e.1 e.2 he
      have h3 := img_set hM hs h1
      rw [h2] at h3
      exact set512 hM.n9 h3) (by rw [List.pairwise_map]; exact hm.nd)
    simpa using this
  have HEL : Hid (∀ i, i < (reach (tabN L) L.length s).length → (elS (reach (tabN L) L.length s) i).1 < 512) := Lib.hid (fun i hi => by
    obtain ⟨h1, h2⟩ := hm.im _ _ (elS_mem hi)
    have h3 := img_set hM hs h1
    rw [h2] at h3
    exact set512 hM.n9 h3)
  unfold shE
  clear hM hm h hs h0 ha
  generalize reach (tabN L) L.length s = R at *
  have HBL := Lib.hid (fun i (hi : i ≤ R.length) => bsI_lt hpos i hi)
  have HBS : Hid (∀ i, bsI R (i + 1) = if szS (elS R i).1 < szS (elS R (bsI R i)).1 then i else bsI R i) := Lib.hid (fun i => rfl)
  have HSZ := Lib.hid (fun t V (ht : t < 512) => refSize_any t V ht)
  have HSL := Lib.hid sz_le
  go_enter Tryd.func23, Tryd.ntmps23
  go_wp2_with (go_at_call 57; fail)
  refine HR.out.mono ?_
  rintro e w1 ⟨v, u, rfl, o1, u1, b1⟩
  obtain ⟨A7, c7, rfl, -, hc7, i7⟩ := own_intsI o1
  obtain ⟨g8, c8, rfl, -, -, hx8⟩ := own_words u1 (by omega)
  rw [mi_len] at hc7 ⊢
  obtain ⟨g7, o7, rfl, hg7, hx7⟩ := i7 (by rw [mi_len]; omega)
  have HC7 : Hid (∀ i, i < R.length → w1.cell? ⟨g7, o7 + i, none⟩ = some (.int .i64 ((elS R i).1 : Int))) := Lib.hid (fun i hi => by
    have := hx7 i (by rw [mi_len]; exact hi)
    rwa [geti_mi hi] at this)
  have HC8 := Lib.hid hx8
  clear hx7 hx8 i7 o1 u1 HR
  go_wp2
  go_loopw [9, 10] (fun v q wr => ∃ i : Nat, q = .int .i64 i ∧ v = .int .i64 (bsI R i) ∧ i ≤ R.length ∧ Below w1.heap.size w1 wr) (fun _ q _ => R.length - (intOf q).toNat)
  case atStart => exact ⟨0, rfl, rfl, by omega, Below.refl _ _⟩
  case round =>
    obtain ⟨i, rfl, rfl, hi, b2⟩ := hrel
    have hbl := HBL.out i hi
    have hb5 := HEL.out _ hbl
    have cb := (b2.cell (p := ⟨g7, o7 + bsI R i, none⟩) (block_lt_of_cell (HC7.out _ hbl))).trans (HC7.out _ hbl)
    have HSB := Lib.hid (fun (u : After wr) => HSZ.out (elS R (bsI R i)).1 u.v hb5)
    by_cases hlt : i < R.length
    · have g1 : decide (i < R.length) = true := decide_eq_true hlt
      have hi5 := HEL.out _ hlt
      have ci := (b2.cell (p := ⟨g7, o7 + i, none⟩) (block_lt_of_cell (HC7.out _ hlt))).trans (HC7.out _ hlt)
      have HSI := Lib.hid (fun (u : After wr) => HSZ.out (elS R i).1 u.v hi5)
      have HB1 := Lib.hid (HBS.out i)
      obtain ⟨bi, hbi⟩ : ∃ bi, bsI R i = bi := ⟨_, rfl⟩
      have HBI := Lib.hid hbi
      rw [hbi] at hbl cb HSB HB1
      clear hbi
      obtain ⟨p, hp⟩ : ∃ p, (elS R i).1 = p := ⟨_, rfl⟩
      obtain ⟨q, hq⟩ : ∃ q, (elS R bi).1 = q := ⟨_, rfl⟩
      rw [hp] at ci HSI HB1
      rw [hq] at cb HSB HB1
      have sp := HSL.out p
      have sq := HSL.out q
      obtain ⟨x, hx⟩ : ∃ x, szS p = x := ⟨_, rfl⟩
      obtain ⟨y, hy⟩ : ∃ y, szS q = y := ⟨_, rfl⟩
      rw [hx] at HSI HB1 sp
      rw [hy] at HSB HB1 sq
      have c9 : ∀ u : After wr, u.v.cell? ⟨g7, o7 + i, none⟩ = some (.int .i64 (p : Int)) := fun u => After.cell ci u
      have c10 : ∀ u : After wr, u.v.cell? ⟨g7, o7 + bi, none⟩ = some (.int .i64 (q : Int)) := fun u => After.cell cb u
      clear hp hq hx hy ci cb hb5 hi5
      rw [HBI.out]
      by_cases hxy : x < y
      · have g2 : decide (x < y) = true := decide_eq_true hxy
        have HB2 : Hid (bsI R (i + 1) = i) := Lib.hid (by rw [HB1.out, if_pos hxy])
        clear HB1
        go_wp2
        refine wp_region_class_all (C := fun w' => ∃ u : After _, w' = u.v) (by kernel_rfl) (by kernel_rfl) (isAfter_start _) ?_
        try simp only [Act.put]
        repeat (go_big_quiet_step ((first | (with_reducible refine (HSI.out _).mono ?_; rintro e w8 ⟨rfl, b8⟩; exact ⟨rfl, After.done _ b8⟩) | (with_reducible refine (HSB.out _).mono ?_; rintro e w8 ⟨rfl, b8⟩; exact ⟨rfl, After.done _ b8⟩))))
        refine wpQuiet_nil ?_
        rintro _ ⟨ua, rfl⟩
        go_wp2
        go_roundw
        case rel => exact ⟨i + 1, by go_num, by rw [HB2.out], by omega, b2.trans (ua.h.mono b2.size)⟩
        case measure => simp [intOf]; omega
      · have g2 : decide (x < y) = false := decide_eq_false hxy
        have HB2 : Hid (bsI R (i + 1) = bi) := Lib.hid (by rw [HB1.out, if_neg hxy])
        clear HB1
        go_wp2
        refine wp_region_class_all (C := fun w' => ∃ u : After _, w' = u.v) (by kernel_rfl) (by kernel_rfl) (isAfter_start _) ?_
        try simp only [Act.put]
        repeat (go_big_quiet_step ((first | (with_reducible refine (HSI.out _).mono ?_; rintro e w8 ⟨rfl, b8⟩; exact ⟨rfl, After.done _ b8⟩) | (with_reducible refine (HSB.out _).mono ?_; rintro e w8 ⟨rfl, b8⟩; exact ⟨rfl, After.done _ b8⟩))))
        refine wpQuiet_nil ?_
        rintro _ ⟨ua, rfl⟩
        go_wp2
        go_roundw
        case rel => exact ⟨i + 1, by go_num, by rw [HB2.out], by omega, b2.trans (ua.h.mono b2.size)⟩
        case measure => simp [intOf]; omega
    · obtain rfl : i = R.length := by omega
      have g1 : decide (R.length < R.length) = false := decide_eq_false hlt
      have cw := (b2.cell (p := ⟨g8, bsI R R.length, none⟩) (block_lt_of_cell (HC8.out _ hbl))).trans (HC8.out _ hbl)
      obtain ⟨bi, hbi⟩ : ∃ bi, bsI R R.length = bi := ⟨_, rfl⟩
      rw [hbi] at hbl cb cw HSB ⊢
      obtain ⟨q, hq⟩ : ∃ q, (elS R bi).1 = q := ⟨_, rfl⟩
      obtain ⟨x1, hx1⟩ : ∃ x1, wS (elS R bi).2 = x1 := ⟨_, rfl⟩
      rw [hq] at cb HSB
      rw [hx1] at cw
      have HQ := Lib.hid hq
      have HX := Lib.hid hx1
      have HBI := Lib.hid hbi
      have c10 : ∀ u : After wr, u.v.cell? ⟨g7, o7 + bi, none⟩ = some (.int .i64 (q : Int)) := fun u => After.cell cb u
      have c11 : ∀ u : After wr, u.v.cell? ⟨g8, bi, none⟩ = some (.string x1) := fun u => After.cell cw u
      clear hq hx1 hbi cb cw hb5
      go_wp2
      refine wp_region_class_all (C := fun w' => ∃ u : After _, w' = u.v) (by kernel_rfl) (by kernel_rfl) (isAfter_start _) ?_
      try simp only [Act.put]
      repeat (go_big_quiet_step ((with_reducible refine (HSB.out _).mono ?_; rintro e w8 ⟨rfl, b8⟩; exact ⟨rfl, After.done _ b8⟩)))
      refine wpQuiet_nil ?_
      rintro _ ⟨ua, rfl⟩
      go_wp2
      refine bodyPost_ret (results_tmp3 rfl _ _ _) rfl ⟨?_, b1.trans ((b2.trans (ua.h.mono b2.size)).mono b1.size)⟩
      rw [HBI.out, HQ.out, HX.out]; rfl
end Go.Proofs.YtignbpipdfjkeaaDoor
