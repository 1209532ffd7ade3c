/- PostsWithout, walked. -/
import Derived.Test.YtnnaaoobdofooaaRT
import Derived.Test.YtnnaaoobdofooaaRU
namespace Go.Proofs.Ytnnaaoobdofooaa
open Go.RowKit
set_option maxHeartbeats 1000000
set_option maxRecDepth 100000
theorem woL_row {T : List (List Int)} (h : IsT T) (r c : Nat) : ∀ {k i : Nat}, i < (woL T r c k).length → (getl (woL T r c k) i).length ≤ 1000000 := by
  have hle := h.le
  intro k i hi
  have hm : getl (woL T r c k) i ∈ woL T r c k := by
    unfold getl
    rw [List.getD_eq_getElem?_getD, List.getElem?_eq_getElem hi]; exact List.getElem_mem hi
  unfold woL at hm
  rw [List.mem_map] at hm
  obtain ⟨j, _, hj⟩ := hm
  rw [← show woR (getl T j) c = getl (woL T r c k) i from hj]
  unfold woR
  rw [List.length_append, List.length_take, List.length_drop]
  by_cases hjl : j < T.length
  · have := h.row j hjl
    omega
  · rw [getl_ge (by omega)]; simp
theorem PostsWithout_any (A : Option Addr) (c : Nat) (L : List (List Int)) (x y : Int) (w : World) (hx : L.length ≤ c) (hc : c ≤ maxLen) (ha : RowsIn w A L) :
    Calls Try.prog 4 #[.slice A L.length c, .agg #[.int .i64 x, .int .i64 y]] w fun e w' => e = .returned (.bool true) ∧ Below w.heap.size w w' := by
  have bW : Below w.heap.size w (w.alloc (.cells #[.int .i64 x, .int .i64 y] 36)) := (Below.refl _ _).alloc (Nat.le_refl _) _
  have q0 : Row (w.alloc (.cells #[.int .i64 x, .int .i64 y] 36)) w.heap.size 36 [.int .i64 x, .int .i64 y] := row_new rfl
  have HT := Lib.hid (table_any A c L (w.alloc (.cells #[.int .i64 x, .int .i64 y] 36)) (by omega) (ha.below bW))
  have hl : (tbR L (min L.length 11)).length = min L.length 11 := tbR_len (by omega)
  have hl2 : min L.length 11 ≤ 11 := by omega
  clear ha hx hc
  generalize min L.length 11 = k at *
  generalize tbR L k = T at *
  subst hl
  go_enter Try.func4, Try.ntmps4
  go_wp2_with (go_at_call 17; fail)
  refine HT.out.mono ?_
  rintro e w1 ⟨A1, c1, cs, rfl, o1, R1, b1⟩
  have C1 := Lib.hid (rows_c R1 o1)
  have q1 := q0.below b1
  replace b1 := bW.trans (b1.mono bW.size)
  obtain ⟨⟨k0, k1⟩, -⟩ := q1.cells2
  clear HT o1 R1 q0 bW
  cases hok : okT T
  · have HW := Lib.hid (fun (V : World) hV => Without_no A1 c1 T x y V hok (C1.out.at.below hV))
    have HL := Lib.hid (fun (V : World) hV => Level_no A1 c1 T V hok (C1.out.at.below hV))
    have HR := Lib.hid (fun (V : World) hV => refTable_any A1 c1 T V (by omega) (C1.out.at.below hV))
    rw [hok] at HR
    clear hok
    go_wp2_with (go_at_call 26; fail)
    refine (HW.out _ (Below.refl _ _)).mono ?_
    rintro e w2 ⟨rfl, b2⟩
    go_wp2_with (go_at_call 27; fail)
    refine (HL.out _ b2).mono ?_
    rintro e w3 ⟨rfl, b3⟩
    replace b3 := b2.trans (b3.mono b2.size)
    go_wp2_with (go_at_call 20; fail)
    refine (HR.out _ b3).mono ?_
    rintro e w4 ⟨rfl, b4⟩
    replace b4 := b1.trans ((b3.trans (b4.mono b3.size)).mono b1.size)
    clear HW HL HR b1 b2 b3 C1 q1 k0 k1
    go_wp2_with (go_at_call 21; refine (awake_any _).mono ?_; rintro e w5 ⟨rfl, b5⟩; replace b4 := b4.trans (b5.mono b4.size); clear b5)
    go_ret
    exact ⟨rfl, b4⟩
  · have hI := okT_iff.1 hok
    have HR := Lib.hid (fun (V : World) hV => refTable_any A1 c1 T V (by omega) (C1.out.at.below hV))
    have HL := Lib.hid (fun (V : World) hV => Level_yes A1 c1 T V hI (C1.out.at.below hV))
    have HE := Lib.hid (fun (V : World) hV => refLevel_any A1 c1 T V hI (C1.out.at.below hV))
    rw [hok] at HR
    clear hok
    by_cases hin : x < 0 ∨ T.length ≤ x ∨ y < 0 ∨ T.length ≤ y
    · have HW := Lib.hid (fun (V : World) hV => Without_out A1 c1 T x y V hI hin (C1.out.at.below hV))
      generalize lvN T = n at *
      generalize isLev T = bl at *
      clear hI
      go_wp2_with (go_at_call 26; fail)
      refine (HW.out _ (Below.refl _ _)).mono ?_
      rintro e w2 ⟨rfl, b2⟩
      go_wp2_with (go_at_call 27; fail)
      refine (HL.out _ b2).mono ?_
      rintro e w3 ⟨rfl, b3⟩
      replace b3 := b2.trans (b3.mono b2.size)
      go_wp2_with (go_at_call 20; fail)
      refine (HR.out _ b3).mono ?_
      rintro e w4 ⟨rfl, b4⟩
      replace b4 := b3.trans (b4.mono b3.size)
      go_wp2_with (go_at_call 28; fail)
      refine (HE.out _ b4).mono ?_
      rintro e w5 ⟨rfl, b5⟩
      replace b5 := b4.trans (b5.mono b4.size)
      obtain ⟨⟨k0, k1⟩, -⟩ := (q1.below b5).cells2
      replace b5 := b1.trans (b5.mono b1.size)
      clear HW HL HR HE b1 b2 b3 b4 C1 q1
      go_wp2_with (go_at_call 21; refine (awake_any _).mono ?_; rintro e w6 ⟨rfl, b6⟩; replace b5 := b5.trans (b6.mono b5.size); clear b6)
      all_goals first
        | (exfalso; omega)
        | (go_ret; exact ⟨rfl, b5⟩)
    · obtain ⟨X, rfl⟩ : ∃ X : Nat, x = X := ⟨x.toNat, by omega⟩
      obtain ⟨Y, rfl⟩ : ∃ Y : Nat, y = Y := ⟨y.toNat, by omega⟩
      have g1 : decide ((X : Int) < 0) = false := decide_eq_false (by omega)
      have g2 : decide ((T.length : Int) ≤ (X : Int)) = false := decide_eq_false (by omega)
      have g3 : decide ((Y : Int) < 0) = false := decide_eq_false (by omega)
      have g4 : decide ((T.length : Int) ≤ (Y : Int)) = false := decide_eq_false (by omega)
      have HW := Lib.hid (fun (V : World) hV => Without_yes A1 c1 T X Y V hI (by omega) (by omega) (C1.out.at.below hV))
      have HWR := Lib.hid (fun (V : World) hV => refWithout_any A1 c1 T X Y V hI (by omega) (by omega) (C1.out.below hV))
      have hwl : (wo T X Y).length ≤ 11 := Nat.le_trans (woL_len T X Y T.length) hl2
      have HWN : Hid (∀ i, i < (wo T X Y).length → (getl (wo T X Y) i).length ≤ 1000000) := Lib.hid (fun i hi => woL_row hI X Y hi)
      have hX : X < T.length := by omega
      have hY : Y < T.length := by omega
      have hX' : ¬ T.length ≤ X := by omega
      have hY' : ¬ T.length ≤ Y := by omega
      generalize lvN T = n at *
      generalize isLev T = bl at *
      generalize wo T X Y = Z at *
      clear hI hin
      go_wp2_with (go_at_call 26; fail)
      refine (HW.out _ (Below.refl _ _)).mono ?_
      rintro e w2 ⟨A2, c2, cs2, rfl, o2, R2, b2⟩
      have C2 := Lib.hid (rows_c R2 o2)
      clear HW o2 R2
      go_wp2_with (go_at_call 27; fail)
      refine (HL.out _ b2).mono ?_
      rintro e w3 ⟨rfl, b3⟩
      replace C2 := Lib.hid (C2.out.below b3)
      replace b3 := b2.trans (b3.mono b2.size)
      go_wp2_with (go_at_call 20; fail)
      refine (HR.out _ b3).mono ?_
      rintro e w4 ⟨rfl, b4⟩
      replace C2 := Lib.hid (C2.out.below b4)
      replace b4 := b3.trans (b4.mono b3.size)
      go_wp2_with (go_at_call 28; fail)
      refine (HE.out _ b4).mono ?_
      rintro e w5 ⟨rfl, b5⟩
      replace C2 := Lib.hid (C2.out.below b5)
      replace b5 := b4.trans (b5.mono b4.size)
      have q5 := q1.below b5
      obtain ⟨⟨k0, k1⟩, -⟩ := q5.cells2
      clear HL HR HE b2 b3 b4
      go_wp2_with (go_at_call 30; fail)
      refine (HWR.out _ b5).mono ?_
      rintro e w6 ⟨A6, c6, cs6, rfl, o6, R6, b6⟩
      have C6 := rows_c R6 o6
      have HTB := Lib.hid (tables_yes A2 A6 c2 c6 Z Z.length w6 rfl (by omega) HWN.out (C2.out.at.below b6) C6.at)
      replace b6 := b5.trans (b6.mono b5.size)
      replace b6 := b1.trans (b6.mono b1.size)
      clear HWR o6 R6 C6 C2 C1 b5 b1 HWN q1 q5
      go_wp2_with (go_at_call 29; fail)
      refine HTB.out.mono ?_
      rintro e w7 ⟨rfl, b7⟩
      replace b7 := b6.trans (b7.mono b6.size)
      clear HTB b6
      go_wp2_with (go_at_call 21; refine (awake_any _).mono ?_; rintro e w8 ⟨rfl, b8⟩; replace b7 := b7.trans (b8.mono b7.size); clear b8)
      go_ret
      exact ⟨rfl, b7⟩
end Go.Proofs.Ytnnaaoobdofooaa
