/- The reference's Greedy walked; ClockResets walked. -/
import Derived.Test.YtignbpipdfjkeaaDoorCK
import Derived.Test.YtignbpipdfjkeaaDoorBD
import Derived.Test.YtignbpipdfjkeaaDoorBF
/- The reference's Greedy walked. -/
namespace Go.Proofs.YtignbpipdfjkeaaDoor
open Go.RowKit Go.PlainAid
set_option maxHeartbeats 4000000
set_option maxRecDepth 100000
theorem rgr_walk (bA oA c k : Nat) (w : World) (L : List (List Int)) (a : Nat) (R : List Nat) (gr : Nat → Nat → List Nat → Option (List Nat)) (IS : Nat → Prop)
    (HA : Hid (∀ V, Below w.heap.size w V → Calls Tryd.prog 24 #[.slice (some ⟨bA, oA, none⟩) k c] V fun e w' => e = .returned (.int .i64 (a : Nat)) ∧ V = w'))
    (HZ : Hid (∀ s V, IS s → Calls Tryd.prog 45 #[.int .i64 (s : Nat)] V fun e w' => e = .returned (.int .i64 (szS s : Nat)) ∧ Below V.heap.size V w'))
    (HL : Hid (∀ s V, IS s → Calls Tryd.prog 27 #[.int .i64 (s : Nat)] V (LstR V (lsI s))))
    (HM : Hid (∀ s j m V, IS s → j < szS s → m < szS s → Below w.heap.size w V → Calls Tryd.prog 30 #[.slice (some ⟨bA, oA, none⟩) k c, .int .i64 (biN s m : Nat), .int .i64 (biN s j : Nat)] V fun e w' => e = .returned (.tuple #[.string (wS (pwN L s j m)), .bool true]) ∧ Below V.heap.size V w'))
    (HP : Hid (∀ s j m, IS s → j < szS s → m < j → okW 4 (pwN L s j m) ∧ pwN L s j m ≠ []))
    (HI : Hid (∀ s b, IS s → 1 < szS s → BI (pwN L s) (szS s) (szS s) 0 b → ∃ t, IS t ∧ szS t ≤ szS s - 1 ∧ b.length ≤ 512 ∧ (∀ f x, gr (f + 1) s x = gr f t (x ++ b)) ∧ ∀ V, Below w.heap.size w V → Calls Tryd.prog 35 #[.slice (some ⟨bA, oA, none⟩) k c, .int .i64 (s : Nat), .string (wS b)] V fun e w' => e = .returned (.int .i64 (t : Nat)) ∧ Below V.heap.size V w'))
    (HE : Hid (∀ f s x, szS s ≤ 1 → gr f s x = some x)) (hR : gr 8 a [] = some R) (ha : IS a) :
    Calls Tryd.prog 28 #[.slice (some ⟨bA, oA, none⟩) k c] w fun e w' => e = .returned (.string (wS R)) ∧ Below w.heap.size w w' := by
  have b0 := Below.refl w.heap.size w
  have HR := Lib.hid hR
  have a9 := sz_le a
  have HBF := Lib.hid (fun x y V => before_any (wS x) (wS y) V)
  clear hR
  go_enter Tryd.func28, Tryd.ntmps28
  go_wp2_with (go_at_call 24; (with_reducible refine (HA.out _ b0).mono ?_); rintro e w1 ⟨rfl, rfl⟩)
  go_loopw [3, 4] (fun v o wr => ∃ (f s : Nat) (x : List Nat), v = .int .i64 s ∧ o = .string (wS x) ∧ f ≤ 8 ∧ szS s ≤ f + 1 ∧ IS s ∧ x.length + f * 512 ≤ 4096 ∧ Below w.heap.size w wr ∧ Hid (gr f s x = some R)) (fun v _ _ => szS (intOf v).toNat)
  case atStart => exact ⟨8, a, [], rfl, rfl, by omega, by omega, ha, by simp, b0, HR⟩
  case round =>
    clear b0 HR ha a9
    obtain ⟨f, s, x, rfl, rfl, hf, hsz, hs, hx, b0, HR⟩ := hrel
    have HZ1 := Lib.hid (fun V => HZ.out s V hs)
    by_cases h1 : 1 < szS s
    · obtain ⟨g, rfl⟩ : ∃ g, f = g + 1 := ⟨f - 1, by omega⟩
      have s9 := sz_le s
      have HL1 := Lib.hid (fun V => HL.out s V hs)
      have HM1 := Lib.hid (fun j m V hj hm hV => HM.out s j m V hs hj hm hV)
      have HP1 := Lib.hid (fun j m hj hm => HP.out s j m hs hj hm)
      have HI1 := Lib.hid (fun b hb => HI.out s b hs h1 hb)
      have HG := Lib.hid (fun j (hj : j < szS s) => biN_geti hj)
      have hll : (lsI s).length = szS s := lsI_len s
      obtain ⟨z, hz⟩ : ∃ z, szS s = z := ⟨_, rfl⟩
      have HZE := Lib.hid hz
      rw [hz] at HZ1 h1 hsz s9 HM1 HP1 HI1 HG hll
      have HLL := Lib.hid hll
      have g1 : decide ((1 : Int) < (z : Int)) = true := decide_eq_true (by omega)
      have g1' : decide (1 < z) = true := decide_eq_true h1
      clear hz HZ HL HM HP HI HA hll
      generalize lsI s = l at *
      generalize biN s = bi at *
      generalize pwN L s = pw at *
      go_wp2_with (first
        | (go_at_call 45; (with_reducible refine (HZ1.out _).mono ?_); rintro e w2 ⟨rfl, b2⟩; replace b0 := b0.trans (b2.mono b0.size))
        | (go_at_call 27; (with_reducible refine (HL1.out _).mono ?_); rintro e w3 ⟨A3, c3, rfl, i3, b3⟩; replace b0 := b0.trans (b3.mono b0.size); obtain ⟨bL, oL, rfl, hbL, hcL⟩ := i3 (by rw [HLL.out]; omega); rw [HLL.out]; clear i3))
      have CL : Hid (∀ V j, Below w3.heap.size w3 V → j < z → V.cell? ⟨bL, oL + j, none⟩ = some (.int .i64 (bi j : Nat))) := Lib.hid (fun V j hV hj => by
        have := (hV.cell (p := ⟨bL, oL + j, none⟩) hbL).trans (hcL j (by rw [HLL.out]; exact hj))
        rw [this, HG.out j hj])
      have y0 := Below.refl w3.heap.size w3
      have HS0 : Hid (BI pw z 0 0 []) := Lib.hid (BI.start pw z)
      have o0 : okW 4 [] := fun b hb => absurd hb (List.not_mem_nil)
      clear hcL HG HL1
      go_loopw [6, 7] (fun t i wr => ∃ (j : Nat) (b : List Nat), i = .int .i64 j ∧ t = .string (wS b) ∧ j ≤ z ∧ okW 4 b ∧ Below w3.heap.size w3 wr ∧ Hid (BI pw z j 0 b)) (fun _ i _ => z - (intOf i).toNat)
      case atStart => exact ⟨0, [], rfl, rfl, by omega, o0, y0, HS0⟩
      case round =>
        clear y0 HS0 o0
        obtain ⟨j, b, rfl, rfl, hj, ob, y0, HS⟩ := hrel
        by_cases hjz : j < z
        · have g2 : decide (j < z) = true := decide_eq_true hjz
          have g2' : decide ((j : Int) < (z : Int)) = true := decide_eq_true (by omega)
          go_wp2
          go_loopw [6, 8] (fun t i wr => ∃ (m : Nat) (b : List Nat), i = .int .i64 m ∧ t = .string (wS b) ∧ m ≤ j ∧ okW 4 b ∧ Below w3.heap.size w3 wr ∧ Hid (BI pw z j m b)) (fun _ i _ => j - (intOf i).toNat)
          case atStart => exact ⟨0, b, rfl, rfl, by omega, ob, y0, HS⟩
          case round =>
            clear y0 HS ob
            obtain ⟨m, b, rfl, rfl, hm, ob, y0, HS⟩ := hrel
            by_cases hmj : m < j
            · have g3 : decide (m < j) = true := decide_eq_true hmj
              have g3' : decide ((m : Int) < (j : Int)) = true := decide_eq_true (by omega)
              obtain ⟨op, np⟩ := HP1.out j m hjz hmj
              have hbf := bf_iff op ob
              have HB1 := Lib.hid (fun V => HBF.out (pw j m) b V)
              rw [hbf] at HB1
              have HM2 := Lib.hid (fun (u : After wr) => HM1.out j m u.v hjz (by omega) (b0.trans ((y0.mono (Nat.le_refl _)).trans (u.h.mono y0.size) |>.mono b0.size)))
              have k1 : ∀ u : After wr, u.v.cell? ⟨bL, oL + j, none⟩ = some (.int .i64 (bi j : Nat)) := fun u => CL.out u.v j (y0.trans (u.h.mono y0.size)) hjz
              have k2 : ∀ u : After wr, u.v.cell? ⟨bL, oL + m, none⟩ = some (.int .i64 (bi m : Nat)) := fun u => CL.out u.v m (y0.trans (u.h.mono y0.size)) (by omega)
              have hmz : m < z := by omega
              clear hbf
              by_cases hbn : b = []
              · subst hbn
                have HS2 := Lib.hid (HS.out.take hmj hjz np (.inl rfl))
                have hem : (wS []).toList.isEmpty = true := by rw [wS_list]; rfl
                clear HS HB1 ob
                generalize pw j m = q at *
                generalize wS [] = sb at *
                go_wp2
                refine wp_region_class_all (C := fun w' => ∃ u : After _, w' = u.v) (by kernel_rfl) (by kernel_rfl) (isAfter_start _) ?_
                try simp only [Act.put]
                repeat (go_big_quiet_step (((with_reducible refine (HM2.out _).mono ?_); rintro e w8 ⟨rfl, b8⟩; exact ⟨rfl, After.done _ b8⟩)))
                refine wpQuiet_nil ?_
                rintro _ ⟨ua, rfl⟩
                go_wp2
                go_roundw
                case rel => exact ⟨m + 1, q, by go_num, rfl, by omega, op, y0.trans (ua.h.mono y0.size), HS2⟩
                case measure => simp [intOf]; omega
              · have hem : (wS b).toList.isEmpty = false := by
                  rw [wS_list]
                  cases b with
                  | nil => exact absurd rfl hbn
                  | cons c t => rfl
                by_cases hv : vw (pw j m) < vw b
                · have HS2 := Lib.hid (HS.out.take hmj hjz np (.inr hv))
                  rw [decide_eq_true hv] at HB1
                  clear HS hbn hv ob
                  generalize pw j m = q at *
                  generalize wS b = sb at *
                  go_wp2
                  refine wp_region_class_all (C := fun w' => ∃ u : After _, w' = u.v) (by kernel_rfl) (by kernel_rfl) (isAfter_start _) ?_
                  try simp only [Act.put]
                  repeat (go_big_quiet_step (((with_reducible refine (HM2.out _).mono ?_); rintro e w8 ⟨rfl, b8⟩; exact ⟨rfl, After.done _ b8⟩)))
                  refine wpQuiet_nil ?_
                  rintro _ ⟨ua, rfl⟩
                  go_wp2_with (go_at_call 58; (with_reducible refine (HB1.out _).mono ?_); rintro e w9 ⟨rfl, rfl⟩)
                  go_roundw
                  case rel => exact ⟨m + 1, q, by go_num, rfl, by omega, op, y0.trans (ua.h.mono y0.size), HS2⟩
                  case measure => simp [intOf]; omega
                · have HS2 := Lib.hid (HS.out.keep hbn (by omega))
                  rw [decide_eq_false hv] at HB1
                  clear HS hbn hv op np
                  generalize pw j m = q at *
                  generalize hsb : wS b = sb at *
                  have HSB := Lib.hid hsb
                  clear hsb
                  go_wp2
                  refine wp_region_class_all (C := fun w' => ∃ u : After _, w' = u.v) (by kernel_rfl) (by kernel_rfl) (isAfter_start _) ?_
                  try simp only [Act.put]
                  repeat (go_big_quiet_step (((with_reducible refine (HM2.out _).mono ?_); rintro e w8 ⟨rfl, b8⟩; exact ⟨rfl, After.done _ b8⟩)))
                  refine wpQuiet_nil ?_
                  rintro _ ⟨ua, rfl⟩
                  go_wp2_with (go_at_call 58; (with_reducible refine (HB1.out _).mono ?_); rintro e w9 ⟨rfl, rfl⟩)
                  go_roundw
                  case rel => exact ⟨m + 1, b, by go_num, by rw [HSB.out], by omega, ob, y0.trans (ua.h.mono y0.size), HS2⟩
                  case measure => simp [intOf]; omega
            · obtain rfl : m = j := by omega
              have g3 : decide (m < m) = false := decide_eq_false (by omega)
              have g3' : decide ((m : Int) < (m : Int)) = false := decide_eq_false (by omega)
              have HS2 := Lib.hid HS.out.next
              clear HS
              go_wp2
              go_roundw
              case rel => exact ⟨m + 1, b, by go_num, rfl, by omega, ob, y0, HS2⟩
              case measure => simp [intOf]; omega
        · obtain rfl : j = z := by omega
          have g2 : decide (j < j) = false := decide_eq_false (by omega)
          have g2' : decide ((j : Int) < (j : Int)) = false := decide_eq_false (by omega)
          obtain ⟨t, it, zt, lb, hg, hI⟩ := HI1.out b HS.out
          have HI2 := Lib.hid hI
          rw [hg] at HR
          have b1 := b0.trans (y0.mono b0.size)
          have hxy : (wS x).size + (wS b).size ≤ 100000 := by rw [wS_len, wS_len]; omega
          have HXY : Hid (wS x ++ wS b = wS (x ++ b)) := Lib.hid (wS_app x b)
          have HXL : Hid ((x ++ b).length + g * 512 ≤ 4096) := Lib.hid (by rw [List.length_append]; omega)
          clear hI hg HI1 HS y0 CL HP1 HM1
          go_wp2_with (go_at_call 35; (with_reducible refine (HI2.out _ b1).mono ?_); rintro e w6 ⟨rfl, b6⟩; replace b1 := b1.trans (b6.mono b1.size))
          go_roundw
          case rel => exact ⟨g, t, x ++ b, rfl, by rw [HXY.out], by omega, by omega, it, HXL.out, b1, HR⟩
          case measure => simp [intOf]; have := HZE.out; omega
    · have g1 : decide ((1 : Int) < (szS s : Int)) = false := decide_eq_false (by omega)
      have g1' : decide (1 < szS s) = false := decide_eq_false h1
      have hrr := HR.out
      rw [HE.out f s x (by omega)] at hrr
      obtain rfl : x = R := by simpa using hrr
      clear hrr HR HE HI HP HM
      go_wp2_with (go_at_call 45; (with_reducible refine (HZ1.out _).mono ?_); rintro e w2 ⟨rfl, b2⟩; replace b0 := b0.trans (b2.mono b0.size))
      go_ret
      exact ⟨rfl, b0⟩
end Go.Proofs.YtignbpipdfjkeaaDoor
/- ClockResets walked. -/
namespace Go.Proofs.YtignbpipdfjkeaaDoor
open Go.RowKit Go.PlainAid
set_option maxHeartbeats 4000000
set_option maxRecDepth 100000
theorem crs_no (A : Option Addr) (m c : Nat) (w : World) (M : List (List Int))
    (HT : Hid (Calls Tryd.prog 16 #[.slice A m c] w (TabM w M)))
    (HAW : Hid (∀ V, Below w.heap.size w V → Calls Tryd.prog 22 #[] V fun e w' => e = .returned (.bool true) ∧ Below V.heap.size V w'))
    (H1 : Hid (∀ V A c, RowsAt V A M → Calls Tryd.prog 17 #[.slice A M.length c] V fun e w' => e = .returned (.tuple #[.string ⟨#[]⟩, .int .i64 0, .int .i64 2]) ∧ Below V.heap.size V w'))
    (H2 : Hid (∀ V A c, RowsAt V A M → Calls Tryd.prog 18 #[.slice A M.length c] V fun e w' => e = .returned (.tuple #[.int .i64 0, .string ⟨#[]⟩, .int .i64 2]) ∧ Below V.heap.size V w'))
    (H3 : Hid (∀ V A c, RowsAt V A M → Calls Tryd.prog 19 #[.slice A M.length c] V fun e w' => e = .returned (.tuple #[.slice none 0 0, .int .i64 2]) ∧ Below V.heap.size V w'))
    (H4 : Hid (∀ V A c, RowsAt V A M → Calls Tryd.prog 20 #[.slice A M.length c] V fun e w' => e = .returned (.tuple #[.string ⟨#[]⟩, .int .i64 2]) ∧ Below V.heap.size V w'))
    (H5 : Hid (∀ V A c, RowsAt V A M → Calls Tryd.prog 21 #[.slice A M.length c] V fun e w' => e = .returned (.bool false) ∧ V = w')) :
    Calls Tryd.prog 3 #[.slice A m c] w fun e w' => e = .returned (.bool true) ∧ Below w.heap.size w w' := by
  have b0 := Below.refl w.heap.size w
  go_enter Tryd.func3, Tryd.ntmps3
  go_wp2_with (first
    | (go_at_call 16; refine HT.out.mono ?_; rintro e w1 ⟨A1, c1, rfl, ra, b1⟩; replace b0 := b1)
    | (go_at_call 17; (with_reducible refine (H1.out _ _ _ ra).mono ?_); rintro e w2 ⟨rfl, b2⟩; replace b0 := b0.trans (b2.mono b0.size); replace ra := ra.below b2)
    | (go_at_call 18; (with_reducible refine (H2.out _ _ _ ra).mono ?_); rintro e w3 ⟨rfl, b3⟩; replace b0 := b0.trans (b3.mono b0.size); replace ra := ra.below b3)
    | (go_at_call 19; (with_reducible refine (H3.out _ _ _ ra).mono ?_); rintro e w4 ⟨rfl, b4⟩; replace b0 := b0.trans (b4.mono b0.size); replace ra := ra.below b4)
    | (go_at_call 20; (with_reducible refine (H4.out _ _ _ ra).mono ?_); rintro e w5 ⟨rfl, b5⟩; replace b0 := b0.trans (b5.mono b0.size); replace ra := ra.below b5)
    | (go_at_call 21; (with_reducible refine (H5.out _ _ _ ra).mono ?_); rintro e w6 ⟨rfl, rfl⟩)
    | (go_at_call 22; (with_reducible refine (HAW.out _ b0).mono ?_); rintro e w7 ⟨rfl, b7⟩; replace b0 := b0.trans (b7.mono b0.size)))
  go_ret
  exact ⟨rfl, b0⟩
theorem crs_big (A : Option Addr) (m c rk F t : Nat) (w : World) (M : List (List Int)) (RS W G : ByteArray) (RQ RE GE : Int) (P : List Int)
    (HT : Hid (Calls Tryd.prog 16 #[.slice A m c] w (TabM w M)))
    (HAW : Hid (∀ V, Below w.heap.size w V → Calls Tryd.prog 22 #[] V fun e w' => e = .returned (.bool true) ∧ Below V.heap.size V w'))
    (H1 : Hid (∀ V A c, Below w.heap.size w V → RowsAt V A M → Calls Tryd.prog 17 #[.slice A M.length c] V fun e w' => e = .returned (.tuple #[.string RS, .int .i64 RQ, .int .i64 RE]) ∧ Below V.heap.size V w'))
    (H2 : Hid (∀ V A c, Below w.heap.size w V → RowsAt V A M → Calls Tryd.prog 18 #[.slice A M.length c] V fun e w' => e = .returned (.tuple #[.int .i64 (rk : Nat), .string W, .int .i64 0]) ∧ Below V.heap.size V w'))
    (H3 : Hid (∀ V A c, Below w.heap.size w V → RowsAt V A M → Calls Tryd.prog 19 #[.slice A M.length c] V (LstER V P 0)))
    (H4 : Hid (∀ V A c, Below w.heap.size w V → RowsAt V A M → Calls Tryd.prog 20 #[.slice A M.length c] V fun e w' => e = .returned (.tuple #[.string G, .int .i64 GE]) ∧ Below V.heap.size V w'))
    (H5 : Hid (∀ V A c, RowsAt V A M → Calls Tryd.prog 21 #[.slice A M.length c] V fun e w' => e = .returned (.bool true) ∧ V = w'))
    (H6 : Hid (∀ V A c, RowsAt V A M → Calls Tryd.prog 24 #[.slice A M.length c] V fun e w' => e = .returned (.int .i64 (F : Nat)) ∧ V = w'))
    (H7 : Hid (∀ V A c, RowsAt V A M → Calls Tryd.prog 23 #[.slice A M.length c, .int .i64 (F : Nat)] V fun e w' => e = .returned (.tuple #[.int .i64 (rk : Nat), .string W, .int .i64 (t : Nat)]) ∧ Below V.heap.size V w'))
    (H8 : Hid (∀ V A c, RowsAt V A M → Calls Tryd.prog 26 #[.slice A M.length c] V (LstR V P)))
    (H9 : Hid (∀ V A B c d, IntsAt V A P → IntsAt V B P → Calls Tryd.prog 25 #[.slice A P.length c, .slice B P.length d] V fun e w' => e = .returned (.bool true) ∧ ∃ n, w' = V.drewN n))
    (hrk : 1 < rk) (hrs : RS = ⟨#[]⟩) (hrq : RQ = 0) (hre : RE = 6) (hg : G = ⟨#[]⟩) (hge : GE = 6) :
    Calls Tryd.prog 3 #[.slice A m c] w fun e w' => e = .returned (.bool true) ∧ Below w.heap.size w w' := by
  subst hrs hrq hre hg hge
  have g1 : decide ((1 : Int) < (rk : Int)) = true := decide_eq_true (by omega)
  have g1' : decide (1 < rk) = true := decide_eq_true hrk
  have hbw : (W.toList == W.toList) = true := beq_self_eq_true _
  clear hrk
  have b0 := Below.refl w.heap.size w
  go_enter Tryd.func3, Tryd.ntmps3
  go_wp2_with (first
    | (go_at_call 16; refine HT.out.mono ?_; rintro e w1 ⟨A1, c1, rfl, ra, b1⟩; replace b0 := b1)
    | (go_at_call 17; (with_reducible refine (H1.out _ _ _ b0 ra).mono ?_); rintro e w2 ⟨rfl, b2⟩; replace b0 := b0.trans (b2.mono b0.size); replace ra := ra.below b2)
    | (go_at_call 18; (with_reducible refine (H2.out _ _ _ b0 ra).mono ?_); rintro e w3 ⟨rfl, b3⟩; replace b0 := b0.trans (b3.mono b0.size); replace ra := ra.below b3)
    | (go_at_call 19; ((with_reducible refine (H3.out _ _ _ b0 ra).mono ?_); rintro e w4 ⟨A4, c4, rfl, i4, b4⟩); replace b0 := b0.trans (b4.mono b0.size); replace ra := ra.below b4)
    | (go_at_call 20; (with_reducible refine (H4.out _ _ _ b0 ra).mono ?_); rintro e w5 ⟨rfl, b5⟩; replace b0 := b0.trans (b5.mono b0.size); replace ra := ra.below b5; replace i4 := i4.below b5)
    | (go_at_call 21; (with_reducible refine (H5.out _ _ _ ra).mono ?_); rintro e w6 ⟨rfl, rfl⟩)
    | (go_at_call 24; (with_reducible refine (H6.out _ _ _ ra).mono ?_); rintro e w7 ⟨rfl, rfl⟩)
    | (go_at_call 23; (with_reducible refine (H7.out _ _ _ ra).mono ?_); rintro e w8 ⟨rfl, b8⟩; replace b0 := b0.trans (b8.mono b0.size); replace ra := ra.below b8; replace i4 := i4.below b8)
    | (go_at_call 26; ((with_reducible refine (H8.out _ _ _ ra).mono ?_); rintro e w9 ⟨A9, c9, rfl, i9, b9⟩); replace b0 := b0.trans (b9.mono b0.size); replace ra := ra.below b9; replace i4 := i4.below b9)
    | (go_at_call 25; ((with_reducible refine (H9.out _ _ _ _ _ i4 i9).mono ?_); rintro e _ ⟨rfl, nq, rfl⟩); replace b0 := b0.trans (below_drewN nq); replace ra := ra.below (below_drewN nq); clear i4 i9; generalize World.drewN _ nq = w10 at *)
    | (go_at_call 22; (with_reducible refine (HAW.out _ b0).mono ?_); rintro e w13 ⟨rfl, b13⟩; replace b0 := b0.trans (b13.mono b0.size)))
  go_ret
  exact ⟨rfl, b0⟩
theorem crs_one (A : Option Addr) (m c rk F t : Nat) (w : World) (M : List (List Int)) (RS W G : ByteArray) (RQ RE GE : Int) (P Q : List Int)
    (HT : Hid (Calls Tryd.prog 16 #[.slice A m c] w (TabM w M)))
    (HAW : Hid (∀ V, Below w.heap.size w V → Calls Tryd.prog 22 #[] V fun e w' => e = .returned (.bool true) ∧ Below V.heap.size V w'))
    (H1 : Hid (∀ V A c, Below w.heap.size w V → RowsAt V A M → Calls Tryd.prog 17 #[.slice A M.length c] V fun e w' => e = .returned (.tuple #[.string RS, .int .i64 RQ, .int .i64 RE]) ∧ Below V.heap.size V w'))
    (H2 : Hid (∀ V A c, Below w.heap.size w V → RowsAt V A M → Calls Tryd.prog 18 #[.slice A M.length c] V fun e w' => e = .returned (.tuple #[.int .i64 (rk : Nat), .string W, .int .i64 0]) ∧ Below V.heap.size V w'))
    (H3 : Hid (∀ V A c, Below w.heap.size w V → RowsAt V A M → Calls Tryd.prog 19 #[.slice A M.length c] V (LstER V P 0)))
    (H4 : Hid (∀ V A c, Below w.heap.size w V → RowsAt V A M → Calls Tryd.prog 20 #[.slice A M.length c] V fun e w' => e = .returned (.tuple #[.string G, .int .i64 GE]) ∧ Below V.heap.size V w'))
    (H5 : Hid (∀ V A c, RowsAt V A M → Calls Tryd.prog 21 #[.slice A M.length c] V fun e w' => e = .returned (.bool true) ∧ V = w'))
    (H6 : Hid (∀ V A c, RowsAt V A M → Calls Tryd.prog 24 #[.slice A M.length c] V fun e w' => e = .returned (.int .i64 (F : Nat)) ∧ V = w'))
    (H7 : Hid (∀ V A c, RowsAt V A M → Calls Tryd.prog 23 #[.slice A M.length c, .int .i64 (F : Nat)] V fun e w' => e = .returned (.tuple #[.int .i64 (rk : Nat), .string W, .int .i64 (t : Nat)]) ∧ Below V.heap.size V w'))
    (H8 : Hid (∀ V A c, RowsAt V A M → Calls Tryd.prog 26 #[.slice A M.length c] V (LstR V P)))
    (H9 : Hid (∀ V A B c d, IntsAt V A P → IntsAt V B P → Calls Tryd.prog 25 #[.slice A P.length c, .slice B P.length d] V fun e w' => e = .returned (.bool true) ∧ ∃ n, w' = V.drewN n))
    (HL : Hid (∀ V, Calls Tryd.prog 27 #[.int .i64 (t : Nat)] V (LstR V (RQ :: Q))))
    (HG : Hid (∀ V A c, RowsAt V A M → Calls Tryd.prog 28 #[.slice A M.length c] V fun e w' => e = .returned (.string G) ∧ Below V.heap.size V w'))
    (hrk : rk ≤ 1) (hrs : RS = W) (hre : RE = 0) (hge : GE = 0) :
    Calls Tryd.prog 3 #[.slice A m c] w fun e w' => e = .returned (.bool true) ∧ Below w.heap.size w w' := by
  subst hrs hre hge
  have g1 : decide ((1 : Int) < (rk : Int)) = false := decide_eq_false (by omega)
  have g1' : decide (1 < rk) = false := decide_eq_false (by omega)
  have hbg : (G.toList == G.toList) = true := beq_self_eq_true _
  have hbw : (RS.toList == RS.toList) = true := beq_self_eq_true _
  clear hrk
  have b0 := Below.refl w.heap.size w
  go_enter Tryd.func3, Tryd.ntmps3
  go_wp2_with (first
    | (go_at_call 16; refine HT.out.mono ?_; rintro e w1 ⟨A1, c1, rfl, ra, b1⟩; replace b0 := b1)
    | (go_at_call 17; (with_reducible refine (H1.out _ _ _ b0 ra).mono ?_); rintro e w2 ⟨rfl, b2⟩; replace b0 := b0.trans (b2.mono b0.size); replace ra := ra.below b2)
    | (go_at_call 18; (with_reducible refine (H2.out _ _ _ b0 ra).mono ?_); rintro e w3 ⟨rfl, b3⟩; replace b0 := b0.trans (b3.mono b0.size); replace ra := ra.below b3)
    | (go_at_call 19; ((with_reducible refine (H3.out _ _ _ b0 ra).mono ?_); rintro e w4 ⟨A4, c4, rfl, i4, b4⟩); replace b0 := b0.trans (b4.mono b0.size); replace ra := ra.below b4)
    | (go_at_call 20; (with_reducible refine (H4.out _ _ _ b0 ra).mono ?_); rintro e w5 ⟨rfl, b5⟩; replace b0 := b0.trans (b5.mono b0.size); replace ra := ra.below b5; replace i4 := i4.below b5)
    | (go_at_call 21; (with_reducible refine (H5.out _ _ _ ra).mono ?_); rintro e w6 ⟨rfl, rfl⟩)
    | (go_at_call 24; (with_reducible refine (H6.out _ _ _ ra).mono ?_); rintro e w7 ⟨rfl, rfl⟩)
    | (go_at_call 23; (with_reducible refine (H7.out _ _ _ ra).mono ?_); rintro e w8 ⟨rfl, b8⟩; replace b0 := b0.trans (b8.mono b0.size); replace ra := ra.below b8; replace i4 := i4.below b8)
    | (go_at_call 26; ((with_reducible refine (H8.out _ _ _ ra).mono ?_); rintro e w9 ⟨A9, c9, rfl, i9, b9⟩); replace b0 := b0.trans (b9.mono b0.size); replace ra := ra.below b9; replace i4 := i4.below b9)
    | (go_at_call 25; ((with_reducible refine (H9.out _ _ _ _ _ i4 i9).mono ?_); rintro e _ ⟨rfl, nq, rfl⟩); replace b0 := b0.trans (below_drewN nq); replace ra := ra.below (below_drewN nq); clear i4 i9; generalize World.drewN _ nq = w10 at *)
    | (go_at_call 27; ((with_reducible refine (HL.out _).mono ?_); rintro e w11 ⟨A11, c11, rfl, i11, b11⟩); replace b0 := b0.trans (b11.mono b0.size); replace ra := ra.below b11; obtain ⟨bL, oL, rfl, -, hcL⟩ := i11 (Nat.succ_pos _); have d11 : w11.cell? ⟨bL, oL, none⟩ = some (.int .i64 RQ) := hcL 0 (Nat.succ_pos _); clear i11 hcL)
    | (go_at_call 28; (with_reducible refine (HG.out _ _ _ ra).mono ?_); rintro e w12 ⟨rfl, b12⟩; replace b0 := b0.trans (b12.mono b0.size))
    | (go_at_call 22; (with_reducible refine (HAW.out _ b0).mono ?_); rintro e w13 ⟨rfl, b13⟩; replace b0 := b0.trans (b13.mono b0.size)))
  go_ret
  exact ⟨rfl, b0⟩
end Go.Proofs.YtignbpipdfjkeaaDoor
/- ClockResets for every input. -/
namespace Go.Proofs.YtignbpipdfjkeaaDoor
open Go.RowKit Go.PlainAid
set_option maxHeartbeats 2000000
set_option maxRecDepth 100000
theorem outR_len2 (T : Tab) (k n : Nat) : ∀ c p, (outR T k n c p).length ≤ 2
  | 0, _ => by simp [outR]
  | c + 1, p => by
    unfold outR
    split
    · simp
    · exact outR_len2 T k n c (p + 1)
theorem refGreedy_any (A : Option Addr) (c : Nat) (L : List (List Int)) (R : List Nat) (w : World) (h : IsMI L) (ha : RowsAt w A L) (hall : ∀ p q, p < nS L → q < nS L → szS (shP L p q).1 = 1) (hR : grX L = some R) :
    Calls Tryd.prog 28 #[.slice A L.length c] w fun e w' => e = .returned (.string (wS R)) ∧ Below w.heap.size w w' := by
  have hM := h.isM
  have hF := full_set (n := nS L) h.n1
  have hN := full_ne (n := nS L) h.n1
  have hk4 := h.k4
  have RA : ∀ V, Below w.heap.size w V → RowsAt V A L := fun V hV => ha.below hV
  obtain ⟨bA, oA, rfl, -, -⟩ := ha h.k1
  refine rgr_walk bA oA c L.length w L (2 ^ nS L - 1) R (gr (tabN L) L.length) (fun s => IsS (nS L) s ∧ s ≠ 0) (Lib.hid (fun V hV => refAll_any _ c L V h (RA V hV))) (Lib.hid (fun s V hs => refSize_any s V (set512 h.n9 hs.1))) (Lib.hid (fun s V hs => (refList_any s V (set512 h.n9 hs.1)).mono fun _ _ h => h.lst))
    (Lib.hid (fun s j m V hs hj hm hV => ?_)) (Lib.hid (fun s j m hs hj hm => ?_)) (Lib.hid (fun s b hs h1 hb => ?_)) (Lib.hid (fun f s x h => gr_end h f)) hR ⟨hF, hN⟩
  · have h1 := bits_bound hs.1 (biN_mem hm)
    have h2 := bits_bound hs.1 (biN_mem hj)
    have := refMerge_any _ c L (biN s m) (biN s j) V h h1 h2 (RA V hV)
    rw [hall _ _ h1 h2] at this
    exact this
  · obtain ⟨f1, -, f3, -, -⟩ := mgW_facts h (bits_bound hs.1 (biN_mem (s := s) (j := m) (by omega))) (bits_bound hs.1 (biN_mem hj)) (biN_ne (by omega) hj (by omega)) (hall _ _ (bits_bound hs.1 (biN_mem (s := s) (j := m) (by omega))) (bits_bound hs.1 (biN_mem hj)))
    exact ⟨okW4 hk4 f1, f3⟩
  · obtain ⟨e1, e2, e3⟩ := best_seek h hall hs.1 h1 hb
    obtain ⟨-, -, a3, -, a5, a6, -⟩ := seek_facts hM hs.1 hs.2 e1
    refine ⟨img (tabN L) s b, ⟨a5, a6⟩, a3, e3, fun f x => by rw [gr_go h1, e1], fun V hV => ?_⟩
    have := refImage_any _ c L s (wS b) V h (RA V hV) hs.1 (okB_wS hk4 e2 (by omega))
    rwa [imP_all (tabN L) s (fun x hx => okW4 hk4 e2 x hx)] at this
theorem clockResets_any (A : Option Addr) (c : Nat) (L : List (List Int)) (w : World) (ht : TabW w) (hx : L.length ≤ c) (hc : c ≤ maxLen) (ha : RowsIn w A L) :
    Calls Tryd.prog 3 #[.slice A L.length c] w fun e w' => e = .returned (.bool true) ∧ Below w.heap.size w w' := by
  obtain ⟨M, hl, hT⟩ := tabM_any A c L w hx hc ha
  have HT := Lib.hid (hT w (Below.refl _ w))
  have HAW := Lib.hid (fun (V : World) (hV : Below w.heap.size w V) => awake_any V (ht.below hV ht.lt))
  have HRM := fun (V : World) A c ha => refMachine_any A c M V hl ha
  cases hk : okM M
  · rw [hk] at HRM
    exact crs_no A L.length c w M HT HAW (Lib.hid (fun V A c ha => Reset_no A c M V hk ha)) (Lib.hid (fun V A c ha => Rank_no A c M V hk ha)) (Lib.hid (fun V A c ha => Apart_no A c M V hk ha)) (Lib.hid (fun V A c ha => Greedy_no A c M V hk ha)) (Lib.hid HRM)
  rw [hk] at HRM
  have h := okM_iff.1 hk
  have hM := h.isM
  have hF := full_set (n := nS M) h.n1
  have hN := full_ne (n := nS M) h.n1
  obtain ⟨E, hE⟩ : ∃ E, shE (tabN M) M.length (2 ^ nS M - 1) = E := ⟨_, rfl⟩
  have hrs := seek_one (T := tabN M) (k := M.length) hM hF hN
  have hst := sh_set (T := tabN M) (k := M.length) hM hF hN
  have hrk := rk_eq (T := tabN M) (k := M.length) hM
  rw [hE] at hrs hst hrk
  have H2 : Hid (∀ V A c, Below w.heap.size w V → RowsAt V A M → Calls Tryd.prog 18 #[.slice A M.length c] V fun e w' => e = .returned (.tuple #[.int .i64 (szS E.1 : Nat), .string (wS E.2), .int .i64 0]) ∧ Below V.heap.size V w') := Lib.hid (fun V A c hV ha => by
    have := Rank_yes A c M V h ha (ht.below hV ht.lt)
    rw [show rkX M = (szS E.1, E.2) from hrk] at this
    exact this)
  have H3 : Hid (∀ V A c, Below w.heap.size w V → RowsAt V A M → Calls Tryd.prog 19 #[.slice A M.length c] V (LstER V (apX M) 0)) := Lib.hid (fun V A c hV ha => (Apart_yes A c M V h ha (ht.below hV ht.lt)).mono fun _ _ h => h.lst)
  have H6 : Hid (∀ V A c, RowsAt V A M → Calls Tryd.prog 24 #[.slice A M.length c] V fun e w' => e = .returned (.int .i64 ((2 ^ nS M - 1 : Nat) : Nat)) ∧ V = w') := Lib.hid (fun V A c ha => refAll_any A c M V h ha)
  have H7 : Hid (∀ V A c, RowsAt V A M → Calls Tryd.prog 23 #[.slice A M.length c, .int .i64 ((2 ^ nS M - 1 : Nat) : Nat)] V fun e w' => e = .returned (.tuple #[.int .i64 (szS E.1 : Nat), .string (wS E.2), .int .i64 (E.1 : Nat)]) ∧ Below V.heap.size V w') := Lib.hid (fun V A c ha => by
    have := Shrink_any A c M (2 ^ nS M - 1) V h hF hN ha
    rwa [hE] at this)
  have H8 : Hid (∀ V A c, RowsAt V A M → Calls Tryd.prog 26 #[.slice A M.length c] V (LstR V (apX M))) := Lib.hid (fun V A c ha => (refApart_any A c M V h ha).mono fun _ _ h => h.lst)
  have ha2 : (apX M).length ≤ 2 := outR_len2 (tabN M) M.length (nS M) (nS M) 0
  have H9 : Hid (∀ V A B c d, IntsAt V A (apX M) → IntsAt V B (apX M) → Calls Tryd.prog 25 #[.slice A (apX M).length c, .slice B (apX M).length d] V fun e w' => e = .returned (.bool true) ∧ ∃ n, w' = V.drewN n) := Lib.hid (fun V A B c d ha hb => by
    have := ints_any A B c d (apX M) (apX M) V (by omega) (by omega) ha hb
    rwa [decide_eq_true rfl] at this)
  have HR := fun (V : World) A c (hV : Below w.heap.size w V) ha => Reset_yes A c M V h ha (ht.below hV ht.lt)
  have HGY := fun (V : World) A c (hV : Below w.heap.size w V) ha => Greedy_yes A c M V h ha (ht.below hV ht.lt)
  have s9 := sz_le (2 ^ nS M - 1)
  by_cases h1 : szS E.1 = 1
  · rw [if_pos h1] at hrs
    have hsome : (seek (tabN M) M.length (2 ^ nS M - 1) (few 1)).isSome = true := by rw [hrs]; rfl
    have hall : ∀ p q, p < nS M → q < nS M → szS (shP M p q).1 = 1 := (reset_pairs hM).1 hsome
    have hall2 := (reset_iff hM).1 ((seek_iff hM hF).1 hsome)
    have hg := gr_ok hM (fun p q hp hq => by
      obtain ⟨x, ox, ex⟩ := hall2 p q hp hq
      exact ⟨x, ox, (merge_iff hM hp hq ox).1 ex⟩) 8 (2 ^ nS M - 1) [] (by omega) hF hN
    obtain ⟨R, hR⟩ : ∃ R, grX M = some R := Option.isSome_iff_exists.1 hg
    rw [show rsX M = some E from hrs] at HR
    rw [hR] at HGY
    have e512 := set512 h.n9 hst.1
    have hls := lsI_step hst.2.1 e512
    exact crs_one A L.length c (szS E.1) (2 ^ nS M - 1) E.1 w M (wS E.2) (wS E.2) (wS R) (tzS E.1) 0 0 (apX M) _ HT HAW (Lib.hid HR) H2 H3 (Lib.hid HGY) (Lib.hid HRM) H6 H7 H8 H9
      (Lib.hid (fun V => by rw [← hls]; exact (refList_any E.1 V e512).mono fun _ _ h => h.lst)) (Lib.hid (fun V A c ha => refGreedy_any A c M R V h ha hall hR)) (by omega) rfl rfl rfl
  · rw [if_neg h1] at hrs
    have hgn : grX M = none := by
      cases hR : grX M with
      | none => rfl
      | some R =>
        obtain ⟨y, -, oy, ey⟩ := gr_some hM 8 (2 ^ nS M - 1) [] R (by omega) hF hN hR
        have := (seek_iff hM hF).2 ⟨y, oy, ey⟩
        rw [hrs] at this
        cases this
    rw [show rsX M = none from hrs] at HR
    rw [hgn] at HGY
    exact crs_big A L.length c (szS E.1) (2 ^ nS M - 1) E.1 w M ⟨#[]⟩ (wS E.2) ⟨#[]⟩ 0 6 6 (apX M) HT HAW (Lib.hid HR) H2 H3 (Lib.hid HGY) (Lib.hid HRM) H6 H7 H8 H9 (by have := hst.2.2; omega) rfl rfl rfl rfl rfl
end Go.Proofs.YtignbpipdfjkeaaDoor
