/- ref.Image, ref.Power. -/
import Derived.Test.YtoklnpiehbnalaaCB
namespace Go.Proofs.Ytoklnpiehbnalaa
open Go.RowKit Go.PlainAid Go.Shelf
attribute [local go_sem] Oper.semAt_some
set_option maxHeartbeats 2000000
set_option maxRecDepth 100000
theorem getD_lt3 {x : List Nat} {k : Nat} (hx : ∀ b, b ∈ x → b < k) {j : Nat} (hj : j < x.length) : x.getD j 0 < k := by
  rw [List.getD_eq_getElem?_getD, List.getElem?_eq_getElem hj]
  exact hx _ (List.getElem_mem hj)
theorem gets_map {ms : List (List Nat)} {i : Nat} (hi : i < ms.length) : gets (ms.map wS) i = wS (ms.getD i []) := by
  unfold gets
  rw [List.getD_eq_getElem?_getD, List.getD_eq_getElem?_getD, List.getElem?_map, List.getElem?_eq_getElem hi]; rfl
theorem imW_take {ms : List (List Nat)} {x : List Nat} {j : Nat} (hj : j < x.length) : imW ms (x.take (j + 1)) = imW ms (x.take j) ++ ms.getD (x.getD j 0) [] := by rw [take_snocN hj, imW_snoc]
theorem refImage_any (A : Option Addr) (c : Nat) (ms : List (List Nat)) (x : List Nat) (w : World) (hm : IsMp ms) (ha : StrsAt w A (ms.map wS)) (hx : ∀ b, b ∈ x → b < 3) (hl : x.length ≤ 10000) :
    Calls Try.prog 45 #[.slice A 3 c, .string (wS x)] w fun e w' => e = .returned (.string (wS (imW ms x))) ∧ w = w' := by
  have hx4 : okW x := fun b hb => by have := hx b hb; omega
  have hz := wS_len x
  have hb := get_bt (wS x)
  have hl3 : (ms.map wS).length = 3 := by rw [List.length_map]; exact hm.len
  obtain ⟨bA, oA, rfl, -, hcA⟩ := ha (by omega)
  have HC : Hid (∀ i, i < 3 → w.cell? ⟨bA, oA + i, none⟩ = some (.string (wS (ms.getD i [])))) := Lib.hid (fun i hi => by rw [← gets_map (by rw [hm.len]; exact hi)]; exact hcA i (by omega))
  have HB := Lib.hid (fun j (hj : j < x.length) => bt_wS hx4 hj)
  have HL := Lib.hid (fun j (hj : j < x.length) => getD_lt3 hx hj)
  have HS := Lib.hid (fun j (hj : j < x.length) => imW_take (ms := ms) hj)
  have HT := Lib.hid (show x.take x.length = x from List.take_length)
  have HM : Hid (∀ c, c < 3 → (ms.getD c []).length ≤ 12) := Lib.hid (fun c hc => hm.most _ (hm.get hc))
  have HN : Hid (∀ j, (imW ms (x.take j)).length ≤ 1200000) := Lib.hid (fun j => by
    have := imW_len hm (x := x.take j) (fun b hb => hx b (List.mem_of_mem_take hb))
    rw [List.length_take] at this; omega)
  have HAP : Hid (∀ y m, wS y ++ wS m = wS (y ++ m)) := Lib.hid wS_app
  have HZ : Hid (∀ y, (wS y).size = y.length) := Lib.hid wS_len
  clear hx hx4 hl3 ha hcA hm
  generalize hn : x.length = n at *
  generalize hs : wS x = s at *
  clear hs hn
  go_enter Try.func45, Try.ntmps45
  go_wp2
  go_loopw [5, 6] (fun v i wr => ∃ j : Nat, i = .int .i64 j ∧ j ≤ n ∧ v = .string (wS (imW ms (x.take j))) ∧ wr = w) (fun _ i _ => n - (intOf i).toNat)
  case atStart => exact ⟨0, rfl, by omega, rfl, by first | rfl | trivial⟩
  case round =>
    obtain ⟨j, rfl, hj, rfl, rfl⟩ := hrel
    by_cases hlt : j < n
    · have g1 : decide (j < n) = true := decide_eq_true hlt
      have hbj := hb j (by omega)
      rw [HB.out j hlt] at hbj
      have HS1 := Lib.hid (HS.out j hlt)
      have hlk := HL.out j hlt
      generalize x.getD j 0 = a at *
      have hc1 := HC.out a hlk
      have ha12 := HM.out a hlk
      have hsz := HN.out j
      generalize ms.getD a [] = m at *
      have hap := HAP.out (imW ms (x.take j)) m
      have hz1 := HZ.out (imW ms (x.take j))
      have hz2 := HZ.out m
      generalize imW ms (x.take j) = y at *
      have e1 : IntKind.u8.wrap (97 + (a : Int) - 97) = a := by simp [IntKind.wrap, IntKind.bits, IntKind.signed]; omega
      have e2 : 97 + (a : Int) - 97 = a := by omega
      have e3 : (a : Int) % 256 = a := by omega
      clear hb HB HS HL HC HM HN HT HAP HZ
      go_wp2
      go_roundw
      case rel => exact ⟨j + 1, by go_num, by omega, by rw [HS1.out], by first | rfl | trivial⟩
      case measure => simp [intOf]; omega
    · obtain rfl : j = n := by omega
      have g1 : decide (j < j) = false := decide_eq_false (by omega)
      have HT1 := HT
      clear hb HB HS HL HC HM HN HT HAP HZ
      go_wp2
      go_ret
      exact ⟨by rw [HT1.out]; rfl, by first | rfl | trivial⟩
def prV : Option (List Nat) → Value
  | some x => .tuple #[.string (wS x), .bool true]
  | none => .tuple #[.string ⟨#[]⟩, .bool false]
theorem conv_oneP {W : World} {g c : Nat} (h : Row W g 5 [.int .u8 (97 + (c : Int))]) : (convert 71 9 (.slice (some ⟨g, 0, none⟩) 1 1)).run Try.prog W = .ok (.string (wS [c])) W :=
  run_convert_bytes_arg (P := Try.prog) W 71 5 Try.underlying71 Try.underlying5 g 0 1 1 (wI [c]) rfl (fun i hi => by
    obtain rfl : i = 0 := by omega
    rw [Nat.zero_add, h.cell]; rfl) 9 Try.underlying9
theorem refPower_any (A : Option Addr) (c : Nat) (ms : List (List Nat)) (a n : Nat) (w : World) (hm : IsM3 ms) (ha : StrsAt w A (ms.map wS)) (ha3 : a < 3) (hn : n ≤ 40) :
    Calls Try.prog 47 #[.slice A 3 c, .int .u8 (97 + (a : Int)), .int .i64 n] w fun e w' => e = .returned (prV (pwF ms n [a])) ∧ Below w.heap.size w w' := by
  have HAB := Lib.hid (fun x (h : ∀ b, b ∈ x → b < 3) => imW_abc hm h)
  have HPW : Hid (∀ r x, pwF ms (r + 1) x = if 2000 < (imW ms x).length then none else pwF ms r (imW ms x)) := Lib.hid (fun r x => rfl)
  have HP0 : Hid (∀ x, pwF ms 0 x = some x) := Lib.hid (fun x => rfl)
  have HIM : Hid (∀ x V, Below w.heap.size w V → (∀ b, b ∈ x → b < 3) → x.length ≤ 2000 → Calls Try.prog 45 #[.slice A 3 c, .string (wS x)] V fun e w' => e = .returned (.string (wS (imW ms x))) ∧ V = w') := Lib.hid (fun x V hV hx hl => refImage_any A c ms x V hm.toIsMp (ha.below hV) hx (by omega))
  have hx0 : ∀ b, b ∈ [a] → b < 3 := fun b hb => by simp at hb; omega
  have hl3 : (ms.map wS).length = 3 := by rw [List.length_map]; exact hm.len
  obtain ⟨bA, oA, hAe, hbA, hcA⟩ := ha (by omega)
  have HC : Hid (∀ V i, Below w.heap.size w V → i < 3 → V.cell? ⟨bA, oA + i, none⟩ = some (.string (wS (ms.getD i [])))) := Lib.hid (fun V i hV hi => by
    rw [← gets_map (by rw [hm.len]; exact hi)]
    exact (hV.cell (p := ⟨bA, _, none⟩) hbA).trans (hcA i (by omega)))
  have HM : Hid (∀ c, c < 3 → (ms.getD c []).length ≤ 12) := Lib.hid (fun c hc => hm.most _ (hm.toIsMp.get hc))
  have HS := Lib.hid (fun (x : List Nat) j (hj : j < x.length) => imW_take (ms := ms) hj)
  have HBT := Lib.hid (fun (x : List Nat) (hx : ∀ b, b ∈ x → b < 3) j (hj : j < x.length) => bt_wS (x := x) (fun b hb => by have := hx b hb; omega) hj)
  have HGB := Lib.hid (fun (x : List Nat) => get_bt (wS x))
  have HLT := Lib.hid (fun (x : List Nat) (hx : ∀ b, b ∈ x → b < 3) j (hj : j < x.length) => getD_lt3 hx hj)
  have HZ : Hid (∀ y, (wS y).size = y.length) := Lib.hid wS_len
  have HTK : Hid (∀ x : List Nat, x.take x.length = x) := Lib.hid (fun x => List.take_length)
  have HIL := Lib.hid (fun (x : List Nat) (hx : ∀ b, b ∈ x → b < 3) => imW_len hm.toIsMp hx)
  have HNIL : Hid (imW ms ([] : List Nat) = []) := Lib.hid rfl
  have hr0 : Row (w.alloc (.cells #[.int .u8 (97 + (a : Int))] 5)) w.heap.size 5 [.int .u8 (97 + (a : Int))] := row_new rfl
  have hcv := conv_oneP hr0
  have b0 := (Below.refl w.heap.size w).alloc (Nat.le_refl _) (.cells #[.int .u8 (97 + (a : Int))] 5)
  obtain ⟨R, hR⟩ : ∃ R, pwF ms n [a] = R := ⟨_, rfl⟩
  have HF0 : Hid (R = pwF ms (n - 0) [a]) := Lib.hid hR.symm
  rw [hR]
  clear hR hm ha hl3 hcA hr0
  subst hAe
  go_enter Try.func47, Try.ntmps47
  go_wp2
  generalize World.alloc w _ = w1 at *
  clear hcv
  go_loopw [8, 9] (fun v i wr => ∃ (j : Nat) (x : List Nat), i = .int .i64 j ∧ j ≤ n ∧ v = .string (wS x) ∧ Hid (∀ b, b ∈ x → b < 3) ∧ x.length ≤ 2000 ∧ Hid (R = pwF ms (n - j) x) ∧ wr = w1) (fun _ i _ => n - (intOf i).toNat)
  case atStart => exact ⟨0, [a], rfl, by omega, rfl, Lib.hid hx0, by simp, HF0, by first | rfl | trivial⟩
  case round =>
    clear HF0 hx0
    obtain ⟨j, x, rfl, hj, rfl, hx, hxl, HF, rfl⟩ := hrel
    by_cases hlt : j < n
    · have g1 : decide (j < n) = true := decide_eq_true hlt
      have HF2 := Lib.hid (HF.out.trans (by rw [show n - j = n - (j + 1) + 1 by omega, HPW.out]))
      have HX2 := Lib.hid (HAB.out x hx.out)
      have HI1 := Lib.hid (HIM.out x _ b0 hx.out hxl)
      have hil := HIL.out x hx.out
      have hxz := HZ.out x
      have HBT1 := Lib.hid (HBT.out x hx.out)
      have HGB1 := Lib.hid (HGB.out x)
      have HLT1 := Lib.hid (HLT.out x hx.out)
      have HS1 := Lib.hid (HS.out x)
      have HTK1 := Lib.hid (HTK.out x)
      have HC1 := Lib.hid (fun i => HC.out _ i b0)
      have HTL : Hid (∀ k, (imW ms (x.take k)).length ≤ 30000) := Lib.hid (fun k => by
        have := HIL.out (x.take k) (fun b hb => hx.out b (List.mem_of_mem_take hb))
        rw [List.length_take] at this; omega)
      clear HF hx HAB HPW HP0 HIM HIL HBT HGB HLT HS HTK HC
      generalize hl : x.length = l at *
      clear hl
      go_wp2
      go_loop [10, 11] (fun v i => ∃ k : Nat, i = .int .i64 k ∧ k ≤ l ∧ v = .int .i64 (imW ms (x.take k)).length) (fun _ i => l - (intOf i).toNat)
      case atStart => exact ⟨0, rfl, by omega, by rw [List.take_zero, HNIL.out]; rfl⟩
      case round =>
        obtain ⟨k, rfl, hk, rfl⟩ := hrel
        by_cases hlk : k < l
        · have g2 : decide (k < l) = true := decide_eq_true hlk
          have hbj := HGB1.out k (by omega)
          rw [HBT1.out k hlk] at hbj
          have hlk3 := HLT1.out k hlk
          have HS2 := Lib.hid (congrArg List.length (HS1.out k hlk))
          generalize x.getD k 0 = a at *
          have hc1 := HC1.out a hlk3
          have ha12 := HM.out a hlk3
          have htl := HTL.out k
          generalize ms.getD a [] = m at *
          rw [List.length_append] at HS2
          have hz2 := HZ.out m
          generalize hy : (imW ms (x.take k)).length = y at *
          clear hy
          have e1 : IntKind.u8.wrap (97 + (a : Int) - 97) = a := by simp [IntKind.wrap, IntKind.bits, IntKind.signed]; omega
          have e2 : 97 + (a : Int) - 97 = a := by omega
          have e3 : (a : Int) % 256 = a := by omega
          clear HGB1 HBT1 HLT1 HS1 HTK1 HC1 HM HTL HZ HI1
          go_wp2
          go_round
          case rel => exact ⟨k + 1, by go_num, by omega, by rw [HS2.out]; go_num⟩
          case measure => simp [intOf]; omega
        · obtain rfl : k = l := by omega
          have g2 : decide (k < k) = false := decide_eq_false (by omega)
          rw [HTK1.out]
          generalize imW ms x = y at *
          clear HGB1 HBT1 HLT1 HS1 HTK1 HC1 HM HTL HZ
          by_cases h2 : 2000 < y.length
          · have g3 : decide (2000 < y.length) = true := decide_eq_true h2
            have g4 : decide ((2000 : Int) < (y.length : Int)) = true := decide_eq_true (by omega)
            rw [if_pos h2] at HF2
            go_wp2
            exact bodyPost_ret (v := .tuple #[.string ⟨#[]⟩, .bool false]) (by simp [results, Try.results47, go_sem]) rfl ⟨by rw [HF2.out]; rfl, b0⟩
          · have g3 : decide (2000 < y.length) = false := decide_eq_false h2
            have g4 : decide ((2000 : Int) < (y.length : Int)) = false := decide_eq_false (by omega)
            rw [if_neg h2] at HF2
            go_wp2_with (go_at_call 45; (with_reducible refine HI1.out.mono ?_); rintro e w5 ⟨rfl, rfl⟩)
            go_roundw
            case rel => exact ⟨j + 1, y, by go_num, by omega, rfl, HX2, by omega, HF2, by first | rfl | trivial⟩
            case measure => simp [intOf]; omega
    · obtain rfl : j = n := by omega
      have g1 : decide (j < j) = false := decide_eq_false (by omega)
      have HF2 := Lib.hid (HF.out.trans (by rw [show j - j = 0 by omega, HP0.out]))
      clear HF hx hxl HAB HPW HP0 HIM HIL HBT HGB HLT HS HTK HC HM HZ
      go_wp2
      exact bodyPost_ret (v := .tuple #[.string (wS x), .bool true]) (by simp [results, Try.results47, go_sem]) rfl ⟨by rw [HF2.out]; rfl, b0⟩
end Go.Proofs.Ytoklnpiehbnalaa
