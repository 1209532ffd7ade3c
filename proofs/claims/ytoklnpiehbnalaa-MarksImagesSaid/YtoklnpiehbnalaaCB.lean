/- Power. -/
import Derived.Test.YtoklnpiehbnalaaBY
namespace Go.Proofs.Ytoklnpiehbnalaa
open Go.RowKit Go.PlainAid Go.Shelf
attribute [local go_sem] Oper.semAt_some
set_option maxHeartbeats 2000000
set_option maxRecDepth 100000
/-- The image of the image of .., as long as it has 2000 letters at most. -/
def pwF (ms : List (List Nat)) : Nat → List Nat → Option (List Nat)
  | 0, x => some x
  | r + 1, x => if 2000 < (imW ms x).length then none else pwF ms r (imW ms x)
def pwV : Option (List Nat) → Value
  | some x => .tuple #[.string (wS x), .int .i64 0]
  | none => .tuple #[.string ⟨#[]⟩, .int .i64 2]
/-- A map of the letters a, b, c onto words of them. -/
structure IsM3 (ms : List (List Nat)) : Prop extends IsMp ms where
  abc : ∀ m ∈ ms, ∀ b, b ∈ m → b < 3
theorem imW_abc {ms : List (List Nat)} (h : IsM3 ms) {x : List Nat} (hx : ∀ b, b ∈ x → b < 3) : ∀ b, b ∈ imW ms x → b < 3 := fun b hb => by
  unfold imW at hb
  obtain ⟨c, hc, hb⟩ := List.mem_flatMap.1 hb
  exact h.abc _ (h.toIsMp.get (hx c hc)) b hb
theorem Join_three {W : World} {g : Nat} {ms : List (List Nat)} (hm : IsM3 ms) (hr : Row W g 87 (ms.map fun m => Value.string (wS m))) :
    Calls Try.prog 71 #[.slice (some ⟨g, 0, none⟩) 3 3, .string ⟨#[]⟩] W fun e w' => ∃ s, e = .returned (.string s) ∧ s.data.toList.contains 100 = false ∧ Below W.heap.size W w' := by
  have hl : (ms.map wS).length = 3 := by rw [List.length_map]; exact hm.len
  have h12 := hm.most
  have key : Lib.join ((ms.map wS).map (·.data.toList)) [] = ((ms.map wS).map (·.data.toList)).flatten ∧ (((ms.map wS).map (·.data.toList)).flatten).length ≤ 36 ∧ (((ms.map wS).map (·.data.toList)).flatten).contains (100 : UInt8) = false := by
    have h3 := hm.len
    have habc := hm.abc
    match ms, h3 with
    | [a, b, c], _ =>
      have e1 := wS_len a
      have e2 := wS_len b
      have e3 := wS_len c
      have l1 := h12 a (by simp)
      have l2 := h12 b (by simp)
      have l3 := h12 c (by simp)
      have d1 := mapped_abc (habc a (by simp))
      have d2 := mapped_abc (habc b (by simp))
      have d3 := mapped_abc (habc c (by simp))
      refine ⟨by simp [Lib.join], ?_, ?_⟩
      · simp only [List.map_cons, List.map_nil, List.flatten_cons, List.flatten_nil, List.length_append, ds_len, List.length_nil]
        omega
      · simp only [List.map_cons, List.map_nil, List.flatten_cons, List.flatten_nil, List.append_nil, List.contains_eq_any_beq, List.any_append] at d1 d2 d3 ⊢
        rw [d1, d2, d3]; rfl
  have h1 := Try.strings_Join g 0 3 (ms.map wS) ⟨#[]⟩ W (fun j x hx => by
    rw [Nat.zero_add, hr.cell]
    rw [List.getElem?_map] at hx ⊢
    cases hh : ms[j]? with
    | none => rw [hh] at hx; cases hx
    | some m => rw [hh] at hx; cases hx; rfl) hr.lt (by omega) (by omega) (by
      show (Lib.join _ []).length ≤ _
      rw [key.1]; omega)
  rw [hl] at h1
  refine h1.mono ?_
  rintro e w' ⟨rfl, hb⟩
  refine ⟨_, rfl, ?_, hb⟩
  show (Lib.join ((ms.map wS).map (·.data.toList)) []).contains 100 = false
  rw [key.1]; exact key.2.2
theorem Power_yes (A : Option Addr) (c : Nat) (ms : List (List Nat)) (a n : Nat) (w : World) (hm : IsM3 ms) (ha : StrsAt w A (ms.map wS)) (ha3 : a < 3) (hn : n ≤ 40) :
    Calls Try.prog 46 #[.slice A 3 c, .int .u8 (97 + (a : Int)), .int .i64 n] w fun e w' => e = .returned (pwV (pwF ms n [a])) ∧ Below w.heap.size w w' := by
  obtain ⟨s0, s1, s2, h1, h2⟩ := mp_cells hm.toIsMp
  have hl3 : (ms.map wS).length = 3 := by rw [List.length_map]; exact hm.len
  have HRM : Hid (Calls Try.prog 67 #[.slice A 3 c] w fun e w' => e = .returned (.tuple #[.agg #[.string s0, .string s1, .string s2], .bool true]) ∧ Below w.heap.size w w') := Lib.hid (by
    have := readMap_any A c (ms.map wS) w (mp_size hm.toIsMp) (by omega) ha
    unfold rmV at this
    rw [okMp_iff.2 ⟨ms, hm.toIsMp, rfl⟩, if_pos rfl, h2, hl3] at this
    exact this)
  have HOF : Hid (∀ x V, (∀ b, b ∈ x → b < 3) → x.length ≤ 2000 → Calls Try.prog 69 #[.agg #[.string s0, .string s1, .string s2], .string (wS x)] V fun e w' => e = .returned (.string (wS (imW ms x))) ∧ Below V.heap.size V w') := Lib.hid (fun x V hx hl => by
    have := of_any ms x V hm.toIsMp hx (by omega)
    rw [h1] at this
    exact this)
  have HJ : Hid (∀ V g, Row V g 87 [.string s0, .string s1, .string s2] → Calls Try.prog 71 #[.slice (some ⟨g, 0, none⟩) 3 3, .string ⟨#[]⟩] V fun e w' => ∃ s, e = .returned (.string s) ∧ s.data.toList.contains 100 = false ∧ Below V.heap.size V w') := Lib.hid (fun V g hr => Join_three hm (by
    have e : (ms.map fun m => Value.string (wS m)) = (ms.map wS).map Value.string := by rw [List.map_map]; rfl
    rw [e, h2]; exact hr))
  have HM : Hid (∀ s V, s.data.toList.contains 100 = false → Calls Try.prog 68 #[.string s] V fun e w' => e = .returned (.bool true) ∧ V = w') := Lib.hid (fun s V h => by
    have := isMapped_any s V
    rw [h] at this; exact this)
  have HEN := enc_one (c := a) (by omega)
  have HAB := Lib.hid (fun x (h : ∀ b, b ∈ x → b < 3) => imW_abc hm h)
  have HPW : Hid (∀ r x, pwF ms (r + 1) x = if 2000 < (imW ms x).length then none else pwF ms r (imW ms x)) := Lib.hid (fun r x => rfl)
  have HP0 : Hid (∀ x, pwF ms 0 x = some x) := Lib.hid (fun x => rfl)
  have hx0 : ∀ b, b ∈ [a] → b < 3 := fun b hb => by simp at hb; omega
  have hu1 : IntKind.i32.wrap (97 + (a : Int)) = 97 + a := by simp [IntKind.wrap, IntKind.bits, IntKind.signed]; omega
  have hu2 : (97 + (a : Int)) % 256 = 97 + a := by omega
  have c1 : decide ((97 : Int) + (a : Int) < 97) = false := decide_eq_false (by omega)
  have c2 : decide ((99 : Int) < 97 + (a : Int)) = false := decide_eq_false (by omega)
  have c3 : decide ((n : Int) < 0) = false := decide_eq_false (by omega)
  have c4 : decide ((40 : Int) < (n : Int)) = false := decide_eq_false (by omega)
  have b0 := Below.refl w.heap.size w
  obtain ⟨R, hR⟩ : ∃ R, pwF ms n [a] = R := ⟨_, rfl⟩
  have HF0 : Hid (R = pwF ms (n - 0) [a]) := Lib.hid hR.symm
  rw [hR]
  clear h1 h2 hl3 ha hR
  go_enter Try.func46, Try.ntmps46
  go_wp2_with (first
    | (go_at_call 67; (with_reducible refine HRM.out.mono ?_); rintro e w2 ⟨rfl, b2⟩; replace b0 := (b0.trans (b2.mono b0.size)).alloc (by have := b2.size; omega) (.cells #[.string s0, .string s1, .string s2] 87); have r8 : Row (w2.alloc (.cells #[.string s0, .string s1, .string s2] 87)) w2.heap.size 87 [.string s0, .string s1, .string s2] := row_new rfl)
    | (go_at_call 71; (with_reducible refine (HJ.out _ _ r8).mono ?_); rintro e w3 ⟨s, rfl, hs0, b3⟩; have hs := Lib.hid hs0; clear hs0; replace b0 := b0.trans (b3.mono b0.size); replace r8 := r8.below b3)
    | (go_at_call 68; (with_reducible refine (HM.out _ _ hs.out).mono ?_); rintro e w4 ⟨rfl, rfl⟩))
  clear HEN hu1 hu2 c1 c2 c3 c4 HRM HJ HM
  go_loopw [10, 44] (fun v i wr => ∃ (j : Nat) (x : List Nat), i = .int .i64 j ∧ j ≤ n ∧ v = .string (wS x) ∧ Hid (∀ b, b ∈ x → b < 3) ∧ x.length ≤ 2000 ∧ Hid (R = pwF ms (n - j) x) ∧ Row wr w2.heap.size 87 [.string s0, .string s1, .string s2] ∧ Below w.heap.size w wr) (fun _ i _ => n - (intOf i).toNat)
  case atStart => exact ⟨0, [a], rfl, by omega, rfl, Lib.hid hx0, by simp, HF0, r8, b0⟩
  case round =>
    clear r8 b0 HF0 hx0
    obtain ⟨j, x, rfl, hj, rfl, hx, hxl, HF, r8, b0⟩ := hrel
    by_cases hlt : j < n
    · have g1 : decide (j < n) = true := decide_eq_true hlt
      have HF2 := Lib.hid (HF.out.trans (by rw [show n - j = n - (j + 1) + 1 by omega, HPW.out]))
      have HX2 := Lib.hid (HAB.out x hx.out)
      have HO := Lib.hid (fun V => HOF.out x V hx.out hxl)
      have hsz := wS_len (imW ms x)
      clear HF hx hxl HOF HAB HPW HP0
      generalize imW ms x = y at *
      by_cases h2 : 2000 < y.length
      · have g2 : decide ((2000 : Int) < (y.length : Int)) = true := decide_eq_true (by omega)
        rw [if_pos h2] at HF2
        go_wp2_with (first
          | ((with_reducible refine (?_ : wpList _ _ _ (Oper.mk (some 46) _ _ _ _ _ :: _) _ _)); refine wpList_load_row rfl 87 (.tmp 8) rfl w2.heap.size rfl 87 [.string s0, .string s1, .string s2].toArray (0, 0) _ (row_heap r8) Try.underlying87 rfl info87 ?_)
          | (go_at_call 69; (with_reducible refine (HO.out _).mono ?_); rintro e w5 ⟨rfl, b5⟩; replace b0 := b0.trans (b5.mono b0.size)))
        exact bodyPost_ret (v := .tuple #[.string ⟨#[]⟩, .int .i64 2]) (by simp [results, Try.results46, go_sem]) rfl ⟨by rw [HF2.out]; rfl, b0⟩
      · have g2 : decide ((2000 : Int) < (y.length : Int)) = false := decide_eq_false (by omega)
        rw [if_neg h2] at HF2
        go_wp2_with (first
          | ((with_reducible refine (?_ : wpList _ _ _ (Oper.mk (some 46) _ _ _ _ _ :: _) _ _)); refine wpList_load_row rfl 87 (.tmp 8) rfl w2.heap.size rfl 87 [.string s0, .string s1, .string s2].toArray (0, 0) _ (row_heap r8) Try.underlying87 rfl info87 ?_)
          | (go_at_call 69; (with_reducible refine (HO.out _).mono ?_); rintro e w5 ⟨rfl, b5⟩; replace b0 := b0.trans (b5.mono b0.size); replace r8 := r8.below b5))
        go_roundw
        case rel => exact ⟨j + 1, y, by go_num, by omega, rfl, HX2, by omega, HF2, r8, b0⟩
        case measure => simp [intOf]; omega
    · obtain rfl : j = n := by omega
      have g1 : decide (j < j) = false := decide_eq_false (by omega)
      have HF2 := Lib.hid (HF.out.trans (by rw [show j - j = 0 by omega, HP0.out]))
      clear HF hx hxl HOF HAB HPW HP0
      go_wp2
      exact bodyPost_ret (v := .tuple #[.string (wS x), .int .i64 0]) (by simp [results, Try.results46, go_sem]) rfl ⟨by rw [HF2.out]; rfl, b0⟩
end Go.Proofs.Ytoklnpiehbnalaa
