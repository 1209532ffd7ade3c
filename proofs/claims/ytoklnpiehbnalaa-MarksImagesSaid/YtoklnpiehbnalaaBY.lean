/- Image. -/
import Derived.Test.YtoklnpiehbnalaaBX
import Derived.Test.YtoklnpiehbnalaaAX
import Derived.Lib.IndexAny
namespace Go.Proofs.Ytoklnpiehbnalaa
open Go.RowKit Go.PlainAid Go.Shelf
attribute [local go_sem] Oper.semAt_some
set_option maxHeartbeats 2000000
set_option maxRecDepth 100000
theorem d_lit : (⟨#[97, 98, 99, 100]⟩ : ByteArray).extract 3 4 = ⟨#[100]⟩ := by decide +kernel
theorem isMapped_any (s : ByteArray) (w : World) :
    Calls Try.prog 68 #[.string s] w fun e w' => e = .returned (.bool (!s.data.toList.contains 100)) ∧ w = w' := by
  have HD := Lib.hid d_lit
  have HC := Lib.hid (Lib.contains_iff_indexByte s.data.toList 100)
  have HS : Hid (Calls Try.prog 75 #[.string s, .string ⟨#[100]⟩] w fun e w' => e = .returned (.bool (s.data.toList.contains 100)) ∧ w' = w) := Lib.hid (by
    have := Try.strings_Contains_one s 100 w
    rw [← HC.out] at this; exact this)
  clear HC
  generalize s.data.toList.contains 100 = b at *
  go_enter Try.func68, Try.ntmps68
  go_wp2_with (first
    | (rw [HD.out])
    | (go_at_call 75; (with_reducible refine HS.out.mono ?_); rintro e w2 ⟨rfl, rfl⟩))
  go_ret
  exact ⟨rfl, rfl⟩
theorem mapped_abc {x : List Nat} (h : ∀ b, b ∈ x → b < 3) : (wS x).data.toList.contains 100 = false := by
  rw [wS_data, Bool.eq_false_iff]
  intro hc
  rw [List.contains_iff_mem] at hc
  obtain ⟨b, hb, e⟩ := List.mem_map.1 hc
  have := h b hb
  obtain rfl | rfl | rfl : b = 0 ∨ b = 1 ∨ b = 2 := by omega
  · exact absurd e (by decide)
  · exact absurd e (by decide)
  · exact absurd e (by decide)
theorem mapped_d {x : List Nat} (_h : okW x) (h2 : 3 ∈ x) : (wS x).data.toList.contains 100 = true := by
  rw [wS_data, List.contains_iff_mem]
  exact List.mem_map.2 ⟨3, h2, by decide⟩
theorem Image_yes (A : Option Addr) (c : Nat) (ms : List (List Nat)) (x : List Nat) (w : World) (hm : IsMp ms) (ha : StrsAt w A (ms.map wS)) (hx : ∀ b, b ∈ x → b < 3) (hl : x.length ≤ 120) :
    Calls Try.prog 40 #[.slice A 3 c, .string (wS x)] w fun e w' => e = .returned (.tuple #[.string (wS (imW ms x)), .int .i64 0]) ∧ Below w.heap.size w w' := by
  obtain ⟨s0, s1, s2, h1, h2⟩ := mp_cells hm
  have hxo : okW x := fun b hb => by have := hx b hb; omega
  have hl3 : (ms.map wS).length = 3 := by rw [List.length_map]; exact hm.len
  have HRM : Hid (Calls Try.prog 67 #[.slice A 3 c] w fun e w' => e = .returned (.tuple #[.agg #[.string s0, .string s1, .string s2], .bool true]) ∧ Below w.heap.size w w') := Lib.hid (by
    have := readMap_any A c (ms.map wS) w (mp_size hm) (by omega) ha
    unfold rmV at this
    rw [okMp_iff.2 ⟨ms, hm, rfl⟩, if_pos rfl, h2, hl3] at this
    exact this)
  have HOF : Hid (∀ V, Calls Try.prog 69 #[.agg #[.string s0, .string s1, .string s2], .string (wS x)] V fun e w' => e = .returned (.string (wS (imW ms x))) ∧ Below V.heap.size V w') := Lib.hid (fun V => by
    have := of_any ms x V hm hx (by omega)
    rw [h1] at this
    exact this)
  have HW := Lib.hid (fun V => isWord_any (wS x) V (by rw [wS_len]; omega))
  rw [okB_wS hxo hl] at HW
  have HM := Lib.hid (fun V => isMapped_any (wS x) V)
  rw [mapped_abc hx] at HM
  have b0 := Below.refl w.heap.size w
  clear h1 h2 hl3 ha hm hx hxo hl
  generalize wS (imW ms x) = u at *
  generalize wS x = s at *
  go_enter Try.func40, Try.ntmps40
  go_wp2_with (first
    | (go_at_call 67; (with_reducible refine HRM.out.mono ?_); rintro e w2 ⟨rfl, b2⟩; replace b0 := (b0.trans (b2.mono b0.size)).alloc (by have := b2.size; omega) (.cells #[.string s0, .string s1, .string s2] 87); have r6 : Row (w2.alloc (.cells #[.string s0, .string s1, .string s2] 87)) w2.heap.size 87 [.string s0, .string s1, .string s2] := row_new rfl)
    | (go_at_call 58; (with_reducible refine (HW.out _).mono ?_); rintro e w3 ⟨rfl, b3⟩; replace b0 := b0.trans (b3.mono b0.size); replace r6 := r6.below b3)
    | (go_at_call 68; (with_reducible refine (HM.out _).mono ?_); rintro e w4 ⟨rfl, rfl⟩)
    | ((with_reducible refine (?_ : wpList _ _ _ (Oper.mk (some 25) _ _ _ _ _ :: _) _ _)); refine wpList_load_row rfl 87 (.tmp 6) rfl w2.heap.size rfl 87 [.string s0, .string s1, .string s2].toArray (0, 0) _ (row_heap r6) Try.underlying87 rfl info87 ?_)
    | (go_at_call 69; (with_reducible refine (HOF.out _).mono ?_); rintro e w5 ⟨rfl, b5⟩; replace b0 := b0.trans (b5.mono b0.size)))
  exact bodyPost_ret (v := .tuple #[.string u, .int .i64 0]) (by simp [results, Try.results40, go_sem]) rfl ⟨rfl, b0⟩
end Go.Proofs.Ytoklnpiehbnalaa
