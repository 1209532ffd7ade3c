/- The few simple results. -/
import Derived.Test.YtoklnpiehbnalaaAX
import Derived.Test.YtoklnpiehbnalaaAN
namespace Go.Proofs.Ytoklnpiehbnalaa
open Go.RowKit Go.PlainAid
set_option maxHeartbeats 2000000
set_option maxRecDepth 100000
def awA : List Nat := [0, 1, 2, 1, 2]
def awB : List Nat := [0, 1, 0, 0, 1]
def awM : List (List Nat) := [[0, 1, 2], [0, 2], [1]]
theorem awA_s : wS awA = ⟨#[97, 98, 99, 98, 99]⟩ := by decide +kernel
theorem awB_s : wS awB = ⟨#[97, 98, 97, 97, 98]⟩ := by decide +kernel
theorem awM_s : awM.map wS = [⟨#[97, 98, 99]⟩, ⟨#[97, 99]⟩, ⟨#[98]⟩] := by decide +kernel
theorem awA_sq : sqS awA = some (1, 1) := by decide +kernel
theorem awB_p : mper awB 1 = 3 := by decide +kernel
theorem awB_g : grT awB = (2, 1, 2) := by decide +kernel
theorem awM_k : kpX awM = some [0, 1, 0] := by decide +kernel
theorem awK_s : wS [0, 1, 0] = ⟨#[97, 98, 97]⟩ := by decide +kernel
theorem aw_c : cntN 3 3 = 12 := by decide +kernel
theorem okW_dec {x : List Nat} (h : (x.all fun b => decide (b < 4)) = true) : okW x := fun b hb => of_decide_eq_true (List.all_eq_true.1 h b hb)
theorem awM_ok : IsMp awM := ⟨rfl, fun m hm => by
  have : m = [0, 1, 2] ∨ m = [0, 2] ∨ m = [1] := by simpa [awM] using hm
  rcases this with rfl | rfl | rfl
  · exact okW_dec (by decide)
  · exact okW_dec (by decide)
  · exact okW_dec (by decide), fun m hm => by
  have : m = [0, 1, 2] ∨ m = [0, 2] ∨ m = [1] := by simpa [awM] using hm
  rcases this with rfl | rfl | rfl <;> decide, fun m hm => by
  have : m = [0, 1, 2] ∨ m = [0, 2] ∨ m = [1] := by simpa [awM] using hm
  rcases this with rfl | rfl | rfl <;> decide⟩
theorem strs_row {W : World} {g : Nat} {t : TypeId} {ss : List ByteArray} (h : Row W g t (ss.map Value.string)) : StrsAt W (some ⟨g, 0, none⟩) ss := fun _ => ⟨g, 0, rfl, h.lt, fun i hi => by
  rw [Nat.zero_add, h.cell, List.getElem?_map, List.getElem?_eq_getElem hi]
  unfold gets
  rw [List.getD_eq_getElem?_getD, List.getElem?_eq_getElem hi]; rfl⟩
theorem awake_any (w : World) : Calls Try.prog 24 #[] w fun e w' => e = .returned (.bool true) ∧ Below w.heap.size w w' := by
  have H1 : Hid (∀ V, Calls Try.prog 20 #[.string ⟨#[97, 98, 99, 98, 99]⟩] V fun e w' => e = .returned (.tuple #[.int .i64 1, .int .i64 2, .int .i64 0]) ∧ Below V.heap.size V w') := Lib.hid (fun V => by
    have := Square_yes awA V (okW_dec (by decide)) (by decide)
    rw [awA_s, awA_sq] at this
    exact this)
  have H2 : Hid (∀ V, Calls Try.prog 29 #[.string ⟨#[97, 98, 97, 97, 98]⟩] V fun e w' => e = .returned (.tuple #[.agg #[.int .i64 5, .int .i64 3], .int .i64 0]) ∧ Below V.heap.size V w') := Lib.hid (fun V => by
    have := Exponent_yes awB V (okW_dec (by decide)) (by decide) (by decide)
    rw [awB_s, awB_p] at this
    exact this)
  have H3 : Hid (∀ V, Calls Try.prog 30 #[.string ⟨#[97, 98, 97, 97, 98]⟩] V fun e w' => e = .returned (.tuple #[.agg #[.int .i64 2, .int .i64 1], .int .i64 2, .int .i64 2, .int .i64 0]) ∧ Below V.heap.size V w') := Lib.hid (fun V => by
    have := Greatest_yes awB V (okW_dec (by decide)) (by decide) (by decide)
    rw [awB_s, awB_g] at this
    exact this)
  have H4 : Hid (∀ V g, Row V g 9 [.string ⟨#[97, 98, 99]⟩, .string ⟨#[97, 99]⟩, .string ⟨#[98]⟩] → Calls Try.prog 41 #[.slice (some ⟨g, 0, none⟩) 3 3] V fun e w' => e = .returned (.tuple #[.string ⟨#[97, 98, 97]⟩, .int .i64 0]) ∧ Below V.heap.size V w') := Lib.hid (fun V g hr => by
    have := Keeps_yes (some ⟨g, 0, none⟩) 3 awM V awM_ok (by rw [awM_s]; exact strs_row hr)
    rw [awM_k] at this
    unfold kpV at this
    dsimp only at this
    rw [awK_s] at this
    exact this)
  have H5 : Hid (∀ V, Calls Try.prog 35 #[.int .i64 3, .int .i64 3] V fun e w' => e = .returned (.tuple #[.int .i64 12, .int .i64 0]) ∧ Below V.heap.size V w') := Lib.hid (fun V => by
    have := Count_yes 3 3 V (by decide) (by decide) (by decide)
    rw [aw_c] at this
    exact this)
  have b0 := Below.refl w.heap.size w
  go_enter Try.func24, Try.ntmps24
  go_wp2_with (first
    | (go_at_call 20; (with_reducible refine (H1.out _).mono ?_); rintro e w1 ⟨rfl, b1⟩; replace b0 := b0.trans (b1.mono b0.size))
    | (go_at_call 29; (with_reducible refine (H2.out _).mono ?_); rintro e w2 ⟨rfl, b2⟩; replace b0 := (b0.trans (b2.mono b0.size)).alloc (by have := b0.size; have := b2.size; omega) (.cells #[.int .i64 5, .int .i64 3] 36); have r4 : Row (w2.alloc (.cells #[.int .i64 5, .int .i64 3] 36)) w2.heap.size 36 [.int .i64 5, .int .i64 3] := row_new rfl)
    | (go_at_call 30; (with_reducible refine (H3.out _).mono ?_); rintro e w3 ⟨rfl, b3⟩; replace b0 := ((b0.trans (b3.mono b0.size)).alloc (by have := b0.size; have := b3.size; omega) (.cells #[.int .i64 2, .int .i64 1] 36)).alloc (by have := b0.size; have := b3.size; simp at *; omega) (.cells #[.string ⟨#[97, 98, 99]⟩, .string ⟨#[97, 99]⟩, .string ⟨#[98]⟩] 9); replace r4 := ((r4.below b3).alloc (.cells #[.int .i64 2, .int .i64 1] 36)).alloc (.cells #[.string ⟨#[97, 98, 99]⟩, .string ⟨#[97, 99]⟩, .string ⟨#[98]⟩] 9); have r6 : Row ((w3.alloc (.cells #[.int .i64 2, .int .i64 1] 36)).alloc (.cells #[.string ⟨#[97, 98, 99]⟩, .string ⟨#[97, 99]⟩, .string ⟨#[98]⟩] 9)) w3.heap.size 36 [.int .i64 2, .int .i64 1] := (row_new rfl).alloc _; have rs : Row ((w3.alloc (.cells #[.int .i64 2, .int .i64 1] 36)).alloc (.cells #[.string ⟨#[97, 98, 99]⟩, .string ⟨#[97, 99]⟩, .string ⟨#[98]⟩] 9)) (w3.heap.size + 1) 9 [.string ⟨#[97, 98, 99]⟩, .string ⟨#[97, 99]⟩, .string ⟨#[98]⟩] := row_new (by simp))
    | (go_at_call 41; (with_reducible refine (H4.out _ _ rs).mono ?_); rintro e w4 ⟨rfl, b4⟩; replace b0 := b0.trans (b4.mono b0.size); replace r4 := r4.below b4; replace r6 := r6.below b4)
    | (go_at_call 35; (with_reducible refine (H5.out _).mono ?_); rintro e w5 ⟨rfl, b5⟩; replace b0 := b0.trans (b5.mono b0.size); replace r4 := r4.below b5; replace r6 := r6.below b5; have c40 := r4.cell 0; have c41 := r4.cell 1; have c60 := r6.cell 0; have c61 := r6.cell 1))
  go_ret
  exact ⟨rfl, b0⟩
end Go.Proofs.Ytoklnpiehbnalaa
