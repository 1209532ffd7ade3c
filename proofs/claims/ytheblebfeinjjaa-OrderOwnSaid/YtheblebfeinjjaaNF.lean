/- slices.Max, slices.Clone; an array's length and its list. -/
import Derived.Test.YtheblebfeinjjaaNE
namespace Go.Proofs.Ytheblebfeinjjaa
open Go.RowKit
set_option maxHeartbeats 1000000
set_option maxRecDepth 100000
def mxN (xs : List Int) : Nat → Int
  | 0 => geti xs 0
  | k + 1 => if geti xs (k + 1) ≤ mxN xs k then mxN xs k else geti xs (k + 1)
theorem mxN_le (xs : List Int) : ∀ (k i : Nat), i ≤ k → geti xs i ≤ mxN xs k
  | 0, i, h => by rw [show i = 0 by omega]; exact Int.le_refl _
  | k + 1, i, h => by
    unfold mxN
    by_cases e : i = k + 1
    · subst e; split <;> omega
    · have := mxN_le xs k i (by omega)
      split <;> omega
theorem mxN_is (xs : List Int) : ∀ (k : Nat), ∃ i, i ≤ k ∧ geti xs i = mxN xs k
  | 0 => ⟨0, Nat.le_refl _, rfl⟩
  | k + 1 => by
    unfold mxN
    obtain ⟨i, hi, e⟩ := mxN_is xs k
    split
    · exact ⟨i, by omega, e⟩
    · exact ⟨k + 1, Nat.le_refl _, rfl⟩
theorem mxN_eq {xs : List Int} {k : Nat} {m : Int} : mxN xs k = m ↔ (∃ i, i ≤ k ∧ geti xs i = m) ∧ ∀ i, i ≤ k → geti xs i ≤ m := by
  constructor
  · rintro rfl
    exact ⟨mxN_is xs k, fun i hi => mxN_le xs k i hi⟩
  · rintro ⟨⟨i, hi, rfl⟩, h2⟩
    obtain ⟨j, hj, e⟩ := mxN_is xs k
    have h3 := mxN_le xs k i hi
    have h4 := h2 j hj
    omega
theorem mxN_congr {xs ys : List Int} : ∀ {k : Nat}, (∀ i, i ≤ k → geti xs i = geti ys i) → mxN xs k = mxN ys k
  | 0, h => h 0 (Nat.le_refl _)
  | k + 1, h => by
    unfold mxN
    rw [mxN_congr (k := k) (fun i hi => h i (by omega)), h (k + 1) (Nat.le_refl _)]
theorem Max_any (A : Option Addr) (c : Nat) (xs : List Int) (w : World) (hp : 0 < xs.length) (hx : xs.length ≤ 1000) (ha : IntsAt w A xs) :
    Calls Try.prog 89 #[.slice A xs.length c] w fun e w' => e = .returned (.int .i64 (mxN xs (xs.length - 1))) ∧ w = w' := by
  obtain ⟨b, o, rfl, hb, hc⟩ := ha hp
  have h0 := hc 0 hp
  rw [Nat.add_zero] at h0
  have g0 : decide ((xs.length : Int) < 1) = false := decide_eq_false (by omega)
  have HC := Lib.hid hc
  clear hc
  go_enter Try.func89, Try.ntmps89
  go_wp2
  go_loopw [3, 4] (fun m i wr => ∃ k : Nat, k < xs.length ∧ i = .int .i64 ((k : Int) + 1) ∧ m = .int .i64 (mxN xs k) ∧ w = wr) (fun _ i _ => xs.length - (intOf i).toNat)
  case atStart => exact ⟨0, by omega, rfl, rfl, rfl⟩
  case round =>
    obtain ⟨k, hk, rfl, rfl, rfl⟩ := hrel
    by_cases hlt : k + 1 < xs.length
    · have h1 := HC.out (k + 1) hlt
      have hm : mxN xs (k + 1) = if geti xs (k + 1) ≤ mxN xs k then mxN xs k else geti xs (k + 1) := rfl
      have HM := Lib.hid hm
      clear hm
      generalize geti xs (k + 1) = y at *
      generalize mxN xs k = x at *
      go_wp2
      all_goals
        go_roundw
        case rel => exact ⟨k + 1, by omega, by go_num, by rw [HM.out]; congr 1; split <;> omega, by first | rfl | trivial⟩
        case measure => simp [intOf]; omega
    · obtain rfl : k = xs.length - 1 := by omega
      go_wp2
      go_ret
      exact ⟨rfl, rfl⟩
theorem len_max {l : List Int} (h : IsO l) : mxN (pad l) 11 = l.length := by
  have hle := h.le
  rw [mxN_eq]
  constructor
  · by_cases h0 : l.length = 0
    · exact ⟨0, by omega, by rw [pad_at, geti_ge (by omega), h0]; rfl⟩
    · have hm : (l.length : Int) ∈ asc l.length := mem_asc.2 ⟨by omega, by omega⟩
      obtain ⟨i, hi, e⟩ := mem_geti (h.perm.mem_iff.2 hm)
      exact ⟨i, by omega, by rw [pad_at, e]⟩
  · intro i hi
    rw [pad_at]
    by_cases hl : i < l.length
    · exact h.hi i hl
    · rw [geti_ge (by omega)]; omega
theorem arrayLen50 : Try.prog.arrayLen 50 = 12 := by kernel_rfl
theorem elem50 : Try.prog.elem 50 = 3 := by kernel_rfl
theorem slice50_lh {w : World} {b l h : Nat} (h1 : l ≤ h) (h2 : h ≤ 12) (h3 : l < 12) : (Instr.sliceAt 50 (.pointer (some ⟨b, 0, none⟩)) (some (.int .i64 l)) (some (.int .i64 h)) none).run Try.prog w = .ok (.slice (some ⟨b, l, none⟩) (h - l) (12 - l)) w := by
  obtain ⟨j0, ji, jz0, jz1, jz2⟩ := info_parts info3
  rw [run_sliceAt_array_lh w 50 ⟨b, 0, none⟩ (by rw [arrayLen50, elem50]; exact Try.underlying50) .i64 .i64 l h (by omega) (by omega) (by rw [arrayLen50]; omega), elem50, arrayLen50]
  simp [run_sizeOf, ji, jz1, slicedAt, Addr.add]
  rw [if_neg (by omega), Try.cells3, Nat.mul_one]
  split
  · rename_i h; simp [h]
  · rfl
theorem slice50_h {w : World} {b h : Nat} (h2 : h ≤ 12) : (Instr.sliceAt 50 (.pointer (some ⟨b, 0, none⟩)) none (some (.int .i64 h)) none).run Try.prog w = .ok (.slice (some ⟨b, 0, none⟩) h 12) w := by
  obtain ⟨j0, ji, jz0, jz1, jz2⟩ := info_parts info3
  rw [run_sliceAt_array_h w 50 ⟨b, 0, none⟩ (by rw [arrayLen50, elem50]; exact Try.underlying50) .i64 h (by omega) (by rw [arrayLen50]; omega), elem50, arrayLen50]
  simp [run_sizeOf, ji, jz1, slicedAt, Addr.add]
theorem length_any (l : List Int) (w : World) (h : IsO l) : Calls Try.prog 72 #[arr l] w fun e w' => e = .returned (.int .i64 l.length) ∧ Below w.heap.size w w' := by
  have hp := pad_len h.le
  have hm := len_max h
  have r0 : Row (w.alloc (.cells (iv (pad l)).toArray 50)) w.heap.size 50 (iv (pad l)) := row_new rfl
  have b0 : Below w.heap.size w (w.alloc (.cells (iv (pad l)).toArray 50)) := (Below.refl _ w).alloc (Nat.le_refl _) _
  have hi : IntsAt (w.alloc (.cells (iv (pad l)).toArray 50)) (some ⟨w.heap.size, 0, none⟩) (pad l) := fun _ => ⟨w.heap.size, 0, rfl, r0.lt, fun i hi => by rw [Nat.zero_add]; exact ivR r0 hi⟩
  have HC := Lib.hid (fun c => Max_any (some ⟨w.heap.size, 0, none⟩) c (pad l) _ (by omega) (by omega) hi)
  rw [hp] at HC
  rw [hm] at HC
  clear hi hm r0 h
  unfold arr
  generalize pad l = p at *
  go_enter Try.func72, Try.ntmps72
  go_wp2_with (go_at_call 89; refine (HC.out _).mono ?_; rintro e w2 ⟨rfl, rfl⟩)
  go_ret
  exact ⟨rfl, b0⟩
theorem news_ints {w : World} {b o : Nat} {xs : List Int} (h : IntsAt w (some ⟨b, o, none⟩) xs) : ∀ j u, (iv xs)[j]? = some u → w.cell? ((⟨b, o, none⟩ : Addr).add j) = some u := by
  intro j u hj
  have hlt : j < xs.length := by
    have := (List.getElem?_eq_some_iff.1 hj).1
    rw [iv_len] at this; exact this
  obtain ⟨b', o', e, -, hc⟩ := h (by omega)
  injection e with e
  injection e with e1 e2
  subst e1 e2
  rw [WideShapes.add_plain, hc j hlt]
  unfold iv at hj
  rw [List.getElem?_map, List.getElem?_eq_getElem hlt] at hj
  rw [geti_eq hlt]
  exact hj
theorem Clone_any (b o c : Nat) (xs : List Int) (w : World) (hx : xs.length ≤ 1000000) (h1 : IntsAt w (some ⟨b, o, none⟩) xs) :
    Calls Try.prog 74 #[.slice (some ⟨b, o, none⟩) xs.length c] w fun e w' => ∃ v, e = .returned v ∧ w'.ownsRow w.heap.size 3 1 v xs.length (iv xs) ∧ Below w.heap.size w w' := by
  obtain ⟨j0, ji, jz0, jz1, jz2⟩ := info_parts info3
  have o2 : (w.alloc (.cells #[] 3)).ownsRow w.heap.size 3 1 (.slice (some ⟨w.heap.size, 0, none⟩) 0 0) 0 [] := ⟨rfl, .inr ⟨w.heap.size, 0, #[], rfl, Nat.le_refl _, heap_alloc_new _ _, Nat.le_refl _, by unfold maxLen; omega, rfl, rfl⟩⟩
  have b2 : Below w.heap.size w (w.alloc (.cells #[] 3)) := (Below.refl _ w).alloc (Nat.le_refl _) _
  replace h1 := h1.below b2
  have hb2 := b2.size
  have q24 : ∀ (w : World) (a : Option Addr) (n c n' c' : Nat), (binOp .eql 22 (.slice a n c) (.slice none n' c')).run Try.prog w = .ok (.bool a.isNone) w := fun w a n c n' c' => Lib.run_eql_slice_nil w _ _ a n c n' c' Try.underlying22
  go_enter Try.func74, Try.ntmps74
  go_wp2_with (at_builtin; refine wpList_append_own_at _ rfl (.tmp 5) (.tmp 6) 22 rfl w.heap.size 3 j0 (.int .i64 0) 1 8 Try.underlying22 ji jz0 jz1 jz2 rfl (by decide) _ _ _ rfl o2 ⟨b, o, none⟩ xs.length c (iv xs) rfl (by simp [iv]) (news_ints h1) (iv_one _) (by unfold maxLen; omega) (by omega) hb2 ?_; intro v3 w3 o3 hg3 _ _)
  go_ret
  refine ⟨_, rfl, by simpa using o3, b2.trans ((Below.refl w.heap.size _).grown hg3 hb2 (fun g hg => (own_ge o2 hg).1))⟩
theorem pad_ints {w : World} {g : Nat} {t : TypeId} {l : List Int} (hr : Row w g t (iv (pad l))) (hl : l.length ≤ 12) : IntsAt w (some ⟨g, 0, none⟩) l := fun _ => ⟨g, 0, rfl, hr.lt, fun i hi => by
  rw [Nat.zero_add, ivR hr (i := i) (by rw [pad_len hl]; omega), pad_at]⟩
theorem list_any (l : List Int) (w : World) (h : IsO l) : Calls Try.prog 59 #[arr l] w fun e w' => ∃ v, e = .returned v ∧ w'.ownsRow w.heap.size 3 1 v l.length (iv l) ∧ Below w.heap.size w w' := by
  have hp := pad_len h.le
  have hle := h.le
  have r0 : Row (w.alloc (.cells (iv (pad l)).toArray 50)) w.heap.size 50 (iv (pad l)) := row_new rfl
  have b0 : Below w.heap.size w (w.alloc (.cells (iv (pad l)).toArray 50)) := (Below.refl _ w).alloc (Nat.le_refl _) _
  have HL := Lib.hid (fun w => length_any l w h)
  have HC := Lib.hid (fun (b o c : Nat) (w : World) h1 => Clone_any b o c l w (by omega) h1)
  have hi := info50_iv hp
  unfold arr
  unfold arr at HL
  have HP := Lib.hid (fun (w : World) (g t : Nat) (hr : Row w g t (iv (pad l))) => pad_ints hr hle)
  generalize hq : pad l = p at *
  clear hq h
  have hsl : ∀ w' : World, (Instr.sliceAt 50 (.pointer (some ⟨w.heap.size, 0, none⟩)) none (some (.int .i64 l.length)) none).run Try.prog w' = .ok (.slice (some ⟨w.heap.size, 0, none⟩) l.length 12) w' := fun w' => slice50_h hle
  go_enter Try.func59, Try.ntmps59
  go_wp2_with (first
    | (go_at_call 72; refine (HL.out _).mono ?_; rintro e w2 ⟨rfl, b2⟩)
    | (refine wpList_load_row rfl 50 (.tmp 1) rfl w.heap.size rfl 50 (iv p).toArray (0, 0) _ (row_heap r0) Try.underlying50 rfl hi ?_))
  have r2 := r0.below b2
  have b3 := b0.trans (b2.mono (by simp))
  refine (HC.out _ _ _ _ (HP.out _ _ _ r2)).mono ?_
  rintro e w3 ⟨v3, rfl, o3, b4⟩
  go_wp2
  go_ret
  exact ⟨v3, rfl, own_mono o3 b3.size, b3.trans (b4.mono b3.size)⟩
end Go.Proofs.Ytheblebfeinjjaa
