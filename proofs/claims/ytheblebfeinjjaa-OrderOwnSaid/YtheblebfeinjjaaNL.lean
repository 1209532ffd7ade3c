/- The table of an order, its sum, and the sum of the descents. -/
import Derived.Test.YtheblebfeinjjaaNJ
namespace Go.Proofs.Ytheblebfeinjjaa
open Go.RowKit
set_option maxHeartbeats 1000000
set_option maxRecDepth 100000
theorem geti_set {xs : List Int} {i j : Nat} {x : Int} (h : i < xs.length) : geti (xs.set i x) j = if i = j then x else geti xs j := by
  unfold geti
  rw [List.getD_eq_getElem?_getD, List.getD_eq_getElem?_getD, List.getElem?_set]
  split
  · first | rfl | (rw [if_pos h]; rfl)
  · rfl
theorem set_same {xs : List Int} {i : Nat} (h : i < xs.length) : xs.set i (geti xs i) = xs := by
  rw [geti_eq h]; exact List.set_getElem_self h
theorem make_ints (n : Nat) (hn : n ≤ 1000000) (W : World) : (Instr.makeSlice 22 (.int .i64 n) (.int .i64 n)).run Try.prog W = .ok (.slice (some ⟨W.heap.size, 0, none⟩) n n) (W.alloc (.cells (iv (List.replicate n 0)).toArray 3)) := by
  obtain ⟨j0, ji, jz0, jz1, jz2⟩ := info_parts info3
  have h := run_make (P := Try.prog) W 22 3 j0 (.int .i64 0) Try.underlying22 ji jz0 .i64 .i64 n n (by omega) (by omega) (by rw [jz2]; omega) (by omega)
  rw [jz1, Int.toNat_natCast] at h
  have e : madeCells (Value.int .i64 0).cells (n * 1) = (iv (List.replicate n 0)).toArray := by
    apply Array.ext'
    rw [made_ints]
    unfold iv intv
    rw [List.map_replicate, List.map_replicate]; rfl
  rw [h, e]
/-- How many of the numbers at the places from i, in front of k, are smaller than the one at i. -/
def smN (l : List Int) (i : Nat) : Nat → Nat
  | 0 => 0
  | k + 1 => smN l i k + if i ≤ k ∧ geti l k < geti l i then 1 else 0
theorem smN_le (l : List Int) (i : Nat) : ∀ k, smN l i k ≤ k - i
  | 0 => by simp [smN]
  | k + 1 => by
    have := smN_le l i k
    unfold smN
    split <;> omega
theorem smN_low (l : List Int) (i : Nat) : ∀ k, k ≤ i + 1 → smN l i k = 0
  | 0, _ => rfl
  | k + 1, h => by
    unfold smN
    rw [smN_low l i k (by omega)]
    split
    · rename_i h2
      obtain rfl : k = i := by omega
      omega
    · rfl
/-- For each place, how many smaller numbers stand behind it. -/
def tabL (l : List Int) : List Int := (List.range l.length).map fun i : Nat => ((smN l i l.length : Nat) : Int)
theorem tabL_len (l : List Int) : (tabL l).length = l.length := by simp [tabL]
theorem tabL_at {l : List Int} {i : Nat} (h : i < l.length) : geti (tabL l) i = (smN l i l.length : Nat) := by
  unfold geti tabL
  rw [List.getD_eq_getElem?_getD, List.getElem?_map, List.getElem?_range h]; rfl
/-- While place i is counted, k places are seen. -/
def tbL (l : List Int) (i k : Nat) : List Int := (List.range l.length).map fun j : Nat => if j < i then ((smN l j l.length : Nat) : Int) else if j = i then ((smN l i k : Nat) : Int) else 0
theorem tbL_len (l : List Int) (i k : Nat) : (tbL l i k).length = l.length := by simp [tbL]
theorem tbL_get {l : List Int} {i k j : Nat} (h : j < l.length) : geti (tbL l i k) j = if j < i then ((smN l j l.length : Nat) : Int) else if j = i then ((smN l i k : Nat) : Int) else 0 := by
  unfold geti tbL
  rw [List.getD_eq_getElem?_getD, List.getElem?_map, List.getElem?_range h]; rfl
theorem tbL_zero (l : List Int) : tbL l 0 0 = List.replicate l.length 0 := by
  apply ext_geti
  · simp [tbL_len]
  · intro i hi
    rw [tbL_len] at hi
    rw [tbL_get hi, geti_eq (by simpa using hi)]
    simp [smN]
theorem tbL_next (l : List Int) (i : Nat) : tbL l i l.length = tbL l (i + 1) (i + 1) := by
  apply ext_geti
  · simp [tbL_len]
  · intro j hj
    rw [tbL_len] at hj
    rw [tbL_get hj, tbL_get hj]
    by_cases h1 : j < i
    · rw [if_pos h1, if_pos (by omega)]
    · rw [if_neg h1]
      by_cases h2 : j = i
      · subst h2; rw [if_pos rfl, if_pos (by omega)]
      · rw [if_neg h2, if_neg (by omega)]
        split
        · rename_i h3; subst h3; rw [smN_low _ _ _ (by omega)]; rfl
        · rfl
theorem tbL_all (l : List Int) (k : Nat) : tbL l l.length k = tabL l := by
  unfold tbL tabL
  apply List.map_congr_left
  intro j hj
  rw [List.mem_range] at hj
  rw [if_pos hj]
theorem tbL_step {l : List Int} {i k : Nat} (hi : i < l.length) (hk : i ≤ k) : tbL l i (k + 1) = (tbL l i k).set i (geti (tbL l i k) i + if geti l k < geti l i then 1 else 0) := by
  apply ext_geti
  · simp [tbL_len]
  · intro j hj
    rw [tbL_len] at hj
    rw [geti_set (by rw [tbL_len]; exact hi), tbL_get hj]
    by_cases h1 : j = i
    · subst h1
      rw [if_neg (by omega), if_pos rfl, if_pos rfl, tbL_get hj, if_neg (by omega), if_pos rfl]
      have e : smN l j (k + 1) = smN l j k + if j ≤ k ∧ geti l k < geti l j then 1 else 0 := rfl
      rw [e]
      by_cases h2 : geti l k < geti l j
      · rw [if_pos ⟨hk, h2⟩, if_pos h2]; simp
      · rw [if_neg (fun h => h2 h.2), if_neg h2]; simp
    · rw [if_neg (show ¬ i = j by omega), tbL_get hj, if_neg h1, if_neg h1]
theorem table_any (l : List Int) (w : World) (h : IsO l) : Calls Try.prog 53 #[arr l] w fun e w' => ∃ v, e = .returned v ∧ w'.ownsRow w.heap.size 3 1 v l.length (iv (tabL l)) ∧ Below w.heap.size w w' := by
  have r0 : Row (w.alloc (.cells (iv (pad l)).toArray 50)) w.heap.size 50 (iv (pad l)) := row_new rfl
  have b0 : Below w.heap.size w (w.alloc (.cells (iv (pad l)).toArray 50)) := by (repeat (first | exact Below.refl _ _ | assumption | (refine Below.setCell ?_ (by first | exact Nat.le_refl _ | omega | (simp; done) | (simp; omega)) _) | (refine Below.trans ?_ (below_drewN _)) | (refine Below.drew ?_) | (refine Below.alloc ?_ (by first | exact Nat.le_refl _ | omega | (simp; done) | (simp; omega)) _) | (refine below_row ?_ (by first | exact Nat.le_refl _ | omega | (simp; done) | (simp; omega)) _)))
  have hle := h.le
  have hpl := pad_len hle
  have hi := info50_iv hpl
  have HL := Lib.hid (fun w => length_any l w h)
  have HMK := Lib.hid (fun W => make_ints l.length (by omega) W)
  have HSL : Hid (∀ (i : Nat), i < l.length → ∀ w' : World, (Instr.sliceAt 50 (.pointer (some ⟨w.heap.size, 0, none⟩)) (some (.int .i64 i)) (some (.int .i64 l.length)) none).run Try.prog w' = .ok (.slice (some ⟨w.heap.size, i, none⟩) (l.length - i) (12 - i)) w') := Lib.hid (fun i hi w' => slice50_lh (by omega) hle (by omega))
  have HPA : Hid (∀ (w' : World) (i : Nat), i < l.length → Row w' w.heap.size 50 (iv (pad l)) → w'.cell? ⟨w.heap.size, i, none⟩ = some (.int .i64 (geti l i))) := Lib.hid (fun w' i hi hr => by rw [ivR hr (by omega), pad_at])
  unfold arr at HL ⊢
  clear h
  go_enter Try.func53, Try.ntmps53
  go_wp2_with (first
    | ((with_reducible refine (?_ : wpList _ _ _ (Oper.mk (some 7) _ _ _ _ _ :: _) _ _)); refine wpList_load_row rfl 50 (.tmp 1) rfl w.heap.size rfl 50 (iv (pad l)).toArray (0, 0) _ (row_heap r0) Try.underlying50 rfl hi ?_)
    | (go_at_call 72; refine (HL.out _).mono ?_; rintro e w2 ⟨rfl, b2⟩; replace r0 := r0.below b2; replace b0 := b0.trans (b2.mono b0.size); have hmk := HMK.out w2))
  have t0 : Row (w2.alloc (.cells (iv (List.replicate l.length 0)).toArray 3)) w2.heap.size 3 (iv (tbL l 0 0)) := by rw [tbL_zero]; exact row_new rfl
  replace r0 := r0.alloc (.cells (iv (List.replicate l.length 0)).toArray 3)
  replace b0 := b0.alloc b0.size (.cells (iv (List.replicate l.length 0)).toArray 3)
  have hg : w.heap.size < w2.heap.size := by have := b2.size; simp at this; omega
  clear b2 hmk
  generalize w2.heap.size = g at *
  go_loopw [12] (fun i wr => ∃ k : Nat, k ≤ l.length ∧ i = .int .i64 k ∧ Row wr g 3 (iv (tbL l k k)) ∧ Row wr w.heap.size 50 (iv (pad l)) ∧ Below w.heap.size w wr) (fun i _ => l.length - (intOf i).toNat)
  case atStart => exact ⟨0, by omega, rfl, t0, r0, b0⟩
  case round =>
    clear r0 b0 t0
    obtain ⟨i, hin, rfl, t0, r0, b0⟩ := hrel
    by_cases hlt : i < l.length
    · have hsl := HSL.out i hlt
      have g0 : decide (i < l.length) = true := decide_eq_true hlt
      have t1 : Row wr g 3 (iv (tbL l i (i + 0))) := t0
      have HNX := Lib.hid (tbL_next l i)
      have HST := Lib.hid (fun k (hk : i ≤ k) => tbL_step hlt hk)
      go_wp2
      go_loopw [20] (fun j wr => ∃ k : Nat, k ≤ l.length - i ∧ j = .int .i64 k ∧ Row wr g 3 (iv (tbL l i (i + k))) ∧ Row wr w.heap.size 50 (iv (pad l)) ∧ Below w.heap.size w wr) (fun j _ => l.length - (intOf j).toNat)
      case atStart => exact ⟨0, by omega, rfl, t1, r0, b0⟩
      case round =>
        clear r0 b0 t0 t1
        obtain ⟨k, hkn, rfl, t0, r0, b0⟩ := hrel
        by_cases hk : k < l.length - i
        · have c1 := HPA.out wr (i + k) (by omega) r0
          have c2 := HPA.out wr i hlt r0
          have c3 := ivR t0 (i := i) (by rw [tbL_len]; exact hlt)
          have f3 := t0.free i
          have hm : 0 ≤ geti (tbL l i (i + k)) i ∧ geti (tbL l i (i + k)) i ≤ 12 := by
            rw [tbL_get hlt, if_neg (by omega), if_pos rfl]
            have := smN_le l i (i + k)
            omega
          obtain ⟨m1, m2⟩ := hm
          have HST2 := Lib.hid (HST.out (i + k) (by omega))
          have HNE := Lib.hid (show w.heap.size ≠ g by omega)
          have HSM := Lib.hid (set_same (xs := tbL l i (i + k)) (i := i) (by rw [tbL_len]; exact hlt))
          generalize geti (tbL l i (i + k)) i = m at *
          generalize geti l (i + k) = x at *
          generalize geti l i = y at *
          by_cases hxy : x < y
          · have g1 : decide (x < y) = true := decide_eq_true hxy
            go_wp2
            go_roundw
            case rel =>
              refine ⟨k + 1, by omega, by go_num, ?_, r0.far (by dsimp only; exact HNE.out) _, b0.setCell (by dsimp only; omega) _⟩
              have h := t0.set i (.int .i64 (m + 1))
              rw [iv_set] at h
              rw [← Nat.add_assoc, HST2.out, if_pos hxy]
              exact h
            case measure => simp [intOf]; omega
          · have g1 : decide (x < y) = false := decide_eq_false hxy
            go_wp2
            go_roundw
            case rel =>
              refine ⟨k + 1, by omega, by go_num, ?_, r0, b0⟩
              rw [← Nat.add_assoc, HST2.out, if_neg hxy, Int.add_zero, HSM.out]
              exact t0
            case measure => simp [intOf]; omega
        · obtain rfl : k = l.length - i := by omega
          rw [show i + (l.length - i) = l.length by omega, HNX.out] at t0
          go_wp2
          go_roundw
          case rel => exact ⟨i + 1, by omega, by go_num, t0, r0, b0⟩
          case measure => simp [intOf]; omega
    · obtain rfl : i = l.length := by omega
      rw [tbL_all] at t0
      go_wp2
      go_ret
      exact ⟨_, rfl, ⟨by rw [iv_len, tabL_len, Nat.mul_one], .inr ⟨g, l.length, (iv (tabL l)).toArray, rfl, by omega, t0, Nat.le_refl _, by unfold maxLen; omega, by rw [List.size_toArray, iv_len, tabL_len]; omega, by rw [List.take_of_length_le (by rw [Array.length_toList, List.size_toArray, iv_len, tabL_len]; omega)]⟩⟩, b0⟩
end Go.Proofs.Ytheblebfeinjjaa
