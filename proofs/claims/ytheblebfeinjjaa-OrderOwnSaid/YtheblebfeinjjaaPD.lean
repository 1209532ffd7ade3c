/- The inverse, walked. -/
import Derived.Test.YtheblebfeinjjaaPC
namespace Go.Proofs.Ytheblebfeinjjaa
open Go.RowKit
set_option maxHeartbeats 1000000
set_option maxRecDepth 100000
/-- The inverse's numbers after so many positions. -/
def inN' (l : List Int) : Nat → List Int
  | 0 => List.replicate l.length 0
  | k + 1 => (inN' l k).set ((geti l k).toNat - 1) ((k : Int) + 1)
/-- The inverse. -/
def invL (l : List Int) : List Int := inN' l l.length
theorem inN'_len (l : List Int) : ∀ k, (inN' l k).length = l.length
  | 0 => by simp [inN']
  | k + 1 => by simp [inN', inN'_len l k]
theorem invL_len (l : List Int) : (invL l).length = l.length := inN'_len l _
theorem inN'_at {l : List Int} (h : IsO l) {i : Nat} : ∀ k, k ≤ l.length → i < k → geti (inN' l k) ((geti l i).toNat - 1) = i + 1
  | 0, _, hi => by omega
  | k + 1, hk, hi => by
    have h1 := h.lo i (by omega)
    have h2 := h.hi i (by omega)
    have h3 := h.lo k (by omega)
    have h4 := h.hi k (by omega)
    show geti ((inN' l k).set _ _) _ = _
    rw [geti_set (by rw [inN'_len]; omega)]
    by_cases e : i = k
    · subst e; rw [if_pos rfl]
    · have hne := h.ne k i (by omega) (by omega)
      rw [if_neg (by omega)]
      exact inN'_at h k (by omega) (by omega)
theorem invL_at {l : List Int} (h : IsO l) {i : Nat} (hi : i < l.length) : geti (invL l) ((geti l i).toNat - 1) = i + 1 := inN'_at h _ (Nat.le_refl _) hi
theorem IsO.find {l : List Int} (h : IsO l) {v : Int} (h1 : 1 ≤ v) (h2 : v ≤ l.length) : ∃ i, i < l.length ∧ geti l i = v :=
  mem_geti (h.perm.mem_iff.2 (mem_asc.2 ⟨h1, h2⟩))
theorem invL_get {l : List Int} (h : IsO l) {k : Nat} (hk : k < l.length) : ∃ i : Nat, i < l.length ∧ geti l i = (k : Int) + 1 ∧ geti (invL l) k = i + 1 := by
  obtain ⟨i, hi, e⟩ := h.find (v := (k : Int) + 1) (by omega) (by omega)
  refine ⟨i, hi, e, ?_⟩
  have := invL_at h hi
  rwa [e, show ((k : Int) + 1).toNat - 1 = k by omega] at this
theorem IsO.inv {l : List Int} (h : IsO l) : IsO (invL l) := by
  have hl := invL_len l
  refine ⟨by rw [hl]; exact h.le, fun k hk => ?_, fun k hk => ?_, fun i k hi hk e => ?_⟩
  · obtain ⟨i, hi, _, e⟩ := invL_get h (k := k) (by omega)
    omega
  · obtain ⟨i, hi, _, e⟩ := invL_get h (k := k) (by omega)
    omega
  · obtain ⟨a, ha, ea, ia⟩ := invL_get h (k := k) (by omega)
    obtain ⟨b, hb, eb, ib⟩ := invL_get h (k := i) (by omega)
    rw [ia, ib] at e
    obtain rfl : a = b := by omega
    omega
theorem invL_inv {l : List Int} (h : IsO l) : invL (invL l) = l := by
  refine List.ext_getElem (by rw [invL_len, invL_len]) fun i h1 h2 => ?_
  rw [← geti_eq h1, ← geti_eq h2]
  obtain ⟨k, hk, e1, e2⟩ := invL_get h.inv (k := i) (by rw [invL_len]; exact h2)
  rw [invL_len] at hk
  obtain ⟨j, hj, f1, f2⟩ := invL_get h hk
  rw [e2]
  rw [e1] at f2
  obtain rfl : j = i := by omega
  exact f1.symm
theorem pad_sets {q : List Int} {i : Nat} {x : Int} (h : i < q.length) : (pad q).set i x = pad (q.set i x) := by
  unfold pad
  rw [List.set_append_left _ _ h, List.length_set]
theorem pad_zeros {n : Nat} (h : n ≤ 12) : iv (pad (List.replicate n 0)) = Z12 := by
  have : ∀ n, n < 13 → pad (List.replicate n 0) = List.replicate 12 0 := by decide
  rw [this n (by omega)]; rfl
theorem inverse_any (l : List Int) (w : World) (h : IsO l) : Calls Try.prog 52 #[arr l] w fun e w' => e = .returned (arr (invL l)) ∧ Below w.heap.size w w' := by
  have hle := h.le
  have hpl := pad_len hle
  have r0 : Row (((w.alloc (.cells (iv (pad l)).toArray 50)).alloc (.cells Z12.toArray 50)).alloc (.cells Z12.toArray 50)) w.heap.size 50 (iv (pad l)) := ((row_new rfl).alloc _).alloc _
  have q0 : Row (((w.alloc (.cells (iv (pad l)).toArray 50)).alloc (.cells Z12.toArray 50)).alloc (.cells Z12.toArray 50)) (w.heap.size + 1) 50 Z12 := (row_new (by simp)).alloc _
  have t0 : Row (((w.alloc (.cells (iv (pad l)).toArray 50)).alloc (.cells Z12.toArray 50)).alloc (.cells Z12.toArray 50)) (w.heap.size + 1 + 1) 50 (iv (pad (inN' l 0))) := by
    rw [show inN' l 0 = List.replicate l.length 0 from rfl, pad_zeros hle]; exact row_new (by simp)
  have b0 : Below w.heap.size w (((w.alloc (.cells (iv (pad l)).toArray 50)).alloc (.cells Z12.toArray 50)).alloc (.cells Z12.toArray 50)) := by (repeat (first | exact Below.refl _ _ | assumption | (refine Below.setCell ?_ (by first | exact Nat.le_refl _ | omega | (simp; done) | (simp; omega)) _) | (refine Below.trans ?_ (below_drewN _)) | (refine Below.drew ?_) | (refine Below.alloc ?_ (by first | exact Nat.le_refl _ | omega | (simp; done) | (simp; omega)) _) | (refine below_row ?_ (by first | exact Nat.le_refl _ | omega | (simp; done) | (simp; omega)) _)))
  have hi := info50_iv hpl
  have HL := Lib.hid (fun w => length_any l w h)
  have HV := Lib.hid (fun (k : Nat) (hk : k < l.length) => (⟨h.lo k hk, h.hi k hk⟩ : 1 ≤ geti l k ∧ geti l k ≤ l.length))
  have hwp : (pad (invL l)).length = 12 := pad_len (h.inv).le
  have hiw := info50_iv hwp
  have HP : Hid (∀ k, (pad (inN' l k)).length = 12) := Lib.hid (fun k => pad_len (by rw [inN'_len]; exact hle))
  unfold arr at HL ⊢
  clear h
  go_enter Try.func52, Try.ntmps52
  go_wp2_with (first
    | ((with_reducible refine (?_ : wpList _ _ _ (Oper.mk (some 5) _ _ _ _ _ :: _) _ _)); refine wpList_load_row rfl 50 (.tmp 1) rfl w.heap.size rfl 50 (iv (pad l)).toArray (0, 0) _ (row_heap r0) Try.underlying50 rfl hi ?_)
    | (go_at_call 72; refine (HL.out _).mono ?_; rintro e w2 ⟨rfl, b2⟩; replace r0 := r0.below b2; replace q0 := q0.below b2; replace t0 := t0.below b2; replace b0 := b0.trans (b2.mono b0.size)))
  go_loopw [7] (fun i wr => ∃ k : Nat, k ≤ l.length ∧ i = .int .i64 k ∧ Row wr (w.heap.size + 1 + 1) 50 (iv (pad (inN' l k))) ∧ Row wr w.heap.size 50 (iv (pad l)) ∧ Row wr (w.heap.size + 1) 50 Z12 ∧ Below w.heap.size w wr) (fun i _ => l.length - (intOf i).toNat)
  case atStart => exact ⟨0, by omega, rfl, t0, r0, q0, b0⟩
  case round =>
    clear r0 q0 b0 t0
    obtain ⟨k, hk, rfl, t0, r0, q0, b0⟩ := hrel
    by_cases hlt : k < l.length
    · obtain ⟨v1, v2⟩ := HV.out k hlt
      have d0 := ivR r0 (i := k) (by omega)
      rw [pad_at] at d0
      have hs : (pad (inN' l k)).set ((geti l k).toNat - 1) ((k : Int) + 1) = pad (inN' l (k + 1)) := pad_sets (by rw [inN'_len]; omega)
      have d1 := ivR t0 (i := (geti l k).toNat - 1) (by rw [HP.out]; omega)
      have f0 := t0.free ((geti l k).toNat - 1)
      have HS := Lib.hid hs
      clear hs
      generalize inN' l k = Q0 at *
      generalize geti l k = v at *
      go_wp2
      go_roundw
      case rel =>
        refine ⟨k + 1, by omega, by go_num, ?_, r0.far (by dsimp only; omega) _, q0.far (by dsimp only; omega) _, b0.setCell (by dsimp only; omega) _⟩
        have h := t0.set (v.toNat - 1) (.int .i64 ((k : Int) + 1))
        rw [iv_set, HS.out] at h
        exact h
      case measure => simp [intOf]; omega
    · obtain rfl : k = l.length := by omega
      go_wp2_with (first
        | ((with_reducible refine (?_ : wpList _ _ _ (Oper.mk (some 18) _ _ _ _ _ :: _) _ _)); refine wpList_load_row rfl 50 (.tmp 3) rfl (w.heap.size + 1 + 1) rfl 50 (iv (pad (invL l))).toArray (0, 0) _ (row_heap t0) Try.underlying50 rfl hiw ?_)
        | ((with_reducible refine (?_ : wpList _ _ _ (Oper.mk none _ _ _ _ _ :: _) _ _)); refine wpList_store_row rfl 50 (.tmp 2) (.tmp 18) rfl (w.heap.size + 1) (iv (pad (invL l))).toArray rfl rfl 50 Z12.toArray (row_heap q0) hiw (size50_Z hwp) (iv_all _) ?_))
      exact bodyPost_ret (v := .agg (iv (pad (invL l))).toArray) (res1 Try.results52 rfl (cell50_res hwp (q0.row (iv (pad (invL l)))))) rfl ⟨rfl, below_row b0 (by omega) _⟩
end Go.Proofs.Ytheblebfeinjjaa
