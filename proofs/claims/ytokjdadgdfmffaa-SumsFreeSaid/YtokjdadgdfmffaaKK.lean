/- The shortest part of a list. -/
import Derived.Test.YtokjdadgdfmffaaKJ
import Derived.Laws.EntriesVeiled
namespace Go.Proofs.Ytokjdadgdfmffaa
open Go.RowKit
set_option maxHeartbeats 1000000
set_option maxRecDepth 100000
/-- So many maps are made. -/
def mps (H N k : Nat) : List Value := (List.range N).map fun j => if j < k then .map (some (H + 5 + j)) else .map none
theorem mps_len (H N k : Nat) : (mps H N k).length = N := by simp [mps]
theorem mps_at (H N k j : Nat) (h : j < N) : (mps H N k)[j]? = some (if j < k then .map (some (H + 5 + j)) else .map none) := by
  unfold mps
  rw [List.getElem?_map, List.getElem?_range h]; rfl
theorem mps_set (H N k : Nat) (_h : k < N) : (mps H N k).set k (.map (some (H + 5 + k))) = mps H N (k + 1) := by
  apply List.ext_getElem?
  intro j
  by_cases hj : j < N
  · rw [List.getElem?_set, mps_at _ _ _ _ hj, mps_at _ _ _ _ hj, mps_len]
    by_cases e : k = j
    · subst e
      simp [hj]
    · rw [if_neg e]
      by_cases e2 : j < k
      · rw [if_pos e2, if_pos (by omega)]
      · rw [if_neg e2, if_neg (by omega)]
  · rw [List.getElem?_eq_none (by rw [List.length_set, mps_len]; omega), List.getElem?_eq_none (by rw [mps_len]; omega)]
theorem mps_all (H N : Nat) : mps H N N = (List.range N).map fun j => .map (some (H + 5 + j)) := by
  unfold mps
  refine List.map_congr_left fun j hj => ?_
  rw [if_pos (List.mem_range.1 hj)]
theorem info88 : (Try.prog.info? 88).map (fun i => (i.zero, i.size, i.bytes)) = some (some (.map none), 1, 8) := by kernel_rfl
theorem make_maps (n H : Nat) (hn : n ≤ 1000000) (W : World) : (Instr.makeSlice 87 (.int .i64 n) (.int .i64 n)).run Try.prog W = .ok (.slice (some ⟨W.heap.size, 0, none⟩) n n) (W.alloc (.cells (mps H n 0).toArray 88)) := by
  obtain ⟨j0, ji, jz0, jz1, jz2⟩ := info_parts info88
  have h := run_make (P := Try.prog) W 87 88 j0 (.map none) Try.underlying87 ji jz0 .i64 .i64 n n (by omega) (by omega) (by rw [jz2]; omega) (by omega)
  rw [jz1, Int.toNat_natCast] at h
  have e : (madeCells (Value.map none).cells (n * 1)) = (mps H n 0).toArray := by
    apply Array.ext'
    unfold madeCells
    have hc : (Value.map none).cells = #[.map none] := rfl
    rw [hc]
    apply List.ext_getElem?
    intro i
    by_cases hi : i < n
    · rw [mps_at _ _ _ _ hi]
      simp [Nat.mod_one, hi]
    · have h5 : (mps H n 0)[i]? = none := List.getElem?_eq_none (by rw [mps_len]; omega)
      rw [h5]
      simp [hi]
  rw [h, e]
theorem shortest_any (m n g : Nat) (es : List (Int × Int)) (a b : Int) (w : World) (hg : Gr m n) (hes : ∀ i (h : i < es.length), El m n es[i].1 es[i].2) (hN : es.length ≤ 60) (he : El m n a b) (hr : Row w g 69 (pcs es)) :
    Calls Try.prog 49 #[pv m n, .slice (some ⟨g, 0, none⟩) es.length es.length, pv a b] w fun e w' => ∃ v, e = .returned v ∧ PartV w' v (shF m n 0 es a b) ∧ Below w.heap.size w w' := by
  have hmk := make_maps es.length w.heap.size (by omega)
  have hmf : ∀ (fn : Fn) (first cap : Array Value) (w : World), (Instr.makeFunc fn first cap).run Try.prog w = .ok (.func fn first cap) w := fun _ _ _ _ => rfl
  have hmm : ∀ W : World, (Instr.makeMap 88 none).run Try.prog W = .ok (.map (some W.heap.size)) (W.alloc (.map #[] 0)) := fun W => rfl
  have r0 : Row (((((w.alloc (.cells #[.int .i64 m, .int .i64 n] 63)).alloc (.cells #[.slice (some ⟨g, 0, none⟩) es.length es.length] 64)).alloc (.cells #[.int .i64 a, .int .i64 b] 69)).alloc (.cells (mps w.heap.size es.length 0).toArray 88)).alloc (.cells #[.slice (some ⟨w.heap.size + 1 + 1 + 1, 0, none⟩) es.length es.length] 87)) w.heap.size 63 [.int .i64 m, .int .i64 n] := ((((row_new rfl).alloc _).alloc _).alloc _).alloc _
  have r1 : Row (((((w.alloc (.cells #[.int .i64 m, .int .i64 n] 63)).alloc (.cells #[.slice (some ⟨g, 0, none⟩) es.length es.length] 64)).alloc (.cells #[.int .i64 a, .int .i64 b] 69)).alloc (.cells (mps w.heap.size es.length 0).toArray 88)).alloc (.cells #[.slice (some ⟨w.heap.size + 1 + 1 + 1, 0, none⟩) es.length es.length] 87)) (w.heap.size + 1) 64 [.slice (some ⟨g, 0, none⟩) es.length es.length] := (((row_new (by simp)).alloc _).alloc _).alloc _
  have r2 : Row (((((w.alloc (.cells #[.int .i64 m, .int .i64 n] 63)).alloc (.cells #[.slice (some ⟨g, 0, none⟩) es.length es.length] 64)).alloc (.cells #[.int .i64 a, .int .i64 b] 69)).alloc (.cells (mps w.heap.size es.length 0).toArray 88)).alloc (.cells #[.slice (some ⟨w.heap.size + 1 + 1 + 1, 0, none⟩) es.length es.length] 87)) (w.heap.size + 1 + 1) 69 [.int .i64 a, .int .i64 b] := ((row_new (by simp)).alloc _).alloc _
  have r3 : Row (((((w.alloc (.cells #[.int .i64 m, .int .i64 n] 63)).alloc (.cells #[.slice (some ⟨g, 0, none⟩) es.length es.length] 64)).alloc (.cells #[.int .i64 a, .int .i64 b] 69)).alloc (.cells (mps w.heap.size es.length 0).toArray 88)).alloc (.cells #[.slice (some ⟨w.heap.size + 1 + 1 + 1, 0, none⟩) es.length es.length] 87)) (w.heap.size + 1 + 1 + 1) 88 (mps w.heap.size es.length 0) := (row_new (by simp)).alloc _
  have r4 : Row (((((w.alloc (.cells #[.int .i64 m, .int .i64 n] 63)).alloc (.cells #[.slice (some ⟨g, 0, none⟩) es.length es.length] 64)).alloc (.cells #[.int .i64 a, .int .i64 b] 69)).alloc (.cells (mps w.heap.size es.length 0).toArray 88)).alloc (.cells #[.slice (some ⟨w.heap.size + 1 + 1 + 1, 0, none⟩) es.length es.length] 87)) (w.heap.size + 1 + 1 + 1 + 1) 87 [.slice (some ⟨w.heap.size + 1 + 1 + 1, 0, none⟩) es.length es.length] := row_new (by simp)
  have b0 : Below w.heap.size w (((((w.alloc (.cells #[.int .i64 m, .int .i64 n] 63)).alloc (.cells #[.slice (some ⟨g, 0, none⟩) es.length es.length] 64)).alloc (.cells #[.int .i64 a, .int .i64 b] 69)).alloc (.cells (mps w.heap.size es.length 0).toArray 88)).alloc (.cells #[.slice (some ⟨w.heap.size + 1 + 1 + 1, 0, none⟩) es.length es.length] 87)) := by (repeat (first | exact Below.refl _ _ | assumption | (refine Below.setCell ?_ (by first | exact Nat.le_refl _ | omega | (simp; done) | (simp; omega)) _) | (refine Below.trans ?_ (below_drewN _)) | (refine Below.drew ?_) | (refine Below.alloc ?_ (by first | exact Nat.le_refl _ | omega | (simp; done) | (simp; omega)) _) | (refine below_row ?_ (by first | exact Nat.le_refl _ | omega | (simp; done) | (simp; omega)) _)))
  have HSZ : Hid ((((((w.alloc (.cells #[.int .i64 m, .int .i64 n] 63)).alloc (.cells #[.slice (some ⟨g, 0, none⟩) es.length es.length] 64)).alloc (.cells #[.int .i64 a, .int .i64 b] 69)).alloc (.cells (mps w.heap.size es.length 0).toArray 88)).alloc (.cells #[.slice (some ⟨w.heap.size + 1 + 1 + 1, 0, none⟩) es.length es.length] 87)).heap.size = w.heap.size + 5 + 0) := Lib.hid (by simp)
  have HM0 : Hid (∀ j, j < 0 → (((((w.alloc (.cells #[.int .i64 m, .int .i64 n] 63)).alloc (.cells #[.slice (some ⟨g, 0, none⟩) es.length es.length] 64)).alloc (.cells #[.int .i64 a, .int .i64 b] 69)).alloc (.cells (mps w.heap.size es.length 0).toArray 88)).alloc (.cells #[.slice (some ⟨w.heap.size + 1 + 1 + 1, 0, none⟩) es.length es.length] 87)).ownsMap Try.prog 69 slR (w.heap.size + 5 + j) 0 (.map [])) := Lib.hid (fun j hj => absurd hj (Nat.not_lt_zero j))
  have HES := Lib.hid hes
  have HEL := Lib.hid he
  have HG := Lib.hid hg
  have HR := Lib.hid hr
  clear hes he hg hr
  go_enter Try.func49, Try.ntmps49
  go_wp2
  clear hmk
  go_loopw [15] (fun i wr => ∃ k : Nat, k ≤ es.length ∧ i = .int .i64 k ∧ Row wr w.heap.size 63 [.int .i64 m, .int .i64 n] ∧ Row wr (w.heap.size + 1) 64 [.slice (some ⟨g, 0, none⟩) es.length es.length] ∧ Row wr (w.heap.size + 1 + 1) 69 [.int .i64 a, .int .i64 b] ∧ Row wr (w.heap.size + 1 + 1 + 1) 88 (mps w.heap.size es.length k) ∧
    Row wr (w.heap.size + 1 + 1 + 1 + 1) 87 [.slice (some ⟨w.heap.size + 1 + 1 + 1, 0, none⟩) es.length es.length] ∧ Below w.heap.size w wr ∧ Hid (wr.heap.size = w.heap.size + 5 + k) ∧ Hid (∀ j, j < k → wr.ownsMap Try.prog 69 slR (w.heap.size + 5 + j) 0 (.map []))) (fun i _ => es.length - (intOf i).toNat)
  case atStart => exact ⟨0, by omega, rfl, r0, r1, r2, r3, r4, b0, HSZ, HM0⟩
  case round =>
    clear r0 r1 r2 r3 r4 b0 HSZ HM0
    obtain ⟨k, hk, rfl, r0, r1, r2, r3, r4, b0, HSZ, HM0⟩ := hrel
    by_cases hlt : k < es.length
    · obtain ⟨c0, -⟩ := r4.cells1
      have c1 : wr.cell? ⟨w.heap.size + 1 + 1 + 1, k, none⟩ = some (.map none) := by
        rw [r3.cell, mps_at _ _ _ _ hlt, if_neg (by omega)]
      have f1 := r3.free k
      have hl4 := r4.lt
      have d0 := (r4.alloc (.map #[] 0)).cells1.1
      have d1 : (wr.alloc (.map #[] 0)).cell? ⟨w.heap.size + 1 + 1 + 1, k, none⟩ = some (.map none) := by
        rw [(r3.alloc (.map #[] 0)).cell, mps_at _ _ _ _ hlt, if_neg (by omega)]
      have g1 := (r3.alloc (.map #[] 0)).free k
      go_wp2
      go_roundw
      case rel =>
        refine ⟨k + 1, by omega, by go_num, (r0.alloc _).far (by dsimp only; omega) _, (r1.alloc _).far (by dsimp only; omega) _, (r2.alloc _).far (by dsimp only; omega) _, ?_, (r4.alloc _).far (by dsimp only; omega) _, (b0.alloc b0.size _).setCell (by dsimp only; omega) _, Lib.hid ?_, Lib.hid fun j hj => ?_⟩
        · rw [← mps_set _ _ _ hlt, ← HSZ.out]
          exact (r3.alloc _).set k _
        · have := HSZ.out
          simp [World.setCell]; omega
        · by_cases e : j = k
          · subst e
            have h := World.ownsMap_made (H := Unit) wr Try.prog 69 slR
            rw [HSZ.out] at h
            exact h.setCell (by dsimp only; omega) _
          · exact ((HM0.out j (by omega)).alloc _).setCell (by dsimp only; omega) _
      case measure => simp [intOf]; omega
    · obtain rfl : k = es.length := by omega
      clear hk hlt
      obtain ⟨c0, -⟩ := r4.cells1
      obtain ⟨⟨c1, c2⟩, -⟩ := r2.cells2
      have hl4 := r4.lt
      have q5 : Row (wr.alloc (.cells #[.func (.func 65) #[] #[.pointer (some ⟨w.heap.size + 1, 0, none⟩), .pointer (some ⟨w.heap.size + 1 + 1 + 1 + 1, 0, none⟩), .pointer (some ⟨wr.heap.size, 0, none⟩), .pointer (some ⟨w.heap.size, 0, none⟩)]] 89)) wr.heap.size 89 [.func (.func 65) #[] #[.pointer (some ⟨w.heap.size + 1, 0, none⟩), .pointer (some ⟨w.heap.size + 1 + 1 + 1 + 1, 0, none⟩), .pointer (some ⟨wr.heap.size, 0, none⟩), .pointer (some ⟨w.heap.size, 0, none⟩)]] := row_new rfl
      have q2 := r2.alloc (.cells #[.func (.func 65) #[] #[.pointer (some ⟨w.heap.size + 1, 0, none⟩), .pointer (some ⟨w.heap.size + 1 + 1 + 1 + 1, 0, none⟩), .pointer (some ⟨wr.heap.size, 0, none⟩), .pointer (some ⟨w.heap.size, 0, none⟩)]] 89)
      obtain ⟨⟨d1, d2⟩, -⟩ := q2.cells2
      have b1 := b0.alloc b0.size (.cells #[.func (.func 65) #[] #[.pointer (some ⟨w.heap.size + 1, 0, none⟩), .pointer (some ⟨w.heap.size + 1 + 1 + 1 + 1, 0, none⟩), .pointer (some ⟨wr.heap.size, 0, none⟩), .pointer (some ⟨w.heap.size, 0, none⟩)]] 89)
      have E : Env ⟨m, n, es, w.heap.size + 1, w.heap.size + 1 + 1 + 1 + 1, wr.heap.size, w.heap.size, g, w.heap.size + 1 + 1 + 1, fun j => w.heap.size + 5 + j, w.heap.size⟩ (fun _ => 0) (wr.alloc (.cells #[.func (.func 65) #[] #[.pointer (some ⟨w.heap.size + 1, 0, none⟩), .pointer (some ⟨w.heap.size + 1 + 1 + 1 + 1, 0, none⟩), .pointer (some ⟨wr.heap.size, 0, none⟩), .pointer (some ⟨w.heap.size, 0, none⟩)]] 89)) :=
        ⟨r1.alloc _, r4.alloc _, q5, r0.alloc _, HR.out.below b1, by rw [← mps_all]; exact r3.alloc _, fun j hj => ⟨.map [], (HM0.out j hj).alloc _, fun x y hxy hh => by cases hh⟩, fun x y _ _ e => by dsimp only at e; omega, fun j _ => by dsimp only; omega⟩
      have hf := find_any _ HG.out HES.out hN es.length 0 (Nat.zero_add _) a b (fun _ => 0) _ HEL.out E (fun j _ hj => by
        have h1 : 2 ^ (j - 0) ≤ 2 ^ 61 := Nat.pow_le_pow_right (by omega) (by dsimp only at hj; omega)
        omega)
      rw [show ((0 : Nat) : Int) = 0 from rfl] at hf
      have HF := Lib.hid hf
      have HB1 := Lib.hid b1
      clear hf E q5 q2 r0 r1 r2 r3 r4
      go_wp2_with (go_at_call 65; fail)
      refine HF.out.mono ?_
      rintro e w2 ⟨v, cn, rfl, hp, -, hF, -⟩
      go_wp2
      go_ret
      have h2 := hF.below (B := w.heap.size) (Nat.le_trans b0.size (by simp))
      exact ⟨v, rfl, hp, HB1.out.trans h2⟩
end Go.Proofs.Ytokjdadgdfmffaa
