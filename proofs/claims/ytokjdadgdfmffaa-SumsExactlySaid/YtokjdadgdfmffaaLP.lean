/- Exactly so many: the reference's remainder of a difference. -/
import Derived.Test.YtokjdadgdfmffaaLO
import Derived.Test.YtokjdadgdfmffaaKT
namespace Go.Proofs.Ytokjdadgdfmffaa
open Go.RowKit
set_option maxHeartbeats 1000000
set_option maxRecDepth 100000
theorem tmod_bd3 (x : Int) {n : Nat} (hn : 0 < n) : -(n : Int) < x.tmod n ∧ x.tmod n < n ∧ (n : Int) ∣ x.tmod n - x := by
  refine ⟨?_, Int.tmod_lt_of_pos _ (by omega), ?_⟩
  · have h := Int.tmod_lt_of_pos (-x) (b := (n : Int)) (by omega)
    rw [Int.neg_tmod] at h
    omega
  · have h := Int.mul_tdiv_add_tmod x n
    exact ⟨-(x.tdiv n), by rw [Int.mul_neg]; omega⟩
theorem rest_pure (r x : Int) {n : Nat} (hn : 0 < n) : (((r - x.tmod n).tmod n + n).tmod n) = (r - x) % n := by
  obtain ⟨_, _, a3⟩ := tmod_bd3 x hn
  obtain ⟨b1, b2, b3⟩ := tmod_bd3 (r - x.tmod n) hn
  rw [Int.tmod_eq_emod_of_nonneg (by omega), emod_eq_iff]
  have h := Int.dvd_add (Int.dvd_sub b3 a3) (Int.dvd_refl (n : Int))
  rwa [show (r - x.tmod ↑n).tmod ↑n - (r - x.tmod ↑n) - (x.tmod ↑n - x) + ↑n = (r - x.tmod ↑n).tmod ↑n + ↑n - (r - x) by omega] at h
theorem rest_any (r x : Int) (n : Nat) (w : World) (hn : 0 < n) (hn2 : n ≤ 1000000) (hr : 0 ≤ r) (hr2 : r < n) :
    Calls Try.prog 60 #[.int .i64 r, .int .i64 x, .int .i64 n] w fun e w' => e = .returned (.int .i64 ((r - x) % n)) ∧ w = w' := by
  obtain ⟨a1, a2, _⟩ := tmod_bd3 x hn
  obtain ⟨b1, b2, _⟩ := tmod_bd3 (r - x.tmod n) hn
  obtain ⟨c1, c2, _⟩ := tmod_bd3 ((r - x.tmod n).tmod n + n) hn
  have H : Hid (((r - x.tmod n).tmod n + n) % n = (r - x) % n) := Lib.hid ((Int.tmod_eq_emod_of_nonneg (by omega)).symm.trans (rest_pure r x hn))
  go_enter Try.func60, Try.ntmps60
  go_wp2
  go_ret
  exact ⟨ret_int H.out, rfl⟩
/-- A table of bools. -/
def tbB (N : Nat) (f : Nat → Bool) : List Value := (List.range N).map fun v : Nat => .bool (f v)
theorem tb_len (N : Nat) (f : Nat → Bool) : (tbB N f).length = N := by simp [tbB]
theorem tb_at (N : Nat) (f : Nat → Bool) {v : Nat} (h : v < N) : (tbB N f)[v]? = some (.bool (f v)) := by
  unfold tbB
  rw [List.getElem?_map, List.getElem?_range h]; rfl
theorem tb_set (N : Nat) (f : Nat → Bool) {x : Nat} (h : x < N) (b : Bool) : (tbB N f).set x (.bool b) = tbB N (fun v => if v = x then b else f v) := by
  apply List.ext_getElem?
  intro j
  by_cases hj : j < N
  · rw [List.getElem?_set, tb_at _ _ hj, tb_at _ _ hj, tb_len]
    by_cases e : x = j
    · subst e
      simp [hj]
    · have e2 : ¬ j = x := fun h => e h.symm
      simp [e, e2]
  · rw [List.getElem?_eq_none (by rw [List.length_set, tb_len]; omega), List.getElem?_eq_none (by rw [tb_len]; omega)]
theorem tb_no (N : Nat) : hasN N [] = tbB N (fun _ => false) := by
  unfold hasN tbB
  congr 1
theorem tb_congr (N : Nat) {f g : Nat → Bool} (h : ∀ v, v < N → f v = g v) : tbB N f = tbB N g := by
  unfold tbB
  exact List.map_congr_left fun v hv => by rw [h v (List.mem_range.1 hv)]
theorem info80 : (Try.prog.info? 80).map (fun i => (i.zero, i.size, i.bytes)) = some (some (.slice none 0 0), 1, 24) := by kernel_rfl
theorem make_tabs (n : Nat) (hn : n ≤ 1000000) (W : World) : (Instr.makeSlice 82 (.int .i64 n) (.int .i64 n)).run Try.prog W = .ok (.slice (some ⟨W.heap.size, 0, none⟩) n n) (W.alloc (.cells (List.replicate n (Value.slice none 0 0)).toArray 80)) := by
  obtain ⟨j0, ji, jz0, jz1, jz2⟩ := info_parts info80
  have h := run_make (P := Try.prog) W 82 80 j0 (.slice none 0 0) Try.underlying82 ji jz0 .i64 .i64 n n (by omega) (by omega) (by rw [jz2]; omega) (by omega)
  rw [jz1, Int.toNat_natCast] at h
  have e : (madeCells (Value.slice none 0 0).cells (n * 1)) = (List.replicate n (Value.slice none 0 0)).toArray := by
    apply Array.ext'
    unfold madeCells
    have hc : (Value.slice none 0 0).cells = #[.slice none 0 0] := rfl
    rw [hc]
    apply List.ext_getElem?
    intro i
    by_cases hi : i < n
    · simp [Nat.mod_one, hi]
    · simp [hi]
  rw [h, e]
end Go.Proofs.Ytokjdadgdfmffaa
