/- Listing shares. -/
import Derived.Test.YtmfpegadcecknaaAC
import Derived.Test.YtmfpegadcecknaaN
namespace Go.Proofs.Ytmfpegadcecknaa
open Go.RowKit
set_option maxHeartbeats 1000000
set_option maxRecDepth 100000
def cellsF (n : Nat) (f : Nat → Int) : List Value := (List.range n).map fun j => Value.int .i64 (f j)
theorem cellsF_at {n : Nat} (f : Nat → Int) {j : Nat} (h : j < n) : (cellsF n f)[j]? = some (.int .i64 (f j)) := by
  unfold cellsF; rw [List.getElem?_map, List.getElem?_range h]; rfl
theorem cellsF_set {n : Nat} {f : Nat → Int} {v : Nat} (x : Int) : (cellsF n f).set v (.int .i64 x) = cellsF n (upd f v x) := by
  unfold cellsF
  apply List.ext_getElem?
  intro i
  rw [List.getElem?_set, List.getElem?_map, List.getElem?_map]
  by_cases hi : i < n
  · rw [List.getElem?_range hi]
    by_cases e2 : v = i
    · subst e2; simp [upd, hi]
    · rw [if_neg e2]
      have : ¬ i = v := fun e => e2 e.symm
      simp [upd, this]
  · have : (List.range n)[i]? = none := by simp; omega
    rw [this]
    split
    · simp; omega
    · rfl
theorem info65k : ((Try.prog.info? 65).map fun i => (i.zero, i.size, i.bytes)) = some (some (.agg #[.int .i64 0, .int .i64 0]), 2, 16) := by kernel_rfl
theorem made_pairs (m : Nat) : (madeCells (Value.agg #[.int .i64 0, .int .i64 0]).cells (m * 2)).toList = cellsF (m * 2) (fun _ => 0) := by
  unfold madeCells cellsF
  have : (Value.agg #[.int .i64 0, .int .i64 0]).cells = #[.int .i64 0, .int .i64 0] := rfl
  rw [this]
  apply List.ext_getElem?
  intro i
  by_cases h : i < m * 2
  · rcases Nat.mod_two_eq_zero_or_one i with e | e <;> simp [h, e]
  · simp [h]
theorem own_made65 {w : World} {b g m : Nat} (h : w.ownsRow b 65 2 (.slice (some ⟨g, 0, none⟩) m m) m (madeCells (Value.agg #[.int .i64 0, .int .i64 0]).cells (m * 2)).toList) : Row w g 65 (cellsF (m * 2) (fun _ => 0)) := by
  rw [made_pairs] at h
  rcases h.2 with ⟨h, _⟩ | ⟨g', cap, cur, h, hb, hg, hc, _, hs, ht⟩
  · cases h
  · injection h with h1 _ h2; injection h1 with h1; injection h1 with h1; subst h1; subst h2
    unfold Row
    rw [hg, ← ht]
    congr 2
    rw [List.take_of_length_le (by simp; omega)]
/-- What a share says of the first k edges. -/
def shareOK (es : List (Int × Int)) (H : Nat → Nat → Int) (k : Nat) (f : Nat → Int) : Prop := ∀ i, i < k → f (i * 2) = H (pA es i).toNat (pB es i).toNat ∧ f (i * 2 + 1) = H (pB es i).toNat (pA es i).toNat
theorem share_any (g m : Nat) (gs : List Nat) (H : Nat → Nat → Int) (L : Nat → Int) (A : Option Addr) (c : Nat) (es : List (Int × Int)) (w : World) (hg : Rows16 gs) (hd : Div w g m gs H L) (hx : es.length ≤ 1000000) (ha : PairsAt w A es)
    (he : ∀ k, k < es.length → 0 ≤ pA es k ∧ pA es k < 16 ∧ 0 ≤ pB es k ∧ pB es k < 16 ∧ pA es k ≠ pB es k) :
    Calls Try.prog 44 #[.pointer (some ⟨g, 0, none⟩), .slice A es.length c] w fun e w' => ∃ f, shareOK es H es.length f ∧ e = .returned (.slice (some ⟨w.heap.size, 0, none⟩) es.length es.length) ∧ (0 < es.length → Row w' w.heap.size 65 (cellsF (es.length * 2) f)) ∧ Below w.heap.size w w' := by
  obtain ⟨i0, hi, hz0, hz1, hz2⟩ := info_parts info65k
  have HE := Lib.hid he
  clear he
  have hgl : g < w.heap.size := Row.lt hd
  go_enter Try.func44, Try.ntmps44
  go_wp2_with (at_make; refine wpList_make_full _ rfl _ _ 27 rfl w.heap.size 65 i0 (.agg #[.int .i64 0, .int .i64 0]) 2 Try.underlying27 hi hz0 hz1 .i64 .i64 _ _ es.length rfl rfl rfl rfl (by rw [hz2]; omega) (by unfold maxLen; omega) (Nat.le_refl _) ?_; intro w1 o1 hg1)
  have hb1 : Below w.heap.size w w1 := (Below.refl _ w).grown hg1 (Nat.le_refl _) (by simp)
  have hr1 : 0 < es.length → Row w1 w.heap.size 65 (cellsF (es.length * 2) (fun _ => 0)) := fun _ => own_made65 o1
  clear o1 hg1
  go_loopw [13] (fun i wr => ∃ (k : Nat) (f : Nat → Int), k ≤ es.length ∧ i = .int .i64 k ∧ shareOK es H k f ∧ (0 < es.length → Row wr w.heap.size 65 (cellsF (es.length * 2) f)) ∧ Below w.heap.size w wr) (fun i _ => es.length - (intOf i).toNat)
  case atStart => exact ⟨0, _, by omega, rfl, fun j hj => absurd hj (by omega), hr1, hb1⟩
  case round =>
    obtain ⟨k, f, hk, rfl, hs, hr, hbr⟩ := hrel
    have HS := Lib.hid hs
    clear hs hr1 hb1
    by_cases hlt : k < es.length
    · have hr' := hr (by omega)
      obtain ⟨b, o, rfl, hb1, hc⟩ := ha (by omega)
      obtain ⟨c1, c2⟩ := hc k hlt
      have c1' : wr.cell? ⟨b, o + k * 2, none⟩ = some (.int .i64 (pA es k)) := (hbr.cell (p := ⟨b, _, none⟩) hb1).trans c1
      have c2' : wr.cell? ⟨b, o + k * 2 + 1, none⟩ = some (.int .i64 (pB es k)) := (hbr.cell (p := ⟨b, _, none⟩) hb1).trans c2
      obtain ⟨e1, e2, e3, e4, e5⟩ := HE.out k hlt
      have hd' : Div wr g m gs H L := Row.fr hd (Fr.of_below hbr : Fr (fun _ => False) w wr) (by simp)
      obtain ⟨a, hA⟩ : ∃ a : Nat, pA es k = a := ⟨(pA es k).toNat, by omega⟩
      obtain ⟨b2, hB⟩ : ∃ b2 : Nat, pB es k = b2 := ⟨(pB es k).toNat, by omega⟩
      rw [hA] at c1' e1 e2 e5
      rw [hB] at c2' e3 e4 e5
      have HA := Lib.hid hA
      have HB := Lib.hid hB
      clear hA hB hc c1 c2
      have a16 : a < 16 := by omega
      have b16 : b2 < 16 := by omega
      have d1 := hd'.has hg a16 b16
      have d2 := hd'.has hg b16 a16
      have lb : b < wr.heap.size := Nat.lt_of_lt_of_le hb1 hbr.size
      have lg := Row.lt hd'
      have lr := hr'.lt
      have s1 : wr.cell? ⟨w.heap.size, k * 2, none⟩ = some (.int .i64 (f (k * 2))) := by rw [hr'.cell, cellsF_at f (by omega)]
      have s2 : wr.cell? ⟨w.heap.size, k * 2 + 1, none⟩ = some (.int .i64 (f (k * 2 + 1))) := by rw [hr'.cell, cellsF_at f (by omega)]
      have f1 := hr'.free (k * 2)
      have f2 := hr'.free (k * 2 + 1)
      clear e1 e2 e3 e4 hd' hr
      go_wp2
      refine wp_region_quiet_tail 24 (by kernel_rfl) (by kernel_rfl) ?_
      simp only [List.take_succ_cons, List.take_zero, List.drop_succ_cons, List.drop_zero]
      repeat go_big_quiet_step ((fail))
      refine wpQuiet_nil ?_
      rintro _ ⟨nq, rfl⟩
      go_wp2
      go_roundw
      case rel =>
        have h5 := (((hr'.alloc (.cells #[.int .i64 a, .int .i64 b2] 67)).drewN nq).set (k * 2) (.int .i64 (H a b2))).set (k * 2 + 1) (.int .i64 (H b2 a))
        rw [cellsF_set, cellsF_set] at h5
        refine ⟨k + 1, _, by omega, by go_num, fun j hj => ?_, fun _ => h5, ?_⟩
        · by_cases h : j = k
          · subst h; rw [HA.out, HB.out]; simp [upd]
          · have := HS.out j (by omega)
            unfold upd
            rw [if_neg (by omega), if_neg (by omega), if_neg (by omega), if_neg (by omega)]; exact this
        · (repeat (first | exact Below.refl _ _ | assumption | (refine Below.setCell ?_ (by first | exact Nat.le_refl _ | omega | (simp; done) | (simp; omega)) _) | (refine Below.trans ?_ (below_drewN _)) | (refine Below.drew ?_) | (refine Below.alloc ?_ (by first | exact Nat.le_refl _ | omega | (simp; done) | (simp; omega)) _) | (refine below_row ?_ (by first | exact Nat.le_refl _ | omega | (simp; done) | (simp; omega)) _)))
      case measure => simp [intOf]; omega
    · obtain rfl : k = es.length := by omega
      go_wp2
      go_ret
      exact ⟨f, HS.out, rfl, hr, hbr⟩
end Go.Proofs.Ytmfpegadcecknaa
