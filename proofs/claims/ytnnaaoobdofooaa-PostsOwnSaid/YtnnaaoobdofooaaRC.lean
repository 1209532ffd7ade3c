/- Tables, and grids that have them. -/
import Derived.Test.YtnnaaoobdofooaaRB
namespace Go.Proofs.Ytnnaaoobdofooaa
open Go.RowKit
set_option maxHeartbeats 1000000
set_option maxRecDepth 100000
/-- Lists of numbers, one behind the other. -/
def getl (L : List (List Int)) (k : Nat) : List Int := L.getD k []
def RowsAt (w : World) (A : Option Addr) (L : List (List Int)) : Prop :=
  0 < L.length → ∃ b o, A = some ⟨b, o, none⟩ ∧ b < w.heap.size ∧ ∀ i, i < L.length → ∃ B c, w.cell? ⟨b, o + i, none⟩ = some (.slice B (getl L i).length c) ∧ IntsAt w B (getl L i)
theorem RowsAt.below {w w' : World} {A : Option Addr} {L : List (List Int)} (h : RowsAt w A L) (hg : Below w.heap.size w w') : RowsAt w' A L := fun hp => by
  obtain ⟨b, o, e, hb, hc⟩ := h hp
  refine ⟨b, o, e, Nat.lt_of_lt_of_le hb hg.size, fun i hi => ?_⟩
  obtain ⟨B, c, h1, h2⟩ := hc i hi
  exact ⟨B, c, (hg.cell (p := ⟨b, _, none⟩) hb).trans h1, h2.below hg⟩
/-- The number in a row and a column. -/
def gat (L : List (List Int)) (r c : Nat) : Int := geti (getl L r) c
theorem geti_ge {l : List Int} {i : Nat} (h : l.length ≤ i) : geti l i = 0 := by
  unfold geti; rw [List.getD_eq_getElem?_getD, List.getElem?_eq_none h]; rfl
theorem getl_ge {L : List (List Int)} {i : Nat} (h : L.length ≤ i) : getl L i = [] := by
  unfold getl; rw [List.getD_eq_getElem?_getD, List.getElem?_eq_none h]; rfl
structure IsT (L : List (List Int)) : Prop where
  le : L.length ≤ 10
  row : ∀ i, i < L.length → (getl L i).length = L.length
  lo : ∀ i k, i < L.length → k < L.length → 0 ≤ gat L i k
  hi : ∀ i k, i < L.length → k < L.length → gat L i k ≤ 9
def okT (L : List (List Int)) : Bool := decide (L.length ≤ 10) && (List.range L.length).all fun i => decide ((getl L i).length = L.length) && (List.range L.length).all fun k => decide (0 ≤ gat L i k) && decide (gat L i k ≤ 9)
theorem okT_iff {L : List (List Int)} : okT L = true ↔ IsT L := by
  unfold okT
  simp only [Bool.and_eq_true, decide_eq_true_eq, List.all_eq_true, List.mem_range]
  constructor
  · rintro ⟨h1, h2⟩
    exact ⟨h1, fun i hi => (h2 i hi).1, fun i k hi hk => ((h2 i hi).2 k hk).1, fun i k hi hk => ((h2 i hi).2 k hk).2⟩
  · intro h
    exact ⟨h.le, fun i hi => ⟨h.row i hi, fun k hk => ⟨h.lo i k hi hk, h.hi i k hi hk⟩⟩⟩
theorem IsT.zero {L : List (List Int)} (h : IsT L) {r c : Nat} (hrc : L.length ≤ r ∨ L.length ≤ c) : gat L r c = 0 := by
  unfold gat
  by_cases hr : r < L.length
  · exact geti_ge (by rw [h.row r hr]; omega)
  · rw [getl_ge (by omega)]; rfl
theorem IsT.bd {L : List (List Int)} (h : IsT L) (r c : Nat) : 0 ≤ gat L r c ∧ gat L r c ≤ 9 := by
  by_cases hr : r < L.length
  · by_cases hc : c < L.length
    · exact ⟨h.lo r c hr hc, h.hi r c hr hc⟩
    · rw [h.zero (.inr (by omega))]; omega
  · rw [h.zero (.inl (by omega))]; omega
/-- The cells of a grid of which so many numbers are laid. -/
def grdP (L : List (List Int)) (m : Nat) : List Int := (L.length : Int) :: (List.range 100).map fun k => if k < m then gat L (k / 10) (k % 10) else 0
def grd (L : List (List Int)) : List Int := grdP L 100
theorem grdP_len (L : List (List Int)) (m : Nat) : (grdP L m).length = 101 := by simp [grdP]
theorem grdP_n (L : List (List Int)) (m : Nat) : geti (grdP L m) 0 = L.length := rfl
theorem grdP_at (L : List (List Int)) (m : Nat) {k : Nat} (h : k < 100) : geti (grdP L m) (1 + k) = if k < m then gat L (k / 10) (k % 10) else 0 := by
  unfold grdP geti
  rw [Nat.add_comm, List.getD_cons_succ, List.getD_eq_getElem?_getD, List.getElem?_map, List.getElem?_range h]; rfl
theorem grd_at (L : List (List Int)) {r c : Nat} (hr : r < 10) (hc : c < 10) : geti (grd L) (1 + (r * 10 + c)) = gat L r c := by
  unfold grd
  rw [grdP_at L 100 (by omega), if_pos (by omega), show (r * 10 + c) / 10 = r by omega, show (r * 10 + c) % 10 = c by omega]
theorem geti_set {xs : List Int} {i j : Nat} {x : Int} (h : i < xs.length) : geti (xs.set i x) j = if i = j then x else geti xs j := by
  unfold geti
  rw [List.getD_eq_getElem?_getD, List.getD_eq_getElem?_getD, List.getElem?_set]
  by_cases e : i = j
  · subst e; rw [if_pos rfl, if_pos rfl, if_pos h]; rfl
  · rw [if_neg e, if_neg e]
theorem grdP_step (L : List (List Int)) {m : Nat} (h : m < 100) : (grdP L m).set (1 + m) (gat L (m / 10) (m % 10)) = grdP L (m + 1) := by
  refine ext_geti (by rw [List.length_set, grdP_len, grdP_len]) (fun i hi => ?_)
  rw [List.length_set, grdP_len] at hi
  rw [geti_set (by rw [grdP_len]; omega)]
  cases i with
  | zero => rw [if_neg (by omega), grdP_n, grdP_n]
  | succ i =>
    rw [Nat.add_comm i 1, grdP_at L m (by omega), grdP_at L (m + 1) (by omega)]
    by_cases e : m = i
    · subst e; rw [if_pos rfl, if_pos (by omega)]
    · rw [if_neg (by omega)]
      by_cases e2 : i < m
      · rw [if_pos e2, if_pos (by omega)]
      · rw [if_neg e2, if_neg (by omega)]
theorem grdP_skip (L : List (List Int)) {m m2 : Nat} (hm : m ≤ m2) (h : ∀ k, m ≤ k → k < m2 → gat L (k / 10) (k % 10) = 0) : grdP L m = grdP L m2 := by
  refine ext_geti (by rw [grdP_len, grdP_len]) (fun i hi => ?_)
  rw [grdP_len] at hi
  cases i with
  | zero => rfl
  | succ i =>
    rw [Nat.add_comm i 1, grdP_at L m (by omega), grdP_at L m2 (by omega)]
    by_cases e : i < m
    · rw [if_pos e, if_pos (by omega)]
    · rw [if_neg e]
      by_cases e2 : i < m2
      · rw [if_pos e2, h i (by omega) e2]
      · rw [if_neg e2]
theorem grdP_rowEnd {L : List (List Int)} {r : Nat} (h : (getl L r).length = L.length) (hl : L.length ≤ 10) : grdP L (r * 10 + L.length) = grdP L ((r + 1) * 10) := by
  refine grdP_skip L (by omega) (fun k h1 h2 => ?_)
  rw [show k / 10 = r by omega]
  exact geti_ge (by omega)
theorem grdP_end {L : List (List Int)} (hl : L.length ≤ 10) : grdP L (L.length * 10) = grd L := by
  refine grdP_skip L (by omega) (fun k h1 h2 => ?_)
  unfold gat
  rw [getl_ge (by omega)]; rfl
theorem grdP_zero (L : List (List Int)) : grdP L 0 = (L.length : Int) :: List.replicate 100 0 := by
  unfold grdP
  congr 1
theorem info73 : (Try.prog.info? 73).map (·.size) = some 101 := by kernel_rfl
def Z101 : List Value := iv (List.replicate 101 0)
theorem ivR {w : World} {g : Nat} {t : TypeId} {xs : List Int} (h : Row w g t (iv xs)) {i : Nat} (hi : i < xs.length) : w.cell? ⟨g, i, none⟩ = some (.int .i64 (geti xs i)) := by
  rw [h.cell, iv, List.getElem?_map, List.getElem?_eq_getElem hi, geti_eq hi]; rfl
theorem iv_set {xs : List Int} {i : Nat} {x : Int} : (iv xs).set i (.int .i64 x) = iv (xs.set i x) := by unfold iv; rw [List.map_set]
theorem z73 : Try.zeroCells73 = (iv (List.replicate 101 0)).toArray := by kernel_rfl
theorem iv_all (xs : List Int) : (iv xs).toArray.all (·.oneCell') = true := by simp [iv, Value.oneCell']
theorem info73_iv {x : List Int} (h : x.length = 101) : (Try.prog.info? 73).map (·.size) = some (iv x).toArray.size := by rw [List.size_toArray, iv_len, h]; exact info73
theorem size73_iv {x y : List Int} (h : x.length = 101) (h2 : y.length = 101) : (iv x).toArray.size = (iv y).toArray.size := by rw [List.size_toArray, List.size_toArray, iv_len, iv_len, h, h2]
theorem z73_set (L : List (List Int)) : (iv (List.replicate 101 0)).toArray.setIfInBounds 0 (.int .i64 (L.length : Int)) = (iv (grdP L 0)).toArray := by
  rw [grdP_zero, List.setIfInBounds_toArray, iv_set]; rfl
theorem res1 {P : Program} {F : Func} {tm : Array Value} {i k : Nat} {t : TypeId} {v : Value} {W : World} (hF : F.results = #[ResultVar.cell i t]) (h0 : tm.getD i undef = .pointer (some ⟨k, 0, none⟩))
    (hl : (loadVar t ⟨k, 0, none⟩).run P W = .ok v W) : (results F tm).run P W = .ok v W := by
  have h0' : tm[i]?.getD undef = .pointer (some ⟨k, 0, none⟩) := by simpa using h0
  simp [results, hF, h0', asAddr, hl]
theorem res2 {P : Program} {F : Func} {tm : Array Value} {i j k : Nat} {t : TypeId} {v u : Value} {W : World} (hF : F.results = #[ResultVar.cell i t, ResultVar.tmp j]) (h0 : tm.getD i undef = .pointer (some ⟨k, 0, none⟩)) (h1 : tm.getD j undef = u)
    (hl : (loadVar t ⟨k, 0, none⟩).run P W = .ok v W) : (results F tm).run P W = .ok (.tuple #[v, u]) W := by
  have h0' : tm[i]?.getD undef = .pointer (some ⟨k, 0, none⟩) := by simpa using h0
  have h1' : tm[j]?.getD undef = u := by simpa using h1
  simp [results, hF, h0', h1', asAddr, hl]
theorem cell_res73 {W : World} {k : Nat} {x : List Int} (h : x.length = 101) (hr : Row W k 73 (iv x)) : (loadVar 73 ⟨k, 0, none⟩).run Try.prog W = .ok (.agg (iv x).toArray) W :=
  run_loadVar_row (P := Try.prog) W k 73 73 (iv x).toArray (0, 0) _ hr Try.underlying73 rfl (info73_iv h)
theorem readTable_yes (A : Option Addr) (c : Nat) (L : List (List Int)) (w : World) (h : IsT L) (ha : RowsAt w A L) :
    Calls Try.prog 48 #[.slice A L.length c] w fun e w' => e = .returned (.tuple #[.agg (iv (grd L)).toArray, .bool true]) ∧ Below w.heap.size w w' := by
  have hle := h.le
  have HA := Lib.hid ha
  have hz : Try.zeroCells73.setIfInBounds 0 (.int .i64 (L.length : Int)) = (iv (grdP L 0)).toArray := by rw [z73]; exact z73_set L
  have r0 : Row ((w.alloc (.cells Try.zeroCells73 73)).alloc (.cells Try.zeroCells73 73)) w.heap.size 73 Try.zeroCells73.toList := (row_new rfl).alloc _
  have q0 : Row ((w.alloc (.cells Try.zeroCells73 73)).alloc (.cells Try.zeroCells73 73)) (w.heap.size + 1) 73 Try.zeroCells73.toList := row_new (by simp)
  have b0 : Below w.heap.size w ((w.alloc (.cells Try.zeroCells73 73)).alloc (.cells Try.zeroCells73 73)) := by (repeat (first | exact Below.refl _ _ | assumption | (refine Below.setCell ?_ (by first | exact Nat.le_refl _ | omega | (simp; done) | (simp; omega)) _) | (refine Below.trans ?_ (below_drewN _)) | (refine Below.drew ?_) | (refine Below.alloc ?_ (by first | exact Nat.le_refl _ | omega | (simp; done) | (simp; omega)) _) | (refine below_row ?_ (by first | exact Nat.le_refl _ | omega | (simp; done) | (simp; omega)) _)))
  have hi := info73_iv (grdP_len L 0)
  have hsz : Try.zeroCells73.toList.toArray.size = (iv (grdP L 0)).toArray.size := by rw [z73]; exact size73_iv (by simp) (grdP_len L 0)
  have HR := Lib.hid (fun r (hr : r < L.length) => grdP_rowEnd (h.row r hr) hle)
  have HE := Lib.hid (grdP_end hle)
  have HS := Lib.hid (fun m (hm : m < 100) => grdP_step L hm)
  have HB := Lib.hid (fun r c => h.bd r c)
  have HW := Lib.hid (fun r hr => h.row r hr)
  have HG0 := Lib.hid (fun m => grdP_n L m)
  have HC0 : Hid (∀ (W : World) (m : Nat), Row W (w.heap.size + 1) 73 (iv (grdP L m)) → W.cell? ⟨w.heap.size + 1, 0, none⟩ = some (.int .i64 (L.length : Int))) := Lib.hid (fun W m h => by have := ivR h (i := 0) (by rw [grdP_len]; omega); rwa [grdP_n] at this)
  have HGL := Lib.hid (fun m => grdP_len L m)
  clear ha h
  go_enter Try.func48, Try.ntmps48
  go_wp2_with (refine wpList_store_row rfl 73 (.tmp 4) (.tmp 11) rfl (w.heap.size + 1) (iv (grdP L 0)).toArray rfl rfl 73 Try.zeroCells73.toList.toArray (row_heap q0) hi hsz (iv_all _) ?_; replace q0 := q0.row (iv (grdP L 0)); replace b0 := below_row (g := w.heap.size + 1) b0 (by omega) (iv (grdP L 0)).toArray; replace r0 := r0.row_far (k := w.heap.size + 1) (by omega) (iv (grdP L 0)).toArray; generalize World.setRow (World.alloc _ _) _ _ = W at *; have c0 := HC0.out W 0 q0)
  clear hz hsz hi c0
  go_loopw [18] (fun i wr => ∃ r : Nat, r ≤ L.length ∧ i = .int .i64 r ∧ Row wr (w.heap.size + 1) 73 (iv (grdP L (r * 10))) ∧ Row wr w.heap.size 73 Try.zeroCells73.toList ∧ Below w.heap.size w wr) (fun i _ => L.length - (intOf i).toNat)
  case atStart => exact ⟨0, by omega, rfl, q0, r0, b0⟩
  case round =>
    clear q0 r0 b0
    obtain ⟨r, hr, rfl, q0, r0, b0⟩ := hrel
    by_cases hlt : r < L.length
    · obtain ⟨bA, oA, hAe, hbA, hcA⟩ := HA.out (by omega)
      subst hAe
      obtain ⟨B, cB, hcell, hrow⟩ := hcA r hlt
      have hw := HW.out r hlt
      rw [hw] at hcell
      replace hcell := (b0.cell (p := ⟨bA, _, none⟩) hbA).trans hcell
      have c0 := HC0.out wr _ q0
      have HI := Lib.hid hrow
      have HWW := Lib.hid hw
      have HRE := Lib.hid (HR.out r hlt)
      have HGA : Hid (∀ k, gat L r k = geti (getl L r) k) := Lib.hid (fun k => rfl)
      clear hcA hrow hw
      generalize getl L r = X at *
      go_wp2
      go_loopw [31] (fun i wr2 => ∃ k : Nat, k ≤ L.length ∧ i = .int .i64 k ∧ Row wr2 (w.heap.size + 1) 73 (iv (grdP L (r * 10 + k))) ∧ Row wr2 w.heap.size 73 Try.zeroCells73.toList ∧ Below w.heap.size w wr2) (fun i _ => L.length - (intOf i).toNat)
      case atStart => exact ⟨0, by omega, rfl, q0, r0, b0⟩
      case round =>
        clear q0 r0 b0 hcell c0 hbA
        obtain ⟨k, hk, rfl, q0, r0, b0⟩ := hrel
        by_cases hlk : k < L.length
        · obtain ⟨bX, oX, rfl, hbX, hcX⟩ := (HI.out.below b0) (by rw [HWW.out]; omega)
          have hx := hcX k (by rw [HWW.out]; exact hlk)
          have hst := HS.out (r * 10 + k) (by omega)
          have hbd := HB.out r k
          have f0 := q0.free (1 + r * 10 + k)
          have e0 := ivR q0 (i := 1 + r * 10 + k) (by rw [HGL.out]; omega)
          rw [show (r * 10 + k) / 10 = r by omega, show (r * 10 + k) % 10 = k by omega, HGA.out, ← Nat.add_assoc, Nat.add_assoc (r * 10) k 1] at hst
          rw [HGA.out] at hbd
          have HST := Lib.hid hst
          clear hst
          have hb2 := b0.size
          clear hcX
          generalize geti X k = x at *
          obtain ⟨hx0, hx9⟩ := hbd
          go_wp2
          go_roundw
          case rel =>
            refine ⟨k + 1, by omega, by go_num, ?_, r0.far (by dsimp only; omega) _, b0.setCell (by dsimp only; omega) _⟩
            have h := q0.set (1 + r * 10 + k) (.int .i64 x)
            rw [iv_set, HST.out] at h
            exact h
          case measure => simp [intOf]; omega
        · obtain rfl : k = L.length := by omega
          rw [HRE.out] at q0
          go_wp2
          go_roundw
          case rel => exact ⟨r + 1, by omega, by go_num, q0, r0, b0⟩
          case measure => simp [intOf]; omega
    · obtain rfl : r = L.length := by omega
      rw [HE.out] at q0
      have hi := info73_iv (x := grd L) (grdP_len L 100)
      have hsz : Try.zeroCells73.toList.toArray.size = (iv (grd L)).toArray.size := by rw [z73]; exact size73_iv (by simp) (grdP_len L 100)
      go_wp2_with (first
        | ((with_reducible refine (?_ : wpList _ _ _ (Oper.mk (some 51) _ _ _ _ _ :: _) _ _)); refine wpList_load_row rfl 73 (.tmp 4) rfl (w.heap.size + 1) rfl 73 (iv (grd L)).toArray (0, 0) _ (row_heap q0) Try.underlying73 rfl hi ?_)
        | ((with_reducible refine (?_ : wpList _ _ _ (Oper.mk none _ _ _ _ _ :: _) _ _)); refine wpList_store_row rfl 73 (.tmp 2) (.tmp 51) rfl w.heap.size (iv (grd L)).toArray rfl rfl 73 Try.zeroCells73.toList.toArray (row_heap r0) hi hsz (iv_all _) ?_))
      exact bodyPost_ret (v := .tuple #[.agg (iv (grd L)).toArray, .bool true]) (res2 Try.results48 rfl rfl (cell_res73 (grdP_len L 100) (r0.row _))) rfl ⟨rfl, below_row b0 (by omega) _⟩
end Go.Proofs.Ytnnaaoobdofooaa
