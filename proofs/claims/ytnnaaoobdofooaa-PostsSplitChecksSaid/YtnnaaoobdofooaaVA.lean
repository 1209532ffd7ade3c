/- Layers: what they leave of a table. -/
import Derived.Test.YtnnaaoobdofooaaTM
import Derived.Test.YtnnaaoobdofooaaSE
namespace Go.Proofs.Ytnnaaoobdofooaa
open Go.RowKit
set_option maxHeartbeats 1000000
set_option maxRecDepth 100000
abbrev Lay := Int × List Int
def laW (ls : List Lay) (i : Nat) : Int := (ls.getD i (0, [])).1
def laC (ls : List Lay) (i : Nat) : List Int := (ls.getD i (0, [])).2
/-- So many rows bear the weight. -/
def brs (K : List (List Int)) (wt : Int) (xs : List Int) : Nat → Bool
  | 0 => true
  | k + 1 => brs K wt xs k && !decide (gat K k (geti xs k).toNat < wt)
/-- The weight is taken from so many rows. -/
def subP (K : List (List Int)) (wt : Int) (xs : List Int) : Nat → List (List Int)
  | 0 => K
  | k + 1 => setT (subP K wt xs k) k (geti xs k).toNat (gat (subP K wt xs k) k (geti xs k).toNat - wt)
def layOk (K : List (List Int)) (l : Lay) : Bool := !decide (l.1 < 1) && colsOk K.length l.2 && brs K l.1 l.2 K.length
def zerB (K : List (List Int)) : Bool := (List.range K.length).all fun r => (List.range K.length).all fun c => decide (gat K r c = 0)
def splB : List (List Int) → List Lay → Bool
  | K, [] => zerB K
  | K, l :: ls => layOk K l && splB (subP K l.1 l.2 K.length) ls
def splA (T : List (List Int)) (ls : List Lay) : Bool := decide (ls.length ≤ 100) && splB T ls
theorem splB_at {K : List (List Int)} {ls : List Lay} {k : Nat} (hk : k < ls.length) : splB K (ls.drop k) = (layOk K (laW ls k, laC ls k) && splB (subP K (laW ls k) (laC ls k) K.length) (ls.drop (k + 1))) := by
  rw [List.drop_eq_getElem_cons hk]
  have e : ls.getD k (0, []) = ls[k] := by rw [List.getD_eq_getElem?_getD, List.getElem?_eq_getElem hk]; rfl
  unfold laW laC
  rw [e]; rfl
theorem splB_end {K : List (List Int)} {ls : List Lay} {k : Nat} (hk : ls.length ≤ k) : splB K (ls.drop k) = zerB K := by rw [List.drop_of_length_le hk]; rfl
theorem subP_len (K : List (List Int)) (wt : Int) (xs : List Int) : ∀ k, (subP K wt xs k).length = K.length
  | 0 => rfl
  | k + 1 => by unfold subP; rw [setT_len]; exact subP_len K wt xs k
theorem cols_at {n : Nat} {xs : List Int} (h : colsOk n xs = true) {r : Nat} (hr : r < n) : 0 ≤ geti xs r ∧ geti xs r < n := by
  unfold colsOk at h
  simp only [Bool.and_eq_true, decide_eq_true_eq] at h
  exact cg_at h.1 (by omega)
theorem cols_len {n : Nat} {xs : List Int} (h : colsOk n xs = true) : xs.length = n := by
  unfold colsOk at h
  simp only [Bool.and_eq_true, decide_eq_true_eq] at h
  exact h.2
theorem subP_row {K : List (List Int)} (hK : ∀ r, r < K.length → (getl K r).length = K.length) (wt : Int) (xs : List Int) : ∀ k, k ≤ K.length → ∀ r, r < K.length → (getl (subP K wt xs k) r).length = K.length
  | 0, _, r, hr => hK r hr
  | k + 1, hk, r, hr => by
    have ih := subP_row hK wt xs k (by omega)
    unfold subP
    rw [getl_setT (by rw [subP_len]; omega)]
    split
    · rw [List.length_set]; exact ih k (by omega)
    · exact ih r hr
theorem subP_gat {K : List (List Int)} {wt : Int} {xs : List Int} (hK : ∀ r, r < K.length → (getl K r).length = K.length) (hc : colsOk K.length xs = true) : ∀ k, k ≤ K.length → ∀ r c, gat (subP K wt xs k) r c = if r < k ∧ (geti xs r).toNat = c then gat K r c - wt else gat K r c
  | 0, _, r, c => by rw [if_neg (by omega)]; rfl
  | k + 1, hk, r, c => by
    have ih := subP_gat (wt := wt) hK hc k (by omega)
    have hx := cols_at hc (r := k) (by omega)
    unfold subP
    rw [gat_setT (by rw [subP_len]; omega) (by rw [subP_row hK wt xs k (by omega) k (by omega)]; omega), ih, ih]
    by_cases e : k = r ∧ (geti xs k).toNat = c
    · obtain ⟨rfl, rfl⟩ := e
      rw [if_pos ⟨rfl, rfl⟩, if_neg (by omega), if_pos ⟨by omega, rfl⟩]
    · rw [if_neg e]
      by_cases e2 : r < k ∧ (geti xs r).toNat = c
      · rw [if_pos e2, if_pos ⟨by omega, e2.2⟩]
      · rw [if_neg e2, if_neg (fun h => by
          by_cases hrk : r = k
          · subst hrk; exact e ⟨rfl, h.2⟩
          · exact e2 ⟨by omega, h.2⟩)]
theorem subP_own {K : List (List Int)} {wt : Int} {xs : List Int} (hK : ∀ r, r < K.length → (getl K r).length = K.length) (hc : colsOk K.length xs = true) {k : Nat} (hk : k < K.length) : gat (subP K wt xs k) k (geti xs k).toNat = gat K k (geti xs k).toNat := by
  rw [subP_gat hK hc k (by omega), if_neg (by omega)]
theorem brs_mono {K : List (List Int)} {wt : Int} {xs : List Int} {k : Nat} (h : brs K wt xs k = false) : ∀ d, brs K wt xs (k + d) = false
  | 0 => h
  | d + 1 => by
    show (brs K wt xs (k + d) && _) = false
    rw [brs_mono h d]; rfl
theorem brs_no {K : List (List Int)} {wt : Int} {xs : List Int} {k n : Nat} (hk : k < n) (h : gat K k (geti xs k).toNat < wt) : brs K wt xs n = false := by
  have h1 : brs K wt xs (k + 1) = false := by unfold brs; rw [decide_eq_true h]; simp
  have := brs_mono h1 (n - (k + 1))
  rwa [show k + 1 + (n - (k + 1)) = n by omega] at this
theorem brs_yes {K : List (List Int)} {wt : Int} {xs : List Int} {k : Nat} (h0 : brs K wt xs k = true) (h : ¬ gat K k (geti xs k).toNat < wt) : brs K wt xs (k + 1) = true := by
  unfold brs
  rw [h0, decide_eq_false h]; rfl
theorem brs_at {K : List (List Int)} {wt : Int} {xs : List Int} : ∀ {k j : Nat}, brs K wt xs k = true → j < k → wt ≤ gat K j (geti xs j).toNat
  | k + 1, j, h, hj => by
    unfold brs at h
    simp only [Bool.and_eq_true, Bool.not_eq_true', decide_eq_false_iff_not] at h
    by_cases e : j = k
    · subst e; omega
    · exact brs_at h.1 (by omega)
theorem layOk_parts {K : List (List Int)} {wt : Int} {xs : List Int} (h : layOk K (wt, xs) = true) : 1 ≤ wt ∧ colsOk K.length xs = true ∧ brs K wt xs K.length = true := by
  unfold layOk at h
  simp only [Bool.and_eq_true, Bool.not_eq_true', decide_eq_false_iff_not] at h
  exact ⟨by omega, h.1.2, h.2⟩
theorem subP_isT {K : List (List Int)} (hK : IsT K) {wt : Int} {xs : List Int} (h1 : 1 ≤ wt) (hc : colsOk K.length xs = true) (hb : brs K wt xs K.length = true) {k : Nat} (hk : k ≤ K.length) : IsT (subP K wt xs k) := okT_iff.1 (okT_all (by rw [subP_len]; exact hK.le) (fun r hr => by
  rw [subP_len] at hr ⊢
  refine ⟨subP_row hK.row wt xs k hk r hr, fun c hc2 => ?_⟩
  rw [subP_gat hK.row hc k hk]
  have h3 := hK.bd r c
  split
  · rename_i e
    have := brs_at hb (show r < K.length by omega)
    rw [e.2] at this
    omega
  · omega))
theorem grd_set {L : List (List Int)} (hl : L.length ≤ 10) {r c : Nat} (hr : r < L.length) (hc : c < (getl L r).length) (hrow : (getl L r).length ≤ 10) (x : Int) : (iv (grd L)).set (1 + r * 10 + c) (.int .i64 x) = iv (grd (setT L r c x)) := by
  rw [iv_set]
  congr 1
  refine ext_geti (by unfold grd; rw [List.length_set, grdP_len, grdP_len]) (fun i hi => ?_)
  unfold grd at hi ⊢
  rw [List.length_set, grdP_len] at hi
  rw [geti_set (by rw [grdP_len]; omega)]
  cases i with
  | zero =>
    rw [if_neg (by omega), grdP_n, grdP_n, setT_len]
  | succ i =>
    have hi9 : i < 100 := by omega
    rw [Nat.add_comm i 1, grdP_at L 100 hi9, grdP_at (setT L r c x) 100 hi9, if_pos hi9, if_pos hi9, gat_setT hr hc]
    by_cases e : r = i / 10 ∧ c = i % 10
    · rw [if_pos e, if_pos (by omega)]
    · rw [if_neg e, if_neg (by omega)]
/-- The grid that is left empty. -/
def zgrd (n : Nat) : List Int := (n : Int) :: List.replicate 100 0
theorem zer_grd {K : List (List Int)} (h : IsT K) : decide (grd K = zgrd K.length) = zerB K := by
  rw [Bool.eq_iff_iff]
  unfold zerB
  simp only [decide_eq_true_eq, List.all_eq_true, List.mem_range]
  have hl := h.le
  have hz : ∀ k, k < 100 → geti (zgrd K.length) (1 + k) = 0 := fun k hk => by
    unfold zgrd geti
    rw [Nat.add_comm, List.getD_cons_succ, List.getD_eq_getElem?_getD, List.getElem?_replicate, if_pos hk]; rfl
  constructor
  · intro e r hr c hc
    have h1 := grd_at K (r := r) (c := c) (by omega) (by omega)
    rw [e, hz _ (by omega)] at h1
    exact h1.symm
  · intro hall
    refine ext_geti (by unfold grd zgrd; rw [grdP_len]; simp) (fun i hi => ?_)
    unfold grd at hi
    rw [grdP_len] at hi
    cases i with
    | zero => rfl
    | succ i =>
      rw [Nat.add_comm i 1, hz i (by omega)]
      unfold grd
      rw [grdP_at K 100 (by omega), if_pos (by omega)]
      by_cases hr : i / 10 < K.length
      · by_cases hc : i % 10 < K.length
        · exact hall _ hr _ hc
        · exact h.zero (Or.inr (by omega))
      · exact h.zero (Or.inl (by omega))
end Go.Proofs.Ytnnaaoobdofooaa
