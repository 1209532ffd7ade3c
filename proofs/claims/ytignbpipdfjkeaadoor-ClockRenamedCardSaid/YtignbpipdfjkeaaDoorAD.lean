/- Machines as lists of numbers, and the memory that holds one. -/
import Derived.Test.YtignbpipdfjkeaaDoorAC
namespace Go.Proofs.YtignbpipdfjkeaaDoor
open Go.RowKit
set_option maxHeartbeats 1000000
set_option maxRecDepth 100000
/-- Lists of numbers, one behind the other. -/
def getl (L : List (List Int)) (k : Nat) : List Int := L.getD k []
def RowsAt (w : World) (A : Option Addr) (L : List (List Int)) : Prop :=
  0 < L.length → ∃ b o, A = some ⟨b, o, none⟩ ∧ b < w.heap.size ∧ ∀ i, i < L.length → ∃ B c, w.cell? ⟨b, o + i, none⟩ = some (.slice B (getl L i).length c) ∧ IntsAt w B (getl L i)
theorem RowsAt.below {w w' : World} {A : Option Addr} {L : List (List Int)} (h : RowsAt w A L) (hg : Below w.heap.size w w') : RowsAt w' A L := fun hp => by
  obtain ⟨b, o, e, hb, hc⟩ := h hp
  refine ⟨b, o, e, Nat.lt_of_lt_of_le hb hg.size, fun i hi => ?_⟩
  obtain ⟨B, c, h1, h2⟩ := hc i hi
  exact ⟨B, c, (hg.cell (p := ⟨b, _, none⟩) hb).trans h1, h2.below hg⟩
def gat (L : List (List Int)) (r c : Nat) : Int := geti (getl L r) c
theorem geti_ge {l : List Int} {i : Nat} (h : l.length ≤ i) : geti l i = 0 := by
  unfold geti; rw [List.getD_eq_getElem?_getD, List.getElem?_eq_none h]; rfl
theorem getl_ge {L : List (List Int)} {i : Nat} (h : L.length ≤ i) : getl L i = [] := by
  unfold getl; rw [List.getD_eq_getElem?_getD, List.getElem?_eq_none h]; rfl
/-- The number of states. -/
def nS (L : List (List Int)) : Nat := (getl L 0).length
structure IsMI (L : List (List Int)) : Prop where
  k1 : 1 ≤ L.length
  k4 : L.length ≤ 4
  n1 : 1 ≤ nS L
  n9 : nS L ≤ 9
  row : ∀ i, i < L.length → (getl L i).length = nS L
  lo : ∀ i k, i < L.length → k < nS L → 0 ≤ gat L i k
  hi : ∀ i k, i < L.length → k < nS L → gat L i k < nS L
def okM (L : List (List Int)) : Bool := decide (1 ≤ L.length) && decide (L.length ≤ 4) && decide (1 ≤ nS L) && decide (nS L ≤ 9) && (List.range L.length).all fun i => decide ((getl L i).length = nS L) && (List.range (nS L)).all fun k => decide (0 ≤ gat L i k) && decide (gat L i k < nS L)
theorem okM_iff {L : List (List Int)} : okM L = true ↔ IsMI L := by
  unfold okM
  simp only [Bool.and_eq_true, decide_eq_true_eq, List.all_eq_true, List.mem_range]
  constructor
  · rintro ⟨⟨⟨⟨h1, h2⟩, h3⟩, h4⟩, h5⟩
    exact ⟨h1, h2, h3, h4, fun i hi => (h5 i hi).1, fun i k hi hk => ((h5 i hi).2 k hk).1, fun i k hi hk => ((h5 i hi).2 k hk).2⟩
  · intro h
    exact ⟨⟨⟨⟨h.k1, h.k4⟩, h.n1⟩, h.n9⟩, fun i hi => ⟨h.row i hi, fun k hk => ⟨h.lo i k hi hk, h.hi i k hi hk⟩⟩⟩
theorem IsMI.zero {L : List (List Int)} (h : IsMI L) {r c : Nat} (hrc : L.length ≤ r ∨ nS L ≤ c) : gat L r c = 0 := by
  unfold gat
  by_cases hr : r < L.length
  · exact geti_ge (by rw [h.row r hr]; omega)
  · rw [getl_ge (by omega)]; rfl
theorem IsMI.bd {L : List (List Int)} (h : IsMI L) (r c : Nat) : 0 ≤ gat L r c ∧ gat L r c < 9 := by
  have := h.n9
  by_cases hr : r < L.length
  · by_cases hc : c < nS L
    · have h1 := h.lo r c hr hc; have h2 := h.hi r c hr hc; omega
    · rw [h.zero (.inr (by omega))]; omega
  · rw [h.zero (.inl (by omega))]; omega
/-- The cells of a machine of which so many numbers are laid. -/
def mcP (L : List (List Int)) (m : Nat) : List Int := (nS L : Int) :: (L.length : Int) :: (List.range 36).map fun k => if k < m then gat L (k / 9) (k % 9) else 0
def mc (L : List (List Int)) : List Int := mcP L 36
theorem mcP_len (L : List (List Int)) (m : Nat) : (mcP L m).length = 38 := by simp [mcP]
theorem mcP_n (L : List (List Int)) (m : Nat) : geti (mcP L m) 0 = nS L := rfl
theorem mcP_k (L : List (List Int)) (m : Nat) : geti (mcP L m) 1 = L.length := rfl
theorem mcP_at (L : List (List Int)) (m : Nat) {k : Nat} (h : k < 36) : geti (mcP L m) (2 + k) = if k < m then gat L (k / 9) (k % 9) else 0 := by
  unfold mcP geti
  rw [Nat.add_comm, List.getD_cons_succ, List.getD_cons_succ, List.getD_eq_getElem?_getD, List.getElem?_map, List.getElem?_range h]; rfl
theorem mc_at (L : List (List Int)) {r c : Nat} (hr : r < 4) (hc : c < 9) : geti (mc L) (2 + (r * 9 + c)) = gat L r c := by
  unfold mc
  rw [mcP_at L 36 (by omega), if_pos (by omega), show (r * 9 + c) / 9 = r by omega, show (r * 9 + c) % 9 = c by omega]
theorem geti_set {xs : List Int} {i j : Nat} {x : Int} (h : i < xs.length) : geti (xs.set i x) j = if i = j then x else geti xs j := by
  unfold geti
  rw [List.getD_eq_getElem?_getD, List.getD_eq_getElem?_getD, List.getElem?_set]
  by_cases e : i = j
  · subst e; rw [if_pos rfl, if_pos rfl, if_pos h]; rfl
  · rw [if_neg e, if_neg e]
theorem mcP_ext {L : List (List Int)} {ys : List Int} {m : Nat} (hl : ys.length = 38) (h0 : geti ys 0 = nS L) (h1 : geti ys 1 = L.length) (h : ∀ k, k < 36 → geti ys (2 + k) = if k < m then gat L (k / 9) (k % 9) else 0) : ys = mcP L m := by
  refine ext_geti (by rw [hl, mcP_len]) (fun i hi => ?_)
  rw [hl] at hi
  match i, hi with
  | 0, _ => rw [h0, mcP_n]
  | 1, _ => rw [h1, mcP_k]
  | i + 2, hi => rw [Nat.add_comm i 2, h i (by omega), mcP_at L m (by omega)]
theorem mcP_step (L : List (List Int)) {m : Nat} (h : m < 36) : (mcP L m).set (2 + m) (gat L (m / 9) (m % 9)) = mcP L (m + 1) := by
  have hl := mcP_len L m
  refine mcP_ext (by rw [List.length_set, hl]) ?_ ?_ (fun k hk => ?_)
  · rw [geti_set (by rw [hl]; omega), if_neg (by omega), mcP_n]
  · rw [geti_set (by rw [hl]; omega), if_neg (by omega), mcP_k]
  · rw [geti_set (by rw [hl]; omega)]
    by_cases e : m = k
    · subst e; rw [if_pos rfl, if_pos (by omega)]
    · rw [if_neg (by omega), mcP_at L m hk]
      by_cases e2 : k < m
      · rw [if_pos e2, if_pos (by omega)]
      · rw [if_neg e2, if_neg (by omega)]
theorem mcP_skip (L : List (List Int)) {m m2 : Nat} (hm : m ≤ m2) (h : ∀ k, m ≤ k → k < m2 → gat L (k / 9) (k % 9) = 0) : mcP L m = mcP L m2 := by
  refine mcP_ext (mcP_len L m) (mcP_n L m) (mcP_k L m) (fun k hk => ?_)
  rw [mcP_at L m hk]
  by_cases e : k < m
  · rw [if_pos e, if_pos (by omega)]
  · rw [if_neg e]
    by_cases e2 : k < m2
    · rw [if_pos e2, h k (by omega) e2]
    · rw [if_neg e2]
theorem mcP_rowEnd {L : List (List Int)} {r : Nat} (h : (getl L r).length = nS L) (hl : nS L ≤ 9) : mcP L (r * 9 + nS L) = mcP L ((r + 1) * 9) := by
  refine mcP_skip L (by omega) (fun k h1 h2 => ?_)
  rw [show k / 9 = r by omega]
  exact geti_ge (by omega)
theorem mcP_end {L : List (List Int)} (hl : L.length ≤ 4) : mcP L (L.length * 9) = mc L := by
  refine mcP_skip L (by omega) (fun k h1 h2 => ?_)
  unfold gat
  rw [getl_ge (by omega)]; rfl
theorem mcP_zero (L : List (List Int)) : mcP L 0 = (nS L : Int) :: (L.length : Int) :: List.replicate 36 0 := by
  unfold mcP
  congr 2
theorem info76 : (Tryd.prog.info? 76).map (·.size) = some 38 := by kernel_rfl
theorem ivR {w : World} {g : Nat} {t : TypeId} {xs : List Int} (h : Row w g t (iv xs)) {i : Nat} (hi : i < xs.length) : w.cell? ⟨g, i, none⟩ = some (.int .i64 (geti xs i)) := by
  rw [h.cell, iv, List.getElem?_map, List.getElem?_eq_getElem hi, geti_eq hi]; rfl
theorem iv_set {xs : List Int} {i : Nat} {x : Int} : (iv xs).set i (.int .i64 x) = iv (xs.set i x) := by unfold iv; rw [List.map_set]
theorem iv_all (xs : List Int) : (iv xs).toArray.all (·.oneCell') = true := by simp [iv, Value.oneCell']
theorem info76_iv {x : List Int} (h : x.length = 38) : (Tryd.prog.info? 76).map (·.size) = some (iv x).toArray.size := by rw [List.size_toArray, iv_len, h]; exact info76
theorem size76_iv {x y : List Int} (h : x.length = 38) (h2 : y.length = 38) : (iv x).toArray.size = (iv y).toArray.size := by rw [List.size_toArray, List.size_toArray, iv_len, iv_len, h, h2]
theorem res1 {P : Program} {F : Func} {tm : Array Value} {i k : Nat} {t : TypeId} {v : Value} {W : World} (hF : F.results = #[ResultVar.cell i t]) (h0 : tm.getD i undef = .pointer (some ⟨k, 0, none⟩))
    (hl : (loadVar t ⟨k, 0, none⟩).run P W = .ok v W) : (results F tm).run P W = .ok v W := by
  have h0' : tm[i]?.getD undef = .pointer (some ⟨k, 0, none⟩) := by simpa using h0
  simp [results, hF, h0', asAddr, hl]
theorem res2 {P : Program} {F : Func} {tm : Array Value} {i j k : Nat} {t : TypeId} {v u : Value} {W : World} (hF : F.results = #[ResultVar.cell i t, ResultVar.tmp j]) (h0 : tm.getD i undef = .pointer (some ⟨k, 0, none⟩)) (h1 : tm.getD j undef = u)
    (hl : (loadVar t ⟨k, 0, none⟩).run P W = .ok v W) : (results F tm).run P W = .ok (.tuple #[v, u]) W := by
  have h0' : tm[i]?.getD undef = .pointer (some ⟨k, 0, none⟩) := by simpa using h0
  have h1' : tm[j]?.getD undef = u := by simpa using h1
  simp [results, hF, h0', h1', asAddr, hl]
theorem cell_res76 {W : World} {k : Nat} {x : List Int} (h : x.length = 38) (hr : Row W k 76 (iv x)) : (loadVar 76 ⟨k, 0, none⟩).run Tryd.prog W = .ok (.agg (iv x).toArray) W :=
  run_loadVar_row (P := Tryd.prog) W k 76 76 (iv x).toArray (0, 0) _ hr Tryd.underlying76 rfl (info76_iv h)
/-- Is it a state? -/
def isQ (n : Nat) (x : Int) : Bool := decide (0 ≤ x) && decide (x < n)
theorem isState_any (M : List Int) (n : Nat) (q : Int) (w : World) (hl : M.length = 38) (hn : geti M 0 = n) :
    Calls Tryd.prog 59 #[.agg (iv M).toArray, .int .i64 q] w fun e w' => e = .returned (.bool (isQ n q)) ∧ ∃ k, w' = (w.alloc (.cells (iv M).toArray 76)).drewN k := by
  have r0 : Row (w.alloc (.cells (iv M).toArray 76)) w.heap.size 76 (iv M) := row_new rfl
  have c0 := ivR r0 (i := 0) (by omega)
  rw [hn] at c0
  clear r0 hn hl
  have H1 : Hid (isQ n q = (decide (0 ≤ q) && decide (q < n))) := Lib.hid rfl
  go_enter Tryd.func59, Tryd.ntmps59
  by_cases hq : 0 ≤ q
  · have g0 : decide (0 ≤ q) = true := decide_eq_true hq
    go_wp2
    go_ret
    exact ⟨ret_bool (by rw [H1.out, g0, Bool.true_and]), 0, rfl⟩
  · have g0 : decide (0 ≤ q) = false := decide_eq_false hq
    go_wp2
    go_ret
    exact ⟨ret_bool (by rw [H1.out, g0, Bool.false_and]), 0, rfl⟩
end Go.Proofs.YtignbpipdfjkeaaDoor
