/- PostsExchanges, walked. -/
import Derived.Test.YtnnaaoobdofooaaUD
namespace Go.Proofs.Ytnnaaoobdofooaa
open Go.RowKit
set_option maxHeartbeats 1000000
set_option maxRecDepth 100000
theorem own_frm {w : World} {C n : Nat} {t : TypeId} {v : Value} {xs : List Value} (h : w.ownsRow C t 1 v n xs) (hn : 0 < n) : ∃ g c, v = .slice (some ⟨g, 0, none⟩) n c ∧ C ≤ g ∧ g < w.heap.size ∧ ∀ j u, xs[j]? = some u → w.cell? ⟨g, j, none⟩ = some u := by
  rcases h.2 with ⟨_, h0⟩ | ⟨g, cap, cur, rfl, hb, hg, hc, hm, hs, ht⟩
  · omega
  · refine ⟨g, cap, rfl, hb, (Array.getElem?_eq_some_iff.1 hg).1, fun j u hj => ?_⟩
    have := h.cells (g := g) rfl j u hj
    rwa [WideShapes.add_plain, Nat.zero_add] at this
theorem perm_bdd {L : List (List Int)} (h : IsT L) : 0 ≤ perm L ∧ perm L ≤ 12652843234348800 := by
  refine prm_bd h ?_
  have : 2^L.length ≤ 2^10 := Nat.pow_le_pow_right (by omega) h.le
  have h1 := Nat.two_pow_pos L.length
  unfold sAll; omega
/-- A row is put in the place of another one. -/
theorem own_put {w : World} {C n g c j : Nat} {t : TypeId} {u : Value} {xs : List Value} (h : w.ownsRow C t 1 (.slice (some ⟨g, 0, none⟩) n c) n xs) : (w.setCell ⟨g, j, none⟩ u).ownsRow C t 1 (.slice (some ⟨g, 0, none⟩) n c) n (xs.set j u) := by
  refine ⟨by rw [List.length_set]; exact h.1, ?_⟩
  rcases h.2 with ⟨h1, _⟩ | ⟨g', cap, cur, h1, hb, hg, hc, hm, hs, ht⟩
  · cases h1
  · injection h1 with h1 h2 h3
    injection h1 with h1
    injection h1 with h1
    subst h1 h3
    have hrow : Row w g t cur.toList := by unfold Row; rw [hg]
    refine .inr ⟨g, c, (cur.toList.set j u).toArray, rfl, hb, hrow.set j u, hc, hm, ?_, ?_⟩
    · rw [List.size_toArray, List.length_set]; simpa using hs
    · show List.take _ (cur.toList.set j u) = _
      rw [List.take_set, ht]
theorem own_heap {w : World} {C n g c : Nat} {t : TypeId} {xs : List Value} (h : w.ownsRow C t 1 (.slice (some ⟨g, 0, none⟩) n c) n xs) : C ≤ g ∧ ∃ cur, w.heap[g]? = some (.cells cur t (0, 0)) := by
  have := own_ge h (g := g) rfl
  exact ⟨this.1, this.2.2⟩
theorem own_far3 {w : World} {C n z g k : Nat} {u v : Value} {xs : List Value} {cur : Array Value} (h : w.ownsRow C 3 z u n xs) (hg : w.heap[g]? = some (.cells cur 27 (0, 0))) : (w.setCell ⟨g, k, none⟩ v).ownsRow C 3 z u n xs :=
  own_far h (fun e => by
    obtain ⟨_, _, c, h2⟩ := own_ge h e
    rw [hg] at h2
    injection h2 with h2
    injection h2 with _ h2
    cases h2)
theorem RowsOwn.setRow {w : World} {B g j : Nat} {cs : List Value} {L : List (List Int)} {v : Value} {r : List Int} {cur : Array Value} (h : RowsOwn w B cs L) (hv : w.ownsRow B 3 1 v r.length (iv r)) (hg : w.heap[g]? = some (.cells cur 27 (0, 0))) :
    RowsOwn (w.setCell ⟨g, j, none⟩ v) B (cs.set j v) (L.set j r) := by
  refine ⟨by rw [List.length_set, List.length_set]; exact h.1, fun q hq => ?_⟩
  rw [List.length_set] at hq
  have e : getl (L.set j r) q = if j = q then r else getl L q := by
    unfold getl
    rw [List.getD_eq_getElem?_getD, List.getD_eq_getElem?_getD, List.getElem?_set]
    by_cases h : j = q
    · subst h; rw [if_pos rfl, if_pos rfl, if_pos hq]; rfl
    · rw [if_neg h, if_neg h]
  rw [e]
  by_cases hjq : j = q
  · subst hjq
    rw [if_pos rfl]
    exact ⟨v, by rw [List.getElem?_set, if_pos rfl, if_pos (by rw [h.1]; exact hq)], own_far3 hv hg⟩
  · rw [if_neg hjq]
    obtain ⟨u, h1, h2⟩ := h.2 q hq
    exact ⟨u, by rw [List.getElem?_set, if_neg hjq]; exact h1, own_far3 h2 hg⟩
theorem RowsOwn.farRow {w : World} {B g j : Nat} {cs : List Value} {L : List (List Int)} {v : Value} {cur : Array Value} (h : RowsOwn w B cs L) (hg : w.heap[g]? = some (.cells cur 27 (0, 0))) : RowsOwn (w.setCell ⟨g, j, none⟩ v) B cs L := ⟨h.1, fun q hq => by
  obtain ⟨u, h1, h2⟩ := h.2 q hq
  exact ⟨u, h1, own_far3 h2 hg⟩⟩
theorem getl_set {L : List (List Int)} {j : Nat} {r : List Int} (hj : j < L.length) (q : Nat) : getl (L.set j r) q = if j = q then r else getl L q := by
  unfold getl
  rw [List.getD_eq_getElem?_getD, List.getD_eq_getElem?_getD, List.getElem?_set]
  by_cases h : j = q
  · subst h; rw [if_pos rfl, if_pos rfl, if_pos hj]; rfl
  · rw [if_neg h, if_neg h]
theorem rows_blk {w : World} {B : Nat} {cs : List Value} {L : List (List Int)} (h : RowsOwn w B cs L) {j : Nat} {v : Value} (hj : cs[j]? = some v) {g : Nat} (hg : v.ownBlock = some g) : B ≤ g ∧ g < w.heap.size := by
  have hl : j < L.length := by rw [← h.1]; exact (List.getElem?_eq_some_iff.1 hj).1
  obtain ⟨u, h1, h2⟩ := h.2 j hl
  rw [hj] at h1
  injection h1 with h1
  subst h1
  have := own_ge h2 hg
  exact ⟨this.1, this.2.1⟩
theorem RowsOwn.farNum {w : World} {B g k : Nat} {cs : List Value} {L : List (List Int)} {x : Value} (h : RowsOwn w B cs L) (hb : ∀ (j : Nat) (v : Value), cs[j]? = some v → v.ownBlock ≠ some g) : RowsOwn (w.setCell ⟨g, k, none⟩ x) B cs L := ⟨h.1, fun q hq => by
  obtain ⟨u, h1, h2⟩ := h.2 q hq
  exact ⟨u, h1, own_far h2 (hb q u h1)⟩⟩
theorem RowsOwn.mono {w : World} {B B' : Nat} {cs : List Value} {L : List (List Int)} (h : RowsOwn w B cs L) (hb : B' ≤ B) : RowsOwn w B' cs L := ⟨h.1, fun q hq => by
  obtain ⟨u, h1, h2⟩ := h.2 q hq
  exact ⟨u, h1, own_mono h2 hb⟩⟩
/-- A table of the call's own. -/
structure Tab (V : World) (g c n : Nat) (B : Nat) (cs : List Value) (K : List (List Int)) : Prop where
  own : V.ownsRow B 27 1 (.slice (some ⟨g, 0, none⟩) n c) n cs
  rows : RowsOwn V B cs K
theorem Tab.below {V V' : World} {g c n B : Nat} {cs : List Value} {K : List (List Int)} (h : Tab V g c n B cs K) (k : Below V.heap.size V V') : Tab V' g c n B cs K := ⟨h.own.kept' k, h.rows.below k⟩
theorem Tab.heap {V : World} {g c n B : Nat} {cs : List Value} {K : List (List Int)} (h : Tab V g c n B cs K) : B ≤ g ∧ g < V.heap.size ∧ (∃ cur, V.heap[g]? = some (.cells cur 27 (0, 0))) ∧ ∀ j, V.frozen? ⟨g, j, none⟩ = false := by
  obtain ⟨h1, cur, h2⟩ := own_heap h.own
  refine ⟨h1, (Array.getElem?_eq_some_iff.1 h2).1, ⟨cur, h2⟩, fun j => ?_⟩
  have : Row V g 27 cur.toList := by unfold Row; rw [h2]
  exact this.free j
/-- Another table gets a row. -/
theorem Tab.farRow {V : World} {g c n B g' c' B' j : Nat} {cs cs' : List Value} {K K' : List (List Int)} {v : Value} (h : Tab V g c n B cs K) (h' : Tab V g' c' n B' cs' K') (hne : g ≠ g') : Tab (V.setCell ⟨g', j, none⟩ v) g c n B cs K := by
  obtain ⟨-, -, ⟨cur, h2⟩, -⟩ := h'.heap
  exact ⟨own_far h.own (fun e => hne (by injection e)), h.rows.farRow h2⟩
/-- This table gets a row. -/
theorem Tab.setRow {V : World} {g c n B j : Nat} {cs : List Value} {K : List (List Int)} {v : Value} {r : List Int} (h : Tab V g c n B cs K) (hv : V.ownsRow B 3 1 v r.length (iv r)) : Tab (V.setCell ⟨g, j, none⟩ v) g c n B (cs.set j v) (K.set j r) := by
  obtain ⟨-, -, ⟨cur, h2⟩, -⟩ := h.heap
  exact ⟨own_put h.own, h.rows.setRow hv h2⟩
/-- A number of another table is written. -/
theorem Tab.farNum {V : World} {g c n B g' k : Nat} {cs : List Value} {K : List (List Int)} {x : Value} {cur : Array Value} (h : Tab V g c n B cs K) (hg : V.heap[g']? = some (.cells cur 3 (0, 0))) (hb : ∀ (j : Nat) (v : Value), cs[j]? = some v → v.ownBlock ≠ some g') : Tab (V.setCell ⟨g', k, none⟩ x) g c n B cs K :=
  ⟨own_far_t h.own (by decide) hg, h.rows.farNum hb⟩
theorem Tab.at {V : World} {g c n B : Nat} {cs : List Value} {K : List (List Int)} (h : Tab V g c n B cs K) : RowsAt V (some ⟨g, 0, none⟩) K := rows_at h.rows h.own
/-- A row being added to another one, number by number. -/
structure AdAt (T K : List (List Int)) (n i k c : Nat) : Prop where
  len : K.length = n
  row : ∀ a, a < n → (getl K a).length = n
  at' : ∀ a b, a < n → b < n → gat K a b = if a = i ∧ b < c then gat T i b + gat T k b else gat T a b
theorem AdAt.start {T : List (List Int)} {n i k : Nat} (hl : T.length = n) (h : ∀ a, a < n → (getl T a).length = n) : AdAt T T n i k 0 := ⟨hl, h, fun a b _ _ => by rw [if_neg (by omega)]⟩
theorem AdAt.next {T K : List (List Int)} {n i k c : Nat} (h : AdAt T K n i k c) (hi : i < n) (hc : c < n) : AdAt T (setT K i c (gat T i c + gat T k c)) n i k (c + 1) := by
  have hl := h.len
  refine ⟨by rw [setT_len, hl], fun a ha => ?_, fun a b ha hb => ?_⟩
  · rw [getl_setT (by omega)]
    split
    · rw [List.length_set]; exact h.row i hi
    · exact h.row a ha
  · rw [gat_setT (by omega) (by rw [h.row i hi]; exact hc)]
    by_cases e : i = a ∧ c = b
    · obtain ⟨rfl, rfl⟩ := e
      rw [if_pos ⟨rfl, rfl⟩, if_pos (by omega)]
    · rw [if_neg e, h.at' a b ha hb]
      by_cases e2 : a = i ∧ b < c
      · rw [if_pos e2, if_pos (by omega)]
      · rw [if_neg e2, if_neg (by omega)]
theorem AdAt.isT {T K : List (List Int)} {n i k : Nat} (h : AdAt T K n i k n) (hn : n ≤ 10) (hb : ∀ a b, 0 ≤ gat T a b ∧ gat T a b ≤ 4) : IsT K := okT_iff.1 (okT_all (by rw [h.len]; exact hn) (fun a ha => by
  rw [h.len] at ha ⊢
  refine ⟨h.row a ha, fun b hb2 => ?_⟩
  rw [h.at' a b ha hb2]
  have h1 := hb i b
  have h2 := hb k b
  have h3 := hb a b
  split <;> omega))
theorem tm4_bd (L : List (List Int)) (n a b : Nat) : 0 ≤ gat (tmL L n 4) a b ∧ gat (tmL L n 4) a b ≤ 4 := by
  by_cases ha : a < n
  · by_cases hb : b < n
    · unfold gat
      rw [tmP_at L n 4 ha, tmR_at _ _ _ _ _ hb, if_pos hb]
      exact tmV_bd L 4 a b
    · have : gat (tmL L n 4) a b = 0 := by unfold gat; exact geti_ge (by rw [tmP_at L n 4 ha, tmR_len]; omega)
      omega
  · have : gat (tmL L n 4) a b = 0 := by unfold gat; rw [getl_ge (by rw [tmP_len]; omega)]; rfl
    omega
def exE (T : List (List Int)) (i k : Nat) : List (List Int) := T.set i (getl T k)
def exY (T : List (List Int)) (i k : Nat) : List (List Int) := (T.set i (getl T k)).set k (getl T i)
theorem exE_isT {T : List (List Int)} (h : IsT T) {i k : Nat} (hi : i < T.length) (hk : k < T.length) : IsT (exE T i k) ∧ (exE T i k).length = T.length ∧ ∀ a b, gat (exE T i k) a b = if i = a then gat T k b else gat T a b := by
  have hl : (exE T i k).length = T.length := by unfold exE; rw [List.length_set]
  have hg : ∀ a, getl (exE T i k) a = if i = a then getl T k else getl T a := fun a => getl_set hi a
  have hgat : ∀ a b, gat (exE T i k) a b = if i = a then gat T k b else gat T a b := fun a b => by
    unfold gat; rw [hg]; split <;> rfl
  refine ⟨okT_iff.1 (okT_all (by rw [hl]; exact h.le) (fun a ha => ?_)), hl, hgat⟩
  rw [hl] at ha ⊢
  refine ⟨by rw [hg]; split; exact h.row k hk; exact h.row a ha, fun b hb => ?_⟩
  rw [hgat]
  have h1 := h.bd k b
  have h2 := h.bd a b
  split <;> omega
theorem exY_isT {T : List (List Int)} (h : IsT T) {i k : Nat} (hi : i < T.length) (hk : k < T.length) : IsT (exY T i k) ∧ (exY T i k).length = T.length ∧ ∀ a b, gat (exY T i k) a b = if k = a then gat T i b else if i = a then gat T k b else gat T a b := by
  have hl : (exY T i k).length = T.length := by unfold exY; rw [List.length_set, List.length_set]
  have hg : ∀ a, getl (exY T i k) a = if k = a then getl T i else if i = a then getl T k else getl T a := fun a => by
    unfold exY
    rw [getl_set (by rw [List.length_set]; exact hk), getl_set hi]
  have hgat : ∀ a b, gat (exY T i k) a b = if k = a then gat T i b else if i = a then gat T k b else gat T a b := fun a b => by
    unfold gat; rw [hg]; split
    · rfl
    · split <;> rfl
  refine ⟨okT_iff.1 (okT_all (by rw [hl]; exact h.le) (fun a ha => ?_)), hl, hgat⟩
  rw [hl] at ha ⊢
  refine ⟨by rw [hg]; split; exact h.row i hi; split; exact h.row k hk; exact h.row a ha, fun b hb => ?_⟩
  rw [hgat]
  have h1 := h.bd k b
  have h2 := h.bd a b
  have h3 := h.bd i b
  split
  · omega
  · split <;> omega
theorem exY_perm {T : List (List Int)} (h : IsT T) {i k : Nat} (hi : i < T.length) (hk : k < T.length) (hne : i ≠ k) : perm (exY T i k) = perm T := by
  obtain ⟨h1, h2, h3⟩ := exY_isT h hi hk
  exact perm_swap h h1 h2 hi hk hne (fun c _ => by rw [h3, if_neg (fun e => hne e.symm), if_pos rfl]) (fun c _ => by rw [h3, if_pos rfl]) (fun q c _ _ e1 e2 => by rw [h3, if_neg (fun e => e2 e.symm), if_neg (fun e => e1 e.symm)])
theorem ad_perm {T K : List (List Int)} {n i k : Nat} (hT : IsT T) (hl : T.length = n) (hi : i < n) (hk : k < n) (h : AdAt T K n i k n) (hK : IsT K) : perm K = perm T + perm (exE T i k) := by
  obtain ⟨h1, h2, h3⟩ := exE_isT hT (i := i) (k := k) (by omega) (by omega)
  have hKl := h.len
  refine perm_add hT hK h1 (by omega) h2 (i := i) (by omega) (fun c => ?_) (fun q c hq => ?_) (fun q c hq => by rw [h3, if_neg (fun e => hq e.symm)])
  · rw [h3, if_pos rfl]
    by_cases hc : c < n
    · rw [h.at' i c hi hc, if_pos ⟨rfl, hc⟩]
    · rw [hK.zero (Or.inr (by omega)), hT.zero (Or.inr (by omega)), hT.zero (Or.inr (by omega))]; rfl
  · by_cases hqn : q < n
    · by_cases hc : c < n
      · rw [h.at' q c hqn hc, if_neg (fun e => hq e.1)]
      · rw [hK.zero (Or.inr (by omega)), hT.zero (Or.inr (by omega))]
    · rw [hK.zero (Or.inl (by omega)), hT.zero (Or.inl (by omega))]
end Go.Proofs.Ytnnaaoobdofooaa
