/- Words as strings: their bytes, and their images. -/
import Derived.Test.YtignbpipdfjkeaaDoorMG
import Derived.Test.YtignbpipdfjkeaaDoorMF
import Derived.Test.YtignbpipdfjkeaaDoorBC
namespace Go.Proofs.YtignbpipdfjkeaaDoor
open Go.PlainAid
set_option maxHeartbeats 1000000
set_option maxRecDepth 100000
theorem bt_wS {x : List Nat} (h : ∀ b, b ∈ x → b < 4) {i : Nat} (hi : i < x.length) : bt (wS x) i = 97 + (x.getD i 0 : Nat) := by
  have hs : i < (wS x).size := by rw [wS_len]; exact hi
  unfold bt
  rw [dif_pos hs]
  have e : (wS x)[i]'hs = UInt8.ofNat ((97 + (x[i] : Int)).toNat) := by
    show (wS x).data[i]'_ = _
    unfold wS wI strOfNums
    simp
  have hb := h x[i] (List.getElem_mem hi)
  rw [e, List.getD_eq_getElem?_getD, List.getElem?_eq_getElem hi]
  have : (97 + (x[i] : Int)).toNat = 97 + x[i] := by omega
  rw [this]
  simp
  omega
theorem bn_wS {x : List Nat} (h : ∀ b, b ∈ x → b < 4) {i : Nat} (hi : i < x.length) : bn (wS x) i = x.getD i 0 := by
  unfold bn; rw [bt_wS h hi]; omega
theorem okB_wS {k : Nat} {x : List Nat} (hk : k ≤ 4) (h : okW k x) (hl : x.length ≤ 1000) : okB k (wS x) = true := by
  refine okB_yes (by rw [wS_len]; exact hl) (fun i hi => ?_)
  rw [wS_len] at hi
  rw [goodB_iff, bt_wS (fun b hb => by have := h b hb; omega) hi]
  have := h x[i] (List.getElem_mem hi)
  rw [List.getD_eq_getElem?_getD, List.getElem?_eq_getElem hi]
  simp
  omega
theorem imP_wS (T : Tab) (a : Nat) {x : List Nat} (h : ∀ b, b ∈ x → b < 4) : ∀ i, i ≤ x.length → imP T a (wS x) i = img T a (x.take i)
  | 0, _ => by rw [imP_zero, List.take_zero]; rfl
  | i + 1, hi => by
    rw [imP_succ, imP_wS T a h i (by omega), bn_wS h (by omega), List.take_add_one, List.getElem?_eq_getElem (show i < x.length by omega)]
    show _ = img T a (x.take i ++ [x[i]])
    rw [img_snoc, List.getD_eq_getElem?_getD, List.getElem?_eq_getElem (show i < x.length by omega)]
    rfl
theorem imP_all (T : Tab) (a : Nat) {x : List Nat} (h : ∀ b, b ∈ x → b < 4) : imP T a (wS x) (wS x).size = img T a x := by
  rw [wS_len, imP_wS T a h _ (Nat.le_refl _), List.take_length]
/-- Words are no longer than their places. -/
def WL (R : Met) : Prop := ∀ j, j < R.length → (elS R j).2.length ≤ j
theorem addS_wl {T : Tab} {R : Met} {i b : Nat} (h : WL R) (hi : i < R.length) : WL (addS T R i b) := by
  unfold addS
  split
  · exact h
  · intro j hj
    rw [List.length_append, List.length_singleton] at hj
    rcases Nat.lt_or_ge j R.length with h1 | h1
    · rw [elS_app h1]; exact h j h1
    · obtain rfl : j = R.length := by omega
      have h2 := h i hi
      have e : ∀ x : Nat × List Nat, elS (R ++ [x]) R.length = x := fun x => by unfold elS; simp
      rw [e]
      show ((elS R i).2 ++ [b]).length ≤ _
      rw [List.length_append, List.length_singleton]
      omega
theorem rowS_wl {T : Tab} {i : Nat} : ∀ (c b : Nat) {R : Met}, WL R → i < R.length → WL (rowS T i c b R)
  | 0, _, _, h, _ => h
  | c + 1, b, R, h, hi => by
    obtain ⟨U, hU⟩ := addS_pre T R i b
    exact rowS_wl c (b + 1) (addS_wl h hi) (by rw [hU, List.length_append]; omega)
theorem bfs_wl {T : Tab} {k : Nat} : ∀ (f i : Nat) {R : Met}, WL R → WL (bfs T k f i R)
  | 0, _, _, h => h
  | f + 1, i, R, h => by
    unfold bfs
    split
    · rename_i hi; exact bfs_wl f (i + 1) (rowS_wl k 0 h hi)
    · exact h
theorem reach_wl (T : Tab) (k s : Nat) : WL (reach T k s) := bfs_wl _ _ (fun j hj => by
  have : j = 0 := by simpa using hj
  subst this; exact Nat.le_refl 0)
theorem sh_len {T : Tab} {k n s : Nat} (hM : IsM T k n) (hs : IsS n s) : (shE T k s).2.length ≤ 512 := by
  have hm := reach_met hM hs
  have hl : (reach T k s).length ≤ 512 := by
    have := nodup_len 512 ((reach T k s).map (·.1)) (fun x hx => by
      obtain ⟨e, he, rfl⟩ := List.mem_map.1 hx
      obtain ⟨h1, h2⟩ := hm.im e.1 e.2 he
      have h3 := img_set hM hs h1
      rw [h2] at h3
      exact set512 hM.n9 h3) (by rw [List.pairwise_map]; exact hm.nd)
    simpa using this
  have hb := bsI_lt (reach_pos hM hs).1 _ (Nat.le_refl _)
  have := reach_wl T k s _ hb
  unfold shE
  omega
/-- A single state needs no word. -/
theorem sh_same {T : Tab} {k n p : Nat} (hM : IsM T k n) (hp : p < n) : szS (shE T k (sg p p)).1 = 1 ∧ (shE T k (sg p p)).2 = [] := by
  have hn := hM.n9
  obtain ⟨s1, s2, -⟩ := sg_set hn hp hp
  have h1 := (sh_set hM s1 s2).2.2
  obtain ⟨hR, h2⟩ := reach_pos hM s1
  have h3 := bsI_min (reach T k (sg p p)) (reach T k (sg p p)).length 0 hR
  rw [h2] at h3
  have h4 : szS (sg p p) ≤ 1 := one_sz (fun a b ha hb => by
    have e1 := (sg_bits (by omega) (by omega)).1 ha
    have e2 := (sg_bits (by omega) (by omega)).1 hb
    omega)
  have h5 : szS (shE T k (sg p p)).1 = 1 := by
    unfold shE at h1 ⊢
    simp only at h3
    omega
  refine ⟨h5, ?_⟩
  rcases Nat.eq_zero_or_pos (bsI (reach T k (sg p p)) (reach T k (sg p p)).length) with h | h
  · unfold shE; rw [h, h2]
  · have h6 := bsI_first _ _ 0 h
    rw [h2] at h6
    unfold shE at h5
    simp only at h6
    omega
end Go.Proofs.YtignbpipdfjkeaaDoor
