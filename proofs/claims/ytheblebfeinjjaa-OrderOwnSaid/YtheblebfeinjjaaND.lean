/- The cycles: plain mathematics. -/
import Derived.Test.YtheblebfeinjjaaNC
namespace Go.Proofs.Ytheblebfeinjjaa
open Go.RowKit
set_option maxRecDepth 100000
theorem sub_len {a b : List Int} (h : a.Nodup) (hs : ∀ x ∈ a, x ∈ b) : a.length ≤ b.length := by
  by_cases h2 : b.length ≤ a.length
  · exact Nat.le_of_eq (perm_of_sub h hs h2).length_eq
  · omega
/-- The number that stands at a number's place. -/
def nx (l : List Int) (x : Int) : Int := geti l (x - 1).toNat
theorem IsO.nx {l : List Int} (h : IsO l) {x : Int} (h1 : 1 ≤ x) (h2 : x ≤ l.length) : 1 ≤ nx l x ∧ nx l x ≤ l.length :=
  ⟨h.lo _ (by omega), h.hi _ (by omega)⟩
theorem IsO.inj {l : List Int} (h : IsO l) {i j : Nat} (hi : i < l.length) (hj : j < l.length) (e : geti l i = geti l j) : i = j := by
  rcases Nat.lt_trichotomy i j with hlt | rfl | hlt
  · exact absurd e (h.ne j i hj hlt)
  · rfl
  · exact absurd e.symm (h.ne i j hi hlt)
theorem IsO.nx_inj {l : List Int} (h : IsO l) {x y : Int} (h1 : 1 ≤ x) (h2 : x ≤ l.length) (h3 : 1 ≤ y) (h4 : y ≤ l.length) (e : Go.Proofs.Ytheblebfeinjjaa.nx l x = Go.Proofs.Ytheblebfeinjjaa.nx l y) : x = y := by
  have := h.inj (i := (x - 1).toNat) (j := (y - 1).toNat) (by omega) (by omega) e
  omega
def cycGo (l : List Int) (s : Int) : Nat → Int → List Int
  | 0, _ => []
  | f + 1, x => if x = s then [] else x :: cycGo l s f (nx l x)
def cyc (l : List Int) (s : Int) : List Int := s :: cycGo l s 12 (nx l s)
structure CycAt (l : List Int) (s : Int) (c : List Int) : Prop where
  pos : 0 < c.length
  nd : c.Nodup
  lo : ∀ i, i < c.length → 1 ≤ geti c i
  hi : ∀ i, i < c.length → geti c i ≤ l.length
  zero : geti c 0 = s
  next : ∀ i, i + 1 < c.length → geti c (i + 1) = nx l (geti c i)
theorem geti_app {a b : List Int} {i : Nat} : geti (a ++ b) i = if i < a.length then geti a i else geti b (i - a.length) := by
  unfold geti
  rw [List.getD_eq_getElem?_getD, List.getElem?_append]
  split
  · rw [List.getD_eq_getElem?_getD]
  · rw [List.getD_eq_getElem?_getD]
theorem geti_snoc {a : List Int} {x : Int} {i : Nat} (h : i ≤ a.length) : geti (a ++ [x]) i = if i < a.length then geti a i else x := by
  rw [geti_app]
  split
  · rfl
  · rw [show i - a.length = 0 by omega]; rfl
theorem CycAt.start {l : List Int} {s : Int} (h1 : 1 ≤ s) (h2 : s ≤ l.length) : CycAt l s [s] :=
  ⟨by simp, by simp, fun i hi => by rw [show i = 0 by simpa using hi]; exact h1, fun i hi => by rw [show i = 0 by simpa using hi]; exact h2, rfl, fun i hi => by simp at hi⟩
theorem CycAt.len {l : List Int} {s : Int} {c : List Int} (h : CycAt l s c) : c.length ≤ l.length := by
  have := sub_len (b := asc l.length) h.nd (fun x hx => by
    obtain ⟨i, hi, rfl⟩ := mem_geti hx
    exact mem_asc.2 ⟨h.lo i hi, h.hi i hi⟩)
  rwa [asc_len] at this
theorem CycAt.snoc {l : List Int} {s x : Int} {c : List Int} (hl : IsO l) (h : CycAt l s c) (hx : x = nx l (geti c (c.length - 1))) (hne : x ≠ s) : CycAt l s (c ++ [x]) := by
  have hp := h.pos
  have hr := hl.nx (h.lo (c.length - 1) (by omega)) (h.hi (c.length - 1) (by omega))
  rw [← hx] at hr
  refine ⟨by simp, ?_, fun i hi => ?_, fun i hi => ?_, ?_, fun i hi => ?_⟩
  · rw [List.nodup_append]
    refine ⟨h.nd, by simp, fun a ha b hb => ?_⟩
    rw [List.mem_singleton] at hb
    subst hb
    obtain ⟨k, hk, rfl⟩ := mem_geti ha
    intro e
    rcases Nat.eq_zero_or_pos k with rfl | hk0
    · rw [h.zero] at e; exact hne e.symm
    · have hn := h.next (k - 1) (by omega)
      rw [show k - 1 + 1 = k by omega, e, hx] at hn
      have h3 := hl.nx_inj (h.lo (c.length - 1) (by omega)) (h.hi (c.length - 1) (by omega)) (h.lo (k - 1) (by omega)) (h.hi (k - 1) (by omega)) hn
      have h4 := (List.nodup_iff_pairwise_ne.1 h.nd)
      rw [List.pairwise_iff_getElem] at h4
      have h5 := h4 (k - 1) (c.length - 1) (by omega) (by omega) (by omega)
      rw [← geti_eq (by omega), ← geti_eq (by omega)] at h5
      exact h5 h3.symm
  · rw [geti_snoc (by simp at hi; omega)]
    split
    · rename_i h1; exact h.lo i h1
    · exact hr.1
  · rw [geti_snoc (by simp at hi; omega)]
    split
    · rename_i h1; exact h.hi i h1
    · exact hr.2
  · rw [geti_snoc (by omega), if_pos hp]; exact h.zero
  · simp at hi
    rw [geti_snoc (i := i + 1) (by omega), geti_snoc (i := i) (by omega), if_pos (show i < c.length by omega)]
    split
    · rename_i h1; exact h.next i h1
    · rw [hx, show i = c.length - 1 by omega]
/-- A round of the loop that collects a cycle. -/
theorem cyc_yes {l : List Int} {s x : Int} {c : List Int} (hl : IsO l) (h : CycAt l s c) (hne : x ≠ s) : c ++ cycGo l s (13 - c.length) x = (c ++ [x]) ++ cycGo l s (13 - (c ++ [x]).length) (nx l x) := by
  have h1 := h.len
  have h2 := hl.le
  rw [List.length_append, List.length_singleton, show 13 - c.length = (13 - (c.length + 1)) + 1 by omega]
  conv => lhs; unfold cycGo
  rw [if_neg hne, List.append_assoc, List.singleton_append]
theorem cyc_end {l : List Int} {s : Int} {c : List Int} : ∀ {f : Nat}, c ++ cycGo l s f s = c
  | 0 => by simp [cycGo]
  | f + 1 => by simp [cycGo]
theorem cyc_all {l : List Int} {s : Int} (hl : IsO l) : ∀ (f : Nat) (c : List Int) (x : Int), CycAt l s c → x = nx l (geti c (c.length - 1)) → c.length + f = 13 →
    CycAt l s (c ++ cycGo l s f x) ∧ nx l (geti (c ++ cycGo l s f x) ((c ++ cycGo l s f x).length - 1)) = s
  | 0, c, x, h, _, hf => by have := h.len; have := hl.le; omega
  | f + 1, c, x, h, hx, hf => by
    by_cases e : x = s
    · subst e
      rw [cyc_end]
      exact ⟨h, hx.symm⟩
    · have h2 := cyc_all hl f (c ++ [x]) (nx l x) (h.snoc hl hx e) (by rw [List.length_append, List.length_singleton, Nat.add_sub_cancel, geti_snoc (Nat.le_refl _), if_neg (by omega)]) (by simp; omega)
      unfold cycGo
      rw [if_neg e, List.append_cons]
      exact h2
theorem cyc_ok {l : List Int} {s : Int} (hl : IsO l) (h1 : 1 ≤ s) (h2 : s ≤ l.length) : CycAt l s (cyc l s) ∧ nx l (geti (cyc l s) ((cyc l s).length - 1)) = s :=
  cyc_all hl 12 [s] (nx l s) (CycAt.start h1 h2) rfl rfl
/-- The greatest number of its cycle. -/
def isG (l : List Int) (s : Int) : Bool := (cyc l s).all fun x => decide (x ≤ s)
/-- The cycles that the first so many numbers are the greatest of, one after the other. -/
def wrN (l : List Int) : Nat → List Int
  | 0 => []
  | k + 1 => wrN l k ++ if isG l (k + 1) then cyc l (k + 1) else []
def wr' (l : List Int) : List Int := wrN l l.length
def cyN (l : List Int) : Nat → Nat
  | 0 => 0
  | k + 1 => cyN l k + if isG l (k + 1) then 1 else 0
end Go.Proofs.Ytheblebfeinjjaa
