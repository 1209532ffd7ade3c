/- The second order: plain mathematics. -/
import Derived.Test.YtheblebfeinjjaaNB
namespace Go.Proofs.Ytheblebfeinjjaa
open Go.RowKit
set_option maxRecDepth 100000
/-- The parts of what is left of a list are turned: the last number of each to its beginning. -/
def rotGo (a : Int) (g : Bool) : List Int → List Int → List Int
  | part, [] => part
  | part, x :: rest => if decide (a < x) = g then x :: part ++ rotGo a g [] rest else rotGo a g (part ++ [x]) rest
def rot (a : Int) (xs : List Int) : List Int := rotGo a (decide (a < geti xs (xs.length - 1))) [] xs
def secN (l : List Int) : Nat → List Int
  | 0 => []
  | k + 1 => rot (geti l k) (secN l k) ++ [geti l k]
def sec (l : List Int) : List Int := secN l l.length
theorem rotGo_perm (a : Int) (g : Bool) : ∀ (rest part : List Int), (rotGo a g part rest).Perm (part ++ rest)
  | [], part => by simp [rotGo]
  | x :: rest, part => by
    unfold rotGo
    split
    · have h := rotGo_perm a g rest []
      simp only [List.nil_append] at h
      refine List.Perm.trans (List.Perm.append_left _ h) ?_
      rw [List.append_cons part x rest]
      exact List.Perm.append_right rest (List.perm_append_singleton x part).symm
    · have h := rotGo_perm a g rest (part ++ [x])
      rw [List.append_assoc, List.singleton_append] at h
      exact h
theorem rot_perm (a : Int) (xs : List Int) : (rot a xs).Perm xs := by
  have h := rotGo_perm a (decide (a < geti xs (xs.length - 1))) xs []
  exact h
theorem rot_len (a : Int) (xs : List Int) : (rot a xs).length = xs.length := (rot_perm a xs).length_eq
theorem take_snoc {l : List Int} {k : Nat} (h : k < l.length) : l.take (k + 1) = l.take k ++ [geti l k] := by
  rw [List.take_add_one, List.getElem?_eq_getElem h, geti_eq h]; rfl
theorem drop_cons {l : List Int} {k : Nat} (h : k < l.length) : l.drop k = geti l k :: l.drop (k + 1) := by
  rw [List.drop_eq_getElem_cons h, geti_eq h]
theorem secN_perm (l : List Int) : ∀ k, k ≤ l.length → (secN l k).Perm (l.take k)
  | 0, _ => by simp [secN]
  | k + 1, h => by
    unfold secN
    rw [take_snoc (by omega)]
    exact List.Perm.append_right _ ((rot_perm _ _).trans (secN_perm l k (by omega)))
theorem secN_len (l : List Int) {k : Nat} (h : k ≤ l.length) : (secN l k).length = k := by
  rw [(secN_perm l k h).length_eq, List.length_take]; omega
theorem sec_perm (l : List Int) : (sec l).Perm l := by
  have h := secN_perm l l.length (Nat.le_refl _)
  rwa [List.take_length] at h
theorem sec_len (l : List Int) : (sec l).length = l.length := (sec_perm l).length_eq
theorem IsO.of_perm' {l S : List Int} (h : IsO l) (hp : S.Perm l) : IsO S :=
  IsO.of_perm (by rw [hp.length_eq]; exact h.le) (hp.trans h.perm)
theorem IsO.sec {l : List Int} (h : IsO l) : IsO (sec l) := h.of_perm' (sec_perm l)
/-- The parts turned back: the first number of each to its end. -/
def rotl : List Int → List Int
  | [] => []
  | x :: t => t ++ [x]
def btlGo (a : Int) (g : Bool) : List Int → List Int → List Int
  | part, [] => part
  | part, x :: rest => if rest = [] ∨ decide (a < geti rest 0) = g then rotl (part ++ [x]) ++ btlGo a g [] rest else btlGo a g (part ++ [x]) rest
def btl (a : Int) (xs : List Int) : List Int := btlGo a (decide (a < geti xs 0)) [] xs
theorem rotl_perm (p : List Int) : (rotl p).Perm p := by
  cases p with
  | nil => simp [rotl]
  | cons x t => exact List.perm_append_singleton x t
theorem btlGo_perm (a : Int) (g : Bool) : ∀ (rest part : List Int), (btlGo a g part rest).Perm (part ++ rest)
  | [], part => by simp [btlGo]
  | x :: rest, part => by
    unfold btlGo
    split
    · have h := btlGo_perm a g rest []
      simp only [List.nil_append] at h
      refine List.Perm.trans (List.Perm.append_left _ h) ?_
      rw [List.append_cons part x rest]
      exact List.Perm.append_right rest (rotl_perm _)
    · have h := btlGo_perm a g rest (part ++ [x])
      rw [List.append_assoc, List.singleton_append] at h
      exact h
theorem btl_perm (a : Int) (xs : List Int) : (btl a xs).Perm xs := btlGo_perm a (decide (a < geti xs 0)) xs []
theorem btl_len (a : Int) (xs : List Int) : (btl a xs).length = xs.length := (btl_perm a xs).length_eq
/-- The last `m` steps undone: what is in front of the place `m`, then what stands behind it as it stood. -/
def fstN (l : List Int) : Nat → List Int
  | 0 => l
  | k + 1 => btl (geti (fstN l k) (l.length - 1 - k)) ((fstN l k).take (l.length - 1 - k)) ++ (fstN l k).drop (l.length - 1 - k)
def fst' (l : List Int) : List Int := fstN l (l.length - 1)
theorem fstN_perm (l : List Int) : ∀ k, (fstN l k).Perm l
  | 0 => List.Perm.refl _
  | k + 1 => by
    unfold fstN
    refine List.Perm.trans (List.Perm.append_right _ (btl_perm _ _)) ?_
    rw [List.take_append_drop]
    exact fstN_perm l k
theorem fstN_len (l : List Int) (k : Nat) : (fstN l k).length = l.length := (fstN_perm l k).length_eq
theorem IsO.fst' {l : List Int} (h : IsO l) : IsO (fst' l) := h.of_perm' (fstN_perm l _)
end Go.Proofs.Ytheblebfeinjjaa
