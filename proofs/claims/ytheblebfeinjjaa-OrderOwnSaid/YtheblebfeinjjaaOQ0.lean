/- The reference's counts of descents and of cycles: plain mathematics. -/
import Derived.Test.YtheblebfeinjjaaOP
namespace Go.Proofs.Ytheblebfeinjjaa
open Go.RowKit
set_option maxRecDepth 100000
def recD (n : Nat) (Z : List Nat) : Bool :=
  let R := lon mD n Z
  (List.range (n + 1)).all (fun i => getn R i == (i + 1) * getn Z i + (if i = 0 then 0 else (n + 1 - i) * getn Z (i - 1))) && (List.range 30).all (fun j => getn R (n + 1 + j) == 0)
def recC (n : Nat) (Z : List Nat) : Bool :=
  let R := lon mC n Z
  (List.range (n + 2)).all (fun i => getn R i == n * getn Z i + (if i = 0 then 0 else getn Z (i - 1))) && (List.range 30).all (fun j => getn R (n + 2 + j) == 0)
theorem chkRD : chk mD recD 17 0 (1 :: List.replicate 153 0) = true := by decide +kernel
theorem chkRC : chk mC recC 17 0 (1 :: List.replicate 153 0) = true := by decide +kernel
theorem recD_ok {n i : Nat} (hn : n ≤ 17) (hi : i ≤ n) : getn (rowN mD (n + 1)) i = (i + 1) * getn (rowN mD n) i + (if i = 0 then 0 else (n + 1 - i) * getn (rowN mD n) (i - 1)) := by
  have h := chk_all 17 0 chkRD n hn
  rw [Nat.zero_add] at h
  unfold recD at h
  simp only [Bool.and_eq_true, List.all_eq_true, List.mem_range] at h
  exact eq_of_beq (h.1 i (by omega))
theorem recD_zero {n i : Nat} (hn : n ≤ 17) (h1 : n + 1 ≤ i) (h2 : i < n + 31) : getn (rowN mD (n + 1)) i = 0 := by
  have h := chk_all 17 0 chkRD n hn
  rw [Nat.zero_add] at h
  unfold recD at h
  simp only [Bool.and_eq_true, List.all_eq_true, List.mem_range] at h
  have := eq_of_beq (h.2 (i - (n + 1)) (by omega))
  rwa [show n + 1 + (i - (n + 1)) = i by omega] at this
theorem recC_ok {n i : Nat} (hn : n ≤ 17) (hi : i ≤ n + 1) : getn (rowN mC (n + 1)) i = n * getn (rowN mC n) i + (if i = 0 then 0 else getn (rowN mC n) (i - 1)) := by
  have h := chk_all 17 0 chkRC n hn
  rw [Nat.zero_add] at h
  unfold recC at h
  simp only [Bool.and_eq_true, List.all_eq_true, List.mem_range] at h
  exact eq_of_beq (h.1 i (by omega))
theorem recC_zero {n i : Nat} (hn : n ≤ 17) (h1 : n + 2 ≤ i) (h2 : i < n + 32) : getn (rowN mC (n + 1)) i = 0 := by
  have h := chk_all 17 0 chkRC n hn
  rw [Nat.zero_add] at h
  unfold recC at h
  simp only [Bool.and_eq_true, List.all_eq_true, List.mem_range] at h
  have := eq_of_beq (h.2 (i - (n + 2)) (by omega))
  rwa [show n + 2 + (i - (n + 2)) = i by omega] at this
theorem getn_rep (L i : Nat) : getn (List.replicate L 0) i = 0 := by
  unfold getn
  rw [List.getD_eq_getElem?_getD, List.getElem?_replicate]
  split <;> rfl
/-- So many of a row, 0 behind. -/
def prt (R : List Nat) (i : Nat) : List Nat := R.take i ++ List.replicate (R.length - i) 0
theorem prt_len {R : List Nat} {i : Nat} (h : i ≤ R.length) : (prt R i).length = R.length := by simp [prt]; omega
theorem prt_set {R : List Nat} {i : Nat} (h : i < R.length) : (prt R i).set i (getn R i) = prt R (i + 1) := by
  unfold prt
  have hl : (R.take i).length = i := by rw [List.length_take]; omega
  rw [List.set_append_right _ _ (by omega), hl, Nat.sub_self, show R.length - i = (R.length - (i + 1)) + 1 by omega, List.replicate_succ, List.set_cons_zero, List.take_succ_eq_append_getElem h, getn_eq h, List.append_assoc, List.singleton_append]
theorem prt_all {R : List Nat} {i : Nat} (h : ∀ j, i ≤ j → j < R.length → getn R j = 0) : prt R i = R := by
  have e : R.drop i = List.replicate (R.length - i) 0 := by
    rw [List.eq_replicate_iff]
    refine ⟨List.length_drop, fun x hx => ?_⟩
    obtain ⟨j, hj, rfl⟩ := List.getElem_of_mem hx
    rw [List.getElem_drop]
    rw [List.length_drop] at hj
    have := h (i + j) (by omega) (by omega)
    rwa [getn_eq (by omega)] at this
  unfold prt
  rw [← e, List.take_append_drop]
end Go.Proofs.Ytheblebfeinjjaa
