/- The written cycles. -/
import Derived.Test.YtheblebfeinjjaaNI
import Derived.Test.YtheblebfeinjjaaNO
import Derived.Test.YtheblebfeinjjaaNP
namespace Go.Proofs.Ytheblebfeinjjaa
open Go.RowKit
set_option maxHeartbeats 1000000
set_option maxRecDepth 100000
theorem CycAt.mem_lo {l : List Int} {s x : Int} {c : List Int} (h : CycAt l s c) (hx : x ∈ c) : 1 ≤ x ∧ x ≤ l.length := by
  obtain ⟨i, hi, rfl⟩ := mem_geti hx
  exact ⟨h.lo i hi, h.hi i hi⟩
/-- A cycle goes on within itself. -/
theorem cyc_next {l : List Int} {s x : Int} (hl : IsO l) (h1 : 1 ≤ s) (h2 : s ≤ l.length) (hx : x ∈ cyc l s) : nx l x ∈ cyc l s := by
  obtain ⟨hc, he⟩ := cyc_ok hl h1 h2
  obtain ⟨i, hi, rfl⟩ := mem_geti hx
  by_cases h : i + 1 < (cyc l s).length
  · rw [← hc.next i h]; exact geti_mem h
  · rw [show i = (cyc l s).length - 1 by omega, he, ← hc.zero]
    exact geti_mem hc.pos
theorem cyc_self (l : List Int) (s : Int) : s ∈ cyc l s := List.mem_cons_self ..
theorem cyc_sub {l : List Int} {s y x : Int} (hl : IsO l) (h1 : 1 ≤ s) (h2 : s ≤ l.length) (hy : y ∈ cyc l s) (hx : x ∈ cyc l y) : x ∈ cyc l s := by
  obtain ⟨hc, -⟩ := cyc_ok hl h1 h2
  obtain ⟨hy1, hy2⟩ := hc.mem_lo hy
  obtain ⟨hd, -⟩ := cyc_ok hl hy1 hy2
  obtain ⟨i, hi, rfl⟩ := mem_geti hx
  clear hx
  induction i with
  | zero => rw [hd.zero]; exact hy
  | succ i ih => rw [hd.next i hi]; exact cyc_next hl h1 h2 (ih (by omega))
theorem cyc_symm {l : List Int} {s y : Int} (hl : IsO l) (h1 : 1 ≤ s) (h2 : s ≤ l.length) (hy : y ∈ cyc l s) : s ∈ cyc l y := by
  obtain ⟨hc, he⟩ := cyc_ok hl h1 h2
  obtain ⟨hy1, hy2⟩ := hc.mem_lo hy
  obtain ⟨i, hi, e⟩ := mem_geti hy
  have key : ∀ j, i + j < (cyc l s).length → geti (cyc l s) (i + j) ∈ cyc l y := by
    intro j
    induction j with
    | zero => intro _; rw [Nat.add_zero, e]; exact cyc_self l y
    | succ j ih =>
      intro h
      rw [← Nat.add_assoc, hc.next (i + j) h]
      exact cyc_next hl hy1 hy2 (ih (by omega))
  have h3 := key ((cyc l s).length - 1 - i) (by omega)
  rw [show i + ((cyc l s).length - 1 - i) = (cyc l s).length - 1 by omega] at h3
  have h4 := cyc_next hl hy1 hy2 h3
  rwa [he] at h4
theorem isG_le {l : List Int} {s x : Int} (h : isG l s = true) (hx : x ∈ cyc l s) : x ≤ s := by
  unfold isG at h
  rw [List.all_eq_true] at h
  exact of_decide_eq_true (h x hx)
theorem isG_uniq {l : List Int} {s t y : Int} (hl : IsO l) (s1 : 1 ≤ s) (s2 : s ≤ l.length) (t1 : 1 ≤ t) (t2 : t ≤ l.length) (hs : isG l s = true) (ht : isG l t = true) (h1 : y ∈ cyc l s) (h2 : y ∈ cyc l t) : s = t := by
  have a := cyc_sub hl t1 t2 h2 (cyc_symm hl s1 s2 h1)
  have b := cyc_sub hl s1 s2 h1 (cyc_symm hl t1 t2 h2)
  have := isG_le hs b
  have := isG_le ht a
  omega
theorem wrN_mem {l : List Int} {y : Int} : ∀ {k : Nat}, y ∈ wrN l k ↔ ∃ s : Nat, s < k ∧ isG l (s + 1) = true ∧ y ∈ cyc l (s + 1)
  | 0 => by simp [wrN]
  | k + 1 => by
    unfold wrN
    rw [List.mem_append, wrN_mem (k := k)]
    constructor
    · rintro (⟨s, h1, h2, h3⟩ | h)
      · exact ⟨s, by omega, h2, h3⟩
      · split at h
        · rename_i hg; exact ⟨k, by omega, hg, h⟩
        · cases h
    · rintro ⟨s, h1, h2, h3⟩
      by_cases e : s = k
      · subst e; rw [if_pos h2]; exact .inr h3
      · exact .inl ⟨s, by omega, h2, h3⟩
theorem wrN_nodup {l : List Int} (hl : IsO l) : ∀ k, k ≤ l.length → (wrN l k).Nodup
  | 0, _ => by simp [wrN]
  | k + 1, h => by
    unfold wrN
    split
    · rename_i hg
      rw [List.nodup_append]
      refine ⟨wrN_nodup hl k (by omega), (cyc_ok hl (s := (k : Int) + 1) (by omega) (by omega)).1.nd, fun a ha b hb e => ?_⟩
      subst e
      obtain ⟨s, h1, h2, h3⟩ := wrN_mem.1 ha
      have := isG_uniq hl (by omega) (by omega) (by omega) (by omega) h2 hg h3 hb
      omega
    · rw [List.append_nil]; exact wrN_nodup hl k (by omega)
theorem wrN_in {l : List Int} (hl : IsO l) {k : Nat} (hk : k ≤ l.length) {y : Int} (hy : y ∈ wrN l k) : 1 ≤ y ∧ y ≤ l.length := by
  obtain ⟨s, h1, h2, h3⟩ := wrN_mem.1 hy
  exact (cyc_ok hl (s := (s : Int) + 1) (by omega) (by omega)).1.mem_lo h3
theorem wrN_len {l : List Int} (hl : IsO l) {k : Nat} (hk : k ≤ l.length) : (wrN l k).length ≤ l.length := by
  have := sub_len (b := asc l.length) (wrN_nodup hl k hk) (fun x hx => mem_asc.2 (wrN_in hl hk hx))
  rwa [asc_len] at this
theorem wr_perm {l : List Int} (hl : IsO l) : (wr' l).Perm l := by
  have hn := wrN_nodup hl l.length (Nat.le_refl _)
  have h1 : (asc l.length).Perm (wr' l) := by
    refine perm_of_sub (asc_nodup _) (fun y hy => ?_) (by rw [asc_len]; exact wrN_len hl (Nat.le_refl _))
    obtain ⟨y1, y2⟩ := mem_asc.1 hy
    obtain ⟨hc, -⟩ := cyc_ok hl y1 y2
    obtain ⟨i, hi, e⟩ := mxN_is (cyc l y) ((cyc l y).length - 1)
    have hp := hc.pos
    have hs : geti (cyc l y) i ∈ cyc l y := geti_mem (by omega)
    obtain ⟨s1, s2⟩ := hc.mem_lo hs
    refine wrN_mem.2 ⟨(geti (cyc l y) i - 1).toNat, by omega, ?_, ?_⟩
    · rw [show (((geti (cyc l y) i - 1).toNat : Nat) : Int) + 1 = geti (cyc l y) i by omega]
      unfold isG
      rw [List.all_eq_true]
      intro x hx
      obtain ⟨j, hj, rfl⟩ := mem_geti (cyc_sub hl y1 y2 hs hx)
      refine decide_eq_true ?_
      rw [e]
      exact mxN_le _ _ _ (by omega)
    · rw [show (((geti (cyc l y) i - 1).toNat : Nat) : Int) + 1 = geti (cyc l y) i by omega]
      exact cyc_symm hl y1 y2 hs
  exact h1.symm.trans hl.perm.symm
theorem IsO.wr {l : List Int} (h : IsO l) : IsO (wr' l) := h.of_perm' (wr_perm h)
end Go.Proofs.Ytheblebfeinjjaa
