/- The share that the densest set comes with proves it. -/
import Derived.Test.YtpaeagkgmbhndaaZN
import Derived.Test.YtpaeagkgmbhndaaZM
namespace Go.Proofs.Ytpaeagkgmbhndaa
open Go.RowKit
set_option maxHeartbeats 1000000
set_option maxRecDepth 100000
def ssF (n : Nat) (f : Nat → Int) : List (Int × Int) := (List.range n).map fun k => (f (k * 2), f (k * 2 + 1))
theorem ssF_len (n : Nat) (f : Nat → Int) : (ssF n f).length = n := by simp [ssF]
theorem ssF_A {n : Nat} (f : Nat → Int) {k : Nat} (h : k < n) : pA (ssF n f) k = f (k * 2) := by
  unfold pA ssF
  rw [List.getD_eq_getElem?_getD, List.getElem?_map, List.getElem?_range h]; rfl
theorem ssF_B {n : Nat} (f : Nat → Int) {k : Nat} (h : k < n) : pB (ssF n f) k = f (k * 2 + 1) := by
  unfold pB ssF
  rw [List.getD_eq_getElem?_getD, List.getElem?_map, List.getElem?_range h]; rfl
theorem share_pairs {w : World} {g n : Nat} {t : TypeId} {f : Nat → Int} (h : 0 < n → Row w g t (cellsF (n * 2) f)) : PairsAt w (some ⟨g, 0, none⟩) (ssF n f) := fun hp => by
  rw [ssF_len] at hp
  have hr := h hp
  refine ⟨g, 0, rfl, hr.lt, fun i hi => ?_⟩
  rw [ssF_len] at hi
  rw [Nat.zero_add, hr.cell, hr.cell, cellsF_at f (by omega), cellsF_at f (by omega), ssF_A f hi, ssF_B f hi]
  exact ⟨rfl, rfl⟩
structure LdI (m : Nat) (es : List (Int × Int)) (gs : List Nat) (H : Nat → Nat → Int) (ss : List (Int × Int)) (k : Nat) (g : List Nat) : Prop where
  pre : PreI m es gs k g
  sym : ∀ x y, sHas (near g x) y = sHas (near g y) x
  cnt : ∀ v, v < 16 → (getn (ldT es ss k) v : Int) = outG g H v
theorem ld_at {m : Nat} {es : List (Int × Int)} {gs : List Nat} (h : readF m es = some gs) {q : Int} {H : Nat → Nat → Int} {L : Nat → Int} (sp : Spread gs q H L) {ss : List (Int × Int)} (hh : ∀ i, i < es.length → pA ss i = H (pA es i).toNat (pB es i).toNat ∧ pB ss i = H (pB es i).toNat (pA es i).toNat) : ∀ k, k ≤ es.length → ∃ g, LdI m es gs H ss k g := by
  have hm : m ≤ 16 := by have := readF_ok h; omega
  intro k
  induction k with
  | zero =>
    refine fun _ => ⟨Z16, PreI.start h, fun x y => by unfold near sHas; rw [List.getElem?_replicate, List.getElem?_replicate]; split <;> split <;> simp, fun v _ => ?_⟩
    rw [outG_zero]; show (getn zer v : Int) = 0; rw [getn_zer]; rfl
  | succ k ih =>
    intro hk
    obtain ⟨g, hg⟩ := ih (by omega)
    obtain ⟨a, b, h1, h2, h3, h4, h5, h6⟩ := hg.pre.edge (by omega) hm
    have hadd := fun u v => add_has hg.pre.rows (a := a) (b := b) (by omega) (by omega) (by omega) u v
    refine ⟨addE g a b, h6, fun x y => ?_, fun v hv => ?_⟩
    · rw [Bool.eq_iff_iff, hadd, hadd, hg.sym]
      constructor
      · rintro (h | ⟨h, h'⟩ | ⟨h, h'⟩)
        · exact .inl h
        · exact .inr (.inr ⟨h', h⟩)
        · exact .inr (.inl ⟨h', h⟩)
      · rintro (h | ⟨h, h'⟩ | ⟨h, h'⟩)
        · exact .inl h
        · exact .inr (.inr ⟨h', h⟩)
        · exact .inr (.inl ⟨h', h⟩)
    · have hna := sp.nn a b (by omega) (by omega)
      have hnb := sp.nn b a (by omega) (by omega)
      obtain ⟨s1, s2⟩ := hh k (by omega)
      rw [h1, h2] at s1 s2
      simp only [Int.toNat_natCast] at s1 s2
      rw [outG_add hg.pre.rows (by omega) (by omega) (by omega) h5 (by rw [← hg.sym]; exact h5), ldT, h1, h2, s1, s2]
      unfold ldS
      simp only [Int.toNat_natCast]
      rw [getn_set (by rw [List.length_set, ldT_len]; omega), getn_set (by rw [ldT_len]; omega), getn_set (by rw [ldT_len]; omega)]
      have ih2 := hg.cnt v hv
      rw [← ih2]
      by_cases e1 : v = a
      · subst e1
        rw [if_neg (by omega : ¬ b = v), if_pos rfl, if_pos rfl, if_neg (by omega : ¬ v = b)]; omega
      · by_cases e2 : v = b
        · subst e2
          rw [if_pos rfl, if_neg (by omega : ¬ a = v), if_neg e1, if_pos rfl]; omega
        · rw [if_neg (fun e => e2 e.symm), if_neg (fun e => e1 e.symm), if_neg e1, if_neg e2]; omega
theorem share_proves {m : Nat} {es : List (Int × Int)} {gs : List Nat} (h : readF m es = some gs) {p q : Nat} {H : Nat → Nat → Int} {L : Nat → Int} {f : Nat → Int} (sp : Spread gs q H L) (hL : ∀ u ∈ ms (sAll m), L u ≤ p) (hf : shareOK es H es.length f) :
    provV es (ssF es.length f) p q = true := by
  obtain ⟨hm1, hm2, _, _⟩ := readF_ok h
  have hm : m ≤ 16 := by omega
  unfold provV
  apply decide_eq_true
  have hh : ∀ i, i < es.length → pA (ssF es.length f) i = H (pA es i).toNat (pB es i).toNat ∧ pB (ssF es.length f) i = H (pB es i).toNat (pA es i).toNat := fun i hi => by
    rw [ssF_A f hi, ssF_B f hi]; exact hf i hi
  refine ⟨ssF_len _ _, fun i hi => ?_, fun v hv => ?_⟩
  · obtain ⟨h1, h2⟩ := hh i hi
    have he := readF_edges h hi
    obtain ⟨a, ha⟩ : ∃ a : Nat, pA es i = a := ⟨(pA es i).toNat, by omega⟩
    obtain ⟨b, hb⟩ : ∃ b : Nat, pB es i = b := ⟨(pB es i).toNat, by omega⟩
    rw [ha, hb] at h1 h2 he
    simp only [Int.toNat_natCast] at h1 h2
    have hJ : Joins es a b := by
      refine ⟨es[i], List.getElem_mem _, .inl ?_⟩
      rw [pAB_get hi, ha, hb]; exact ⟨rfl, rfl⟩
    have hs := sp.sum a b (by omega) (by omega) ((readF_has h a b).2 hJ)
    have hna := sp.nn a b (by omega) (by omega)
    have hnb := sp.nn b a (by omega) (by omega)
    rw [h1, h2]
    omega
  · obtain ⟨g, hg⟩ := ld_at h sp hh es.length (Nat.le_refl _)
    have h1 := hg.cnt v hv
    have e : outG gs H v = outF H v := by
      unfold outG outF
      refine sumN_congr 16 fun u hu => ?_
      cases e : sHas (near gs v) u
      · rw [if_neg (by simp), sp.no v u hv hu e]
      · rw [if_pos rfl]
    rw [hg.pre.done, e, ← sp.load v hv] at h1
    by_cases hvm : v < m
    · have := hL v (mem_ms.2 ⟨hv, by unfold sHas; rw [all_bit]; simpa using hvm⟩)
      omega
    · have h2 := ldT_far es (ssF es.length f) (m := m) es.length (fun i hi => by have := readF_edges h hi; omega) v (by omega)
      omega
end Go.Proofs.Ytpaeagkgmbhndaa
