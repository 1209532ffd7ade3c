/- What a graph that was read has. -/
import Derived.Test.YtmfpegadcecknaaO
import Derived.Test.YtmfpegadcecknaaAK
namespace Go.Proofs.Ytmfpegadcecknaa
set_option maxHeartbeats 400000
theorem add_has {gs : List Nat} (h : Rows16 gs) {a b : Nat} (ha : a < 16) (hb : b < 16) (hne : a ≠ b) (u v : Nat) : sHas (near (addE gs a b) u) v = true ↔ sHas (near gs u) v = true ∨ (u = a ∧ v = b) ∨ (u = b ∧ v = a) := by
  unfold addE
  rw [near_set _ _ _ _ (by rw [List.length_set, h.len]; exact hb)]
  by_cases e1 : b = u
  · subst e1
    rw [if_pos rfl, with_has, near_set _ _ _ _ (by rw [h.len]; exact ha), if_neg hne]
    simp only [Bool.or_eq_true, decide_eq_true_eq]
    constructor
    · rintro (h1 | h1)
      · exact .inl h1
      · exact .inr (.inr ⟨by trivial, h1.symm⟩)
    · rintro (h1 | ⟨h1, _⟩ | ⟨_, h1⟩)
      · exact .inl h1
      · exact absurd h1.symm hne
      · exact .inr h1.symm
  · rw [if_neg e1, near_set _ _ _ _ (by rw [h.len]; exact ha)]
    by_cases e2 : a = u
    · subst e2
      rw [if_pos rfl, with_has]
      simp only [Bool.or_eq_true, decide_eq_true_eq]
      constructor
      · rintro (h1 | h1)
        · exact .inl h1
        · exact .inr (.inl ⟨by trivial, h1.symm⟩)
      · rintro (h1 | ⟨_, h1⟩ | ⟨h1, _⟩)
        · exact .inl h1
        · exact .inr h1.symm
        · exact absurd h1.symm e1
    · rw [if_neg e2]
      constructor
      · exact .inl
      · rintro (h1 | ⟨h1, _⟩ | ⟨h1, _⟩)
        · exact h1
        · exact absurd h1.symm e2
        · exact absurd h1.symm e1
/-- Some edge joins u and v. -/
def Joins (es : List (Int × Int)) (u v : Nat) : Prop := ∃ e ∈ es, (e.1 = u ∧ e.2 = v) ∨ (e.1 = v ∧ e.2 = u)
theorem rd_has {n : Nat} (hn : n ≤ 16) : ∀ (es : List (Int × Int)) (gs gs' : List Nat), Rows16 gs → rd n es gs = some gs' → ∀ u v, sHas (near gs' u) v = true ↔ sHas (near gs u) v = true ∨ Joins es u v := by
  intro es
  induction es with
  | nil => intro gs gs' h he u v; simp [rd] at he; subst he; simp [Joins]
  | cons e es ih =>
    intro gs gs' h he u v
    rw [rd] at he
    split at he
    · rename_i hok
      unfold okE at hok
      simp only [Bool.and_eq_true, decide_eq_true_eq] at hok
      obtain ⟨g1, g2, g3, _⟩ := hok
      rw [ih _ _ (h.addE (by omega) (by omega)) he u v, add_has h (by omega) (by omega) (by omega)]
      unfold Joins
      constructor
      · rintro ((h1 | ⟨h1, h2⟩ | ⟨h1, h2⟩) | ⟨x, hx, h1⟩)
        · exact .inl h1
        · exact .inr ⟨e, List.mem_cons_self .., .inl ⟨by omega, by omega⟩⟩
        · exact .inr ⟨e, List.mem_cons_self .., .inr ⟨by omega, by omega⟩⟩
        · exact .inr ⟨x, List.mem_cons_of_mem _ hx, h1⟩
      · rintro (h1 | ⟨x, hx, h1⟩)
        · exact .inl (.inl h1)
        · rcases List.mem_cons.1 hx with rfl | hx
          · rcases h1 with ⟨h1, h2⟩ | ⟨h1, h2⟩
            · exact .inl (.inr (.inl ⟨by omega, by omega⟩))
            · exact .inl (.inr (.inr ⟨by omega, by omega⟩))
          · exact .inr ⟨x, hx, h1⟩
    · cases he
theorem readF_has {m : Nat} {es : List (Int × Int)} {gs : List Nat} (h : readF m es = some gs) (u v : Nat) : sHas (near gs u) v = true ↔ Joins es u v := by
  unfold readF at h
  split at h
  · rename_i hn
    rw [rd_has (by omega) es _ _ rows_zero h]
    have : sHas (near (List.replicate 16 0) u) v = false := by unfold near sHas; rw [List.getElem?_replicate]; split <;> simp
    rw [this]; simp
  · cases h
theorem readF_sym {m : Nat} {es : List (Int × Int)} {gs : List Nat} (h : readF m es = some gs) (u v : Nat) : sHas (near gs u) v = sHas (near gs v) u := by
  rw [Bool.eq_iff_iff, readF_has h, readF_has h]
  unfold Joins
  constructor
  · rintro ⟨e, he, h1⟩; exact ⟨e, he, h1.symm⟩
  · rintro ⟨e, he, h1⟩; exact ⟨e, he, h1.symm⟩
theorem readF_low {m : Nat} {es : List (Int × Int)} {gs : List Nat} (h : readF m es = some gs) {u v : Nat} (hu : sHas (near gs u) v = true) : u < m := by
  obtain ⟨e, he, h1⟩ := (readF_has h u v).1 hu
  obtain ⟨k, hk, rfl⟩ := List.getElem_of_mem he
  have h2 := readF_edges h hk
  have e1 : pA es k = es[k].1 := by unfold pA; rw [List.getD_eq_getElem?_getD, List.getElem?_eq_getElem hk]; rfl
  have e2 : pB es k = es[k].2 := by unfold pB; rw [List.getD_eq_getElem?_getD, List.getElem?_eq_getElem hk]; rfl
  rw [e1, e2] at h2
  omega
/-- All pieces given to the smaller ends are a spread. -/
theorem Giv.spread {m : Nat} {es : List (Int × Int)} {gs : List Nat} (h : readF m es = some gs) {pcs : Int} (hp0 : 0 ≤ pcs) {k : Nat} {H : Nat → Nat → Int} {L : Nat → Int} (g : Giv pcs (Gout gs (ms (sAll m))) True k H L) : Spread gs pcs H L := by
  obtain ⟨hm1, hm2, hg, hI⟩ := readF_ok h
  have hall : ∀ u v, sHas (near gs u) v = true → u ∈ ms (sAll m) := fun u v hu => by
    have := readF_low h hu
    exact mem_ms.2 ⟨by omega, by unfold sHas; rw [all_bit]; simpa using this⟩
  have hir : ∀ u v, u < 16 → sHas (near gs u) v = true → u ≠ v := fun u v hu h1 e => by subst e; rw [hI u hu] at h1; cases h1
  refine ⟨fun u v hu hv => ?_, fun u v hu hv h1 => ?_, fun u v hu hv h1 => ?_, fun v hv => g.load trivial v hv⟩
  · by_cases e : Gout gs (ms (sAll m)) u v
    · rw [g.yes u v hu hv e]; exact hp0
    · rw [g.no u v hu hv e]; exact Int.le_refl _
  · have h2 : sHas (near gs v) u = true := by rw [← readF_sym h]; exact h1
    rcases Nat.lt_or_gt_of_ne (hir u v hu h1) with h3 | h3
    · rw [g.yes u v hu hv ⟨hall u v h1, h1, h3⟩, g.no v u hv hu (fun e => by have := e.2.2; omega)]; omega
    · rw [g.yes v u hv hu ⟨hall v u h2, h2, h3⟩, g.no u v hu hv (fun e => by have := e.2.2; omega)]; omega
  · exact g.no u v hu hv (fun e => by have := e.2.1; rw [h1] at this; cases this)
end Go.Proofs.Ytmfpegadcecknaa
