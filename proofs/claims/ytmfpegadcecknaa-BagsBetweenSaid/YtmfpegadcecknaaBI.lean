/- Orientations: as many heads as pieces. -/
import Derived.Test.YtmfpegadcecknaaBE
import Derived.Test.YtmfpegadcecknaaAF
namespace Go.Proofs.Ytmfpegadcecknaa
set_option maxHeartbeats 400000
theorem mem_natI {xs : List Nat} {v : Nat} : (v : Int) ∈ natI xs ↔ v ∈ xs := by
  unfold natI
  rw [List.mem_map]
  constructor
  · rintro ⟨x, hx, e⟩
    have : x = v := by omega
    subst this; exact hx
  · intro h; exact ⟨v, h, rfl⟩
theorem upTo_asc (s : Nat) : ∀ k i j, i < j → j < (upTo s k).length → getn (upTo s k) i < getn (upTo s k) j
  | 0, _, j, _, hj => absurd hj (by simp [upTo])
  | k + 1, i, j, hij, hj => by
    cases h : sHas s k
    · rw [upTo_no h] at hj ⊢; exact upTo_asc s k i j hij hj
    · rw [upTo_yes h] at hj ⊢
      have hl : (upTo s k ++ [k]).length = (upTo s k).length + 1 := by simp
      rw [getn_app (by omega), getn_app (by omega)]
      by_cases e : j < (upTo s k).length
      · rw [if_pos (by omega), if_pos e]; exact upTo_asc s k i j hij e
      · rw [if_pos (by omega), if_neg e]
        have hm := getn_mem (show i < (upTo s k).length by omega)
        unfold upTo at hm
        have := (List.mem_filter.1 hm).1
        simpa [upTo] using this
theorem ms_asc (s : Nat) : ∀ i j, i < j → j < (ms s).length → getn (ms s) i < getn (ms s) j := upTo_asc s 16
theorem ms_set {m s : Nat} (hs : s < 65536) (h0 : s ≠ 0) (hm : ∀ v, sHas s v = true → v < m) : IsSet m (natI (ms s)) := by
  refine ⟨fun i hi => ?_, ?_⟩
  · rw [natI_len] at hi
    have h1 := hm _ (mem_ms.1 (getn_mem hi)).2
    rw [geti_natI, geti_natI]
    refine ⟨by omega, by omega, fun hp => ?_⟩
    have := ms_asc s (i - 1) i (by omega) hi
    omega
  · rw [natI_len]; exact List.length_pos_iff.2 (ms_ne hs h0)
theorem ms_has {s v : Nat} (hs : s < 65536) : (v : Int) ∈ natI (ms s) ↔ sHas s v = true := by rw [mem_natI, mem_ms' hs]
theorem ms_pc (s : Nat) : (ms s).length = pc 16 s := rfl
/-- The pieces of the edges so far. -/
def outG (g : List Nat) (H : Nat → Nat → Int) (v : Nat) : Int := sumN 16 (fun u => if sHas (near g v) u = true then H v u else 0)
theorem outG_zero (H : Nat → Nat → Int) (v : Nat) : outG Z16 H v = 0 := by
  unfold outG
  refine (sumN_congr 16 (fun u _ => if_neg ?_)).trans (sumN_zero 16)
  unfold near sHas; rw [List.getElem?_replicate]; split <;> simp
theorem outG_add {g : List Nat} (hr : Rows16 g) {a b : Nat} (ha : a < 16) (hb : b < 16) (hab : a ≠ b) (hn : sHas (near g a) b = false) (hn2 : sHas (near g b) a = false) (H : Nat → Nat → Int) (v : Nat) :
    outG (addE g a b) H v = outG g H v + (if v = a then H a b else 0) + (if v = b then H b a else 0) := by
  have hadd := fun u v => add_has hr ha hb hab u v
  have key : ∀ x y, y < 16 → (∀ u, sHas (near (addE g a b) x) u = true ↔ sHas (near g x) u = true ∨ u = y) → sHas (near g x) y = false → outG (addE g a b) H x = outG g H x + H x y := by
    intro x y hy h hxy
    unfold outG
    have h1 : sumN 16 (fun u => if sHas (near (addE g a b) x) u = true then H x u else 0) = sumN 16 (fun u => (if sHas (near g x) u = true then H x u else 0) + (if u = y then H x y else 0)) := by
      refine sumN_congr 16 fun u _ => ?_
      by_cases e : u = y
      · subst e
        rw [if_pos ((h u).2 (.inr rfl)), if_neg (by rw [hxy]; simp), if_pos rfl, Int.zero_add]
      · rw [if_neg e, Int.add_zero]
        by_cases e2 : sHas (near g x) u = true
        · rw [if_pos ((h u).2 (.inl e2)), if_pos e2]
        · rw [if_neg (fun hh => ((h u).1 hh).elim e2 e), if_neg e2]
    rw [h1, sumN_add, sumN_one, if_pos hy]
  by_cases e1 : v = a
  · subst e1
    rw [if_pos rfl, if_neg hab, Int.add_zero, key v b hb (fun u => by
      rw [hadd]
      constructor
      · rintro (h | ⟨_, h⟩ | ⟨h, _⟩)
        · exact .inl h
        · exact .inr h
        · exact absurd h hab
      · rintro (h | h)
        · exact .inl h
        · exact .inr (.inl ⟨rfl, h⟩)) hn]
  · rw [if_neg e1, Int.add_zero]
    by_cases e2 : v = b
    · subst e2
      rw [if_pos rfl, key v a ha (fun u => by
        rw [hadd]
        constructor
        · rintro (h | ⟨h, _⟩ | ⟨_, h⟩)
          · exact .inl h
          · exact absurd h.symm hab
          · exact .inr h
        · rintro (h | h)
          · exact .inl h
          · exact .inr (.inr ⟨rfl, h⟩)) hn2]
    · rw [if_neg e2, Int.add_zero]
      unfold outG
      refine sumN_congr 16 fun u _ => ?_
      have := hadd v u
      by_cases e3 : sHas (near g v) u = true
      · rw [if_pos (this.2 (.inl e3)), if_pos e3]
      · rw [if_neg (fun hh => (this.1 hh).elim e3 (fun h => h.elim (fun h => e1 h.1) (fun h => e2 h.1))), if_neg e3]
structure CntI (m : Nat) (es : List (Int × Int)) (gs : List Nat) (H : Nat → Nat → Int) (hs : List Int) (k : Nat) (g : List Nat) : Prop where
  pre : PreI m es gs k g
  sym : ∀ x y, sHas (near g x) y = sHas (near g y) x
  sub : ∀ x y, sHas (near g x) y = true → sHas (near gs x) y = true
  cnt : ∀ v, v < 16 → (getn (cntT hs k) v : Int) = outG g H v
theorem cnt_at {m : Nat} {es : List (Int × Int)} {gs : List Nat} (h : readF m es = some gs) {H : Nat → Nat → Int} {L : Nat → Int} (sp : Spread gs 1 H L) {hs : List Nat} (hl : hs.length = es.length) (hh : headsOK es H es.length hs) : ∀ k, k ≤ es.length → ∃ g, CntI m es gs H (natI hs) k g := by
  have hm : m ≤ 16 := by have := readF_ok h; omega
  intro k
  induction k with
  | zero =>
    refine fun _ => ⟨Z16, PreI.start h, fun x y => by unfold near sHas; rw [List.getElem?_replicate, List.getElem?_replicate]; split <;> split <;> simp, fun x y hx => ?_, fun v _ => ?_⟩
    · unfold near sHas at hx; rw [List.getElem?_replicate] at hx; split at hx <;> simp at hx
    · rw [outG_zero]; show (getn zer v : Int) = 0; rw [getn_zer]; rfl
  | succ k ih =>
    intro hk
    obtain ⟨g, hg⟩ := ih (by omega)
    obtain ⟨a, b, h1, h2, h3, h4, h5, h6⟩ := hg.pre.edge (by omega) hm
    have hadd := fun u v => add_has hg.pre.rows (a := a) (b := b) (by omega) (by omega) (by omega) u v
    have hJ : Joins es a b := by
      refine ⟨es[k], List.getElem_mem _, .inl ?_⟩
      have e1 : pA es k = es[k].1 := by unfold pA; rw [List.getD_eq_getElem?_getD, List.getElem?_eq_getElem (by omega)]; rfl
      have e2 : pB es k = es[k].2 := by unfold pB; rw [List.getD_eq_getElem?_getD, List.getElem?_eq_getElem (by omega)]; rfl
      exact ⟨by rw [← e1, h1], by rw [← e2, h2]⟩
    have hgab : sHas (near gs a) b = true := (readF_has h a b).2 hJ
    have hgba : sHas (near gs b) a = true := by rw [readF_sym h]; exact hgab
    refine ⟨addE g a b, h6, fun x y => ?_, fun x y hx => ?_, fun v hv => ?_⟩
    · rw [Bool.eq_iff_iff, hadd, hadd, hg.sym]
      constructor
      · rintro (h | ⟨h, h'⟩ | ⟨h, h'⟩)
        · exact .inl h
        · exact .inr (.inr ⟨h', h⟩)
        · exact .inr (.inl ⟨h', h⟩)
      · rintro (h | ⟨h, h'⟩ | ⟨h, h'⟩)
        · exact .inl h
        · exact .inr (.inr ⟨h', h⟩)
        · exact .inr (.inl ⟨h', h⟩)
    · rcases (hadd x y).1 hx with h | ⟨rfl, rfl⟩ | ⟨rfl, rfl⟩
      · exact hg.sub x y h
      · exact hgab
      · exact hgba
    · have hsum := sp.sum a b (by omega) (by omega) hgab
      have hna := sp.nn a b (by omega) (by omega)
      have hnb := sp.nn b a (by omega) (by omega)
      have hhk := hh k (by omega)
      rw [h1, h2] at hhk
      simp only [Int.toNat_natCast] at hhk
      rw [outG_add hg.pre.rows (by omega) (by omega) (by omega) h5 (by rw [← hg.sym]; exact h5), cntT_succ (by rw [natI_len]; omega), getn_set (by rw [cntT_len, geti_natI]; simp; split at hhk <;> omega), geti_natI]
      have ih2 := hg.cnt v hv
      rw [← ih2]
      simp only [Int.toNat_natCast]
      by_cases e0 : 0 < H b a
      · rw [if_pos e0] at hhk
        have e3 : getn hs k = b := by omega
        rw [e3]
        by_cases e1 : v = a
        · subst e1; rw [if_neg (by omega), if_pos rfl, if_neg (by omega)]; omega
        · rw [if_neg e1]
          by_cases e2 : v = b
          · subst e2; rw [if_pos rfl, if_pos rfl]; omega
          · rw [if_neg (fun e => e2 e.symm), if_neg e2]; omega
      · rw [if_neg e0] at hhk
        have e3 : getn hs k = a := by omega
        rw [e3]
        by_cases e1 : v = a
        · subst e1; rw [if_pos rfl, if_pos rfl, if_neg (by omega)]; omega
        · rw [if_neg e1, if_neg (fun e => e1 e.symm)]
          by_cases e2 : v = b
          · subst e2; rw [if_pos rfl]; omega
          · rw [if_neg e2]; omega
/-- The heads' counts are the loads. -/
theorem cnt_load {m : Nat} {es : List (Int × Int)} {gs : List Nat} (h : readF m es = some gs) {H : Nat → Nat → Int} {L : Nat → Int} (sp : Spread gs 1 H L) {hs : List Nat} (hl : hs.length = es.length) (hh : headsOK es H es.length hs) {v : Nat} (hv : v < 16) : (getn (cntT (natI hs) es.length) v : Int) = L v := by
  obtain ⟨g, hg⟩ := cnt_at h sp hl hh es.length (Nat.le_refl _)
  rw [hg.cnt v hv, hg.pre.done, sp.load v hv]
  unfold outG outF
  refine sumN_congr 16 fun u hu => ?_
  cases e : sHas (near gs v) u
  · rw [if_neg (by simp), sp.no v u hv hu e]
  · rw [if_pos rfl]
end Go.Proofs.Ytmfpegadcecknaa
