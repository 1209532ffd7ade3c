/- Cores by removing: the numbers that arise are the greatest of sets in which all have so many neighbors. -/
import Derived.Test.YtmfpegadcecknaaAT
namespace Go.Proofs.Ytmfpegadcecknaa
set_option maxHeartbeats 400000
/-- The graph of the first edges. -/
structure PreI (m : Nat) (es : List (Int × Int)) (gs : List Nat) (k : Nat) (g : List Nat) : Prop where
  rows : Rows16 g
  rest : rd m (es.drop k) g = some gs
theorem PreI.start {m : Nat} {es : List (Int × Int)} {gs : List Nat} (h : readF m es = some gs) : PreI m es gs 0 Z16 := by
  unfold readF at h
  split at h
  · exact ⟨rows_zero, by rw [List.drop_zero]; exact h⟩
  · cases h
theorem PreI.done {m : Nat} {es : List (Int × Int)} {gs g : List Nat} (h : PreI m es gs es.length g) : g = gs := by
  have := h.rest
  rw [List.drop_length, rd] at this
  exact Option.some.inj this
theorem PreI.edge {m : Nat} {es : List (Int × Int)} {gs g : List Nat} {k : Nat} (h : PreI m es gs k g) (hk : k < es.length) (hm : m ≤ 16) :
    ∃ a b : Nat, pA es k = a ∧ pB es k = b ∧ a < b ∧ b < m ∧ sHas (near g a) b = false ∧ PreI m es gs (k + 1) (addE g a b) := by
  have h1 := h.rest
  rw [rd_step hk] at h1
  split at h1
  · rename_i hok
    unfold okE at hok
    simp only [Bool.and_eq_true, decide_eq_true_eq, Bool.not_eq_true'] at hok
    obtain ⟨g1, g2, g3, g4⟩ := hok
    refine ⟨(pA es k).toNat, (pB es k).toNat, by omega, by omega, by omega, by omega, g4, h.rows.addE (by omega) (by omega), h1⟩
  · cases h1
theorem nb_add {g : List Nat} (hr : Rows16 g) {a b : Nat} (ha : a < 16) (hb : b < 16) (hab : a ≠ b) (hn : sHas (near g a) b = false) (hn2 : sHas (near g b) a = false) (S v : Nat) :
    nb (addE g a b) S v = nb g S v + if (a = v ∧ sHas S b = true) ∨ (b = v ∧ sHas S a = true) then 1 else 0 := by
  have key : ∀ x y, x < 16 → (∀ u, sHas (near (addE g a b) x) u = true ↔ sHas (near g x) u = true ∨ u = y) → y < 16 → sHas (near g x) y = false → nb (addE g a b) S x = nb g S x + if sHas S y = true then 1 else 0 := by
    intro x y hx h hy hxy
    unfold nb
    have hl := hr.near_lt x
    by_cases hs : sHas S y = true
    · rw [if_pos hs, ← pc_with (sAnd_lt hl) hy (by unfold sHas at *; rw [sAnd_bit, hxy]; rfl)]
      congr 1
      refine Nat.eq_of_testBit_eq fun i => ?_
      rw [sAnd_bit, with_bit, sAnd_bit, Bool.eq_iff_iff]
      have := h i
      unfold sHas at this hs
      simp only [Bool.and_eq_true, Bool.or_eq_true, decide_eq_true_eq, this]
      constructor
      · rintro ⟨h1 | h1, h2⟩
        · exact .inl ⟨h1, h2⟩
        · exact .inr h1.symm
      · rintro (⟨h1, h2⟩ | h1)
        · exact ⟨.inl h1, h2⟩
        · subst h1; exact ⟨.inr rfl, hs⟩
    · rw [if_neg hs, Nat.add_zero]
      congr 1
      refine Nat.eq_of_testBit_eq fun i => ?_
      rw [sAnd_bit, sAnd_bit, Bool.eq_iff_iff]
      have := h i
      unfold sHas at this hs
      simp only [Bool.and_eq_true, this]
      constructor
      · rintro ⟨h1 | h1, h2⟩
        · exact ⟨h1, h2⟩
        · subst h1; exact absurd h2 hs
      · rintro ⟨h1, h2⟩; exact ⟨.inl h1, h2⟩
  have hadd := fun u v => add_has hr ha hb hab u v
  by_cases e1 : a = v
  · subst e1
    rw [key a b ha (fun u => by
      rw [hadd]
      constructor
      · rintro (h | ⟨_, h⟩ | ⟨h, _⟩)
        · exact .inl h
        · exact .inr h
        · exact absurd h hab
      · rintro (h | h)
        · exact .inl h
        · exact .inr (.inl ⟨rfl, h⟩)) hb hn]
    congr 1
    by_cases hs : sHas S b = true
    · rw [if_pos hs, if_pos (.inl ⟨rfl, hs⟩)]
    · rw [if_neg hs, if_neg (fun h => h.elim (fun h => hs h.2) (fun h => hab h.1.symm))]
  · by_cases e2 : b = v
    · subst e2
      rw [key b a hb (fun u => by
        rw [hadd]
        constructor
        · rintro (h | ⟨h, _⟩ | ⟨_, h⟩)
          · exact .inl h
          · exact absurd h.symm hab
          · exact .inr h
        · rintro (h | h)
          · exact .inl h
          · exact .inr (.inr ⟨rfl, h⟩)) ha hn2]
      congr 1
      by_cases hs : sHas S a = true
      · rw [if_pos hs, if_pos (.inr ⟨rfl, hs⟩)]
      · rw [if_neg hs, if_neg (fun h => h.elim (fun h => e1 h.1) (fun h => hs h.2))]
    · rw [if_neg (fun h => h.elim (fun h => e1 h.1) (fun h => e2 h.1)), Nat.add_zero]
      unfold nb
      congr 2
      refine Nat.eq_of_testBit_eq fun i => ?_
      have := hadd v i
      unfold sHas at this
      rw [Bool.eq_iff_iff, this]
      constructor
      · rintro (h | ⟨h, _⟩ | ⟨h, _⟩)
        · exact h
        · exact absurd h.symm e1
        · exact absurd h.symm e2
      · exact .inl
theorem pc_mono {s t : Nat} (h : ∀ v, v < 16 → sHas s v = true → sHas t v = true) : pc 16 s ≤ pc 16 t := by
  have h1 := pc_sum s
  have h2 := pc_sum t
  have h3 : sumN 16 (fun v => if sHas s v = true then 1 else 0) ≤ sumN 16 (fun v => if sHas t v = true then 1 else 0) := by
    have mono : ∀ {f g : Nat → Int} n, (∀ i, i < n → f i ≤ g i) → sumN n f ≤ sumN n g := by
      intro f g n
      induction n with
      | zero => intro _; exact Int.le_refl _
      | succ n ih => intro h; rw [sumN_s, sumN_s]; have := ih (fun i hi => h i (by omega)); have := h n (by omega); omega
    refine mono 16 fun v hv => ?_
    by_cases e : sHas s v = true
    · rw [if_pos e, if_pos (h v hv e)]; exact Int.le_refl _
    · rw [if_neg e]; split <;> omega
  omega
theorem nb_mono {gs : List Nat} {S T : Nat} (h : ∀ v, v < 16 → sHas S v = true → sHas T v = true) (v : Nat) : nb gs S v ≤ nb gs T v := by
  unfold nb
  refine pc_mono fun u hu hs => ?_
  unfold sHas at *
  rw [sAnd_bit, Bool.and_eq_true] at hs ⊢
  exact ⟨hs.1, h u hu hs.2⟩
/-- All of the set have at least k neighbors in it. -/
def Dense (gs : List Nat) (k T : Nat) : Prop := ∀ u, u < 16 → sHas T u = true → k ≤ nb gs T u
theorem core_spec {gs : List Nat} (hI : Irr gs) (m : Nat) : ∀ (n S G : Nat) (cs : List Nat), S < 65536 → pc 16 S = n → cs.length = m → (∀ v, sHas S v = true → v < m) →
    ((peelL gs n S).foldl coreS (G, cs)).2.length = m ∧ (∀ v, sHas S v = false → getn ((peelL gs n S).foldl coreS (G, cs)).2 v = getn cs v) ∧
    ∀ v k, sHas S v = true → (k ≤ getn ((peelL gs n S).foldl coreS (G, cs)).2 v ↔ k ≤ G ∨ ∃ T, T < 65536 ∧ (∀ u, u < 16 → sHas T u = true → sHas S u = true) ∧ sHas T v = true ∧ Dense gs k T) := by
  intro n
  induction n with
  | zero =>
    intro S G cs hS hp hl hm
    refine ⟨hl, fun v _ => rfl, fun v k hv => ?_⟩
    have h0 : S ≠ 0 := fun e => by subst e; simp [sHas] at hv
    have := pc_pos hS h0; omega
  | succ n ih =>
    intro S G cs hS hp hl hm
    have h0 : S ≠ 0 := fun e => by
      subst e
      have h2 : pc 16 0 = 0 := by decide
      rw [h2] at hp; cases hp
    obtain ⟨hb16, hbS⟩ := lone_mem hI hS h0
    obtain ⟨_, hs2, hs3⟩ := lone_spec gs S (ms S) (fun v hv => nb_lt hI (mem_ms.1 hv).1)
    have hbf := (hs2 (ms_ne hS h0)).2
    have hpw := pc_without hS hb16 hbS
    have hle : ∀ v, v < 16 → sHas S v = true → loneF gs S (ms S) ≤ nb gs S v := fun v hv h => hs3 v (mem_ms.2 ⟨hv, h⟩)
    have hbm := hm _ hbS
    rw [peelL, List.foldl_cons]
    generalize loneB gs S (ms S) = b at *
    generalize loneF gs S (ms S) = f at *
    have hwb : ∀ j, sHas (sWithout S b) j = (sHas S j && !decide (b = j)) := fun j => without_bit S b j hS hb16
    have hG : coreS (G, cs) (b, f) = (if G < f then f else G, cs.set b (if G < f then f else G)) := rfl
    rw [hG]
    obtain ⟨i1, i2, i3⟩ := ih (sWithout S b) (if G < f then f else G) (cs.set b (if G < f then f else G)) (without_lt hS) (by omega) (by rw [List.length_set]; exact hl) (fun v hv => hm v (by rw [hwb] at hv; simp at hv; exact hv.1))
    have hSd : Dense gs f S := fun u hu h => hle u hu h
    have hTb : ∀ {T k}, (∀ u, u < 16 → sHas T u = true → sHas S u = true) → sHas T b = true → Dense gs k T → k ≤ f := fun hT hb hd => by
      have h1 := hd b hb16 hb
      have h2 := nb_mono (gs := gs) hT b
      omega
    refine ⟨i1, fun v hv => ?_, fun v k hv => ?_⟩
    · have hne : b ≠ v := fun e => by subst e; rw [hbS] at hv; cases hv
      rw [i2 v (by rw [hwb, hv]; rfl), getn_set (by omega), if_neg hne]
    · by_cases e : b = v
      · subst e
        rw [i2 b (by rw [hwb]; simp), getn_set (by omega), if_pos rfl]
        constructor
        · intro hk
          by_cases hg : k ≤ G
          · exact .inl hg
          · refine .inr ⟨S, hS, fun _ _ h => h, hbS, fun u hu h => ?_⟩
            have := hle u hu h
            split at hk <;> omega
        · rintro (hg | ⟨T, hT, hTS, hTv, hTd⟩)
          · split <;> omega
          · have := hTb hTS hTv hTd
            split <;> omega
      · rw [i3 v k (by rw [hwb, hv]; simp [e])]
        constructor
        · rintro (hk | ⟨T, hT, hTS, hTv, hTd⟩)
          · by_cases hg : k ≤ G
            · exact .inl hg
            · refine .inr ⟨S, hS, fun _ _ h => h, hv, fun u hu h => ?_⟩
              have := hle u hu h
              split at hk <;> omega
          · exact .inr ⟨T, hT, fun u hu h => by have := hTS u hu h; rw [hwb] at this; simp at this; exact this.1, hTv, hTd⟩
        · rintro (hg | ⟨T, hT, hTS, hTv, hTd⟩)
          · left; split <;> omega
          · cases hTb' : sHas T b
            · right
              refine ⟨T, hT, fun u hu h => ?_, hTv, hTd⟩
              rw [hwb, hTS u hu h]
              have : b ≠ u := fun e => by subst e; rw [hTb'] at h; cases h
              simp [this]
            · left
              have := hTb hTS hTb' hTd
              split <;> omega
/-- The core numbers. -/
theorem core_iff {gs : List Nat} (hI : Irr gs) {m : Nat} (hm : m ≤ 16) {v : Nat} (hv : v < m) (k : Nat) :
    k ≤ getn (coreF m gs) v ↔ k ≤ 0 ∨ ∃ T, T < 65536 ∧ (∀ u, u < 16 → sHas T u = true → u < m) ∧ sHas T v = true ∧ Dense gs k T := by
  have hall : ∀ u, sHas (sAll m) u = true ↔ u < m := fun u => by unfold sHas; rw [all_bit]; simp
  obtain ⟨_, _, h3⟩ := core_spec hI m m (sAll m) 0 (List.replicate m 0) (all_lt hm) (pc_all hm) (by simp) (fun u hu => (hall u).1 hu)
  have := h3 v k ((hall v).2 hv)
  unfold coreF coreL
  rw [this]
  simp only [hall]
/-- The greatest set in which all have k neighbors: those whose core number is at least k. -/
theorem core_set {gs : List Nat} (hI : Irr gs) {m : Nat} (hm : m ≤ 16) {k C : Nat} (hk : 1 ≤ k) (hC : C < 65536) (hCm : ∀ u, sHas C u = true → u < m) (hd : Dense gs k C)
    (hmax : ∀ T, T < 65536 → (∀ u, u < 16 → sHas T u = true → u < m) → Dense gs k T → ∀ u, u < 16 → sHas T u = true → sHas C u = true) {v : Nat} (hv : v < m) : sHas C v = true ↔ k ≤ getn (coreF m gs) v := by
  rw [core_iff hI hm hv]
  constructor
  · intro h; exact .inr ⟨C, hC, fun u _ h => hCm u h, h, hd⟩
  · rintro (h | ⟨T, hT, hTm, hTv, hTd⟩)
    · omega
    · exact hmax T hT hTm hTd v (by omega) hTv
theorem core_lt {gs : List Nat} {m : Nat} (hI : Irr gs) (hlow : ∀ u v, sHas (near gs u) v = true → v < m) (hm : m ≤ 16) {v : Nat} (hv : v < m) : getn (coreF m gs) v < m := by
  rcases (core_iff hI hm hv (getn (coreF m gs) v)).1 (Nat.le_refl _) with h | ⟨T, hT, hTm, hTv, hTd⟩
  · omega
  · have h1 := hTd v (by omega) hTv
    have h2 : nb gs T v < m := by
      unfold nb
      have e : pc 16 (sAll m) = m := pc_all hm
      have h3 : pc 16 (sAnd (near gs v) T) + 1 ≤ pc 16 (sAll m) := by
        have hv0 : sHas (sAnd (near gs v) T) v = false := by
          unfold sHas; rw [sAnd_bit]; have := hI v (by omega); unfold sHas at this; rw [this]; rfl
        have hl : sAnd (near gs v) T < 65536 := Nat.lt_of_le_of_lt Nat.and_le_right hT
        rw [← pc_with hl (by omega) hv0]
        refine pc_mono fun u hu h => ?_
        rw [with_has] at h
        unfold sHas; rw [all_bit]
        simp only [Bool.or_eq_true, decide_eq_true_eq] at h
        rcases h with h | h
        · unfold sHas at h; rw [sAnd_bit, Bool.and_eq_true] at h
          simpa using hlow v u h.1
        · subst h; simpa using hv
      omega
    omega
end Go.Proofs.Ytmfpegadcecknaa
