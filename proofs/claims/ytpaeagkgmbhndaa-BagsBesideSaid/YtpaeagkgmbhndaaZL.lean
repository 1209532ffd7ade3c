/- Parts AY AZ BA BB of the proof, in this order. -/
import Derived.Test.YtpaeagkgmbhndaaZJ
import Derived.Deep.LoopGhost
import Derived.Test.YtpaeagkgmbhndaaZD
/- Cores by removing: the numbers that arise are the greatest of sets in which all have so many neighbors. -/
namespace Go.Proofs.Ytpaeagkgmbhndaa
set_option maxHeartbeats 400000
/-- The graph of the first edges. -/
structure PreI (m : Nat) (es : List (Int × Int)) (gs : List Nat) (k : Nat) (g : List Nat) : Prop where
  rows : Rows16 g
  rest : rd m (es.drop k) g = some gs
theorem PreI.start {m : Nat} {es : List (Int × Int)} {gs : List Nat} (h : readF m es = some gs) : PreI m es gs 0 Z16 := by
  unfold readF at h
  split at h
  · exact ⟨rows_zero, by rw [List.drop_zero]; exact h⟩
  · cases h
theorem PreI.done {m : Nat} {es : List (Int × Int)} {gs g : List Nat} (h : PreI m es gs es.length g) : g = gs := by
  have := h.rest
  rw [List.drop_length, rd] at this
  exact Option.some.inj this
theorem PreI.edge {m : Nat} {es : List (Int × Int)} {gs g : List Nat} {k : Nat} (h : PreI m es gs k g) (hk : k < es.length) (hm : m ≤ 16) :
    ∃ a b : Nat, pA es k = a ∧ pB es k = b ∧ a < b ∧ b < m ∧ sHas (near g a) b = false ∧ PreI m es gs (k + 1) (addE g a b) := by
  have h1 := h.rest
  rw [rd_step hk] at h1
  split at h1
  · rename_i hok
    unfold okE at hok
    simp only [Bool.and_eq_true, decide_eq_true_eq, Bool.not_eq_true'] at hok
    obtain ⟨g1, g2, g3, g4⟩ := hok
    refine ⟨(pA es k).toNat, (pB es k).toNat, by omega, by omega, by omega, by omega, g4, h.rows.addE (by omega) (by omega), h1⟩
  · cases h1
theorem nb_add {g : List Nat} (hr : Rows16 g) {a b : Nat} (ha : a < 16) (hb : b < 16) (hab : a ≠ b) (hn : sHas (near g a) b = false) (hn2 : sHas (near g b) a = false) (S v : Nat) :
    nb (addE g a b) S v = nb g S v + if (a = v ∧ sHas S b = true) ∨ (b = v ∧ sHas S a = true) then 1 else 0 := by
  have key : ∀ x y, x < 16 → (∀ u, sHas (near (addE g a b) x) u = true ↔ sHas (near g x) u = true ∨ u = y) → y < 16 → sHas (near g x) y = false → nb (addE g a b) S x = nb g S x + if sHas S y = true then 1 else 0 := by
    intro x y hx h hy hxy
    unfold nb
    have hl := hr.near_lt x
    by_cases hs : sHas S y = true
    · rw [if_pos hs, ← pc_with (sAnd_lt hl) hy (by unfold sHas at *; rw [sAnd_bit, hxy]; rfl)]
      congr 1
      refine Nat.eq_of_testBit_eq fun i => ?_
      rw [sAnd_bit, with_bit, sAnd_bit, Bool.eq_iff_iff]
      have := h i
      unfold sHas at this hs
      simp only [Bool.and_eq_true, Bool.or_eq_true, decide_eq_true_eq, this]
      constructor
      · rintro ⟨h1 | h1, h2⟩
        · exact .inl ⟨h1, h2⟩
        · exact .inr h1.symm
      · rintro (⟨h1, h2⟩ | h1)
        · exact ⟨.inl h1, h2⟩
        · subst h1; exact ⟨.inr rfl, hs⟩
    · rw [if_neg hs, Nat.add_zero]
      congr 1
      refine Nat.eq_of_testBit_eq fun i => ?_
      rw [sAnd_bit, sAnd_bit, Bool.eq_iff_iff]
      have := h i
      unfold sHas at this hs
      simp only [Bool.and_eq_true, this]
      constructor
      · rintro ⟨h1 | h1, h2⟩
        · exact ⟨h1, h2⟩
        · subst h1; exact absurd h2 hs
      · rintro ⟨h1, h2⟩; exact ⟨.inl h1, h2⟩
  have hadd := fun u v => add_has hr ha hb hab u v
  by_cases e1 : a = v
  · subst e1
    rw [key a b ha (fun u => by
      rw [hadd]
      constructor
      · rintro (h | ⟨_, h⟩ | ⟨h, _⟩)
        · exact .inl h
        · exact .inr h
        · exact absurd h hab
      · rintro (h | h)
        · exact .inl h
        · exact .inr (.inl ⟨rfl, h⟩)) hb hn]
    congr 1
    by_cases hs : sHas S b = true
    · rw [if_pos hs, if_pos (.inl ⟨rfl, hs⟩)]
    · rw [if_neg hs, if_neg (fun h => h.elim (fun h => hs h.2) (fun h => hab h.1.symm))]
  · by_cases e2 : b = v
    · subst e2
      rw [key b a hb (fun u => by
        rw [hadd]
        constructor
        · rintro (h | ⟨h, _⟩ | ⟨_, h⟩)
          · exact .inl h
          · exact absurd h.symm hab
          · exact .inr h
        · rintro (h | h)
          · exact .inl h
          · exact .inr (.inr ⟨rfl, h⟩)) ha hn2]
      congr 1
      by_cases hs : sHas S a = true
      · rw [if_pos hs, if_pos (.inr ⟨rfl, hs⟩)]
      · rw [if_neg hs, if_neg (fun h => h.elim (fun h => e1 h.1) (fun h => hs h.2))]
    · rw [if_neg (fun h => h.elim (fun h => e1 h.1) (fun h => e2 h.1)), Nat.add_zero]
      unfold nb
      congr 2
      refine Nat.eq_of_testBit_eq fun i => ?_
      have := hadd v i
      unfold sHas at this
      rw [Bool.eq_iff_iff, this]
      constructor
      · rintro (h | ⟨h, _⟩ | ⟨h, _⟩)
        · exact h
        · exact absurd h.symm e1
        · exact absurd h.symm e2
      · exact .inl
theorem pc_mono {s t : Nat} (h : ∀ v, v < 16 → sHas s v = true → sHas t v = true) : pc 16 s ≤ pc 16 t := by
  have h1 := pc_sum s
  have h2 := pc_sum t
  have h3 : sumN 16 (fun v => if sHas s v = true then 1 else 0) ≤ sumN 16 (fun v => if sHas t v = true then 1 else 0) := by
    have mono : ∀ {f g : Nat → Int} n, (∀ i, i < n → f i ≤ g i) → sumN n f ≤ sumN n g := by
      intro f g n
      induction n with
      | zero => intro _; exact Int.le_refl _
      | succ n ih => intro h; rw [sumN_s, sumN_s]; have := ih (fun i hi => h i (by omega)); have := h n (by omega); omega
    refine mono 16 fun v hv => ?_
    by_cases e : sHas s v = true
    · rw [if_pos e, if_pos (h v hv e)]; exact Int.le_refl _
    · rw [if_neg e]; split <;> omega
  omega
theorem nb_mono {gs : List Nat} {S T : Nat} (h : ∀ v, v < 16 → sHas S v = true → sHas T v = true) (v : Nat) : nb gs S v ≤ nb gs T v := by
  unfold nb
  refine pc_mono fun u hu hs => ?_
  unfold sHas at *
  rw [sAnd_bit, Bool.and_eq_true] at hs ⊢
  exact ⟨hs.1, h u hu hs.2⟩
/-- All of the set have at least k neighbors in it. -/
def Dense (gs : List Nat) (k T : Nat) : Prop := ∀ u, u < 16 → sHas T u = true → k ≤ nb gs T u
theorem core_spec {gs : List Nat} (hI : Irr gs) (m : Nat) : ∀ (n S G : Nat) (cs : List Nat), S < 65536 → pc 16 S = n → cs.length = m → (∀ v, sHas S v = true → v < m) →
    ((peelL gs n S).foldl coreS (G, cs)).2.length = m ∧ (∀ v, sHas S v = false → getn ((peelL gs n S).foldl coreS (G, cs)).2 v = getn cs v) ∧
    ∀ v k, sHas S v = true → (k ≤ getn ((peelL gs n S).foldl coreS (G, cs)).2 v ↔ k ≤ G ∨ ∃ T, T < 65536 ∧ (∀ u, u < 16 → sHas T u = true → sHas S u = true) ∧ sHas T v = true ∧ Dense gs k T) := by
  intro n
  induction n with
  | zero =>
    intro S G cs hS hp hl hm
    refine ⟨hl, fun v _ => rfl, fun v k hv => ?_⟩
    have h0 : S ≠ 0 := fun e => by subst e; simp [sHas] at hv
    have := pc_pos hS h0; omega
  | succ n ih =>
    intro S G cs hS hp hl hm
    have h0 : S ≠ 0 := fun e => by
      subst e
      have h2 : pc 16 0 = 0 := by decide
      rw [h2] at hp; cases hp
    obtain ⟨hb16, hbS⟩ := lone_mem hI hS h0
    obtain ⟨_, hs2, hs3⟩ := lone_spec gs S (ms S) (fun v hv => nb_lt hI (mem_ms.1 hv).1)
    have hbf := (hs2 (ms_ne hS h0)).2
    have hpw := pc_without hS hb16 hbS
    have hle : ∀ v, v < 16 → sHas S v = true → loneF gs S (ms S) ≤ nb gs S v := fun v hv h => hs3 v (mem_ms.2 ⟨hv, h⟩)
    have hbm := hm _ hbS
    rw [peelL, List.foldl_cons]
    generalize loneB gs S (ms S) = b at *
    generalize loneF gs S (ms S) = f at *
    have hwb : ∀ j, sHas (sWithout S b) j = (sHas S j && !decide (b = j)) := fun j => without_bit S b j hS hb16
    have hG : coreS (G, cs) (b, f) = (if G < f then f else G, cs.set b (if G < f then f else G)) := rfl
    rw [hG]
    obtain ⟨i1, i2, i3⟩ := ih (sWithout S b) (if G < f then f else G) (cs.set b (if G < f then f else G)) (without_lt hS) (by omega) (by rw [List.length_set]; exact hl) (fun v hv => hm v (by rw [hwb] at hv; simp at hv; exact hv.1))
    have hSd : Dense gs f S := fun u hu h => hle u hu h
    have hTb : ∀ {T k}, (∀ u, u < 16 → sHas T u = true → sHas S u = true) → sHas T b = true → Dense gs k T → k ≤ f := fun hT hb hd => by
      have h1 := hd b hb16 hb
      have h2 := nb_mono (gs := gs) hT b
      omega
    refine ⟨i1, fun v hv => ?_, fun v k hv => ?_⟩
    · have hne : b ≠ v := fun e => by subst e; rw [hbS] at hv; cases hv
      rw [i2 v (by rw [hwb, hv]; rfl), getn_set (by omega), if_neg hne]
    · by_cases e : b = v
      · subst e
        rw [i2 b (by rw [hwb]; simp), getn_set (by omega), if_pos rfl]
        constructor
        · intro hk
          by_cases hg : k ≤ G
          · exact .inl hg
          · refine .inr ⟨S, hS, fun _ _ h => h, hbS, fun u hu h => ?_⟩
            have := hle u hu h
            split at hk <;> omega
        · rintro (hg | ⟨T, hT, hTS, hTv, hTd⟩)
          · split <;> omega
          · have := hTb hTS hTv hTd
            split <;> omega
      · rw [i3 v k (by rw [hwb, hv]; simp [e])]
        constructor
        · rintro (hk | ⟨T, hT, hTS, hTv, hTd⟩)
          · by_cases hg : k ≤ G
            · exact .inl hg
            · refine .inr ⟨S, hS, fun _ _ h => h, hv, fun u hu h => ?_⟩
              have := hle u hu h
              split at hk <;> omega
          · exact .inr ⟨T, hT, fun u hu h => by have := hTS u hu h; rw [hwb] at this; simp at this; exact this.1, hTv, hTd⟩
        · rintro (hg | ⟨T, hT, hTS, hTv, hTd⟩)
          · left; split <;> omega
          · cases hTb' : sHas T b
            · right
              refine ⟨T, hT, fun u hu h => ?_, hTv, hTd⟩
              rw [hwb, hTS u hu h]
              have : b ≠ u := fun e => by subst e; rw [hTb'] at h; cases h
              simp [this]
            · left
              have := hTb hTS hTb' hTd
              split <;> omega
/-- The core numbers. -/
theorem core_iff {gs : List Nat} (hI : Irr gs) {m : Nat} (hm : m ≤ 16) {v : Nat} (hv : v < m) (k : Nat) :
    k ≤ getn (coreF m gs) v ↔ k ≤ 0 ∨ ∃ T, T < 65536 ∧ (∀ u, u < 16 → sHas T u = true → u < m) ∧ sHas T v = true ∧ Dense gs k T := by
  have hall : ∀ u, sHas (sAll m) u = true ↔ u < m := fun u => by unfold sHas; rw [all_bit]; simp
  obtain ⟨_, _, h3⟩ := core_spec hI m m (sAll m) 0 (List.replicate m 0) (all_lt hm) (pc_all hm) (by simp) (fun u hu => (hall u).1 hu)
  have := h3 v k ((hall v).2 hv)
  unfold coreF coreL
  rw [this]
  simp only [hall]
/-- The greatest set in which all have k neighbors: those whose core number is at least k. -/
theorem core_set {gs : List Nat} (hI : Irr gs) {m : Nat} (hm : m ≤ 16) {k C : Nat} (hk : 1 ≤ k) (hC : C < 65536) (hCm : ∀ u, sHas C u = true → u < m) (hd : Dense gs k C)
    (hmax : ∀ T, T < 65536 → (∀ u, u < 16 → sHas T u = true → u < m) → Dense gs k T → ∀ u, u < 16 → sHas T u = true → sHas C u = true) {v : Nat} (hv : v < m) : sHas C v = true ↔ k ≤ getn (coreF m gs) v := by
  rw [core_iff hI hm hv]
  constructor
  · intro h; exact .inr ⟨C, hC, fun u _ h => hCm u h, h, hd⟩
  · rintro (h | ⟨T, hT, hTm, hTv, hTd⟩)
    · omega
    · exact hmax T hT hTm hTd v (by omega) hTv
theorem core_lt {gs : List Nat} {m : Nat} (hI : Irr gs) (hlow : ∀ u v, sHas (near gs u) v = true → v < m) (hm : m ≤ 16) {v : Nat} (hv : v < m) : getn (coreF m gs) v < m := by
  rcases (core_iff hI hm hv (getn (coreF m gs) v)).1 (Nat.le_refl _) with h | ⟨T, hT, hTm, hTv, hTd⟩
  · omega
  · have h1 := hTd v (by omega) hTv
    have h2 : nb gs T v < m := by
      unfold nb
      have e : pc 16 (sAll m) = m := pc_all hm
      have h3 : pc 16 (sAnd (near gs v) T) + 1 ≤ pc 16 (sAll m) := by
        have hv0 : sHas (sAnd (near gs v) T) v = false := by
          unfold sHas; rw [sAnd_bit]; have := hI v (by omega); unfold sHas at this; rw [this]; rfl
        have hl : sAnd (near gs v) T < 65536 := Nat.lt_of_le_of_lt Nat.and_le_right hT
        rw [← pc_with hl (by omega) hv0]
        refine pc_mono fun u hu h => ?_
        rw [with_has] at h
        unfold sHas; rw [all_bit]
        simp only [Bool.or_eq_true, decide_eq_true_eq] at h
        rcases h with h | h
        · unfold sHas at h; rw [sAnd_bit, Bool.and_eq_true] at h
          simpa using hlow v u h.1
        · subst h; simpa using hv
      omega
    omega
end Go.Proofs.Ytpaeagkgmbhndaa
/- The reference counts neighbors. -/
namespace Go.Proofs.Ytpaeagkgmbhndaa
open Go.RowKit
set_option maxHeartbeats 1000000
set_option maxRecDepth 100000
/-- After k edges the count is that of the graph of the first k edges. -/
structure NbI (m : Nat) (es : List (Int × Int)) (gs : List Nat) (S v k cnt : Nat) (g : List Nat) : Prop where
  pre : PreI m es gs k g
  cnt : cnt = nb g S v
  sym : ∀ x y, sHas (near g x) y = sHas (near g y) x
theorem nb_zero (S v : Nat) : nb Z16 S v = 0 := by
  unfold nb near sAnd
  rw [List.getElem?_replicate]
  have : pc 16 0 = 0 := by decide
  split <;> simp [this]
theorem NbI.start {m : Nat} {es : List (Int × Int)} {gs : List Nat} (h : readF m es = some gs) (S v : Nat) : NbI m es gs S v 0 0 Z16 :=
  ⟨PreI.start h, (nb_zero S v).symm, fun x y => by unfold near sHas; rw [List.getElem?_replicate, List.getElem?_replicate]; split <;> split <;> simp⟩
theorem NbI.step {m : Nat} {es : List (Int × Int)} {gs : List Nat} {S v k cnt : Nat} {g : List Nat} (h : NbI m es gs S v k cnt g) (hk : k < es.length) (hm : m ≤ 16) :
    ∃ (a b : Nat) (g' : List Nat), pA es k = a ∧ pB es k = b ∧ a < b ∧ b < m ∧ NbI m es gs S v (k + 1) (cnt + if (a = v ∧ sHas S b = true) ∨ (b = v ∧ sHas S a = true) then 1 else 0) g' := by
  obtain ⟨a, b, h1, h2, h3, h4, h5, h6⟩ := h.pre.edge hk hm
  refine ⟨a, b, addE g a b, h1, h2, h3, h4, h6, ?_, fun x y => ?_⟩
  · rw [nb_add h.pre.rows (by omega) (by omega) (by omega) h5 (by rw [← h.sym]; exact h5), h.cnt]
  · rw [Bool.eq_iff_iff, add_has h.pre.rows (by omega) (by omega) (by omega), add_has h.pre.rows (by omega) (by omega) (by omega), h.sym]
    constructor
    · rintro (h | ⟨h, h'⟩ | ⟨h, h'⟩)
      · exact .inl h
      · exact .inr (.inr ⟨h', h⟩)
      · exact .inr (.inl ⟨h', h⟩)
    · rintro (h | ⟨h, h'⟩ | ⟨h, h'⟩)
      · exact .inl h
      · exact .inr (.inr ⟨h', h⟩)
      · exact .inr (.inl ⟨h', h⟩)
theorem neighbors_any (m : Nat) (A : Option Addr) (c : Nat) (es : List (Int × Int)) (gs : List Nat) (g S v : Nat) (w : World) (hx : es.length ≤ 1000000) (ha : PairsAt w A es) (h : readF m es = some gs) (hr : Row w g 4 (bcells m (sHas S))) :
    Calls Try.prog 55 #[.slice A es.length c, .slice (some ⟨g, 0, none⟩) m m, .int .i64 v] w fun e w' => e = .returned (.int .i64 (nb gs S v)) ∧ w = w' := by
  have hm : m ≤ 16 := by have := readF_ok h; omega
  have H0 := Lib.hid (NbI.start h S v)
  have HST := Lib.hid (fun k cnt g (hn : NbI m es gs S v k cnt g) (hk : k < es.length) => hn.step hk hm)
  clear h
  go_enter Try.func55, Try.ntmps55
  go_wp2
  go_loop [7, 8] (fun n i => ∃ (k cnt : Nat) (g' : List Nat), k ≤ es.length ∧ i = .int .i64 k ∧ n = .int .i64 cnt ∧ NbI m es gs S v k cnt g' ∧ cnt ≤ k) (fun _ i => es.length - (intOf i).toNat)
  case atStart => exact ⟨0, 0, Z16, by omega, rfl, rfl, H0.out, by omega⟩
  case round =>
    obtain ⟨k, cnt, g', hk, rfl, rfl, hn, hck⟩ := hrel
    have HN := Lib.hid hn
    clear hn
    by_cases hlt : k < es.length
    · obtain ⟨B, o, rfl, hB, hc⟩ := ha (by omega)
      obtain ⟨c0, c1⟩ := hc k hlt
      obtain ⟨a, b, g2, e1, e2, hab, hbm, hs⟩ := HST.out _ _ _ HN.out hlt
      rw [e1] at c0
      rw [e2] at c1
      have HS := Lib.hid hs
      have ca : w.cell? ⟨g, a, none⟩ = some (.bool (sHas S a)) := by rw [hr.cell, bcells_at _ (by omega)]
      have cb : w.cell? ⟨g, b, none⟩ = some (.bool (sHas S b)) := by rw [hr.cell, bcells_at _ (by omega)]
      clear hc e1 e2 hs HST H0
      cases ga : ((a : Int) == v) <;> cases gb : ((b : Int) == v) <;> cases la : sHas S a <;> cases lb : sHas S b
      all_goals
        rw [la] at ca
        rw [lb] at cb
        have hif : Hid ((a = v ∧ sHas S b = true) ∨ (b = v ∧ sHas S a = true) ↔ (((a : Int) == v) && sHas S b || ((b : Int) == v) && sHas S a) = true) := by
          rw [Bool.or_eq_true, Bool.and_eq_true, Bool.and_eq_true, beq_iff_eq, beq_iff_eq]
          exact ⟨fun h => h.imp (fun h => ⟨by omega, h.2⟩) (fun h => ⟨by omega, h.2⟩), fun h => h.imp (fun h => ⟨by omega, h.2⟩) (fun h => ⟨by omega, h.2⟩)⟩
        have HG := Lib.hid (show (((a : Int) == v) = ((a : Int) == v)) from rfl)
        have GA := Lib.hid ga
        have GB := Lib.hid gb
        have LA := Lib.hid la
        have LB := Lib.hid lb
        clear la lb HG
        go_wp2
        go_round
        case measure => simp [intOf]; omega
        case rel =>
          first
            | exact ⟨k + 1, cnt + 1, g2, by omega, by go_num, by go_num, by have := HS.out; rwa [if_pos (hif.out.2 (by rw [GA.out, GB.out, LA.out, LB.out]; rfl))] at this, by omega⟩
            | exact ⟨k + 1, cnt, g2, by omega, by go_num, rfl, by have := HS.out; rwa [if_neg (fun hh => by have := hif.out.1 hh; rw [GA.out, GB.out, LA.out, LB.out] at this; cases this)] at this, by omega⟩
    · obtain rfl : k = es.length := by omega
      have hfin : cnt = nb gs S v := by rw [HN.out.cnt, HN.out.pre.done]
      have HF := Lib.hid hfin
      clear hfin
      go_wp2
      go_ret
      exact ⟨ret_int (by rw [HF.out]), rfl⟩
end Go.Proofs.Ytpaeagkgmbhndaa
/- The reference's own core numbers. -/
namespace Go.Proofs.Ytpaeagkgmbhndaa
open Go.RowKit
set_option maxHeartbeats 1000000
set_option maxRecDepth 100000
theorem info4 : (Try.prog.info? 4).map (fun i => (i.zero, i.size, i.bytes)) = some (some (.bool false), 1, 1) := by kernel_rfl
theorem bcells_len (n : Nat) (f : Nat → Bool) : (bcells n f).length = n := by simp [bcells]
theorem bcells_congr {n : Nat} {f g : Nat → Bool} (h : ∀ i, i < n → f i = g i) : bcells n f = bcells n g := by
  unfold bcells
  exact List.map_congr_left fun i hi => by rw [h i (List.mem_range.1 hi)]
theorem made_bools (m : Nat) : (madeCells (Value.bool false).cells (m * 1)).toList = bcells m fun _ => false := by
  unfold madeCells bcells
  have : (Value.bool false).cells = #[.bool false] := rfl
  rw [this]
  apply List.ext_getElem?
  intro i
  by_cases h : i < m
  · simp [Nat.mod_one, h]
  · simp [Nat.mod_one, h]
theorem own_made4 {w : World} {b g m : Nat} (h : w.ownsRow b 4 1 (.slice (some ⟨g, 0, none⟩) m m) m (madeCells (Value.bool false).cells (m * 1)).toList) : Row w g 4 (bcells m fun _ => false) := by
  rw [made_bools] at h
  rcases h.2 with ⟨h, _⟩ | ⟨g', cap, cur, h, hb, hg, hc, _, hs, ht⟩
  · cases h
  · injection h with h1 _ h2; injection h1 with h1; injection h1 with h1; subst h1; subst h2
    unfold Row
    rw [hg, ← ht]
    congr 2
    rw [List.take_of_length_le (by simp; omega)]
/-- All sets in which all have k neighbors lie in S. -/
def Sup (gs : List Nat) (m k S : Nat) : Prop := ∀ T, T < 65536 → (∀ u, u < 16 → sHas T u = true → u < m) → Dense gs k T → ∀ u, u < 16 → sHas T u = true → sHas S u = true
structure AgI (gs : List Nat) (m k S : Nat) (ab : Bool) : Prop where
  lt : S < 65536
  low : ∀ u, sHas S u = true → u < m
  sup : Sup gs m k S
  no : ab = false → Dense gs k S
structure PassI (gs : List Nat) (m k S0 t S : Nat) (ab : Bool) : Prop where
  lt : S < 65536
  sub : ∀ u, sHas S u = true → sHas S0 u = true
  sup : Sup gs m k S
  no : ab = false → S = S0 ∧ ∀ u, u < t → sHas S0 u = true → k ≤ nb gs S0 u
  yes : ab = true → pc 16 S < pc 16 S0
theorem AgI.start (gs : List Nat) {m : Nat} (hm : m ≤ 16) (k : Nat) : AgI gs m k (sAll m) true :=
  ⟨all_lt hm, fun u hu => by unfold sHas at hu; rw [all_bit] at hu; simpa using hu, fun T _ hT _ u hu h => by unfold sHas; rw [all_bit]; simpa using hT u hu h, fun h => by cases h⟩
theorem AgI.pass {gs : List Nat} {m k S : Nat} {ab : Bool} (h : AgI gs m k S ab) : PassI gs m k S 0 S false := ⟨h.lt, fun _ h => h, h.sup, fun _ => ⟨rfl, fun u hu => absurd hu (by omega)⟩, fun h => by cases h⟩
theorem PassI.skip {gs : List Nat} {m k S0 t S : Nat} {ab : Bool} (h : PassI gs m k S0 t S ab) (hs : sHas S t = false) : PassI gs m k S0 (t + 1) S ab :=
  ⟨h.lt, h.sub, h.sup, fun e => ⟨(h.no e).1, fun u hu hv => by
    by_cases e2 : u = t
    · subst e2; rw [← (h.no e).1, hs] at hv; cases hv
    · exact (h.no e).2 u (by omega) hv⟩, h.yes⟩
theorem PassI.keep {gs : List Nat} {m k S0 t S : Nat} {ab : Bool} (h : PassI gs m k S0 t S ab) (hs : k ≤ nb gs S t) : PassI gs m k S0 (t + 1) S ab :=
  ⟨h.lt, h.sub, h.sup, fun e => ⟨(h.no e).1, fun u hu hv => by
    by_cases e2 : u = t
    · subst e2; rw [← (h.no e).1]; exact hs
    · exact (h.no e).2 u (by omega) hv⟩, h.yes⟩
theorem PassI.rem {gs : List Nat} {m k S0 t S : Nat} {ab : Bool} (h : PassI gs m k S0 t S ab) (ht : t < 16) (h1 : sHas S t = true) (hs : nb gs S t < k) : PassI gs m k S0 (t + 1) (sWithout S t) true := by
  have hw : ∀ j, sHas (sWithout S t) j = (sHas S j && !decide (t = j)) := fun j => without_bit S t j h.lt ht
  refine ⟨without_lt h.lt, fun u hu => h.sub u (by rw [hw] at hu; simp at hu; exact hu.1), fun T hT hTm hTd u hu hv => ?_, (fun e => by cases e), fun _ => ?_⟩
  · have hsub := h.sup T hT hTm hTd
    rw [hw, hsub u hu hv]
    have : t ≠ u := fun e => by
      subst e
      have h3 := hTd t ht hv
      have h4 := nb_mono (gs := gs) hsub t
      omega
    simp [this]
  · have h2 := pc_without h.lt ht h1
    have h3 : pc 16 S ≤ pc 16 S0 := pc_mono fun v _ hv => h.sub v hv
    omega
theorem PassI.done {gs : List Nat} {m k S0 S : Nat} {ab : Bool} (h : PassI gs m k S0 m S ab) (h0 : AgI gs m k S0 true) : AgI gs m k S ab ∧ 2 * pc 16 S + (if ab = true then 1 else 0) < 2 * pc 16 S0 + 1 := by
  refine ⟨⟨h.lt, fun u hu => h0.low u (h.sub u hu), h.sup, fun e => ?_⟩, ?_⟩
  · obtain ⟨h1, h2⟩ := h.no e
    subst h1
    exact fun u _ hv => h2 u (h0.low u hv) hv
  · cases ab with
    | true => have := h.yes rfl; simp; omega
    | false => obtain ⟨h1, _⟩ := h.no rfl; subst h1; simp
/-- The core numbers up to k - 1. -/
def CoreI (m : Nat) (gs : List Nat) (k t : Nat) (cs : List Nat) : Prop := cs.length = m ∧ ∀ v, v < m → getn cs v = if v < t then min (getn (coreF m gs) v) k else min (getn (coreF m gs) v) (k - 1)
theorem CoreI.step {m : Nat} {gs : List Nat} {k t S : Nat} {cs : List Nat} (h : CoreI m gs k t cs) (hI : Irr gs) (hm : m ≤ 16) (hk : 1 ≤ k) (ht : t < m) (ha : AgI gs m k S false) :
    (sHas S t = true → CoreI m gs k (t + 1) (cs.set t k)) ∧ (sHas S t = false → CoreI m gs k (t + 1) cs) := by
  have hc := core_set hI hm hk ha.lt ha.low (ha.no rfl) ha.sup (v := t) ht
  refine ⟨fun hs => ⟨by rw [List.length_set]; exact h.1, fun v hv => ?_⟩, fun hs => ⟨h.1, fun v hv => ?_⟩⟩
  · rw [getn_set (by rw [h.1]; exact ht)]
    by_cases e : t = v
    · subst e; have := hc.1 hs; rw [if_pos rfl, if_pos (by omega)]; omega
    · rw [if_neg e, h.2 v hv]; split <;> split <;> omega
  · rw [h.2 v hv]
    by_cases e : v = t
    · subst e
      have : ¬ k ≤ getn (coreF m gs) v := fun hh => by rw [hc.2 hh] at hs; cases hs
      split <;> split <;> omega
    · split <;> split <;> omega
theorem CoreI.next {m : Nat} {gs : List Nat} {k : Nat} {cs : List Nat} (h : CoreI m gs k m cs) : CoreI m gs (k + 1) 0 cs :=
  ⟨h.1, fun v hv => by rw [h.2 v hv, if_pos hv, if_neg (by omega)]; rfl⟩
theorem CoreI.start (m : Nat) (gs : List Nat) : CoreI m gs 1 0 (List.replicate m 0) :=
  ⟨by simp, fun v hv => by
    have : getn (List.replicate m 0) v = 0 := by unfold getn; rw [List.getD_eq_getElem?_getD, List.getElem?_replicate]; split <;> rfl
    rw [this]; simp⟩
theorem CoreI.fin {m : Nat} {gs : List Nat} {cs : List Nat} (h : CoreI m gs m 0 cs) (hI : Irr gs) (hm : m ≤ 16) (hlow : ∀ u v, sHas (near gs u) v = true → v < m) : cs = coreF m gs := by
  have hl : (coreF m gs).length = m := coreL_len m _
  apply List.ext_getElem
  · rw [h.1, hl]
  · intro i h1 h2
    have h3 := h.2 i (by rw [← h.1]; exact h1)
    have h4 := core_lt hI hlow hm (v := i) (by rw [← h.1]; exact h1)
    rw [getn_eq h1, getn_eq h2] at h3
    rw [getn_eq h2] at h4
    simp at h3
    omega
theorem RefCores_any (m : Nat) (A : Option Addr) (c : Nat) (es : List (Int × Int)) (gs : List Nat) (w : World) (hx : es.length ≤ 1000000) (ha : PairsAt w A es) (h : readF m es = some gs) :
    Calls Try.prog 35 #[.int .i64 m, .slice A es.length c] w fun e w' => ∃ g, e = .returned (.slice (some ⟨g, 0, none⟩) m m) ∧ w.heap.size ≤ g ∧ Row w' g 3 (intv (coreF m gs)) ∧ Below w.heap.size w w' := by
  obtain ⟨i0, hi, hz0, hz1, hz2⟩ := info_parts info3
  obtain ⟨j0, ji, jz0, jz1, jz2⟩ := info_parts info4
  obtain ⟨hm1, hm2, hg, hI⟩ := readF_ok h
  have hm : m ≤ 16 := by omega
  have hm1' : 1 ≤ m := by omega
  have HH := Lib.hid h
  have HLO := Lib.hid (fun u v (hu : sHas (near gs u) v = true) => readF_low h (by rw [readF_sym h]; exact hu))
  have HII := Lib.hid hI
  clear h hm1 hm2 hg hI
  go_enter Try.func35, Try.ntmps35
  go_wp2_with (first
    | (at_make; refine wpList_make_full _ rfl _ _ 24 rfl w.heap.size 3 i0 (.int .i64 0) 1 Try.underlying24 hi hz0 hz1 .i64 .i64 _ _ m rfl rfl rfl rfl (by rw [hz2]; omega) (by unfold maxLen; omega) (Nat.le_refl _) ?_; intro w4 o3 hg4; have r4 := own_made o3; have hb4 : Below w.heap.size w w4 := (Below.refl _ _).grown hg4 (Nat.le_refl _) (by simp); clear o3 hg4))
  go_loopw [6] (fun i wr => ∃ (k : Nat) (cs : List Nat), 1 ≤ k ∧ k ≤ m ∧ i = .int .i64 k ∧ CoreI m gs k 0 cs ∧ Row wr w.heap.size 3 (intv cs) ∧ Below w.heap.size w wr) (fun i _ => m - (intOf i).toNat)
  case atStart => exact ⟨1, List.replicate m 0, by omega, hm1', rfl, CoreI.start m gs, r4, hb4⟩
  case round =>
    clear r4 hb4
    obtain ⟨k, cs, hk1, hkm, rfl, hci, hr, hb⟩ := hrel
    have HC := Lib.hid hci
    clear hci
    by_cases hlt : k < m
    · obtain ⟨wo, rfl⟩ : ∃ wo : World, wo = wr := ⟨_, rfl⟩
      go_wp2_with (first
        | (at_make; refine wpList_make_full _ rfl _ _ 97 rfl wo.heap.size 4 j0 (.bool false) 1 Try.underlying97 ji jz0 jz1 .i64 .i64 _ _ m rfl rfl rfl rfl (by rw [jz2]; omega) (by unfold maxLen; omega) (Nat.le_refl _) ?_; intro w5 o5 hg5; have r5 := own_made4 o5; have hr5 := hr.grown hg5 (by simp); have hb5 : Below w.heap.size w w5 := hb.grown hg5 hb.size (by simp); have hz5 := hr.lt; clear o5 hg5 hr hb))
      go_loopw [8] (fun j W => ∃ t : Nat, t ≤ m ∧ j = .int .i64 t ∧ Row W wo.heap.size 4 (bcells m fun u => decide (u < t)) ∧ Row W w.heap.size 3 (intv cs) ∧ Below w.heap.size w W) (fun j _ => m - (intOf j).toNat)
      case atStart => exact ⟨0, by omega, rfl, by simpa using r5, hr5, hb5⟩
      case round =>
        clear r5 hr5 hb5
        obtain ⟨t, ht, rfl, r6, hr6, hb6⟩ := hrel
        by_cases htm : t < m
        · have c6 : wr.cell? ⟨wo.heap.size, t, none⟩ = some (.bool (decide (t < t))) := by rw [r6.cell, bcells_at _ htm]
          have f6 := r6.free t
          go_wp2
          go_roundw
          case rel =>
            refine ⟨t + 1, by omega, by go_num, ?_, hr6.far (by dsimp only; omega) _, hb6.setCell (by dsimp only; omega) _⟩
            have := r6.set t (.bool true)
            rw [bcells_set] at this
            rwa [bcells_congr (g := fun u => decide (u < t + 1)) (fun i _ => by by_cases e : i = t <;> simp [e]; omega)] at this
          case measure => simp [intOf]; omega
        · obtain rfl : t = m := by omega
          have r7 : Row wr wo.heap.size 4 (bcells t (sHas (sAll t))) := by
            rwa [bcells_congr (g := sHas (sAll t)) (fun i hi => by unfold sHas; rw [all_bit])] at r6
          clear r6
          go_wp2
          go_loopg [9] (2 * pc 16 (sAll t) + 1) (fun n b W => ∃ (S : Nat) (ab : Bool), n = 2 * pc 16 S + (if ab = true then 1 else 0) ∧ b = .bool ab ∧ AgI gs t k S ab ∧ Row W wo.heap.size 4 (bcells t (sHas S)) ∧ Row W w.heap.size 3 (intv cs) ∧ Below w.heap.size w W)
          case atStart => exact ⟨sAll t, true, rfl, rfl, AgI.start gs hm k, r7, hr6, hb6⟩
          case round =>
            clear r7 hr6 hb6
            obtain ⟨S, ab, hn, rfl, hag, r7, hr6, hb6⟩ := hrel
            have HN := Lib.hid hn
            have HA := Lib.hid hag
            clear hn hag
            cases ab with
            | true =>
              go_wp2
              go_loopw [9, 10] (fun b j W => ∃ (u S' : Nat) (ab : Bool), u ≤ t ∧ j = .int .i64 u ∧ b = .bool ab ∧ PassI gs t k S u S' ab ∧ Row W wo.heap.size 4 (bcells t (sHas S')) ∧ Row W w.heap.size 3 (intv cs) ∧ Below w.heap.size w W) (fun _ j _ => t - (intOf j).toNat)
              case atStart => exact ⟨0, S, false, by omega, rfl, rfl, HA.out.pass, r7, hr6, hb6⟩
              case round =>
                clear r7 hr6 hb6
                obtain ⟨u, S', ab, hu, rfl, rfl, hp, r7, hr6, hb6⟩ := hrel
                have HP := Lib.hid hp
                clear hp
                by_cases hut : u < t
                · have c7 : wr.cell? ⟨wo.heap.size, u, none⟩ = some (.bool (sHas S' u)) := by rw [r7.cell, bcells_at _ hut]
                  have f7 := r7.free u
                  have pa := ha.below hb6
                  cases hs : sHas S' u
                  · rw [hs] at c7
                    have HS := Lib.hid hs
                    clear hs
                    go_wp2
                    go_roundw
                    case rel => exact ⟨u + 1, S', ab, by omega, by go_num, rfl, HP.out.skip HS.out, r7, hr6, hb6⟩
                    case measure => simp [intOf]; omega
                  · rw [hs] at c7
                    have HS := Lib.hid hs
                    have HNB := Lib.hid (fun W pa r => neighbors_any t A c es gs wo.heap.size S' u W hx pa HH.out r)
                    have hnl := pc_le 16 (sAnd (near gs u) S')
                    have hnb : nb gs S' u ≤ 16 := hnl
                    clear hs hnl
                    by_cases hlt2 : nb gs S' u < k
                    · go_wp2_with (go_at_call 55; refine (HNB.out _ pa r7).mono ?_; rintro e w' ⟨rfl, rfl⟩)
                      go_roundw
                      case rel =>
                        refine ⟨u + 1, sWithout S' u, true, by omega, by go_num, rfl, HP.out.rem (by omega) HS.out hlt2, ?_, hr6.far (by dsimp only; omega) _, hb6.setCell (by dsimp only; omega) _⟩
                        have := r7.set u (.bool false)
                        rw [bcells_set] at this
                        rwa [bcells_congr (g := sHas (sWithout S' u)) (fun i _ => by
                          have := without_bit S' u i HP.out.lt (by omega)
                          unfold sHas
                          rw [this]
                          by_cases e : i = u
                          · subst e; simp
                          · simp [e, Ne.symm e])] at this
                      case measure => simp [intOf]; omega
                    · go_wp2_with (go_at_call 55; refine (HNB.out _ pa r7).mono ?_; rintro e w' ⟨rfl, rfl⟩)
                      go_roundw
                      case rel => exact ⟨u + 1, S', ab, by omega, by go_num, rfl, HP.out.keep (by omega), r7, hr6, hb6⟩
                      case measure => simp [intOf]; omega
                · obtain rfl : u = t := by omega
                  obtain ⟨d1, d2⟩ := HP.out.done HA.out
                  have D1 := Lib.hid d1
                  have D2 := Lib.hid d2
                  clear d1 d2
                  go_wp2
                  go_roundg (2 * pc 16 S' + (if ab = true then 1 else 0))
                  case rel => exact ⟨S', ab, rfl, rfl, D1.out, r7, hr6, hb6⟩
                  case measure => rw [HN.out, if_pos trivial]; exact D2.out
            | false =>
              go_wp2
              go_loopw [11] (fun j W => ∃ (u : Nat) (cs' : List Nat), u ≤ t ∧ j = .int .i64 u ∧ CoreI t gs k u cs' ∧ Row W wo.heap.size 4 (bcells t (sHas S)) ∧ Row W w.heap.size 3 (intv cs') ∧ Below w.heap.size w W) (fun j _ => t - (intOf j).toNat)
              case atStart => exact ⟨0, cs, by omega, rfl, HC.out, r7, hr6, hb6⟩
              case round =>
                clear r7 hr6 hb6
                obtain ⟨u, cs', hu, rfl, hci, r7, hr6, hb6⟩ := hrel
                have HC2 := Lib.hid hci
                clear hci
                by_cases hut : u < t
                · have c7 : wr.cell? ⟨wo.heap.size, u, none⟩ = some (.bool (sHas S u)) := by rw [r7.cell, bcells_at _ hut]
                  obtain ⟨s1, s2⟩ := HC2.out.step HII.out hm hk1 hut HA.out
                  have S1 := Lib.hid s1
                  have S2 := Lib.hid s2
                  clear s1 s2
                  cases hs : sHas S u
                  · rw [hs] at c7
                    have HS := Lib.hid hs
                    clear hs
                    go_wp2
                    go_roundw
                    case rel => exact ⟨u + 1, cs', by omega, by go_num, S2.out HS.out, r7, hr6, hb6⟩
                    case measure => simp [intOf]; omega
                  · rw [hs] at c7
                    have HS := Lib.hid hs
                    clear hs
                    have c8 : wr.cell? ⟨w.heap.size, u, none⟩ = some (.int .i64 (getn cs' u)) := intv_row hr6 (by rw [HC2.out.1]; exact hut)
                    have f8 := hr6.free u
                    go_wp2
                    go_roundw
                    case rel =>
                      refine ⟨u + 1, cs'.set u k, by omega, by go_num, S1.out HS.out, r7.far (by dsimp only; omega) _, ?_, hb6.setCell (by dsimp only; omega) _⟩
                      have := hr6.set u (.int .i64 k)
                      rwa [intv_set] at this
                    case measure => simp [intOf]; omega
                · obtain rfl : u = t := by omega
                  go_wp2
                  go_roundw
                  case rel => exact ⟨k + 1, cs', by omega, by omega, by go_num, HC2.out.next, hr6, hb6⟩
                  case measure => simp [intOf]; omega
    · obtain rfl : k = m := by omega
      have HF := Lib.hid (HC.out.fin HII.out hm HLO.out)
      go_wp2
      go_ret
      rw [← HF.out]
      exact ⟨_, rfl, Nat.le_refl _, hr, hb⟩
end Go.Proofs.Ytpaeagkgmbhndaa
/- The reference's own order of removing. -/
namespace Go.Proofs.Ytpaeagkgmbhndaa
open Go.RowKit
set_option maxHeartbeats 1000000
set_option maxRecDepth 100000
theorem upTo_low {S m : Nat} (h : ∀ v, sHas S v = true → v < m) : ∀ d, upTo S (m + d) = upTo S m
  | 0 => rfl
  | d + 1 => by
    rw [← Nat.add_assoc, upTo_no (by cases e : sHas S (m + d); · rfl
                                     · have := h _ e; omega), upTo_low h d]
theorem upTo_ms {S m : Nat} (hm : m ≤ 16) (h : ∀ v, sHas S v = true → v < m) : upTo S m = ms S := by
  have := upTo_low h (16 - m)
  rw [show m + (16 - m) = 16 by omega] at this
  exact this.symm
/-- The loneliest of the members below j. -/
structure InI (gs : List Nat) (S j : Nat) (b : Int) (f : Nat) : Prop where
  no : upTo S j = [] → b = -1 ∧ f = 0
  yes : upTo S j ≠ [] → b = loneB gs S (upTo S j) ∧ f = loneF gs S (upTo S j)
theorem InI.start (gs : List Nat) (S : Nat) : InI gs S 0 (-1) 0 := ⟨fun _ => ⟨rfl, rfl⟩, fun h => absurd rfl h⟩
theorem InI.skip {gs : List Nat} {S j : Nat} {b : Int} {f : Nat} (h : InI gs S j b f) (hs : sHas S j = false) : InI gs S (j + 1) b f := by
  have e := upTo_no hs
  exact ⟨fun h0 => h.no (by rw [← e]; exact h0), fun h0 => by rw [e] at h0 ⊢; exact h.yes h0⟩
theorem InI.step {gs : List Nat} {S j : Nat} {b : Int} {f : Nat} (h : InI gs S j b f) (hs : sHas S j = true) (hn : nb gs S j < 16) :
    ((b < 0 ∨ nb gs S j < f) → InI gs S (j + 1) j (nb gs S j)) ∧ (¬ (b < 0 ∨ nb gs S j < f) → InI gs S (j + 1) b f) := by
  have e := upTo_yes hs
  have hne : upTo S (j + 1) ≠ [] := by rw [e]; simp
  by_cases h0 : upTo S j = []
  · obtain ⟨rfl, rfl⟩ := h.no h0
    have hl := lone_yes (gs := gs) (s := S) (xs := []) (v := j) (by show nb gs S j < 16; exact hn)
    refine ⟨fun _ => ⟨fun hh => absurd hh hne, fun _ => ?_⟩, fun hh => absurd (.inl (by omega)) hh⟩
    rw [e, h0]; exact ⟨by rw [hl.1], hl.2.symm⟩
  · obtain ⟨hb, hf⟩ := h.yes h0
    refine ⟨fun hh => ⟨fun hh => absurd hh hne, fun _ => ?_⟩, fun hh => ⟨fun hh => absurd hh hne, fun _ => ?_⟩⟩
    · have h1 : nb gs S j < loneF gs S (upTo S j) := by rcases hh with hh | hh <;> omega
      rw [e]; obtain ⟨l1, l2⟩ := lone_yes h1; exact ⟨by rw [l1], l2.symm⟩
    · have h1 : ¬ nb gs S j < loneF gs S (upTo S j) := fun h2 => hh (.inr (by omega))
      rw [e]; obtain ⟨l1, l2⟩ := lone_no h1; exact ⟨by rw [l1]; exact hb, by rw [l2]; exact hf⟩
/-- The first t steps of removing. -/
structure PeelI (gs : List Nat) (m S : Nat) (L : List (Nat × Nat)) (M : Nat) : Prop where
  eq : peelL gs m (sAll m) = L ++ peelL gs (m - L.length) S
  le : L.length ≤ m
  lt : S < 65536
  cnt : pc 16 S = m - L.length
  low : ∀ v, sHas S v = true → v < m
  m0 : L.length = 0 → M = 0
  m1 : 0 < L.length → (M : Int) = maxTo (natI (lftF m gs)) L.length
theorem PeelI.start (gs : List Nat) {m : Nat} (hm : m ≤ 16) : PeelI gs m (sAll m) [] 0 :=
  ⟨rfl, Nat.zero_le _, all_lt hm, pc_all hm, fun u hu => by unfold sHas at hu; rw [all_bit] at hu; simpa using hu, fun _ => rfl, fun h => absurd h (by simp)⟩
theorem PeelI.step {gs : List Nat} {m S : Nat} {L : List (Nat × Nat)} {M : Nat} (h : PeelI gs m S L M) (hI : Irr gs) (hlt : L.length < m) :
    S ≠ 0 ∧ loneB gs S (ms S) < 16 ∧ loneB gs S (ms S) < m ∧ loneF gs S (ms S) < 16 ∧ PeelI gs m (sWithout S (loneB gs S (ms S))) (L ++ [(loneB gs S (ms S), loneF gs S (ms S))]) (if M < loneF gs S (ms S) then loneF gs S (ms S) else M) := by
  have h0 : S ≠ 0 := fun e => by
    have h1 := h.cnt
    subst e
    have h2 : pc 16 0 = 0 := by decide
    omega
  obtain ⟨hb16, hbS⟩ := lone_mem hI h.lt h0
  obtain ⟨_, hs2, _⟩ := lone_spec gs S (ms S) (fun v hv => nb_lt hI (mem_ms.1 hv).1)
  have hf := (hs2 (ms_ne h.lt h0)).2
  have hfl : loneF gs S (ms S) < 16 := by rw [hf]; exact nb_lt hI hb16
  have heq : peelL gs (m - L.length) S = (loneB gs S (ms S), loneF gs S (ms S)) :: peelL gs (m - (L.length + 1)) (sWithout S (loneB gs S (ms S))) := by
    rw [show m - L.length = (m - (L.length + 1)) + 1 by omega, peelL]
  have hpw := pc_without h.lt hb16 hbS
  have hlow := h.low _ hbS
  have hle := h.cnt
  have hlf : lftF m gs = L.map (·.2) ++ loneF gs S (ms S) :: (peelL gs (m - (L.length + 1)) (sWithout S (loneB gs S (ms S)))).map (·.2) := by
    unfold lftF; rw [h.eq, heq]; simp
  have hg : getn (lftF m gs) L.length = loneF gs S (ms S) := by
    rw [hlf]; unfold getn; rw [List.getD_eq_getElem?_getD, List.getElem?_append_right (by simp)]; simp
  generalize loneB gs S (ms S) = b at *
  generalize loneF gs S (ms S) = f at *
  refine ⟨h0, hb16, hlow, hfl, ⟨by rw [h.eq, heq]; simp, by simp; omega, without_lt h.lt, by simp; omega, fun v hv => ?_, fun hh => by simp at hh, fun _ => ?_⟩⟩
  · have := without_bit S b v h.lt hb16
    unfold sHas at hv; rw [this] at hv; simp at hv
    exact h.low v hv.1
  · have e : (L ++ [(b, f)]).length = L.length + 1 := by simp
    rw [e, maxTo, geti_natI, hg]
    rcases Nat.eq_zero_or_pos L.length with h1 | h1
    · have hM := h.m0 h1
      rw [h1] at hg ⊢
      have e0 : maxTo (natI (lftF m gs)) 0 = (f : Int) := by show geti _ 0 = _; rw [geti_natI, hg]
      rw [e0]
      split <;> split <;> omega
    · rw [← h.m1 h1]
      split <;> split <;> omega
theorem PeelI.done {gs : List Nat} {m S : Nat} {L : List (Nat × Nat)} {M : Nat} (h : PeelI gs m S L M) (hm : 1 ≤ m) (hl : ¬ L.length < m) : L.length = m ∧ L.map (·.1) = ordF m gs ∧ (M : Int) = maxTo (natI (lftF m gs)) m := by
  have h1 := h.le
  have e : L.length = m := by omega
  have h2 := h.eq
  rw [e, Nat.sub_self, peelL, List.append_nil] at h2
  refine ⟨e, by unfold ordF; rw [h2], ?_⟩
  have := h.m1 (by omega)
  rw [e] at this; exact this
theorem news_one {W : World} {g : Nat} {t : TypeId} {x : Value} (h : Row W g t [x]) : ∀ j u, [x][j]? = some u → W.cell? ((⟨g, 0, none⟩ : Addr).add j) = some u := by
  intro j u hj
  rw [WideShapes.add_plain, Nat.zero_add, h.cell, hj]
theorem RefPeel_any (m : Nat) (A : Option Addr) (c : Nat) (es : List (Int × Int)) (gs : List Nat) (w : World) (hx : es.length ≤ 1000000) (ha : PairsAt w A es) (h : readF m es = some gs) :
    Calls Try.prog 34 #[.int .i64 m, .slice A es.length c] w fun e w' => ∃ v, e = .returned (.tuple #[v, .int .i64 (maxTo (natI (lftF m gs)) m)]) ∧ w'.ownsRow w.heap.size 3 1 v m (intv (ordF m gs)) ∧ Below w.heap.size w w' := by
  obtain ⟨i0, hi, hz0, hz1, hz2⟩ := info_parts info3
  obtain ⟨j0, ji, jz0, jz1, jz2⟩ := info_parts info4
  obtain ⟨hm1, hm2, hg, hI⟩ := readF_ok h
  have hm : m ≤ 16 := by omega
  have hm1' : 1 ≤ m := by omega
  have HH := Lib.hid h
  have HII := Lib.hid hI
  clear h hm1 hm2 hg hI
  go_enter Try.func34, Try.ntmps34
  go_wp2_with (first
    | (at_make; refine wpList_make_full _ rfl _ _ 97 rfl w.heap.size 4 j0 (.bool false) 1 Try.underlying97 ji jz0 jz1 .i64 .i64 _ _ m rfl rfl rfl rfl (by rw [jz2]; omega) (by unfold maxLen; omega) (Nat.le_refl _) ?_; intro w5 o5 hg5; have r5 := own_made4 o5; have hb5 : Below w.heap.size w w5 := (Below.refl _ _).grown hg5 (Nat.le_refl _) (by simp); clear o5 hg5))
  go_loopw [7] (fun j W => ∃ t : Nat, t ≤ m ∧ j = .int .i64 t ∧ Row W w.heap.size 4 (bcells m fun u => decide (u < t)) ∧ Below w.heap.size w W) (fun j _ => m - (intOf j).toNat)
  case atStart => exact ⟨0, by omega, rfl, by simpa using r5, hb5⟩
  case round =>
    clear r5 hb5
    obtain ⟨t, ht, rfl, r6, hb6⟩ := hrel
    by_cases htm : t < m
    · have c6 : wr.cell? ⟨w.heap.size, t, none⟩ = some (.bool (decide (t < t))) := by rw [r6.cell, bcells_at _ htm]
      have f6 := r6.free t
      go_wp2
      go_roundw
      case rel =>
        refine ⟨t + 1, by omega, by go_num, ?_, hb6.setCell (by dsimp only; omega) _⟩
        have := r6.set t (.bool true)
        rw [bcells_set] at this
        rwa [bcells_congr (g := fun u => decide (u < t + 1)) (fun i _ => by by_cases e : i = t <;> simp [e]; omega)] at this
      case measure => simp [intOf]; omega
    · obtain rfl : t = m := by omega
      have r7 : Row wr w.heap.size 4 (bcells t (sHas (sAll t))) := by
        rwa [bcells_congr (g := sHas (sAll t)) (fun i hi => by unfold sHas; rw [all_bit])] at r6
      clear r6
      go_wp2
      go_loopg [8, 9] t (fun n o q W => ∃ (S : Nat) (L : List (Nat × Nat)) (M : Nat), n = t - L.length ∧ q = .int .i64 M ∧ PeelI gs t S L M ∧ W.ownsRow (w.heap.size + 1) 3 1 o L.length (intv (L.map (·.1))) ∧ Row W w.heap.size 4 (bcells t (sHas S)) ∧ Below w.heap.size w W)
      case atStart => exact ⟨sAll t, [], 0, rfl, rfl, PeelI.start gs hm, ⟨rfl, .inl ⟨rfl, rfl⟩⟩, r7, hb6⟩
      case round =>
        clear r7 hb6
        obtain ⟨S, L, M, hn, rfl, hp, ho, r7, hb7⟩ := hrel
        have HN := Lib.hid hn
        have HP := Lib.hid hp
        have hLl := hp.le
        obtain ⟨A', c', e', hl', hi'⟩ := own_ints ho
        rw [List.length_map] at e'
        subst e'
        clear hn hp hl' hi'
        by_cases hlt : L.length < t
        · obtain ⟨g1, g2, g3, g4, g5⟩ := HP.out.step HII.out hlt
          have G5 := Lib.hid g5
          have HUP := Lib.hid (upTo_ms hm HP.out.low)
          have HMS := Lib.hid (ms_ne HP.out.lt g1)
          clear g5
          obtain ⟨wo, rfl⟩ : ∃ wo : World, wo = wr := ⟨_, rfl⟩
          go_wp2
          go_loopw [10, 11, 12] (fun b f j W => ∃ (u : Nat) (bi : Int) (fi : Nat), u ≤ t ∧ j = .int .i64 u ∧ b = .int .i64 bi ∧ f = .int .i64 fi ∧ InI gs S u bi fi ∧ (∃ n, W = wo.drewN n)) (fun _ _ j _ => t - (intOf j).toNat)
          case atStart => exact ⟨0, -1, 0, by omega, rfl, rfl, rfl, InI.start gs S, 0, rfl⟩
          case round =>
            obtain ⟨u, bi, fi, hu, rfl, rfl, rfl, hin, nq, rfl⟩ := hrel
            have HIN := Lib.hid hin
            clear hin
            by_cases hut : u < t
            · have c7 : (wo.drewN nq).cell? ⟨w.heap.size, u, none⟩ = some (.bool (sHas S u)) := by rw [(r7.drewN nq).cell, bcells_at _ hut]
              have pa := (ha.below hb7).below (below_drewN (w := wo) nq)
              have hnb16 : nb gs S u < 16 := nb_lt HII.out (by omega)
              cases hs : sHas S u
              · rw [hs] at c7
                have HS := Lib.hid hs
                clear hs
                go_wp2
                go_roundw
                case rel => exact ⟨u + 1, bi, fi, by omega, by go_num, rfl, rfl, HIN.out.skip HS.out, nq, rfl⟩
                case measure => simp [intOf]; omega
              · rw [hs] at c7
                obtain ⟨s1, s2⟩ := HIN.out.step hs hnb16
                have S1 := Lib.hid s1
                have S2 := Lib.hid s2
                have HNB := Lib.hid (fun W pa r => neighbors_any t A c es gs w.heap.size S u W hx pa HH.out r)
                have r8 := r7.drewN nq
                clear s1 s2 hs
                cases q1 : decide (bi < 0) <;> cases q2 : decide (nb gs S u < fi)
                all_goals
                  go_wp2_with (go_at_call 55; refine (HNB.out _ pa r8).mono ?_; rintro e w' ⟨rfl, rfl⟩)
                  go_roundw
                  case measure => simp [intOf]; omega
                  case rel =>
                    first
                      | exact ⟨u + 1, bi, fi, by omega, by go_num, rfl, rfl, S2.out (by have := of_decide_eq_false q1; have := of_decide_eq_false q2; omega), nq, rfl⟩
                      | exact ⟨u + 1, u, nb gs S u, by omega, by go_num, rfl, rfl, S1.out (by first | exact .inl (of_decide_eq_true q1) | exact .inr (of_decide_eq_true q2)), nq, rfl⟩
            · obtain rfl : u = t := by omega
              obtain ⟨hbi, hfi⟩ := HIN.out.yes (by rw [HUP.out]; exact HMS.out)
              rw [HUP.out] at hbi hfi
              subst hbi
              subst hfi
              generalize loneB gs S (ms S) = b at *
              generalize loneF gs S (ms S) = f at *
              have c7 : (wo.drewN nq).cell? ⟨w.heap.size, b, none⟩ = some (.bool (sHas S b)) := by rw [(r7.drewN nq).cell, bcells_at _ g3]
              have f7 := (r7.drewN nq).free b
              have r8 := (r7.drewN nq).set b (.bool false)
              have o8 : ((wo.drewN nq).setCell ⟨w.heap.size, b, none⟩ (.bool false)).ownsRow (w.heap.size + 1) 3 1 (.slice A' L.length c') L.length (intv (L.map (·.1))) := own_set (w := wo.drewN nq) ho (by dsimp only; omega) (.bool false)
              have hlt7 := r7.lt
              have hb8 := (hb7.trans (below_drewN nq)).setCell (p := ⟨w.heap.size, b, none⟩) (Nat.le_refl _) (.bool false)
              clear r7 ho hb7
              by_cases hMf : M < f
              · go_wp2_with (at_builtin; refine wpList_append_own_at _ rfl (.tmp 54) (.tmp 56) 24 rfl (w.heap.size + 1) 3 i0 (.int .i64 0) 1 8 Try.underlying24 hi hz0 hz1 hz2 rfl (by decide) _ _ _ rfl (o8.alloc _) ⟨wo.heap.size, 0, none⟩ 1 1 [.int .i64 b] rfl rfl (news_one (row_new (by simp))) (by simp [Value.oneCell']) (by unfold maxLen; omega) (by omega) (by simp; omega) ?_; intro v9 w9 hn9 hg9 _ hat9)
                obtain ⟨hb9, hrow9⟩ := app1 o8 (by simp; omega) hg9
                have r9 := hrow9 _ _ _ (by decide) r8
                rw [bcells_set, bcells_congr (g := sHas (sWithout S b)) (fun i _ => by
                  have := without_bit S b i HP.out.lt g2
                  unfold sHas
                  rw [this]
                  by_cases e : i = b
                  · subst e; simp
                  · simp [e, Ne.symm e])] at r9
                have e1 : (L ++ [(b, f)]).length = L.length + 1 := by simp
                have e2 : intv ((L ++ [(b, f)]).map (·.1)) = intv (L.map (·.1)) ++ [.int .i64 b] := by simp [intv]
                have E1 := Lib.hid e1
                have E2 := Lib.hid e2
                clear e1 e2
                go_roundg (u - (L.length + 1))
                case rel => exact ⟨sWithout S b, L ++ [(b, f)], f, by rw [E1.out], rfl, by have := G5.out; rwa [if_pos hMf] at this, by rw [E1.out, E2.out]; exact hn9, r9, hb8.trans (hb9.mono (by omega))⟩
                case measure => rw [HN.out]; omega
              · go_wp2_with (at_builtin; refine wpList_append_own_at _ rfl (.tmp 54) (.tmp 56) 24 rfl (w.heap.size + 1) 3 i0 (.int .i64 0) 1 8 Try.underlying24 hi hz0 hz1 hz2 rfl (by decide) _ _ _ rfl (o8.alloc _) ⟨wo.heap.size, 0, none⟩ 1 1 [.int .i64 b] rfl rfl (news_one (row_new (by simp))) (by simp [Value.oneCell']) (by unfold maxLen; omega) (by omega) (by simp; omega) ?_; intro v9 w9 hn9 hg9 _ hat9)
                obtain ⟨hb9, hrow9⟩ := app1 o8 (by simp; omega) hg9
                have r9 := hrow9 _ _ _ (by decide) r8
                rw [bcells_set, bcells_congr (g := sHas (sWithout S b)) (fun i _ => by
                  have := without_bit S b i HP.out.lt g2
                  unfold sHas
                  rw [this]
                  by_cases e : i = b
                  · subst e; simp
                  · simp [e, Ne.symm e])] at r9
                have e1 : (L ++ [(b, f)]).length = L.length + 1 := by simp
                have e2 : intv ((L ++ [(b, f)]).map (·.1)) = intv (L.map (·.1)) ++ [.int .i64 b] := by simp [intv]
                have E1 := Lib.hid e1
                have E2 := Lib.hid e2
                clear e1 e2
                go_roundg (u - (L.length + 1))
                case rel => exact ⟨sWithout S b, L ++ [(b, f)], M, by rw [E1.out], rfl, by have := G5.out; rwa [if_neg hMf] at this, by rw [E1.out, E2.out]; exact hn9, r9, hb8.trans (hb9.mono (by omega))⟩
                case measure => rw [HN.out]; omega
        · obtain ⟨d1, d2, d3⟩ := HP.out.done hm1' hlt
          have D2 := Lib.hid d2
          have D3 := Lib.hid d3
          have D1 := Lib.hid d1
          clear d1 d2 d3
          go_wp2
          go_ret2
          have o9 := own_mono ho (b' := w.heap.size) (by omega)
          rw [D2.out, D1.out] at o9
          refine ⟨_, ?_, o9, hb7⟩
          rw [← D3.out, D1.out]; rfl
end Go.Proofs.Ytpaeagkgmbhndaa
