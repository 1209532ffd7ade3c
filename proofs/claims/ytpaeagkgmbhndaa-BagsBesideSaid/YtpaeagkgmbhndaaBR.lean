/- BagsBetween returns true: the numbers, the walk, the row. -/
import Derived.Test.YtpaeagkgmbhndaaBP
import Derived.Test.YtpaeagkgmbhndaaZL
import Derived.Test.YtpaeagkgmbhndaaZK
/- Between density, height and core numbers. -/
namespace Go.Proofs.Ytpaeagkgmbhndaa
open Go.RowKit
set_option maxHeartbeats 1000000
set_option maxRecDepth 100000
theorem nb_sum (gs : List Nat) (S v : Nat) : (nb gs S v : Int) = sumN 16 (fun u => if sHas S u = true ∧ sHas (near gs v) u = true then 1 else 0) := by
  unfold nb
  rw [pc_sum]
  refine sumN_congr 16 (fun u hu => ?_)
  have hb : sHas (sAnd (near gs v) S) u = ((near gs v).testBit u && S.testBit u) := sAnd_bit _ _ _
  rw [hb]
  unfold sHas at *
  by_cases e1 : S.testBit u = true <;> by_cases e2 : (near gs v).testBit u = true <;> simp [e1, e2]
theorem ends_without {m : Nat} {es : List (Int × Int)} {gs : List Nat} (h : readF m es = some gs) {S x : Nat} (hS : S < 65536) (hx : x < 16) (hin : sHas S x = true) :
    endsOf gs S (ms S) = endsOf gs (sWithout S x) (ms (sWithout S x)) + 2 * nb gs S x := by
  have hsym := readF_sym h
  have hir := readF_hir h
  have bit : ∀ v, sHas (sWithout S x) v = true ↔ sHas S v = true ∧ v ≠ x := fun v => by
    unfold sHas
    rw [without_bit S x v hS hx]
    by_cases e : x = v
    · subst e; simp
    · have e' : v ≠ x := fun h => e h.symm
      simp [e, e']
  have key : (endsOf gs S (ms S) : Int) = endsOf gs (sWithout S x) (ms (sWithout S x)) + (nb gs S x + nb gs S x) := by
    rw [ends_sum, ends_sum]
    have e1 : ∀ v, v < 16 → sumN 16 (fun u => if sHas S v = true ∧ sHas S u = true ∧ sHas (near gs v) u = true then 1 else 0) =
        sumN 16 (fun u => if sHas (sWithout S x) v = true ∧ sHas (sWithout S x) u = true ∧ sHas (near gs v) u = true then 1 else 0) + ((if v = x then (nb gs S x : Int) else 0) + (if sHas S v = true ∧ sHas (near gs x) v = true then 1 else 0)) := by
      intro v hv
      have e2 : ∀ u, u < 16 → (if sHas S v = true ∧ sHas S u = true ∧ sHas (near gs v) u = true then (1 : Int) else 0) =
          (if sHas (sWithout S x) v = true ∧ sHas (sWithout S x) u = true ∧ sHas (near gs v) u = true then 1 else 0) + ((if v = x then (if sHas S u = true ∧ sHas (near gs x) u = true then 1 else 0) else 0) + (if u = x then (if sHas S v = true ∧ sHas (near gs x) v = true then 1 else 0) else 0)) := by
        intro u hu
        simp only [bit v, bit u]
        by_cases a : v = x
        · subst a
          by_cases b : u = v
          · subst b; simp [hir u]
          · simp [b, hin]
        · by_cases b : u = x
          · subst b
            rw [hsym v u]
            simp [a, hin]
          · simp [a, b]
      rw [sumN_congr 16 e2, sumN_add, sumN_add, sumN_one, if_pos hx]
      congr 2
      by_cases a : v = x
      · simp only [a, if_true]; rw [← nb_sum]
      · simp only [a, if_false]; exact sumN_zero 16
    rw [sumN_congr 16 e1, sumN_add, sumN_add, sumN_one, if_pos hx, ← nb_sum]
  omega
theorem ends_ge {gs : List Nat} {S k : Nat} : ∀ xs : List Nat, (∀ v ∈ xs, k ≤ nb gs S v) → k * xs.length ≤ endsOf gs S xs := by
  apply snocInd
  · intro _; simp
  · intro xs v ih h
    rw [endsOf_snoc, List.length_append]
    have h1 := ih (fun u hu => h u (by simp [hu]))
    have h2 := h v (by simp)
    show k * (xs.length + 1) ≤ _ + nb gs S v
    rw [Nat.mul_add, Nat.mul_one]; omega
theorem dens_deg {m : Nat} {es : List (Int × Int)} {gs : List Nat} (h : readF m es = some gs) {s p q : Nat} (D : Dens m gs s p q) {v : Nat} (hv : v < 16) (hin : sHas s v = true) : p ≤ nb gs s v * q := by
  have hsym := readF_sym h
  have hir := readF_hir h
  obtain ⟨q0, _, _, h4⟩ := den_terms D.lt D.ne D.den
  have h1 := ends_without h D.lt hv hin
  have h2 := pc_without D.lt hv hin
  have h3 := D.up (sWithout s v) (without_lt D.lt) (fun u hu => D.sub u (by
    unfold sHas at hu ⊢
    rw [without_bit s v u D.lt hv] at hu
    simp at hu; exact hu.1))
  have a1 := ends_even hsym hir s
  have a2 := ends_even hsym hir (sWithout s v)
  generalize endsOf gs s (ms s) / 2 = E at *
  generalize endsOf gs (sWithout s v) (ms (sWithout s v)) / 2 = E' at *
  have e : E = E' + nb gs s v := by omega
  subst e
  rw [← h2, Nat.add_mul, Nat.mul_add, Nat.mul_one] at h4
  have : q * E' = E' * q := Nat.mul_comm _ _
  omega
/-- The greatest core number. -/
structure TopC (m : Nat) (gs : List Nat) (K : Nat) : Prop where
  le : ∀ v, v < m → getn (coreF m gs) v ≤ K
  eq : ∃ v, v < m ∧ getn (coreF m gs) v = K
theorem TopC.up {m : Nat} {es : List (Int × Int)} {gs : List Nat} (h : readF m es = some gs) {s p q K : Nat} (D : Dens m gs s p q) (t : TopC m gs K) : p ≤ K * q := by
  obtain ⟨hm1, hm2, hg, hI⟩ := readF_ok h
  have hm : m ≤ 16 := by omega
  obtain ⟨v, hv⟩ := List.exists_mem_of_ne_nil _ (ms_ne D.lt D.ne)
  obtain ⟨hv16, hvs⟩ := mem_ms.1 hv
  have hvm := D.sub v hvs
  have q0 := D.q0
  have hc : ∀ u, u < 16 → sHas s u = true → (p + q - 1) / q ≤ nb gs s u := fun u hu hus => by
    have h1 := dens_deg h D hu hus
    refine Nat.le_of_lt_succ ((Nat.div_lt_iff_lt_mul q0).2 ?_)
    show p + q - 1 < (nb gs s u + 1) * q
    rw [Nat.add_mul, Nat.one_mul]; omega
  have h1 := (core_iff hI hm hvm ((p + q - 1) / q)).2 (.inr ⟨s, D.lt, fun u _ hu => D.sub u hu, hvs, hc⟩)
  have h2 := t.le v hvm
  have h3 : (p + q - 1) / q * q ≤ K * q := Nat.mul_le_mul_right _ (by omega)
  have h4 := Nat.div_add_mod (p + q - 1) q
  have h5 := Nat.mod_lt (p + q - 1) q0
  have h6 : q * ((p + q - 1) / q) = (p + q - 1) / q * q := Nat.mul_comm _ _
  omega
theorem TopC.low {m : Nat} {es : List (Int × Int)} {gs : List Nat} (h : readF m es = some gs) {s p q K : Nat} (D : Dens m gs s p q) (t : TopC m gs K) : K * q ≤ 2 * p := by
  obtain ⟨hm1, hm2, hg, hI⟩ := readF_ok h
  have hm : m ≤ 16 := by omega
  obtain ⟨v, hvm, e⟩ := t.eq
  rcases (core_iff hI hm hvm K).1 (by omega) with h0 | ⟨T, hT, hTm, hTv, hTd⟩
  · have : K = 0 := by omega
    subst this; omega
  · have hne : T ≠ 0 := fun e => by subst e; unfold sHas at hTv; simp at hTv
    have hlow : ∀ u, sHas T u = true → u < m := fun u hu => hTm u (by
      have := (mem_ms' hT).2 hu; exact (mem_ms.1 this).1) hu
    have h1 := D.up T hT hlow
    have h2 := ends_ge (gs := gs) (S := T) (k := K) (ms T) (fun u hu => hTd u (mem_ms.1 hu).1 (mem_ms.1 hu).2)
    have h3 := ends_even (readF_sym h) (readF_hir h) T
    have hp := pc_pos hT hne
    have h4 : (ms T).length = pc 16 T := rfl
    rw [h4] at h2
    generalize endsOf gs T (ms T) / 2 = E at *
    refine Nat.le_of_mul_le_mul_right (c := pc 16 T) ?_ hp
    calc K * q * pc 16 T = q * (K * pc 16 T) := by ac_rfl
      _ ≤ q * (2 * E) := Nat.mul_le_mul_left _ (by omega)
      _ = 2 * (q * E) := by ac_rfl
      _ ≤ 2 * (p * pc 16 T) := Nat.mul_le_mul_left _ h1
      _ = 2 * p * pc 16 T := by ac_rfl
theorem peel_dense {gs : List Nat} (hI : Irr gs) : ∀ (n S : Nat), S < 65536 → pc 16 S = n → ∀ x ∈ peelL gs n S, ∃ T v, T < 65536 ∧ (∀ u, sHas T u = true → sHas S u = true) ∧ v < 16 ∧ sHas T v = true ∧ Dense gs x.2 T := by
  intro n
  induction n with
  | zero => intro S _ _ x hx; cases hx
  | succ n ih =>
    intro S hS hp x hx
    have h0 : S ≠ 0 := fun e => by
      subst e
      have h2 : pc 16 0 = 0 := by decide
      rw [h2] at hp; cases hp
    obtain ⟨hb16, hbS⟩ := lone_mem hI hS h0
    obtain ⟨_, hs2, hs3⟩ := lone_spec gs S (ms S) (fun v hv => nb_lt hI (mem_ms.1 hv).1)
    have hpw := pc_without hS hb16 hbS
    rcases List.mem_cons.1 hx with rfl | hx
    · exact ⟨S, _, hS, fun _ h => h, hb16, hbS, fun u hu h => hs3 u (mem_ms.2 ⟨hu, h⟩)⟩
    · obtain ⟨T, v, a, b, c, d, e⟩ := ih _ (without_lt hS) (by omega) x hx
      refine ⟨T, v, a, fun u hu => ?_, c, d, e⟩
      have := b u hu
      unfold sHas at this ⊢
      rw [without_bit S _ u hS hb16] at this
      simp at this; exact this.1
theorem fold_le {B : Nat} : ∀ (L : List (Nat × Nat)) (G : Nat) (cs : List Nat), G ≤ B → (∀ x ∈ L, x.2 ≤ B) → (∀ v, getn cs v ≤ B) → ∀ v, getn (L.foldl coreS (G, cs)).2 v ≤ B := by
  intro L
  induction L with
  | nil => intro G cs _ _ h v; exact h v
  | cons x L ih =>
    intro G cs hG hL hc v
    have hx := hL x (by simp)
    have hG2 : (if G < x.2 then x.2 else G) ≤ B := by split <;> omega
    show getn (L.foldl coreS ((if G < x.2 then x.2 else G), cs.set x.1 (if G < x.2 then x.2 else G))).2 v ≤ B
    refine ih _ _ hG2 (fun y hy => hL y (by simp [hy])) (fun u => ?_) v
    by_cases hl : x.1 < cs.length
    · rw [getn_set hl]; split
      · exact hG2
      · exact hc u
    · rw [List.set_eq_of_length_le (by omega)]; exact hc u
theorem TopC.peel {m : Nat} {es : List (Int × Int)} {gs : List Nat} (h : readF m es = some gs) {K : Nat} (t : TopC m gs K) : maxTo (natI (lftF m gs)) m = (K : Int) := by
  obtain ⟨hm1, hm2, hg, hI⟩ := readF_ok h
  have hm : m ≤ 16 := by omega
  obtain ⟨h1, i, hi, h2⟩ := maxTo_spec (natI (lftF m gs)) m (by omega)
  have hll : (lftF m gs).length = m := by unfold lftF; rw [List.length_map, peelL_len]
  have hall : ∀ u, sHas (sAll m) u = true ↔ u < m := fun u => by unfold sHas; rw [all_bit]; simp
  rw [geti_natI] at h2
  have hget : ∀ j, j < m → ∃ x ∈ peelL gs m (sAll m), x.2 = getn (lftF m gs) j := fun j hj => by
    have : getn (lftF m gs) j ∈ lftF m gs := by unfold getn; rw [List.getD_eq_getElem?_getD, List.getElem?_eq_getElem (by omega)]; simp
    obtain ⟨x, hx, e⟩ := List.mem_map.1 this
    exact ⟨x, hx, e⟩
  have hup : getn (lftF m gs) i ≤ K := by
    obtain ⟨x, hx, e⟩ := hget i hi
    obtain ⟨T, v, a, b, c, d, f⟩ := peel_dense hI m (sAll m) (all_lt hm) (pc_all hm) x hx
    have hvm := (hall v).1 (b v d)
    have := (core_iff hI hm hvm x.2).2 (.inr ⟨T, a, fun u _ hu => (hall u).1 (b u hu), d, f⟩)
    have := t.le v hvm
    omega
  have hlo : K ≤ getn (lftF m gs) i := by
    obtain ⟨v, hv, e⟩ := t.eq
    rw [← e]
    unfold coreF coreL
    refine fold_le _ _ _ (Nat.zero_le _) (fun x hx => ?_) (fun u => ?_) v
    · obtain ⟨j, hj, e2⟩ := List.getElem_of_mem hx
      rw [peelL_len] at hj
      have := h1 j hj
      rw [geti_natI, ← h2] at this
      have e3 : getn (lftF m gs) j = x.2 := by
        unfold getn lftF; rw [List.getD_eq_getElem?_getD, List.getElem?_map, List.getElem?_eq_getElem (by rw [peelL_len]; exact hj)]; simp [e2]
      omega
    · unfold getn; rw [List.getD_eq_getElem?_getD, List.getElem?_replicate]; split <;> simp
  rw [← h2]
  omega
end Go.Proofs.Ytpaeagkgmbhndaa
/- BagsBetween returns true: the walk. -/
namespace Go.Proofs.Ytpaeagkgmbhndaa
open Go.RowKit
set_option maxHeartbeats 1000000
set_option maxRecDepth 100000
theorem TopC.ex {m : Nat} {es : List (Int × Int)} {gs : List Nat} (h : readF m es = some gs) : ∃ K, TopC m gs K ∧ K ≤ 16 := by
  obtain ⟨hm1, hm2, hg, hI⟩ := readF_ok h
  have hm : m ≤ 16 := by omega
  obtain ⟨h1, i, hi, h2⟩ := maxTo_spec (natI (coreF m gs)) m (by omega)
  rw [geti_natI] at h2
  refine ⟨getn (coreF m gs) i, ⟨fun v hv => ?_, i, hi, rfl⟩, ?_⟩
  · have := h1 v hv; rw [geti_natI, ← h2] at this; omega
  · have := core_lt hI (fun u v hu => readF_low h (by rw [readF_sym h]; exact hu)) hm hi; omega
theorem between {m : Nat} {es : List (Int × Int)} {gs : List Nat} (h : readF m es = some gs) {s p q : Nat} (D : Dens m gs s p q) {hs ts : List Nat} {s2 p2 q2 : Nat} (O : OrientI m es gs s2 p2 q2 hs ts) :
    HeadsP es (natI hs) ∧ maxTo (natI (cntT (natI hs) (natI hs).length)) 16 = (((p + q - 1) / q : Nat) : Int) := by
  obtain ⟨rfl, rfl, rfl⟩ := D.one O.dens
  refine ⟨O.heads, ?_⟩
  obtain ⟨G, h1, h2, ⟨v, hv, h3⟩, _, _⟩ := height_nat h O.heads
  have h4 := heads_least h D O.heads h2
  have h5 := O.low v hv
  rw [h1]
  omega
/-- What the last statement reads stays. -/
theorem bt_keep {g : Nat} {p q : Int} {A : Option Addr} {oi : List Int} {W0 w1 w2 : World} (h : w1.cell? ⟨g, 0, none⟩ = some (.int .i64 p) ∧ w1.cell? ⟨g, 1, none⟩ = some (.int .i64 q) ∧ Hid (Row w1 g 26 [.int .i64 p, .int .i64 q] ∧ IntsAt w1 A oi ∧ Below W0.heap.size W0 w1)) (b : Below w1.heap.size w1 w2) :
    w2.cell? ⟨g, 0, none⟩ = some (.int .i64 p) ∧ w2.cell? ⟨g, 1, none⟩ = some (.int .i64 q) ∧ Hid (Row w2 g 26 [.int .i64 p, .int .i64 q] ∧ IntsAt w2 A oi ∧ Below W0.heap.size W0 w2) := by
  obtain ⟨-, -, h⟩ := h
  obtain ⟨y, i, bb⟩ := h.out
  have y2 := y.below b
  obtain ⟨⟨k0, k1⟩, -⟩ := y2.cells2
  exact ⟨k0, k1, Lib.hid ⟨y2, i.below b, bb.trans (b.mono bb.size)⟩⟩
theorem bt_ints {g : Nat} {p q : Int} {A : Option Addr} {oi : List Int} {W0 w1 : World} (h : w1.cell? ⟨g, 0, none⟩ = some (.int .i64 p) ∧ w1.cell? ⟨g, 1, none⟩ = some (.int .i64 q) ∧ Hid (Row w1 g 26 [.int .i64 p, .int .i64 q] ∧ IntsAt w1 A oi ∧ Below W0.heap.size W0 w1)) : IntsAt w1 A oi := h.2.2.out.2.1
theorem bt_below {g : Nat} {p q : Int} {A : Option Addr} {oi : List Int} {W0 w1 : World} (h : w1.cell? ⟨g, 0, none⟩ = some (.int .i64 p) ∧ w1.cell? ⟨g, 1, none⟩ = some (.int .i64 q) ∧ Hid (Row w1 g 26 [.int .i64 p, .int .i64 q] ∧ IntsAt w1 A oi ∧ Below W0.heap.size W0 w1)) : Below W0.heap.size W0 w1 := h.2.2.out.2.2
theorem BagsBetween_any (n : Int) (A : Option Addr) (c : Nat) (es : List (Int × Int)) (w : World) (hx : es.length ≤ c) (hc : c ≤ maxLen) (ha : PairsAt w A es) :
    Calls Try.prog 10 #[.int .i64 n, .slice A es.length c] w fun e w' => e = .returned (.bool true) ∧ Below w.heap.size w w' := by
  have hml := modI_lt n (show 0 < 12 by omega)
  have HM := Lib.hid (mod_any n 12 w (by omega) (by omega))
  generalize modI n 12 = m0 at *
  obtain ⟨m, hmm⟩ : ∃ m : Nat, m = 1 + m0 := ⟨_, rfl⟩
  have HMM := Lib.hid (show (1 + (m0 : Int)) = (m : Int) by omega)
  have hm1 : 1 ≤ m := by omega
  have hm12 : m ≤ 12 := by omega
  clear hmm
  have HT := Lib.hid (tame_any m A c es w hx hc ha hm1 (by omega))
  clear hx hc ha
  go_enter Try.func10, Try.ntmps10
  go_wp2_with (first
    | (go_at_call 36; refine HM.out.mono ?_; rintro e w' ⟨rfl, rfl⟩)
    | (go_at_call 37; rw [HMM.out]; refine HT.out.mono ?_; rintro e w1 ⟨v1, own, gs, rfl, hol, hgs, o1, b1⟩; obtain ⟨A1, c1, rfl, -, -, p1⟩ := own_pairs o1; have HG := Lib.hid hgs; obtain ⟨K, hK, hK16⟩ := TopC.ex hgs; have HK := Lib.hid hK; have hcl : (coreF m gs).length = m := coreL_len m _; have HCL := Lib.hid hcl; clear o1 hgs hK hcl)
    | (go_at_call 15; refine (Densest_some m A1 c1 own gs _ (by omega) p1 HG.out).mono ?_; rintro e w2 ⟨v2, g2, s, p, q, H, L, f, rfl, hD, -, -, -, -, -, -, b2⟩; have HD := Lib.hid hD; have q0 := hD.q0; have q16 := hD.q16; have p120 := den_small hm12 hD.lt hD.ne hD.sub hD.den; have p2 := (p1.below b2).alloc (.cells #[.int .i64 p, .int .i64 q] 26); have bb := (b1.trans (b2.mono b1.size)).alloc (b1.trans (b2.mono b1.size)).size (.cells #[.int .i64 p, .int .i64 q] 26); have y : Row (w2.alloc (.cells #[.int .i64 p, .int .i64 q] 26)) w2.heap.size 26 [.int .i64 p, .int .i64 q] := row_new rfl; clear b1 b2 p1 hD)
    | (go_at_call 33; refine (Peel_some m A1 c1 own gs _ (by omega) p2 HG.out).mono ?_; rintro e w3 ⟨v3, rfl, o3, b4⟩; rw [HK.out.peel HG.out]; obtain ⟨A3, c3, e3, h3, -⟩ := own_ints o3; rw [← h3] at e3; subst e3; replace p2 := p2.below b4; replace y := y.below b4; replace bb := bb.trans (b4.mono bb.size); clear b4 o3 h3)
    | (go_at_call 32; refine (Cores_some m A1 c1 own gs _ (by omega) p2 HG.out).mono ?_; rintro e w4 ⟨g4, hg4, rfl, r4, b4⟩; have ic := row_ints r4; replace p2 := p2.below b4; replace y := y.below b4; replace bb := bb.trans (b4.mono bb.size); clear b4 r4)
    | (go_at_call 27; refine (Orient_some m A1 c1 own gs _ (by omega) p2 HG.out).mono ?_; rintro e w5 ⟨v5, v6, hs, ts, s', p', q', rfl, hO, o2, o3, b4⟩; obtain ⟨A5, c5, e5, -, i5⟩ := own_ints o2; rw [← natI_len] at e5; subst e5; obtain ⟨hh, hhg⟩ := between HG.out HD.out hO; have HH := Lib.hid hh; have HHG := Lib.hid hhg; have HBD := Lib.hid (hh.bound HG.out); have hlen : (natI hs).length ≤ 130 := (by rw [hh.1]; exact hol); generalize natI hs = oi at *; replace p2 := p2.below b4; replace y := y.below b4; replace ic := ic.below b4; replace bb := bb.trans (b4.mono bb.size); obtain ⟨⟨k0, k1⟩, -⟩ := y.cells2; clear b4 o2 o3 hO hh hhg)
    | (go_at_call 39; refine (valid_any p q p120 q16 q0 _).mono ?_; rintro e w6 ⟨rfl, b4⟩; replace p2 := p2.below b4; replace y := y.below b4; replace ic := ic.below b4; replace i5 := i5.below b4; replace bb := bb.trans (b4.mono bb.size); clear b4 k0 k1; obtain ⟨⟨k0, k1⟩, -⟩ := y.cells2)
    | (go_at_call 28; refine (heads_yes (by omega) p2 i5 HH.out).mono ?_; rintro e w7 ⟨rfl, n7, rfl⟩))
  replace y := y.drewN n7
  replace ic := ic.drewN n7
  replace i5 := i5.drewN n7
  replace bb := bb.trans (below_drewN n7)
  clear p2 k0 k1
  generalize w6.drewN n7 = W at *
  obtain ⟨⟨k0, k1⟩, -⟩ := y.cells2
  have HIC := Lib.hid ic
  have HI5 := Lib.hid i5
  clear ic i5
  go_loopw [18, 19] (fun t v wr => wr = W ∧ ∃ (j T : Nat), j ≤ m ∧ v = .int .i64 j ∧ t = .int .i64 T ∧ (∀ u, u < j → getn (coreF m gs) u ≤ T) ∧ T ≤ K) (fun _ v _ => m - (intOf v).toNat)
  case atStart => exact ⟨rfl, 0, 0, by omega, rfl, rfl, fun u hu => absurd hu (by omega), by omega⟩
  case round =>
    obtain ⟨rfl, j, T, hj, rfl, rfl, ht, htk⟩ := hrel
    have HTT := Lib.hid ht
    clear ht
    by_cases hlt : j < m
    · obtain ⟨B5, o5, e5, hB5, hc5⟩ := HIC.out (by rw [natI_len, HCL.out]; omega)
      injection e5 with e5
      injection e5 with e5 e6
      subst e5 e6
      have z0 := hc5 j (by rw [natI_len, HCL.out]; omega)
      rw [geti_natI, Nat.zero_add] at z0
      have hck := HK.out.le j hlt
      clear hc5
      generalize hcj : getn (coreF m gs) j = cj at *
      have HCJ := Lib.hid hcj
      clear hcj
      go_wp2
      go_roundw
      case rel => exact ⟨trivial, j + 1, max T cj, by omega, by go_num, by go_num, fun u hu => by
        by_cases e : u = j
        · subst e; rw [HCJ.out]; omega
        · have := HTT.out u (by omega); omega, by omega⟩
      case measure => simp [intOf]; omega
    · obtain rfl : j = m := by omega
      have hTK : T = K := by
        obtain ⟨v, hv, e⟩ := HK.out.eq
        have := HTT.out v hv
        omega
      subst hTK
      have hup := HK.out.up HG.out HD.out
      have hlo := HK.out.low HG.out HD.out
      have hkq : T * q ≤ 16 * 16 := Nat.mul_le_mul hK16 q16
      have hw2 : IntKind.i64.wrap ((T : Int) * q) = ((T * q : Nat) : Int) := by rw [← Int.natCast_mul, IntWalk.i64_in _ (by omega)]
      generalize T * q = Z at *
      have hw1 : IntKind.i64.wrap (2 * (p : Int)) = 2 * p := IntWalk.i64_in _ (by omega)
      have hw3 : IntKind.i64.wrap ((p : Int) + q) = p + q := IntWalk.i64_in _ (by omega)
      have hw4 : IntKind.i64.wrap ((p : Int) + q - 1) = p + q - 1 := IntWalk.i64_in _ (by omega)
      have hlim : (p + q - 1) / q ≤ 1000 := Nat.le_trans (Nat.div_le_self _ _) (by omega)
      have hw5 : IntKind.i64.wrap (((p : Int) + q - 1).tdiv q) = (((p + q - 1) / q : Nat) : Int) := by
        rw [show ((p : Int) + q - 1) = ((p + q - 1 : Nat) : Int) by omega]
        rw [show (((p + q - 1 : Nat) : Int)).tdiv (q : Int) = (((p + q - 1) / q : Nat) : Int) from rfl]
        have hX : ∀ X : Nat, X ≤ 1000 → IntKind.i64.wrap (X : Int) = X := fun X h => IntWalk.i64_in _ (by omega)
        exact hX _ hlim
      have hq0 : ¬ (q : Int) = 0 := by omega
      have hq1 : ((q : Int) == 0) = false := by simpa using hq0
      have hq2 : ¬ q = 0 := by omega
      generalize hlq : (p + q - 1) / q = lim at *
      clear hlq
      have hd1 : decide ((Z : Int) ≤ 2 * p) = true := decide_eq_true (by omega)
      have hd2 : decide ((p : Int) ≤ Z) = true := decide_eq_true (by omega)
      have hS0 : wr.cell? ⟨w2.heap.size, 0, none⟩ = some (.int .i64 p) ∧ wr.cell? ⟨w2.heap.size, 1, none⟩ = some (.int .i64 q) ∧ Hid (Row wr w2.heap.size 26 [.int .i64 p, .int .i64 q] ∧ IntsAt wr A5 oi ∧ Below wr.heap.size wr wr) := ⟨k0, k1, Lib.hid ⟨y, HI5.out, Below.refl _ _⟩⟩
      have HS0 := Lib.hid (bt_keep hS0 (Below.refl _ wr).drew)
      clear hS0
      go_wp2
      have hS1 := HS0.out
      go_region_held3 (fun w' => w'.cell? ⟨w2.heap.size, 0, none⟩ = some (.int .i64 p) ∧ w'.cell? ⟨w2.heap.size, 1, none⟩ = some (.int .i64 q) ∧ Hid (Row w' w2.heap.size 26 [.int .i64 p, .int .i64 q] ∧ IntsAt w' A5 oi ∧ Below wr.heap.size wr w')) (first | assumption | exact bt_keep (by assumption) (by assumption))
        (first
          | (go_at_call 29; refine (RefHeight_any _ A5 c5 oi _ (by omega) (by omega) (bt_ints (by assumption)) HBD.out).mono ?_; rintro e w8 ⟨rfl, b8⟩; rw [HHG.out])
          | (go_at_call 18; refine (awake_any _).mono ?_; rintro e w9 ⟨rfl, b9⟩))
      all_goals
        go_wp2
        go_ret
        exact ⟨rfl, bb.trans ((bt_below (by assumption)).mono bb.size)⟩
end Go.Proofs.Ytpaeagkgmbhndaa
/- BagsBetween returns true for every input: for any number and any list of edges. No condition. -/
namespace Go.Proofs.Ytpaeagkgmbhndaa
open Go.ChangeShapes Go.WideShapes Go.ChangeAt Go.RowKit
set_option maxRecDepth 100000
theorem bagsBetween_lifted (os : Os) (started : os.Started) (H : Type) (enc : TypeId × Value → H) :
    ReturnsInHanded {} Try.checked os 10 .any (Rows.bagsBetweenSpec.pre6 enc Try.prog Try.f10 Rows.bagsBetweenRow.domain false) (Rows.bagsBetweenSpec.post enc Try.prog Try.f10 false true false false) := by
  refine returnsInHanded_of_change (C := Try.checked) Try.own started (by kernel_rfl) Try.func10
    (ChangeSpec.witness6 (enc := enc) (C := Try.checked) false ⟨#[], #[.int .i64 0, .slice none 0 0], []⟩ 8 (by kernel_rfl) (by kernel_rfl) (by kernel_rfl) (by kernel_rfl)) ?_
  intro W base args ds gs before hval0 hW hcnd _
  have hval : ∀ (j : Nat) t v, Try.f10.params[j]? = some t → args[j]? = some v → Value.okWide Try.prog W .any base t v := hval0
  have hW' := hW
  obtain ⟨p, q, hA0, hV, rfl, hfz, hnd⟩ := hW
  have hA : DataW.TrodAll enc Try.prog W 0 (fun _ => true) true Try.f10.params.toList args.toList ds p := hA0
  rw [Try.params10] at hA hval
  obtain ⟨v0, v1, d0, d1, p0, p1, rfl, rfl, rfl, h0, h1⟩ := trodAll_two hA
  obtain ⟨rfl, rfl⟩ := trodVars_none hV
  obtain ⟨n0, rfl, rfl, rfl, w0⟩ := open_int Try.underlying3 (hval 0 3 v0 rfl rfl) h0
  obtain ⟨A1, c1, es1, rfl, hx1, hc1, ha1⟩ := open_pairs Try.underlying22 Try.underlying67 (by kernel_rfl) rfl rfl rfl rfl (hval 1 22 v1 rfl rfl) h1
  refine (BagsBetween_any n0 A1 c1 es1 W hx1 hc1 ha1).mono fun e W' ⟨he, hg⟩ => ?_
  subst he
  exact ⟨_, rfl, law_post Try.laidOut Try.underlying4 rfl rfl (by rw [Try.params10]; exact of_decide_eq_true (by kernel_rfl)) hW' rfl rfl rfl hg⟩
theorem bagsBetween_holds : Rows.BagsBetweenSaid :=
  OpenClaim.holds_of_wide 10 Try.f10 rfl rfl rfl rfl rfl rfl rfl ⟨rfl, rfl, rfl, rfl, rfl⟩ rfl rfl rfl rfl rfl (by kernel_rfl) Try.func10 (by kernel_rfl)
    (of_decide_eq_true (by kernel_rfl)) (by unfold Func.isWrapper; first | (rw [if_pos (by decide +kernel)]; kernel_rfl) | (rw [if_neg (by decide +kernel)]; exact ⟨rfl, rfl⟩))
    (fun os started H enc _ => bagsBetween_lifted os started H enc)
#print axioms bagsBetween_holds
end Go.Proofs.Ytpaeagkgmbhndaa
