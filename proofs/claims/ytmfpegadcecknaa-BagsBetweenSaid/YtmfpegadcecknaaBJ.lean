/- Orienting. -/
import Derived.Test.YtmfpegadcecknaaBI
namespace Go.Proofs.Ytmfpegadcecknaa
open Go.RowKit
attribute [local go_sem] Oper.semAt_some
set_option maxHeartbeats 1000000
set_option maxRecDepth 100000
theorem Orient_none (n : Int) (A : Option Addr) (c : Nat) (es : List (Int × Int)) (w : World) (hx : es.length ≤ 1000000) (ha : PairsAt w A es) (h : readF n es = none) :
    Calls Try.prog 27 #[.int .i64 n, .slice A es.length c] w fun e w' => e = .returned (.tuple #[.slice none 0 0, .slice none 0 0, .int .i64 2]) ∧ Below w.heap.size w w' := by
  have HC := Lib.hid (rg_none (c := c) hx ha h)
  clear h
  go_enter Try.func27, Try.ntmps27
  go_wp2_with (first
    | (go_at_call 41; refine HC.out.mono ?_; rintro e w2 ⟨rfl, hb2⟩; have hs2 := hb2.size)
    | (refine wpList_store_row rfl 75 (.tmp 7) (.tmp 18) rfl w2.heap.size (gcells 0 Z16).toArray rfl rfl 75 #[.int .i64 0, .int .u32 0, .int .u32 0, .int .u32 0, .int .u32 0, .int .u32 0, .int .u32 0, .int .u32 0, .int .u32 0, .int .u32 0, .int .u32 0, .int .u32 0, .int .u32 0, .int .u32 0, .int .u32 0, .int .u32 0, .int .u32 0] (heap_alloc_new _ _) info75 rfl (gcells_one _ _) ?_; rw [setRow_alloc]))
  refine bodyPost_ret (v := .tuple #[.slice none 0 0, .slice none 0 0, .int .i64 2]) ?_ rfl ⟨rfl, hb2.alloc hs2 _⟩
  simp [results, Try.results27, go_sem]
/-- What an orientation has: few heads everywhere, and a set that proves it. -/
structure OrientI (m : Nat) (es : List (Int × Int)) (gs : List Nat) (s p q : Nat) (hs ts : List Nat) : Prop where
  dens : Dens m gs s p q
  zero : p = 0 → es = [] ∧ hs = [] ∧ ts = []
  pos : 0 < p → ts = ms s ∧ es ≠ []
  heads : HeadsP es (natI hs)
  low : ∀ v, v < 16 → getn (cntT (natI hs) es.length) v ≤ (p + q - 1) / q
theorem dens_zero {m : Nat} {es : List (Int × Int)} {gs : List Nat} (h : readF m es = some gs) {s p q : Nat} (d : Dens m gs s p q) : p = 0 ↔ es = [] := by
  obtain ⟨hm1, hm2, hg, hI⟩ := readF_ok h
  have hall : ∀ v : Nat, v < m → sHas (sAll m) v = true := fun v hv => by unfold sHas; rw [all_bit]; simpa using hv
  have hal : ∀ v, sHas (sAll m) v = true → v < m := fun v hv => by unfold sHas at hv; rw [all_bit] at hv; simpa using hv
  have hlt := all_lt (m := m) (by omega)
  constructor
  · rintro rfl
    cases es with
    | nil => rfl
    | cons e es =>
      exfalso
      have h1 := d.up (sAll m) hlt hal
      rw [ends_ins h (xs := natI (ms (sAll m))) (fun v => ms_has hlt)] at h1
      have h2 := readF_edges h (k := 0) (by simp)
      have h3 : 1 ≤ insT (e :: es) (natI (ms (sAll m))) (e :: es).length := by
        have : ∀ k, 1 ≤ insT (e :: es) (natI (ms (sAll m))) (k + 1) := by
          intro k
          induction k with
          | zero =>
            rw [insT, insT, if_pos]
            · omega
            · obtain ⟨a, ha⟩ : ∃ a : Nat, pA (e :: es) 0 = a := ⟨(pA (e :: es) 0).toNat, by omega⟩
              obtain ⟨b, hb⟩ : ∃ b : Nat, pB (e :: es) 0 = b := ⟨(pB (e :: es) 0).toNat, by omega⟩
              rw [ha, hb]
              exact ⟨(ms_has hlt).2 (hall a (by omega)), (ms_has hlt).2 (hall b (by omega))⟩
          | succ k ih => rw [insT]; omega
        exact this es.length
      have h4 := d.q0
      have : 1 ≤ q * insT (e :: es) (natI (ms (sAll m))) (e :: es).length := Nat.mul_pos h4 h3
      omega
  · rintro rfl
    have h1 : endsOf gs s (ms s) / 2 = 0 := by
      rw [ends_ins h (xs := natI (ms s)) (fun v => ms_has d.lt)]; rfl
    obtain ⟨_, _, _, h2⟩ := den_terms d.lt d.ne d.den
    rw [h1, Nat.zero_mul] at h2
    have h3 := pc_pos d.lt d.ne
    rcases Nat.mul_eq_zero.1 h2 with h4 | h4
    · exact h4
    · omega
theorem own_row {w : World} {b g : Nat} {xs : List Nat} (h : Row w g 3 (intv xs)) (hb : b ≤ g) (hl : xs.length ≤ 1000000) : w.ownsRow b 3 1 (.slice (some ⟨g, 0, none⟩) xs.length xs.length) xs.length (intv xs) :=
  ⟨by simp [intv], .inr ⟨g, xs.length, _, rfl, hb, h, Nat.le_refl _, by unfold maxLen; omega, by simp [intv], by rw [List.take_of_length_le (by simp [intv])]⟩⟩
/-- No load is greater than the density, rounded up. -/
theorem relieved {m : Nat} {gs : List Nat} {s p q g lim t : Nat} {w : World} (d : Dens m gs s p q) (hsym : ∀ u v, sHas (near gs u) v = sHas (near gs v) u) (hlow : ∀ u v, sHas (near gs u) v = true → v < m) (hir : ∀ v, sHas (near gs v) v = false) (hlim : lim = (p + q - 1) / q)
    (h : RelPost g m gs 1 lim t w) : ∃ H L, Spread gs 1 H L ∧ Div w g m gs H L ∧ ∀ v ∈ ms (sAll m), L v ≤ lim := by
  obtain ⟨H, L, sp, hd, h1 | ⟨v, hv, hl, hw⟩⟩ := h
  · exact ⟨H, L, sp, hd, h1.2⟩
  · exfalso
    have hv16 := (mem_ms.1 hv).1
    have hvm : v < m := by have := (mem_ms.1 hv).2; unfold sHas at this; rw [all_bit] at this; simpa using this
    have h2 := sp.denser hsym hv16 hl hw
    have hRm : ∀ u, sHas t u = true → u < m := fun u hu => by
      by_cases e : u = v
      · subst e; exact hvm
      · obtain ⟨x, hx⟩ := hw.reach u (lt16_bits hw.lt hu) hu e
        exact hlow x u hx
    have h3 := d.up t hw.lt hRm
    have h4 := ends_even hsym hir t
    have hq := d.q0
    have h5 : lim * pc 16 t < endsOf gs t (ms t) / 2 := by
      have : 2 * (lim * pc 16 t) < endsOf gs t (ms t) := by
        have h6 : 2 * ((lim : Int) * (pc 16 t : Int)) < (endsOf gs t (ms t) : Int) := by simpa using h2
        exact_mod_cast h6
      omega
    have h6 : p ≤ lim * q := by
      have := Nat.div_add_mod (p + q - 1) q
      have h7 := Nat.mod_lt (p + q - 1) hq
      rw [← hlim, Nat.mul_comm] at this
      omega
    have h7 : p * pc 16 t ≤ lim * q * pc 16 t := Nat.mul_le_mul_right _ h6
    have h8 : q * (lim * pc 16 t) < q * (endsOf gs t (ms t) / 2) := Nat.mul_lt_mul_of_pos_left h5 hq
    have h9 : lim * q * pc 16 t = q * (lim * pc 16 t) := by ac_rfl
    omega
theorem Orient_some (m : Nat) (A : Option Addr) (c : Nat) (es : List (Int × Int)) (gs : List Nat) (w : World) (hx : es.length ≤ 1000000) (ha : PairsAt w A es) (h : readF m es = some gs) :
    Calls Try.prog 27 #[.int .i64 m, .slice A es.length c] w fun e w' => ∃ v1 v2 hs ts s p q, e = .returned (.tuple #[v1, v2, .int .i64 0]) ∧ OrientI m es gs s p q hs ts ∧ w'.ownsRow w.heap.size 3 1 v1 hs.length (intv hs) ∧ w'.ownsRow w.heap.size 3 1 v2 ts.length (intv ts) ∧ Below w.heap.size w w' := by
  obtain ⟨hm1, hm2, hg, hI⟩ := readF_ok h
  have hm16 : m ≤ 16 := by omega
  have HC := Lib.hid (rg_some (c := c) hx ha h)
  have HDN := Lib.hid (fun w => densest_read h w)
  have HED := Lib.hid (fun k (hk : k < es.length) => (by have := readF_edges h hk; omega : 0 ≤ pA es k ∧ pA es k < 16 ∧ 0 ≤ pB es k ∧ pB es k < 16 ∧ pA es k ≠ pB es k))
  have HH := Lib.hid h
  have HPA := Lib.hid (fun (W : World) (hb : Below w.heap.size w W) => ha.below hb)
  clear h hm1 hm2 ha
  go_enter Try.func27, Try.ntmps27
  go_wp2_with (first
    | (go_at_call 41; refine HC.out.mono ?_; rintro e w2 ⟨rfl, hb2⟩; have hs2 := hb2.size; have rg : Row (w2.alloc (.cells (gcells m gs).toArray 75)) w2.heap.size 75 (gcells m gs) := row_new rfl; have hb3 : Below w.heap.size w (w2.alloc (.cells (gcells m gs).toArray 75)) := hb2.alloc hs2 _; clear HC hb2)
    | (refine wpList_store_row rfl 75 (.tmp 7) (.tmp 18) rfl w2.heap.size (gcells m gs).toArray rfl rfl 75 #[.int .i64 0, .int .u32 0, .int .u32 0, .int .u32 0, .int .u32 0, .int .u32 0, .int .u32 0, .int .u32 0, .int .u32 0, .int .u32 0, .int .u32 0, .int .u32 0, .int .u32 0, .int .u32 0, .int .u32 0, .int .u32 0, .int .u32 0] (heap_alloc_new _ _) (info75g hg) (size75g hg) (gcells_one _ _) ?_; rw [setRow_alloc])
    | (refine wpList_load_row rfl 75 (.tmp 7) rfl w2.heap.size rfl 75 (gcells m gs).toArray (0, 0) _ (row_heap rg) Try.underlying75 rfl (info75g hg) ?_)
    | (go_at_call 42; refine (HDN.out _).mono ?_; rintro e w4 ⟨s, p, q, g, H, L, rfl, hpost, hg4, hd4, hb4⟩; have HDA := Lib.hid (hpost.dens HH.out); obtain ⟨q0, q16, p128⟩ : 0 < q ∧ q ≤ 16 ∧ p ≤ 128 := ⟨HDA.out.q0, HDA.out.q16, HDA.out.p128⟩; have x0 := (rg.below hb4).alloc (.cells #[.int .i64 p, .int .i64 q] 26); have y0 : Row (w4.alloc (.cells #[.int .i64 p, .int .i64 q] 26)) w4.heap.size 26 [.int .i64 p, .int .i64 q] := row_new rfl; obtain ⟨⟨c0, c1⟩, -⟩ := y0.cells2; have hb5 := (hb3.trans (hb4.mono hb3.size)).alloc (by have := hb4.size; have := hb3.size; omega) (.cells #[.int .i64 p, .int .i64 q] 26); clear rg hpost hb3 hb4 hd4 hg4; have hlm : ((p : Int) + q - 1) / q = (((p + q - 1) / q : Nat) : Int) := (by rw [show ((p : Int) + q - 1) = ((p + q - 1 : Nat) : Int) by omega]; rfl); have hlim2 : (p + q - 1) / q ≤ 1000 := Nat.le_trans (Nat.div_le_self _ _) (by omega); have HLM := Lib.hid hlm; have hsl := HDA.out.lt; generalize hlq : (p + q - 1) / q = lim at HLM hlim2; have HLQ := Lib.hid hlq; clear hlm hlq; cases hz : ((p : Int) == 0))
    | (refine wpList_load_row rfl 75 (.tmp 7) rfl w2.heap.size rfl 75 (gcells m gs).toArray (0, 0) _ (row_heap x0) Try.underlying75 rfl (info75g hg) ?_)
    | (go_at_call 49; refine (divide_any m gs 1 _ hg hm16 ⟨by omega, by omega⟩).mono ?_; rintro e w6 ⟨g6, H6, L6, hg6, rfl, hgv, hdv, hb6⟩; have HSP := Lib.hid (Giv.spread HH.out (by omega) hgv); have hb7 := hb5.trans (hb6.mono hb5.size); have hz6 := hb5.size; clear hgv hb6 hb5 x0 y0 c0 c1)
    | (go_at_call 50; rw [HLM.out]; refine (relieve_any g6 m gs H6 L6 1 lim _ hg hm16 ⟨by omega, by omega⟩ ⟨by omega, by omega⟩ (fun u v _ _ => readF_sym HH.out u v) HSP.out hdv).mono ?_; rintro e w7 ⟨t7, rfl, hrel, hfr⟩; have hb8 := Fr.under hb7 hfr (by intro i h1 h2; omega); obtain ⟨H7, L7, sp7, hd7, hle7⟩ := relieved HDA.out (readF_sym HH.out) (fun u v hu => readF_low HH.out (by rw [readF_sym HH.out]; exact hu)) (readF_hir HH.out) HLQ.out.symm hrel; have SP7 := Lib.hid sp7; have LE7 := Lib.hid hle7; clear hrel hfr hb7 hdv sp7 hle7)
    | (go_at_call 51; refine (heads_div g6 m gs H7 L7 A c es _ hg hd7 hx (HPA.out _ hb8) HED.out).mono ?_; rintro e w8 ⟨hs, hlen, hho, rfl, hr8, hb9⟩; have hb10 := hb8.trans (hb9.mono hb8.size); have hz7 := hb8.size; have LEN := Lib.hid hlen; have HO := Lib.hid hho; clear hlen hho hb8 hb9)
    | (go_at_call 43; refine (list_any s hsl _).mono ?_; rintro e w9 ⟨v9, rfl, o9, hb11⟩; have hr9 := hr8.below hb11; have hb12 := hb10.trans (hb11.mono hb10.size); have hz8 := hb10.size; clear hr8 hb10 hb11))
  · have hp0 : p ≠ 0 := by intro e; subst e; simp at hz
    refine bodyPost_ret (v := .tuple #[.slice (some ⟨w7.heap.size, 0, none⟩) es.length es.length, v9, .int .i64 0]) (by simp [results, Try.results27, go_sem]) rfl ⟨_, _, hs, ms s, s, p, q, rfl, ⟨HDA.out, fun h => absurd h hp0, fun _ => ⟨rfl, fun he => hp0 ((dens_zero HH.out HDA.out).2 he)⟩, ?_, ?_⟩, ?_, own_mono o9 hz8, hb12⟩
    · refine ⟨by rw [natI_len, LEN.out], fun i hi => ?_⟩
      rw [geti_natI, HO.out i hi]
      split
      · exact .inr rfl
      · exact .inl rfl
    · intro v hv
      have h1 := cnt_load HH.out SP7.out LEN.out HO.out hv
      by_cases hm : v < m
      · have h2 := LE7.out v (mem_ms.2 ⟨hv, by unfold sHas; rw [all_bit]; simpa using hm⟩)
        rw [HLQ.out]; omega
      · have h3 := SP7.out.load v hv
        have h4 : outF H7 v = 0 := by
          unfold outF
          refine (sumN_congr 16 fun u hu => SP7.out.no v u hv hu ?_).trans (sumN_zero 16)
          cases e : sHas (near gs v) u
          · rfl
          · exact absurd (readF_low HH.out e) hm
        rw [HLQ.out]
        omega
    · have := own_row (b := w.heap.size) hr9 hz7 (by rw [LEN.out]; exact hx)
      rwa [LEN.out] at this ⊢
  · have hp0 : p = 0 := by simpa using hz
    have he := (dens_zero HH.out HDA.out).1 hp0
    refine bodyPost_ret (v := .tuple #[.slice none 0 0, .slice none 0 0, .int .i64 0]) (by simp [results, Try.results27, go_sem]) rfl ⟨_, _, [], [], s, p, q, rfl, ⟨HDA.out, fun _ => ⟨he, rfl, rfl⟩, fun h => absurd hp0 (by omega), ⟨by rw [he]; rfl, fun i hi => by rw [he] at hi; exact absurd hi (by simp)⟩, ?_⟩, ⟨rfl, .inl ⟨rfl, rfl⟩⟩, ⟨rfl, .inl ⟨rfl, rfl⟩⟩, hb5⟩
    intro v hv
    rw [he]
    show getn zer v ≤ _
    rw [getn_zer]; exact Nat.zero_le _
end Go.Proofs.Ytmfpegadcecknaa
