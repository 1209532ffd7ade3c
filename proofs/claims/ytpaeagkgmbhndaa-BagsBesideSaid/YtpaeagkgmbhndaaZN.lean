/- Parts BI BJ BK of the proof, in this order. -/
import Derived.Test.YtpaeagkgmbhndaaZM
import Derived.Test.YtpaeagkgmbhndaaZG
/- Orientations: as many heads as pieces. -/
namespace Go.Proofs.Ytpaeagkgmbhndaa
set_option maxHeartbeats 400000
theorem mem_natI {xs : List Nat} {v : Nat} : (v : Int) ∈ natI xs ↔ v ∈ xs := by
  unfold natI
  rw [List.mem_map]
  constructor
  · rintro ⟨x, hx, e⟩
    have : x = v := by omega
    subst this; exact hx
  · intro h; exact ⟨v, h, rfl⟩
theorem upTo_asc (s : Nat) : ∀ k i j, i < j → j < (upTo s k).length → getn (upTo s k) i < getn (upTo s k) j
  | 0, _, j, _, hj => absurd hj (by simp [upTo])
  | k + 1, i, j, hij, hj => by
    cases h : sHas s k
    · rw [upTo_no h] at hj ⊢; exact upTo_asc s k i j hij hj
    · rw [upTo_yes h] at hj ⊢
      have hl : (upTo s k ++ [k]).length = (upTo s k).length + 1 := by simp
      rw [getn_app (by omega), getn_app (by omega)]
      by_cases e : j < (upTo s k).length
      · rw [if_pos (by omega), if_pos e]; exact upTo_asc s k i j hij e
      · rw [if_pos (by omega), if_neg e]
        have hm := getn_mem (show i < (upTo s k).length by omega)
        unfold upTo at hm
        have := (List.mem_filter.1 hm).1
        simpa [upTo] using this
theorem ms_asc (s : Nat) : ∀ i j, i < j → j < (ms s).length → getn (ms s) i < getn (ms s) j := upTo_asc s 16
theorem ms_set {m s : Nat} (hs : s < 65536) (h0 : s ≠ 0) (hm : ∀ v, sHas s v = true → v < m) : IsSet m (natI (ms s)) := by
  refine ⟨fun i hi => ?_, ?_⟩
  · rw [natI_len] at hi
    have h1 := hm _ (mem_ms.1 (getn_mem hi)).2
    rw [geti_natI, geti_natI]
    refine ⟨by omega, by omega, fun hp => ?_⟩
    have := ms_asc s (i - 1) i (by omega) hi
    omega
  · rw [natI_len]; exact List.length_pos_iff.2 (ms_ne hs h0)
theorem ms_has {s v : Nat} (hs : s < 65536) : (v : Int) ∈ natI (ms s) ↔ sHas s v = true := by rw [mem_natI, mem_ms' hs]
theorem ms_pc (s : Nat) : (ms s).length = pc 16 s := rfl
/-- The pieces of the edges so far. -/
def outG (g : List Nat) (H : Nat → Nat → Int) (v : Nat) : Int := sumN 16 (fun u => if sHas (near g v) u = true then H v u else 0)
theorem outG_zero (H : Nat → Nat → Int) (v : Nat) : outG Z16 H v = 0 := by
  unfold outG
  refine (sumN_congr 16 (fun u _ => if_neg ?_)).trans (sumN_zero 16)
  unfold near sHas; rw [List.getElem?_replicate]; split <;> simp
theorem outG_add {g : List Nat} (hr : Rows16 g) {a b : Nat} (ha : a < 16) (hb : b < 16) (hab : a ≠ b) (hn : sHas (near g a) b = false) (hn2 : sHas (near g b) a = false) (H : Nat → Nat → Int) (v : Nat) :
    outG (addE g a b) H v = outG g H v + (if v = a then H a b else 0) + (if v = b then H b a else 0) := by
  have hadd := fun u v => add_has hr ha hb hab u v
  have key : ∀ x y, y < 16 → (∀ u, sHas (near (addE g a b) x) u = true ↔ sHas (near g x) u = true ∨ u = y) → sHas (near g x) y = false → outG (addE g a b) H x = outG g H x + H x y := by
    intro x y hy h hxy
    unfold outG
    have h1 : sumN 16 (fun u => if sHas (near (addE g a b) x) u = true then H x u else 0) = sumN 16 (fun u => (if sHas (near g x) u = true then H x u else 0) + (if u = y then H x y else 0)) := by
      refine sumN_congr 16 fun u _ => ?_
      by_cases e : u = y
      · subst e
        rw [if_pos ((h u).2 (.inr rfl)), if_neg (by rw [hxy]; simp), if_pos rfl, Int.zero_add]
      · rw [if_neg e, Int.add_zero]
        by_cases e2 : sHas (near g x) u = true
        · rw [if_pos ((h u).2 (.inl e2)), if_pos e2]
        · rw [if_neg (fun hh => ((h u).1 hh).elim e2 e), if_neg e2]
    rw [h1, sumN_add, sumN_one, if_pos hy]
  by_cases e1 : v = a
  · subst e1
    rw [if_pos rfl, if_neg hab, Int.add_zero, key v b hb (fun u => by
      rw [hadd]
      constructor
      · rintro (h | ⟨_, h⟩ | ⟨h, _⟩)
        · exact .inl h
        · exact .inr h
        · exact absurd h hab
      · rintro (h | h)
        · exact .inl h
        · exact .inr (.inl ⟨rfl, h⟩)) hn]
  · rw [if_neg e1, Int.add_zero]
    by_cases e2 : v = b
    · subst e2
      rw [if_pos rfl, key v a ha (fun u => by
        rw [hadd]
        constructor
        · rintro (h | ⟨h, _⟩ | ⟨_, h⟩)
          · exact .inl h
          · exact absurd h.symm hab
          · exact .inr h
        · rintro (h | h)
          · exact .inl h
          · exact .inr (.inr ⟨rfl, h⟩)) hn2]
    · rw [if_neg e2, Int.add_zero]
      unfold outG
      refine sumN_congr 16 fun u _ => ?_
      have := hadd v u
      by_cases e3 : sHas (near g v) u = true
      · rw [if_pos (this.2 (.inl e3)), if_pos e3]
      · rw [if_neg (fun hh => (this.1 hh).elim e3 (fun h => h.elim (fun h => e1 h.1) (fun h => e2 h.1))), if_neg e3]
structure CntI (m : Nat) (es : List (Int × Int)) (gs : List Nat) (H : Nat → Nat → Int) (hs : List Int) (k : Nat) (g : List Nat) : Prop where
  pre : PreI m es gs k g
  sym : ∀ x y, sHas (near g x) y = sHas (near g y) x
  sub : ∀ x y, sHas (near g x) y = true → sHas (near gs x) y = true
  cnt : ∀ v, v < 16 → (getn (cntT hs k) v : Int) = outG g H v
theorem cnt_at {m : Nat} {es : List (Int × Int)} {gs : List Nat} (h : readF m es = some gs) {H : Nat → Nat → Int} {L : Nat → Int} (sp : Spread gs 1 H L) {hs : List Nat} (hl : hs.length = es.length) (hh : headsOK es H es.length hs) : ∀ k, k ≤ es.length → ∃ g, CntI m es gs H (natI hs) k g := by
  have hm : m ≤ 16 := by have := readF_ok h; omega
  intro k
  induction k with
  | zero =>
    refine fun _ => ⟨Z16, PreI.start h, fun x y => by unfold near sHas; rw [List.getElem?_replicate, List.getElem?_replicate]; split <;> split <;> simp, fun x y hx => ?_, fun v _ => ?_⟩
    · unfold near sHas at hx; rw [List.getElem?_replicate] at hx; split at hx <;> simp at hx
    · rw [outG_zero]; show (getn zer v : Int) = 0; rw [getn_zer]; rfl
  | succ k ih =>
    intro hk
    obtain ⟨g, hg⟩ := ih (by omega)
    obtain ⟨a, b, h1, h2, h3, h4, h5, h6⟩ := hg.pre.edge (by omega) hm
    have hadd := fun u v => add_has hg.pre.rows (a := a) (b := b) (by omega) (by omega) (by omega) u v
    have hJ : Joins es a b := by
      refine ⟨es[k], List.getElem_mem _, .inl ?_⟩
      have e1 : pA es k = es[k].1 := by unfold pA; rw [List.getD_eq_getElem?_getD, List.getElem?_eq_getElem (by omega)]; rfl
      have e2 : pB es k = es[k].2 := by unfold pB; rw [List.getD_eq_getElem?_getD, List.getElem?_eq_getElem (by omega)]; rfl
      exact ⟨by rw [← e1, h1], by rw [← e2, h2]⟩
    have hgab : sHas (near gs a) b = true := (readF_has h a b).2 hJ
    have hgba : sHas (near gs b) a = true := by rw [readF_sym h]; exact hgab
    refine ⟨addE g a b, h6, fun x y => ?_, fun x y hx => ?_, fun v hv => ?_⟩
    · rw [Bool.eq_iff_iff, hadd, hadd, hg.sym]
      constructor
      · rintro (h | ⟨h, h'⟩ | ⟨h, h'⟩)
        · exact .inl h
        · exact .inr (.inr ⟨h', h⟩)
        · exact .inr (.inl ⟨h', h⟩)
      · rintro (h | ⟨h, h'⟩ | ⟨h, h'⟩)
        · exact .inl h
        · exact .inr (.inr ⟨h', h⟩)
        · exact .inr (.inl ⟨h', h⟩)
    · rcases (hadd x y).1 hx with h | ⟨rfl, rfl⟩ | ⟨rfl, rfl⟩
      · exact hg.sub x y h
      · exact hgab
      · exact hgba
    · have hsum := sp.sum a b (by omega) (by omega) hgab
      have hna := sp.nn a b (by omega) (by omega)
      have hnb := sp.nn b a (by omega) (by omega)
      have hhk := hh k (by omega)
      rw [h1, h2] at hhk
      simp only [Int.toNat_natCast] at hhk
      rw [outG_add hg.pre.rows (by omega) (by omega) (by omega) h5 (by rw [← hg.sym]; exact h5), cntT_succ (by rw [natI_len]; omega), getn_set (by rw [cntT_len, geti_natI]; simp; split at hhk <;> omega), geti_natI]
      have ih2 := hg.cnt v hv
      rw [← ih2]
      simp only [Int.toNat_natCast]
      by_cases e0 : 0 < H b a
      · rw [if_pos e0] at hhk
        have e3 : getn hs k = b := by omega
        rw [e3]
        by_cases e1 : v = a
        · subst e1; rw [if_neg (by omega), if_pos rfl, if_neg (by omega)]; omega
        · rw [if_neg e1]
          by_cases e2 : v = b
          · subst e2; rw [if_pos rfl, if_pos rfl]; omega
          · rw [if_neg (fun e => e2 e.symm), if_neg e2]; omega
      · rw [if_neg e0] at hhk
        have e3 : getn hs k = a := by omega
        rw [e3]
        by_cases e1 : v = a
        · subst e1; rw [if_pos rfl, if_pos rfl, if_neg (by omega)]; omega
        · rw [if_neg e1, if_neg (fun e => e1 e.symm)]
          by_cases e2 : v = b
          · subst e2; rw [if_pos rfl]; omega
          · rw [if_neg e2]; omega
/-- The heads' counts are the loads. -/
theorem cnt_load {m : Nat} {es : List (Int × Int)} {gs : List Nat} (h : readF m es = some gs) {H : Nat → Nat → Int} {L : Nat → Int} (sp : Spread gs 1 H L) {hs : List Nat} (hl : hs.length = es.length) (hh : headsOK es H es.length hs) {v : Nat} (hv : v < 16) : (getn (cntT (natI hs) es.length) v : Int) = L v := by
  obtain ⟨g, hg⟩ := cnt_at h sp hl hh es.length (Nat.le_refl _)
  rw [hg.cnt v hv, hg.pre.done, sp.load v hv]
  unfold outG outF
  refine sumN_congr 16 fun u hu => ?_
  cases e : sHas (near gs v) u
  · rw [if_neg (by simp), sp.no v u hv hu e]
  · rw [if_pos rfl]
end Go.Proofs.Ytpaeagkgmbhndaa
/- Orienting. -/
namespace Go.Proofs.Ytpaeagkgmbhndaa
open Go.RowKit
attribute [local go_sem] Oper.semAt_some
set_option maxHeartbeats 1000000
set_option maxRecDepth 100000
theorem Orient_none (n : Int) (A : Option Addr) (c : Nat) (es : List (Int × Int)) (w : World) (hx : es.length ≤ 1000000) (ha : PairsAt w A es) (h : readF n es = none) :
    Calls Try.prog 27 #[.int .i64 n, .slice A es.length c] w fun e w' => e = .returned (.tuple #[.slice none 0 0, .slice none 0 0, .int .i64 2]) ∧ Below w.heap.size w w' := by
  have HC := Lib.hid (rg_none (c := c) hx ha h)
  clear h
  go_enter Try.func27, Try.ntmps27
  go_wp2_with (first
    | (go_at_call 41; refine HC.out.mono ?_; rintro e w2 ⟨rfl, hb2⟩; have hs2 := hb2.size)
    | (refine wpList_store_row rfl 75 (.tmp 7) (.tmp 18) rfl w2.heap.size (gcells 0 Z16).toArray rfl rfl 75 #[.int .i64 0, .int .u32 0, .int .u32 0, .int .u32 0, .int .u32 0, .int .u32 0, .int .u32 0, .int .u32 0, .int .u32 0, .int .u32 0, .int .u32 0, .int .u32 0, .int .u32 0, .int .u32 0, .int .u32 0, .int .u32 0, .int .u32 0] (heap_alloc_new _ _) info75 rfl (gcells_one _ _) ?_; rw [setRow_alloc]))
  refine bodyPost_ret (v := .tuple #[.slice none 0 0, .slice none 0 0, .int .i64 2]) ?_ rfl ⟨rfl, hb2.alloc hs2 _⟩
  simp [results, Try.results27, go_sem]
/-- What an orientation has: few heads everywhere, and a set that proves it. -/
structure OrientI (m : Nat) (es : List (Int × Int)) (gs : List Nat) (s p q : Nat) (hs ts : List Nat) : Prop where
  dens : Dens m gs s p q
  zero : p = 0 → es = [] ∧ hs = [] ∧ ts = []
  pos : 0 < p → ts = ms s ∧ es ≠ []
  heads : HeadsP es (natI hs)
  low : ∀ v, v < 16 → getn (cntT (natI hs) es.length) v ≤ (p + q - 1) / q
theorem dens_zero {m : Nat} {es : List (Int × Int)} {gs : List Nat} (h : readF m es = some gs) {s p q : Nat} (d : Dens m gs s p q) : p = 0 ↔ es = [] := by
  obtain ⟨hm1, hm2, hg, hI⟩ := readF_ok h
  have hall : ∀ v : Nat, v < m → sHas (sAll m) v = true := fun v hv => by unfold sHas; rw [all_bit]; simpa using hv
  have hal : ∀ v, sHas (sAll m) v = true → v < m := fun v hv => by unfold sHas at hv; rw [all_bit] at hv; simpa using hv
  have hlt := all_lt (m := m) (by omega)
  constructor
  · rintro rfl
    cases es with
    | nil => rfl
    | cons e es =>
      exfalso
      have h1 := d.up (sAll m) hlt hal
      rw [ends_ins h (xs := natI (ms (sAll m))) (fun v => ms_has hlt)] at h1
      have h2 := readF_edges h (k := 0) (by simp)
      have h3 : 1 ≤ insT (e :: es) (natI (ms (sAll m))) (e :: es).length := by
        have : ∀ k, 1 ≤ insT (e :: es) (natI (ms (sAll m))) (k + 1) := by
          intro k
          induction k with
          | zero =>
            rw [insT, insT, if_pos]
            · omega
            · obtain ⟨a, ha⟩ : ∃ a : Nat, pA (e :: es) 0 = a := ⟨(pA (e :: es) 0).toNat, by omega⟩
              obtain ⟨b, hb⟩ : ∃ b : Nat, pB (e :: es) 0 = b := ⟨(pB (e :: es) 0).toNat, by omega⟩
              rw [ha, hb]
              exact ⟨(ms_has hlt).2 (hall a (by omega)), (ms_has hlt).2 (hall b (by omega))⟩
          | succ k ih => rw [insT]; omega
        exact this es.length
      have h4 := d.q0
      have : 1 ≤ q * insT (e :: es) (natI (ms (sAll m))) (e :: es).length := Nat.mul_pos h4 h3
      omega
  · rintro rfl
    have h1 : endsOf gs s (ms s) / 2 = 0 := by
      rw [ends_ins h (xs := natI (ms s)) (fun v => ms_has d.lt)]; rfl
    obtain ⟨_, _, _, h2⟩ := den_terms d.lt d.ne d.den
    rw [h1, Nat.zero_mul] at h2
    have h3 := pc_pos d.lt d.ne
    rcases Nat.mul_eq_zero.1 h2 with h4 | h4
    · exact h4
    · omega
theorem own_row {w : World} {b g : Nat} {xs : List Nat} (h : Row w g 3 (intv xs)) (hb : b ≤ g) (hl : xs.length ≤ 1000000) : w.ownsRow b 3 1 (.slice (some ⟨g, 0, none⟩) xs.length xs.length) xs.length (intv xs) :=
  ⟨by simp [intv], .inr ⟨g, xs.length, _, rfl, hb, h, Nat.le_refl _, by unfold maxLen; omega, by simp [intv], by rw [List.take_of_length_le (by simp [intv])]⟩⟩
/-- No load is greater than the density, rounded up. -/
theorem relieved {m : Nat} {gs : List Nat} {s p q g lim t : Nat} {w : World} (d : Dens m gs s p q) (hsym : ∀ u v, sHas (near gs u) v = sHas (near gs v) u) (hlow : ∀ u v, sHas (near gs u) v = true → v < m) (hir : ∀ v, sHas (near gs v) v = false) (hlim : lim = (p + q - 1) / q)
    (h : RelPost g m gs 1 lim t w) : ∃ H L, Spread gs 1 H L ∧ Div w g m gs H L ∧ ∀ v ∈ ms (sAll m), L v ≤ lim := by
  obtain ⟨H, L, sp, hd, h1 | ⟨v, hv, hl, hw⟩⟩ := h
  · exact ⟨H, L, sp, hd, h1.2⟩
  · exfalso
    have hv16 := (mem_ms.1 hv).1
    have hvm : v < m := by have := (mem_ms.1 hv).2; unfold sHas at this; rw [all_bit] at this; simpa using this
    have h2 := sp.denser hsym hv16 hl hw
    have hRm : ∀ u, sHas t u = true → u < m := fun u hu => by
      by_cases e : u = v
      · subst e; exact hvm
      · obtain ⟨x, hx⟩ := hw.reach u (lt16_bits hw.lt hu) hu e
        exact hlow x u hx
    have h3 := d.up t hw.lt hRm
    have h4 := ends_even hsym hir t
    have hq := d.q0
    have h5 : lim * pc 16 t < endsOf gs t (ms t) / 2 := by
      have : 2 * (lim * pc 16 t) < endsOf gs t (ms t) := by
        have h6 : 2 * ((lim : Int) * (pc 16 t : Int)) < (endsOf gs t (ms t) : Int) := by simpa using h2
        exact_mod_cast h6
      omega
    have h6 : p ≤ lim * q := by
      have := Nat.div_add_mod (p + q - 1) q
      have h7 := Nat.mod_lt (p + q - 1) hq
      rw [← hlim, Nat.mul_comm] at this
      omega
    have h7 : p * pc 16 t ≤ lim * q * pc 16 t := Nat.mul_le_mul_right _ h6
    have h8 : q * (lim * pc 16 t) < q * (endsOf gs t (ms t) / 2) := Nat.mul_lt_mul_of_pos_left h5 hq
    have h9 : lim * q * pc 16 t = q * (lim * pc 16 t) := by ac_rfl
    omega
theorem Orient_some (m : Nat) (A : Option Addr) (c : Nat) (es : List (Int × Int)) (gs : List Nat) (w : World) (hx : es.length ≤ 1000000) (ha : PairsAt w A es) (h : readF m es = some gs) :
    Calls Try.prog 27 #[.int .i64 m, .slice A es.length c] w fun e w' => ∃ v1 v2 hs ts s p q, e = .returned (.tuple #[v1, v2, .int .i64 0]) ∧ OrientI m es gs s p q hs ts ∧ w'.ownsRow w.heap.size 3 1 v1 hs.length (intv hs) ∧ w'.ownsRow w.heap.size 3 1 v2 ts.length (intv ts) ∧ Below w.heap.size w w' := by
  obtain ⟨hm1, hm2, hg, hI⟩ := readF_ok h
  have hm16 : m ≤ 16 := by omega
  have HC := Lib.hid (rg_some (c := c) hx ha h)
  have HDN := Lib.hid (fun w => densest_read h w)
  have HED := Lib.hid (fun k (hk : k < es.length) => (by have := readF_edges h hk; omega : 0 ≤ pA es k ∧ pA es k < 16 ∧ 0 ≤ pB es k ∧ pB es k < 16 ∧ pA es k ≠ pB es k))
  have HH := Lib.hid h
  have HPA := Lib.hid (fun (W : World) (hb : Below w.heap.size w W) => ha.below hb)
  clear h hm1 hm2 ha
  go_enter Try.func27, Try.ntmps27
  go_wp2_with (first
    | (go_at_call 41; refine HC.out.mono ?_; rintro e w2 ⟨rfl, hb2⟩; have hs2 := hb2.size; have rg : Row (w2.alloc (.cells (gcells m gs).toArray 75)) w2.heap.size 75 (gcells m gs) := row_new rfl; have hb3 : Below w.heap.size w (w2.alloc (.cells (gcells m gs).toArray 75)) := hb2.alloc hs2 _; clear HC hb2)
    | (refine wpList_store_row rfl 75 (.tmp 7) (.tmp 18) rfl w2.heap.size (gcells m gs).toArray rfl rfl 75 #[.int .i64 0, .int .u32 0, .int .u32 0, .int .u32 0, .int .u32 0, .int .u32 0, .int .u32 0, .int .u32 0, .int .u32 0, .int .u32 0, .int .u32 0, .int .u32 0, .int .u32 0, .int .u32 0, .int .u32 0, .int .u32 0, .int .u32 0] (heap_alloc_new _ _) (info75g hg) (size75g hg) (gcells_one _ _) ?_; rw [setRow_alloc])
    | (refine wpList_load_row rfl 75 (.tmp 7) rfl w2.heap.size rfl 75 (gcells m gs).toArray (0, 0) _ (row_heap rg) Try.underlying75 rfl (info75g hg) ?_)
    | (go_at_call 42; refine (HDN.out _).mono ?_; rintro e w4 ⟨s, p, q, g, H, L, rfl, hpost, hg4, hd4, hb4⟩; have HDA := Lib.hid (hpost.dens HH.out); obtain ⟨q0, q16, p128⟩ : 0 < q ∧ q ≤ 16 ∧ p ≤ 128 := ⟨HDA.out.q0, HDA.out.q16, HDA.out.p128⟩; have x0 := (rg.below hb4).alloc (.cells #[.int .i64 p, .int .i64 q] 26); have y0 : Row (w4.alloc (.cells #[.int .i64 p, .int .i64 q] 26)) w4.heap.size 26 [.int .i64 p, .int .i64 q] := row_new rfl; obtain ⟨⟨c0, c1⟩, -⟩ := y0.cells2; have hb5 := (hb3.trans (hb4.mono hb3.size)).alloc (by have := hb4.size; have := hb3.size; omega) (.cells #[.int .i64 p, .int .i64 q] 26); clear rg hpost hb3 hb4 hd4 hg4; have hlm : ((p : Int) + q - 1) / q = (((p + q - 1) / q : Nat) : Int) := (by rw [show ((p : Int) + q - 1) = ((p + q - 1 : Nat) : Int) by omega]; rfl); have hlim2 : (p + q - 1) / q ≤ 1000 := Nat.le_trans (Nat.div_le_self _ _) (by omega); have HLM := Lib.hid hlm; have hsl := HDA.out.lt; generalize hlq : (p + q - 1) / q = lim at HLM hlim2; have HLQ := Lib.hid hlq; clear hlm hlq; cases hz : ((p : Int) == 0))
    | (refine wpList_load_row rfl 75 (.tmp 7) rfl w2.heap.size rfl 75 (gcells m gs).toArray (0, 0) _ (row_heap x0) Try.underlying75 rfl (info75g hg) ?_)
    | (go_at_call 49; refine (divide_any m gs 1 _ hg hm16 ⟨by omega, by omega⟩).mono ?_; rintro e w6 ⟨g6, H6, L6, hg6, rfl, hgv, hdv, hb6⟩; have HSP := Lib.hid (Giv.spread HH.out (by omega) hgv); have hb7 := hb5.trans (hb6.mono hb5.size); have hz6 := hb5.size; clear hgv hb6 hb5 x0 y0 c0 c1)
    | (go_at_call 50; rw [HLM.out]; refine (relieve_any g6 m gs H6 L6 1 lim _ hg hm16 ⟨by omega, by omega⟩ ⟨by omega, by omega⟩ (fun u v _ _ => readF_sym HH.out u v) HSP.out hdv).mono ?_; rintro e w7 ⟨t7, rfl, hrel, hfr⟩; have hb8 := Fr.under hb7 hfr (by intro i h1 h2; omega); obtain ⟨H7, L7, sp7, hd7, hle7⟩ := relieved HDA.out (readF_sym HH.out) (fun u v hu => readF_low HH.out (by rw [readF_sym HH.out]; exact hu)) (readF_hir HH.out) HLQ.out.symm hrel; have SP7 := Lib.hid sp7; have LE7 := Lib.hid hle7; clear hrel hfr hb7 hdv sp7 hle7)
    | (go_at_call 51; refine (heads_div g6 m gs H7 L7 A c es _ hg hd7 hx (HPA.out _ hb8) HED.out).mono ?_; rintro e w8 ⟨hs, hlen, hho, rfl, hr8, hb9⟩; have hb10 := hb8.trans (hb9.mono hb8.size); have hz7 := hb8.size; have LEN := Lib.hid hlen; have HO := Lib.hid hho; clear hlen hho hb8 hb9)
    | (go_at_call 43; refine (list_any s hsl _).mono ?_; rintro e w9 ⟨v9, rfl, o9, hb11⟩; have hr9 := hr8.below hb11; have hb12 := hb10.trans (hb11.mono hb10.size); have hz8 := hb10.size; clear hr8 hb10 hb11))
  · have hp0 : p ≠ 0 := by intro e; subst e; simp at hz
    refine bodyPost_ret (v := .tuple #[.slice (some ⟨w7.heap.size, 0, none⟩) es.length es.length, v9, .int .i64 0]) (by simp [results, Try.results27, go_sem]) rfl ⟨_, _, hs, ms s, s, p, q, rfl, ⟨HDA.out, fun h => absurd h hp0, fun _ => ⟨rfl, fun he => hp0 ((dens_zero HH.out HDA.out).2 he)⟩, ?_, ?_⟩, ?_, own_mono o9 hz8, hb12⟩
    · refine ⟨by rw [natI_len, LEN.out], fun i hi => ?_⟩
      rw [geti_natI, HO.out i hi]
      split
      · exact .inr rfl
      · exact .inl rfl
    · intro v hv
      have h1 := cnt_load HH.out SP7.out LEN.out HO.out hv
      by_cases hm : v < m
      · have h2 := LE7.out v (mem_ms.2 ⟨hv, by unfold sHas; rw [all_bit]; simpa using hm⟩)
        rw [HLQ.out]; omega
      · have h3 := SP7.out.load v hv
        have h4 : outF H7 v = 0 := by
          unfold outF
          refine (sumN_congr 16 fun u hu => SP7.out.no v u hv hu ?_).trans (sumN_zero 16)
          cases e : sHas (near gs v) u
          · rfl
          · exact absurd (readF_low HH.out e) hm
        rw [HLQ.out]
        omega
    · have := own_row (b := w.heap.size) hr9 hz7 (by rw [LEN.out]; exact hx)
      rwa [LEN.out] at this ⊢
  · have hp0 : p = 0 := by simpa using hz
    have he := (dens_zero HH.out HDA.out).1 hp0
    refine bodyPost_ret (v := .tuple #[.slice none 0 0, .slice none 0 0, .int .i64 0]) (by simp [results, Try.results27, go_sem]) rfl ⟨_, _, [], [], s, p, q, rfl, ⟨HDA.out, fun _ => ⟨he, rfl, rfl⟩, fun h => absurd hp0 (by omega), ⟨by rw [he]; rfl, fun i hi => by rw [he] at hi; exact absurd hi (by simp)⟩, ?_⟩, ⟨rfl, .inl ⟨rfl, rfl⟩⟩, ⟨rfl, .inl ⟨rfl, rfl⟩⟩, hb5⟩
    intro v hv
    rw [he]
    show getn zer v ≤ _
    rw [getn_zer]; exact Nat.zero_le _
end Go.Proofs.Ytpaeagkgmbhndaa
/- BagsOrients returns true: the walk. -/
namespace Go.Proofs.Ytpaeagkgmbhndaa
open Go.RowKit
set_option maxHeartbeats 1000000
set_option maxRecDepth 100000
theorem set_yes {n : Nat} {A : Option Addr} {c : Nat} {xs : List Int} {w : World} (hx : xs.length ≤ 1000000) (ha : IntsAt w A xs) (h : IsSet n xs) :
    Calls Try.prog 26 #[.int .i64 n, .slice A xs.length c] w fun e w' => e = .returned (.bool true) ∧ ∃ n, w' = w.drewN n :=
  (Set_any n A c xs w hx ha).mono fun _ _ ⟨h1, h2⟩ => ⟨by rw [h1]; exact ret_bool (decide_eq_true h), h2⟩
theorem cnt_first {hs : List Int} (h0 : (geti hs 0).toNat < 16) : ∀ k, k < hs.length → 1 ≤ getn (cntT hs (k + 1)) (geti hs 0).toNat
  | 0, hk => by rw [cntT_succ hk, getn_set (by rw [cntT_len]; exact h0), if_pos rfl]; omega
  | k + 1, hk => by
    have ih := cnt_first h0 k (by omega)
    rw [cntT_succ hk]
    by_cases e : (geti hs (k + 1)).toNat < 16
    · rw [getn_set (by rw [cntT_len]; exact e)]; split
      · rename_i e2; rw [e2]; omega
      · exact ih
    · rw [List.set_eq_of_length_le (by rw [cntT_len]; omega)]; exact ih
/-- The height of an orientation. -/
theorem height_nat {m : Nat} {es : List (Int × Int)} {gs : List Nat} (h : readF m es = some gs) {hs : List Int} (hh : HeadsP es hs) : ∃ G : Nat, maxTo (natI (cntT hs hs.length)) 16 = (G : Int) ∧ (∀ v, v < 16 → getn (cntT hs es.length) v ≤ G) ∧ (∃ v, v < 16 ∧ getn (cntT hs es.length) v = G) ∧ (es ≠ [] → 1 ≤ G) ∧ (es = [] → G = 0) := by
  obtain ⟨h1, j, hj, h2⟩ := maxTo_spec (natI (cntT hs hs.length)) 16 (by omega)
  rw [geti_natI] at h2
  have hb : ∀ v, v < 16 → getn (cntT hs hs.length) v ≤ getn (cntT hs hs.length) j := fun v hv => by
    have := h1 v hv; rw [geti_natI, ← h2] at this; omega
  refine ⟨getn (cntT hs hs.length) j, h2.symm, ?_, ⟨j, hj, ?_⟩, fun he => ?_, fun he => ?_⟩
  · rw [← hh.1]; exact hb
  · rw [← hh.1]
  · have hl : 0 < es.length := List.length_pos_iff.2 he
    have hb0 := hh.bound h 0 (by rw [hh.1]; exact hl)
    have hm : m ≤ 16 := by have := readF_ok h; omega
    have h3 := cnt_first (hs := hs) (by omega) (hs.length - 1) (by rw [hh.1]; omega)
    rw [show hs.length - 1 + 1 = hs.length by rw [hh.1]; omega] at h3
    have := hb (geti hs 0).toNat (by omega)
    omega
  · have hl : hs.length = 0 := by rw [hh.1, he]; rfl
    have := cntT_le hs j hs.length
    omega
theorem orient_set {m : Nat} {es : List (Int × Int)} {gs : List Nat} (h : readF m es = some gs) {s p q : Nat} {hs ts : List Nat} (o : OrientI m es gs s p q hs ts) (hne : es ≠ []) {G : Nat} (hG : ∃ v, v < 16 ∧ getn (cntT (natI hs) es.length) v = G) (hG1 : 1 ≤ G) :
    ts = ms s ∧ IsSet m (natI ts) ∧ (G - 1) * ts.length < insT es (natI ts) es.length ∧ G ≤ 200 ∧ ts.length ≤ 16 := by
  have d := o.dens
  have hp : p ≠ 0 := fun e => hne ((dens_zero h d).1 e)
  obtain ⟨hts, _⟩ := o.pos (by omega)
  subst hts
  have hI := ends_ins h (S := s) (xs := natI (ms s)) (fun v => ms_has d.lt)
  obtain ⟨q0, q16, p128, hd⟩ := den_terms d.lt d.ne d.den
  have hps := pc_pos d.lt d.ne
  obtain ⟨v, hv, hGv⟩ := hG
  have hlow := o.low v hv
  rw [hGv] at hlow
  rw [hI] at hd
  rw [ms_pc]
  refine ⟨rfl, ms_set d.lt d.ne d.sub, ?_, ?_, pc_le 16 s⟩
  · have h1 : (G - 1) * q < p := by
      have h2 := Nat.mul_le_mul_right q hlow
      have h3 := Nat.div_mul_le_self (p + q - 1) q
      have h4 : (G - 1) * q + q = G * q := by rw [← Nat.succ_mul]; congr 1; omega
      omega
    have h5 : (G - 1) * q * pc 16 s < p * pc 16 s := Nat.mul_lt_mul_of_pos_right h1 hps
    rw [hd] at h5
    have h6 : (G - 1) * q * pc 16 s = ((G - 1) * pc 16 s) * q := by ac_rfl
    rw [h6] at h5
    exact Nat.lt_of_mul_lt_mul_right h5
  · have := Nat.div_le_self (p + q - 1) q; omega
theorem BagsOrients_any (n : Int) (A : Option Addr) (c : Nat) (es : List (Int × Int)) (w : World) (hx : es.length ≤ c) (hc : c ≤ maxLen) (ha : PairsAt w A es) :
    Calls Try.prog 5 #[.int .i64 n, .slice A es.length c] w fun e w' => e = .returned (.bool true) ∧ Below w.heap.size w w' := by
  have HE := Lib.hid (edges_any A c es w hx hc ha)
  have hl1 : (es.take 130).length ≤ 130 := by rw [List.length_take]; omega
  clear hx hc ha
  generalize es.take 130 = own at *
  rcases hr : readF n own with _ | gs
  · have HR := Lib.hid hr
    clear hr
    go_enter Try.func5, Try.ntmps5
    go_wp2_with (first
      | (go_at_call 14; refine HE.out.mono ?_; rintro e w1 ⟨v1, n1, rfl, o1, b1⟩; obtain ⟨A1, c1, rfl, -, -, p1⟩ := own_pairs o1; clear o1)
      | (go_at_call 27; refine (Orient_none n A1 c1 own _ (by omega) p1 HR.out).mono ?_; rintro e w2 ⟨rfl, b2⟩; have p2 := p1.below b2; have b3 := b1.trans (b2.mono b1.size); clear p1 b1 b2)
      | (go_at_call 16; refine (Graph_no (by omega) p2 HR.out).mono ?_; rintro e w4 ⟨rfl, b6⟩; have b7 := b3.trans (b6.mono b3.size); clear p2 b3 b6)
      | (go_at_call 18; refine (awake_any _).mono ?_; rintro e w5 ⟨rfl, b8⟩))
    go_ret
    exact ⟨rfl, b7.trans (b8.mono b7.size)⟩
  · obtain ⟨m, rfl⟩ := readF_nat hr
    have hm16 : m ≤ 16 := by have := readF_ok hr; omega
    have HR := Lib.hid hr
    clear hr
    by_cases hne : own = []
    · have HNE := Lib.hid hne
      have hl0 : ((own.length : Int) == 0) = true := by rw [hne]; rfl
      clear hne
      go_enter Try.func5, Try.ntmps5
      go_wp2_with (first
        | (go_at_call 14; refine HE.out.mono ?_; rintro e w1 ⟨v1, n1, rfl, o1, b1⟩; obtain ⟨A1, c1, rfl, -, -, p1⟩ := own_pairs o1; clear o1)
        | (go_at_call 27; refine (Orient_some m A1 c1 own gs _ (by omega) p1 HR.out).mono ?_; rintro e w2 ⟨v2, v3, hs, ts, s, p, q, rfl, hO, o2, o3, b2⟩; obtain ⟨A2, c2, e2, -, i2⟩ := own_ints o2; obtain ⟨A3, c3, e3, -, i3⟩ := own_ints o3; have hnl := natI_len hs; have hnt := natI_len ts; rw [← hnl] at e2; rw [← hnt] at e3; subst e2 e3; have p2 := p1.below b2; have b3 := b1.trans (b2.mono b1.size); have HO := Lib.hid hO; obtain ⟨G, hg1, hg2, hg3, hg4, hg5⟩ := height_nat HR.out hO.heads; have HB := Lib.hid (hO.heads.bound HR.out); have HG1 := Lib.hid hg1; have HG3 := Lib.hid hg3; have HG4 := Lib.hid hg4; have HG5 := Lib.hid hg5; have hlen := hO.heads.1; have hlh : (natI hs).length ≤ 130 := (by rw [hlen]; exact hl1); clear p1 b1 b2 o2 o3 hO hg1 hg2 hg3 hg4 hg5 hnl hnt hlen)
        | (go_at_call 16; refine (Graph_yes (by omega) p2 HR.out).mono ?_; rintro e w4 ⟨rfl, b6⟩; have p4 := p2.below b6; have i4 := i2.below b6; have j4 := i3.below b6; have b7 := b3.trans (b6.mono b3.size); clear p2 i2 i3 b3 b6)
        | (go_at_call 28; refine (heads_yes (by omega) p4 i4 HO.out.heads).mono ?_; rintro e w5 ⟨rfl, n5, rfl⟩; have p5 := p4.below (below_drewN n5); have i5 := i4.drewN n5; have j5 := j4.drewN n5; have b9 := b7.trans (below_drewN n5); clear p4 i4 j4 b7)
        | (go_at_call 29; refine (RefHeight_any m A2 c2 (natI hs) _ hm16 (by omega) i5 HB.out).mono ?_; rintro e w6 ⟨rfl, b10⟩; rw [HG1.out]; have p6 := p5.below b10; have j6 := j5.below b10; have b11 := b9.trans (b10.mono b9.size); clear p5 i5 j5 b9 b10; have hG0 := HG5.out HNE.out; subst hG0; have HTS := Lib.hid (HO.out.zero ((dens_zero HR.out HO.out.dens).2 HNE.out)).2.2; have ht0 : (((natI ts).length : Int) == 0) = true := (by rw [HTS.out]; rfl))
        | (go_at_call 18; refine (awake_any _).mono ?_; rintro e w7 ⟨rfl, b12⟩))
      go_ret
      exact ⟨rfl, b11.trans (b12.mono b11.size)⟩
    · have HNE := Lib.hid hne
      clear hne
      go_enter Try.func5, Try.ntmps5
      go_wp2_with (first
        | (go_at_call 14; refine HE.out.mono ?_; rintro e w1 ⟨v1, n1, rfl, o1, b1⟩; obtain ⟨A1, c1, rfl, -, -, p1⟩ := own_pairs o1; clear o1)
        | (go_at_call 27; refine (Orient_some m A1 c1 own gs _ (by omega) p1 HR.out).mono ?_; rintro e w2 ⟨v2, v3, hs, ts, s, p, q, rfl, hO, o2, o3, b2⟩; obtain ⟨A2, c2, e2, -, i2⟩ := own_ints o2; obtain ⟨A3, c3, e3, -, i3⟩ := own_ints o3; have hnl := natI_len hs; have hnt := natI_len ts; rw [← hnl] at e2; rw [← hnt] at e3; subst e2 e3; have p2 := p1.below b2; have b3 := b1.trans (b2.mono b1.size); have HO := Lib.hid hO; obtain ⟨G, hg1, hg2, hg3, hg4, hg5⟩ := height_nat HR.out hO.heads; have HB := Lib.hid (hO.heads.bound HR.out); have HG1 := Lib.hid hg1; have HG3 := Lib.hid hg3; have HG4 := Lib.hid hg4; have HG5 := Lib.hid hg5; have hlen := hO.heads.1; have hlh : (natI hs).length ≤ 130 := (by rw [hlen]; exact hl1); clear p1 b1 b2 o2 o3 hO hg1 hg2 hg3 hg4 hg5 hnl hnt hlen)
        | (go_at_call 16; refine (Graph_yes (by omega) p2 HR.out).mono ?_; rintro e w4 ⟨rfl, b6⟩; have p4 := p2.below b6; have i4 := i2.below b6; have j4 := i3.below b6; have b7 := b3.trans (b6.mono b3.size); clear p2 i2 i3 b3 b6)
        | (go_at_call 28; refine (heads_yes (by omega) p4 i4 HO.out.heads).mono ?_; rintro e w5 ⟨rfl, n5, rfl⟩; have p5 := p4.below (below_drewN n5); have i5 := i4.drewN n5; have j5 := j4.drewN n5; have b9 := b7.trans (below_drewN n5); clear p4 i4 j4 b7)
        | (go_at_call 29; refine (RefHeight_any m A2 c2 (natI hs) _ hm16 (by omega) i5 HB.out).mono ?_; rintro e w6 ⟨rfl, b10⟩; rw [HG1.out]; have p6 := p5.below b10; have j6 := j5.below b10; have b11 := b9.trans (b10.mono b9.size); clear p5 i5 j5 b9 b10; have hG1 := HG4.out HNE.out; obtain ⟨z1, z2, z3, z4, z5⟩ := orient_set HR.out HO.out HNE.out HG3.out hG1; have hnt := natI_len ts; have Z2 := Lib.hid z2; have hz : ((G : Int) == 0) = false := (by simp; omega); have hile := insT_le own (natI ts) own.length; have y1 : (0 : Int) ≤ ((G : Int) - 1) * (natI ts).length := (Int.mul_nonneg (by omega) (by omega)); have y2 : ((G : Int) - 1) * (natI ts).length ≤ 200 * 16 := (Int.mul_le_mul (by omega) (by omega) (by omega) (by omega)); have hdec : decide (((G : Int) - 1) * (natI ts).length < (insT own (natI ts) own.length : Nat)) = true := decide_eq_true (by rw [hnt]; have : (((G - 1) * ts.length : Nat) : Int) = ((G : Int) - 1) * ts.length := (by rw [Int.natCast_mul]; congr 1; omega); omega); have hlt16 : (natI ts).length ≤ 16 := (by rw [hnt]; exact z5); clear z1 z2 z3 z5 hnt)
        | (go_at_call 26; refine (set_yes (by omega) j6 Z2.out).mono ?_; rintro e w7 ⟨rfl, n7, rfl⟩; have p7 := p6.below (below_drewN n7); have j7 := j6.drewN n7; have b12 := b11.trans (below_drewN n7); clear p6 j6 b11)
        | (go_at_call 30; refine (Inside_any A1 A3 c1 c3 own (natI ts) _ (by omega) (by omega) p7 j7).mono ?_; rintro e w8 ⟨rfl, rfl⟩)
        | (go_at_call 18; refine (awake_any _).mono ?_; rintro e w9 ⟨rfl, b13⟩))
      go_ret
      exact ⟨rfl, b12.trans (b13.mono b12.size)⟩
end Go.Proofs.Ytpaeagkgmbhndaa
