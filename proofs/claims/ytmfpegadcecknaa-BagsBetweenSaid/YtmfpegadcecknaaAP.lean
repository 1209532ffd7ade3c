/- The densest set, as asked. -/
import Derived.Test.YtmfpegadcecknaaAN
import Derived.Test.YtmfpegadcecknaaAE
namespace Go.Proofs.Ytmfpegadcecknaa
open Go.RowKit
attribute [local go_sem] Oper.semAt_some
set_option maxHeartbeats 1000000
set_option maxRecDepth 100000
theorem readF_hir {m : Nat} {es : List (Int × Int)} {gs : List Nat} (h : readF m es = some gs) (v : Nat) : sHas (near gs v) v = false := by
  by_cases hv : v < 16
  · exact (readF_ok h).2.2.2 v hv
  · have := (readF_ok h).2.2.1.len
    unfold near sHas; rw [List.getElem?_eq_none (by omega)]; simp
theorem densest_read {m : Nat} {es : List (Int × Int)} {gs : List Nat} (h : readF m es = some gs) (w : World) : Calls Try.prog 42 #[.agg (gcells m gs).toArray] w (DensRes m gs w) := by
  obtain ⟨hm1, hm2, hg, hI⟩ := readF_ok h
  exact densest_any m gs w hg (by omega) (by omega) (readF_sym h) (readF_hir h) (fun u v hu => readF_low h (by rw [readF_sym h]; exact hu)) (fun pcs hp k H L g => g.spread h hp)
/-- The greatest densest set s with the density p / q. -/
structure Dens (m : Nat) (gs : List Nat) (s p q : Nat) : Prop where
  lt : s < 65536
  ne : s ≠ 0
  sub : ∀ v, sHas s v = true → v < m
  den : denV gs s = (p, q)
  q0 : 0 < q
  q16 : q ≤ 16
  p128 : p ≤ 128
  up : ∀ T, T < 65536 → (∀ v, sHas T v = true → v < m) → q * (endsOf gs T (ms T) / 2) ≤ p * pc 16 T
  max : ∀ T, T < 65536 → (∀ v, sHas T v = true → v < m) → q * (endsOf gs T (ms T) / 2) = p * pc 16 T → ∀ v, sHas T v = true → sHas s v = true
theorem DensPost.dens {m : Nat} {es : List (Int × Int)} {gs : List Nat} (h : readF m es = some gs) {p q s : Nat} {H : Nat → Nat → Int} {L : Nat → Int} (d : DensPost m gs p q H L s) : Dens m gs s p q := by
  obtain ⟨hm1, hm2, hg, hI⟩ := readF_ok h
  obtain ⟨a, b, c, e, f, g, i, j⟩ := d.best (by omega) (readF_sym h) (readF_hir h) (fun u v hu => readF_low h (by rw [readF_sym h]; exact hu))
  exact ⟨a, b, c, e, f, g, i, fun T h1 h2 => (j T h1 h2).1, fun T h1 h2 => (j T h1 h2).2⟩
/-- There is only one. -/
theorem Dens.one {m : Nat} {gs : List Nat} {s p q s' p' q' : Nat} (d : Dens m gs s p q) (d' : Dens m gs s' p' q') : s = s' ∧ p = p' ∧ q = q' := by
  obtain ⟨a1, a2, a3, a4⟩ := den_terms d.lt d.ne d.den
  obtain ⟨b1, b2, b3, b4⟩ := den_terms d'.lt d'.ne d'.den
  have u1 := d.up s' d'.lt d'.sub
  have u2 := d'.up s d.lt d.sub
  have ps := pc_pos d.lt d.ne
  have ps' := pc_pos d'.lt d'.ne
  have k1 : q * p' ≤ p * q' := by
    refine Nat.le_of_mul_le_mul_right (c := pc 16 s') ?_ ps'
    calc q * p' * pc 16 s' = q * (p' * pc 16 s') := by ac_rfl
      _ = q' * (q * (endsOf gs s' (ms s') / 2)) := by rw [b4]; ac_rfl
      _ ≤ q' * (p * pc 16 s') := Nat.mul_le_mul_left _ u1
      _ = p * q' * pc 16 s' := by ac_rfl
  have k2 : q' * p ≤ p' * q := by
    refine Nat.le_of_mul_le_mul_right (c := pc 16 s) ?_ ps
    calc q' * p * pc 16 s = q' * (p * pc 16 s) := by ac_rfl
      _ = q * (q' * (endsOf gs s (ms s) / 2)) := by rw [a4]; ac_rfl
      _ ≤ q * (p' * pc 16 s) := Nat.mul_le_mul_left _ u2
      _ = p' * q * pc 16 s := by ac_rfl
  have k3 : p * q' = p' * q := by
    have e1 : q * p' = p' * q := Nat.mul_comm _ _
    have e2 : q' * p = p * q' := Nat.mul_comm _ _
    omega
  have e1 : q * (endsOf gs s' (ms s') / 2) = p * pc 16 s' := by
    refine Nat.eq_of_mul_eq_mul_left b1 ?_
    calc q' * (q * (endsOf gs s' (ms s') / 2)) = q * (endsOf gs s' (ms s') / 2 * q') := by ac_rfl
      _ = q * (p' * pc 16 s') := by rw [b4]
      _ = (p' * q) * pc 16 s' := by ac_rfl
      _ = (p * q') * pc 16 s' := by rw [k3]
      _ = q' * (p * pc 16 s') := by ac_rfl
  have e2 : q' * (endsOf gs s (ms s) / 2) = p' * pc 16 s := by
    refine Nat.eq_of_mul_eq_mul_left a1 ?_
    calc q * (q' * (endsOf gs s (ms s) / 2)) = q' * (endsOf gs s (ms s) / 2 * q) := by ac_rfl
      _ = q' * (p * pc 16 s) := by rw [a4]
      _ = (p * q') * pc 16 s := by ac_rfl
      _ = (p' * q) * pc 16 s := by rw [k3]
      _ = q * (p' * pc 16 s) := by ac_rfl
  have m1 := d.max s' d'.lt d'.sub e1
  have m2 := d'.max s d.lt d.sub e2
  have es : s = s' := by
    refine Nat.eq_of_testBit_eq fun i => ?_
    have x1 := m1 i
    have x2 := m2 i
    unfold sHas at x1 x2
    rw [Bool.eq_iff_iff]
    exact ⟨x2, x1⟩
  subst es
  have := d.den.symm.trans d'.den
  injection this with h1 h2
  exact ⟨rfl, h1, h2⟩
theorem Densest_none (n : Int) (A : Option Addr) (c : Nat) (es : List (Int × Int)) (w : World) (hx : es.length ≤ 1000000) (ha : PairsAt w A es) (h : readF n es = none) :
    Calls Try.prog 15 #[.int .i64 n, .slice A es.length c] w fun e w' => e = .returned (.tuple #[.slice none 0 0, frac 0 0, .slice none 0 0, .int .i64 2]) ∧ Below w.heap.size w w' := by
  have HC := Lib.hid (rg_none (c := c) hx ((ha.below ((Below.refl _ w).alloc (Nat.le_refl _) (.cells #[.int .i64 0, .int .i64 0] 26)))) h)
  clear h
  go_enter Try.func15, Try.ntmps15
  go_wp2_with (first
    | (go_at_call 41; refine HC.out.mono ?_; rintro e w2 ⟨rfl, hb2⟩; have hs2 := hb2.size; have r0 : Row w2 w.heap.size 26 [.int .i64 0, .int .i64 0] := (Row.new w 26 _).below hb2; obtain ⟨⟨c0, c1⟩, g0, g1⟩ := r0.cells2; have l0 := r0.lt)
    | (refine wpList_store_row rfl 75 (.tmp 8) (.tmp 17) rfl w2.heap.size (gcells 0 Z16).toArray rfl rfl 75 #[.int .i64 0, .int .u32 0, .int .u32 0, .int .u32 0, .int .u32 0, .int .u32 0, .int .u32 0, .int .u32 0, .int .u32 0, .int .u32 0, .int .u32 0, .int .u32 0, .int .u32 0, .int .u32 0, .int .u32 0, .int .u32 0, .int .u32 0] (heap_alloc_new _ _) info75 rfl (gcells_one _ _) ?_; rw [setRow_alloc]))
  have r5 := ((r0.set 0 (.int .i64 0)).set 1 (.int .i64 0)).alloc (.cells (gcells 0 Z16).toArray 75)
  obtain ⟨⟨d0, d1⟩, -⟩ := r5.cells2
  refine bodyPost_ret (v := .tuple #[.slice none 0 0, .agg #[.int .i64 0, .int .i64 0], .slice none 0 0, .int .i64 2]) ?_ rfl ⟨rfl, ?_⟩
  · simp [results, Try.results15, go_sem, d0, d1]
  · have hb := ((Below.refl _ w).alloc (Nat.le_refl _) (.cells #[.int .i64 0, .int .i64 0] 26)).trans (hb2.mono (by simp))
    (repeat (first | exact Below.refl _ _ | assumption | (refine Below.setCell ?_ (by first | exact Nat.le_refl _ | omega | (simp; done) | (simp; omega)) _) | (refine Below.trans ?_ (below_drewN _)) | (refine Below.drew ?_) | (refine Below.alloc ?_ (by first | exact Nat.le_refl _ | omega | (simp; done) | (simp; omega)) _) | (refine below_row ?_ (by first | exact Nat.le_refl _ | omega | (simp; done) | (simp; omega)) _)))
/-- What Densest answers. -/
def DensestRes (m : Nat) (es : List (Int × Int)) (gs : List Nat) (w : World) (e : Ending) (w' : World) : Prop := ∃ v g s p q H L f, e = .returned (.tuple #[v, frac p q, .slice (some ⟨g, 0, none⟩) es.length es.length, .int .i64 0]) ∧ Dens m gs s p q ∧ Spread gs q H L ∧ (∀ u ∈ ms (sAll m), L u ≤ p) ∧ shareOK es H es.length f ∧
  w'.ownsRow w.heap.size 3 1 v (ms s).length (intv (ms s)) ∧ w.heap.size ≤ g ∧ (0 < es.length → Row w' g 65 (cellsF (es.length * 2) f)) ∧ Below w.heap.size w w'
theorem Densest_some (m : Nat) (A : Option Addr) (c : Nat) (es : List (Int × Int)) (gs : List Nat) (w : World) (hx : es.length ≤ 1000000) (ha : PairsAt w A es) (h : readF m es = some gs) :
    Calls Try.prog 15 #[.int .i64 m, .slice A es.length c] w (DensestRes m es gs w) := by
  obtain ⟨hm1, hm2, hg, hI⟩ := readF_ok h
  have hbw := (Below.refl _ w).alloc (Nat.le_refl _) (.cells #[.int .i64 0, .int .i64 0] 26)
  have HC := Lib.hid (rg_some (c := c) hx (ha.below hbw) h)
  have hpa := ha.below hbw
  have HDN := Lib.hid (fun w => densest_read h w)
  have HED := Lib.hid (fun k (hk : k < es.length) => (by have := readF_edges h hk; omega : 0 ≤ pA es k ∧ pA es k < 16 ∧ 0 ≤ pB es k ∧ pB es k < 16 ∧ pA es k ≠ pB es k))
  have HH := Lib.hid h
  have HPA := Lib.hid (fun (W : World) (hb : Below w.heap.size w W) => ha.below hb)
  clear h hm1 hm2 ha
  go_enter Try.func15, Try.ntmps15
  go_wp2_with (first
    | (go_at_call 41; refine HC.out.mono ?_; rintro e w2 ⟨rfl, hb2⟩; have hs2 := hb2.size; have r0 : Row w2 w.heap.size 26 [.int .i64 0, .int .i64 0] := (Row.new w 26 _).below hb2; have hpa2 := (hpa.below hb2).below ((Below.refl _ w2).alloc (Nat.le_refl _) (.cells (gcells m gs).toArray 75)); have rg : Row (w2.alloc (.cells (gcells m gs).toArray 75)) w2.heap.size 75 (gcells m gs) := row_new rfl; have hb3 : Below w.heap.size w (w2.alloc (.cells (gcells m gs).toArray 75)) := (hbw.trans (hb2.mono (by simp))).alloc (by have := r0.lt; omega) _; have r03 := r0.alloc (.cells (gcells m gs).toArray 75); clear HC hbw hpa hb2)
    | (refine wpList_store_row rfl 75 (.tmp 8) (.tmp 17) rfl w2.heap.size (gcells m gs).toArray rfl rfl 75 #[.int .i64 0, .int .u32 0, .int .u32 0, .int .u32 0, .int .u32 0, .int .u32 0, .int .u32 0, .int .u32 0, .int .u32 0, .int .u32 0, .int .u32 0, .int .u32 0, .int .u32 0, .int .u32 0, .int .u32 0, .int .u32 0, .int .u32 0] (heap_alloc_new _ _) (info75g hg) (size75g hg) (gcells_one _ _) ?_; rw [setRow_alloc])
    | (refine wpList_load_row rfl 75 (.tmp 8) rfl w2.heap.size rfl 75 (gcells m gs).toArray (0, 0) _ (row_heap rg) Try.underlying75 rfl (info75g hg) ?_)
    | (go_at_call 42; refine (HDN.out _).mono ?_; rintro e w4 ⟨s, p, q, g, H, L, rfl, hpost, hg4, hd4, hb4⟩; have HPO := Lib.hid hpost; have x0 := r03.below hb4; have x1 := hpa2.below hb4; have hb5 := hb3.trans (hb4.mono hb3.size); have hl4 := r03.lt; clear r0 rg r03 hpa2 hpost hb3 hb4))
  have y0 := x0.alloc (.cells #[.int .i64 (p : Nat), .int .i64 (q : Nat)] 26)
  have y2 : Row (w4.alloc (.cells #[.int .i64 (p : Nat), .int .i64 (q : Nat)] 26)) w4.heap.size 26 [.int .i64 (p : Nat), .int .i64 (q : Nat)] := row_new rfl
  have y3 : Div (w4.alloc (.cells #[.int .i64 (p : Nat), .int .i64 (q : Nat)] 26)) g m gs H L := Row.alloc hd4 _
  have hb6 := hb5.alloc hb5.size (.cells #[.int .i64 (p : Nat), .int .i64 (q : Nat)] 26)
  have hgne : w.heap.size + 1 ≤ g := by simp at hg4 hs2; omega
  have hl5 : w.heap.size < w4.heap.size := x0.lt
  generalize hw5 : World.alloc w4 _ = w5 at *
  clear hw5 x0 x1 hd4 hb5
  have hda := HPO.out.dens HH.out
  have hsl := hda.lt
  have HDA := Lib.hid hda
  clear hda
  refine wp_region_noPanic ?_
  refine wp_region_held_drew (S := fun W => Row W w4.heap.size 26 [.int .i64 (p : Nat), .int .i64 (q : Nat)] ∧ Div W g m gs H L ∧ Below w.heap.size w W) (by kernel_rfl) ⟨y2.drew, Row.drew y3, hb6.drew⟩ (fun hH => ?_)
  refine wpAnyH_take (i := 0) (v := .int .u32 s) rfl (by kernel_rfl) (by kernel_rfl) (by kernel_rfl) (fun _ _ _ h => h) (Or.inl ⟨by rfl, fun W hW => ?_⟩) hH ?_
  · go_simp
  refine wpAnyH_take (i := 2) (v := frac p q) rfl (by kernel_rfl) (by kernel_rfl) (by kernel_rfl) (fun _ _ _ h => h) (Or.inl ⟨by rfl, fun W hW => ?_⟩) hH ?_
  · obtain ⟨c0, c1⟩ := hW.1.cells2.1
    go_simp
  refine wpAnyH_take (i := 3) (v := .pointer (some ⟨g, 0, none⟩)) rfl (by kernel_rfl) (by kernel_rfl) (by kernel_rfl) (fun _ _ _ h => h) (Or.inl ⟨by rfl, fun W hW => ?_⟩) hH ?_
  · go_simp
  refine wpAnyH_take (i := 4) (v := .slice A es.length c) rfl (by kernel_rfl) (by kernel_rfl) (by kernel_rfl) (fun _ _ _ h => h) (Or.inl ⟨by rfl, fun W hW => ?_⟩) hH ?_
  · go_simp
  refine wpAnyH_ready (rs := [1]) (by kernel_rfl) (by simp) ?_
  refine AllReadyH.cons rfl (fun K hK => ?_) AllReadyH.nil
  go_simp
  refine (list_any s hsl _).mono ?_
  rintro e w6 ⟨v, rfl, hown, hb7⟩
  go_wp2_with fail
  refine hK.out _ _ ⟨hH.1.below hb7, Row.below hH.2.1 hb7, hH.2.2.trans (hb7.mono hH.2.2.size)⟩ (fun hH1 => ?_)
  clear hK K
  refine wpAnyH_ready (rs := [5]) (by kernel_rfl) (by simp) ?_
  refine AllReadyH.cons rfl (fun K hK => ?_) AllReadyH.nil
  go_simp
  refine (share_any g m gs H L A c es _ hg hH1.2.1 hx (HPA.out _ hH1.2.2) HED.out).mono ?_
  rintro e w7 ⟨f, hf, rfl, hrw, hb8⟩
  go_wp2_with fail
  refine hK.out _ _ ⟨hH1.1.below hb8, Row.below hH1.2.1 hb8, hH1.2.2.trans (hb8.mono hH1.2.2.size)⟩ (fun hH2 => ?_)
  clear hK K
  have z0 := (y0.drew.below hb7).below hb8
  have hown0 := hown.kept' hb8
  have hz6 : w5.heap.size ≤ w6.heap.size := hb7.size
  have hz5 : w.heap.size < w5.heap.size := y0.lt
  have HF := Lib.hid hf
  have HRW := Lib.hid hrw
  have HOW := Lib.hid hown0
  have hz0 := z0.lt
  clear hf hrw hown hown0 hH hH1 hb7 hb8 y0 y2 y3 hb6
  refine wpAnyH_ready (rs := [6]) (by kernel_rfl) (by simp) ?_
  refine AllReadyH.cons rfl (fun K hK => ?_) AllReadyH.nil
  go_simp
  refine hK.out _ _ hH2 (fun _ => ?_)
  clear hK K
  refine wpAnyH_ready (rs := [7]) (by kernel_rfl) (by simp) ?_
  refine AllReadyH.cons rfl (fun K hK => ?_) AllReadyH.nil
  obtain ⟨⟨d0, d1⟩, e0, e1⟩ := z0.cells2
  go_simp
  have hlw6 : w.heap.size < w6.heap.size := by omega
  refine hK.out _ _ ⟨(hH2.1.far (by dsimp only; omega) _).far (by dsimp only; omega) _, Row.far (Row.far hH2.2.1 (by dsimp only; omega) _) (by dsimp only; omega) _, (hH2.2.2.setCell (by dsimp only; omega) _).setCell (by dsimp only; omega) _⟩ (fun hH4 => ?_)
  have v3 := (z0.set 0 (.int .i64 (p : Nat))).set 1 (.int .i64 (q : Nat))
  have HRW2 := Lib.hid (fun h0 => ((HRW.out h0).far (p := ⟨w.heap.size, 0, none⟩) (by dsimp only; omega) (.int .i64 (p : Nat))).far (p := ⟨w.heap.size, 1, none⟩) (by dsimp only; omega) (.int .i64 (q : Nat)))
  clear hK K
  refine wpAnyH_ready (rs := [8]) (by kernel_rfl) (by simp) ?_
  refine AllReadyH.cons rfl (fun K hK => ?_) AllReadyH.nil
  go_simp
  refine hK.out _ _ hH4 (fun _ => ?_)
  clear hK K
  refine wpAnyH_ready (rs := [9]) (by kernel_rfl) (by simp) ?_
  refine AllReadyH.cons rfl (fun K hK => ?_) AllReadyH.nil
  go_simp
  refine hK.out _ _ hH4 (fun _ => ?_)
  clear hK K
  refine wpAnyH_done (by kernel_rfl) ?_ _
  refine NoPanic.normal ?_
  obtain ⟨⟨x0, x1⟩, y0, y1⟩ := v3.cells2
  go_wp2
  refine bodyPost_ret (v := .tuple #[v, frac p q, .slice (some ⟨w6.heap.size, 0, none⟩) es.length es.length, .int .i64 0]) (by simp [results, Try.results15, go_sem, x0, x1]) rfl ⟨v, w6.heap.size, s, p, q, H, L, f, rfl, HDA.out, HPO.out.sp, HPO.out.le, HF.out, ?_, by omega, HRW2.out, hH4.2.2⟩
  exact own_mono (own_set (own_set HOW.out (by dsimp only; exact hz5) _) (by dsimp only; exact hz5) _) (Nat.le_of_lt hz5)
end Go.Proofs.Ytmfpegadcecknaa
