/- Height. -/
import Derived.Test.YtmfpegadcecknaaN
namespace Go.Proofs.Ytmfpegadcecknaa
open Go.RowKit
set_option maxHeartbeats 1000000
set_option maxRecDepth 100000
theorem rd_edges {n : Nat} : ∀ (es : List (Int × Int)) (gs gs' : List Nat), rd n es gs = some gs' → ∀ e ∈ es, 0 ≤ e.1 ∧ e.1 < e.2 ∧ e.2 < n := by
  intro es
  induction es with
  | nil => intro _ _ _ e he; cases he
  | cons e es ih =>
    intro gs gs' h
    rw [rd] at h
    split at h
    · rename_i hok
      unfold okE at hok
      simp only [Bool.and_eq_true, decide_eq_true_eq] at hok
      intro e' he'
      rcases List.mem_cons.1 he' with rfl | he'
      · exact ⟨hok.1, hok.2.1, hok.2.2.1⟩
      · exact ih _ _ h e' he'
    · cases h
theorem readF_edges {n : Nat} {es : List (Int × Int)} {gs : List Nat} (h : readF n es = some gs) {k : Nat} (hk : k < es.length) : 0 ≤ pA es k ∧ pA es k < pB es k ∧ pB es k < n := by
  unfold readF at h
  split at h
  · have := rd_edges es _ _ h (es[k]) (List.getElem_mem hk)
    rw [pAB_get hk] at this
    exact this
  · cases h
theorem Height_none (n : Int) (A B : Option Addr) (c d : Nat) (es : List (Int × Int)) (hs : List Int) (w : World) (hx : es.length ≤ 1000000) (ha : PairsAt w A es) (h : readF n es = none) :
    Calls Try.prog 31 #[.int .i64 n, .slice A es.length c, .slice B hs.length d] w fun e w' => e = .returned (.tuple #[.int .i64 0, .int .i64 2]) ∧ Below w.heap.size w w' := by
  have HC := Lib.hid (rg_none (c := c) hx ha h)
  clear h
  go_enter Try.func31, Try.ntmps31
  go_wp2_with (first
    | (go_at_call 41; refine HC.out.mono ?_; rintro e w2 ⟨rfl, hb2⟩; have hs2 := hb2.size)
    | (refine wpList_store_row rfl 75 (.tmp 8) (.tmp 17) rfl w2.heap.size (gcells 0 Z16).toArray rfl rfl 75 #[.int .i64 0, .int .u32 0, .int .u32 0, .int .u32 0, .int .u32 0, .int .u32 0, .int .u32 0, .int .u32 0, .int .u32 0, .int .u32 0, .int .u32 0, .int .u32 0, .int .u32 0, .int .u32 0, .int .u32 0, .int .u32 0, .int .u32 0] (heap_alloc_new _ _) info75 rfl (gcells_one _ _) ?_; rw [setRow_alloc]))
  go_ret2
  refine ⟨rfl, ?_⟩
  (repeat (first | exact Below.refl _ _ | assumption | (refine Below.setCell ?_ (by first | exact Nat.le_refl _ | omega | (simp; done) | (simp; omega)) _) | (refine Below.trans ?_ (below_drewN _)) | (refine Below.drew ?_) | (refine Below.alloc ?_ (by first | exact Nat.le_refl _ | omega | (simp; done) | (simp; omega)) _) | (refine below_row ?_ (by first | exact Nat.le_refl _ | omega | (simp; done) | (simp; omega)) _)))
theorem Height_len (m : Nat) (A B : Option Addr) (c d : Nat) (es : List (Int × Int)) (gs : List Nat) (hs : List Int) (w : World) (hx : es.length ≤ 1000000) (ha : PairsAt w A es) (h : readF m es = some gs) (hl : hs.length ≠ es.length) :
    Calls Try.prog 31 #[.int .i64 m, .slice A es.length c, .slice B hs.length d] w fun e w' => e = .returned (.tuple #[.int .i64 0, .int .i64 2]) ∧ Below w.heap.size w w' := by
  obtain ⟨hm1, hm2, hg, hI⟩ := readF_ok h
  have HC := Lib.hid (rg_some (c := c) hx ha h)
  have hl2 : ((hs.length : Int) != es.length) = true := by simp; omega
  clear h hm1 hm2
  go_enter Try.func31, Try.ntmps31
  go_wp2_with (first
    | (go_at_call 41; refine HC.out.mono ?_; rintro e w2 ⟨rfl, hb2⟩; have hs2 := hb2.size)
    | (refine wpList_store_row rfl 75 (.tmp 8) (.tmp 17) rfl w2.heap.size (gcells m gs).toArray rfl rfl 75 #[.int .i64 0, .int .u32 0, .int .u32 0, .int .u32 0, .int .u32 0, .int .u32 0, .int .u32 0, .int .u32 0, .int .u32 0, .int .u32 0, .int .u32 0, .int .u32 0, .int .u32 0, .int .u32 0, .int .u32 0, .int .u32 0, .int .u32 0] (heap_alloc_new _ _) (info75g hg) (size75g hg) (gcells_one _ _) ?_; rw [setRow_alloc]))
  go_ret2
  refine ⟨rfl, ?_⟩
  (repeat (first | exact Below.refl _ _ | assumption | (refine Below.setCell ?_ (by first | exact Nat.le_refl _ | omega | (simp; done) | (simp; omega)) _) | (refine Below.trans ?_ (below_drewN _)) | (refine Below.drew ?_) | (refine Below.alloc ?_ (by first | exact Nat.le_refl _ | omega | (simp; done) | (simp; omega)) _) | (refine below_row ?_ (by first | exact Nat.le_refl _ | omega | (simp; done) | (simp; omega)) _)))
/-- How often each number comes. -/
def zer : List Nat := List.replicate 16 0
def cntS (c : List Nat) (h : Nat) : List Nat := c.set h (getn c h + 1)
def cntL (xs : List Nat) : List Nat := xs.foldl cntS zer
def cntT (hs : List Int) (k : Nat) : List Nat := cntL ((hs.take k).map Int.toNat)
theorem cntT_succ {hs : List Int} {k : Nat} (h : k < hs.length) : cntT hs (k + 1) = (cntT hs k).set (geti hs k).toNat (getn (cntT hs k) (geti hs k).toNat + 1) := by
  unfold cntT cntL
  rw [List.take_succ_eq_append_getElem h, geti_eq h, List.map_append, List.foldl_append]; rfl
theorem cntT_len (hs : List Int) : ∀ k, (cntT hs k).length = 16 := by
  intro k
  unfold cntT
  have : ∀ xs, (cntL xs).length = 16 := by
    apply snocInd
    · rfl
    · intro xs x ih; unfold cntL at *; rw [List.foldl_append]; show (cntS _ x).length = 16; unfold cntS; rw [List.length_set]; exact ih
  exact this _
theorem cntT_le (hs : List Int) (i : Nat) : ∀ k, getn (cntT hs k) i ≤ k := by
  intro k
  induction k with
  | zero =>
    show getn zer i ≤ 0
    unfold getn zer
    rw [List.getD_eq_getElem?_getD, List.getElem?_replicate]; split <;> simp
  | succ k ih =>
    by_cases h : k < hs.length
    · rw [cntT_succ h]
      have hl := cntT_len hs k
      unfold getn at *
      simp only [List.getD_eq_getElem?_getD, List.getElem?_set] at *
      split
      · rename_i e; subst e
        split
        · simp; exact ih
        · simp
      · omega
    · unfold cntT at *
      rw [List.take_of_length_le (by omega)] at *
      omega
def heightV (es : List (Int × Int)) (hs : List Int) : Value := if ∀ i, i < es.length → geti hs i = pA es i ∨ geti hs i = pB es i then .tuple #[.int .i64 (maxTo (natI (cntT hs hs.length)) 16), .int .i64 0] else .tuple #[.int .i64 0, .int .i64 2]
theorem row_ints {w : World} {g : Nat} {t : TypeId} {xs : List Nat} (h : Row w g t (intv xs)) : IntsAt w (some ⟨g, 0, none⟩) (natI xs) := fun _ => ⟨g, 0, rfl, h.lt, fun i hi => by
  rw [natI_len] at hi
  rw [Nat.zero_add, h.cell, geti_natI]
  unfold intv
  rw [List.getElem?_map, List.getElem?_eq_getElem hi, getn_eq hi]; rfl⟩
theorem heightV_no {es : List (Int × Int)} {hs : List Int} {k : Nat} (hk : k < es.length) (h : ¬ (geti hs k = pA es k ∨ geti hs k = pB es k)) : heightV es hs = .tuple #[.int .i64 0, .int .i64 2] := by
  unfold heightV; rw [if_neg (fun hh => h (hh k hk))]
theorem heightV_yes {es : List (Int × Int)} {hs : List Int} (h : ∀ i, i < es.length → geti hs i = pA es i ∨ geti hs i = pB es i) : heightV es hs = .tuple #[.int .i64 (maxTo (natI (cntT hs hs.length)) 16), .int .i64 0] := by
  unfold heightV; rw [if_pos h]
set_option maxHeartbeats 4000000 in
theorem Height_some (m : Nat) (A B : Option Addr) (c d : Nat) (es : List (Int × Int)) (gs : List Nat) (hs : List Int) (w : World) (hx : es.length ≤ 1000000) (ha : PairsAt w A es) (hbs : IntsAt w B hs) (h : readF m es = some gs) (hl : hs.length = es.length) :
    Calls Try.prog 31 #[.int .i64 m, .slice A es.length c, .slice B hs.length d] w fun e w' => e = .returned (heightV es hs) ∧ Below w.heap.size w w' := by
  obtain ⟨hm1, hm2, hg, hI⟩ := readF_ok h
  have hm2' : m ≤ 16 := by omega
  have HE := Lib.hid (fun k (hk : k < es.length) => readF_edges h hk)
  have HC := Lib.hid (rg_some (c := c) hx ha h)
  have hl2 : ((hs.length : Int) != es.length) = false := by simp [hl]
  have HL := Lib.hid hl
  clear h hm1 hm2 hl
  go_enter Try.func31, Try.ntmps31
  go_wp2_with (first
    | (go_at_call 41; refine HC.out.mono ?_; rintro e w2 ⟨rfl, hb2⟩; have hs2 := hb2.size)
    | (refine wpList_store_row rfl 75 (.tmp 8) (.tmp 17) rfl w2.heap.size (gcells m gs).toArray rfl rfl 75 #[.int .i64 0, .int .u32 0, .int .u32 0, .int .u32 0, .int .u32 0, .int .u32 0, .int .u32 0, .int .u32 0, .int .u32 0, .int .u32 0, .int .u32 0, .int .u32 0, .int .u32 0, .int .u32 0, .int .u32 0, .int .u32 0, .int .u32 0] (heap_alloc_new _ _) (info75g hg) (size75g hg) (gcells_one _ _) ?_; rw [setRow_alloc]))
  generalize hw3 : World.alloc _ _ = w3
  have HW := Lib.hid hw3
  clear hw3
  have hb : Below w.heap.size w w3 := by rw [← HW.out]; (repeat (first | exact Below.refl _ _ | assumption | (refine Below.setCell ?_ (by first | exact Nat.le_refl _ | omega | (simp; done) | (simp; omega)) _) | (refine Below.trans ?_ (below_drewN _)) | (refine Below.drew ?_) | (refine Below.alloc ?_ (by first | exact Nat.le_refl _ | omega | (simp; done) | (simp; omega)) _) | (refine below_row ?_ (by first | exact Nat.le_refl _ | omega | (simp; done) | (simp; omega)) _)))
  have hz : w.heap.size + 1 ≤ w3.heap.size := by rw [← HW.out]; simp; try omega
  have r3 : Row w3 (w2.heap.size + 1) 93 (intv zer) := by rw [← HW.out]; exact row_new (cs := intv zer) (by simp)
  clear HW
  have hb23 : w2.heap.size + 1 < w3.heap.size := r3.lt
  have hlt2 : w.heap.size ≤ w2.heap.size := hs2
  go_loopw [30] (fun i wr => ∃ k : Nat, k ≤ es.length ∧ i = .int .i64 k ∧ (∀ j, j < k → geti hs j = pA es j ∨ geti hs j = pB es j) ∧ Row wr (w2.heap.size + 1) 93 (intv (cntT hs k)) ∧ Below w.heap.size w wr) (fun i _ => es.length - (intOf i).toNat)
  case atStart => exact ⟨0, by omega, rfl, fun j hj => absurd hj (by omega), r3, hb⟩
  case round =>
    obtain ⟨k, hk, rfl, hall, hr, hbr⟩ := hrel
    have HALL := Lib.hid hall
    have ltr := hr.lt
    clear hall hb23 r3 hz hg hI hb
    by_cases hlt : k < es.length
    · have hlk : k < hs.length := by rw [HL.out]; exact hlt
      obtain ⟨b, o, rfl, hb1, hc⟩ := ha (by omega)
      obtain ⟨b', o', rfl, hb1', hc'⟩ := hbs (by omega)
      obtain ⟨c1, c2⟩ := hc k hlt
      have c3 := hc' k hlk
      have c1' : wr.cell? ⟨b, o + k * 2, none⟩ = some (.int .i64 (pA es k)) := (hbr.cell (p := ⟨b, _, none⟩) hb1).trans c1
      have c2' : wr.cell? ⟨b, o + k * 2 + 1, none⟩ = some (.int .i64 (pB es k)) := (hbr.cell (p := ⟨b, _, none⟩) hb1).trans c2
      have c3' : wr.cell? ⟨b', o' + k, none⟩ = some (.int .i64 (geti hs k)) := (hbr.cell (p := ⟨b', _, none⟩) hb1').trans c3
      obtain ⟨e1, e2, e3⟩ := HE.out k hlt
      have HCT := Lib.hid (cntT_succ hlk)
      have hle := cntT_le hs (geti hs k).toNat k
      have hcl := cntT_len hs k
      have HCL := Lib.hid hcl
      have lb : b < wr.heap.size := Nat.lt_of_lt_of_le hb1 hbr.size
      have lb' : b' < wr.heap.size := Nat.lt_of_lt_of_le hb1' hbr.size
      clear hc hc' c1 c2 c3 hcl
      generalize hX : geti hs k = x at *
      generalize hA : pA es k = a at *
      generalize hB : pB es k = b2 at *
      have HX := Lib.hid hX
      have HA := Lib.hid hA
      have HB := Lib.hid hB
      clear hX hA hB
      cases g1 : (x != a) <;> cases g2 : (x != b2)
      case true.true =>
        go_wp2
        refine wp_region_quiet_lit (by kernel_rfl) (by kernel_rfl) ?_
        repeat go_big_quiet_step ((fail))
        refine wpQuiet_nil ?_
        rintro _ ⟨nq, rfl⟩
        go_wp2
        go_ret2
        refine ⟨?_, ?_⟩
        · rw [heightV_no hlt]
          · rfl
          · rw [HX.out, HA.out, HB.out]
            simp at g1 g2
            exact fun h => h.elim g1 g2
        · (repeat (first | exact Below.refl _ _ | assumption | (refine Below.setCell ?_ (by first | exact Nat.le_refl _ | omega | (simp; done) | (simp; omega)) _) | (refine Below.trans ?_ (below_drewN _)) | (refine Below.drew ?_) | (refine Below.alloc ?_ (by first | exact Nat.le_refl _ | omega | (simp; done) | (simp; omega)) _) | (refine below_row ?_ (by first | exact Nat.le_refl _ | omega | (simp; done) | (simp; omega)) _)))
      all_goals
        have hx0 : 0 ≤ x ∧ x < 16 := by simp at g1 g2; omega
        have hxa : x = a ∨ x = b2 := by simp at g1 g2; omega
        have HXA := Lib.hid hxa
        obtain ⟨hx1, hx2⟩ := hx0
        have c4 : wr.cell? ⟨w2.heap.size + 1, x.toNat, none⟩ = some (.int .i64 (getn (cntT hs k) x.toNat)) := by
          have : x.toNat < (cntT hs k).length := by rw [HCL.out]; omega
          rw [hr.cell]; unfold intv; rw [List.getElem?_map, List.getElem?_eq_getElem this, getn_eq this]; rfl
        have f4 := hr.free x.toNat
        clear hxa
        go_wp2
        refine wp_region_quiet_lit (by kernel_rfl) (by kernel_rfl) ?_
        repeat go_big_quiet_step ((fail))
        refine wpQuiet_nil ?_
        rintro _ ⟨nq, rfl⟩
        go_wp2
      all_goals
        go_roundw
        case rel =>
          refine ⟨k + 1, by omega, by go_num, fun j hj => ?_, ?_, ?_⟩
          · by_cases h : j = k
            · subst h; rw [HX.out, HA.out, HB.out]; exact HXA.out
            · exact HALL.out j (by omega)
          · have h5 := ((hr.alloc (.cells #[.int .i64 a, .int .i64 b2] 67)).drewN nq).set x.toNat (.int .i64 (getn (cntT hs k) x.toNat + 1 : Nat))
            rw [HCT.out]
            unfold intv at h5 ⊢
            rw [← List.map_set (f := fun x : Nat => Value.int .i64 x)] at h5
            exact h5
          · (repeat (first | exact Below.refl _ _ | assumption | (refine Below.setCell ?_ (by first | exact Nat.le_refl _ | omega | (simp; done) | (simp; omega)) _) | (refine Below.trans ?_ (below_drewN _)) | (refine Below.drew ?_) | (refine Below.alloc ?_ (by first | exact Nat.le_refl _ | omega | (simp; done) | (simp; omega)) _) | (refine below_row ?_ (by first | exact Nat.le_refl _ | omega | (simp; done) | (simp; omega)) _)))
        case measure => simp [intOf]; omega
    · obtain rfl : k = es.length := by omega
      have hin := row_ints hr
      have HM := max_nat _ 16 (cntT hs es.length) wr (by rw [cntT_len]; omega) (by rw [cntT_len]; omega) hin
      rw [cntT_len] at HM
      have HM' := Lib.hid HM
      clear HM hin
      go_wp2_with (go_at_call 53; refine HM'.out.mono ?_; rintro e w' ⟨rfl, rfl⟩)
      go_ret2
      refine ⟨?_, hbr⟩
      rw [heightV_yes HALL.out, HL.out]
      rfl
end Go.Proofs.Ytmfpegadcecknaa
