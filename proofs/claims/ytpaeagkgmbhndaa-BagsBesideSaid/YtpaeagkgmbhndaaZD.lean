/- Parts P N O of the proof, in this order. -/
import Derived.Test.YtpaeagkgmbhndaaZC
/- Peel. -/
namespace Go.Proofs.Ytpaeagkgmbhndaa
open Go.RowKit
set_option maxHeartbeats 1000000
set_option maxRecDepth 100000
theorem own_mono {w : World} {b b' n : Nat} {e : TypeId} {z : Nat} {v : Value} {xs : List Value} (h : w.ownsRow b e z v n xs) (hb : b' ≤ b) : w.ownsRow b' e z v n xs := by
  refine ⟨h.1, ?_⟩
  rcases h.2 with h | ⟨g, cap, cur, h1, h2, h3⟩
  · exact .inl h
  · exact .inr ⟨g, cap, cur, h1, Nat.le_trans hb h2, h3⟩
theorem Peel_none (n : Int) (A : Option Addr) (c : Nat) (es : List (Int × Int)) (w : World) (hx : es.length ≤ 1000000) (ha : PairsAt w A es) (h : readF n es = none) :
    Calls Try.prog 33 #[.int .i64 n, .slice A es.length c] w fun e w' => e = .returned (.tuple #[.slice none 0 0, .int .i64 0, .int .i64 2]) ∧ Below w.heap.size w w' := by
  have HC := Lib.hid (rg_none (c := c) hx ha h)
  clear h
  go_enter Try.func33, Try.ntmps33
  go_wp2_with (first
    | (go_at_call 41; refine HC.out.mono ?_; rintro e w2 ⟨rfl, hb2⟩; have hs2 := hb2.size)
    | (refine wpList_store_row rfl 75 (.tmp 7) (.tmp 15) rfl w2.heap.size (gcells 0 Z16).toArray rfl rfl 75 #[.int .i64 0, .int .u32 0, .int .u32 0, .int .u32 0, .int .u32 0, .int .u32 0, .int .u32 0, .int .u32 0, .int .u32 0, .int .u32 0, .int .u32 0, .int .u32 0, .int .u32 0, .int .u32 0, .int .u32 0, .int .u32 0, .int .u32 0] (heap_alloc_new _ _) info75 rfl (gcells_one _ _) ?_; rw [setRow_alloc]))
  go_ret3
  refine ⟨rfl, ?_⟩
  (repeat (first | exact Below.refl _ _ | assumption | (refine Below.setCell ?_ (by first | exact Nat.le_refl _ | omega | (simp; done) | (simp; omega)) _) | (refine Below.trans ?_ (below_drewN _)) | (refine Below.drew ?_) | (refine Below.alloc ?_ (by first | exact Nat.le_refl _ | omega | (simp; done) | (simp; omega)) _) | (refine below_row ?_ (by first | exact Nat.le_refl _ | omega | (simp; done) | (simp; omega)) _)))
/-- The order of removing, and the numbers of neighbors. -/
def ordF (m : Nat) (gs : List Nat) : List Nat := (peelL gs m (sAll m)).map (·.1)
def lftF (m : Nat) (gs : List Nat) : List Nat := (peelL gs m (sAll m)).map (·.2)
theorem peel_some (m : Nat) (gs : List Nat) (hg : Rows16 gs) (hI : Irr gs) (hm : m ≤ 16) (w : World) : Calls Try.prog 54 #[.agg (gcells m gs).toArray] w fun e w' => ∃ v1 v2, e = .returned (.tuple #[v1, v2]) ∧ w'.ownsRow w.heap.size 3 1 v1 m (intv (ordF m gs)) ∧ w'.ownsRow w.heap.size 3 1 v2 m (intv (lftF m gs)) ∧ Below w.heap.size w w' := by
  have := peel_any m gs hg hI hm w
  rw [pc_all hm] at this
  exact this
theorem max_nat (A : Option Addr) (c : Nat) (xs : List Nat) (w : World) (hx0 : 0 < xs.length) (hx : xs.length ≤ 1000000) (ha : IntsAt w A (natI xs)) :
    Calls Try.prog 53 #[.slice A xs.length c] w fun e w' => e = .returned (.int .i64 (maxTo (natI xs) xs.length)) ∧ w = w' := by
  have h := max_any A c (natI xs) w (by rw [natI_len]; exact hx0) (by rw [natI_len]; exact hx) ha
  rw [natI_len] at h
  exact h
theorem Peel_some (m : Nat) (A : Option Addr) (c : Nat) (es : List (Int × Int)) (gs : List Nat) (w : World) (hx : es.length ≤ 1000000) (ha : PairsAt w A es) (h : readF m es = some gs) :
    Calls Try.prog 33 #[.int .i64 m, .slice A es.length c] w fun e w' => ∃ v, e = .returned (.tuple #[v, .int .i64 (maxTo (natI (lftF m gs)) m), .int .i64 0]) ∧ w'.ownsRow w.heap.size 3 1 v m (intv (ordF m gs)) ∧ Below w.heap.size w w' := by
  obtain ⟨hm1, hm2, hg, hI⟩ := readF_ok h
  have hm1' : 1 ≤ m := by omega
  have hm2' : m ≤ 16 := by omega
  have HC := Lib.hid (rg_some (c := c) hx ha h)
  have HP := Lib.hid (fun w => peel_some m gs hg hI hm2' w)
  have hll : (lftF m gs).length = m := by unfold lftF; rw [List.length_map, peelL_len]
  have HLL := Lib.hid hll
  clear h hm1 hm2 hll
  go_enter Try.func33, Try.ntmps33
  go_wp2_with (first
    | (go_at_call 41; refine HC.out.mono ?_; rintro e w2 ⟨rfl, hb2⟩; have hs2 := hb2.size)
    | (refine wpList_store_row rfl 75 (.tmp 7) (.tmp 15) rfl w2.heap.size (gcells m gs).toArray rfl rfl 75 #[.int .i64 0, .int .u32 0, .int .u32 0, .int .u32 0, .int .u32 0, .int .u32 0, .int .u32 0, .int .u32 0, .int .u32 0, .int .u32 0, .int .u32 0, .int .u32 0, .int .u32 0, .int .u32 0, .int .u32 0, .int .u32 0, .int .u32 0] (heap_alloc_new _ _) (info75g hg) (size75g hg) (gcells_one _ _) ?_; rw [setRow_alloc])
    | (refine wpList_load_row rfl 75 (.tmp 7) rfl w2.heap.size rfl 75 (gcells m gs).toArray (0, 0) _ (heap_alloc_new _ _) Try.underlying75 rfl (info75g hg) ?_)
    | (go_at_call 54; refine (HP.out _).mono ?_; rintro e w3 ⟨v1, v2, rfl, o1, o2, hb3⟩; have hs3 := hb3.size; obtain ⟨A2, c2, rfl, hq, hin⟩ := own_ints o2; clear hq)
    | (go_at_call 53; refine (max_nat A2 c2 (lftF m gs) _ (by rw [HLL.out]; omega) (by rw [HLL.out]; omega) hin).mono ?_; rintro e w' ⟨rfl, rfl⟩))
  go_ret3
  refine ⟨v1, ?_, own_mono o1 (by simp; omega), (((hb2.alloc hs2 _).trans (hb3.mono (by simp; omega))))⟩
  show Ending.returned (.tuple #[v1, .int .i64 (maxTo (natI (lftF m gs)) (lftF m gs).length), .int .i64 0]) = _
  rw [HLL.out]
end Go.Proofs.Ytpaeagkgmbhndaa
/- Cores. -/
namespace Go.Proofs.Ytpaeagkgmbhndaa
open Go.RowKit
set_option maxHeartbeats 1000000
set_option maxRecDepth 100000
theorem Cores_none (n : Int) (A : Option Addr) (c : Nat) (es : List (Int × Int)) (w : World) (hx : es.length ≤ 1000000) (ha : PairsAt w A es) (h : readF n es = none) :
    Calls Try.prog 32 #[.int .i64 n, .slice A es.length c] w fun e w' => e = .returned (.tuple #[.slice none 0 0, .int .i64 2]) ∧ Below w.heap.size w w' := by
  have HC := Lib.hid (rg_none (c := c) hx ha h)
  clear h
  go_enter Try.func32, Try.ntmps32
  go_wp2_with (first
    | (go_at_call 41; refine HC.out.mono ?_; rintro e w2 ⟨rfl, hb2⟩; have hs2 := hb2.size)
    | (refine wpList_store_row rfl 75 (.tmp 6) (.tmp 18) rfl w2.heap.size (gcells 0 Z16).toArray rfl rfl 75 #[.int .i64 0, .int .u32 0, .int .u32 0, .int .u32 0, .int .u32 0, .int .u32 0, .int .u32 0, .int .u32 0, .int .u32 0, .int .u32 0, .int .u32 0, .int .u32 0, .int .u32 0, .int .u32 0, .int .u32 0, .int .u32 0, .int .u32 0] (heap_alloc_new _ _) info75 rfl (gcells_one _ _) ?_; rw [setRow_alloc]))
  go_ret2
  refine ⟨rfl, ?_⟩
  (repeat (first | exact Below.refl _ _ | assumption | (refine Below.setCell ?_ (by first | exact Nat.le_refl _ | omega | (simp; done) | (simp; omega)) _) | (refine Below.trans ?_ (below_drewN _)) | (refine Below.drew ?_) | (refine Below.alloc ?_ (by first | exact Nat.le_refl _ | omega | (simp; done) | (simp; omega)) _) | (refine below_row ?_ (by first | exact Nat.le_refl _ | omega | (simp; done) | (simp; omega)) _)))
/-- Going on with the numbers of neighbors: the greatest one so far is each removed vertex's core number. -/
def coreS (p : Nat × List Nat) (q : Nat × Nat) : Nat × List Nat := (if p.1 < q.2 then q.2 else p.1, p.2.set q.1 (if p.1 < q.2 then q.2 else p.1))
def coreL (m : Nat) (L : List (Nat × Nat)) : Nat × List Nat := L.foldl coreS (0, List.replicate m 0)
def coreF (m : Nat) (gs : List Nat) : List Nat := (coreL m (peelL gs m (sAll m))).2
theorem coreL_snoc (m : Nat) (L : List (Nat × Nat)) (q : Nat × Nat) : coreL m (L ++ [q]) = coreS (coreL m L) q := by simp [coreL]
theorem coreL_len (m : Nat) : ∀ L, (coreL m L).2.length = m := by
  apply snocInd
  · simp [coreL]
  · intro L q ih; rw [coreL_snoc]; simp [coreS, ih]
theorem made_ints (m : Nat) : (madeCells (Value.int .i64 0).cells (m * 1)).toList = intv (List.replicate m 0) := by
  unfold madeCells intv
  have : (Value.int .i64 0).cells = #[.int .i64 0] := rfl
  rw [this]
  apply List.ext_getElem?
  intro i
  by_cases h : i < m
  · simp [Nat.mod_one, h]
  · simp [Nat.mod_one, h]
theorem own_made {w : World} {b g m : Nat} (h : w.ownsRow b 3 1 (.slice (some ⟨g, 0, none⟩) m m) m (madeCells (Value.int .i64 0).cells (m * 1)).toList) : Row w g 3 (intv (List.replicate m 0)) := by
  rw [made_ints] at h
  rcases h.2 with ⟨h, _⟩ | ⟨g', cap, cur, h, hb, hg, hc, _, hs, ht⟩
  · cases h
  · injection h with h1 _ h2; injection h1 with h1; injection h1 with h1; subst h1; subst h2
    unfold Row
    rw [hg, ← ht]
    congr 2
    rw [List.take_of_length_le (by simp; omega)]
theorem IntsAt.grown {w w' : World} {A : Option Addr} {xs : List Int} (h : IntsAt w A xs) (hg : w.grownBy w' none) : IntsAt w' A xs := fun hp => by
  obtain ⟨b, o, e, hb, hc⟩ := h hp
  exact ⟨b, o, e, Nat.lt_of_lt_of_le hb hg.size, fun i hi => (World.cell?_of_block (hg.block b hb (by simp))).trans (hc i hi)⟩
theorem IntsAt.below {w w' : World} {A : Option Addr} {xs : List Int} (h : IntsAt w A xs) (hg : Below w.heap.size w w') : IntsAt w' A xs := fun hp => by
  obtain ⟨b, o, e, hb, hc⟩ := h hp
  exact ⟨b, o, e, Nat.lt_of_lt_of_le hb hg.size, fun i hi => (hg.cell (p := ⟨b, _, none⟩) hb).trans (hc i hi)⟩
theorem PairsAt.below {w w' : World} {A : Option Addr} {xs : List (Int × Int)} (h : PairsAt w A xs) (hg : Below w.heap.size w w') : PairsAt w' A xs := fun hp => by
  obtain ⟨b, o, e, hb, hc⟩ := h hp
  exact ⟨b, o, e, Nat.lt_of_lt_of_le hb hg.size, fun i hi => ⟨(hg.cell (p := ⟨b, _, none⟩) hb).trans (hc i hi).1, (hg.cell (p := ⟨b, _, none⟩) hb).trans (hc i hi).2⟩⟩
theorem Cores_some (m : Nat) (A : Option Addr) (c : Nat) (es : List (Int × Int)) (gs : List Nat) (w : World) (hx : es.length ≤ 1000000) (ha : PairsAt w A es) (h : readF m es = some gs) :
    Calls Try.prog 32 #[.int .i64 m, .slice A es.length c] w fun e w' => ∃ g, w.heap.size ≤ g ∧ e = .returned (.tuple #[.slice (some ⟨g, 0, none⟩) m m, .int .i64 0]) ∧ Row w' g 3 (intv (coreF m gs)) ∧ Below w.heap.size w w' := by
  obtain ⟨i0, hi, hz0, hz1, hz2⟩ := info_parts info3
  obtain ⟨hm1, hm2, hg, hI⟩ := readF_ok h
  have hm1' : 1 ≤ m := by omega
  have hm2' : m ≤ 16 := by omega
  have HC := Lib.hid (rg_some (c := c) hx ha h)
  have HP := Lib.hid (fun w => peel_some m gs hg hI hm2' w)
  clear h hm1 hm2
  go_enter Try.func32, Try.ntmps32
  go_wp2_with (first
    | (go_at_call 41; refine HC.out.mono ?_; rintro e w2 ⟨rfl, hb2⟩; have hs2 := hb2.size)
    | (refine wpList_store_row rfl 75 (.tmp 6) (.tmp 18) rfl w2.heap.size (gcells m gs).toArray rfl rfl 75 #[.int .i64 0, .int .u32 0, .int .u32 0, .int .u32 0, .int .u32 0, .int .u32 0, .int .u32 0, .int .u32 0, .int .u32 0, .int .u32 0, .int .u32 0, .int .u32 0, .int .u32 0, .int .u32 0, .int .u32 0, .int .u32 0, .int .u32 0] (heap_alloc_new _ _) (info75g hg) (size75g hg) (gcells_one _ _) ?_; rw [setRow_alloc])
    | (refine wpList_load_row rfl 75 (.tmp 6) rfl w2.heap.size rfl 75 (gcells m gs).toArray (0, 0) _ (heap_alloc_new _ _) Try.underlying75 rfl (info75g hg) ?_)
    | (at_make; refine wpList_make_full _ rfl _ _ 24 rfl w3.heap.size 3 i0 (.int .i64 0) 1 Try.underlying24 hi hz0 hz1 .i64 .i64 _ _ m rfl rfl rfl rfl (by rw [hz2]; omega) (by unfold maxLen; omega) (Nat.le_refl _) ?_; intro w4 o3 hg4; have r4 := own_made o3; have hs4 := hg4.size; have hin1' := hin1.grown hg4; have hin2' := hin2.grown hg4; clear o3)
    | (go_at_call 54; refine (HP.out _).mono ?_; rintro e w3 ⟨v1, v2, rfl, o1, o2, hb3⟩; have hs3 := hb3.size; obtain ⟨A1, c1, rfl, hq1, hin1⟩ := own_ints o1; obtain ⟨A2, c2, rfl, hq2, hin2⟩ := own_ints o2; clear hq1 hq2))
  generalize hL : peelL gs m (sAll m) = L at *
  have hLl : L.length = m := by rw [← hL, peelL_len]
  have hLm := peelL_mem hI m (sAll m) (all_lt hm2') (pc_all hm2')
  rw [hL] at hLm
  have ho : ordF m gs = L.map (·.1) := by unfold ordF; rw [hL]
  have hlf : lftF m gs = L.map (·.2) := by unfold lftF; rw [hL]
  have hcf : coreF m gs = (coreL m L).2 := by unfold coreF; rw [hL]
  have HO := Lib.hid ho
  have HLF := Lib.hid hlf
  have HCF := Lib.hid hcf
  have hol : (ordF m gs).length = m := by rw [ho, List.length_map, hLl]
  have hll : (lftF m gs).length = m := by rw [hlf, List.length_map, hLl]
  have HOL := Lib.hid hol
  have HLL := Lib.hid hll
  have HLLn := Lib.hid hLl
  have HLM := Lib.hid hLm
  have hom : (ordF m gs).length ≤ 16 := by omega
  have hB3 : Below w.heap.size w w3 := (hb2.alloc hs2 _).trans (hb3.mono (by simp; omega))
  have hB34 : Below w3.heap.size w3 w4 := (Below.refl _ _).grown hg4 (Nat.le_refl _) (by simp)
  have hs3' : w.heap.size ≤ w3.heap.size := by simp at hs3; omega
  clear hL hLl hLm ho hlf hcf hol hll hin1' hin2' o1 o2
  go_loopw [11, 12, 13, 31] (fun a _ _ i wr => ∃ (k : Nat) (G : Nat) (cs : List Nat), k ≤ (ordF m gs).length ∧ i = .int .i64 k ∧ a = .int .i64 G ∧ coreL m (L.take k) = (G, cs) ∧ G ≤ 16 ∧ Row wr w3.heap.size 3 (intv cs) ∧ Below w3.heap.size w3 wr) (fun _ _ _ i _ => (ordF m gs).length - (intOf i).toNat)
  case atStart => exact ⟨0, 0, List.replicate m 0, by omega, rfl, rfl, rfl, by omega, r4, hB34⟩
  case round =>
    obtain ⟨k, G, cs, hk, rfl, rfl, hcl, hG, hr, hBr⟩ := hrel
    have hcsl : cs.length = m := by have := coreL_len m (L.take k); rw [hcl] at this; exact this
    have HCS := Lib.hid hcsl
    have HCL := Lib.hid hcl
    clear hcl hcsl
    by_cases hlt : k < (ordF m gs).length
    · have hkm : k < m := by rw [← HOL.out]; exact hlt
      obtain ⟨b1, o1, rfl, hb1, hc1⟩ := hin1.below hBr (by rw [natI_len]; omega)
      obtain ⟨b2, o2, rfl, hb2', hc2⟩ := hin2.below hBr (by rw [natI_len, HLL.out]; omega)
      have c1 := hc1 k (by rw [natI_len]; exact hlt)
      have c2 := hc2 k (by rw [natI_len, HLL.out]; exact hkm)
      rw [geti_natI] at c1 c2
      have hkL : k < L.length := by rw [HLLn.out]; exact hkm
      have hlk : k < (lftF m gs).length := by rw [HLL.out]; exact hkm
      have e1 : getn (ordF m gs) k = L[k].1 := by rw [HO.out, getn_eq (by simp; exact hkL)]; simp
      have e2 : getn (lftF m gs) k = L[k].2 := by rw [HLF.out, getn_eq (by simp; exact hkL)]; simp
      have hmem := HLM.out L[k] (List.getElem_mem hkL)
      have hv : L[k].1 < m := by
        have := hmem.2.1
        unfold sHas at this; rw [all_bit] at this; simpa using this
      have hf := hmem.2.2
      have htk : L.take (k + 1) = L.take k ++ [(L[k].1, L[k].2)] := by rw [List.take_succ_eq_append_getElem hkL]
      have HTK := Lib.hid htk
      rw [e1] at c1
      rw [e2] at c2
      clear e1 e2 hmem htk hc1 hc2
      generalize L[k].1 = v at *
      generalize L[k].2 = f at *
      have c3 : wr.cell? ⟨w3.heap.size, v, none⟩ = some (.int .i64 (getn cs v)) := by
        have hvc : v < cs.length := by rw [HCS.out]; exact hv
        rw [hr.cell]; unfold intv; rw [List.getElem?_map, List.getElem?_eq_getElem hvc, getn_eq hvc]; rfl
      have f3 := hr.free v
      have hst : ∀ x : Nat, Row (wr.setCell ⟨w3.heap.size, v, none⟩ (.int .i64 x)) w3.heap.size 3 (intv (cs.set v x)) := fun x => by
        have := hr.set v (.int .i64 x)
        unfold intv at *
        rwa [← List.map_set] at this
      have HST := Lib.hid hst
      clear hst
      by_cases hgf : G < f
      · go_wp2
        go_roundw
        case rel => exact ⟨k + 1, f, cs.set v f, by omega, by go_num, rfl, by rw [HTK.out, coreL_snoc, HCL.out]; simp [coreS, hgf], by omega, HST.out f, hBr.setCell (p := ⟨_, _, none⟩) (Nat.le_refl _) _⟩
        case measure => simp [intOf]; omega
      · go_wp2
        go_roundw
        case rel => exact ⟨k + 1, G, cs.set v G, by omega, by go_num, rfl, by rw [HTK.out, coreL_snoc, HCL.out]; simp [coreS, hgf], by omega, HST.out G, hBr.setCell (p := ⟨_, _, none⟩) (Nat.le_refl _) _⟩
        case measure => simp [intOf]; omega
    · go_wp2
      go_ret2
      have hfin : coreF m gs = cs := by
        have h1 := HCL.out
        rw [List.take_of_length_le (by rw [HLLn.out, ← HOL.out]; omega)] at h1
        rw [HCF.out, h1]
      rw [hfin]
      exact ⟨w3.heap.size, hs3', rfl, hr, hB3.trans (hBr.mono hs3')⟩
end Go.Proofs.Ytpaeagkgmbhndaa
/- Height. -/
namespace Go.Proofs.Ytpaeagkgmbhndaa
open Go.RowKit
set_option maxHeartbeats 1000000
set_option maxRecDepth 100000
theorem rd_edges {n : Nat} : ∀ (es : List (Int × Int)) (gs gs' : List Nat), rd n es gs = some gs' → ∀ e ∈ es, 0 ≤ e.1 ∧ e.1 < e.2 ∧ e.2 < n := by
  intro es
  induction es with
  | nil => intro _ _ _ e he; cases he
  | cons e es ih =>
    intro gs gs' h
    rw [rd] at h
    split at h
    · rename_i hok
      unfold okE at hok
      simp only [Bool.and_eq_true, decide_eq_true_eq] at hok
      intro e' he'
      rcases List.mem_cons.1 he' with rfl | he'
      · exact ⟨hok.1, hok.2.1, hok.2.2.1⟩
      · exact ih _ _ h e' he'
    · cases h
theorem readF_edges {n : Nat} {es : List (Int × Int)} {gs : List Nat} (h : readF n es = some gs) {k : Nat} (hk : k < es.length) : 0 ≤ pA es k ∧ pA es k < pB es k ∧ pB es k < n := by
  unfold readF at h
  split at h
  · have := rd_edges es _ _ h (es[k]) (List.getElem_mem hk)
    rw [pAB_get hk] at this
    exact this
  · cases h
theorem Height_none (n : Int) (A B : Option Addr) (c d : Nat) (es : List (Int × Int)) (hs : List Int) (w : World) (hx : es.length ≤ 1000000) (ha : PairsAt w A es) (h : readF n es = none) :
    Calls Try.prog 31 #[.int .i64 n, .slice A es.length c, .slice B hs.length d] w fun e w' => e = .returned (.tuple #[.int .i64 0, .int .i64 2]) ∧ Below w.heap.size w w' := by
  have HC := Lib.hid (rg_none (c := c) hx ha h)
  clear h
  go_enter Try.func31, Try.ntmps31
  go_wp2_with (first
    | (go_at_call 41; refine HC.out.mono ?_; rintro e w2 ⟨rfl, hb2⟩; have hs2 := hb2.size)
    | (refine wpList_store_row rfl 75 (.tmp 8) (.tmp 17) rfl w2.heap.size (gcells 0 Z16).toArray rfl rfl 75 #[.int .i64 0, .int .u32 0, .int .u32 0, .int .u32 0, .int .u32 0, .int .u32 0, .int .u32 0, .int .u32 0, .int .u32 0, .int .u32 0, .int .u32 0, .int .u32 0, .int .u32 0, .int .u32 0, .int .u32 0, .int .u32 0, .int .u32 0] (heap_alloc_new _ _) info75 rfl (gcells_one _ _) ?_; rw [setRow_alloc]))
  go_ret2
  refine ⟨rfl, ?_⟩
  (repeat (first | exact Below.refl _ _ | assumption | (refine Below.setCell ?_ (by first | exact Nat.le_refl _ | omega | (simp; done) | (simp; omega)) _) | (refine Below.trans ?_ (below_drewN _)) | (refine Below.drew ?_) | (refine Below.alloc ?_ (by first | exact Nat.le_refl _ | omega | (simp; done) | (simp; omega)) _) | (refine below_row ?_ (by first | exact Nat.le_refl _ | omega | (simp; done) | (simp; omega)) _)))
theorem Height_len (m : Nat) (A B : Option Addr) (c d : Nat) (es : List (Int × Int)) (gs : List Nat) (hs : List Int) (w : World) (hx : es.length ≤ 1000000) (ha : PairsAt w A es) (h : readF m es = some gs) (hl : hs.length ≠ es.length) :
    Calls Try.prog 31 #[.int .i64 m, .slice A es.length c, .slice B hs.length d] w fun e w' => e = .returned (.tuple #[.int .i64 0, .int .i64 2]) ∧ Below w.heap.size w w' := by
  obtain ⟨hm1, hm2, hg, hI⟩ := readF_ok h
  have HC := Lib.hid (rg_some (c := c) hx ha h)
  have hl2 : ((hs.length : Int) != es.length) = true := by simp; omega
  clear h hm1 hm2
  go_enter Try.func31, Try.ntmps31
  go_wp2_with (first
    | (go_at_call 41; refine HC.out.mono ?_; rintro e w2 ⟨rfl, hb2⟩; have hs2 := hb2.size)
    | (refine wpList_store_row rfl 75 (.tmp 8) (.tmp 17) rfl w2.heap.size (gcells m gs).toArray rfl rfl 75 #[.int .i64 0, .int .u32 0, .int .u32 0, .int .u32 0, .int .u32 0, .int .u32 0, .int .u32 0, .int .u32 0, .int .u32 0, .int .u32 0, .int .u32 0, .int .u32 0, .int .u32 0, .int .u32 0, .int .u32 0, .int .u32 0, .int .u32 0] (heap_alloc_new _ _) (info75g hg) (size75g hg) (gcells_one _ _) ?_; rw [setRow_alloc]))
  go_ret2
  refine ⟨rfl, ?_⟩
  (repeat (first | exact Below.refl _ _ | assumption | (refine Below.setCell ?_ (by first | exact Nat.le_refl _ | omega | (simp; done) | (simp; omega)) _) | (refine Below.trans ?_ (below_drewN _)) | (refine Below.drew ?_) | (refine Below.alloc ?_ (by first | exact Nat.le_refl _ | omega | (simp; done) | (simp; omega)) _) | (refine below_row ?_ (by first | exact Nat.le_refl _ | omega | (simp; done) | (simp; omega)) _)))
/-- How often each number comes. -/
def zer : List Nat := List.replicate 16 0
def cntS (c : List Nat) (h : Nat) : List Nat := c.set h (getn c h + 1)
def cntL (xs : List Nat) : List Nat := xs.foldl cntS zer
def cntT (hs : List Int) (k : Nat) : List Nat := cntL ((hs.take k).map Int.toNat)
theorem cntT_succ {hs : List Int} {k : Nat} (h : k < hs.length) : cntT hs (k + 1) = (cntT hs k).set (geti hs k).toNat (getn (cntT hs k) (geti hs k).toNat + 1) := by
  unfold cntT cntL
  rw [List.take_succ_eq_append_getElem h, geti_eq h, List.map_append, List.foldl_append]; rfl
theorem cntT_len (hs : List Int) : ∀ k, (cntT hs k).length = 16 := by
  intro k
  unfold cntT
  have : ∀ xs, (cntL xs).length = 16 := by
    apply snocInd
    · rfl
    · intro xs x ih; unfold cntL at *; rw [List.foldl_append]; show (cntS _ x).length = 16; unfold cntS; rw [List.length_set]; exact ih
  exact this _
theorem cntT_le (hs : List Int) (i : Nat) : ∀ k, getn (cntT hs k) i ≤ k := by
  intro k
  induction k with
  | zero =>
    show getn zer i ≤ 0
    unfold getn zer
    rw [List.getD_eq_getElem?_getD, List.getElem?_replicate]; split <;> simp
  | succ k ih =>
    by_cases h : k < hs.length
    · rw [cntT_succ h]
      have hl := cntT_len hs k
      unfold getn at *
      simp only [List.getD_eq_getElem?_getD, List.getElem?_set] at *
      split
      · rename_i e; subst e
        split
        · simp; exact ih
        · simp
      · omega
    · unfold cntT at *
      rw [List.take_of_length_le (by omega)] at *
      omega
def heightV (es : List (Int × Int)) (hs : List Int) : Value := if ∀ i, i < es.length → geti hs i = pA es i ∨ geti hs i = pB es i then .tuple #[.int .i64 (maxTo (natI (cntT hs hs.length)) 16), .int .i64 0] else .tuple #[.int .i64 0, .int .i64 2]
theorem row_ints {w : World} {g : Nat} {t : TypeId} {xs : List Nat} (h : Row w g t (intv xs)) : IntsAt w (some ⟨g, 0, none⟩) (natI xs) := fun _ => ⟨g, 0, rfl, h.lt, fun i hi => by
  rw [natI_len] at hi
  rw [Nat.zero_add, h.cell, geti_natI]
  unfold intv
  rw [List.getElem?_map, List.getElem?_eq_getElem hi, getn_eq hi]; rfl⟩
theorem heightV_no {es : List (Int × Int)} {hs : List Int} {k : Nat} (hk : k < es.length) (h : ¬ (geti hs k = pA es k ∨ geti hs k = pB es k)) : heightV es hs = .tuple #[.int .i64 0, .int .i64 2] := by
  unfold heightV; rw [if_neg (fun hh => h (hh k hk))]
theorem heightV_yes {es : List (Int × Int)} {hs : List Int} (h : ∀ i, i < es.length → geti hs i = pA es i ∨ geti hs i = pB es i) : heightV es hs = .tuple #[.int .i64 (maxTo (natI (cntT hs hs.length)) 16), .int .i64 0] := by
  unfold heightV; rw [if_pos h]
set_option maxHeartbeats 4000000 in
theorem Height_some (m : Nat) (A B : Option Addr) (c d : Nat) (es : List (Int × Int)) (gs : List Nat) (hs : List Int) (w : World) (hx : es.length ≤ 1000000) (ha : PairsAt w A es) (hbs : IntsAt w B hs) (h : readF m es = some gs) (hl : hs.length = es.length) :
    Calls Try.prog 31 #[.int .i64 m, .slice A es.length c, .slice B hs.length d] w fun e w' => e = .returned (heightV es hs) ∧ Below w.heap.size w w' := by
  obtain ⟨hm1, hm2, hg, hI⟩ := readF_ok h
  have hm2' : m ≤ 16 := by omega
  have HE := Lib.hid (fun k (hk : k < es.length) => readF_edges h hk)
  have HC := Lib.hid (rg_some (c := c) hx ha h)
  have hl2 : ((hs.length : Int) != es.length) = false := by simp [hl]
  have HL := Lib.hid hl
  clear h hm1 hm2 hl
  go_enter Try.func31, Try.ntmps31
  go_wp2_with (first
    | (go_at_call 41; refine HC.out.mono ?_; rintro e w2 ⟨rfl, hb2⟩; have hs2 := hb2.size)
    | (refine wpList_store_row rfl 75 (.tmp 8) (.tmp 17) rfl w2.heap.size (gcells m gs).toArray rfl rfl 75 #[.int .i64 0, .int .u32 0, .int .u32 0, .int .u32 0, .int .u32 0, .int .u32 0, .int .u32 0, .int .u32 0, .int .u32 0, .int .u32 0, .int .u32 0, .int .u32 0, .int .u32 0, .int .u32 0, .int .u32 0, .int .u32 0, .int .u32 0] (heap_alloc_new _ _) (info75g hg) (size75g hg) (gcells_one _ _) ?_; rw [setRow_alloc]))
  generalize hw3 : World.alloc _ _ = w3
  have HW := Lib.hid hw3
  clear hw3
  have hb : Below w.heap.size w w3 := by rw [← HW.out]; (repeat (first | exact Below.refl _ _ | assumption | (refine Below.setCell ?_ (by first | exact Nat.le_refl _ | omega | (simp; done) | (simp; omega)) _) | (refine Below.trans ?_ (below_drewN _)) | (refine Below.drew ?_) | (refine Below.alloc ?_ (by first | exact Nat.le_refl _ | omega | (simp; done) | (simp; omega)) _) | (refine below_row ?_ (by first | exact Nat.le_refl _ | omega | (simp; done) | (simp; omega)) _)))
  have hz : w.heap.size + 1 ≤ w3.heap.size := by rw [← HW.out]; simp; try omega
  have r3 : Row w3 (w2.heap.size + 1) 93 (intv zer) := by rw [← HW.out]; exact row_new (cs := intv zer) (by simp)
  clear HW
  have hb23 : w2.heap.size + 1 < w3.heap.size := r3.lt
  have hlt2 : w.heap.size ≤ w2.heap.size := hs2
  go_loopw [30] (fun i wr => ∃ k : Nat, k ≤ es.length ∧ i = .int .i64 k ∧ (∀ j, j < k → geti hs j = pA es j ∨ geti hs j = pB es j) ∧ Row wr (w2.heap.size + 1) 93 (intv (cntT hs k)) ∧ Below w.heap.size w wr) (fun i _ => es.length - (intOf i).toNat)
  case atStart => exact ⟨0, by omega, rfl, fun j hj => absurd hj (by omega), r3, hb⟩
  case round =>
    obtain ⟨k, hk, rfl, hall, hr, hbr⟩ := hrel
    have HALL := Lib.hid hall
    have ltr := hr.lt
    clear hall hb23 r3 hz hg hI hb
    by_cases hlt : k < es.length
    · have hlk : k < hs.length := by rw [HL.out]; exact hlt
      obtain ⟨b, o, rfl, hb1, hc⟩ := ha (by omega)
      obtain ⟨b', o', rfl, hb1', hc'⟩ := hbs (by omega)
      obtain ⟨c1, c2⟩ := hc k hlt
      have c3 := hc' k hlk
      have c1' : wr.cell? ⟨b, o + k * 2, none⟩ = some (.int .i64 (pA es k)) := (hbr.cell (p := ⟨b, _, none⟩) hb1).trans c1
      have c2' : wr.cell? ⟨b, o + k * 2 + 1, none⟩ = some (.int .i64 (pB es k)) := (hbr.cell (p := ⟨b, _, none⟩) hb1).trans c2
      have c3' : wr.cell? ⟨b', o' + k, none⟩ = some (.int .i64 (geti hs k)) := (hbr.cell (p := ⟨b', _, none⟩) hb1').trans c3
      obtain ⟨e1, e2, e3⟩ := HE.out k hlt
      have HCT := Lib.hid (cntT_succ hlk)
      have hle := cntT_le hs (geti hs k).toNat k
      have hcl := cntT_len hs k
      have HCL := Lib.hid hcl
      have lb : b < wr.heap.size := Nat.lt_of_lt_of_le hb1 hbr.size
      have lb' : b' < wr.heap.size := Nat.lt_of_lt_of_le hb1' hbr.size
      clear hc hc' c1 c2 c3 hcl
      generalize hX : geti hs k = x at *
      generalize hA : pA es k = a at *
      generalize hB : pB es k = b2 at *
      have HX := Lib.hid hX
      have HA := Lib.hid hA
      have HB := Lib.hid hB
      clear hX hA hB
      cases g1 : (x != a) <;> cases g2 : (x != b2)
      case true.true =>
        go_wp2
        refine wp_region_quiet_lit (by kernel_rfl) (by kernel_rfl) ?_
        repeat go_big_quiet_step ((fail))
        refine wpQuiet_nil ?_
        rintro _ ⟨nq, rfl⟩
        go_wp2
        go_ret2
        refine ⟨?_, ?_⟩
        · rw [heightV_no hlt]
          · rfl
          · rw [HX.out, HA.out, HB.out]
            simp at g1 g2
            exact fun h => h.elim g1 g2
        · (repeat (first | exact Below.refl _ _ | assumption | (refine Below.setCell ?_ (by first | exact Nat.le_refl _ | omega | (simp; done) | (simp; omega)) _) | (refine Below.trans ?_ (below_drewN _)) | (refine Below.drew ?_) | (refine Below.alloc ?_ (by first | exact Nat.le_refl _ | omega | (simp; done) | (simp; omega)) _) | (refine below_row ?_ (by first | exact Nat.le_refl _ | omega | (simp; done) | (simp; omega)) _)))
      all_goals
        have hx0 : 0 ≤ x ∧ x < 16 := by simp at g1 g2; omega
        have hxa : x = a ∨ x = b2 := by simp at g1 g2; omega
        have HXA := Lib.hid hxa
        obtain ⟨hx1, hx2⟩ := hx0
        have c4 : wr.cell? ⟨w2.heap.size + 1, x.toNat, none⟩ = some (.int .i64 (getn (cntT hs k) x.toNat)) := by
          have : x.toNat < (cntT hs k).length := by rw [HCL.out]; omega
          rw [hr.cell]; unfold intv; rw [List.getElem?_map, List.getElem?_eq_getElem this, getn_eq this]; rfl
        have f4 := hr.free x.toNat
        clear hxa
        go_wp2
        refine wp_region_quiet_lit (by kernel_rfl) (by kernel_rfl) ?_
        repeat go_big_quiet_step ((fail))
        refine wpQuiet_nil ?_
        rintro _ ⟨nq, rfl⟩
        go_wp2
      all_goals
        go_roundw
        case rel =>
          refine ⟨k + 1, by omega, by go_num, fun j hj => ?_, ?_, ?_⟩
          · by_cases h : j = k
            · subst h; rw [HX.out, HA.out, HB.out]; exact HXA.out
            · exact HALL.out j (by omega)
          · have h5 := ((hr.alloc (.cells #[.int .i64 a, .int .i64 b2] 67)).drewN nq).set x.toNat (.int .i64 (getn (cntT hs k) x.toNat + 1 : Nat))
            rw [HCT.out]
            unfold intv at h5 ⊢
            rw [← List.map_set (f := fun x : Nat => Value.int .i64 x)] at h5
            exact h5
          · (repeat (first | exact Below.refl _ _ | assumption | (refine Below.setCell ?_ (by first | exact Nat.le_refl _ | omega | (simp; done) | (simp; omega)) _) | (refine Below.trans ?_ (below_drewN _)) | (refine Below.drew ?_) | (refine Below.alloc ?_ (by first | exact Nat.le_refl _ | omega | (simp; done) | (simp; omega)) _) | (refine below_row ?_ (by first | exact Nat.le_refl _ | omega | (simp; done) | (simp; omega)) _)))
        case measure => simp [intOf]; omega
    · obtain rfl : k = es.length := by omega
      have hin := row_ints hr
      have HM := max_nat _ 16 (cntT hs es.length) wr (by rw [cntT_len]; omega) (by rw [cntT_len]; omega) hin
      rw [cntT_len] at HM
      have HM' := Lib.hid HM
      clear HM hin
      go_wp2_with (go_at_call 53; refine HM'.out.mono ?_; rintro e w' ⟨rfl, rfl⟩)
      go_ret2
      refine ⟨?_, hbr⟩
      rw [heightV_yes HALL.out, HL.out]
      rfl
end Go.Proofs.Ytpaeagkgmbhndaa
