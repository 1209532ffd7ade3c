/- Cores. -/
import Derived.Test.YtmfpegadcecknaaP
namespace Go.Proofs.Ytmfpegadcecknaa
open Go.RowKit
set_option maxHeartbeats 1000000
set_option maxRecDepth 100000
theorem Cores_none (n : Int) (A : Option Addr) (c : Nat) (es : List (Int × Int)) (w : World) (hx : es.length ≤ 1000000) (ha : PairsAt w A es) (h : readF n es = none) :
    Calls Try.prog 32 #[.int .i64 n, .slice A es.length c] w fun e w' => e = .returned (.tuple #[.slice none 0 0, .int .i64 2]) ∧ Below w.heap.size w w' := by
  have HC := Lib.hid (rg_none (c := c) hx ha h)
  clear h
  go_enter Try.func32, Try.ntmps32
  go_wp2_with (first
    | (go_at_call 41; refine HC.out.mono ?_; rintro e w2 ⟨rfl, hb2⟩; have hs2 := hb2.size)
    | (refine wpList_store_row rfl 75 (.tmp 6) (.tmp 18) rfl w2.heap.size (gcells 0 Z16).toArray rfl rfl 75 #[.int .i64 0, .int .u32 0, .int .u32 0, .int .u32 0, .int .u32 0, .int .u32 0, .int .u32 0, .int .u32 0, .int .u32 0, .int .u32 0, .int .u32 0, .int .u32 0, .int .u32 0, .int .u32 0, .int .u32 0, .int .u32 0, .int .u32 0] (heap_alloc_new _ _) info75 rfl (gcells_one _ _) ?_; rw [setRow_alloc]))
  go_ret2
  refine ⟨rfl, ?_⟩
  (repeat (first | exact Below.refl _ _ | assumption | (refine Below.setCell ?_ (by first | exact Nat.le_refl _ | omega | (simp; done) | (simp; omega)) _) | (refine Below.trans ?_ (below_drewN _)) | (refine Below.drew ?_) | (refine Below.alloc ?_ (by first | exact Nat.le_refl _ | omega | (simp; done) | (simp; omega)) _) | (refine below_row ?_ (by first | exact Nat.le_refl _ | omega | (simp; done) | (simp; omega)) _)))
/-- Going on with the numbers of neighbors: the greatest one so far is each removed vertex's core number. -/
def coreS (p : Nat × List Nat) (q : Nat × Nat) : Nat × List Nat := (if p.1 < q.2 then q.2 else p.1, p.2.set q.1 (if p.1 < q.2 then q.2 else p.1))
def coreL (m : Nat) (L : List (Nat × Nat)) : Nat × List Nat := L.foldl coreS (0, List.replicate m 0)
def coreF (m : Nat) (gs : List Nat) : List Nat := (coreL m (peelL gs m (sAll m))).2
theorem coreL_snoc (m : Nat) (L : List (Nat × Nat)) (q : Nat × Nat) : coreL m (L ++ [q]) = coreS (coreL m L) q := by simp [coreL]
theorem coreL_len (m : Nat) : ∀ L, (coreL m L).2.length = m := by
  apply snocInd
  · simp [coreL]
  · intro L q ih; rw [coreL_snoc]; simp [coreS, ih]
theorem made_ints (m : Nat) : (madeCells (Value.int .i64 0).cells (m * 1)).toList = intv (List.replicate m 0) := by
  unfold madeCells intv
  have : (Value.int .i64 0).cells = #[.int .i64 0] := rfl
  rw [this]
  apply List.ext_getElem?
  intro i
  by_cases h : i < m
  · simp [Nat.mod_one, h]
  · simp [Nat.mod_one, h]
theorem own_made {w : World} {b g m : Nat} (h : w.ownsRow b 3 1 (.slice (some ⟨g, 0, none⟩) m m) m (madeCells (Value.int .i64 0).cells (m * 1)).toList) : Row w g 3 (intv (List.replicate m 0)) := by
  rw [made_ints] at h
  rcases h.2 with ⟨h, _⟩ | ⟨g', cap, cur, h, hb, hg, hc, _, hs, ht⟩
  · cases h
  · injection h with h1 _ h2; injection h1 with h1; injection h1 with h1; subst h1; subst h2
    unfold Row
    rw [hg, ← ht]
    congr 2
    rw [List.take_of_length_le (by simp; omega)]
theorem IntsAt.grown {w w' : World} {A : Option Addr} {xs : List Int} (h : IntsAt w A xs) (hg : w.grownBy w' none) : IntsAt w' A xs := fun hp => by
  obtain ⟨b, o, e, hb, hc⟩ := h hp
  exact ⟨b, o, e, Nat.lt_of_lt_of_le hb hg.size, fun i hi => (World.cell?_of_block (hg.block b hb (by simp))).trans (hc i hi)⟩
theorem IntsAt.below {w w' : World} {A : Option Addr} {xs : List Int} (h : IntsAt w A xs) (hg : Below w.heap.size w w') : IntsAt w' A xs := fun hp => by
  obtain ⟨b, o, e, hb, hc⟩ := h hp
  exact ⟨b, o, e, Nat.lt_of_lt_of_le hb hg.size, fun i hi => (hg.cell (p := ⟨b, _, none⟩) hb).trans (hc i hi)⟩
theorem PairsAt.below {w w' : World} {A : Option Addr} {xs : List (Int × Int)} (h : PairsAt w A xs) (hg : Below w.heap.size w w') : PairsAt w' A xs := fun hp => by
  obtain ⟨b, o, e, hb, hc⟩ := h hp
  exact ⟨b, o, e, Nat.lt_of_lt_of_le hb hg.size, fun i hi => ⟨(hg.cell (p := ⟨b, _, none⟩) hb).trans (hc i hi).1, (hg.cell (p := ⟨b, _, none⟩) hb).trans (hc i hi).2⟩⟩
theorem Cores_some (m : Nat) (A : Option Addr) (c : Nat) (es : List (Int × Int)) (gs : List Nat) (w : World) (hx : es.length ≤ 1000000) (ha : PairsAt w A es) (h : readF m es = some gs) :
    Calls Try.prog 32 #[.int .i64 m, .slice A es.length c] w fun e w' => ∃ g, w.heap.size ≤ g ∧ e = .returned (.tuple #[.slice (some ⟨g, 0, none⟩) m m, .int .i64 0]) ∧ Row w' g 3 (intv (coreF m gs)) ∧ Below w.heap.size w w' := by
  obtain ⟨i0, hi, hz0, hz1, hz2⟩ := info_parts info3
  obtain ⟨hm1, hm2, hg, hI⟩ := readF_ok h
  have hm1' : 1 ≤ m := by omega
  have hm2' : m ≤ 16 := by omega
  have HC := Lib.hid (rg_some (c := c) hx ha h)
  have HP := Lib.hid (fun w => peel_some m gs hg hI hm2' w)
  clear h hm1 hm2
  go_enter Try.func32, Try.ntmps32
  go_wp2_with (first
    | (go_at_call 41; refine HC.out.mono ?_; rintro e w2 ⟨rfl, hb2⟩; have hs2 := hb2.size)
    | (refine wpList_store_row rfl 75 (.tmp 6) (.tmp 18) rfl w2.heap.size (gcells m gs).toArray rfl rfl 75 #[.int .i64 0, .int .u32 0, .int .u32 0, .int .u32 0, .int .u32 0, .int .u32 0, .int .u32 0, .int .u32 0, .int .u32 0, .int .u32 0, .int .u32 0, .int .u32 0, .int .u32 0, .int .u32 0, .int .u32 0, .int .u32 0, .int .u32 0] (heap_alloc_new _ _) (info75g hg) (size75g hg) (gcells_one _ _) ?_; rw [setRow_alloc])
    | (refine wpList_load_row rfl 75 (.tmp 6) rfl w2.heap.size rfl 75 (gcells m gs).toArray (0, 0) _ (heap_alloc_new _ _) Try.underlying75 rfl (info75g hg) ?_)
    | (at_make; refine wpList_make_full _ rfl _ _ 24 rfl w3.heap.size 3 i0 (.int .i64 0) 1 Try.underlying24 hi hz0 hz1 .i64 .i64 _ _ m rfl rfl rfl rfl (by rw [hz2]; omega) (by unfold maxLen; omega) (Nat.le_refl _) ?_; intro w4 o3 hg4; have r4 := own_made o3; have hs4 := hg4.size; have hin1' := hin1.grown hg4; have hin2' := hin2.grown hg4; clear o3)
    | (go_at_call 54; refine (HP.out _).mono ?_; rintro e w3 ⟨v1, v2, rfl, o1, o2, hb3⟩; have hs3 := hb3.size; obtain ⟨A1, c1, rfl, hq1, hin1⟩ := own_ints o1; obtain ⟨A2, c2, rfl, hq2, hin2⟩ := own_ints o2; clear hq1 hq2))
  generalize hL : peelL gs m (sAll m) = L at *
  have hLl : L.length = m := by rw [← hL, peelL_len]
  have hLm := peelL_mem hI m (sAll m) (all_lt hm2') (pc_all hm2')
  rw [hL] at hLm
  have ho : ordF m gs = L.map (·.1) := by unfold ordF; rw [hL]
  have hlf : lftF m gs = L.map (·.2) := by unfold lftF; rw [hL]
  have hcf : coreF m gs = (coreL m L).2 := by unfold coreF; rw [hL]
  have HO := Lib.hid ho
  have HLF := Lib.hid hlf
  have HCF := Lib.hid hcf
  have hol : (ordF m gs).length = m := by rw [ho, List.length_map, hLl]
  have hll : (lftF m gs).length = m := by rw [hlf, List.length_map, hLl]
  have HOL := Lib.hid hol
  have HLL := Lib.hid hll
  have HLLn := Lib.hid hLl
  have HLM := Lib.hid hLm
  have hom : (ordF m gs).length ≤ 16 := by omega
  have hB3 : Below w.heap.size w w3 := (hb2.alloc hs2 _).trans (hb3.mono (by simp; omega))
  have hB34 : Below w3.heap.size w3 w4 := (Below.refl _ _).grown hg4 (Nat.le_refl _) (by simp)
  have hs3' : w.heap.size ≤ w3.heap.size := by simp at hs3; omega
  clear hL hLl hLm ho hlf hcf hol hll hin1' hin2' o1 o2
  go_loopw [11, 12, 13, 31] (fun a _ _ i wr => ∃ (k : Nat) (G : Nat) (cs : List Nat), k ≤ (ordF m gs).length ∧ i = .int .i64 k ∧ a = .int .i64 G ∧ coreL m (L.take k) = (G, cs) ∧ G ≤ 16 ∧ Row wr w3.heap.size 3 (intv cs) ∧ Below w3.heap.size w3 wr) (fun _ _ _ i _ => (ordF m gs).length - (intOf i).toNat)
  case atStart => exact ⟨0, 0, List.replicate m 0, by omega, rfl, rfl, rfl, by omega, r4, hB34⟩
  case round =>
    obtain ⟨k, G, cs, hk, rfl, rfl, hcl, hG, hr, hBr⟩ := hrel
    have hcsl : cs.length = m := by have := coreL_len m (L.take k); rw [hcl] at this; exact this
    have HCS := Lib.hid hcsl
    have HCL := Lib.hid hcl
    clear hcl hcsl
    by_cases hlt : k < (ordF m gs).length
    · have hkm : k < m := by rw [← HOL.out]; exact hlt
      obtain ⟨b1, o1, rfl, hb1, hc1⟩ := hin1.below hBr (by rw [natI_len]; omega)
      obtain ⟨b2, o2, rfl, hb2', hc2⟩ := hin2.below hBr (by rw [natI_len, HLL.out]; omega)
      have c1 := hc1 k (by rw [natI_len]; exact hlt)
      have c2 := hc2 k (by rw [natI_len, HLL.out]; exact hkm)
      rw [geti_natI] at c1 c2
      have hkL : k < L.length := by rw [HLLn.out]; exact hkm
      have hlk : k < (lftF m gs).length := by rw [HLL.out]; exact hkm
      have e1 : getn (ordF m gs) k = L[k].1 := by rw [HO.out, getn_eq (by simp; exact hkL)]; simp
      have e2 : getn (lftF m gs) k = L[k].2 := by rw [HLF.out, getn_eq (by simp; exact hkL)]; simp
      have hmem := HLM.out L[k] (List.getElem_mem hkL)
      have hv : L[k].1 < m := by
        have := hmem.2.1
        unfold sHas at this; rw [all_bit] at this; simpa using this
      have hf := hmem.2.2
      have htk : L.take (k + 1) = L.take k ++ [(L[k].1, L[k].2)] := by rw [List.take_succ_eq_append_getElem hkL]
      have HTK := Lib.hid htk
      rw [e1] at c1
      rw [e2] at c2
      clear e1 e2 hmem htk hc1 hc2
      generalize L[k].1 = v at *
      generalize L[k].2 = f at *
      have c3 : wr.cell? ⟨w3.heap.size, v, none⟩ = some (.int .i64 (getn cs v)) := by
        have hvc : v < cs.length := by rw [HCS.out]; exact hv
        rw [hr.cell]; unfold intv; rw [List.getElem?_map, List.getElem?_eq_getElem hvc, getn_eq hvc]; rfl
      have f3 := hr.free v
      have hst : ∀ x : Nat, Row (wr.setCell ⟨w3.heap.size, v, none⟩ (.int .i64 x)) w3.heap.size 3 (intv (cs.set v x)) := fun x => by
        have := hr.set v (.int .i64 x)
        unfold intv at *
        rwa [← List.map_set] at this
      have HST := Lib.hid hst
      clear hst
      by_cases hgf : G < f
      · go_wp2
        go_roundw
        case rel => exact ⟨k + 1, f, cs.set v f, by omega, by go_num, rfl, by rw [HTK.out, coreL_snoc, HCL.out]; simp [coreS, hgf], by omega, HST.out f, hBr.setCell (p := ⟨_, _, none⟩) (Nat.le_refl _) _⟩
        case measure => simp [intOf]; omega
      · go_wp2
        go_roundw
        case rel => exact ⟨k + 1, G, cs.set v G, by omega, by go_num, rfl, by rw [HTK.out, coreL_snoc, HCL.out]; simp [coreS, hgf], by omega, HST.out G, hBr.setCell (p := ⟨_, _, none⟩) (Nat.le_refl _) _⟩
        case measure => simp [intOf]; omega
    · go_wp2
      go_ret2
      have hfin : coreF m gs = cs := by
        have h1 := HCL.out
        rw [List.take_of_length_le (by rw [HLLn.out, ← HOL.out]; omega)] at h1
        rw [HCF.out, h1]
      rw [hfin]
      exact ⟨w3.heap.size, hs3', rfl, hr, hB3.trans (hBr.mono hs3')⟩
end Go.Proofs.Ytmfpegadcecknaa
