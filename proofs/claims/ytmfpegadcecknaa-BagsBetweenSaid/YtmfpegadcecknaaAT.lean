/- The reference's own height. -/
import Derived.Test.YtmfpegadcecknaaAS
namespace Go.Proofs.Ytmfpegadcecknaa
open Go.RowKit
set_option maxHeartbeats 1000000
set_option maxRecDepth 100000
theorem maxTo_spec (xs : List Int) : ∀ n, 0 < n → (∀ i, i < n → geti xs i ≤ maxTo xs n) ∧ ∃ i, i < n ∧ geti xs i = maxTo xs n
  | 0, h => absurd h (by omega)
  | 1, _ => ⟨fun i hi => by obtain rfl : i = 0 := by omega
                            rw [maxTo_one]; exact Int.le_refl _, 0, by omega, (maxTo_one xs).symm⟩
  | n + 2, _ => by
    obtain ⟨h1, j, hj, h2⟩ := maxTo_spec xs (n + 1) (by omega)
    rw [maxTo]
    split
    · refine ⟨fun i hi => ?_, n + 1, by omega, rfl⟩
      by_cases e : i = n + 1
      · subst e; exact Int.le_refl _
      · have := h1 i (by omega); omega
    · refine ⟨fun i hi => ?_, j, by omega, h2⟩
      by_cases e : i = n + 1
      · subst e; omega
      · exact h1 i (by omega)
/-- The greatest count so far. -/
structure HtI (hs : List Int) (k G : Nat) : Prop where
  up : ∀ v, getn (cntT hs k) v ≤ G
  at_ : G = 0 ∨ ∃ v, v < 16 ∧ getn (cntT hs k) v = G
theorem getn_zer (v : Nat) : getn zer v = 0 := by unfold getn zer; rw [List.getD_eq_getElem?_getD, List.getElem?_replicate]; split <;> rfl
theorem HtI.start (hs : List Int) : HtI hs 0 0 := ⟨fun v => by show getn zer v ≤ 0; rw [getn_zer]; omega, .inl rfl⟩
theorem HtI.step {hs : List Int} {k G : Nat} (h : HtI hs k G) (hk : k < hs.length) (hx : (geti hs k).toNat < 16) : HtI hs (k + 1) (if G < getn (cntT hs k) (geti hs k).toNat + 1 then getn (cntT hs k) (geti hs k).toNat + 1 else G) := by
  have hl := cntT_len hs k
  have hs' : ∀ v, getn (cntT hs (k + 1)) v = if (geti hs k).toNat = v then getn (cntT hs k) (geti hs k).toNat + 1 else getn (cntT hs k) v := fun v => by
    rw [cntT_succ hk, getn_set (by omega)]
  refine ⟨fun v => ?_, ?_⟩
  · rw [hs']; have := h.up v; split <;> split <;> omega
  · split
    · exact .inr ⟨_, hx, by rw [hs', if_pos rfl]⟩
    · rename_i hge
      rcases h.at_ with h0 | ⟨v, hv, h1⟩
      · omega
      · refine .inr ⟨v, hv, ?_⟩
        rw [hs']
        split
        · rename_i e; subst e; omega
        · exact h1
theorem HtI.eq {hs : List Int} {k G : Nat} (h : HtI hs k G) : maxTo (natI (cntT hs k)) 16 = (G : Int) := by
  obtain ⟨h1, j, hj, h2⟩ := maxTo_spec (natI (cntT hs k)) 16 (by omega)
  rw [geti_natI] at h2
  have h3 := h.up j
  rcases h.at_ with h0 | ⟨v, hv, h4⟩
  · omega
  · have := h1 v hv; rw [geti_natI] at this; omega
theorem RefHeight_any (m : Nat) (A : Option Addr) (c : Nat) (hs : List Int) (w : World) (hm : m ≤ 16) (hx : hs.length ≤ 1000000) (ha : IntsAt w A hs) (hh : ∀ i, i < hs.length → 0 ≤ geti hs i ∧ geti hs i < m) :
    Calls Try.prog 29 #[.int .i64 m, .slice A hs.length c] w fun e w' => e = .returned (.int .i64 (maxTo (natI (cntT hs hs.length)) 16)) ∧ Below w.heap.size w w' := by
  obtain ⟨i0, hi, hz0, hz1, hz2⟩ := info_parts info3
  have HH := Lib.hid hh
  clear hh
  go_enter Try.func29, Try.ntmps29
  go_wp2_with (first
    | (at_make; refine wpList_make_full _ rfl _ _ 24 rfl w.heap.size 3 i0 (.int .i64 0) 1 Try.underlying24 hi hz0 hz1 .i64 .i64 _ _ m rfl rfl rfl rfl (by rw [hz2]; omega) (by unfold maxLen; omega) (Nat.le_refl _) ?_; intro w4 o3 hg4; have r4 := own_made o3; have hb4 : Below w.heap.size w w4 := (Below.refl _ _).grown hg4 (Nat.le_refl _) (by simp); clear o3 hg4))
  go_loopw [6, 7] (fun g i wr => ∃ (k G : Nat) (cs : List Nat), k ≤ hs.length ∧ i = .int .i64 k ∧ g = .int .i64 G ∧ HtI hs k G ∧ (cs.length = m ∧ ∀ v, v < m → getn cs v = getn (cntT hs k) v) ∧ Row wr w.heap.size 3 (intv cs) ∧ Below w.heap.size w wr) (fun _ i _ => hs.length - (intOf i).toNat)
  case atStart => exact ⟨0, 0, List.replicate m 0, by omega, rfl, rfl, HtI.start hs, ⟨by simp, fun v hv => by show _ = getn zer v; rw [getn_zer]; unfold getn; rw [List.getD_eq_getElem?_getD, List.getElem?_replicate]; split <;> rfl⟩, r4, hb4⟩
  case round =>
    obtain ⟨k, G, cs, hk, rfl, rfl, hI, ⟨hcl, hcv⟩, hr, hb⟩ := hrel
    have HI := Lib.hid hI
    have HCL := Lib.hid hcl
    have HCV := Lib.hid hcv
    clear hI hcl hcv
    by_cases hlt : k < hs.length
    · obtain ⟨b, o, rfl, hb1, hc⟩ := (ha.below hb) (by omega)
      have c0 := hc k hlt
      obtain ⟨e1, e2⟩ := HH.out k hlt
      have HS := Lib.hid (HI.out.step hlt (by omega))
      have hcnt := cntT_le hs (geti hs k).toNat k
      have HCT := Lib.hid (cntT_succ hlt)
      generalize hX : geti hs k = x at *
      have HX := Lib.hid hX
      clear hc hX
      obtain ⟨v, rfl⟩ : ∃ v : Nat, x = v := ⟨x.toNat, by omega⟩
      have hv : v < m := by omega
      have ev := HCV.out v hv
      have c4 : wr.cell? ⟨w.heap.size, v, none⟩ = some (.int .i64 (getn cs v)) := intv_row hr (by rw [HCL.out]; exact hv)
      have f4 := hr.free v
      have hup := HI.out.up v
      have hst : Row (wr.setCell ⟨w.heap.size, v, none⟩ (.int .i64 ((getn cs v + 1 : Nat) : Int))) w.heap.size 3 (intv (cs.set v (getn cs v + 1))) := by
        have := hr.set v (.int .i64 ((getn cs v + 1 : Nat) : Int))
        rwa [intv_set] at this
      have HST := Lib.hid hst
      simp only [Int.toNat_natCast] at hcnt
      have hcb : getn cs v ≤ 1000000 := by omega
      have HEV := Lib.hid ev
      clear hst ev hcnt hup
      have hnew : ∀ u, u < m → getn (cs.set v (getn cs v + 1)) u = getn (cntT hs (k + 1)) u := fun u hu => by
        rw [getn_set (by rw [HCL.out]; exact hv), HCT.out, getn_set (by rw [cntT_len]; simp; omega)]
        simp only [Int.toNat_natCast]
        split
        · rw [HEV.out]
        · exact HCV.out u hu
      have HN := Lib.hid hnew
      clear hnew
      by_cases hgf : G < getn cs v + 1
      · go_wp2
        go_roundw
        case rel => exact ⟨k + 1, getn cs v + 1, cs.set v (getn cs v + 1), by omega, by go_num, by go_num, by have := HS.out; simp only [Int.toNat_natCast, ← HEV.out] at this; rw [if_pos hgf] at this; exact this, ⟨by simp [HCL.out], HN.out⟩, HST.out, hb.setCell (p := ⟨_, _, none⟩) (Nat.le_refl _) _⟩
        case measure => simp [intOf]; omega
      · go_wp2
        go_roundw
        case rel => exact ⟨k + 1, G, cs.set v (getn cs v + 1), by omega, by go_num, rfl, by have := HS.out; simp only [Int.toNat_natCast, ← HEV.out] at this; rw [if_neg hgf] at this; exact this, ⟨by simp [HCL.out], HN.out⟩, HST.out, hb.setCell (p := ⟨_, _, none⟩) (Nat.le_refl _) _⟩
        case measure => simp [intOf]; omega
    · obtain rfl : k = hs.length := by omega
      go_wp2
      go_ret
      exact ⟨ret_int HI.out.eq.symm, hb⟩
end Go.Proofs.Ytmfpegadcecknaa
