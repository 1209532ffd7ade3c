/- The reference's fair cuts of a ring. -/
import Derived.Test.YtopeppnajbnfgaaJP
import Derived.Deep.RegionHeldLaw
namespace Go.Proofs.Ytopeppnajbnfgaa
open Go.RowKit
set_option maxHeartbeats 1000000
set_option maxRecDepth 100000
/-- The cuts of a ring that begins at its first one. -/
def movL (x : List Int) : List Int := x.tail.map fun y => y - geti x 0
theorem movL_len (x : List Int) : (movL x).length = x.length - 1 := by simp [movL]
theorem movL_at {x : List Int} {i : Nat} (h : i + 1 < x.length) : geti (movL x) i = geti x (i + 1) - geti x 0 := by
  rw [geti_eq (by rw [movL_len]; omega), geti_eq h]
  unfold movL
  rw [List.getElem_map, List.getElem_tail]
theorem mov_cut {n : Nat} {x : List Int} (h : cutV 0 n x = true) : cutV 1 n (movL x) = true := by
  have hin := cutV_in (first := 0) (by omega) h
  have hh := of_decide_eq_true h
  refine decide_eq_true fun i hi => ?_
  rw [movL_len] at hi
  have h1 := hh (i + 1) (by omega)
  unfold okCut fromC at h1 ⊢
  rw [if_neg (by omega), Nat.add_sub_cancel] at h1
  rw [movL_at (i := i) (by omega)]
  have h0 := hin 0 (by omega)
  rcases i with _ | i
  · rw [if_pos rfl]; omega
  · rw [if_neg (by omega), Nat.add_sub_cancel, movL_at (i := i) (by omega)]; omega
theorem mov_cnt {s u : ByteArray} {x : List Int} (hs : s.size ≤ 24) (h0 : 0 < x.length) (hcut : cutV 0 s.size x = true) (hr : Rot s u (geti x 0).toNat) (he : x.length % 2 = 0) {c : Nat} (hc : c < 4) :
    geti (apL s x) c + geti (apL u (movL x)) c = cnt s s.size c := by
  have hin := cutV_in (first := 0) (by omega) hcut
  have hz := hr.size
  have hInS : InC s x := cutV_inC (first := 0) (by omega) hcut
  have hInU : InC u (movL x) := cutV_inC (first := 1) (by omega) (by rw [hz]; exact mov_cut hcut)
  have hxl := cutV_len (first := 0) (by omega) hcut
  have hmu : ∀ i, i + 1 < x.length → cnt u (geti (movL x) i).toNat c = cnt s (geti x (i + 1)).toNat c - cnt s (geti x 0).toNat c := fun i hi => by
    have a1 := hin (i + 1) hi
    have a0 := hin 0 (by omega)
    have hh := of_decide_eq_true hcut
    rw [movL_at hi]
    have hle : (geti x 0).toNat ≤ (geti x (i + 1)).toNat := by
      have hmono : ∀ j, j < x.length → geti x 0 ≤ geti x j := fun j => by
        induction j with
        | zero => intro _; omega
        | succ j ih =>
          intro hj
          have := hh (j + 1) hj
          unfold okCut fromC at this
          rw [if_neg (by omega), Nat.add_sub_cancel] at this
          have := ih (by omega)
          omega
      have := hmono (i + 1) hi
      omega
    rw [show (geti x (i + 1) - geti x 0).toNat = (geti x (i + 1)).toNat - (geti x 0).toNat by omega, (hr.at).1 _ hle (by omega)]
  have hlS : ∀ k, 2 * k ≤ x.length → (apP s x (List.range k)).length = 4 := fun k hk => (apP_sm hs hInS (fun j hj => by have := List.mem_range.1 hj; omega) (by rw [List.length_range]; omega)).1
  have hlU : ∀ k, 2 * k ≤ (movL x).length + 1 → (apP u (movL x) (List.range k)).length = 4 := fun k hk => (apP_sm (by omega) hInU (fun j hj => by have := List.mem_range.1 hj; omega) (by rw [List.length_range]; rw [movL_len] at hk; omega)).1
  have step : ∀ k, 2 * k < x.length → geti (apP s x (List.range k)) c + geti (apP u (movL x) (List.range k)) c = cnt s (geti x (2 * k)).toNat c - cnt s (geti x 0).toNat c := fun k => by
    induction k with
    | zero =>
      intro _
      have : geti Z4I c = 0 := zat hc
      show geti Z4I c + geti Z4I c = _
      rw [this, Nat.mul_zero]; omega
    | succ k ih =>
      intro hk
      have ih := ih (by omega)
      rw [List.range_succ, (apP_at (hlS k (by omega)) hc).2, (apP_at (hlU k (by rw [movL_len]; omega)) hc).2]
      have e1 : eP s x k = (geti x (2 * k + 1)).toNat := by unfold eP; rw [if_pos (by omega)]
      have e2 : bP x k = (geti x (2 * k)).toNat := rfl
      have e3 : eP u (movL x) k = (geti (movL x) (2 * k + 1)).toNat := by unfold eP; rw [if_pos (by rw [movL_len]; omega)]
      have e4 : bP (movL x) k = (geti (movL x) (2 * k)).toNat := rfl
      rw [e1, e2, e3, e4, hmu (2 * k + 1) (by omega), hmu (2 * k) (by omega), show 2 * k + 1 + 1 = 2 * (k + 1) by omega]
      omega
  obtain ⟨j, hj⟩ : ∃ j, x.length = 2 * (j + 1) := ⟨x.length / 2 - 1, by omega⟩
  have st := step j (by omega)
  unfold apL
  rw [movL_len, hj, show (2 * (j + 1) + 1) / 2 = j + 1 by omega, show (2 * (j + 1) - 1 + 1) / 2 = j + 1 by omega, List.range_succ,
    (apP_at (hlS j (by omega)) hc).2, (apP_at (hlU j (by rw [movL_len]; omega)) hc).2]
  have e1 : eP s x j = (geti x (2 * j + 1)).toNat := by unfold eP; rw [if_pos (by omega)]
  have e2 : bP x j = (geti x (2 * j)).toNat := rfl
  have e3 : eP u (movL x) j = u.size := by unfold eP; rw [if_neg (by rw [movL_len]; omega)]
  have e4 : bP (movL x) j = (geti (movL x) (2 * j)).toNat := rfl
  rw [e1, e2, e3, e4, hmu (2 * j) (by omega), hr.all]
  omega
/-- A ring is fair as its chain from the first cut on is. -/
theorem ring_ref {s u : ByteArray} {x : List Int} (hs : s.size ≤ 24) (hev : evV s = true) (h0 : 0 < x.length) (hcut : cutV 0 s.size x = true) (hr : Rot s u (geti x 0).toNat) (he : x.length % 2 = 0) : refFair u (movL x) = fairV s x := by
  have hz := hr.size
  rw [← fair_ref (by omega) (hr.ev hev) (by rw [hz]; exact mov_cut hcut)]
  have hInS : InC s x := cutV_inC (first := 0) (by omega) hcut
  have hInU : InC u (movL x) := cutV_inC (first := 1) (by omega) (by rw [hz]; exact mov_cut hcut)
  have hxl := cutV_len (first := 0) (by omega) hcut
  have hl1 : (apL s x).length = 4 := (apP_sm hs hInS (fun j hj => by have := List.mem_range.1 hj; omega) (by rw [List.length_range]; omega)).1
  have hl2 : (apL u (movL x)).length = 4 := (apP_sm (by omega) hInU (fun j hj => by have := List.mem_range.1 hj; omega) (by rw [List.length_range, movL_len]; omega)).1
  have hevc := (evV_iff s).1 hev
  unfold fairV
  apply decide_eq_decide.2
  constructor
  · intro h
    refine ext_geti (by rw [hl1]; rfl) fun c hc => ?_
    have hc4 : c < 4 := by rw [hl1] at hc; exact hc
    have h1 : geti (apL u (movL x)) c = geti (halfL (sumL u u.size)) c := by rw [h]
    rw [halfS_at u _ hc4, hr.all] at h1
    have h2 := mov_cnt hs h0 hcut hr he hc4
    have h3 := hevc c hc4
    rw [halfS_at s _ hc4]; omega
  · intro h
    refine ext_geti (by rw [hl2]; rfl) fun c hc => ?_
    have hc4 : c < 4 := by rw [hl2] at hc; exact hc
    have h1 : geti (apL s x) c = geti (halfL (sumL s s.size)) c := by rw [h]
    rw [halfS_at s _ hc4] at h1
    have h2 := mov_cnt hs h0 hcut hr he hc4
    have h3 := hevc c hc4
    rw [halfS_at u _ hc4, hr.all]; omega
/-- No cut is fair just of an empty ring. -/
theorem ring_none {s : ByteArray} (ho : ∀ i, i < s.size → okC s i) (hev : evV s = true) : fairV s [] = decide (s.size = 0) := by
  have hsum := cnt_all ho s.size (Nat.le_refl _)
  have hevc := (evV_iff s).1 hev
  rw [Bool.eq_iff_iff, decide_eq_true_iff, fair_pad (m := 0) (x := []) (a := s.size) (b := s.size) (d := s.size) (e := s.size) (by omega) ⟨by omega, by omega, by omega, by omega, rfl, fun _ => rfl, fun _ => rfl, fun _ => rfl, fun _ => rfl⟩]
  have e0 := hevc 0 (by omega); have e1 := hevc 1 (by omega); have e2 := hevc 2 (by omega); have e3 := hevc 3 (by omega)
  have p0 := (cnt_rng s 0 s.size).1; have p1 := (cnt_rng s 1 s.size).1; have p2 := (cnt_rng s 2 s.size).1; have p3 := (cnt_rng s 3 s.size).1
  constructor
  · intro h
    have h0 := h 0 (by omega); have h1 := h 1 (by omega); have h2 := h 2 (by omega); have h3 := h 3 (by omega)
    omega
  · intro h c hc
    have hz : cnt s s.size c = 0 := by rw [h]; rfl
    omega
end Go.Proofs.Ytopeppnajbnfgaa
