/- The law's total: the sum of a part. -/
import Derived.Test.YtokjdadgdfmffaaNB
import Derived.Test.YtokjdadgdfmffaaMH
namespace Go.Proofs.Ytokjdadgdfmffaa
open Go.RowKit Ols
set_option maxHeartbeats 2000000
set_option maxRecDepth 100000
/-- So many numbers of a function. -/
def fL (N : Nat) (F : Nat → Int) : List Int := (List.range N).map F
theorem fL_len (N : Nat) (F : Nat → Int) : (fL N F).length = N := by simp [fL]
theorem fL_at {N : Nat} {F : Nat → Int} {j : Nat} (h : j < N) : geti (fL N F) j = F j := by
  rw [geti_eq (by rw [fL_len]; exact h)]; simp [fL]
theorem fL_set {N : Nat} {F G : Nat → Int} {k : Nat} {v : Int} (hk : v = G k) (h : ∀ j, j ≠ k → G j = F j) : (fL N F).set k v = fL N G := by
  apply List.ext_getElem (by simp [fL])
  intro i h1 h2
  rw [List.getElem_set]
  by_cases e : k = i
  · subst e; rw [if_pos rfl, hk]; simp [fL]
  · rw [if_neg e]; simp [fL]; exact (h i (fun e2 => e e2.symm)).symm
theorem fL_congr {N : Nat} {F G : Nat → Int} (h : ∀ j, j < N → F j = G j) : fL N F = fL N G := List.map_congr_left fun j hj => h j (List.mem_range.1 hj)
/-- The sum of the numbers at a place, reduced. -/
def tF (g : List Int) (L : List (List Int)) (T : List Nat) (j : Nat) : Int := sF (fun x => geti (getl L x) j) T % geti g j
theorem tF_snoc (g : List Int) (L : List (List Int)) (T : List Nat) (x j : Nat) : tF g L (T ++ [x]) j = (tF g L T j + geti (getl L x) j) % geti g j := by
  unfold tF
  rw [sF_app, Int.emod_add_emod]
  show (_ + (geti (getl L x) j + 0)) % _ = _
  rw [Int.add_zero]
theorem total_any (Ag Al Ap : Option Addr) (cg cl cp N : Nat) (g : List Int) (L : List (List Int)) (Z : List Nat) (w : World) (hgl : g.length = N) (hN : N ≤ 2) (hg : ∀ j, j < N → 2 ≤ geti g j ∧ geti g j ≤ 24)
    (hLl : L.length ≤ 1000) (hL : ∀ x, x < L.length → (getl L x).length = N ∧ ∀ j, j < N → 0 ≤ geti (getl L x) j ∧ geti (getl L x) j ≤ 24)
    (hZl : Z.length ≤ 1000) (hZ : Z.Pairwise (· < ·)) (hZr : ∀ x ∈ Z, x < L.length) (ha : IntsAt w Ag g) (hb : RowsAt w Al L) (hp : IntsAt w Ap (Z.map fun x : Nat => (x : Int))) :
    Calls Try.prog 41 #[.slice Ag N cg, .slice Al L.length cl, .slice Ap Z.length cp] w fun e w' => ∃ gO, e = .returned (.tuple #[.slice (some ⟨gO, 0, none⟩) N N, .bool true]) ∧ w.heap.size ≤ gO ∧ Row w' gO 3 (iv (fL N (tF g L Z))) ∧ Below w.heap.size w w' := by
  have hmk := make_intI N (by omega)
  have HGL := Lib.hid hgl
  have HG := Lib.hid hg
  have HL := Lib.hid hL
  have HZ := Lib.hid hZ
  have HZR := Lib.hid hZr
  have HA := Lib.hid ha
  have HB := Lib.hid hb
  have HP := Lib.hid hp
  have hr0 : iv (List.replicate N 0) = iv (fL N (tF g L (Z.take 0))) := by
    congr 1
    apply List.ext_getElem (by simp [fL])
    intro i h1 h2
    simp [fL, tF, sF]
  have HR0 := Lib.hid hr0
  clear hgl hg hL hZ hZr ha hb hp hr0
  go_enter Try.func41, Try.ntmps41
  go_wp2
  have q0 : Row (w.alloc (.cells (iv (List.replicate N 0)).toArray 3)) w.heap.size 3 (iv (fL N (tF g L (Z.take 0)))) := by
    rw [← HR0.out]; exact row_new rfl
  have b0 : Below w.heap.size w (w.alloc (.cells (iv (List.replicate N 0)).toArray 3)) := (Below.refl _ w).alloc (Nat.le_refl _) _
  generalize World.alloc w _ = w1 at *
  obtain ⟨G, hG⟩ : ∃ G, G = w.heap.size := ⟨_, rfl⟩
  rw [← hG] at q0 ⊢
  have HGG := Lib.hid hG
  clear hG hmk
  go_loopw [9] (fun i wr => ∃ k : Nat, k ≤ Z.length ∧ i = .int .i64 k ∧ Row wr G 3 (iv (fL N (tF g L (Z.take k)))) ∧ Below w.heap.size w wr) (fun i _ => Z.length - (intOf i).toNat)
  case atStart => exact ⟨0, by omega, rfl, q0, b0⟩
  case round =>
    clear q0 b0
    obtain ⟨k, hk, rfl, q0, b0⟩ := hrel
    by_cases hlt : k < Z.length
    · have g1 : decide ((k : Int) < (Z.length : Int)) = true := decide_eq_true (by omega)
      have g1n : decide (k < Z.length) = true := decide_eq_true hlt
      obtain ⟨bp, op, hPe, hbp, hcp⟩ := HP.out (by rw [List.length_map]; omega)
      rw [List.length_map] at hcp
      have hge : ∀ i (h : i < Z.length), geti (Z.map fun x : Nat => (x : Int)) i = (Z[i] : Int) := fun i h => by
        rw [geti_eq (by rw [List.length_map]; exact h), List.getElem_map]
      have cpw := hcp k hlt
      rw [hge k hlt] at cpw
      have hxr := HZR.out _ (List.getElem_mem hlt)
      have HTK := Lib.hid (show Z.take (k + 1) = Z.take k ++ [Z[k]] from List.take_succ_eq_append_getElem hlt)
      obtain ⟨hrl, hrv⟩ := HL.out _ hxr
      obtain ⟨bl, ol, hLe, hbl, hcl⟩ := HB.out (by omega)
      obtain ⟨Br, cr, clw, ir⟩ := hcl _ hxr
      have hprev : 0 < k → ∃ y : Nat, wr.cell? ⟨bp, op + (k - 1), none⟩ = some (.int .i64 y) ∧ y < Z[k] := fun h0 => by
        refine ⟨Z[k - 1], ?_, List.pairwise_iff_getElem.1 HZ.out (k - 1) k (by omega) hlt (by omega)⟩
        have := cell_up b0 hbp (hcp (k - 1) (by omega))
        rwa [hge (k - 1) (by omega)] at this
      have HST := Lib.hid (fun j => tF_snoc g L (Z.take k) Z[k] j)
      rw [hrl] at clw
      generalize Z[k] = x at *
      have HIR := Lib.hid (show IntsAt w Br (getl L x) from ir)
      have HRL := Lib.hid hrl
      have HRV := Lib.hid hrv
      subst hPe hLe
      have gx0 : decide ((x : Int) < 0) = false := decide_eq_false (by omega)
      have gx1 : decide ((L.length : Int) ≤ (x : Int)) = false := decide_eq_false (by omega)
      have gx2 : decide (L.length ≤ x) = false := decide_eq_false (by omega)
      have cp0 := cell_up b0 hbp cpw
      have CP := Lib.hid cpw
      have CL := Lib.hid clw
      clear hcp hge hcl ir hrl hrv cpw clw
      rcases Nat.eq_zero_or_pos k with hk0 | hk0
      · have gk : decide ((0 : Int) < (k : Int)) = false := decide_eq_false (by omega)
        have gkn : decide (0 < k) = false := decide_eq_false (by omega)
        have HK0 := Lib.hid hk0
        clear hk0 hprev
        go_wp2
        refine wp_region_quiet_lit (by kernel_rfl) (by kernel_rfl) ?_
        repeat go_big_quiet_step ((fail))
        refine wpQuiet_nil ?_
        rintro _ ⟨nq, rfl⟩
        have q1 := q0.drewN nq
        have b1 := b0.trans (below_drewN nq)
        clear q0 b0 cp0
        generalize wr.drewN nq = W at *
        go_wp2
        go_loopw [10] (fun i wr => ∃ j : Nat, j ≤ N ∧ i = .int .i64 j ∧ Row wr G 3 (iv (fL N (fun t => if t < j then tF g L (Z.take (k + 1)) t else tF g L (Z.take k) t))) ∧ Below w.heap.size w wr) (fun i _ => N - (intOf i).toNat)
        case atStart => exact ⟨0, by omega, rfl, by rw [fL_congr (G := tF g L (Z.take k)) (fun t _ => if_neg (Nat.not_lt_zero t))]; exact q1, b1⟩
        case round =>
          clear q1 b1
          obtain ⟨j, hj, rfl, q2, b2⟩ := hrel
          by_cases hjn : j < N
          · have gj : decide ((j : Int) < (N : Int)) = true := decide_eq_true (by omega)
            have gjn : decide (j < N) = true := decide_eq_true hjn
            have c1 := ivC q2 (i := j) (by rw [fL_len]; exact hjn)
            rw [fL_at hjn, if_neg (Nat.lt_irrefl j)] at c1
            have c2 := cell_up b2 hbp CP.out
            have c3 := cell_up b2 hbl CL.out
            obtain ⟨br, orr, hBe, hbr, hcr⟩ := HIR.out (by rw [HRL.out]; omega)
            subst hBe
            have c4 := cell_up b2 hbr (hcr j (by rw [HRL.out]; exact hjn))
            obtain ⟨bg, og, hAe, hbg, hcg⟩ := HA.out (by rw [HGL.out]; omega)
            subst hAe
            have c5 := cell_up b2 hbg (hcg j (by rw [HGL.out]; exact hjn))
            obtain ⟨v1, v2⟩ := HRV.out j hjn
            obtain ⟨y1, y2⟩ := HG.out j hjn
            have HS1 := Lib.hid (HST.out j)
            have ha1 : 0 ≤ tF g L (Z.take k) j := Int.emod_nonneg _ (by omega)
            have ha2 : tF g L (Z.take k) j < geti g j := Int.emod_lt_of_pos _ (by omega)
            generalize geti (getl L x) j = v at *
            generalize hq : geti g j = q at *
            generalize hta : tF g L (Z.take k) j = ta at *
            have ht : Int.tmod (ta + v) q = (ta + v) % q := Int.tmod_eq_emod_of_nonneg (by omega)
            have gz : (q == 0) = false := by rw [beq_eq_false_iff_ne]; omega
            have HTA := Lib.hid hta
            generalize hr : (ta + v) % q = r at *
            have HR := Lib.hid hr
            have HQ := Lib.hid hq
            clear hcr hcg hr hq hta
            go_wp2
            refine wp_region_quiet_tail 23 (by kernel_rfl) (by kernel_rfl) ?_
            simp only [List.take_succ_cons, List.take_zero, List.drop_succ_cons, List.drop_zero]
            repeat go_big_quiet_step ((fail))
            refine wpQuiet_nil ?_
            rintro _ ⟨nq, rfl⟩
            have c1 := ivC (q2.drewN nq) (i := j) (by rw [fL_len]; exact hjn)
            rw [fL_at hjn, if_neg (Nat.lt_irrefl j), HTA.out] at c1
            have f1 := (q2.drewN nq).free j
            go_wp2
            go_roundw
            case rel =>
              refine ⟨j + 1, by omega, by go_num, ?_, (b2.trans (below_drewN nq)).setCell (by have := HGG.out; simp; omega) _⟩
              have h := (q2.drewN nq).set j (.int .i64 r)
              rw [iv_setL, fL_set (G := fun t => if t < j + 1 then tF g L (Z.take (k + 1)) t else tF g L (Z.take k) t) (by rw [if_pos (by omega), HTK.out, HS1.out]) (fun t ht => by
                by_cases e : t < j
                · rw [if_pos e, if_pos (by omega)]
                · rw [if_neg e, if_neg (by omega)])] at h
              exact h
            case measure => simp [intOf]; omega
          · obtain rfl : j = N := by omega
            have gj : decide ((j : Int) < (j : Int)) = false := decide_eq_false (by omega)
            go_wp2
            go_roundw
            case rel => exact ⟨k + 1, by omega, by go_num, by rw [fL_congr (G := tF g L (Z.take (k + 1))) (fun t ht => if_pos ht)] at q2; exact q2, b2⟩
            case measure => simp [intOf]; omega
      · obtain ⟨k, rfl⟩ : ∃ k', k = k' + 1 := ⟨k - 1, by omega⟩
        obtain ⟨y, cy, hyx⟩ := hprev hk0
        rw [Nat.add_sub_cancel] at cy
        have gk : decide ((0 : Int) < (k : Int) + 1) = true := decide_eq_true (by omega)
        have gy : decide ((x : Int) ≤ (y : Int)) = false := decide_eq_false (by omega)
        have gyn : decide (x ≤ y) = false := decide_eq_false (by omega)
        clear hk0 hprev
        go_wp2
        refine wp_region_quiet_lit (by kernel_rfl) (by kernel_rfl) ?_
        repeat go_big_quiet_step ((fail))
        refine wpQuiet_nil ?_
        rintro _ ⟨nq, rfl⟩
        have q1 := q0.drewN nq
        have b1 := b0.trans (below_drewN nq)
        clear q0 b0 cp0
        generalize wr.drewN nq = W at *
        go_wp2
        go_loopw [10] (fun i wr => ∃ j : Nat, j ≤ N ∧ i = .int .i64 j ∧ Row wr G 3 (iv (fL N (fun t => if t < j then tF g L (Z.take ((k + 1) + 1)) t else tF g L (Z.take (k + 1)) t))) ∧ Below w.heap.size w wr) (fun i _ => N - (intOf i).toNat)
        case atStart => exact ⟨0, by omega, rfl, by rw [fL_congr (G := tF g L (Z.take (k + 1))) (fun t _ => if_neg (Nat.not_lt_zero t))]; exact q1, b1⟩
        case round =>
          clear q1 b1
          obtain ⟨j, hj, rfl, q2, b2⟩ := hrel
          by_cases hjn : j < N
          · have gj : decide ((j : Int) < (N : Int)) = true := decide_eq_true (by omega)
            have gjn : decide (j < N) = true := decide_eq_true hjn
            have c1 := ivC q2 (i := j) (by rw [fL_len]; exact hjn)
            rw [fL_at hjn, if_neg (Nat.lt_irrefl j)] at c1
            have c2 := cell_up b2 hbp CP.out
            have c3 := cell_up b2 hbl CL.out
            obtain ⟨br, orr, hBe, hbr, hcr⟩ := HIR.out (by rw [HRL.out]; omega)
            subst hBe
            have c4 := cell_up b2 hbr (hcr j (by rw [HRL.out]; exact hjn))
            obtain ⟨bg, og, hAe, hbg, hcg⟩ := HA.out (by rw [HGL.out]; omega)
            subst hAe
            have c5 := cell_up b2 hbg (hcg j (by rw [HGL.out]; exact hjn))
            obtain ⟨v1, v2⟩ := HRV.out j hjn
            obtain ⟨y1, y2⟩ := HG.out j hjn
            have HS1 := Lib.hid (HST.out j)
            have ha1 : 0 ≤ tF g L (Z.take (k + 1)) j := Int.emod_nonneg _ (by omega)
            have ha2 : tF g L (Z.take (k + 1)) j < geti g j := Int.emod_lt_of_pos _ (by omega)
            generalize geti (getl L x) j = v at *
            generalize hq : geti g j = q at *
            generalize hta : tF g L (Z.take (k + 1)) j = ta at *
            have ht : Int.tmod (ta + v) q = (ta + v) % q := Int.tmod_eq_emod_of_nonneg (by omega)
            have gz : (q == 0) = false := by rw [beq_eq_false_iff_ne]; omega
            have HTA := Lib.hid hta
            generalize hr : (ta + v) % q = r at *
            have HR := Lib.hid hr
            have HQ := Lib.hid hq
            clear hcr hcg hr hq hta
            go_wp2
            refine wp_region_quiet_tail 23 (by kernel_rfl) (by kernel_rfl) ?_
            simp only [List.take_succ_cons, List.take_zero, List.drop_succ_cons, List.drop_zero]
            repeat go_big_quiet_step ((fail))
            refine wpQuiet_nil ?_
            rintro _ ⟨nq, rfl⟩
            have c1 := ivC (q2.drewN nq) (i := j) (by rw [fL_len]; exact hjn)
            rw [fL_at hjn, if_neg (Nat.lt_irrefl j), HTA.out] at c1
            have f1 := (q2.drewN nq).free j
            go_wp2
            go_roundw
            case rel =>
              refine ⟨j + 1, by omega, by go_num, ?_, (b2.trans (below_drewN nq)).setCell (by have := HGG.out; simp; omega) _⟩
              have h := (q2.drewN nq).set j (.int .i64 r)
              rw [iv_setL, fL_set (G := fun t => if t < j + 1 then tF g L (Z.take ((k + 1) + 1)) t else tF g L (Z.take (k + 1)) t) (by rw [if_pos (by omega), HTK.out, HS1.out]) (fun t ht => by
                by_cases e : t < j
                · rw [if_pos e, if_pos (by omega)]
                · rw [if_neg e, if_neg (by omega)])] at h
              exact h
            case measure => simp [intOf]; omega
          · obtain rfl : j = N := by omega
            have gj : decide ((j : Int) < (j : Int)) = false := decide_eq_false (by omega)
            go_wp2
            go_roundw
            case rel => exact ⟨(k + 1) + 1, by omega, by go_num, by rw [fL_congr (G := tF g L (Z.take ((k + 1) + 1))) (fun t ht => if_pos ht)] at q2; exact q2, b2⟩
            case measure => simp [intOf]; omega
    · obtain rfl : k = Z.length := by omega
      have g1 : decide ((Z.length : Int) < (Z.length : Int)) = false := decide_eq_false (by omega)
      rw [List.take_length] at q0
      go_wp2
      exact bodyPost_ret (v := .tuple #[.slice (some ⟨G, 0, none⟩) N N, .bool true]) (by simp [results, Try.results41]) rfl ⟨G, rfl, by rw [HGG.out]; exact Nat.le_refl _, q0, b0⟩
end Go.Proofs.Ytokjdadgdfmffaa
