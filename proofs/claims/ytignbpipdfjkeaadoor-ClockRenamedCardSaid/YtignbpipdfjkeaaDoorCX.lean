/- withName walked. -/
import Derived.Test.YtignbpipdfjkeaaDoorCW
import Derived.Test.YtignbpipdfjkeaaDoorAU
import Derived.Test.YtignbpipdfjkeaaDoorBF
import Derived.PlainAid
import Derived.Deep.RegionHeldLaw
import Derived.Stop.Joined
import Derived.Deep.Matrix
import Derived.Deep.MidRow
namespace Go.Proofs.YtignbpipdfjkeaaDoor
open Go.RowKit Go.PlainAid
set_option maxHeartbeats 4000000
set_option maxRecDepth 100000
def nv (xs : List Nat) : List Value := xs.map fun x : Nat => .int .i64 x
/-- A renaming as its cells. -/
def rnc (r : Rn) : List Value := .int .u16 r.dom :: .int .u16 r.tak :: nv r.nm
theorem rnc_len {r : Rn} (h : r.nm.length = 9) : (rnc r).length = 11 := by unfold rnc nv; simp [h]
theorem info114 {r : Rn} (h : r.nm.length = 9) : (Tryd.prog.info? 114).map (·.size) = some (rnc r).toArray.size := by
  rw [List.size_toArray, rnc_len h]; kernel_rfl
theorem info114l {r : Rn} (h : r.nm.length = 9) : (Tryd.prog.info? 114).map (·.size) = some (rnc r).length := by
  rw [rnc_len h]; kernel_rfl
theorem rnc_all (r : Rn) : (rnc r).toArray.all (·.oneCell') = true := by
  rw [List.all_toArray, List.all_eq_true]
  intro v hv
  unfold rnc nv at hv
  rcases List.mem_cons.1 hv with rfl | hv
  · rfl
  · rcases List.mem_cons.1 hv with rfl | hv
    · rfl
    · obtain ⟨x, -, rfl⟩ := List.mem_map.1 hv; rfl
theorem rnc_two (r : Rn) {q : Nat} (h : q < r.nm.length) : (rnc r)[2 + q]? = some (.int .i64 (nmR r q)) := by
  unfold rnc nv nmR
  rw [show 2 + q = q + 1 + 1 by omega, List.getElem?_cons_succ, List.getElem?_cons_succ, List.getElem?_map, List.getElem?_eq_getElem h, List.getD_eq_getElem?_getD, List.getElem?_eq_getElem h]; rfl
theorem rnc_add (r : Rn) (s m : Nat) : (((rnc r).set 0 (.int .u16 (sWith r.dom s))).set 1 (.int .u16 (sWith r.tak m))).set (2 + s) (.int .i64 m) = rnc (addR r s m) := by
  unfold rnc addR nv
  rw [List.set_cons_zero, show (1 : Nat) = 0 + 1 from rfl, List.set_cons_succ, List.set_cons_zero, show 2 + s = (s + 1) + 1 by omega, List.set_cons_succ, List.set_cons_succ, List.map_set]
theorem z11 : rnc zeroR = [.int .u16 0, .int .u16 0, .int .i64 0, .int .i64 0, .int .i64 0, .int .i64 0, .int .i64 0, .int .i64 0, .int .i64 0, .int .i64 0, .int .i64 0] := rfl
theorem z11_size {r : Rn} (h : r.nm.length = 9) : (#[.int .u16 0, .int .u16 0, .int .i64 0, .int .i64 0, .int .i64 0, .int .i64 0, .int .i64 0, .int .i64 0, .int .i64 0, .int .i64 0, .int .i64 0] : Array Value).size = (rnc r).toArray.size := by rw [List.size_toArray, List.size_toArray, rnc_len h]; rfl
theorem cell114_res {W : World} {k : Nat} {r : Rn} (h : r.nm.length = 9) (hr : Row W k 114 (rnc r)) : (loadVar 114 ⟨k, 0, none⟩).run Tryd.prog W = .ok (.agg (rnc r).toArray) W :=
  run_loadVar_row (P := Tryd.prog) W k 114 114 (rnc r).toArray (0, 0) _ hr Tryd.underlying114 rfl (info114 h)
/-- What withName returns. -/
def WnR (w : World) (R : Option Rn) (e : Ending) (w' : World) : Prop := ∃ r1 : Rn, r1.nm.length = 9 ∧ e = .returned (.tuple #[.agg (rnc r1).toArray, .bool R.isSome]) ∧ (∀ r2, R = some r2 → r1 = r2) ∧ Below w.heap.size w w'
theorem wn_any (L O : List (List Int)) (k n : Nat) (hL : IsMI L) (hO : IsMI O) (hk : L.length = k) (hk' : O.length = k) (hn : nS L = n) (hn' : nS O = n) : ∀ (f : Nat) (r : Rn) (s m : Nat) (w : World), GoodR n r → s < n → m < n → unn n r < f →
    Calls Tryd.prog 79 #[.agg (iv (mc L)).toArray, .agg (iv (mc O)).toArray, .agg (rnc r).toArray, .int .i64 s, .int .i64 m] w (WnR w (wn (tabN L) (tabN O) k f r s m))
  | 0, _, _, _, _, _, _, _, h => by omega
  | f + 1, r, s, m, w, hG, hs, hm, hu => by
    have hn9 : n ≤ 9 := by have := hL.n9; omega
    have ih := Lib.hid (wn_any L O k n hL hO hk hk' hn hn' f)
    have hi1 := info76_iv (x := mc L) (mcP_len L 36)
    have hi2 := info76_iv (x := mc O) (mcP_len O 36)
    have hl9 := hG.len
    have hd := Nat.lt_of_lt_of_le hG.dn (Nat.pow_le_pow_right (show 0 < 2 by decide) hn9)
    have htk := Nat.lt_of_lt_of_le hG.tn (Nat.pow_le_pow_right (show 0 < 2 by decide) hn9)
    have HH1 := Lib.hid (fun V => has_any r.dom s V (by omega) (by omega))
    have HH2 := Lib.hid (fun V => has_any r.tak m V (by omega) (by omega))
    have r5 : Row ((((w.alloc (.cells (iv (mc L)).toArray 76)).alloc (.cells (iv (mc O)).toArray 76)).alloc (.cells (rnc r).toArray 114)).alloc (.cells #[.int .u16 0, .int .u16 0, .int .i64 0, .int .i64 0, .int .i64 0, .int .i64 0, .int .i64 0, .int .i64 0, .int .i64 0, .int .i64 0, .int .i64 0] 114)) w.heap.size 76 (iv (mc L)) := (((row_new rfl).alloc _).alloc _).alloc _
    have r6 : Row ((((w.alloc (.cells (iv (mc L)).toArray 76)).alloc (.cells (iv (mc O)).toArray 76)).alloc (.cells (rnc r).toArray 114)).alloc (.cells #[.int .u16 0, .int .u16 0, .int .i64 0, .int .i64 0, .int .i64 0, .int .i64 0, .int .i64 0, .int .i64 0, .int .i64 0, .int .i64 0, .int .i64 0] 114)) (w.heap.size + 1) 76 (iv (mc O)) := ((row_new (by simp)).alloc _).alloc _
    have r7 : Row ((((w.alloc (.cells (iv (mc L)).toArray 76)).alloc (.cells (iv (mc O)).toArray 76)).alloc (.cells (rnc r).toArray 114)).alloc (.cells #[.int .u16 0, .int .u16 0, .int .i64 0, .int .i64 0, .int .i64 0, .int .i64 0, .int .i64 0, .int .i64 0, .int .i64 0, .int .i64 0, .int .i64 0] 114)) (w.heap.size + 1 + 1) 114 (rnc r) := (row_new (by simp)).alloc _
    have r10 : Row ((((w.alloc (.cells (iv (mc L)).toArray 76)).alloc (.cells (iv (mc O)).toArray 76)).alloc (.cells (rnc r).toArray 114)).alloc (.cells #[.int .u16 0, .int .u16 0, .int .i64 0, .int .i64 0, .int .i64 0, .int .i64 0, .int .i64 0, .int .i64 0, .int .i64 0, .int .i64 0, .int .i64 0] 114)) (w.heap.size + 1 + 1 + 1) 114 [.int .u16 0, .int .u16 0, .int .i64 0, .int .i64 0, .int .i64 0, .int .i64 0, .int .i64 0, .int .i64 0, .int .i64 0, .int .i64 0, .int .i64 0] := row_new (by simp)
    have b0 : Below w.heap.size w ((((w.alloc (.cells (iv (mc L)).toArray 76)).alloc (.cells (iv (mc O)).toArray 76)).alloc (.cells (rnc r).toArray 114)).alloc (.cells #[.int .u16 0, .int .u16 0, .int .i64 0, .int .i64 0, .int .i64 0, .int .i64 0, .int .i64 0, .int .i64 0, .int .i64 0, .int .i64 0, .int .i64 0] 114)) := by (repeat (first | exact Below.refl _ _ | assumption | (refine Below.setCell ?_ (by first | exact Nat.le_refl _ | omega | (simp; done) | (simp; omega)) _) | (refine Below.trans ?_ (below_drewN _)) | (refine Below.drew ?_) | (refine Below.alloc ?_ (by first | exact Nat.le_refl _ | omega | (simp; done) | (simp; omega)) _) | (refine below_row ?_ (by first | exact Nat.le_refl _ | omega | (simp; done) | (simp; omega)) _)))
    have c7 : ((((w.alloc (.cells (iv (mc L)).toArray 76)).alloc (.cells (iv (mc O)).toArray 76)).alloc (.cells (rnc r).toArray 114)).alloc (.cells #[.int .u16 0, .int .u16 0, .int .i64 0, .int .i64 0, .int .i64 0, .int .i64 0, .int .i64 0, .int .i64 0, .int .i64 0, .int .i64 0, .int .i64 0] 114)).cell? ⟨w.heap.size + 1 + 1, 0, none⟩ = some (.int .u16 r.dom) := r7.cell 0
    have d7 : ((((w.alloc (.cells (iv (mc L)).toArray 76)).alloc (.cells (iv (mc O)).toArray 76)).alloc (.cells (rnc r).toArray 114)).alloc (.cells #[.int .u16 0, .int .u16 0, .int .i64 0, .int .i64 0, .int .i64 0, .int .i64 0, .int .i64 0, .int .i64 0, .int .i64 0, .int .i64 0, .int .i64 0] 114)).cell? ⟨w.heap.size + 1 + 1, 1, none⟩ = some (.int .u16 r.tak) := r7.cell 1
    go_enter Tryd.func79, Tryd.ntmps79
    cases h1 : hasR r s with
    | true =>
      have HH1' : Hid (∀ V, Calls Tryd.prog 80 #[.int .u16 r.dom, .int .i64 s] V fun e w' => e = .returned (.bool true) ∧ V = w') := Lib.hid (fun V => by have := HH1.out V; rwa [show sHas r.dom s = true from h1] at this)
      clear HH1 HH2
      have HH1 := HH1'
      clear HH1'
      obtain ⟨B, hB⟩ : ∃ B, ((nmR r s : Int) == (m : Int)) = B := ⟨_, rfl⟩
      have HWN : Hid (wn (tabN L) (tabN O) k (f + 1) r s m = if B = true then some r else none) := Lib.hid (by
        unfold wn
        rw [h1, Bool.true_or, if_pos rfl, Bool.true_and, ← hB]
        have : (nmR r s == m) = ((nmR r s : Int) == (m : Int)) := by rw [Bool.eq_iff_iff, beq_iff_eq, beq_iff_eq]; omega
        rw [this])
      go_wp2_with (go_at_call 80; (with_reducible refine (HH1.out _).mono ?_); rintro e w1 ⟨rfl, rfl⟩)
      generalize hW0 : World.alloc (World.alloc _ _) _ = W0 at *
      clear hW0
      refine wp_region_held_drew (S := fun V => Row V (w.heap.size + 1 + 1) 114 (rnc r) ∧ Below w.heap.size w V) (by kernel_rfl) ⟨r7.drew, b0.drew⟩ (fun hH => ?_)
      try simp only [Act.put]
      have r10d := r10.drew
      clear r5 r6 r7 r10 b0 c7 d7
      generalize World.drew W0 = Wd at *
      refine wpAnyH_take (i := 0) (v := .agg (rnc r).toArray) rfl (by kernel_rfl) (by kernel_rfl) (by kernel_rfl) (fun _ _ _ h => h) (yieldsIf_load_mid (by rfl) _ _ rfl _ _ rfl _ _ (fun W hW => hW.1.range) Tryd.underlying114 rfl (info114l hl9)) hH ?_
      simp only [List.getElem_toArray, List.getElem_cons_zero, Act.put, List.setIfInBounds_toArray, List.set_cons_zero, List.set_cons_succ]
      refine wpAnyH_take (i := 1) (v := .pointer (some ⟨w.heap.size + 1 + 1, 0, none⟩)) rfl (by kernel_rfl) (by kernel_rfl) (by kernel_rfl) (fun _ _ _ h => h) (Or.inl ⟨by rfl, fun V hV => ?_⟩) hH ?_
      · go_simp
      simp only [List.getElem_toArray, List.getElem_cons_zero, List.getElem_cons_succ, Act.put, List.setIfInBounds_toArray, List.set_cons_zero, List.set_cons_succ]
      refine wpAnyH_take (i := 2) (v := .int .u16 r.dom) rfl (by kernel_rfl) (by kernel_rfl) (by kernel_rfl) (fun _ _ _ h => h) (Or.inl ⟨by rfl, fun V hV => ?_⟩) hH ?_
      · have hc : V.cell? ⟨w.heap.size + 1 + 1, 0, none⟩ = some (.int .u16 r.dom) := hV.1.cell 0
        go_simp
      simp only [List.getElem_toArray, List.getElem_cons_zero, List.getElem_cons_succ, Act.put, List.setIfInBounds_toArray, List.set_cons_zero, List.set_cons_succ]
      refine wpAnyH_take (i := 3) (v := .int .i64 s) rfl (by kernel_rfl) (by kernel_rfl) (by kernel_rfl) (fun _ _ _ h => h) (Or.inl ⟨by rfl, fun V hV => ?_⟩) hH ?_
      · go_simp
      simp only [List.getElem_toArray, List.getElem_cons_zero, List.getElem_cons_succ, Act.put, List.setIfInBounds_toArray, List.set_cons_zero, List.set_cons_succ]
      refine wpAnyH_ready (rs := [4]) (by kernel_rfl) (by simp) ?_
      refine AllReadyH.cons rfl (fun K hK => ?_) AllReadyH.nil
      go_simp
      refine (HH1.out _).mono ?_
      rintro e w4 ⟨rfl, rfl⟩
      go_wp2_with fail
      refine hK.out _ _ hH (fun hH => ?_)
      clear hK K
      refine wpAnyH_take (i := 5) (v := .bool true) rfl (by kernel_rfl) (by kernel_rfl) (by kernel_rfl) (fun _ _ _ h => h) (Or.inl ⟨by rfl, fun V hV => ?_⟩) hH ?_
      · go_simp
      simp only [List.getElem_toArray, List.getElem_cons_zero, List.getElem_cons_succ, Act.put, List.setIfInBounds_toArray, List.set_cons_zero, List.set_cons_succ]
      refine wpAnyH_take (i := 6) (v := .int .i64 s) rfl (by kernel_rfl) (by kernel_rfl) (by kernel_rfl) (fun _ _ _ h => h) (Or.inl ⟨by rfl, fun V hV => ?_⟩) hH ?_
      · go_simp
      simp only [List.getElem_toArray, List.getElem_cons_zero, List.getElem_cons_succ, Act.put, List.setIfInBounds_toArray, List.set_cons_zero, List.set_cons_succ]
      refine wpAnyH_take (i := 7) (v := .pointer (some ⟨w.heap.size + 1 + 1, 2, none⟩)) rfl (by kernel_rfl) (by kernel_rfl) (by kernel_rfl) (fun _ _ _ h => h) (Or.inl ⟨by rfl, fun V hV => ?_⟩) hH ?_
      · go_simp
      simp only [List.getElem_toArray, List.getElem_cons_zero, List.getElem_cons_succ, Act.put, List.setIfInBounds_toArray, List.set_cons_zero, List.set_cons_succ]
      refine wpAnyH_take (i := 8) (v := .pointer (some ⟨w.heap.size + 1 + 1, 2 + s, none⟩)) rfl (by kernel_rfl) (by kernel_rfl) (by kernel_rfl) (fun _ _ _ h => h) (Or.inl ⟨by rfl, fun V hV => ?_⟩) hH ?_
      · have hs9 : s < 9 := by omega
        have hs9I : (s : Int) < 9 := by omega
        go_simp
      simp only [List.getElem_toArray, List.getElem_cons_zero, List.getElem_cons_succ, Act.put, List.setIfInBounds_toArray, List.set_cons_zero, List.set_cons_succ]
      refine wpAnyH_take (i := 9) (v := .int .i64 (nmR r s : Nat)) rfl (by kernel_rfl) (by kernel_rfl) (by kernel_rfl) (fun _ _ _ h => h) (Or.inl ⟨by rfl, fun V hV => ?_⟩) hH ?_
      · have hc : V.cell? ⟨w.heap.size + 1 + 1, 2 + s, none⟩ = some (.int .i64 (nmR r s : Nat)) := (hV.1.cell _).trans (rnc_two r (by omega))
        go_simp
      simp only [List.getElem_toArray, List.getElem_cons_zero, List.getElem_cons_succ, Act.put, List.setIfInBounds_toArray, List.set_cons_zero, List.set_cons_succ]
      refine wpAnyH_take (i := 10) (v := .int .i64 m) rfl (by kernel_rfl) (by kernel_rfl) (by kernel_rfl) (fun _ _ _ h => h) (Or.inl ⟨by rfl, fun V hV => ?_⟩) hH ?_
      · go_simp
      simp only [List.getElem_toArray, List.getElem_cons_zero, List.getElem_cons_succ, Act.put, List.setIfInBounds_toArray, List.set_cons_zero, List.set_cons_succ]
      refine wpAnyH_take (i := 11) (v := .bool B) rfl (by kernel_rfl) (by kernel_rfl) (by kernel_rfl) (fun _ _ _ h => h) (Or.inl ⟨by rfl, fun V hV => ?_⟩) hH ?_
      · go_simp
      simp only [List.getElem_toArray, List.getElem_cons_zero, List.getElem_cons_succ, Act.put, List.setIfInBounds_toArray, List.set_cons_zero, List.set_cons_succ]
      refine wpAnyH_take (i := 12) (v := .bool B) rfl (by kernel_rfl) (by kernel_rfl) (by kernel_rfl) (fun _ _ _ h => h) (Or.inl ⟨by rfl, fun V hV => ?_⟩) hH ?_
      · go_simp
      simp only [List.getElem_toArray, List.getElem_cons_zero, List.getElem_cons_succ, Act.put, List.setIfInBounds_toArray, List.set_cons_zero, List.set_cons_succ]
      refine wpAnyH_ready (rs := [13]) (by kernel_rfl) (by simp) ?_
      refine AllReadyH.cons rfl (fun K hK => ?_) AllReadyH.nil
      rw [if_pos (by rfl)]
      refine wp_store_row 114 (.tmp 10) (.tmp 25) rfl (w.heap.size + 1 + 1 + 1) (rnc r).toArray rfl rfl 114 _ (row_heap r10d) (info114 hl9) (z11_size hl9) (rnc_all r) ?_
      have q10 := r10d.row (rnc r)
      simp only [List.getElem_toArray, List.getElem_cons_zero, List.getElem_cons_succ, Act.put]
      refine hK.out _ _ ⟨hH.1.row_far (by omega) _, below_row hH.2 (show w.heap.size ≤ w.heap.size + 1 + 1 + 1 by omega) _⟩ (fun hH => ?_)
      clear hK K r10d
      refine wpAnyH_ready (rs := [14]) (by kernel_rfl) (by simp) ?_
      refine AllReadyH.cons rfl (fun K hK => ?_) AllReadyH.nil
      go_simp
      refine hK.out _ _ hH (fun _ => ?_)
      clear hK K
      refine wpAnyH_done (by kernel_rfl) ?_ _
      go_wp2_with fail
      refine bodyPost_ret (v := .tuple #[.agg (rnc r).toArray, .bool B]) (res2 Tryd.results79 rfl rfl (cell114_res hl9 q10)) rfl ⟨r, hl9, ?_, ?_, hH.2⟩
      · rw [HWN.out]; cases B <;> rfl
      · intro r2 e2; rw [HWN.out] at e2; cases B <;> simp at e2; exact e2
    | false =>
      have HH1' : Hid (∀ V, Calls Tryd.prog 80 #[.int .u16 r.dom, .int .i64 s] V fun e w' => e = .returned (.bool false) ∧ V = w') := Lib.hid (fun V => by have := HH1.out V; rwa [show sHas r.dom s = false from h1] at this)
      clear HH1
      have HH1 := HH1'
      clear HH1'
      cases h2 : r.tak.testBit m with
      | true =>
        have HH2' : Hid (∀ V, Calls Tryd.prog 80 #[.int .u16 r.tak, .int .i64 m] V fun e w' => e = .returned (.bool true) ∧ V = w') := Lib.hid (fun V => by have := HH2.out V; rwa [show sHas r.tak m = true from h2] at this)
        clear HH2
        have HWN : Hid (wn (tabN L) (tabN O) k (f + 1) r s m = none) := Lib.hid (by
          unfold wn
          rw [h1, h2, Bool.false_or, if_pos rfl, Bool.false_and, if_neg (by decide)])
        go_wp2_with (go_at_call 80; first | ((with_reducible refine (HH1.out _).mono ?_); rintro e w1 ⟨rfl, rfl⟩) | ((with_reducible refine (HH2'.out _).mono ?_); rintro e w1 ⟨rfl, rfl⟩))
        generalize hW0 : World.alloc (World.alloc _ _) _ = W0 at *
        clear hW0
        refine wp_region_held_drew (S := fun V => Row V (w.heap.size + 1 + 1) 114 (rnc r) ∧ Below w.heap.size w V) (by kernel_rfl) ⟨r7.drew, b0.drew⟩ (fun hH => ?_)
        try simp only [Act.put]
        have r10d := r10.drew
        clear r5 r6 r7 r10 b0 c7 d7
        generalize World.drew W0 = Wd at *
        refine wpAnyH_take (i := 0) (v := .agg (rnc r).toArray) rfl (by kernel_rfl) (by kernel_rfl) (by kernel_rfl) (fun _ _ _ h => h) (yieldsIf_load_mid (by rfl) _ _ rfl _ _ rfl _ _ (fun W hW => hW.1.range) Tryd.underlying114 rfl (info114l hl9)) hH ?_
        simp only [List.getElem_toArray, List.getElem_cons_zero, Act.put, List.setIfInBounds_toArray, List.set_cons_zero, List.set_cons_succ]
        refine wpAnyH_take (i := 1) (v := .pointer (some ⟨w.heap.size + 1 + 1, 0, none⟩)) rfl (by kernel_rfl) (by kernel_rfl) (by kernel_rfl) (fun _ _ _ h => h) (Or.inl ⟨by rfl, fun V hV => ?_⟩) hH ?_
        · go_simp
        simp only [List.getElem_toArray, List.getElem_cons_zero, List.getElem_cons_succ, Act.put, List.setIfInBounds_toArray, List.set_cons_zero, List.set_cons_succ]
        refine wpAnyH_take (i := 2) (v := .int .u16 r.dom) rfl (by kernel_rfl) (by kernel_rfl) (by kernel_rfl) (fun _ _ _ h => h) (Or.inl ⟨by rfl, fun V hV => ?_⟩) hH ?_
        · have hc : V.cell? ⟨w.heap.size + 1 + 1, 0, none⟩ = some (.int .u16 r.dom) := hV.1.cell 0
          go_simp
        simp only [List.getElem_toArray, List.getElem_cons_zero, List.getElem_cons_succ, Act.put, List.setIfInBounds_toArray, List.set_cons_zero, List.set_cons_succ]
        refine wpAnyH_take (i := 3) (v := .int .i64 s) rfl (by kernel_rfl) (by kernel_rfl) (by kernel_rfl) (fun _ _ _ h => h) (Or.inl ⟨by rfl, fun V hV => ?_⟩) hH ?_
        · go_simp
        simp only [List.getElem_toArray, List.getElem_cons_zero, List.getElem_cons_succ, Act.put, List.setIfInBounds_toArray, List.set_cons_zero, List.set_cons_succ]
        refine wpAnyH_ready (rs := [4]) (by kernel_rfl) (by simp) ?_
        refine AllReadyH.cons rfl (fun K hK => ?_) AllReadyH.nil
        go_simp
        refine (HH1.out _).mono ?_
        rintro e w4 ⟨rfl, rfl⟩
        go_wp2_with fail
        refine hK.out _ _ hH (fun hH => ?_)
        clear hK K
        refine wpAnyH_take (i := 5) (v := .bool false) rfl (by kernel_rfl) (by kernel_rfl) (by kernel_rfl) (fun _ _ _ h => h) (Or.inl ⟨by rfl, fun V hV => ?_⟩) hH ?_
        · go_simp
        simp only [List.getElem_toArray, List.getElem_cons_zero, List.getElem_cons_succ, Act.put, List.setIfInBounds_toArray, List.set_cons_zero, List.set_cons_succ]
        refine wpAnyH_take (i := 6) (v := undef) rfl (by kernel_rfl) (by kernel_rfl) (by kernel_rfl) (fun _ _ _ h => h) (Or.inr ⟨by rfl, rfl⟩) hH ?_
        simp only [List.getElem_toArray, List.getElem_cons_zero, List.getElem_cons_succ, Act.put, List.setIfInBounds_toArray, List.set_cons_zero, List.set_cons_succ]
        refine wpAnyH_take (i := 7) (v := undef) rfl (by kernel_rfl) (by kernel_rfl) (by kernel_rfl) (fun _ _ _ h => h) (Or.inr ⟨by rfl, rfl⟩) hH ?_
        simp only [List.getElem_toArray, List.getElem_cons_zero, List.getElem_cons_succ, Act.put, List.setIfInBounds_toArray, List.set_cons_zero, List.set_cons_succ]
        refine wpAnyH_take (i := 8) (v := undef) rfl (by kernel_rfl) (by kernel_rfl) (by kernel_rfl) (fun _ _ _ h => h) (Or.inr ⟨by rfl, rfl⟩) hH ?_
        simp only [List.getElem_toArray, List.getElem_cons_zero, List.getElem_cons_succ, Act.put, List.setIfInBounds_toArray, List.set_cons_zero, List.set_cons_succ]
        refine wpAnyH_take (i := 9) (v := undef) rfl (by kernel_rfl) (by kernel_rfl) (by kernel_rfl) (fun _ _ _ h => h) (Or.inr ⟨by rfl, rfl⟩) hH ?_
        simp only [List.getElem_toArray, List.getElem_cons_zero, List.getElem_cons_succ, Act.put, List.setIfInBounds_toArray, List.set_cons_zero, List.set_cons_succ]
        refine wpAnyH_take (i := 10) (v := undef) rfl (by kernel_rfl) (by kernel_rfl) (by kernel_rfl) (fun _ _ _ h => h) (Or.inr ⟨by rfl, rfl⟩) hH ?_
        simp only [List.getElem_toArray, List.getElem_cons_zero, List.getElem_cons_succ, Act.put, List.setIfInBounds_toArray, List.set_cons_zero, List.set_cons_succ]
        refine wpAnyH_take (i := 11) (v := undef) rfl (by kernel_rfl) (by kernel_rfl) (by kernel_rfl) (fun _ _ _ h => h) (Or.inr ⟨by rfl, rfl⟩) hH ?_
        simp only [List.getElem_toArray, List.getElem_cons_zero, List.getElem_cons_succ, Act.put, List.setIfInBounds_toArray, List.set_cons_zero, List.set_cons_succ]
        refine wpAnyH_take (i := 12) (v := .bool false) rfl (by kernel_rfl) (by kernel_rfl) (by kernel_rfl) (fun _ _ _ h => h) (Or.inl ⟨by rfl, fun V hV => ?_⟩) hH ?_
        · go_simp
        simp only [List.getElem_toArray, List.getElem_cons_zero, List.getElem_cons_succ, Act.put, List.setIfInBounds_toArray, List.set_cons_zero, List.set_cons_succ]
        refine wpAnyH_ready (rs := [13]) (by kernel_rfl) (by simp) ?_
        refine AllReadyH.cons rfl (fun K hK => ?_) AllReadyH.nil
        rw [if_pos (by rfl)]
        refine wp_store_row 114 (.tmp 10) (.tmp 25) rfl (w.heap.size + 1 + 1 + 1) (rnc r).toArray rfl rfl 114 _ (row_heap r10d) (info114 hl9) (z11_size hl9) (rnc_all r) ?_
        have q10 := r10d.row (rnc r)
        simp only [List.getElem_toArray, List.getElem_cons_zero, List.getElem_cons_succ, Act.put]
        refine hK.out _ _ ⟨hH.1.row_far (by omega) _, below_row hH.2 (show w.heap.size ≤ w.heap.size + 1 + 1 + 1 by omega) _⟩ (fun hH => ?_)
        clear hK K r10d
        refine wpAnyH_ready (rs := [14]) (by kernel_rfl) (by simp) ?_
        refine AllReadyH.cons rfl (fun K hK => ?_) AllReadyH.nil
        go_simp
        refine hK.out _ _ hH (fun _ => ?_)
        clear hK K
        refine wpAnyH_done (by kernel_rfl) ?_ _
        go_wp2_with fail
        refine bodyPost_ret (v := .tuple #[.agg (rnc r).toArray, .bool false]) (res2 Tryd.results79 rfl rfl (cell114_res hl9 q10)) rfl ⟨r, hl9, ?_, ?_, hH.2⟩
        · rw [HWN.out]; rfl
        · intro r2 e2; rw [HWN.out] at e2; cases e2
      | false =>
        have HH2' : Hid (∀ V, Calls Tryd.prog 80 #[.int .u16 r.tak, .int .i64 m] V fun e w' => e = .returned (.bool false) ∧ V = w') := Lib.hid (fun V => by have := HH2.out V; rwa [show sHas r.tak m = false from h2] at this)
        clear HH2
        have HWN : Hid (wn (tabN L) (tabN O) k (f + 1) r s m = wnL (wn (tabN L) (tabN O) k f) (tabN L) (tabN O) s m k 0 (addR r s m)) := Lib.hid (by
          conv => lhs; unfold wn
          rw [h1, h2, Bool.false_or, if_neg (by decide)])
        go_wp2_with (go_at_call 80; first | ((with_reducible refine (HH1.out _).mono ?_); rintro e w1 ⟨rfl, rfl⟩) | ((with_reducible refine (HH2'.out _).mono ?_); rintro e w1 ⟨rfl, rfl⟩))
        generalize hW0 : World.alloc (World.alloc _ _) _ = W0 at *
        clear hW0 HH1 HH2'
        have HW1 := Lib.hid (fun (u : After W0) => (with_any r.dom s u.v (by omega) (by omega)).mono (fun e w' h => (⟨h.1, h.2 ▸ Below.refl _ _⟩ : e = .returned (.int .u16 (sWith r.dom s)) ∧ Below u.v.heap.size u.v w')))
        have HW2 := Lib.hid (fun (u : After W0) => (with_any r.tak m u.v (by omega) (by omega)).mono (fun e w' h => (⟨h.1, h.2 ▸ Below.refl _ _⟩ : e = .returned (.int .u16 (sWith r.tak m)) ∧ Below u.v.heap.size u.v w')))
        have k0 : ∀ u : After W0, u.v.cell? ⟨w.heap.size + 1 + 1, 0, none⟩ = some (.int .u16 r.dom) := fun u => After.cell (r7.cell 0) u
        have k1 : ∀ u : After W0, u.v.cell? ⟨w.heap.size + 1 + 1, 1, none⟩ = some (.int .u16 r.tak) := fun u => After.cell (r7.cell 1) u
        clear c7 d7
        refine wp_region_class_tail (C := fun w' => ∃ u : After _, w' = u.v) 9 (by kernel_rfl) (by kernel_rfl) (isAfter_start _) ?_
        simp only [List.take_succ_cons, List.take_zero, List.drop_succ_cons, List.drop_zero]
        try simp only [Act.put]
        repeat (go_big_quiet_step ((first | (with_reducible refine (HW1.out _).mono ?_; rintro e w8 ⟨rfl, b8⟩; exact ⟨rfl, After.done _ b8⟩) | (with_reducible refine (HW2.out _).mono ?_; rintro e w8 ⟨rfl, b8⟩; exact ⟨rfl, After.done _ b8⟩))))
        refine wpQuiet_nil ?_
        rintro _ ⟨ua, rfl⟩
        clear k0 k1 HW1 HW2
        replace r5 := r5.below ua.h
        replace r6 := r6.below ua.h
        replace r7 := r7.below ua.h
        replace r10 := r10.below ua.h
        replace b0 := b0.trans (ua.h.mono b0.size)
        generalize ua.v = W1 at *
        have e0 := r7.cell 0
        have e1 := r7.cell 1
        have f0 := r7.free 0
        have f1 := r7.free 1
        have e2 : W1.cell? ⟨w.heap.size + 1 + 1, 2 + s, none⟩ = some (.int .i64 (nmR r s : Nat)) := (r7.cell _).trans (rnc_two r (by omega))
        have f2 := r7.free (2 + s)
        have hs9 : s < 9 := by omega
        have hs9I : (s : Int) < 9 := by omega
        have ck : W1.cell? ⟨w.heap.size, 1, none⟩ = some (.int .i64 (k : Int)) := by
          have := ivR r5 (i := 1) (by unfold mc; rw [mcP_len]; omega)
          rw [show geti (mc L) 1 = (L.length : Int) from mcP_k L 36, hk] at this
          exact this
        obtain ⟨R, hR⟩ : ∃ R, wn (tabN L) (tabN O) k (f + 1) r s m = R := ⟨_, rfl⟩
        rw [hR] at HWN
        have HRE := Lib.hid hR
        have hk4 : k ≤ 4 := by have := hL.k4; omega
        have HLD := Lib.hid (fun b q => hL.ld b q)
        have HOD := Lib.hid (fun b q => hO.ld b q)
        have HT := Lib.hid (fun b q (hb : b < k) (hq : q < n) => (show ld (tabN L) b q < n from hn ▸ hL.isM.lt b q (by omega) (by omega)))
        have HU := Lib.hid (fun b q (hb : b < k) (hq : q < n) => (show ld (tabN O) b q < n from hn' ▸ hO.isM.lt b q (by omega) (by omega)))
        have HML := Lib.hid (fun b q (hb : b < 4) (hq : q < 9) => (by rw [Nat.add_assoc]; exact mc_at L hb hq : geti (mc L) (2 + b * 9 + q) = gat L b q))
        have HMO := Lib.hid (fun b q (hb : b < 4) (hq : q < 9) => (by rw [Nat.add_assoc]; exact mc_at O hb hq : geti (mc O) (2 + b * 9 + q) = gat O b q))
        have HLL : Hid ((mc L).length = 38) := Lib.hid (mcP_len L 36)
        have HLO : Hid ((mc O).length = 38) := Lib.hid (mcP_len O 36)
        have HGA := Lib.hid (good_add hn9 hG hs hm h1 h2)
        have HUA : Hid (unn n (addR r s m) < f) := Lib.hid (by
          have := unn_lt (le_add (m := m) hn9 hG hs h1) hs h1 (show hasR (addR r s m) s = true by rw [has_add]; simp)
          omega)
        have HWS := Lib.hid (fun r s m r' hG hs hm e => wn_sound (T := tabN L) (U := tabN O) (k := k) (n := n) hn9 (fun b q hb hq => HT.out b q hb hq) (fun b q hb hq => HU.out b q hb hq) f r s m r' hG hs hm e)
        have r7' : Row (((W1.setCell ⟨w.heap.size + 1 + 1, 0, none⟩ (.int .u16 (sWith r.dom s))).setCell ⟨w.heap.size + 1 + 1, 1, none⟩ (.int .u16 (sWith r.tak m))).setCell ⟨w.heap.size + 1 + 1, 2 + s, none⟩ (.int .i64 m)) (w.heap.size + 1 + 1) 114 (rnc (addR r s m)) := by
          rw [← rnc_add r s m]
          exact ((r7.set 0 _).set 1 _).set (2 + s) _
        have r5' : Row (((W1.setCell ⟨w.heap.size + 1 + 1, 0, none⟩ (.int .u16 (sWith r.dom s))).setCell ⟨w.heap.size + 1 + 1, 1, none⟩ (.int .u16 (sWith r.tak m))).setCell ⟨w.heap.size + 1 + 1, 2 + s, none⟩ (.int .i64 m)) w.heap.size 76 (iv (mc L)) := ((r5.far (by dsimp only; omega) _).far (by dsimp only; omega) _).far (by dsimp only; omega) _
        have r6' : Row (((W1.setCell ⟨w.heap.size + 1 + 1, 0, none⟩ (.int .u16 (sWith r.dom s))).setCell ⟨w.heap.size + 1 + 1, 1, none⟩ (.int .u16 (sWith r.tak m))).setCell ⟨w.heap.size + 1 + 1, 2 + s, none⟩ (.int .i64 m)) (w.heap.size + 1) 76 (iv (mc O)) := ((r6.far (by dsimp only; omega) _).far (by dsimp only; omega) _).far (by dsimp only; omega) _
        have r10' : Row (((W1.setCell ⟨w.heap.size + 1 + 1, 0, none⟩ (.int .u16 (sWith r.dom s))).setCell ⟨w.heap.size + 1 + 1, 1, none⟩ (.int .u16 (sWith r.tak m))).setCell ⟨w.heap.size + 1 + 1, 2 + s, none⟩ (.int .i64 m)) (w.heap.size + 1 + 1 + 1) 114 [.int .u16 0, .int .u16 0, .int .i64 0, .int .i64 0, .int .i64 0, .int .i64 0, .int .i64 0, .int .i64 0, .int .i64 0, .int .i64 0, .int .i64 0] := ((r10.far (by dsimp only; omega) _).far (by dsimp only; omega) _).far (by dsimp only; omega) _
        have b0' : Below w.heap.size w (((W1.setCell ⟨w.heap.size + 1 + 1, 0, none⟩ (.int .u16 (sWith r.dom s))).setCell ⟨w.heap.size + 1 + 1, 1, none⟩ (.int .u16 (sWith r.tak m))).setCell ⟨w.heap.size + 1 + 1, 2 + s, none⟩ (.int .i64 m)) := ((b0.setCell (by dsimp only; omega) _).setCell (by dsimp only; omega) _).setCell (by dsimp only; omega) _
        clear hR hL hO hk hk' hn hn' h1 h2 hG hu hl9 hd htk r5 r6 r7 r10 b0
        generalize mc L = mL at *
        generalize mc O = mO at *
        generalize tabN L = T at *
        generalize tabN O = U at *
        generalize addR r s m = ra at *
        generalize sWith r.dom s = x1 at *
        generalize sWith r.tak m = x2 at *
        go_wp2
        clear e0 e1 e2 f0 f1 f2 ck
        go_loopw [54] (fun v wr => ∃ (b : Nat) (r' : Rn), v = .int .i64 b ∧ b ≤ k ∧ Row wr w.heap.size 76 (iv mL) ∧ Row wr (w.heap.size + 1) 76 (iv mO) ∧ Row wr (w.heap.size + 1 + 1) 114 (rnc r') ∧ Row wr (w.heap.size + 1 + 1 + 1) 114 [.int .u16 0, .int .u16 0, .int .i64 0, .int .i64 0, .int .i64 0, .int .i64 0, .int .i64 0, .int .i64 0, .int .i64 0, .int .i64 0, .int .i64 0] ∧ Below w.heap.size w wr ∧ Hid (GoodR n r') ∧ Hid (unn n r' < f) ∧ Hid (wnL (wn T U k f) T U s m (k - b) b r' = R)) (fun v _ => k - (intOf v).toNat)
        case atStart => exact ⟨0, ra, rfl, by omega, r5', r6', r7', r10', b0', HGA, HUA, Lib.hid HWN.out.symm⟩
        case round =>
          clear r5' r6' r7' r10' b0' HGA HUA HWN
          obtain ⟨b, r', rfl, hbk, r5, r6, r7, r10, b0, HG, HU2, HW⟩ := hrel
          have hl9 := HG.out.len
          by_cases hlt : b < k
          · have g1 : decide (b < k) = true := decide_eq_true hlt
            have g1' : decide ((b : Int) < (k : Int)) = true := decide_eq_true (by omega)
            have hb4 : b < 4 := by omega
            have hb4I : (b : Int) < 4 := by omega
            have hm9 : m < 9 := by omega
            have hm9I : (m : Int) < 9 := by omega
            have HTB := Lib.hid (HT.out b s hlt hs)
            have HUB := Lib.hid (HU.out b m hlt hm)
            have HC1 := Lib.hid (fun V (h : Row V w.heap.size 76 (iv mL)) => (show V.cell? ⟨w.heap.size, 2 + b * 9 + s, none⟩ = some (.int .i64 (ld T b s : Nat)) from (ivR h (i := 2 + b * 9 + s) (by rw [HLL.out]; omega)).trans (by rw [HML.out b s hb4 (by omega), (HLD.out b s).1])))
            have HC2 := Lib.hid (fun V (h : Row V (w.heap.size + 1) 76 (iv mO)) => (show V.cell? ⟨w.heap.size + 1, 2 + b * 9 + m, none⟩ = some (.int .i64 (ld U b m : Nat)) from (ivR h (i := 2 + b * 9 + m) (by rw [HLO.out]; omega)).trans (by rw [HMO.out b m hb4 (by omega), (HOD.out b m).1])))
            have HIH := Lib.hid (fun V => ih.out r' (ld T b s) (ld U b m) V HG.out HTB.out HUB.out HU2.out)
            have HW2 : Hid ((match wn T U k f r' (ld T b s) (ld U b m) with
              | none => none
              | some r1 => wnL (wn T U k f) T U s m (k - (b + 1)) (b + 1) r1) = R) := Lib.hid (by
              have := HW.out
              rw [show k - b = (k - (b + 1)) + 1 by omega] at this
              exact this)
            have HS1 := Lib.hid (fun r1 e => HWS.out r' (ld T b s) (ld U b m) r1 HG.out HTB.out HUB.out e)
            obtain ⟨x, hx⟩ : ∃ x, ld T b s = x := ⟨_, rfl⟩
            obtain ⟨y, hy⟩ : ∃ y, ld U b m = y := ⟨_, rfl⟩
            obtain ⟨Q, hQ⟩ : ∃ Q, wn T U k f r' x y = Q := ⟨_, rfl⟩
            rw [hx, hy] at HIH HW2 HS1
            rw [hx] at HC1
            rw [hy] at HC2
            rw [hQ] at HIH HW2 HS1
            clear hx hy hQ HW HTB HUB
            go_wp2
            refine wp_region_held_drew (S := fun V => Row V w.heap.size 76 (iv mL) ∧ Row V (w.heap.size + 1) 76 (iv mO) ∧ Row V (w.heap.size + 1 + 1) 114 (rnc r') ∧ Row V (w.heap.size + 1 + 1 + 1) 114 [.int .u16 0, .int .u16 0, .int .i64 0, .int .i64 0, .int .i64 0, .int .i64 0, .int .i64 0, .int .i64 0, .int .i64 0, .int .i64 0, .int .i64 0] ∧ Below w.heap.size w V) (by kernel_rfl) ⟨r5.drew, r6.drew, r7.drew, r10.drew, b0.drew⟩ (fun hH => ?_)
            try simp only [Act.put]
            clear r5 r6 r7 r10 b0
            generalize World.drew wr = Wd at *
            refine wpAnyH_take (i := 0) (v := .agg (iv mL).toArray) rfl (by kernel_rfl) (by kernel_rfl) (by kernel_rfl) (fun _ _ _ h => h) (yieldsIf_load_mid (by rfl) _ _ rfl _ _ rfl _ _ (fun W hW => (hW.1).range) Tryd.underlying76 rfl (by rw [iv_len, HLL.out]; exact info76)) hH ?_
            simp only [List.getElem_toArray, List.getElem_cons_zero, Act.put, List.setIfInBounds_toArray, List.set_cons_zero, List.set_cons_succ]
            refine wpAnyH_take (i := 1) (v := .agg (iv mO).toArray) rfl (by kernel_rfl) (by kernel_rfl) (by kernel_rfl) (fun _ _ _ h => h) (yieldsIf_load_mid (by rfl) _ _ rfl _ _ rfl _ _ (fun W hW => (hW.2.1).range) Tryd.underlying76 rfl (by rw [iv_len, HLO.out]; exact info76)) hH ?_
            simp only [List.getElem_toArray, List.getElem_cons_zero, List.getElem_cons_succ, Act.put, List.setIfInBounds_toArray, List.set_cons_zero, List.set_cons_succ]
            refine wpAnyH_take (i := 2) (v := .agg (rnc r').toArray) rfl (by kernel_rfl) (by kernel_rfl) (by kernel_rfl) (fun _ _ _ h => h) (yieldsIf_load_mid (by rfl) _ _ rfl _ _ rfl _ _ (fun W hW => (hW.2.2.1).range) Tryd.underlying114 rfl (info114l hl9)) hH ?_
            simp only [List.getElem_toArray, List.getElem_cons_zero, List.getElem_cons_succ, Act.put, List.setIfInBounds_toArray, List.set_cons_zero, List.set_cons_succ]
            refine wpAnyH_take (i := 3) (v := .int .i64 b) rfl (by kernel_rfl) (by kernel_rfl) (by kernel_rfl) (fun _ _ _ h => h) (Or.inl ⟨by rfl, fun V hV => ?_⟩) hH ?_
            · go_simp
            simp only [List.getElem_toArray, List.getElem_cons_zero, List.getElem_cons_succ, Act.put, List.setIfInBounds_toArray, List.set_cons_zero, List.set_cons_succ]
            refine wpAnyH_take (i := 4) (v := .int .i64 s) rfl (by kernel_rfl) (by kernel_rfl) (by kernel_rfl) (fun _ _ _ h => h) (Or.inl ⟨by rfl, fun V hV => ?_⟩) hH ?_
            · go_simp
            simp only [List.getElem_toArray, List.getElem_cons_zero, List.getElem_cons_succ, Act.put, List.setIfInBounds_toArray, List.set_cons_zero, List.set_cons_succ]
            refine wpAnyH_take (i := 5) (v := .pointer (some ⟨w.heap.size, 2, none⟩)) rfl (by kernel_rfl) (by kernel_rfl) (by kernel_rfl) (fun _ _ _ h => h) (Or.inl ⟨by rfl, fun V hV => ?_⟩) hH ?_
            · go_simp
            simp only [List.getElem_toArray, List.getElem_cons_zero, List.getElem_cons_succ, Act.put, List.setIfInBounds_toArray, List.set_cons_zero, List.set_cons_succ]
            refine wpAnyH_take (i := 6) (v := .pointer (some ⟨w.heap.size, 2 + b * 9, none⟩)) rfl (by kernel_rfl) (by kernel_rfl) (by kernel_rfl) (fun _ _ _ h => h) (Or.inl ⟨by rfl, fun V hV => ?_⟩) hH ?_
            · go_simp
            simp only [List.getElem_toArray, List.getElem_cons_zero, List.getElem_cons_succ, Act.put, List.setIfInBounds_toArray, List.set_cons_zero, List.set_cons_succ]
            refine wpAnyH_take (i := 7) (v := .pointer (some ⟨w.heap.size, 2 + b * 9 + s, none⟩)) rfl (by kernel_rfl) (by kernel_rfl) (by kernel_rfl) (fun _ _ _ h => h) (Or.inl ⟨by rfl, fun V hV => ?_⟩) hH ?_
            · go_simp
            simp only [List.getElem_toArray, List.getElem_cons_zero, List.getElem_cons_succ, Act.put, List.setIfInBounds_toArray, List.set_cons_zero, List.set_cons_succ]
            refine wpAnyH_take (i := 8) (v := .int .i64 x) rfl (by kernel_rfl) (by kernel_rfl) (by kernel_rfl) (fun _ _ _ h => h) (Or.inl ⟨by rfl, fun V hV => ?_⟩) hH ?_
            · have hc := HC1.out V hV.1
              go_simp
            simp only [List.getElem_toArray, List.getElem_cons_zero, List.getElem_cons_succ, Act.put, List.setIfInBounds_toArray, List.set_cons_zero, List.set_cons_succ]
            refine wpAnyH_take (i := 9) (v := .int .i64 b) rfl (by kernel_rfl) (by kernel_rfl) (by kernel_rfl) (fun _ _ _ h => h) (Or.inl ⟨by rfl, fun V hV => ?_⟩) hH ?_
            · go_simp
            simp only [List.getElem_toArray, List.getElem_cons_zero, List.getElem_cons_succ, Act.put, List.setIfInBounds_toArray, List.set_cons_zero, List.set_cons_succ]
            refine wpAnyH_take (i := 10) (v := .int .i64 m) rfl (by kernel_rfl) (by kernel_rfl) (by kernel_rfl) (fun _ _ _ h => h) (Or.inl ⟨by rfl, fun V hV => ?_⟩) hH ?_
            · go_simp
            simp only [List.getElem_toArray, List.getElem_cons_zero, List.getElem_cons_succ, Act.put, List.setIfInBounds_toArray, List.set_cons_zero, List.set_cons_succ]
            refine wpAnyH_take (i := 11) (v := .pointer (some ⟨w.heap.size + 1, 2, none⟩)) rfl (by kernel_rfl) (by kernel_rfl) (by kernel_rfl) (fun _ _ _ h => h) (Or.inl ⟨by rfl, fun V hV => ?_⟩) hH ?_
            · go_simp
            simp only [List.getElem_toArray, List.getElem_cons_zero, List.getElem_cons_succ, Act.put, List.setIfInBounds_toArray, List.set_cons_zero, List.set_cons_succ]
            refine wpAnyH_take (i := 12) (v := .pointer (some ⟨w.heap.size + 1, 2 + b * 9, none⟩)) rfl (by kernel_rfl) (by kernel_rfl) (by kernel_rfl) (fun _ _ _ h => h) (Or.inl ⟨by rfl, fun V hV => ?_⟩) hH ?_
            · go_simp
            simp only [List.getElem_toArray, List.getElem_cons_zero, List.getElem_cons_succ, Act.put, List.setIfInBounds_toArray, List.set_cons_zero, List.set_cons_succ]
            refine wpAnyH_take (i := 13) (v := .pointer (some ⟨w.heap.size + 1, 2 + b * 9 + m, none⟩)) rfl (by kernel_rfl) (by kernel_rfl) (by kernel_rfl) (fun _ _ _ h => h) (Or.inl ⟨by rfl, fun V hV => ?_⟩) hH ?_
            · go_simp
            simp only [List.getElem_toArray, List.getElem_cons_zero, List.getElem_cons_succ, Act.put, List.setIfInBounds_toArray, List.set_cons_zero, List.set_cons_succ]
            refine wpAnyH_take (i := 14) (v := .int .i64 y) rfl (by kernel_rfl) (by kernel_rfl) (by kernel_rfl) (fun _ _ _ h => h) (Or.inl ⟨by rfl, fun V hV => ?_⟩) hH ?_
            · have hc := HC2.out V hV.2.1
              go_simp
            simp only [List.getElem_toArray, List.getElem_cons_zero, List.getElem_cons_succ, Act.put, List.setIfInBounds_toArray, List.set_cons_zero, List.set_cons_succ]
            refine wpAnyH_ready (rs := [15, 19]) (by kernel_rfl) (by simp) ?_
            refine AllReadyH.cons rfl (fun K hK => ?_) (AllReadyH.cons rfl (fun K hK => ?_) AllReadyH.nil)
            · go_simp
              refine (HIH.out _).mono ?_
              rintro e w4 ⟨r1, h1l, rfl, h1q, b4⟩
              go_wp2_with fail
              refine hK.out _ _ ⟨hH.1.below b4, hH.2.1.below b4, hH.2.2.1.below b4, hH.2.2.2.1.below b4, hH.2.2.2.2.trans (b4.mono hH.2.2.2.2.size)⟩ (fun hH => ?_)
              clear hK K
              have hgz : w.heap.size + 1 + 1 + 1 < w4.heap.size := hH.2.2.2.1.lt
              clear b4
              refine wpAnyH_take (i := 16) (v := .tuple #[.agg (rnc r1).toArray, .bool Q.isSome]) rfl (by kernel_rfl) (by kernel_rfl) (by kernel_rfl) (fun _ _ _ h => h) (Or.inl ⟨by rfl, fun V hV => ?_⟩) hH ?_
              · go_simp
              simp only [List.getElem_toArray, List.getElem_cons_zero, List.getElem_cons_succ, Act.put, List.setIfInBounds_toArray, List.set_cons_zero, List.set_cons_succ]
              refine wpAnyH_take (i := 17) (v := .agg (rnc r1).toArray) rfl (by kernel_rfl) (by kernel_rfl) (by kernel_rfl) (fun _ _ _ h => h) (Or.inl ⟨by rfl, fun V hV => ?_⟩) hH ?_
              · go_simp
              simp only [List.getElem_toArray, List.getElem_cons_zero, List.getElem_cons_succ, Act.put, List.setIfInBounds_toArray, List.set_cons_zero, List.set_cons_succ]
              refine wpAnyH_take (i := 18) (v := .bool Q.isSome) rfl (by kernel_rfl) (by kernel_rfl) (by kernel_rfl) (fun _ _ _ h => h) (Or.inl ⟨by rfl, fun V hV => ?_⟩) hH ?_
              · go_simp
              simp only [List.getElem_toArray, List.getElem_cons_zero, List.getElem_cons_succ, Act.put, List.setIfInBounds_toArray, List.set_cons_zero, List.set_cons_succ]
              refine wpAnyH_ready (rs := [19]) (by kernel_rfl) (by simp) ?_
              refine AllReadyH.cons rfl (fun K hK => ?_) AllReadyH.nil
              go_simp
              have ba : Below w4.heap.size w4 (w4.alloc (.cells #[.int .u16 0, .int .u16 0, .int .i64 0, .int .i64 0, .int .i64 0, .int .i64 0, .int .i64 0, .int .i64 0, .int .i64 0, .int .i64 0, .int .i64 0] 114)) := (Below.refl _ w4).alloc (Nat.le_refl _) _
              have r13 : Row (w4.alloc (.cells #[.int .u16 0, .int .u16 0, .int .i64 0, .int .i64 0, .int .i64 0, .int .i64 0, .int .i64 0, .int .i64 0, .int .i64 0, .int .i64 0, .int .i64 0] 114)) w4.heap.size 114 [.int .u16 0, .int .u16 0, .int .i64 0, .int .i64 0, .int .i64 0, .int .i64 0, .int .i64 0, .int .i64 0, .int .i64 0, .int .i64 0, .int .i64 0] := row_new rfl
              refine hK.out _ _ ⟨hH.1.below ba, hH.2.1.below ba, hH.2.2.1.below ba, hH.2.2.2.1.below ba, hH.2.2.2.2.trans (ba.mono hH.2.2.2.2.size)⟩ (fun hH => ?_)
              clear hK K ba
              refine wpAnyH_ready (rs := [20]) (by kernel_rfl) (by simp) ?_
              refine AllReadyH.cons rfl (fun K hK => ?_) AllReadyH.nil
              rw [if_pos (by rfl)]
              refine wp_store_row 114 (.tmp 13) (.tmp 74) rfl (w4.heap.size) (rnc r1).toArray rfl rfl 114 _ (row_heap r13) (info114 h1l) (z11_size h1l) (rnc_all r1) ?_
              simp only [List.getElem_toArray, List.getElem_cons_zero, List.getElem_cons_succ, Act.put]
              have q13 := r13.row (rnc r1)
              refine hK.out _ _ ⟨hH.1.row_far (by omega) _, hH.2.1.row_far (by omega) _, hH.2.2.1.row_far (by omega) _, hH.2.2.2.1.row_far (by omega) _, below_row hH.2.2.2.2 (by omega) _⟩ (fun hH => ?_)
              clear hK K r13
              refine wpAnyH_ready (rs := [21]) (by kernel_rfl) (by simp) ?_
              refine AllReadyH.cons rfl (fun K hK => ?_) AllReadyH.nil
              go_simp
              refine hK.out _ _ hH (fun hH => ?_)
              clear hK K
              refine wpAnyH_done (by kernel_rfl) ?_ _
              obtain ⟨r5, r6, r7, r10, b0⟩ := hH
              generalize World.setRow _ _ _ = W9 at *
              try simp only [List.getElem_toArray, List.getElem_cons_zero, List.getElem_cons_succ, Act.put, List.setIfInBounds_toArray, List.set_cons_zero, List.set_cons_succ]
              cases hQ2 : Q with
              | none =>
                rw [hQ2] at HW2
                have hr : none = R := HW2.out
                subst hr
                have q10 : Row (W9.setRow (w.heap.size + 1 + 1 + 1) (rnc zeroR).toArray) (w.heap.size + 1 + 1 + 1) 114 (rnc zeroR) := r10.row (rnc zeroR)
                clear HW2 HS1 HWS ih HIH HT HU HML HMO HLD HOD HC1 HC2 h1q
                go_wp2_with (with_reducible refine (?_ : wpList _ _ _ (Oper.mk _ (Op.store 114 (.tmp 10) _) _ _ _ _ :: _) _ _); refine wpList_store_row rfl 114 (.tmp 10) (.tmp 78) rfl (w.heap.size + 1 + 1 + 1) (rnc zeroR).toArray rfl rfl 114 _ (row_heap r10) (info114 rfl) rfl (rnc_all zeroR) ?_)
                refine bodyPost_ret (v := .tuple #[.agg (rnc zeroR).toArray, .bool false]) (res2 Tryd.results79 rfl rfl (cell114_res rfl q10)) rfl ⟨zeroR, rfl, by rw [HRE.out]; rfl, (fun r2 e2 => by rw [HRE.out] at e2; cases e2), below_row b0 (by omega) _⟩
              | some r2 =>
                obtain rfl : r1 = r2 := h1q r2 hQ2
                have hw := HS1.out r1 hQ2
                rw [hQ2] at HW2
                have HW3 : Hid (wnL (wn T U k f) T U s m (k - (b + 1)) (b + 1) r1 = R) := HW2
                have HG3 := Lib.hid hw.good
                have HU3 : Hid (unn n r1 < f) := Lib.hid (Nat.lt_of_le_of_lt (unn_le hw.le) HU2.out)
                have q7 := r7.row (rnc r1)
                clear HW2 HS1 HWS ih HIH HT HU HML HMO HLD HOD HC1 HC2 h1q hw
                go_wp2_with (first | ((with_reducible refine (?_ : wpList _ _ _ (Oper.mk (some 79) _ _ _ _ _ :: _) _ _)); refine wpList_load_row rfl 114 (.tmp 13) rfl (w4.heap.size) rfl 114 (rnc r1).toArray (0, 0) _ (row_heap q13) Tryd.underlying114 rfl (info114 h1l) ?_) | (with_reducible refine (?_ : wpList _ _ _ (Oper.mk _ (Op.store 114 (.tmp 7) _) _ _ _ _ :: _) _ _); refine wpList_store_row rfl 114 (.tmp 7) (.tmp 79) rfl (w.heap.size + 1 + 1) (rnc r1).toArray rfl rfl 114 _ (row_heap r7) (info114 h1l) (by rw [List.size_toArray, List.size_toArray, rnc_len h1l, rnc_len hl9]) (rnc_all r1) ?_))
                go_roundw
                case rel => exact ⟨b + 1, r1, by go_num, by omega, r5.row_far (by omega) _, r6.row_far (by omega) _, q7, r10.row_far (by omega) _, below_row b0 (by omega) _, HG3, HU3, HW3⟩
                case measure => simp [intOf]; omega
            · go_simp
              have ba : Below Wd.heap.size Wd (Wd.alloc (.cells #[.int .u16 0, .int .u16 0, .int .i64 0, .int .i64 0, .int .i64 0, .int .i64 0, .int .i64 0, .int .i64 0, .int .i64 0, .int .i64 0, .int .i64 0] 114)) := (Below.refl _ Wd).alloc (Nat.le_refl _) _
              have r13 : Row (Wd.alloc (.cells #[.int .u16 0, .int .u16 0, .int .i64 0, .int .i64 0, .int .i64 0, .int .i64 0, .int .i64 0, .int .i64 0, .int .i64 0, .int .i64 0, .int .i64 0] 114)) Wd.heap.size 114 [.int .u16 0, .int .u16 0, .int .i64 0, .int .i64 0, .int .i64 0, .int .i64 0, .int .i64 0, .int .i64 0, .int .i64 0, .int .i64 0, .int .i64 0] := row_new rfl
              have hgz : w.heap.size + 1 + 1 + 1 < Wd.heap.size := hH.2.2.2.1.lt
              refine hK.out _ _ ⟨hH.1.below ba, hH.2.1.below ba, hH.2.2.1.below ba, hH.2.2.2.1.below ba, hH.2.2.2.2.trans (ba.mono hH.2.2.2.2.size)⟩ (fun hH => ?_)
              clear hK K ba
              generalize hwa : Wd.alloc (.cells #[.int .u16 0, .int .u16 0, .int .i64 0, .int .i64 0, .int .i64 0, .int .i64 0, .int .i64 0, .int .i64 0, .int .i64 0, .int .i64 0, .int .i64 0] 114) = wa at *
              clear hwa
              refine wpAnyH_ready (rs := [15]) (by kernel_rfl) (by simp) ?_
              refine AllReadyH.cons rfl (fun K hK => ?_) AllReadyH.nil
              go_simp
              refine (HIH.out _).mono ?_
              rintro e w4 ⟨r1, h1l, rfl, h1q, b4⟩
              go_wp2_with fail
              replace r13 := r13.below b4
              refine hK.out _ _ ⟨hH.1.below b4, hH.2.1.below b4, hH.2.2.1.below b4, hH.2.2.2.1.below b4, hH.2.2.2.2.trans (b4.mono hH.2.2.2.2.size)⟩ (fun hH => ?_)
              clear hK K b4
              refine wpAnyH_take (i := 16) (v := .tuple #[.agg (rnc r1).toArray, .bool Q.isSome]) rfl (by kernel_rfl) (by kernel_rfl) (by kernel_rfl) (fun _ _ _ h => h) (Or.inl ⟨by rfl, fun V hV => ?_⟩) hH ?_
              · go_simp
              simp only [List.getElem_toArray, List.getElem_cons_zero, List.getElem_cons_succ, Act.put, List.setIfInBounds_toArray, List.set_cons_zero, List.set_cons_succ]
              refine wpAnyH_take (i := 17) (v := .agg (rnc r1).toArray) rfl (by kernel_rfl) (by kernel_rfl) (by kernel_rfl) (fun _ _ _ h => h) (Or.inl ⟨by rfl, fun V hV => ?_⟩) hH ?_
              · go_simp
              simp only [List.getElem_toArray, List.getElem_cons_zero, List.getElem_cons_succ, Act.put, List.setIfInBounds_toArray, List.set_cons_zero, List.set_cons_succ]
              refine wpAnyH_take (i := 18) (v := .bool Q.isSome) rfl (by kernel_rfl) (by kernel_rfl) (by kernel_rfl) (fun _ _ _ h => h) (Or.inl ⟨by rfl, fun V hV => ?_⟩) hH ?_
              · go_simp
              simp only [List.getElem_toArray, List.getElem_cons_zero, List.getElem_cons_succ, Act.put, List.setIfInBounds_toArray, List.set_cons_zero, List.set_cons_succ]
              refine wpAnyH_ready (rs := [20]) (by kernel_rfl) (by simp) ?_
              refine AllReadyH.cons rfl (fun K hK => ?_) AllReadyH.nil
              rw [if_pos (by rfl)]
              refine wp_store_row 114 (.tmp 13) (.tmp 74) rfl (Wd.heap.size) (rnc r1).toArray rfl rfl 114 _ (row_heap r13) (info114 h1l) (z11_size h1l) (rnc_all r1) ?_
              simp only [List.getElem_toArray, List.getElem_cons_zero, List.getElem_cons_succ, Act.put]
              have q13 := r13.row (rnc r1)
              refine hK.out _ _ ⟨hH.1.row_far (by omega) _, hH.2.1.row_far (by omega) _, hH.2.2.1.row_far (by omega) _, hH.2.2.2.1.row_far (by omega) _, below_row hH.2.2.2.2 (by omega) _⟩ (fun hH => ?_)
              clear hK K r13
              refine wpAnyH_ready (rs := [21]) (by kernel_rfl) (by simp) ?_
              refine AllReadyH.cons rfl (fun K hK => ?_) AllReadyH.nil
              go_simp
              refine hK.out _ _ hH (fun hH => ?_)
              clear hK K
              refine wpAnyH_done (by kernel_rfl) ?_ _
              obtain ⟨r5, r6, r7, r10, b0⟩ := hH
              generalize World.setRow _ _ _ = W9 at *
              try simp only [List.getElem_toArray, List.getElem_cons_zero, List.getElem_cons_succ, Act.put, List.setIfInBounds_toArray, List.set_cons_zero, List.set_cons_succ]
              cases hQ2 : Q with
              | none =>
                rw [hQ2] at HW2
                have hr : none = R := HW2.out
                subst hr
                have q10 : Row (W9.setRow (w.heap.size + 1 + 1 + 1) (rnc zeroR).toArray) (w.heap.size + 1 + 1 + 1) 114 (rnc zeroR) := r10.row (rnc zeroR)
                clear HW2 HS1 HWS ih HIH HT HU HML HMO HLD HOD HC1 HC2 h1q
                go_wp2_with (with_reducible refine (?_ : wpList _ _ _ (Oper.mk _ (Op.store 114 (.tmp 10) _) _ _ _ _ :: _) _ _); refine wpList_store_row rfl 114 (.tmp 10) (.tmp 78) rfl (w.heap.size + 1 + 1 + 1) (rnc zeroR).toArray rfl rfl 114 _ (row_heap r10) (info114 rfl) rfl (rnc_all zeroR) ?_)
                refine bodyPost_ret (v := .tuple #[.agg (rnc zeroR).toArray, .bool false]) (res2 Tryd.results79 rfl rfl (cell114_res rfl q10)) rfl ⟨zeroR, rfl, by rw [HRE.out]; rfl, (fun r2 e2 => by rw [HRE.out] at e2; cases e2), below_row b0 (by omega) _⟩
              | some r2 =>
                obtain rfl : r1 = r2 := h1q r2 hQ2
                have hw := HS1.out r1 hQ2
                rw [hQ2] at HW2
                have HW3 : Hid (wnL (wn T U k f) T U s m (k - (b + 1)) (b + 1) r1 = R) := HW2
                have HG3 := Lib.hid hw.good
                have HU3 : Hid (unn n r1 < f) := Lib.hid (Nat.lt_of_le_of_lt (unn_le hw.le) HU2.out)
                have q7 := r7.row (rnc r1)
                clear HW2 HS1 HWS ih HIH HT HU HML HMO HLD HOD HC1 HC2 h1q hw
                go_wp2_with (first | ((with_reducible refine (?_ : wpList _ _ _ (Oper.mk (some 79) _ _ _ _ _ :: _) _ _)); refine wpList_load_row rfl 114 (.tmp 13) rfl (Wd.heap.size) rfl 114 (rnc r1).toArray (0, 0) _ (row_heap q13) Tryd.underlying114 rfl (info114 h1l) ?_) | (with_reducible refine (?_ : wpList _ _ _ (Oper.mk _ (Op.store 114 (.tmp 7) _) _ _ _ _ :: _) _ _); refine wpList_store_row rfl 114 (.tmp 7) (.tmp 79) rfl (w.heap.size + 1 + 1) (rnc r1).toArray rfl rfl 114 _ (row_heap r7) (info114 h1l) (by rw [List.size_toArray, List.size_toArray, rnc_len h1l, rnc_len hl9]) (rnc_all r1) ?_))
                go_roundw
                case rel => exact ⟨b + 1, r1, by go_num, by omega, r5.row_far (by omega) _, r6.row_far (by omega) _, q7, r10.row_far (by omega) _, below_row b0 (by omega) _, HG3, HU3, HW3⟩
                case measure => simp [intOf]; omega
          · obtain rfl : b = k := by omega
            have g1 : decide (b < b) = false := decide_eq_false (by omega)
            have g1' : decide ((b : Int) < (b : Int)) = false := decide_eq_false (by omega)
            have hrr := HW.out
            rw [Nat.sub_self] at hrr
            obtain rfl : some r' = R := hrr
            have q10 := r10.row (rnc r')
            clear HW HT HU HML HMO HLD HOD HWS ih
            go_wp2_with (first
              | ((with_reducible refine (?_ : wpList _ _ _ (Oper.mk (some 81) _ _ _ _ _ :: _) _ _)); (refine wpList_load_row rfl 114 (.tmp 7) rfl (w.heap.size + 1 + 1) rfl 114 (rnc r').toArray (0, 0) _ (row_heap r7) Tryd.underlying114 rfl (info114 hl9) ?_))
              | (with_reducible refine (?_ : wpList _ _ _ (Oper.mk _ (Op.store 114 (.tmp 10) _) _ _ _ _ :: _) _ _); (refine wpList_store_row rfl 114 (.tmp 10) (.tmp 81) rfl (w.heap.size + 1 + 1 + 1) (rnc r').toArray rfl rfl 114 _ (row_heap r10) (info114 hl9) (z11_size hl9) (rnc_all r') ?_)))
            refine bodyPost_ret (v := .tuple #[.agg (rnc r').toArray, .bool true]) (res2 Tryd.results79 rfl rfl (cell114_res hl9 q10)) rfl ⟨r', hl9, by rw [HRE.out]; rfl, ?_, below_row b0 (by omega) _⟩
            intro r2 e2
            rw [HRE.out] at e2
            simpa using e2
end Go.Proofs.YtignbpipdfjkeaaDoor
