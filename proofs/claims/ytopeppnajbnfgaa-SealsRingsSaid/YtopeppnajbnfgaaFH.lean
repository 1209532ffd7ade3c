/- The seals of every other piece; are cuts fair. -/
import Derived.Test.YtopeppnajbnfgaaFG
namespace Go.Proofs.Ytopeppnajbnfgaa
open Go.RowKit Go.Shelf
attribute [local go_sem] Oper.semAt_some
set_option maxHeartbeats 1000000
set_option maxRecDepth 100000
theorem keeps_setRow (B : Nat) (W : World) (g : Nat) (cs : Array Value) : KeepsFrom B W (W.setRow g cs) := ⟨by simp, fun k o _ hk ho => by
  simp only [World.setRow, Array.getElem?_modify]
  by_cases e : g = k
  · subst e
    rw [if_pos rfl, hk]
    cases o <;> first | rfl | (simp [Obj.isCells] at ho)
  · rw [if_neg e]; exact hk⟩
theorem Fr.setRow {X : Nat → Prop} {a w : World} (h : Fr X a w) {g : Nat} (hp : X g ∨ a.heap.size ≤ g) (cs : Array Value) : Fr X a (w.setRow g cs) :=
  ⟨h.os, h.tape, h.output, Nat.le_trans h.size (by simp), fun k hk hx => by
    rw [setRow_other _ _ _ _ (fun e => by
      subst e
      rcases hp with hp | hp
      · exact hx hp
      · omega)]
    exact h.block k hk hx⟩
/-- Where a piece begins, and where it ends. -/
def bP (xs : List Int) (k : Nat) : Nat := (geti xs (2 * k)).toNat
def eP (s : ByteArray) (xs : List Int) (k : Nat) : Nat := if 2 * k + 1 < xs.length then (geti xs (2 * k + 1)).toNat else s.size
def apP (s : ByteArray) (xs : List Int) (ks : List Nat) : List Int := ks.foldl (fun a k => subL (addL a (sumL s (eP s xs k))) (sumL s (bP xs k))) Z4I
theorem apP_snoc (s : ByteArray) (xs : List Int) (ks : List Nat) (k : Nat) : apP s xs (ks ++ [k]) = subL (addL (apP s xs ks) (sumL s (eP s xs k))) (sumL s (bP xs k)) := by simp [apP]
/-- The list's numbers are positions of the chain. -/
def InC (s : ByteArray) (xs : List Int) : Prop := ∀ i, i < xs.length → 0 ≤ geti xs i ∧ geti xs i ≤ s.size
theorem bP_le {s : ByteArray} {xs : List Int} (h : InC s xs) {k : Nat} (hk : 2 * k < xs.length) : bP xs k ≤ s.size := by
  have := h (2 * k) hk
  unfold bP; omega
theorem eP_le {s : ByteArray} {xs : List Int} (h : InC s xs) (k : Nat) : eP s xs k ≤ s.size := by
  unfold eP
  split
  · rename_i h1
    have := h (2 * k + 1) h1
    omega
  · omega
theorem addL_len {x y : List Int} (h : x.length = 4) (h' : y.length = 4) : (addL x y).length = 4 := by simp [addL, h, h']
theorem subL_len {x y : List Int} (h : x.length = 4) (h' : y.length = 4) : (subL x y).length = 4 := by simp [subL, h, h']
theorem apF_sm {s : ByteArray} {xs : List Int} (hs : s.size ≤ 24) (h : InC s xs) : ∀ (ks : List Nat) (acc : List Int) (B : Int), (∀ k ∈ ks, 2 * k < xs.length) → acc.length = 4 → (∀ i, i < 4 → -B ≤ geti acc i ∧ geti acc i ≤ B) →
    (ks.foldl (fun a k => subL (addL a (sumL s (eP s xs k))) (sumL s (bP xs k))) acc).length = 4 ∧ ∀ i, i < 4 → -(B + 24 * ks.length) ≤ geti (ks.foldl (fun a k => subL (addL a (sumL s (eP s xs k))) (sumL s (bP xs k))) acc) i ∧ geti (ks.foldl (fun a k => subL (addL a (sumL s (eP s xs k))) (sumL s (bP xs k))) acc) i ≤ B + 24 * ks.length
  | [], acc, B, _, hl, hb => ⟨hl, fun i hi => by have := hb i hi; simp only [List.foldl_nil, List.length_nil]; omega⟩
  | k :: ks, acc, B, hk, hl, hb => by
    have ih := apF_sm hs h ks (subL (addL acc (sumL s (eP s xs k))) (sumL s (bP xs k))) (B + 24) (fun j hj => hk j (List.mem_cons_of_mem _ hj)) (subL_len (addL_len hl rfl) rfl) (fun i hi => by
      rw [subL_at (by rw [addL_len hl rfl]; exact hi) (by exact hi), addL_at (by rw [hl]; exact hi) (by exact hi), sumL_at s _ hi, sumL_at s _ hi]
      have h3 := hb i hi
      have h4 := cnt_rng s i (eP s xs k)
      have h5 := cnt_rng s i (bP xs k)
      have h6 := eP_le h k
      have h7 := bP_le h (hk k (List.mem_cons_self ..))
      omega)
    refine ⟨ih.1, fun i hi => ?_⟩
    have := ih.2 i hi
    simp only [List.foldl_cons, List.length_cons]
    omega
theorem apP_sm {s : ByteArray} {xs : List Int} (hs : s.size ≤ 24) (h : InC s xs) {ks : List Nat} (hk : ∀ k ∈ ks, 2 * k < xs.length) (hl : ks.length ≤ 10000) : Sm (apP s xs ks) := by
  have := apF_sm hs h ks Z4I 0 hk rfl (fun i hi => by
    have : geti Z4I i = 0 := by rcases i with _ | _ | _ | _ | i <;> first | rfl | omega
    omega)
  refine ⟨this.1, fun i hi => ?_⟩
  have h2 := this.2 i hi
  unfold apP
  omega
theorem apP_b0 {s : ByteArray} {xs : List Int} (hs : s.size ≤ 24) (h : InC s xs) {ks : List Nat} (hk : ∀ k ∈ ks, 2 * k < xs.length) (hl : ks.length ≤ 10000) : ∀ i, i < 4 → -900000 ≤ geti (apP s xs ks) i ∧ geti (apP s xs ks) i ≤ 900000 := fun i hi => by
  have := (apF_sm hs h ks Z4I 0 hk rfl (fun i hi => by
    have : geti Z4I i = 0 := by rcases i with _ | _ | _ | _ | i <;> first | rfl | omega
    omega)).2 i hi
  unfold apP
  omega
def apL (s : ByteArray) (xs : List Int) : List Int := apP s xs (List.range ((xs.length + 1) / 2))
theorem apart_any (s : ByteArray) (A : Option Addr) (c : Nat) (xs : List Int) (w : World) (hs : s.size ≤ 24) (hl : xs.length ≤ 100) (hc : xs.length ≤ c) (hx : IntsAt w A xs) (hin : InC s xs) :
    Calls Try.prog 55 #[.agg (iv (tal s)).toArray, .slice A xs.length c] w fun e w' => e = .returned (.agg (iv (apL s xs)).toArray) ∧ Below w.heap.size w w' := by
  have z1 := z51
  refine callsIn_wide.1 (?_ : CallsIn Fence.wide 9 _ _ _ _ _)
  generalize hFw : Fence.wide = F
  have hO : Open F := hFw ▸ Open.wide
  have hro : F.round = none := hFw ▸ rfl
  clear hFw
  have hF := hO.fn
  have hd := hO.depth
  have F55 := hF 55
  refine callsIn_of_wp_marks Try.func55 rfl F55 ?_ hro
  simp only [Try.ntmps55, List.size_toArray, List.length_cons, List.length_nil, Nat.reduceAdd, Nat.reduceSub, Array.replicate_succ, Array.replicate_zero, List.push_toArray, List.append_toArray, List.nil_append, List.cons_append]
  gi_wp2_with (gi_at_call 60; refine (hO.lift _ (Chunk_any _ _ ⟨_, _, _, rfl⟩)).mono ?_; rintro e w' ⟨rfl, rfl⟩)
  generalize hw1 : World.alloc _ _ = w1
  have HW := Lib.hid hw1
  clear hw1
  have hb : Below w.heap.size w w1 := by rw [← HW.out]; (repeat (first | exact Below.refl _ _ | assumption | (refine Below.setCell ?_ (by first | exact Nat.le_refl _ | omega | (simp; done) | (simp; omega)) _) | (refine Below.trans ?_ (below_drewN _)) | (refine Below.drew ?_) | (refine Below.alloc ?_ (by first | exact Nat.le_refl _ | omega | (simp; done) | (simp; omega)) _) | (refine below_row ?_ (by first | exact Nat.le_refl _ | omega | (simp; done) | (simp; omega)) _)))
  have hz : w.heap.size + 5 ≤ w1.heap.size := by rw [← HW.out]; simp; try omega
  have r0 : Row w1 (w.heap.size) 54 (iv (tal s)) := by rw [← HW.out]; repeat (first | (refine row_new ?_; first | rfl | (simp; done)) | refine Row.alloc ?_ _)
  have r1 : Row w1 (w.heap.size + 1) 51 Z4 := by rw [← HW.out]; repeat (first | (refine row_new ?_; first | rfl | (simp; done)) | refine Row.alloc ?_ _)
  have r2 : Row w1 (w.heap.size + 1 + 1) 51 (iv (apP s xs [])) := by rw [← HW.out]; repeat (first | (refine row_new ?_; first | rfl | (simp; done)) | refine Row.alloc ?_ _)
  have r3 : Row w1 (w.heap.size + 1 + 1 + 1) 23 [.slice A xs.length c] := by rw [← HW.out]; repeat (first | (refine row_new ?_; first | rfl | (simp; done)) | refine Row.alloc ?_ _)
  have r4 : Row w1 (w.heap.size + 1 + 1 + 1 + 1) 3 [.int .i64 2] := by rw [← HW.out]; repeat (first | (refine row_new ?_; first | rfl | (simp; done)) | refine Row.alloc ?_ _)
  clear HW
  obtain ⟨b, o, hA⟩ : ∃ b o, 0 < xs.length → A = some ⟨b, o, none⟩ := by
    by_cases h : 0 < xs.length
    · obtain ⟨b, o, e, -⟩ := hx h
      exact ⟨b, o, fun _ => e⟩
    · exact ⟨0, 0, fun h' => absurd h' h⟩
  refine range_chunks hO hro (by omega) (w.heap.size + 1 + 1 + 1) b o xs.length c A hA hc (by omega) r3 r4 rfl rfl
    (fun pre W => Fr (fun k => k = w.heap.size + 1 + 1) w1 W ∧ Row W (w.heap.size + 1 + 1) 51 (iv (apP s xs (valsC pre)))) (fun _ _ _ => False)
    (OwnFrom.and (ownFrom_fr (Nat.le_refl _)) ownFrom_row) (fun _ _ _ _ _ h _ _ => h) ⟨Fr.refl _ _, r2⟩ ?a1 ?assign ?body ?done (fun _ _ _ _ _ h _ => h.elim)
  case assign =>
    intro l x W K hK
    gi_wp2
    exact hK
  case body =>
    rintro l pre x W ⟨hfr, hr⟩ hlen
    have q0 : Row W w.heap.size 54 (iv (tal s)) := r0.fr hfr (by omega)
    have q3 : Row W (w.heap.size + 1 + 1 + 1) 23 [.slice A xs.length c] := r3.fr hfr (by omega)
    have q4 : Row W (w.heap.size + 1 + 1 + 1 + 1) 3 [.int .i64 2] := r4.fr hfr (by omega)
    have hxl := x.2
    obtain ⟨b2, o2, hA2, hbb, hcs⟩ := (hx.below (hfr.under hb (fun i hi => by omega))) (by omega)
    rw [hA (by omega)] at hA2
    injection hA2 with hA2
    injection hA2 with hb2 ho2
    subst hb2 ho2
    have c0 : W.cell? ⟨w.heap.size, 0, none⟩ = some (.int .i64 (s.size : Int)) := ivR q0 (by unfold tal; rw [talL_len]; omega)
    have cb := hcs (2 * x.1) hxl
    have hpre : ∀ k ∈ valsC pre, 2 * k < xs.length := fun k hk => by
      unfold valsC at hk
      obtain ⟨y, -, rfl⟩ := List.mem_map.1 hk
      exact y.2
    have hsm := apP_sm hs hin hpre (by rw [valsC_len]; omega)
    have hi51 : ∀ ys : List Int, ys.length = 4 → (Try.prog.info? 51).map (·.size) = some (iv ys).length := fun ys h => by rw [iv_len, h]; exact info51
    have hapl := hsm.1
    have apP_b := apP_b0 hs hin hpre (by rw [valsC_len]; omega)
    have HS := Lib.hid (apP_snoc s xs (valsC pre) x.1)
    have hin1 := hin (2 * x.1) hxl
    obtain ⟨p, hp⟩ : ∃ p : Nat, geti xs (2 * x.1) = p := ⟨(geti xs (2 * x.1)).toNat, by omega⟩
    have hbp : bP xs x.1 = p := by unfold bP; rw [hp]; rfl
    rw [hp] at hin1 cb
    have hp24 : p < 25 := by omega
    by_cases h2 : 2 * x.1 + 1 < xs.length
    · have ce : W.cell? ⟨b, o + 2 * x.1 + 1, none⟩ = some (.int .i64 (geti xs (2 * x.1 + 1))) := by rw [Nat.add_assoc]; exact hcs (2 * x.1 + 1) h2
      have hin2 := hin (2 * x.1 + 1) h2
      obtain ⟨e, he⟩ : ∃ e : Nat, geti xs (2 * x.1 + 1) = e := ⟨(geti xs (2 * x.1 + 1)).toNat, by omega⟩
      have hep : eP s xs x.1 = e := by unfold eP; rw [if_pos h2, he]; rfl
      rw [he] at ce hin2
      have he24 : e < 25 := by omega
      have HP := Lib.hid (fun w => plus_any (apP s xs (valsC pre)) (sumL s e) w hsm (sumL_sm s (by omega)))
      have hsm2 : Sm (addL (apP s xs (valsC pre)) (sumL s e)) := ⟨addL_len hapl rfl, fun i hi => by
        rw [addL_at (by rw [hapl]; exact hi) (by exact hi), sumL_at s _ hi]
        have h1 := apP_b i hi
        have h3 := cnt_rng s i e
        omega⟩
      have HM := Lib.hid (fun w => minus_any (addL (apP s xs (valsC pre)) (sumL s e)) (sumL s p) w hsm2 (sumL_sm s (by omega)))
      rw [hep, hbp] at HS
      have e1 : min 2 (xs.length - 2 * x.1) = 2 := by omega
      unfold chunkV
      generalize hxv : x.1 = xv at *
      have HXV := Lib.hid hxv
      clear hxv
      rw [e1]
      generalize hvp : valsC pre = vp at *
      have HVP := Lib.hid hvp
      clear hvp hpre hsm hsm2 hcs hx hin hbb
      gi_wp2
      replace hO := hO.inRound l
      have cbA := fun u : After W => After.cell cb u
      refine wpIn_region_class_tail (C := fun w' => ∃ u : After _, w' = u.v) hO 13 (by kernel_rfl) (by kernel_rfl) (by kernel_rfl) (isAfter_start _) ?_
      simp only [List.take_succ_cons, List.take_zero, List.drop_succ_cons, List.drop_zero]
      try simp only [Act.put]
      repeat (first | ((with_reducible refine (?_ : wpQuiet _ _ _ _ (Oper.mk (some 19) _ _ _ _ _ :: _) _); go_big_quiet_want); refine quiet_load_row 51 (.tmp 5) rfl (w.heap.size + 1 + 1) rfl 51 (iv (apP s xs vp)) _ (fun _ hc => after_row hr hc) Try.underlying51 rfl (hi51 _ hapl) ?_; simp only [Act.put, List.setIfInBounds_toArray, List.set_cons_zero, List.set_cons_succ]; go_big_quiet_on) | ((with_reducible refine (?_ : wpQuiet _ _ _ _ (Oper.mk (some 23) _ _ _ _ _ :: _) _); go_big_quiet_want); refine quiet_load_mid 51 (.tmp 22) rfl w.heap.size (1 + e * 4) rfl (iv (sumL s e)) _ (fun _ hc => tal_range (by omega) hs (after_row q0 hc)) Try.underlying51 rfl (hi51 _ rfl) ?_; simp only [Act.put, List.setIfInBounds_toArray, List.set_cons_zero, List.set_cons_succ]; go_big_quiet_on) | ((with_reducible refine (?_ : wpQuiet _ _ _ _ (Oper.mk (some 30) _ _ _ _ _ :: _) _); go_big_quiet_want); refine quiet_load_mid 51 (.tmp 29) rfl w.heap.size (1 + p * 4) rfl (iv (sumL s p)) _ (fun _ hc => tal_range (by omega) hs (after_row q0 hc)) Try.underlying51 rfl (hi51 _ rfl) ?_; simp only [Act.put, List.setIfInBounds_toArray, List.set_cons_zero, List.set_cons_succ]; go_big_quiet_on) | go_big_quiet_step ((first | (with_reducible refine (HP.out _).mono ?_; rintro e w8 ⟨rfl, b8⟩; exact ⟨rfl, After.done _ b8⟩) | (with_reducible refine (HM.out _).mono ?_; rintro e w8 ⟨rfl, b8⟩; exact ⟨rfl, After.done _ b8⟩))))
      refine wpQuiet_nil ?_
      rintro _ ⟨ua, rfl⟩
      have hr2 := after_row hr ⟨ua, rfl⟩
      have hlen4 : (subL (addL (apP s xs vp) (sumL s e)) (sumL s p)).length = 4 := subL_len (addL_len hapl rfl) rfl
      gi_wp2_with (refine wpListIn_store_row rfl 51 (.tmp 5) (.tmp 31) rfl (w.heap.size + 1 + 1) (iv (subL (addL (apP s xs vp) (sumL s e)) (sumL s p))).toArray rfl rfl 51 (iv (apP s xs vp)).toArray (row_heap hr2) (info51_iv hlen4) (by simp [iv_len, hlen4, hapl]) (iv_all _) ?_)
      have hgl := hr.lt
      refine ⟨(keeps_below _ ua.h).trans (keeps_setRow _ _ _ _), keep2_row q3 ((q3.below ua.h).row_far (by omega) _) q4 ((q4.below ua.h).row_far (by omega) _), (hfr.then_below ua.h).setRow (.inl rfl) _, ?_⟩
      rw [valsC_snoc, HXV.out, HVP.out, HS.out]
      exact hr2.row _
    · have hep : eP s xs x.1 = s.size := by unfold eP; rw [if_neg h2]
      have he24 : s.size < 25 := by omega
      have HP := Lib.hid (fun w => plus_any (apP s xs (valsC pre)) (sumL s s.size) w hsm (sumL_sm s (by omega)))
      have hsm2 : Sm (addL (apP s xs (valsC pre)) (sumL s s.size)) := ⟨addL_len hapl rfl, fun i hi => by
        rw [addL_at (by rw [hapl]; exact hi) (by exact hi), sumL_at s _ hi]
        have h1 := apP_b i hi
        have h3 := cnt_rng s i s.size
        omega⟩
      have HM := Lib.hid (fun w => minus_any (addL (apP s xs (valsC pre)) (sumL s s.size)) (sumL s p) w hsm2 (sumL_sm s (by omega)))
      rw [hep, hbp] at HS
      have e1 : min 2 (xs.length - 2 * x.1) = 1 := by omega
      unfold chunkV
      generalize hxv : x.1 = xv at *
      have HXV := Lib.hid hxv
      clear hxv
      rw [e1]
      generalize hvp : valsC pre = vp at *
      have HVP := Lib.hid hvp
      clear hvp hpre hsm hsm2 hcs hx hin hbb
      gi_wp2
      replace hO := hO.inRound l
      have cbA := fun u : After W => After.cell cb u
      refine wpIn_region_class_tail (C := fun w' => ∃ u : After _, w' = u.v) hO 13 (by kernel_rfl) (by kernel_rfl) (by kernel_rfl) (isAfter_start _) ?_
      simp only [List.take_succ_cons, List.take_zero, List.drop_succ_cons, List.drop_zero]
      try simp only [Act.put]
      repeat (first | ((with_reducible refine (?_ : wpQuiet _ _ _ _ (Oper.mk (some 19) _ _ _ _ _ :: _) _); go_big_quiet_want); refine quiet_load_row 51 (.tmp 5) rfl (w.heap.size + 1 + 1) rfl 51 (iv (apP s xs vp)) _ (fun _ hc => after_row hr hc) Try.underlying51 rfl (hi51 _ hapl) ?_; simp only [Act.put, List.setIfInBounds_toArray, List.set_cons_zero, List.set_cons_succ]; go_big_quiet_on) | ((with_reducible refine (?_ : wpQuiet _ _ _ _ (Oper.mk (some 23) _ _ _ _ _ :: _) _); go_big_quiet_want); refine quiet_load_mid 51 (.tmp 22) rfl w.heap.size (1 + s.size * 4) rfl (iv (sumL s s.size)) _ (fun _ hc => tal_range (by omega) hs (after_row q0 hc)) Try.underlying51 rfl (hi51 _ rfl) ?_; simp only [Act.put, List.setIfInBounds_toArray, List.set_cons_zero, List.set_cons_succ]; go_big_quiet_on) | ((with_reducible refine (?_ : wpQuiet _ _ _ _ (Oper.mk (some 30) _ _ _ _ _ :: _) _); go_big_quiet_want); refine quiet_load_mid 51 (.tmp 29) rfl w.heap.size (1 + p * 4) rfl (iv (sumL s p)) _ (fun _ hc => tal_range (by omega) hs (after_row q0 hc)) Try.underlying51 rfl (hi51 _ rfl) ?_; simp only [Act.put, List.setIfInBounds_toArray, List.set_cons_zero, List.set_cons_succ]; go_big_quiet_on) | go_big_quiet_step ((first | (with_reducible refine (HP.out _).mono ?_; rintro e w8 ⟨rfl, b8⟩; exact ⟨rfl, After.done _ b8⟩) | (with_reducible refine (HM.out _).mono ?_; rintro e w8 ⟨rfl, b8⟩; exact ⟨rfl, After.done _ b8⟩))))
      refine wpQuiet_nil ?_
      rintro _ ⟨ua, rfl⟩
      have hr2 := after_row hr ⟨ua, rfl⟩
      have hlen4 : (subL (addL (apP s xs vp) (sumL s s.size)) (sumL s p)).length = 4 := subL_len (addL_len hapl rfl) rfl
      gi_wp2_with (refine wpListIn_store_row rfl 51 (.tmp 5) (.tmp 31) rfl (w.heap.size + 1 + 1) (iv (subL (addL (apP s xs vp) (sumL s s.size)) (sumL s p))).toArray rfl rfl 51 (iv (apP s xs vp)).toArray (row_heap hr2) (info51_iv hlen4) (by simp [iv_len, hlen4, hapl]) (iv_all _) ?_)
      have hgl := hr.lt
      refine ⟨(keeps_below _ ua.h).trans (keeps_setRow _ _ _ _), keep2_row q3 ((q3.below ua.h).row_far (by omega) _) q4 ((q4.below ua.h).row_far (by omega) _), (hfr.then_below ua.h).setRow (.inl rfl) _, ?_⟩
      rw [valsC_snoc, HXV.out, HVP.out, HS.out]
      exact hr2.row _
  case done =>
    rintro D ys W hD hxs ⟨hfr, hr⟩ hK
    rw [hxs] at hr
    have hap : Sm (apP s xs (List.range ((xs.length + 1) / 2))) := apP_sm hs hin (fun k hk => by have := List.mem_range.1 hk; omega) (by rw [List.length_range]; omega)
    have hlen4 := hap.1
    have q1 : Row W (w.heap.size + 1) 51 Z4 := r1.fr hfr (by omega)
    have hB := hfr.under hb (fun i hi => by omega)
    have hi51 := info51_iv hlen4
    have hi51' : (Try.prog.info? 51).map (·.size) = some (iv (apP s xs (List.range ((xs.length + 1) / 2)))).length := by rw [iv_len, hlen4]; exact info51
    gi_wp2_with (first
      | (refine wpListIn_load_mid rfl 51 (.tmp 5) rfl (w.heap.size + 1 + 1) 0 rfl (iv (apP s xs (List.range ((xs.length + 1) / 2)))) _ hr.range Try.underlying51 rfl hi51' ?_)
      | (refine wpListIn_store_row rfl 51 (.tmp 4) (.tmp 32) rfl (w.heap.size + 1) (iv (apP s xs (List.range ((xs.length + 1) / 2)))).toArray rfl rfl 51 Z4.toArray (row_heap q1) hi51 (size51_iv hlen4) (iv_all _) ?_))
    have hm3 := marks_one (keeps_mark (keeps_setRow w1.heap.size W (w.heap.size + 1) (iv (apP s xs (List.range ((xs.length + 1) / 2)))).toArray) hD hK)
    refine ret_marks [D] hm3 (v := .agg (iv (apL s xs)).toArray) (res1 Try.results55 rfl (cell4_res hlen4 (shut_row hm3 (q1.row _)))) ⟨rfl, shut_below (below_row hB (by omega) _) (by simp; omega)⟩
end Go.Proofs.Ytopeppnajbnfgaa
