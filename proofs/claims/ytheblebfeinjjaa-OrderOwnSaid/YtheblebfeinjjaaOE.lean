/- slices.Delete; the order with a table. -/
import Derived.Test.YtheblebfeinjjaaNX
import Derived.Shelf.Slices.Delete
import Derived.Ground.Names2Prog
namespace Go.Proofs
open Go.Shelf
def Try.delI_ren : Go.Shelf.Ren := ⟨fun | 23 => 73 | n => n, fun | 22 => 22 | 3 => 3 | 4 => 4 | 0 => 0 | n => n, fun | n => n⟩
theorem Try.delI : Go.Proofs.Lays2.n23 Try.prog Try.delI_ren := {
  mixed := by kernel_rfl
  f23 := Try.func73.trans (congrArg some (by kernel_rfl))
  t0 := Try.underlying0
  a0 := Try.isAgg0
  z0 := Try.sizeOf0
  v0 := Try.zeroValue0
  t3 := Try.underlying3
  a3 := Try.isAgg3
  z3 := Try.sizeOf3
  v3 := Try.zeroValue3
  t4 := Try.underlying4
  a4 := Try.isAgg4
  z4 := Try.sizeOf4
  v4 := Try.zeroValue4
  t22 := Try.underlying22
  a22 := Try.isAgg22
  z22 := Try.sizeOf22
  v22 := Try.zeroValue22
  i3 := by kernel_rfl }
end Go.Proofs
namespace Go.Proofs.Ytheblebfeinjjaa
open Go.RowKit Go.Sort Go.Lib
set_option maxHeartbeats 1000000
set_option maxRecDepth 100000
theorem erase_len {l : List Int} {s : Nat} (h : s < l.length) : (l.eraseIdx s).length = l.length - 1 := List.length_eraseIdx_of_lt h
theorem erase_td : ∀ (l : List Int) (s : Nat), l.eraseIdx s = l.take s ++ l.drop (s + 1)
  | [], s => by simp
  | x :: t, 0 => by simp
  | x :: t, s + 1 => by
    rw [List.eraseIdx_cons_succ, List.take_succ_cons, List.drop_succ_cons, List.cons_append, erase_td t s]
theorem erase_perm : ∀ {l : List Int} {s : Nat} (h : s < l.length), (l[s] :: l.eraseIdx s).Perm l
  | x :: t, 0, _ => by simp
  | x :: t, s + 1, h => by
    rw [List.eraseIdx_cons_succ, List.getElem_cons_succ]
    exact (List.Perm.swap x _ _).trans (List.Perm.cons x (erase_perm (by simpa using h)))
theorem Delete_any {w : World} {g : Nat} {l : List Int} {s : Nat} (hr : Row w g 50 (iv (pad l))) (hl : l.length ≤ 12) (hs : s < l.length) :
    Calls Try.prog 73 #[.slice (some ⟨g, 0, none⟩) l.length 12, .int .i64 s, .int .i64 ((s : Int) + 1)] w fun e w' => e = .returned (.slice (some ⟨g, 0, none⟩) (l.eraseIdx s).length 12) ∧ Row w' g 50 (iv (pad (l.eraseIdx s))) ∧ w.grownBy w' (some g) := by
  have hH : Holds (Value.int .i64) w g 0 l.toArray := fun j hj => by
    have hj' : j < l.length := by simpa using hj
    refine ⟨?_, by rw [Nat.zero_add]; exact hr.free j⟩
    rw [Nat.zero_add, ivR hr (i := j) (by rw [pad_len hl]; omega), pad_at, geti_eq hj', getElem!_pos _ j hj]
    simp
  have L := Any.slices_Delete_int Try.delI g 0 12 s (s + 1) l w hH hl (by omega) (by omega) (by omega)
  change Calls Try.prog 73 _ _ _ at L
  rw [Int.natCast_add, Int.natCast_one, show s + 1 - s = 1 by omega, ← erase_len hs] at L
  refine L.mono ?_
  rintro e w' ⟨rfl, q, rfl⟩
  have he : l.take s ++ l.drop (s + 1) = l.eraseIdx s := (erase_td l s).symm
  rw [he]
  have hlt := hr.lt
  refine ⟨rfl, ?_, ⟨rfl, rfl, rfl, by simp [putRow, mapBlock, Sort.ahead], fun k hk hne => ?_⟩⟩
  · have hb := row_heap hr
    unfold Row
    simp only [putRow, mapBlock, Sort.ahead, Array.getElem?_modify, hb, onCells, if_true, Option.map_some]
    congr 2
    apply Array.ext'
    apply List.ext_getElem?
    intro i
    have hp := pad_len hl
    have hel := erase_len hs
    have hp2 := pad_len (l := l.eraseIdx s) (by omega)
    rw [Array.getElem?_toList]
    unfold putCells
    rw [Array.getElem?_mapIdx, List.getElem?_toArray]
    by_cases hi : i < 12
    · rw [iv_get (by omega), iv_get (by omega), Option.map_some]
      congr 1
      rw [pad_at, pad_at]
      have hs2 : (l.eraseIdx s ++ List.replicate 1 0).toArray.size = l.length := by rw [List.size_toArray, List.length_append, hel, List.length_replicate]; omega
      by_cases h : i < l.length
      · rw [if_pos ⟨by omega, by omega⟩, getElem!_pos _ _ (by omega)]
        congr 1
        rw [List.getElem_toArray]
        by_cases h2 : i < (l.eraseIdx s).length
        · rw [geti_eq h2]
          simp [List.getElem_append, h2]
        · rw [geti_ge (by omega)]
          simp [List.getElem_append, h2]
      · rw [if_neg (by omega), geti_ge (by omega), geti_ge (by omega)]
    · rw [List.getElem?_eq_none (by rw [iv_len]; omega), List.getElem?_eq_none (by rw [iv_len]; omega)]; rfl
  · have hgk : g ≠ k := fun e => hne (by rw [e])
    simp [putRow, mapBlock, Sort.ahead, Array.getElem?_modify, hgk]
/-- The order with a table: each number has as many smaller ones among those that are left. -/
def wtN : List Int → List Int → List Int
  | [], _ => []
  | s :: rest, left => geti left s.toNat :: wtN rest (left.eraseIdx s.toNat)
def mdL (t : List Int) : List Int := wtN t (asc t.length)
/-- A table of an order. -/
def okT : List Int → Bool
  | [] => true
  | s :: rest => decide (0 ≤ s) && decide (s ≤ rest.length) && okT rest
theorem wtN_len : ∀ (t left : List Int), (wtN t left).length = t.length
  | [], _ => rfl
  | s :: rest, left => by
    unfold wtN
    rw [List.length_cons, List.length_cons, wtN_len]
theorem wtN_perm : ∀ (t left : List Int), okT t = true → t.length = left.length → (wtN t left).Perm left
  | [], left, _, h => by
    have : left = [] := List.eq_nil_of_length_eq_zero (by simpa using h.symm)
    rw [this]; exact List.Perm.refl _
  | s :: rest, left, hk, h => by
    unfold okT at hk
    simp only [Bool.and_eq_true, decide_eq_true_eq] at hk
    obtain ⟨⟨h1, h2⟩, h3⟩ := hk
    rw [List.length_cons] at h
    have hs : s.toNat < left.length := by omega
    unfold wtN
    refine List.Perm.trans (List.Perm.cons _ (wtN_perm rest _ h3 (by rw [erase_len hs]; omega))) ?_
    rw [geti_eq hs]
    exact erase_perm hs
theorem okT_iso {t : List Int} (hl : t.length ≤ 12) (h : okT t = true) : IsO (mdL t) := by
  have hp := wtN_perm t (asc t.length) h (asc_len _).symm
  exact IsO.of_perm (by show (wtN t (asc t.length)).length ≤ 12; rw [hp.length_eq, asc_len]; exact hl) hp
/-- While the table is read: what stands, what is left, what is to be read. -/
structure WtI (t done left : List Int) (k : Nat) : Prop where
  hd : done.length = k
  hl : left.length = t.length - k
  ht : okT (t.drop k) = true
  hr : done ++ wtN (t.drop k) left = mdL t
theorem WtI.start {t : List Int} (h : okT t = true) : WtI t [] (asc t.length) 0 := ⟨rfl, by rw [asc_len]; rfl, h, rfl⟩
theorem WtI.step {t done left : List Int} {k : Nat} (h : WtI t done left k) (hk : k < t.length) : 0 ≤ geti t k ∧ (geti t k).toNat < left.length ∧ WtI t (done ++ [geti left (geti t k).toNat]) (left.eraseIdx (geti t k).toNat) (k + 1) := by
  obtain ⟨h1, h2, h3, h4⟩ := h
  rw [drop_cons hk] at h3 h4
  unfold okT at h3
  simp only [Bool.and_eq_true, decide_eq_true_eq, List.length_drop] at h3
  obtain ⟨⟨h5, h6⟩, h7⟩ := h3
  have hs : (geti t k).toNat < left.length := by omega
  refine ⟨h5, hs, ⟨by rw [List.length_append, List.length_singleton, h1], by rw [erase_len hs]; omega, h7, ?_⟩⟩
  rw [← h4]
  conv => rhs; unfold wtN
  rw [List.append_assoc, List.singleton_append]
theorem WtI.all {t done left : List Int} {k : Nat} (h : WtI t done left k) (hk : k = t.length) : done = mdL t := by
  obtain ⟨h1, h2, h3, h4⟩ := h
  subst hk
  rw [List.drop_length] at h4
  unfold wtN at h4
  rw [← h4, List.append_nil]
theorem withTable_any (A : Option Addr) (c : Nat) (t : List Int) (w : World) (hl : t.length ≤ 12) (ht : okT t = true) (ha : IntsAt w A t) :
    Calls Try.prog 58 #[.slice A t.length c] w fun e w' => e = .returned (arr (mdL t)) ∧ Below w.heap.size w w' := by
  have hpa : (pad (asc t.length)).length = 12 := pad_len (by rw [asc_len]; exact hl)
  have hia := info50_iv hpa
  have q0 : Row ((w.alloc (.cells Z12.toArray 50)).alloc (.cells Z12.toArray 50)) w.heap.size 50 Z12 := (row_new rfl).alloc _
  have p0 : Row ((w.alloc (.cells Z12.toArray 50)).alloc (.cells Z12.toArray 50)) (w.heap.size + 1) 50 (iv (pad [])) := row_new (by simp)
  have b0 : Below w.heap.size w ((w.alloc (.cells Z12.toArray 50)).alloc (.cells Z12.toArray 50)) := by (repeat (first | exact Below.refl _ _ | assumption | (refine Below.setCell ?_ (by first | exact Nat.le_refl _ | omega | (simp; done) | (simp; omega)) _) | (refine Below.trans ?_ (below_drewN _)) | (refine Below.drew ?_) | (refine Below.alloc ?_ (by first | exact Nat.le_refl _ | omega | (simp; done) | (simp; omega)) _) | (refine below_row ?_ (by first | exact Nat.le_refl _ | omega | (simp; done) | (simp; omega)) _)))
  have HAS := Lib.hid (fun w => ascending_any t.length w hl)
  have HW := Lib.hid (WtI.start ht)
  have hmp : (pad (mdL t)).length = 12 := pad_len (by unfold mdL; rw [wtN_len]; exact hl)
  have him := info50_iv hmp
  have HA := Lib.hid ha
  have hasl := asc_len t.length
  unfold arr at HAS ⊢
  clear ha ht
  have hsh : ∀ (b : Nat) (w' : World), (Instr.sliceAt 50 (.pointer (some ⟨b, 0, none⟩)) none (some (.int .i64 t.length)) none).run Try.prog w' = .ok (.slice (some ⟨b, 0, none⟩) t.length 12) w' := fun b w' => slice50_h hl
  generalize asc t.length = L0 at *
  go_enter Try.func58, Try.ntmps58
  go_wp2_with (first
    | (go_at_call 70; refine (HAS.out _).mono ?_; rintro e w2 ⟨rfl, b2⟩; have q1 := (q0.below b2).alloc (.cells Z12.toArray 50); have p1 := (p0.below b2).alloc (.cells Z12.toArray 50); replace b0 := b0.trans (b2.mono b0.size); have hz := b2.size; have l1 : Row (w2.alloc (.cells Z12.toArray 50)) w2.heap.size 50 Z12 := row_new rfl; have hz2 := b0.size; replace b0 := b0.alloc b0.size (.cells Z12.toArray 50))
    | ((with_reducible refine (?_ : wpList _ _ _ (Oper.mk none _ _ _ _ _ :: _) _ _)); refine wpList_store_row rfl 50 (.tmp 4) (.tmp 10) rfl w2.heap.size (iv (pad L0)).toArray rfl rfl 50 Z12.toArray (row_heap l1) hia (size50_Z hpa) (iv_all _) ?_; have hz3 : w.heap.size + 1 < w2.heap.size := (by simp at hz; omega); replace l1 := l1.row (iv (pad L0)); replace q1 := q1.row_far (k := w2.heap.size) (by omega) (iv (pad L0)).toArray; replace p1 := p1.row_far (k := w2.heap.size) (by omega) (iv (pad L0)).toArray; replace b0 := below_row (g := w2.heap.size) b0 hz2 (iv (pad L0)).toArray; generalize World.setRow (w2.alloc _) _ _ = W at *; clear q0 p0 b2))
  generalize w2.heap.size = g at *
  have HTL := Lib.hid hasl.symm
  clear hasl HAS hia hpa
  go_loopw [5, 16] (fun v i wr => ∃ (k m : Nat) (done left : List Int), k ≤ t.length ∧ i = .int .i64 k ∧ v = .slice (some ⟨g, 0, none⟩) m 12 ∧ m ≤ 12 ∧ Hid (m = left.length) ∧ Hid (WtI t done left k) ∧ Row wr g 50 (iv (pad left)) ∧ Row wr (w.heap.size + 1) 50 (iv (pad done)) ∧ Row wr w.heap.size 50 Z12 ∧ Below w.heap.size w wr) (fun _ i _ => t.length - (intOf i).toNat)
  case atStart => exact ⟨0, t.length, [], L0, by omega, rfl, rfl, hl, HTL, HW, l1, p1, q1, b0⟩
  case round =>
    clear l1 p1 q1 b0 HW HTL
    obtain ⟨k, m, done, left, hk, rfl, rfl, hm12, HM, HW, l1, p1, q1, b0⟩ := hrel
    by_cases hlt : k < t.length
    · obtain ⟨s0, s1, hw2⟩ := HW.out.step hlt
      have HW2 := Lib.hid hw2
      obtain ⟨bA, oA, hAe, hbA, hcA⟩ := (HA.out.below b0) (by omega)
      subst hAe
      have c1 := hcA k hlt
      clear hcA hw2
      obtain ⟨s, hs⟩ : ∃ s : Nat, geti t k = s := ⟨(geti t k).toNat, by omega⟩
      rw [hs] at c1
      rw [hs, Int.toNat_natCast] at s1 HW2
      clear s0 hs
      have hlm : left.length ≤ 12 := by rw [← HM.out]; exact hm12
      have c2 := ivR l1 (i := s) (by rw [pad_len hlm]; omega)
      rw [pad_at] at c2
      have hdl : done.length = k := HW.out.hd
      have hpd : (pad done).length = 12 := pad_len (by omega)
      have c3 := ivR p1 (i := k) (by omega)
      have f3 := p1.free k
      have HPS := Lib.hid (show (pad done).set k (geti left s) = pad (done ++ [geti left s]) by rw [← hdl]; exact pad_set (by omega))
      have HDE := Lib.hid (fun (W : World) (hr : Row W g 50 (iv (pad left))) => Delete_any hr hlm s1)
      rw [← HM.out] at HDE s1
      have hle2 : (left.eraseIdx s).length ≤ 12 := by rw [erase_len (by rw [← HM.out]; exact s1)]; omega
      obtain ⟨M2, hM2⟩ : ∃ M2, (left.eraseIdx s).length = M2 := ⟨_, rfl⟩
      rw [hM2] at HDE hle2
      have HM2 := Lib.hid hM2.symm
      clear hM2 hdl hpd hlm
      generalize left.eraseIdx s = L2 at *
      generalize geti left s = x at *
      generalize geti (pad done) k = y at *
      have hgw : w.heap.size + 1 < g := hz3
      go_wp2_with (go_at_call 73; refine (HDE.out _ (l1.far (by dsimp only; omega) _)).mono ?_; rintro e w5 ⟨rfl, l5, g5⟩)
      have p5 := p1.set k (.int .i64 x)
      rw [iv_set, HPS.out] at p5
      replace p5 := p5.grown g5 (by intro e; injection e with e; omega)
      have q5 := (q1.far (p := ⟨w.heap.size + 1, k, none⟩) (by dsimp only; omega) (.int .i64 x)).grown g5 (by intro e; injection e with e; omega)
      have b5 := (b0.setCell (p := ⟨w.heap.size + 1, k, none⟩) (by dsimp only; omega) (.int .i64 x)).grown g5 (by rw [World.size_setCell]; exact b0.size) (fun k e => by injection e with e; omega)
      go_roundw
      case rel => exact ⟨k + 1, M2, done ++ [x], L2, by omega, by go_num, rfl, hle2, HM2, HW2, l5, p5, q5, b5⟩
      case measure => simp [intOf]; omega
    · obtain rfl : k = t.length := by omega
      have HD := Lib.hid (HW.out.all rfl)
      rw [HD.out] at p1
      go_wp2_with (first
        | ((with_reducible refine (?_ : wpList _ _ _ (Oper.mk (some 33) _ _ _ _ _ :: _) _ _)); refine wpList_load_row rfl 50 (.tmp 3) rfl (w.heap.size + 1) rfl 50 (iv (pad (mdL t))).toArray (0, 0) _ (row_heap p1) Try.underlying50 rfl him ?_)
        | ((with_reducible refine (?_ : wpList _ _ _ (Oper.mk none _ _ _ _ _ :: _) _ _)); refine wpList_store_row rfl 50 (.tmp 2) (.tmp 33) rfl w.heap.size (iv (pad (mdL t))).toArray rfl rfl 50 Z12.toArray (row_heap q1) him (size50_Z hmp) (iv_all _) ?_))
      exact bodyPost_ret (v := .agg (iv (pad (mdL t))).toArray) (res1 Try.results58 rfl (cell50_res hmp (q1.row (iv (pad (mdL t)))))) rfl ⟨rfl, below_row b0 (Nat.le_refl _) _⟩
end Go.Proofs.Ytheblebfeinjjaa
