/- Regions whose order is drawn, in which calls make memory but write none that lay there; the numbers of an order. -/
import Derived.Test.YtheblebfeinjjaaNN
namespace Go.Proofs.Ytheblebfeinjjaa
open Go.RowKit
set_option maxHeartbeats 1000000
set_option maxRecDepth 100000
/-- A world behind w, in which all that lay there lies as it lay. -/
structure After (w : World) where
  v : World
  h : Below w.heap.size w v
instance (w : World) : Nonempty (After w) := ⟨⟨w, Below.refl _ _⟩⟩
def isAfter (w : World) : World → Prop := fun w' => ∃ u : After w, w' = u.v
theorem After.row {w : World} {g : Nat} {t : TypeId} {cs : List Value} (h : Row w g t cs) (u : After w) : Row u.v g t cs := h.below u.h
theorem after_row {w w' : World} {g : Nat} {t : TypeId} {cs : List Value} (h : Row w g t cs) (hc : ∃ u : After w, w' = u.v) : Row w' g t cs := by obtain ⟨u, rfl⟩ := hc; exact h.below u.h
theorem After.cell {w : World} {p : Addr} {v : Value} (h : w.cell? p = some v) (u : After w) : u.v.cell? p = some v := by
  have hb := block_lt_of_cell h
  rw [World.cell?_of_block (u.h.block _ hb)]; exact h
theorem After.done {w w2 : World} (u : After w) (h : Below u.v.heap.size u.v w2) : ∃ u2 : After w, w2 = u2.v := ⟨⟨w2, u.h.trans (h.mono u.h.size)⟩, rfl⟩
section
variable {P : Program} {F : Fence} {m : Nat}
theorem wp_region_class_tail {C : World → Prop} {id : Nat} {R : Exit → Act → World → Prop} {a : Act} {w : World} {l : List Oper} (n : Nat) (hm : P.follows .mixedOrders = true) (hB : Region.lexTailB .any l.toArray n = true)
    (hC : C { w with drawn := w.drawn + 1 })
    (h : wpQuiet P l.toArray C (fun a' => ∀ w', C w' → wpList P l.toArray R (l.drop n) a' w') (l.take n) a) : (Code.region id l.toArray true).wp P R a w := by
  simp only [Region.lexTailB, Bool.and_eq_true, decide_eq_true_eq] at hB
  obtain ⟨⟨⟨⟨hsel, hn⟩, hs⟩, hc⟩, hlex⟩ := hB
  have hn' : n < l.length := by simpa using hn
  have htl : (l.take n).length = n := by simp; omega
  have hdl : (l.drop n).length = l.toArray.size - n := by simp
  have inv0 : HeadInv .any l.toArray n (Array.replicate l.toArray.size false) :=
    ⟨by simp, fun j oj _ hl => (by rw [getD_replicate_false] at hl; cases hl), fun t _ ht => getD_in (by simpa using ht) (getD_replicate_false _ _)⟩
  have H := headQ_lex (md := .any) (g := l.toArray.size - n) hsel hs hc hn (l.take n) 0 _ a (fun j hj => by rw [htl] at hj; simp [hj]) (by simpa using htl) inv0 (by rw [htl]; exact hlex) h
  refine wp_region_any hm ?_
  have h2 := wpAny_of_headQ (C := C) (R := R) (g := l.toArray.size - n) (fun d a' w' hw' hL => by
    have h3 := wpAny_of_seq (md := .any) (Q' := R) (l.drop n) n d a' w' (fun j => by simp [List.getElem?_drop]) (by rw [hdl]; exact hL.1) (hL.2 w' hw')
    rwa [hdl] at h3) _ _ _ { w with drawn := w.drawn + 1 } hC H
  rw [htl, show n + (l.toArray.size - n) = l.toArray.size by omega] at h2
  exact h2
theorem wpIn_region_class_tail {C : World → Prop} (hO : Open F) {id : Nat} {R : Exit → Act → World → Prop} {a : Act} {w : World} {l : List Oper} (n : Nat) (hm : P.follows .mixedOrders = true) (hD : noDefer l.toArray = true)
    (hB : Region.lexTailB .any l.toArray n = true) (hC : C { w with drawn := w.drawn + 1 })
    (h : wpQuiet P l.toArray C (fun a' => ∀ w', C w' → wpListIn F m P l.toArray R (l.drop n) a' w') (l.take n) a) : (Code.region id l.toArray true).wpIn F m P R a w := by
  simp only [Region.lexTailB, Bool.and_eq_true, decide_eq_true_eq] at hB
  obtain ⟨⟨⟨⟨hsel, hn⟩, hs⟩, hc⟩, hlex⟩ := hB
  have hn' : n < l.length := by simpa using hn
  have htl : (l.take n).length = n := by simp; omega
  have hdl : (l.drop n).length = l.toArray.size - n := by simp
  have inv0 : HeadInv .any l.toArray n (Array.replicate l.toArray.size false) :=
    ⟨by simp, fun j oj _ hl => (by rw [getD_replicate_false] at hl; cases hl), fun t _ ht => getD_in (by simpa using ht) (getD_replicate_false _ _)⟩
  have H := headQ_lex (md := .any) (g := l.toArray.size - n) hsel hs hc hn (l.take n) 0 _ a (fun j hj => by rw [htl] at hj; simp [hj]) (by simpa using htl) inv0 (by rw [htl]; exact hlex) h
  refine wpIn_region_any hm ?_
  have h2 := wpAnyIn_of_headQ (C := C) (R := R) (m := m) hO hD (g := l.toArray.size - n) (fun d a' w' hw' hL => by
    have h3 := wpAnyIn_of_seq (F := F) (m := m) (P := P) (md := .any) (R := R) (l.drop n) n d a' w' (fun j => by simp [List.getElem?_drop]) (by rw [hdl]; exact hL.1) (hL.2 w' hw')
    rwa [hdl] at h3) _ _ _ { w with drawn := w.drawn + 1 } hC H
  rw [htl, show n + (l.toArray.size - n) = l.toArray.size by omega] at h2
  exact h2
theorem wpIn_region_class_all {C : World → Prop} (hO : Open F) {id : Nat} {R : Exit → Act → World → Prop} {a : Act} {w : World} {l : List Oper} (hm : P.follows .mixedOrders = true) (hD : noDefer l.toArray = true) (hB : Region.lexB .any l.toArray = true)
    (hC : C { w with drawn := w.drawn + 1 })
    (h : wpQuiet P l.toArray C (fun a' => ∀ w', C w' → R .normal a' w') l a) : (Code.region id l.toArray true).wpIn F m P R a w := by
  simp only [Region.lexB, Bool.and_eq_true] at hB
  refine wpIn_region_any hm (wpAnyIn_of_quiet' (C := C) hO hD (K := fun a' => ∀ w', C w' → R .normal a' w') (fun _ w' hw' h => h w' hw') _ _ _ _ hC ?_)
  have := wpAnyQ_lex (C := C) (md := .any) hB.1 l 0 (Array.replicate l.toArray.size false) a (by simp) (by simpa using hB.2) h
  simpa using this
theorem wp_region_class_all {C : World → Prop} {id : Nat} {R : Exit → Act → World → Prop} {a : Act} {w : World} {l : List Oper} (hm : P.follows .mixedOrders = true) (hB : Region.lexB .any l.toArray = true)
    (hC : C { w with drawn := w.drawn + 1 })
    (h : wpQuiet P l.toArray C (fun a' => ∀ w', C w' → R .normal a' w') l a) : (Code.region id l.toArray true).wp P R a w := by
  simp only [Region.lexB, Bool.and_eq_true] at hB
  refine wp_region_any hm (wpAny_of_quiet (C := C) (Q := fun a' => ∀ w', C w' → R .normal a' w') (fun _ w' hw' h => h w' hw') _ _ _ _ hC ?_)
  have := wpAnyQ_lex (C := C) (md := .any) hB.1 l 0 (Array.replicate l.toArray.size false) a (by simp) (by simpa using hB.2) h
  simpa using this
theorem isAfter_start (w : World) : isAfter w { w with drawn := w.drawn + 1 } := ⟨⟨{ w with drawn := w.drawn + 1 }, (Below.refl _ w).drew⟩, rfl⟩
theorem quiet_load_row {C : World → Prop} {K : Act → Prop} {o : Oper} {a : Act} (ty : TypeId) (x : Operand) (ho : o.op = .load ty x) (g : Nat) (hx : a.eval x = .pointer (some ⟨g, 0, none⟩)) (t : TypeId) (cs : List Value) (d : TypeDesc)
    (hS : ∀ w, C w → Row w g t cs) (hu : P.underlying ty = some d) (hd : d.isRow = true) (hi : (P.info? ty).map (·.size) = some cs.length) (hk : K (a.put o.dst (.agg cs.toArray))) : o.quiet P a C K :=
  ⟨_, fun w hw => by
    unfold Oper.quietAt execOp
    simp only [ho, hx, Instr.loadAt, Instr.sureAddr, Sem.run_bind, Sem.run_pure, Result.andThen_ok, run_loadVar_mid w g 0 ty cs d ((hS w hw).range) hu hd hi]
    exact ⟨rfl, rfl⟩, hk⟩
theorem quiet_load_mid {C : World → Prop} {K : Act → Prop} {o : Oper} {a : Act} (ty : TypeId) (x : Operand) (ho : o.op = .load ty x) (b off : Nat) (hx : a.eval x = .pointer (some ⟨b, off, none⟩)) (cs : List Value) (d : TypeDesc)
    (hS : ∀ w, C w → w.rangeAt b off cs) (hu : P.underlying ty = some d) (hd : d.isRow = true) (hi : (P.info? ty).map (·.size) = some cs.length) (hk : K (a.put o.dst (.agg cs.toArray))) : o.quiet P a C K :=
  ⟨_, fun w hw => by
    unfold Oper.quietAt execOp
    simp only [ho, hx, Instr.loadAt, Instr.sureAddr, Sem.run_bind, Sem.run_pure, Result.andThen_ok, run_loadVar_mid w b off ty cs d (hS w hw) hu hd hi]
    exact ⟨rfl, rfl⟩, hk⟩
theorem quiet_lookup {C : World → Prop} {K : Act → Prop} {o : Oper} {a : Act} (t : TypeId) (m x : Operand) (ok : Bool) (ho : o.op = .lookup t m x ok) (vm vx r : Value) (hm : a.eval m = vm) (hx : a.eval x = vx)
    (hS : ∀ w, C w → (Instr.lookup t vm vx ok).run P w = .ok r w) (hk : K (a.put o.dst r)) : o.quiet P a C K :=
  ⟨_, fun w hw => by
    unfold Oper.quietAt execOp
    simp only [ho, hm, hx, Sem.run_bind, hS w hw, Sem.run_pure, Result.andThen_ok]
    exact ⟨rfl, rfl⟩, hk⟩
end
abbrev Z6 : List Value := [.int .i64 0, .int .i64 0, .int .i64 0, .int .i64 0, .int .i64 0, .int .i64 0]
def nmL (l : List Int) : List Int := [sumN (tabL l) l.length, (majN l l.length : Nat), (cntN (isDb l) l.length : Nat), (cntN (isEb l) l.length : Nat), (cntN (isGb l) l.length : Nat), (cntN (isRb l) l.length : Nat)]
theorem info25 : (Try.prog.info? 25).map (·.size) = some 6 := by kernel_rfl
theorem load25 {W : World} {k : Nat} {a b c d e f : Int} (hr : Row W k 25 (iv [a, b, c, d, e, f])) : (loadVar 25 ⟨k, 0, none⟩).run Try.prog W = .ok (.agg (iv [a, b, c, d, e, f]).toArray) W :=
  run_loadVar_row (P := Try.prog) W k 25 25 (iv [a, b, c, d, e, f]).toArray (0, 0) _ hr Try.underlying25 rfl info25
theorem numbers_any (l : List Int) (w : World) (h : IsO l) : Calls Try.prog 50 #[arr l] w fun e w' => e = .returned (.agg (iv (nmL l)).toArray) ∧ Below w.heap.size w w' := by
  have hle := h.le
  have hpl := pad_len hle
  have hi : (Try.prog.info? 50).map (·.size) = some (iv (pad l)).length := by rw [iv_len, hpl]; exact info50
  have HINV := Lib.hid (fun w => inversions_any l w h)
  have HMAJ := Lib.hid (fun w => major_any l w h)
  have HDES := Lib.hid (fun w => descents_any l w h)
  have HEXC := Lib.hid (fun w => excedances_any l w h)
  have HCYC := Lib.hid (fun w => cycles_any l w h)
  have HREC := Lib.hid (fun w => records_any l w h)
  unfold nmL
  unfold arr at HINV HMAJ HDES HEXC HCYC HREC ⊢
  generalize pad l = X at *
  generalize sumN (tabL l) l.length = v1 at *
  generalize majN l l.length = v2 at *
  generalize cntN (isDb l) l.length = v3 at *
  generalize cntN (isEb l) l.length = v4 at *
  generalize cntN (isGb l) l.length = v5 at *
  generalize cntN (isRb l) l.length = v6 at *
  clear h
  go_enter Try.func50, Try.ntmps50
  go_wp2_with (go_at_call 71; fail)
  refine (statistics_any _).mono ?_
  rintro e w2 ⟨g, rfl, hg, hst, b2⟩
  have r0 : Row ((w.alloc (.cells (iv X).toArray 50)).alloc (.cells Z6.toArray 25)) w.heap.size 50 (iv X) := (row_new rfl).alloc _
  have q0 : Row ((w.alloc (.cells (iv X).toArray 50)).alloc (.cells Z6.toArray 25)) (w.heap.size + 1) 25 Z6 := row_new (by simp)
  have b0 : Below w.heap.size w ((w.alloc (.cells (iv X).toArray 50)).alloc (.cells Z6.toArray 25)) := by (repeat (first | exact Below.refl _ _ | assumption | (refine Below.setCell ?_ (by first | exact Nat.le_refl _ | omega | (simp; done) | (simp; omega)) _) | (refine Below.trans ?_ (below_drewN _)) | (refine Below.drew ?_) | (refine Below.alloc ?_ (by first | exact Nat.le_refl _ | omega | (simp; done) | (simp; omega)) _) | (refine below_row ?_ (by first | exact Nat.le_refl _ | omega | (simp; done) | (simp; omega)) _)))
  replace r0 := r0.below b2
  replace q0 := q0.below b2
  replace b2 := b0.trans (b2.mono b0.size)
  obtain ⟨obj, ho, hlk⟩ := hst
  have hgl : g < w2.heap.size := (Array.getElem?_eq_some_iff.1 ho).1
  have HLK : Hid (∀ V, (∃ u : After w2, V = u.v) → ∀ i : Nat, i < 6 → (Instr.lookup 65 (.map (some g)) (.int .i64 i) false).run Try.prog V = .ok (.func (.func (83 + i)) #[] #[]) V) := Lib.hid (fun V hc i hi => by
    obtain ⟨u, rfl⟩ := hc
    exact hlk _ ((u.h.block g hgl).trans ho) i hi)
  clear hlk ho b0
  go_wp2
  refine wp_region_class_tail (C := fun w' => ∃ u : After _, w' = u.v) 25 (by kernel_rfl) (by kernel_rfl) (isAfter_start _) ?_
  simp only [List.take_succ_cons, List.take_zero, List.drop_succ_cons, List.drop_zero]
  try simp only [Act.put]
  repeat (first | ((with_reducible refine (?_ : wpQuiet _ _ _ _ (Oper.mk (some 6) _ _ _ _ _ :: _) _); go_big_quiet_want); refine quiet_lookup 65 (.tmp 5) (.const (.int .i64 0)) false rfl (.map (some g)) (.int .i64 0) (.func (.func 83) #[] #[]) rfl rfl (fun _ hc => HLK.out _ hc 0 (by omega)) ?_; simp only [Act.put, List.setIfInBounds_toArray, List.set_cons_zero, List.set_cons_succ]; go_big_quiet_on) | ((with_reducible refine (?_ : wpQuiet _ _ _ _ (Oper.mk (some 7) _ _ _ _ _ :: _) _); go_big_quiet_want); refine quiet_load_row 50 (.tmp 1) rfl w.heap.size rfl 50 (iv X) _ (fun _ hc => after_row r0 hc) Try.underlying50 rfl hi ?_; simp only [Act.put, List.setIfInBounds_toArray, List.set_cons_zero, List.set_cons_succ]; go_big_quiet_on) | ((with_reducible refine (?_ : wpQuiet _ _ _ _ (Oper.mk (some 10) _ _ _ _ _ :: _) _); go_big_quiet_want); refine quiet_lookup 65 (.tmp 9) (.const (.int .i64 1)) false rfl (.map (some g)) (.int .i64 1) (.func (.func 84) #[] #[]) rfl rfl (fun _ hc => HLK.out _ hc 1 (by omega)) ?_; simp only [Act.put, List.setIfInBounds_toArray, List.set_cons_zero, List.set_cons_succ]; go_big_quiet_on) | ((with_reducible refine (?_ : wpQuiet _ _ _ _ (Oper.mk (some 11) _ _ _ _ _ :: _) _); go_big_quiet_want); refine quiet_load_row 50 (.tmp 1) rfl w.heap.size rfl 50 (iv X) _ (fun _ hc => after_row r0 hc) Try.underlying50 rfl hi ?_; simp only [Act.put, List.setIfInBounds_toArray, List.set_cons_zero, List.set_cons_succ]; go_big_quiet_on) | ((with_reducible refine (?_ : wpQuiet _ _ _ _ (Oper.mk (some 14) _ _ _ _ _ :: _) _); go_big_quiet_want); refine quiet_lookup 65 (.tmp 13) (.const (.int .i64 2)) false rfl (.map (some g)) (.int .i64 2) (.func (.func 85) #[] #[]) rfl rfl (fun _ hc => HLK.out _ hc 2 (by omega)) ?_; simp only [Act.put, List.setIfInBounds_toArray, List.set_cons_zero, List.set_cons_succ]; go_big_quiet_on) | ((with_reducible refine (?_ : wpQuiet _ _ _ _ (Oper.mk (some 15) _ _ _ _ _ :: _) _); go_big_quiet_want); refine quiet_load_row 50 (.tmp 1) rfl w.heap.size rfl 50 (iv X) _ (fun _ hc => after_row r0 hc) Try.underlying50 rfl hi ?_; simp only [Act.put, List.setIfInBounds_toArray, List.set_cons_zero, List.set_cons_succ]; go_big_quiet_on) | ((with_reducible refine (?_ : wpQuiet _ _ _ _ (Oper.mk (some 18) _ _ _ _ _ :: _) _); go_big_quiet_want); refine quiet_lookup 65 (.tmp 17) (.const (.int .i64 3)) false rfl (.map (some g)) (.int .i64 3) (.func (.func 86) #[] #[]) rfl rfl (fun _ hc => HLK.out _ hc 3 (by omega)) ?_; simp only [Act.put, List.setIfInBounds_toArray, List.set_cons_zero, List.set_cons_succ]; go_big_quiet_on) | ((with_reducible refine (?_ : wpQuiet _ _ _ _ (Oper.mk (some 19) _ _ _ _ _ :: _) _); go_big_quiet_want); refine quiet_load_row 50 (.tmp 1) rfl w.heap.size rfl 50 (iv X) _ (fun _ hc => after_row r0 hc) Try.underlying50 rfl hi ?_; simp only [Act.put, List.setIfInBounds_toArray, List.set_cons_zero, List.set_cons_succ]; go_big_quiet_on) | ((with_reducible refine (?_ : wpQuiet _ _ _ _ (Oper.mk (some 22) _ _ _ _ _ :: _) _); go_big_quiet_want); refine quiet_lookup 65 (.tmp 21) (.const (.int .i64 4)) false rfl (.map (some g)) (.int .i64 4) (.func (.func 87) #[] #[]) rfl rfl (fun _ hc => HLK.out _ hc 4 (by omega)) ?_; simp only [Act.put, List.setIfInBounds_toArray, List.set_cons_zero, List.set_cons_succ]; go_big_quiet_on) | ((with_reducible refine (?_ : wpQuiet _ _ _ _ (Oper.mk (some 23) _ _ _ _ _ :: _) _); go_big_quiet_want); refine quiet_load_row 50 (.tmp 1) rfl w.heap.size rfl 50 (iv X) _ (fun _ hc => after_row r0 hc) Try.underlying50 rfl hi ?_; simp only [Act.put, List.setIfInBounds_toArray, List.set_cons_zero, List.set_cons_succ]; go_big_quiet_on) | ((with_reducible refine (?_ : wpQuiet _ _ _ _ (Oper.mk (some 26) _ _ _ _ _ :: _) _); go_big_quiet_want); refine quiet_lookup 65 (.tmp 25) (.const (.int .i64 5)) false rfl (.map (some g)) (.int .i64 5) (.func (.func 88) #[] #[]) rfl rfl (fun _ hc => HLK.out _ hc 5 (by omega)) ?_; simp only [Act.put, List.setIfInBounds_toArray, List.set_cons_zero, List.set_cons_succ]; go_big_quiet_on) | ((with_reducible refine (?_ : wpQuiet _ _ _ _ (Oper.mk (some 27) _ _ _ _ _ :: _) _); go_big_quiet_want); refine quiet_load_row 50 (.tmp 1) rfl w.heap.size rfl 50 (iv X) _ (fun _ hc => after_row r0 hc) Try.underlying50 rfl hi ?_; simp only [Act.put, List.setIfInBounds_toArray, List.set_cons_zero, List.set_cons_succ]; go_big_quiet_on) | go_big_quiet_step ((first | (with_reducible refine (HINV.out _).mono ?_; rintro e w8 ⟨rfl, b8⟩; exact ⟨rfl, After.done _ b8⟩) | (with_reducible refine (HMAJ.out _).mono ?_; rintro e w8 ⟨rfl, b8⟩; exact ⟨rfl, After.done _ b8⟩) | (with_reducible refine (HDES.out _).mono ?_; rintro e w8 ⟨rfl, b8⟩; exact ⟨rfl, After.done _ b8⟩) | (with_reducible refine (HEXC.out _).mono ?_; rintro e w8 ⟨rfl, b8⟩; exact ⟨rfl, After.done _ b8⟩) | (with_reducible refine (HCYC.out _).mono ?_; rintro e w8 ⟨rfl, b8⟩; exact ⟨rfl, After.done _ b8⟩) | (with_reducible refine (HREC.out _).mono ?_; rintro e w8 ⟨rfl, b8⟩; exact ⟨rfl, After.done _ b8⟩))))
  refine wpQuiet_nil ?_
  rintro _ ⟨ua, rfl⟩
  have q1 := After.row q0 ua
  have b3 := b2.trans (ua.h.mono b2.size)
  have e6 : (iv [v1, (v2 : Int), (v3 : Int), (v4 : Int), (v5 : Int), (v6 : Int)]).toArray = #[.int .i64 v1, .int .i64 v2, .int .i64 v3, .int .i64 v4, .int .i64 v5, .int .i64 v6] := rfl
  go_wp2_with (refine wpList_store_row rfl 25 (.tmp 2) (.tmp 29) rfl (w.heap.size + 1) (iv [v1, (v2 : Int), (v3 : Int), (v4 : Int), (v5 : Int), (v6 : Int)]).toArray rfl rfl 25 Z6.toArray (row_heap q1) info25 rfl (iv_all _) ?_)
  exact bodyPost_ret (v := .agg (iv [v1, (v2 : Int), (v3 : Int), (v4 : Int), (v5 : Int), (v6 : Int)]).toArray) (res1 Try.results50 rfl (load25 (q1.row (iv [v1, (v2 : Int), (v3 : Int), (v4 : Int), (v5 : Int), (v6 : Int)])))) rfl ⟨rfl, below_row b3 (by omega) _⟩
end Go.Proofs.Ytheblebfeinjjaa
