/- Regions whose order is drawn, in which calls make memory but write none that lay there. -/
import Derived.Test.YtopeppnajbnfgaaFC
namespace Go.Proofs.Ytopeppnajbnfgaa
open Go.RowKit
set_option maxHeartbeats 1000000
set_option maxRecDepth 100000
/-- A world behind w, in which all that lay there lies as it lay. -/
structure After (w : World) where
  v : World
  h : Below w.heap.size w v
instance (w : World) : Nonempty (After w) := ⟨⟨w, Below.refl _ _⟩⟩
def isAfter (w : World) : World → Prop := fun w' => ∃ u : After w, w' = u.v
theorem After.row {w : World} {g : Nat} {t : TypeId} {cs : List Value} (h : Row w g t cs) (u : After w) : Row u.v g t cs := h.below u.h
theorem after_row {w w' : World} {g : Nat} {t : TypeId} {cs : List Value} (h : Row w g t cs) (hc : ∃ u : After w, w' = u.v) : Row w' g t cs := by obtain ⟨u, rfl⟩ := hc; exact h.below u.h
theorem After.cell {w : World} {p : Addr} {v : Value} (h : w.cell? p = some v) (u : After w) : u.v.cell? p = some v := by
  have hb := block_lt_of_cell h
  rw [World.cell?_of_block (u.h.block _ hb)]; exact h
theorem After.done {w w2 : World} (u : After w) (h : Below u.v.heap.size u.v w2) : ∃ u2 : After w, w2 = u2.v := ⟨⟨w2, u.h.trans (h.mono u.h.size)⟩, rfl⟩
section
variable {P : Program} {F : Fence} {m : Nat}
theorem wp_region_class_tail {C : World → Prop} {id : Nat} {R : Exit → Act → World → Prop} {a : Act} {w : World} {l : List Oper} (n : Nat) (hm : P.follows .mixedOrders = true) (hB : Region.lexTailB .any l.toArray n = true)
    (hC : C { w with drawn := w.drawn + 1 })
    (h : wpQuiet P l.toArray C (fun a' => ∀ w', C w' → wpList P l.toArray R (l.drop n) a' w') (l.take n) a) : (Code.region id l.toArray true).wp P R a w := by
  simp only [Region.lexTailB, Bool.and_eq_true, decide_eq_true_eq] at hB
  obtain ⟨⟨⟨⟨hsel, hn⟩, hs⟩, hc⟩, hlex⟩ := hB
  have hn' : n < l.length := by simpa using hn
  have htl : (l.take n).length = n := by simp; omega
  have hdl : (l.drop n).length = l.toArray.size - n := by simp
  have inv0 : HeadInv .any l.toArray n (Array.replicate l.toArray.size false) :=
    ⟨by simp, fun j oj _ hl => (by rw [getD_replicate_false] at hl; cases hl), fun t _ ht => getD_in (by simpa using ht) (getD_replicate_false _ _)⟩
  have H := headQ_lex (md := .any) (g := l.toArray.size - n) hsel hs hc hn (l.take n) 0 _ a (fun j hj => by rw [htl] at hj; simp [hj]) (by simpa using htl) inv0 (by rw [htl]; exact hlex) h
  refine wp_region_any hm ?_
  have h2 := wpAny_of_headQ (C := C) (R := R) (g := l.toArray.size - n) (fun d a' w' hw' hL => by
    have h3 := wpAny_of_seq (md := .any) (Q' := R) (l.drop n) n d a' w' (fun j => by simp [List.getElem?_drop]) (by rw [hdl]; exact hL.1) (hL.2 w' hw')
    rwa [hdl] at h3) _ _ _ { w with drawn := w.drawn + 1 } hC H
  rw [htl, show n + (l.toArray.size - n) = l.toArray.size by omega] at h2
  exact h2
theorem wpIn_region_class_tail {C : World → Prop} (hO : Open F) {id : Nat} {R : Exit → Act → World → Prop} {a : Act} {w : World} {l : List Oper} (n : Nat) (hm : P.follows .mixedOrders = true) (hD : noDefer l.toArray = true)
    (hB : Region.lexTailB .any l.toArray n = true) (hC : C { w with drawn := w.drawn + 1 })
    (h : wpQuiet P l.toArray C (fun a' => ∀ w', C w' → wpListIn F m P l.toArray R (l.drop n) a' w') (l.take n) a) : (Code.region id l.toArray true).wpIn F m P R a w := by
  simp only [Region.lexTailB, Bool.and_eq_true, decide_eq_true_eq] at hB
  obtain ⟨⟨⟨⟨hsel, hn⟩, hs⟩, hc⟩, hlex⟩ := hB
  have hn' : n < l.length := by simpa using hn
  have htl : (l.take n).length = n := by simp; omega
  have hdl : (l.drop n).length = l.toArray.size - n := by simp
  have inv0 : HeadInv .any l.toArray n (Array.replicate l.toArray.size false) :=
    ⟨by simp, fun j oj _ hl => (by rw [getD_replicate_false] at hl; cases hl), fun t _ ht => getD_in (by simpa using ht) (getD_replicate_false _ _)⟩
  have H := headQ_lex (md := .any) (g := l.toArray.size - n) hsel hs hc hn (l.take n) 0 _ a (fun j hj => by rw [htl] at hj; simp [hj]) (by simpa using htl) inv0 (by rw [htl]; exact hlex) h
  refine wpIn_region_any hm ?_
  have h2 := wpAnyIn_of_headQ (C := C) (R := R) (m := m) hO hD (g := l.toArray.size - n) (fun d a' w' hw' hL => by
    have h3 := wpAnyIn_of_seq (F := F) (m := m) (P := P) (md := .any) (R := R) (l.drop n) n d a' w' (fun j => by simp [List.getElem?_drop]) (by rw [hdl]; exact hL.1) (hL.2 w' hw')
    rwa [hdl] at h3) _ _ _ { w with drawn := w.drawn + 1 } hC H
  rw [htl, show n + (l.toArray.size - n) = l.toArray.size by omega] at h2
  exact h2
theorem wpIn_region_class_all {C : World → Prop} (hO : Open F) {id : Nat} {R : Exit → Act → World → Prop} {a : Act} {w : World} {l : List Oper} (hm : P.follows .mixedOrders = true) (hD : noDefer l.toArray = true) (hB : Region.lexB .any l.toArray = true)
    (hC : C { w with drawn := w.drawn + 1 })
    (h : wpQuiet P l.toArray C (fun a' => ∀ w', C w' → R .normal a' w') l a) : (Code.region id l.toArray true).wpIn F m P R a w := by
  simp only [Region.lexB, Bool.and_eq_true] at hB
  refine wpIn_region_any hm (wpAnyIn_of_quiet' (C := C) hO hD (K := fun a' => ∀ w', C w' → R .normal a' w') (fun _ w' hw' h => h w' hw') _ _ _ _ hC ?_)
  have := wpAnyQ_lex (C := C) (md := .any) hB.1 l 0 (Array.replicate l.toArray.size false) a (by simp) (by simpa using hB.2) h
  simpa using this
theorem wp_region_class_all {C : World → Prop} {id : Nat} {R : Exit → Act → World → Prop} {a : Act} {w : World} {l : List Oper} (hm : P.follows .mixedOrders = true) (hB : Region.lexB .any l.toArray = true)
    (hC : C { w with drawn := w.drawn + 1 })
    (h : wpQuiet P l.toArray C (fun a' => ∀ w', C w' → R .normal a' w') l a) : (Code.region id l.toArray true).wp P R a w := by
  simp only [Region.lexB, Bool.and_eq_true] at hB
  refine wp_region_any hm (wpAny_of_quiet (C := C) (Q := fun a' => ∀ w', C w' → R .normal a' w') (fun _ w' hw' h => h w' hw') _ _ _ _ hC ?_)
  have := wpAnyQ_lex (C := C) (md := .any) hB.1 l 0 (Array.replicate l.toArray.size false) a (by simp) (by simpa using hB.2) h
  simpa using this
theorem isAfter_start (w : World) : isAfter w { w with drawn := w.drawn + 1 } := ⟨⟨{ w with drawn := w.drawn + 1 }, (Below.refl _ w).drew⟩, rfl⟩
theorem quiet_load_row {C : World → Prop} {K : Act → Prop} {o : Oper} {a : Act} (ty : TypeId) (x : Operand) (ho : o.op = .load ty x) (g : Nat) (hx : a.eval x = .pointer (some ⟨g, 0, none⟩)) (t : TypeId) (cs : List Value) (d : TypeDesc)
    (hS : ∀ w, C w → Row w g t cs) (hu : P.underlying ty = some d) (hd : d.isRow = true) (hi : (P.info? ty).map (·.size) = some cs.length) (hk : K (a.put o.dst (.agg cs.toArray))) : o.quiet P a C K :=
  ⟨_, fun w hw => by
    unfold Oper.quietAt execOp
    simp only [ho, hx, Instr.loadAt, Instr.sureAddr, Sem.run_bind, Sem.run_pure, Result.andThen_ok, run_loadVar_mid w g 0 ty cs d ((hS w hw).range) hu hd hi]
    exact ⟨rfl, rfl⟩, hk⟩
theorem quiet_load_mid {C : World → Prop} {K : Act → Prop} {o : Oper} {a : Act} (ty : TypeId) (x : Operand) (ho : o.op = .load ty x) (b off : Nat) (hx : a.eval x = .pointer (some ⟨b, off, none⟩)) (cs : List Value) (d : TypeDesc)
    (hS : ∀ w, C w → w.rangeAt b off cs) (hu : P.underlying ty = some d) (hd : d.isRow = true) (hi : (P.info? ty).map (·.size) = some cs.length) (hk : K (a.put o.dst (.agg cs.toArray))) : o.quiet P a C K :=
  ⟨_, fun w hw => by
    unfold Oper.quietAt execOp
    simp only [ho, hx, Instr.loadAt, Instr.sureAddr, Sem.run_bind, Sem.run_pure, Result.andThen_ok, run_loadVar_mid w b off ty cs d (hS w hw) hu hd hi]
    exact ⟨rfl, rfl⟩, hk⟩
end
/-- The seals before a position, in the tally. -/
theorem tal_range {s : ByteArray} {p : Nat} (hp : p ≤ s.size) (hs : s.size ≤ 24) {w : World} {g : Nat} (h : Row w g 54 (iv (tal s))) : w.rangeAt g (1 + p * 4) (iv (sumL s p)) := fun j v hj => by
  have hl : j < 4 := by
    have := (List.getElem?_eq_some_iff.1 hj).1
    rw [iv_len] at this; exact this
  have e : 1 + p * 4 + j = 1 + (4 * p + j) := by omega
  rw [e, ivR h (by unfold tal; rw [talL_len]; omega), ← hj, iv, List.getElem?_map, List.getElem?_eq_getElem (by exact hl)]
  have := talL_at s s.size (p := p) (c := j) (by omega) hl
  unfold tal
  rw [this, if_pos hp, ← sumL_at s p hl, geti_eq (by exact hl)]
  rfl
theorem all_gen (xs ys : List Int) (n : Nat) (w : World) (hl : xs.length = 101) (h0 : geti xs 0 = n) (hn : n ≤ 24) (hy : ys.length = 4) (hr : ∀ j, j < 4 → geti xs (1 + n * 4 + j) = geti ys j) :
    Calls Try.prog 51 #[.agg (iv xs).toArray] w fun e w' => e = .returned (.agg (iv ys).toArray) ∧ Below w.heap.size w w' := by
  have z1 := z51
  have r0 : Row ((w.alloc (.cells (iv xs).toArray 54)).alloc (.cells Z4.toArray 51)) w.heap.size 54 (iv xs) := (row_new rfl).alloc _
  have r1 : Row ((w.alloc (.cells (iv xs).toArray 54)).alloc (.cells Z4.toArray 51)) (w.heap.size + 1) 51 Z4 := row_new (by simp)
  have b0 : Below w.heap.size w ((w.alloc (.cells (iv xs).toArray 54)).alloc (.cells Z4.toArray 51)) := ((Below.refl _ w).alloc (Nat.le_refl _) _).alloc (by simp) _
  have d0 : ((w.alloc (.cells (iv xs).toArray 54)).alloc (.cells Z4.toArray 51)).cell? ⟨w.heap.size, 0, none⟩ = some (.int .i64 (n : Int)) := by rw [← h0]; exact ivR r0 (by omega)
  have hr2 : ((w.alloc (.cells (iv xs).toArray 54)).alloc (.cells Z4.toArray 51)).rangeAt w.heap.size (1 + n * 4) (iv ys) := fun j v hj => by
    have hj4 : j < 4 := by
      have := (List.getElem?_eq_some_iff.1 hj).1
      rwa [iv_len, hy] at this
    rw [ivR r0 (by omega), hr j hj4, ← hj, iv, List.getElem?_map, List.getElem?_eq_getElem (by omega), geti_eq (by omega)]
    rfl
  have hi := info51_iv hy
  have hi' : (Try.prog.info? 51).map (·.size) = some (iv ys).length := by rw [iv_len, hy]; exact info51
  clear hr h0
  go_enter Try.func51, Try.ntmps51
  go_wp2_with (first
    | ((with_reducible refine (?_ : wpList _ _ _ (Oper.mk (some 7) _ _ _ _ _ :: _) _ _)); refine wpList_load_mid rfl 51 (.tmp 6) rfl w.heap.size (1 + n * 4) rfl (iv ys) _ hr2 Try.underlying51 rfl hi' ?_)
    | ((with_reducible refine (?_ : wpList _ _ _ (Oper.mk none _ _ _ _ _ :: _) _ _)); refine wpList_store_row rfl 51 (.tmp 2) (.tmp 7) rfl (w.heap.size + 1) (iv ys).toArray rfl rfl 51 Z4.toArray (row_heap r1) hi (size51_iv hy) (iv_all _) ?_))
  exact bodyPost_ret (v := .agg (iv ys).toArray) (res1 Try.results51 rfl (cell4_res hy (r1.row _))) rfl ⟨rfl, below_row b0 (by omega) _⟩
theorem all_any (s : ByteArray) (w : World) (hs : s.size ≤ 24) : Calls Try.prog 51 #[.agg (iv (tal s)).toArray] w fun e w' => e = .returned (.agg (iv (sumL s s.size)).toArray) ∧ Below w.heap.size w w' :=
  all_gen (tal s) (sumL s s.size) s.size w (talL_len _ _) rfl hs rfl fun j hj => by
    have e : 1 + s.size * 4 + j = 1 + (4 * s.size + j) := by omega
    rw [e, sumL_at s _ hj]
    have := talL_at s s.size (p := s.size) (c := j) (by omega) hj
    rw [if_pos (Nat.le_refl _)] at this
    exact this
def Z4I : List Int := [0, 0, 0, 0]
theorem all_zero (w : World) : Calls Try.prog 51 #[.agg (iv Z101).toArray] w fun e w' => e = .returned (.agg (iv Z4I).toArray) ∧ Below w.heap.size w w' :=
  all_gen Z101 Z4I 0 w Z101_len rfl (by omega) rfl fun j hj => by
    rcases j with _ | _ | _ | _ | j
    · rfl
    · rfl
    · rfl
    · rfl
    · omega
end Go.Proofs.Ytopeppnajbnfgaa
