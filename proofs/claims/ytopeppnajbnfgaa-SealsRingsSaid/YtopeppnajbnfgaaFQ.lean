/- The fewest cuts: the search. -/
import Derived.Test.YtopeppnajbnfgaaFP
namespace Go.Proofs.Ytopeppnajbnfgaa
open Go.RowKit Go.Shelf
attribute [local go_sem] Oper.semAt_some
set_option maxHeartbeats 1000000
set_option maxRecDepth 100000
/-- The first fair list, the shorter ones first. -/
def fewL (s : ByteArray) (f step : Nat) : Nat → Nat → Option (List Int)
  | 0, _ => none
  | r + 1, m => if 4 < m then none else match (exts s.size m [] f).find? (fairV s) with
    | some x => some x
    | none => fewL s f step r (m + step)
def fewV (s : ByteArray) (f step : Nat) : Option (List Int) := fewL s f step 6 0
theorem fewL_over {s : ByteArray} {f step r m : Nat} (h : 4 < m) : fewL s f step r m = none := by
  cases r with
  | zero => rfl
  | succ r => unfold fewL; rw [if_pos h]
theorem fewL_next {s : ByteArray} {f step r m : Nat} (h : ¬ 4 < m) (h2 : ∀ x ∈ exts s.size m [] f, fairV s x = false) : fewL s f step (r + 1) m = fewL s f step r (m + step) := by
  have : (exts s.size m [] f).find? (fairV s) = none := by
    rw [List.find?_eq_none]
    intro x hx
    rw [h2 x hx]; exact Bool.false_ne_true
  rw [show fewL s f step (r + 1) m = if 4 < m then none else match (exts s.size m [] f).find? (fairV s) with | some x => some x | none => fewL s f step r (m + step) from rfl, if_neg h, this]
theorem find_pre {q : List Int → Bool} {L pre : List (List Int)} {x : List Int} (h : pre ++ [x] <+: L) (h1 : ∀ y ∈ pre, q y = false) (h2 : q x = true) : L.find? q = some x := by
  obtain ⟨t, rfl⟩ := h
  rw [List.append_assoc, List.find?_append]
  have : pre.find? q = none := by
    rw [List.find?_eq_none]
    intro y hy
    rw [h1 y hy]; exact Bool.false_ne_true
  rw [this]
  simp [h2]
theorem fewL_hit {s : ByteArray} {f step r m : Nat} {pre : List (List Int)} {x : List Int} (h : ¬ 4 < m) (hp : pre ++ [x] <+: exts s.size m [] f) (h1 : ∀ y ∈ pre, fairV s y = false) (h2 : fairV s x = true) : fewL s f step (r + 1) m = some x := by
  rw [show fewL s f step (r + 1) m = if 4 < m then none else match (exts s.size m [] f).find? (fairV s) with | some x => some x | none => fewL s f step r (m + step) from rfl, if_neg h, find_pre hp h1 h2]
theorem inC_of {s : ByteArray} {x : List Int} (h : ∀ y ∈ x, 0 ≤ y ∧ y < (s.size : Int)) : InC s x := fun i hi => by
  rw [geti_eq hi]
  have := h _ (List.getElem_mem hi)
  omega
/-- What fewest hands back. -/
def FewRes (s : ByteArray) (f step : Nat) (w : World) (e : Ending) (w' : World) : Prop :=
  ∃ v, e = .returned v ∧ Below w.heap.size w w' ∧ ((∃ x, fewV s f step = some x ∧ w'.ownsRow w.heap.size 3 1 v x.length (iv x)) ∨ (fewV s f step = none ∧ v = .slice none 0 0))
theorem Marks.fr {X : Nat → Prop} {Ds : List Nat} {W W' : World} (h : Marks Ds W) (k : Fr X W W') (hX : ∀ D ∈ Ds, ¬ X D) : Marks Ds W' := ⟨h.1, fun D hD => (k.block D (Array.getElem?_eq_some_iff.1 (h.2 D hD)).1 (hX D hD)).trans (h.2 D hD)⟩
theorem Marks.cons {Ds : List Nat} {W W' : World} {D : Nat} (h : Marks Ds W') (hl : ∀ E ∈ Ds, E < W.heap.size) (hD : W.heap.size ≤ D) (hk : W'.heap[D]? = some (.deferred (some []))) : Marks (D :: Ds) W' :=
  ⟨List.nodup_cons.2 ⟨fun hm => by have := hl D hm; omega, h.1⟩, fun E hE => by
    rcases List.mem_cons.1 hE with rfl | hE
    · exact hk
    · exact h.2 E hE⟩
theorem Marks.lt {Ds : List Nat} {W : World} (h : Marks Ds W) {E : Nat} (hE : E ∈ Ds) : E < W.heap.size := (Array.getElem?_eq_some_iff.1 (h.2 E hE)).1
theorem Marks.ne_row {Ds : List Nat} {W : World} (h : Marks Ds W) {E g : Nat} {t : TypeId} {cs : List Value} (hE : E ∈ Ds) (hr : Row W g t cs) : E ≠ g := fun e => by
  subst e
  have h1 := h.2 E hE
  unfold Row at hr
  rw [hr] at h1; cases h1
theorem shut_own {Ds : List Nat} {w : World} (hm : Marks Ds w) {b n : Nat} {e : TypeId} {z : Nat} {v : Value} {xs : List Value} (h : w.ownsRow b e z v n xs) : (shut Ds w).ownsRow b e z v n xs := by
  refine ⟨h.1, ?_⟩
  rcases h.2 with hn | ⟨g, cap, cur, rfl, hb, hg, rest⟩
  · exact .inl hn
  · refine .inr ⟨g, cap, cur, rfl, hb, ?_, rest⟩
    have hr : Row w g e cur.toList := by unfold Row; rw [hg]
    have := shut_row hm hr
    unfold Row at this
    rw [this]
theorem abAll_fr {β : Type} {X : Nat → Prop} {W0 : World} {B : Nat} (hB : W0.heap.size ≤ B) : AbAll B (fun (_ : β) W => Fr X W0 W) := fun _ A C row hs hg hr =>
  ⟨hg.os.trans hs.os, hg.tape.trans hs.tape, hg.output.trans hs.output, Nat.le_trans hs.size hg.size, fun k hk hx => (hg.block k (Nat.lt_of_lt_of_le hk hs.size) (fun e => by have := hr k e.symm; omega)).trans (hs.block k hk hx)⟩
/-- A fair list has been met, and a copy of it lies in the result. -/
structure Hit (s : ByteArray) (b g : Nat) (W0 : World) (pre : List (List Int)) (W : World) : Prop where
  fr : Fr (fun k => k = g) W0 W
  hit : ∃ ps x v, pre = ps ++ [x] ∧ (∀ y ∈ ps, fairV s y = false) ∧ fairV s x = true ∧ Row W g 23 [v] ∧ W.ownsRow b 3 1 v x.length (iv x)
theorem own_turn {A C : World} {row : Option Nat} {b n : Nat} {e : TypeId} {z : Nat} {v : Value} {xs : List Value} (h : A.ownsRow b e z v n xs) (hg : A.grownBy C row) (hr : ∀ r, row = some r → ∃ o : Obj, A.heap[r]? = some o ∧ o.isCells = false) : C.ownsRow b e z v n xs := by
  refine ⟨h.1, ?_⟩
  rcases h.2 with hn | ⟨g, cap, cur, rfl, hb, hgg, rest⟩
  · exact .inl hn
  · refine .inr ⟨g, cap, cur, rfl, hb, ?_, rest⟩
    refine (hg.block g (Array.getElem?_eq_some_iff.1 hgg).1 (fun e => ?_)).trans hgg
    obtain ⟨o, ho, hc⟩ := hr g e.symm
    rw [hgg] at ho; cases ho; cases hc
theorem row_turn {A C : World} {row : Option Nat} {g : Nat} {t : TypeId} {cs : List Value} (h : Row A g t cs) (hg : A.grownBy C row) (hr : ∀ r, row = some r → ∃ o : Obj, A.heap[r]? = some o ∧ o.isCells = false) : Row C g t cs := by
  refine (hg.block g h.lt (fun e => ?_)).trans h
  obtain ⟨o, ho, hc⟩ := hr g e.symm
  unfold Row at h
  rw [h] at ho; cases ho; cases hc
theorem hit_own (s : ByteArray) (b g : Nat) (W0 : World) {B : Nat} (hB : W0.heap.size ≤ B) (c : Code) : OwnFrom B (fun pre W => c = .ret ∧ Hit s b g W0 pre W) := fun pre A C row hs hg hr => by
  obtain ⟨hc, hfr, ps, x, v, h1, h2, h3, h4, h5⟩ := hs
  exact ⟨hc, ownFrom_fr (β := Unit) hB () A C row hfr hg hr, ps, x, v, h1, h2, h3, row_turn h4 hg (fun r e => (hr r e).2), own_turn h5 hg (fun r e => (hr r e).2)⟩
theorem KeepA.setLow {B : Nat} {X : Nat → Prop} (W : World) {p : Addr} (hl : p.block < B) (hX : ¬ X p.block) (u : Value) : KeepA B X W (W.setCell p u) := ⟨by simp [World.setCell], fun k hk _ => Below.heap_setCell W p u k (fun e => by subst e; rcases hk with h | h; omega; exact hX h)⟩
theorem fewest_any (s : ByteArray) (f step : Nat) (w : World) (hs : s.size ≤ 24) (hf : f ≤ 1) (hst : 1 ≤ step) (hst2 : step ≤ 2) :
    Calls Try.prog 43 #[.agg (iv (tal s)).toArray, .int .i64 f, .int .i64 step] w (FewRes s f step w) := by
  refine callsIn_wide.1 (?_ : CallsIn Fence.wide 9 _ _ _ _ _)
  have hO : Open Fence.wide := Open.wide
  have hro : Fence.wide.round = none := rfl
  have F43 := hO.fn 43
  have hF := hO.fn
  have hd := hO.depth
  have z23 : ∀ w, (zeroValue 23).run Try.prog w = .ok (.slice none 0 0) w := fun w => by kernel_rfl
  refine callsIn_of_wp_marks Try.func43 rfl F43 ?_ hro
  simp only [Try.ntmps43, List.size_toArray, List.length_cons, List.length_nil, Nat.reduceAdd, Nat.reduceSub, Array.replicate_succ, Array.replicate_zero, List.push_toArray, List.append_toArray, List.nil_append, List.cons_append]
  have r0 : Row ((w.alloc (.cells (iv (tal s)).toArray 54)).alloc (.cells #[.slice none 0 0] 23)) w.heap.size 54 (iv (tal s)) := (row_new rfl).alloc _
  have r1 : Row ((w.alloc (.cells (iv (tal s)).toArray 54)).alloc (.cells #[.slice none 0 0] 23)) (w.heap.size + 1) 23 [.slice none 0 0] := row_new (by simp)
  have b0 : Below w.heap.size w ((w.alloc (.cells (iv (tal s)).toArray 54)).alloc (.cells #[.slice none 0 0] 23)) := ((Below.refl _ w).alloc (Nat.le_refl _) _).alloc (by simp) _
  gi_wp2
  refine wpIn_loop_ghost (fun k a W => ∃ (u8 u9 u10 u11 u12 u13 u14 u15 u16 u17 u18 u19 u20 u21 u22 u23 u24 : Value) (Ds : List Nat) (m r : Nat), a = { tmps := #[.agg (iv (tal s)).toArray, .int .i64 f, .int .i64 step, .pointer (some ⟨w.heap.size, 0, none⟩), undef, undef, .pointer (some ⟨w.heap.size + 1, 0, none⟩), .int .i64 m, u8, u9, u10, u11, u12, u13, u14, u15, u16, u17, u18, u19, u20, u21, u22, u23, u24], defers := Ds.map mark } ∧ k = 10 - m ∧ m ≤ 6 ∧ fewV s f step = fewL s f step r m ∧ 5 ≤ r + m ∧
    Row W w.heap.size 54 (iv (tal s)) ∧ Row W (w.heap.size + 1) 23 [.slice none 0 0] ∧ Below w.heap.size w W ∧ Marks Ds W ∧ ∀ D ∈ Ds, w.heap.size ≤ D) 10 ⟨undef, undef, undef, undef, undef, undef, undef, undef, undef, undef, undef, undef, undef, undef, undef, undef, undef, [], 0, 6, rfl, rfl, by omega, rfl, by omega, r0, r1, b0, ⟨by simp, fun D hD => by cases hD⟩, fun D hD => by cases hD⟩ ?_
  clear r0 r1 b0
  rintro k a W ⟨u8, u9, u10, u11, u12, u13, u14, u15, u16, u17, u18, u19, u20, u21, u22, u23, u24, Ds, m, r, rfl, hk, hm6, hfew, hr5, r0, r1, b0, hm, hD⟩
  have c0 : W.cell? ⟨w.heap.size, 0, none⟩ = some (.int .i64 (s.size : Int)) := ivR r0 (by unfold tal; rw [talL_len]; omega)
  by_cases hm4 : m ≤ 4
  · obtain ⟨r, rfl⟩ : ∃ r', r = r' + 1 := ⟨r - 1, by omega⟩
    gi_wp2_with (gi_at_call 49; refine (hO.lift _ (lists_any _ _ _ _)).mono ?_; rintro e w' ⟨rfl, rfl⟩)
    have q0 : Row (((W.alloc (.cells #[.int .i64 f] 3)).alloc (.cells #[.int .i64 s.size] 3)).alloc (.cells #[.int .i64 m] 3)) W.heap.size 3 [.int .i64 f] := ((row_new rfl).alloc _).alloc _
    have q1 : Row (((W.alloc (.cells #[.int .i64 f] 3)).alloc (.cells #[.int .i64 s.size] 3)).alloc (.cells #[.int .i64 m] 3)) (W.heap.size + 1) 3 [.int .i64 s.size] := (row_new (by simp)).alloc _
    have q2 : Row (((W.alloc (.cells #[.int .i64 f] 3)).alloc (.cells #[.int .i64 s.size] 3)).alloc (.cells #[.int .i64 m] 3)) (W.heap.size + 1 + 1) 3 [.int .i64 m] := row_new (by simp)
    have t0 := ((r0.alloc (.cells #[.int .i64 f] 3)).alloc (.cells #[.int .i64 s.size] 3)).alloc (.cells #[.int .i64 m] 3)
    have t1 := ((r1.alloc (.cells #[.int .i64 f] 3)).alloc (.cells #[.int .i64 s.size] 3)).alloc (.cells #[.int .i64 m] 3)
    have bW : Below W.heap.size W (((W.alloc (.cells #[.int .i64 f] 3)).alloc (.cells #[.int .i64 s.size] 3)).alloc (.cells #[.int .i64 m] 3)) := (((Below.refl _ W).alloc (Nat.le_refl _) _).alloc (by simp) _).alloc (by simp; omega) _
    have mW : Marks Ds (((W.alloc (.cells #[.int .i64 f] 3)).alloc (.cells #[.int .i64 s.size] 3)).alloc (.cells #[.int .i64 m] 3)) := ⟨hm.1, fun D hd => (bW.block D (hm.lt hd)).trans (hm.2 D hd)⟩
    have hz0 : W.heap.size + 3 = (((W.alloc (.cells #[.int .i64 f] 3)).alloc (.cells #[.int .i64 s.size] 3)).alloc (.cells #[.int .i64 m] 3)).heap.size := by simp
    have bw0 := b0.trans (bW.mono b0.size)
    have hb0 := b0.size
    have hlt1 := r1.lt
    generalize World.alloc _ _ = W0 at *
    refine range_lists (by omega) W.heap.size f s.size m hf (by omega) (by omega) q0 q1 q2 rfl
      (fun pre V => Fr (fun k => k = w.heap.size + 1) W0 V ∧ Row V (w.heap.size + 1) 23 [.slice none 0 0] ∧ ∀ y ∈ pre, fairV s y = false)
      (fun c pre V => c = .ret ∧ Hit s w.heap.size (w.heap.size + 1) W0 pre V)
      (fun pre A C row hs hg hr => ⟨abAll_fr (β := Unit) (Nat.le_refl _) () A C row hs.1 hg hr, hs.2.1.grown hg (fun e => by have := hr _ e.symm; omega), hs.2.2⟩)
      (hit_own s _ _ W0 (Nat.le_refl _)) ⟨Fr.refl _ _, t1, fun y hy => by cases hy⟩ ?a1 ?assign ?body ?done ?stop
    case assign =>
      intro l B x V K hK
      gi_wp2
      exact hK
    case body =>
      rintro l B pre x V hB ⟨hfr, hr1, hpre⟩ ⟨hxl, hrx, hxin⟩
      have v0 : Row V w.heap.size 54 (iv (tal s)) := t0.fr hfr (by omega)
      have hi' : (Try.prog.info? 54).map (·.size) = some (iv (tal s)).length := by rw [iv_len]; unfold tal; rw [talL_len]; exact info54
      have HIF := Lib.hid (isFair_any s (some ⟨B, 0, none⟩) m x V hs (by omega) (by omega) (iv_ints hrx) (inC_of hxin))
      rw [hxl] at HIF
      have hO := hO.inRound l
      cases hfv : fairV s x
      · rw [hfv] at HIF
        gi_wp2_with (first
          | (refine wpListIn_load_mid rfl 54 (.tmp 3) rfl w.heap.size 0 rfl (iv (tal s)) _ v0.range Try.underlying54 rfl hi' ?_)
          | (gi_at_call 45; refine (hO.lift _ HIF.out).mono ?_; rintro e V2 ⟨rfl, b2⟩))
        exact ⟨KeepA.of_below b2, hfr.then_below b2, hr1.below b2, fun y hy => by
          rcases List.mem_append.1 hy with h | h
          · exact hpre y h
          · have : y = x := by simpa using h
            rw [this, hfv]⟩
      · rw [hfv] at HIF
        gi_wp2_with (first
          | (refine wpListIn_load_mid rfl 54 (.tmp 3) rfl w.heap.size 0 rfl (iv (tal s)) _ v0.range Try.underlying54 rfl hi' ?_)
          | (gi_at_call 45; refine (hO.lift _ HIF.out).mono ?_; rintro e V2 ⟨rfl, b2⟩))
        have hrB := hrx.below b2
        have HCL := Lib.hid (Clone_any B 0 m x V2 (by omega) (iv_ints hrB))
        rw [hxl] at HCL
        have hr2 := hr1.below b2
        gi_wp2_with (gi_at_call 54; refine (hO.lift _ HCL.out).mono ?_; rintro e V3 ⟨v, rfl, o3, b3⟩; obtain ⟨A3, c3, rfl, -, -, -⟩ := own_intsI o3; have hr3 := hr2.below b3; obtain ⟨c1, f1⟩ := hr3.cells1)
        have hb23 := b2.trans (b3.mono b2.size)
        have hVW := hfr.size
        refine ⟨(KeepA.of_below hb23).trans (KeepA.setLow V3 (by dsimp only; omega) (fun h => by unfold Box3 at h; dsimp only at h; omega) _), rfl, (hfr.then_below hb23).setCell (.inl rfl) _, pre, x, _, rfl, hpre, hfv, hr3.set 0 _, ?_⟩
        have ho := own_mono (own_set o3 (p := ⟨w.heap.size + 1, 0, none⟩) (by have := b2.size; dsimp only; omega) (.slice A3 x.length c3)) (b' := w.heap.size) (by have := b2.size; omega)
        rw [hxl] at ho ⊢
        exact ho
    case done =>
      rintro D V hDV ⟨hfr, hr1, hpre⟩ hK
      have HN := Lib.hid (hfew.trans (fewL_next (by omega) hpre))
      have mV : Marks (D :: Ds) V := (mW.fr hfr (fun E hE => mW.ne_row hE t1)).cons (W := W0) (fun E hE => mW.lt hE) hDV hK
      have bV := hfr.under bw0 (fun i hi => by omega)
      have v0 : Row V w.heap.size 54 (iv (tal s)) := t0.fr hfr (by omega)
      gi_wp2
      refine ⟨10 - (m + step), by omega, _, _, _, _, _, _, _, _, _, _, _, _, _, _, _, _, _, D :: Ds, m + step, r, rfl, rfl, by omega, HN.out, by omega, v0, hr1, bV, mV, fun E hE => ?_⟩
      rcases List.mem_cons.1 hE with rfl | hE
      · omega
      · exact hD E hE
    case stop =>
      rintro D c pre V hDV hp ⟨rfl, hfr, ps, x, v, rfl, h1, h2, h3, h4⟩ hK
      have HN := Lib.hid (hfew.trans (fewL_hit (by omega) hp h1 h2))
      have mV : Marks (D :: Ds) V := (mW.fr hfr (fun E hE => mW.ne_row hE t1)).cons (W := W0) (fun E hE => mW.lt hE) hDV hK
      have bV := hfr.under bw0 (fun i hi => by omega)
      gi_wp2
      refine ret_marks (D :: Ds) mV (v := v) ?_ ⟨v, rfl, shut_below bV (fun E hE => ?_), .inl ⟨x, HN.out, shut_own mV h4⟩⟩
      · have hc : World.cell? _ ⟨w.heap.size + 1, 0, none⟩ = some v := (shut_row mV h3).cell 0
        refine res1 Try.results43 rfl ?_
        simp [go_sem, hc]
      · rcases List.mem_cons.1 hE with rfl | hE
        · omega
        · exact hD E hE
  · have HN := Lib.hid (show fewV s f step = none by rw [hfew]; exact fewL_over (by omega))
    obtain ⟨c1, f1⟩ := r1.cells1
    gi_wp2
    have hm2 : Marks Ds (W.setCell ⟨w.heap.size + 1, 0, none⟩ (.slice none 0 0)) := ⟨hm.1, fun D hd => (Below.heap_setCell W _ _ D (hm.ne_row hd r1)).trans (hm.2 D hd)⟩
    refine ret_marks Ds hm2 (v := .slice none 0 0) ?_ ⟨_, rfl, shut_below (b0.setCell (by dsimp only; omega) _) hD, .inr ⟨HN.out, rfl⟩⟩
    have hc : World.cell? _ ⟨w.heap.size + 1, 0, none⟩ = some (.slice none 0 0) := (shut_row hm2 (r1.set 0 (.slice none 0 0))).cell 0
    refine res1 Try.results43 rfl ?_
    simp [go_sem, hc]
end Go.Proofs.Ytopeppnajbnfgaa
