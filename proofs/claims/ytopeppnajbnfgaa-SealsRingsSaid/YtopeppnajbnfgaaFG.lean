/- What a call may change; loops over a function; the chunks of a list. -/
import Derived.Test.YtopeppnajbnfgaaFE
namespace Go.Proofs.Ytopeppnajbnfgaa
open Go.RowKit Go.Shelf
attribute [local go_sem] Oper.semAt_some
set_option maxHeartbeats 1000000
set_option maxRecDepth 100000
/-- Block B lies as it lay. -/
def KeepB (B : Nat) (W W' : World) : Prop := W'.heap[B]? = W.heap[B]?
structure Fr (X : Nat → Prop) (w w' : World) : Prop where
  os : w'.os = w.os
  tape : w'.tape = w.tape
  output : w'.output = w.output
  size : w.heap.size ≤ w'.heap.size
  block : ∀ k, k < w.heap.size → ¬ X k → w'.heap[k]? = w.heap[k]?
theorem Fr.refl (X : Nat → Prop) (w : World) : Fr X w w := ⟨rfl, rfl, rfl, Nat.le_refl _, fun _ _ _ => rfl⟩
theorem Fr.trans {X : Nat → Prop} {a b c : World} (h : Fr X a b) (k : Fr X b c) : Fr X a c :=
  ⟨k.os.trans h.os, k.tape.trans h.tape, k.output.trans h.output, Nat.le_trans h.size k.size, fun i hi hx => (k.block i (Nat.lt_of_lt_of_le hi h.size) hx).trans (h.block i hi hx)⟩
theorem Fr.of_below {X : Nat → Prop} {w w' : World} (h : Below w.heap.size w w') : Fr X w w' := ⟨h.os, h.tape, h.output, h.size, fun k hk _ => h.block k hk⟩
theorem Fr.below {w w' : World} (h : Fr (fun _ => False) w w') : Below w.heap.size w w' := ⟨h.os, h.tape, h.output, h.size, fun k hk => h.block k hk (fun f => f)⟩
theorem Fr.mono {X Y : Nat → Prop} {w w' : World} (h : Fr X w w') (hXY : ∀ k, k < w.heap.size → X k → Y k) : Fr Y w w' :=
  ⟨h.os, h.tape, h.output, h.size, fun k hk hy => h.block k hk (fun hx => hy (hXY k hk hx))⟩
theorem Fr.drewN {X : Nat → Prop} {a w : World} (h : Fr X a w) (n : Nat) : Fr X a (w.drewN n) := ⟨h.os, h.tape, h.output, h.size, h.block⟩
theorem Fr.drew {X : Nat → Prop} {a w : World} (h : Fr X a w) : Fr X a w.drew := ⟨h.os, h.tape, h.output, h.size, h.block⟩
theorem Fr.alloc {X : Nat → Prop} {a w : World} (h : Fr X a w) (o : Obj) : Fr X a (w.alloc o) := h.trans (Fr.of_below ((Below.refl _ _).alloc (Nat.le_refl _) o))
theorem Fr.setCell {X : Nat → Prop} {a w : World} (h : Fr X a w) {p : Addr} (hp : X p.block ∨ a.heap.size ≤ p.block) (u : Value) : Fr X a (w.setCell p u) :=
  ⟨h.os, h.tape, h.output, Nat.le_trans h.size (by simp [World.setCell]), fun k hk hx => (Below.heap_setCell w p u k (fun e => by
    subst e; rcases hp with hp | hp
    · exact hx hp
    · omega)).trans (h.block k hk hx)⟩
/-- A callee's own account, met in the middle of a call. -/
theorem Fr.then_ {X Y : Nat → Prop} {a b c : World} (h : Fr X a b) (k : Fr Y b c) (hY : ∀ i, i < a.heap.size → Y i → X i) : Fr X a c :=
  ⟨k.os.trans h.os, k.tape.trans h.tape, k.output.trans h.output, Nat.le_trans h.size k.size, fun i hi hx => (k.block i (Nat.lt_of_lt_of_le hi h.size) (fun hy => hx (hY i hi hy))).trans (h.block i hi hx)⟩
theorem Fr.then_below {X : Nat → Prop} {a b c : World} (h : Fr X a b) (k : Below b.heap.size b c) : Fr X a c := h.trans (Fr.of_below k)
theorem Fr.cell {X : Nat → Prop} {w w' : World} (h : Fr X w w') {b o : Nat} (hb : b < w.heap.size) (hx : ¬ X b) : w'.cell? ⟨b, o, none⟩ = w.cell? ⟨b, o, none⟩ := World.cell?_of_block (w := w) (h.block b hb hx)
theorem Fr.under {X : Nat → Prop} {w a b : World} (h : Below w.heap.size w a) (k : Fr X a b) (hX : ∀ i, i < w.heap.size → ¬ X i) : Below w.heap.size w b :=
  ⟨k.os.trans h.os, k.tape.trans h.tape, k.output.trans h.output, Nat.le_trans h.size k.size, fun i hi => (k.block i (Nat.lt_of_lt_of_le hi h.size) (hX i hi)).trans (h.block i hi)⟩
theorem Row.fr {X : Nat → Prop} {w w' : World} {g : Nat} {t : TypeId} {cs : List Value} (h : Row w g t cs) (k : Fr X w w') (hx : ¬ X g) : Row w' g t cs := (k.block g h.lt hx).trans h
theorem grown_lt {A B : World} {row : Option Nat} {Bd : Nat} (hg : A.grownBy B row) (hr : ∀ r, row = some r → Bd ≤ r ∧ ∃ o : Obj, A.heap[r]? = some o ∧ o.isCells = false) (k : Nat) (hk : k < A.heap.size) (hb : k < Bd) : B.heap[k]? = A.heap[k]? :=
  hg.block k hk (fun e => by have := (hr k e.symm).1; omega)
theorem ownFrom_fr {β : Type} {X : Nat → Prop} {w : World} {Bd : Nat} (hB : w.heap.size ≤ Bd) : OwnFrom Bd (fun (_ : β) W => Fr X w W) := fun _ A B row hs hg hr =>
  ⟨hg.os.trans hs.os, hg.tape.trans hs.tape, hg.output.trans hs.output, Nat.le_trans hs.size hg.size, fun k hk hx => (grown_lt hg hr k (Nat.lt_of_lt_of_le hk hs.size) (by omega)).trans (hs.block k hk hx)⟩
theorem ownFrom_row {β : Type} {g : Nat} {t : TypeId} {f : β → List Value} {Bd : Nat} : OwnFrom Bd (fun s W => Row W g t (f s)) := fun s A B row hs hg hr => by
  refine (hg.block g hs.lt (fun e => ?_)).trans hs
  obtain ⟨_, o, ho, hc⟩ := hr g e.symm
  unfold Row at hs
  rw [hs] at ho; cases ho; cases hc
theorem keeps_drewN (B : Nat) (W : World) (n : Nat) : KeepsFrom B W (W.drewN n) := ⟨Nat.le_refl _, fun _ _ _ h _ => h⟩
theorem keeps_below (B : Nat) {W W' : World} (h : Below W.heap.size W W') : KeepsFrom B W W' := ⟨h.size, fun k _ _ hk _ => (h.block k (Array.getElem?_eq_some_iff.1 hk).1).trans hk⟩
theorem keeps_fr {X : Nat → Prop} (B : Nat) {W W' : World} (h : Fr X W W') (hX : ∀ k, X k → ∃ o, W.heap[k]? = some o ∧ o.isCells = true) : KeepsFrom B W W' := ⟨h.size, fun k o _ hk ho => (h.block k (Array.getElem?_eq_some_iff.1 hk).1 (fun hx => by
  obtain ⟨o', h1, h2⟩ := hX k hx
  rw [h1] at hk; cases hk; rw [ho] at h2; cases h2)).trans hk⟩
theorem keepB_row {W W' : World} {B : Nat} {t : TypeId} {cs : List Value} (h : Row W B t cs) (h' : Row W' B t cs) : KeepB B W W' := h'.trans h.symm
/-! Leaving a function in which loops over a function stood. -/
abbrev mark (D : Nat) : Deferred := { target := .collected D, args := #[] }
def shut : List Nat → World → World
  | [], w => w
  | D :: Ds, w => shut Ds (w.putObj D (.deferred none))
def Marks (Ds : List Nat) (w : World) : Prop := Ds.Nodup ∧ ∀ D ∈ Ds, w.heap[D]? = some (.deferred (some []))
theorem Marks.tail {D : Nat} {Ds : List Nat} {w : World} (h : Marks (D :: Ds) w) : Marks Ds (w.putObj D (.deferred none)) :=
  ⟨(List.nodup_cons.1 h.1).2, fun E hE => (World.putObj_heap_other (fun e => (List.nodup_cons.1 h.1).1 (by rw [← e]; exact hE))).trans (h.2 E (List.mem_cons_of_mem _ hE))⟩
theorem shut_row {Ds : List Nat} {w : World} (hm : Marks Ds w) {g : Nat} {t : TypeId} {cs : List Value} (h : Row w g t cs) : Row (shut Ds w) g t cs := by
  induction Ds generalizing w with
  | nil => exact h
  | cons D Ds ih =>
    refine ih hm.tail ((World.putObj_heap_other (fun e => ?_)).trans h)
    have := hm.2 D (List.mem_cons_self ..)
    unfold Row at h
    rw [← e, h] at this; cases this
theorem shut_below {Ds : List Nat} {B : Nat} {w W : World} (h : Below B w W) (hB : ∀ D ∈ Ds, B ≤ D) : Below B w (shut Ds W) := by
  induction Ds generalizing W with
  | nil => exact h
  | cons D Ds ih =>
    refine ih (h.trans ⟨rfl, rfl, rfl, by simp, fun k hk => World.putObj_heap_other (fun e => ?_)⟩) (fun E hE => hB E (List.mem_cons_of_mem _ hE))
    have := hB D (List.mem_cons_self ..); omega
theorem leaves_marks {F : Fence} {n : Nat} {P : Program} {fn : Func} {tmps : Array Value} {R : Ending → World → Prop} (Ds : List Nat) (w : World) (hm : Marks Ds w) {v : Value}
    (hv : (results fn tmps).run P (shut Ds w) = .ok v (shut Ds w)) (hR : R (.returned v) (shut Ds w)) : LeavesInM F n P fn tmps R (Ds.map mark) .returning w := by
  induction Ds generalizing w with
  | nil => exact ⟨v, hv, hR⟩
  | cons D Ds ih => exact ⟨by simp, .inl ⟨D, _, rfl, run_takeDeferred (hm.2 D (List.mem_cons_self ..)), ih _ hm.tail hv hR⟩⟩
theorem ret_marks {F : Fence} {n : Nat} {P : Program} {fn : Func} {tmps : Array Value} {R : Ending → World → Prop} (Ds : List Nat) {w : World} (hm : Marks Ds w) {v : Value}
    (hv : (results fn tmps).run P (shut Ds w) = .ok v (shut Ds w)) (hR : R (.returned v) (shut Ds w)) : bodyPostM F n P fn R .ret { tmps := tmps, defers := Ds.map mark } w := leaves_marks Ds w hm hv hR
theorem marks_one {D : Nat} {w : World} (h : w.heap[D]? = some (.deferred (some []))) : Marks [D] w := ⟨by simp, fun E hE => by simp at hE; subst hE; exact h⟩
theorem keeps_mark {B D : Nat} {w w' : World} (h : KeepsFrom B w w') (hB : B ≤ D) (hk : w.heap[D]? = some (.deferred (some []))) : w'.heap[D]? = some (.deferred (some [])) := h.same D _ hB hk rfl
theorem wpListIn_load_mid {F : Fence} {n : Nat} {P : Program} {w : World} {ops : Array Oper} {rest : List Oper} {o : Oper} {a : Act} {Q : Exit → Act → World → Prop}
    (hg : o.guard = none) (ty : TypeId) (x : Operand) (hop : o.op = .load ty x) (b off : Nat) (hx : a.eval x = .pointer (some ⟨b, off, none⟩)) (cs : List Value) (d : TypeDesc) (hc : w.rangeAt b off cs)
    (hu : P.underlying ty = some d) (hd : d.isRow = true) (hi : (P.info? ty).map (·.size) = some cs.length) (h : wpListIn F n P ops Q rest (a.put o.dst (.agg cs.toArray)) w) : wpListIn F n P ops Q (o :: rest) a w := by
  refine wpListIn_plain hg fun K hK' => ?_
  unfold Oper.wpIn
  refine ⟨?_, ?_⟩
  · simp [Oper.about, hop]
  · rw [Oper.semAt_plain F _ _ (by rw [hop]; intro c hc'; cases hc')]
    simp [execOp, hop, hx, run_loadAt_mid w b off ty cs d hc hu hd hi, Result.andThen]
    exact hK' _ _ h
theorem wpListIn_store_row {F : Fence} {n : Nat} {P : Program} {w : World} {ops : Array Oper} {rest : List Oper} {o : Oper} {a : Act} {Q : Exit → Act → World → Prop}
    (hg : o.guard = none) (ty : TypeId) (x y : Operand) (hop : o.op = .store ty x y) (g : Nat) (cells : Array Value) (hx : a.eval x = .pointer (some ⟨g, 0, none⟩)) (hy : a.eval y = .agg cells) (t : TypeId) (old : Array Value)
    (hr : w.heap[g]? = some (.cells old t (0, 0))) (hi : (P.info? ty).map (·.size) = some cells.size) (hold : old.size = cells.size) (h1 : cells.all (·.oneCell') = true)
    (h : wpListIn F n P ops Q rest (a.put o.dst undef) (w.setRow g cells)) : wpListIn F n P ops Q (o :: rest) a w := by
  refine wpListIn_plain hg fun K hK' => ?_
  unfold Oper.wpIn
  refine ⟨?_, ?_⟩
  · simp [Oper.about, hop]
  · rw [Oper.semAt_plain F _ _ (by rw [hop]; intro c hc'; cases hc')]
    simp [execOp, hop, hx, hy, Instr.storeAt, Instr.sureAddr, run_storeVar_row w g t ty old cells hr hi hold h1, Result.andThen]
    exact hK' _ _ h
theorem wpListIn_store_mid {F : Fence} {n : Nat} {P : Program} {w : World} {ops : Array Oper} {rest : List Oper} {o : Oper} {a : Act} {Q : Exit → Act → World → Prop}
    (hg : o.guard = none) (ty : TypeId) (x y : Operand) (hop : o.op = .store ty x y) (b off : Nat) (cells : Array Value) (hx : a.eval x = .pointer (some ⟨b, off, none⟩)) (hy : a.eval y = .agg cells)
    (ht : w.there b off cells.size) (hi : (P.info? ty).map (·.size) = some cells.size) (h1 : cells.all (·.oneCell') = true)
    (h : wpListIn F n P ops Q rest (a.put o.dst undef) (w.setCells b off cells.toList)) : wpListIn F n P ops Q (o :: rest) a w := by
  refine wpListIn_plain hg fun K hK' => ?_
  unfold Oper.wpIn
  refine ⟨?_, ?_⟩
  · simp [Oper.about, hop]
  · rw [Oper.semAt_plain F _ _ (by rw [hop]; intro c hc'; cases hc')]
    simp [execOp, hop, hx, hy, run_storeAt_mid w b off ty cells ht hi h1, Result.andThen]
    exact hK' _ _ h
/-- A chunk's number. -/
abbrev Chk (m : Nat) := { k : Nat // 2 * k < m }
def chunkV (b o m k : Nat) : Value := .slice (some ⟨b, o + 2 * k, none⟩) (min 2 (m - 2 * k)) (min 2 (m - 2 * k))
def Keep2 (G : Nat) (W W' : World) : Prop := KeepB G W W' ∧ KeepB (G + 1) W W'
theorem chunk_stops (F : Fence) (hO : Open F) (hro : F.round = none) (n : Nat) (G b o m c : Nat) (A : Option Addr) (hA : 0 < m → A = some ⟨b, o, none⟩) (hm : m ≤ c) (hm6 : m ≤ 1000000) (w : World) (h1 : Row w G 23 [.slice A m c]) (h2 : Row w (G + 1) 3 [.int .i64 2]) :
    SeqStopsK (α := Chk m) F n Try.prog 61 #[.pointer (some ⟨G, 0, none⟩), .pointer (some ⟨G + 1, 0, none⟩)] (fun x => #[chunkV b o m x.1]) (Keep2 G) (fun xs => xs.map (·.1) = List.range ((m + 1) / 2)) (fun _ => True) ((m + 1) / 2) w := by
  intro l J Jx W hW hJ hJx hY h0
  have hF := hO.fn
  have hd := hO.depth
  have F61 := hF 61
  refine callsIn_of_wp Try.func61 rfl F61 ?_ hro
  simp only [Try.ntmps61, List.size_toArray, List.length_cons, List.length_nil, Nat.reduceAdd, Nat.reduceSub, Array.replicate_succ, Array.replicate_zero, List.push_toArray, List.append_toArray, List.nil_append, List.cons_append]
  gi_wp2
  gi_loopw [4] (fun i wr => ∃ (k : Nat) (pre : List (Chk m)), 2 * k ≤ m + 1 ∧ i = .int .i64 ((2 * k : Nat) : Int) ∧ pre.map (·.1) = List.range k ∧ J pre wr ∧ Keep2 G w wr) (fun i _ => m + 2 - (intOf i).toNat)
  case atStart => exact ⟨0, [], by omega, rfl, rfl, h0, hW.block G h1.lt, hW.block (G + 1) h2.lt⟩
  case round =>
    obtain ⟨k, pre, hk, rfl, hp, hj, hk1, hk2⟩ := hrel
    have q1 : Row wr G 23 [.slice A m c] := hk1.trans h1
    have q2 : Row wr (G + 1) 3 [.int .i64 2] := hk2.trans h2
    have c1 : wr.cell? ⟨G, 0, none⟩ = some (.slice A m c) := q1.cell 0
    have c2 : wr.cell? ⟨G + 1, 0, none⟩ = some (.int .i64 2) := q2.cell 0
    have hp' := Lib.hid hp
    have HKK := Lib.hid (show Keep2 G w wr from ⟨hk1, hk2⟩)
    have HQ2 := Lib.hid q2
    clear hp h1 h2 hk1 hk2 q1 q2
    by_cases hlt : 2 * k < m
    · obtain rfl := hA (by omega)
      have hlen : pre.length < (m + 1) / 2 := by
        have : (pre.map (·.1)).length = k := by rw [hp'.out, List.length_range]
        rw [List.length_map] at this
        omega
      obtain ⟨x, hx⟩ : ∃ x : Chk m, x.1 = k := ⟨⟨k, hlt⟩, rfl⟩
      have HX := Lib.hid hx
      clear hx
      have HY := Lib.hid hY
      clear hY
      have hm1 : ¬ c < 2 * k := by omega
      have hm2 : ¬ m < 2 * k := by omega
      rcases (by omega : m - 2 * k = 1 ∨ 2 ≤ m - 2 * k) with he | he
      · have e1 : min 2 (m - 2 * k) = 1 := by omega
        have w1 : wrap64 (2 * (k : Int) + 1) = ((2 * k + 1 : Nat) : Int) := by rw [IntWalk.wrap64_in _ ⟨by omega, by omega⟩]; omega
        have w2 : 2 * k + 1 - 2 * k = 1 := by omega
        have w3 : ¬ c < 2 * k + 1 := by omega
        have w4 : ¬ 2 * k + 1 = 2 * k := by omega
        gi_wp2
        refine wpIn_region_quiet_all hO (by kernel_rfl) (by kernel_rfl) (by kernel_rfl) ?_
        repeat go_big_quiet_step ((fail))
        refine wpQuiet_nil ?_
        rintro _ ⟨nq, rfl⟩
        obtain ⟨fn, tmps, assign, body, hy, hR⟩ := HY.out pre x (wr.drewN nq) (hJ pre wr _ none hj ⟨rfl, rfl, rfl, Nat.le_refl _, fun _ _ _ => rfl⟩ (fun r e => by cases e)) hlen
        rw [HX.out] at hy
        unfold chunkV at hy
        rw [e1] at hy
        clear he e1
        gi_wp2
        refine hR.mono ?_
        rintro e W3 (⟨rfl, hJ3, hk3⟩ | ⟨rfl, hJx3⟩)
        · have c3 : W3.cell? ⟨G + 1, 0, none⟩ = some (.int .i64 2) := Row.cell (cs := [.int .i64 2]) (t := 3) (hk3.2.trans HQ2.out) 0
          clear c1 c2
          gi_wp2
          go_roundw
          case rel => exact ⟨k + 1, pre ++ [x], by omega, by go_num, by rw [List.map_append, hp'.out, List.range_succ]; simp [HX.out], hJ3, hk3.1.trans HKK.out.1, hk3.2.trans HKK.out.2⟩
          case measure => simp [intOf]; omega
        · gi_wp2
          refine bodyPost_ret (results_none rfl _ _ _) rfl ?_
          exact ⟨⟨_, rfl⟩, .inr ⟨pre ++ [x], trivial, hJx3⟩⟩
      · have e1 : min 2 (m - 2 * k) = 2 := by omega
        have g1 : ¬ m - 2 * k < 2 := by omega
        have g2 : ¬ (((m - 2 * k : Nat) : Int) < 2) := by omega
        have w1 : wrap64 (2 * (k : Int) + 2) = ((2 * k + 2 : Nat) : Int) := by rw [IntWalk.wrap64_in _ ⟨by omega, by omega⟩]; omega
        have w2 : 2 * k + 2 - 2 * k = 2 := by omega
        have w3 : ¬ c < 2 * k + 2 := by omega
        have w4 : ¬ 2 * k + 2 = 2 * k := by omega
        gi_wp2
        refine wpIn_region_quiet_all hO (by kernel_rfl) (by kernel_rfl) (by kernel_rfl) ?_
        repeat go_big_quiet_step ((fail))
        refine wpQuiet_nil ?_
        rintro _ ⟨nq, rfl⟩
        obtain ⟨fn, tmps, assign, body, hy, hR⟩ := HY.out pre x (wr.drewN nq) (hJ pre wr _ none hj ⟨rfl, rfl, rfl, Nat.le_refl _, fun _ _ _ => rfl⟩ (fun r e => by cases e)) hlen
        rw [HX.out] at hy
        unfold chunkV at hy
        rw [e1] at hy
        clear he e1
        gi_wp2
        refine hR.mono ?_
        rintro e W3 (⟨rfl, hJ3, hk3⟩ | ⟨rfl, hJx3⟩)
        · have c3 : W3.cell? ⟨G + 1, 0, none⟩ = some (.int .i64 2) := Row.cell (cs := [.int .i64 2]) (t := 3) (hk3.2.trans HQ2.out) 0
          clear c1 c2
          gi_wp2
          go_roundw
          case rel => exact ⟨k + 1, pre ++ [x], by omega, by go_num, by rw [List.map_append, hp'.out, List.range_succ]; simp [HX.out], hJ3, hk3.1.trans HKK.out.1, hk3.2.trans HKK.out.2⟩
          case measure => simp [intOf]; omega
        · gi_wp2
          refine bodyPost_ret (results_none rfl _ _ _) rfl ?_
          exact ⟨⟨_, rfl⟩, .inr ⟨pre ++ [x], trivial, hJx3⟩⟩
    · gi_wp2
      go_end0
      refine ⟨⟨_, rfl⟩, .inl ⟨pre, ?_, hj⟩⟩
      rw [hp'.out, show (m + 1) / 2 = k by omega]
def valsC {m : Nat} (xs : List (Chk m)) : List Nat := xs.map (·.1)
theorem valsC_snoc {m : Nat} (xs : List (Chk m)) (x : Chk m) : valsC (xs ++ [x]) = valsC xs ++ [x.1] := by simp [valsC]
theorem valsC_len {m : Nat} (xs : List (Chk m)) : (valsC xs).length = xs.length := by simp [valsC]
/-- A loop over the chunks of a list. -/
theorem range_chunks {F : Fence} (hO : Open F) (hro : F.round = none) {n : Nat} (h1 : 1 ≤ n) {g : Operand} {ps : Array Tmp} {assign body : Code} {Q : Exit → Act → World → Prop} {a : Act} {w : World}
    (G b o m c : Nat) (A : Option Addr) (hA : 0 < m → A = some ⟨b, o, none⟩) (hm : m ≤ c) (hm6 : m ≤ 1000000) (hr1 : Row w G 23 [.slice A m c]) (hr2 : Row w (G + 1) 3 [.int .i64 2])
    (hg : a.eval g = .func (.func 61) #[] #[.pointer (some ⟨G, 0, none⟩), .pointer (some ⟨G + 1, 0, none⟩)]) (hps : ps.size = 1)
    (I : List (Chk m) → World → Prop) (Ix : Code → List (Chk m) → World → Prop) (hI : OwnFrom w.heap.size I) (hIx : ∀ c, OwnFrom w.heap.size (Ix c)) (h0 : I [] w) (a₁ : Chk m → Act)
    (hassign : ∀ (l : Nat) (x : Chk m) (W : World) (K : Act → World → Prop), K (a₁ x) W →
      assign.wpIn (F.inRound l) (n - 1 - 1) Try.prog (Exit.then K (fun _ _ _ => False)) { tmps := (ps.zip #[chunkV b o m x.1]).foldl (fun t (p, v) => t.setIfInBounds p v) a.tmps, defers := [] } W)
    (hbody : ∀ (l : Nat) (pre : List (Chk m)) (x : Chk m) (W : World), I pre W → pre.length < (m + 1) / 2 → body.wpIn (F.inRound l) (n - 1 - 1) Try.prog (ownPostG w.heap.size (Keep2 G) I Ix (pre ++ [x]) W) (a₁ x) W)
    (hdone : ∀ (D : Nat) (xs : List (Chk m)) (W : World), w.heap.size ≤ D → valsC xs = List.range ((m + 1) / 2) → I xs W → W.heap[D]? = some (.deferred (some [])) → Q .normal { a with defers := { target := .collected D, args := #[] } :: a.defers } W)
    (hstop : ∀ (D : Nat) (c : Code) (pre : List (Chk m)) (W : World), w.heap.size ≤ D → Ix c pre W → W.heap[D]? = some (.deferred (some [])) → c.wpIn F n Try.prog Q { a with defers := { target := .collected D, args := #[] } :: a.defers } W) :
    (Code.rangeFunc g ps assign body).wpIn F n Try.prog Q a w :=
  wpIn_rangeFunc_ownG (Kp := Keep2 G) (w0 := w) hro h1 hg (hO.fn 61) (enters_of Try.func61 (by kernel_rfl) rfl) (chunk_stops F hO hro (n - 1) G b o m c A hA hm hm6 w hr1 hr2) (fun h k => ⟨k.1.trans h.1, k.2.trans h.2⟩)
    (fun W l o o' hl _ _ _ => ⟨World.putObj_heap_other (by have := hr1.lt; omega), World.putObj_heap_other (by have := hr2.lt; omega)⟩) (Below.refl _ _) (fun _ => by rw [hps]; rfl) I Ix hI hIx h0 a₁ hassign hbody hdone (fun D c pre W hD _ => hstop D c pre W hD)
theorem keep2_row {W W' : World} {G : Nat} {t t' : TypeId} {cs cs' : List Value} (h : Row W G t cs) (h' : Row W' G t cs) (k : Row W (G + 1) t' cs') (k' : Row W' (G + 1) t' cs') : Keep2 G W W' := ⟨h'.trans h.symm, k'.trans k.symm⟩
theorem Chunk_any (v : Value) (w : World) (hv : ∃ A m c, v = .slice A m c) : Calls Try.prog 60 #[v, .int .i64 2] w fun e w' => e = .returned (.func (.func 61) #[] #[.pointer (some ⟨w.heap.size, 0, none⟩), .pointer (some ⟨w.heap.size + 1, 0, none⟩)]) ∧ (w.alloc (.cells #[v] 23)).alloc (.cells #[.int .i64 2] 3) = w' := by
  obtain ⟨A, m, c, rfl⟩ := hv
  go_enter Try.func60, Try.ntmps60
  go_wp2
  go_ret
  exact ⟨rfl, rfl⟩
end Go.Proofs.Ytopeppnajbnfgaa
