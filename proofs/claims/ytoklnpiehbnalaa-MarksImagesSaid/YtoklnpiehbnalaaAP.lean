/- Loops over a function that makes memory of its own; leaving a function in which such loops stood. -/
import Derived.Test.YtoklnpiehbnalaaAK
import Derived.Deep.WholeRow
import Derived.ArgAppend
namespace Go.Proofs.Ytoklnpiehbnalaa
open Go.RowKit Go.Shelf
attribute [local go_sem] Oper.semAt_some
set_option maxHeartbeats 1000000
set_option maxRecDepth 100000
/-- Block B lies as it lay. -/
def KeepB (B : Nat) (W W' : World) : Prop := W'.heap[B]? = W.heap[B]?
structure Fr (X : Nat → Prop) (w w' : World) : Prop where
  os : w'.os = w.os
  tape : w'.tape = w.tape
  output : w'.output = w.output
  size : w.heap.size ≤ w'.heap.size
  block : ∀ k, k < w.heap.size → ¬ X k → w'.heap[k]? = w.heap[k]?
theorem Fr.refl (X : Nat → Prop) (w : World) : Fr X w w := ⟨rfl, rfl, rfl, Nat.le_refl _, fun _ _ _ => rfl⟩
theorem Fr.trans {X : Nat → Prop} {a b c : World} (h : Fr X a b) (k : Fr X b c) : Fr X a c :=
  ⟨k.os.trans h.os, k.tape.trans h.tape, k.output.trans h.output, Nat.le_trans h.size k.size, fun i hi hx => (k.block i (Nat.lt_of_lt_of_le hi h.size) hx).trans (h.block i hi hx)⟩
theorem Fr.of_below {X : Nat → Prop} {w w' : World} (h : Below w.heap.size w w') : Fr X w w' := ⟨h.os, h.tape, h.output, h.size, fun k hk _ => h.block k hk⟩
theorem Fr.below {w w' : World} (h : Fr (fun _ => False) w w') : Below w.heap.size w w' := ⟨h.os, h.tape, h.output, h.size, fun k hk => h.block k hk (fun f => f)⟩
theorem Fr.mono {X Y : Nat → Prop} {w w' : World} (h : Fr X w w') (hXY : ∀ k, k < w.heap.size → X k → Y k) : Fr Y w w' :=
  ⟨h.os, h.tape, h.output, h.size, fun k hk hy => h.block k hk (fun hx => hy (hXY k hk hx))⟩
theorem Fr.drewN {X : Nat → Prop} {a w : World} (h : Fr X a w) (n : Nat) : Fr X a (w.drewN n) := ⟨h.os, h.tape, h.output, h.size, h.block⟩
theorem Fr.drew {X : Nat → Prop} {a w : World} (h : Fr X a w) : Fr X a w.drew := ⟨h.os, h.tape, h.output, h.size, h.block⟩
theorem Fr.alloc {X : Nat → Prop} {a w : World} (h : Fr X a w) (o : Obj) : Fr X a (w.alloc o) := h.trans (Fr.of_below ((Below.refl _ _).alloc (Nat.le_refl _) o))
theorem Fr.setCell {X : Nat → Prop} {a w : World} (h : Fr X a w) {p : Addr} (hp : X p.block ∨ a.heap.size ≤ p.block) (u : Value) : Fr X a (w.setCell p u) :=
  ⟨h.os, h.tape, h.output, Nat.le_trans h.size (by simp [World.setCell]), fun k hk hx => (Below.heap_setCell w p u k (fun e => by
    subst e; rcases hp with hp | hp
    · exact hx hp
    · omega)).trans (h.block k hk hx)⟩
/-- A callee's own account, met in the middle of a call. -/
theorem Fr.then_ {X Y : Nat → Prop} {a b c : World} (h : Fr X a b) (k : Fr Y b c) (hY : ∀ i, i < a.heap.size → Y i → X i) : Fr X a c :=
  ⟨k.os.trans h.os, k.tape.trans h.tape, k.output.trans h.output, Nat.le_trans h.size k.size, fun i hi hx => (k.block i (Nat.lt_of_lt_of_le hi h.size) (fun hy => hx (hY i hi hy))).trans (h.block i hi hx)⟩
theorem Fr.then_below {X : Nat → Prop} {a b c : World} (h : Fr X a b) (k : Below b.heap.size b c) : Fr X a c := h.trans (Fr.of_below k)
theorem Fr.cell {X : Nat → Prop} {w w' : World} (h : Fr X w w') {b o : Nat} (hb : b < w.heap.size) (hx : ¬ X b) : w'.cell? ⟨b, o, none⟩ = w.cell? ⟨b, o, none⟩ := World.cell?_of_block (w := w) (h.block b hb hx)
theorem Fr.under {X : Nat → Prop} {w a b : World} (h : Below w.heap.size w a) (k : Fr X a b) (hX : ∀ i, i < w.heap.size → ¬ X i) : Below w.heap.size w b :=
  ⟨k.os.trans h.os, k.tape.trans h.tape, k.output.trans h.output, Nat.le_trans h.size k.size, fun i hi => (k.block i (Nat.lt_of_lt_of_le hi h.size) (hX i hi)).trans (h.block i hi)⟩
theorem Row.fr {X : Nat → Prop} {w w' : World} {g : Nat} {t : TypeId} {cs : List Value} (h : Row w g t cs) (k : Fr X w w') (hx : ¬ X g) : Row w' g t cs := (k.block g h.lt hx).trans h
theorem grown_lt {A B : World} {row : Option Nat} {Bd : Nat} (hg : A.grownBy B row) (hr : ∀ r, row = some r → Bd ≤ r ∧ ∃ o : Obj, A.heap[r]? = some o ∧ o.isCells = false) (k : Nat) (hk : k < A.heap.size) (hb : k < Bd) : B.heap[k]? = A.heap[k]? :=
  hg.block k hk (fun e => by have := (hr k e.symm).1; omega)
theorem ownFrom_fr {β : Type} {X : Nat → Prop} {w : World} {Bd : Nat} (hB : w.heap.size ≤ Bd) : OwnFrom Bd (fun (_ : β) W => Fr X w W) := fun _ A B row hs hg hr =>
  ⟨hg.os.trans hs.os, hg.tape.trans hs.tape, hg.output.trans hs.output, Nat.le_trans hs.size hg.size, fun k hk hx => (grown_lt hg hr k (Nat.lt_of_lt_of_le hk hs.size) (by omega)).trans (hs.block k hk hx)⟩
theorem ownFrom_row {β : Type} {g : Nat} {t : TypeId} {f : β → List Value} {Bd : Nat} : OwnFrom Bd (fun s W => Row W g t (f s)) := fun s A B row hs hg hr => by
  refine (hg.block g hs.lt (fun e => ?_)).trans hs
  obtain ⟨_, o, ho, hc⟩ := hr g e.symm
  unfold Row at hs
  rw [hs] at ho; cases ho; cases hc
theorem keeps_drewN (B : Nat) (W : World) (n : Nat) : KeepsFrom B W (W.drewN n) := ⟨Nat.le_refl _, fun _ _ _ h _ => h⟩
theorem keeps_below (B : Nat) {W W' : World} (h : Below W.heap.size W W') : KeepsFrom B W W' := ⟨h.size, fun k _ _ hk _ => (h.block k (Array.getElem?_eq_some_iff.1 hk).1).trans hk⟩
theorem keeps_fr {X : Nat → Prop} (B : Nat) {W W' : World} (h : Fr X W W') (hX : ∀ k, X k → ∃ o, W.heap[k]? = some o ∧ o.isCells = true) : KeepsFrom B W W' := ⟨h.size, fun k o _ hk ho => (h.block k (Array.getElem?_eq_some_iff.1 hk).1 (fun hx => by
  obtain ⟨o', h1, h2⟩ := hX k hx
  rw [h1] at hk; cases hk; rw [ho] at h2; cases h2)).trans hk⟩
theorem keepB_row {W W' : World} {B : Nat} {t : TypeId} {cs : List Value} (h : Row W B t cs) (h' : Row W' B t cs) : KeepB B W W' := h'.trans h.symm
/-! Leaving a function in which loops over a function stood. -/
abbrev mark (D : Nat) : Deferred := { target := .collected D, args := #[] }
def shut : List Nat → World → World
  | [], w => w
  | D :: Ds, w => shut Ds (w.putObj D (.deferred none))
def Marks (Ds : List Nat) (w : World) : Prop := Ds.Nodup ∧ ∀ D ∈ Ds, w.heap[D]? = some (.deferred (some []))
theorem Marks.tail {D : Nat} {Ds : List Nat} {w : World} (h : Marks (D :: Ds) w) : Marks Ds (w.putObj D (.deferred none)) :=
  ⟨(List.nodup_cons.1 h.1).2, fun E hE => (World.putObj_heap_other (fun e => (List.nodup_cons.1 h.1).1 (by rw [← e]; exact hE))).trans (h.2 E (List.mem_cons_of_mem _ hE))⟩
theorem shut_row {Ds : List Nat} {w : World} (hm : Marks Ds w) {g : Nat} {t : TypeId} {cs : List Value} (h : Row w g t cs) : Row (shut Ds w) g t cs := by
  induction Ds generalizing w with
  | nil => exact h
  | cons D Ds ih =>
    refine ih hm.tail ((World.putObj_heap_other (fun e => ?_)).trans h)
    have := hm.2 D (List.mem_cons_self ..)
    unfold Row at h
    rw [← e, h] at this; cases this
theorem shut_below {Ds : List Nat} {B : Nat} {w W : World} (h : Below B w W) (hB : ∀ D ∈ Ds, B ≤ D) : Below B w (shut Ds W) := by
  induction Ds generalizing W with
  | nil => exact h
  | cons D Ds ih =>
    refine ih (h.trans ⟨rfl, rfl, rfl, by simp, fun k hk => World.putObj_heap_other (fun e => ?_)⟩) (fun E hE => hB E (List.mem_cons_of_mem _ hE))
    have := hB D (List.mem_cons_self ..); omega
theorem leaves_marks {F : Fence} {n : Nat} {P : Program} {fn : Func} {tmps : Array Value} {R : Ending → World → Prop} (Ds : List Nat) (w : World) (hm : Marks Ds w) {v : Value}
    (hv : (results fn tmps).run P (shut Ds w) = .ok v (shut Ds w)) (hR : R (.returned v) (shut Ds w)) : LeavesInM F n P fn tmps R (Ds.map mark) .returning w := by
  induction Ds generalizing w with
  | nil => exact ⟨v, hv, hR⟩
  | cons D Ds ih => exact ⟨by simp, .inl ⟨D, _, rfl, run_takeDeferred (hm.2 D (List.mem_cons_self ..)), ih _ hm.tail hv hR⟩⟩
theorem ret_marks {F : Fence} {n : Nat} {P : Program} {fn : Func} {tmps : Array Value} {R : Ending → World → Prop} (Ds : List Nat) {w : World} (hm : Marks Ds w) {v : Value}
    (hv : (results fn tmps).run P (shut Ds w) = .ok v (shut Ds w)) (hR : R (.returned v) (shut Ds w)) : bodyPostM F n P fn R .ret { tmps := tmps, defers := Ds.map mark } w := leaves_marks Ds w hm hv hR
theorem marks_one {D : Nat} {w : World} (h : w.heap[D]? = some (.deferred (some []))) : Marks [D] w := ⟨by simp, fun E hE => by simp at hE; subst hE; exact h⟩
theorem keeps_mark {B D : Nat} {w w' : World} (h : KeepsFrom B w w') (hB : B ≤ D) (hk : w.heap[D]? = some (.deferred (some []))) : w'.heap[D]? = some (.deferred (some [])) := h.same D _ hB hk rfl
theorem wpListIn_load_mid {F : Fence} {n : Nat} {P : Program} {w : World} {ops : Array Oper} {rest : List Oper} {o : Oper} {a : Act} {Q : Exit → Act → World → Prop}
    (hg : o.guard = none) (ty : TypeId) (x : Operand) (hop : o.op = .load ty x) (b off : Nat) (hx : a.eval x = .pointer (some ⟨b, off, none⟩)) (cs : List Value) (d : TypeDesc) (hc : w.rangeAt b off cs)
    (hu : P.underlying ty = some d) (hd : d.isRow = true) (hi : (P.info? ty).map (·.size) = some cs.length) (h : wpListIn F n P ops Q rest (a.put o.dst (.agg cs.toArray)) w) : wpListIn F n P ops Q (o :: rest) a w := by
  refine wpListIn_plain hg fun K hK' => ?_
  unfold Oper.wpIn
  refine ⟨?_, ?_⟩
  · simp [Oper.about, hop]
  · rw [Oper.semAt_plain F _ _ (by rw [hop]; intro c hc'; cases hc')]
    simp [execOp, hop, hx, run_loadAt_mid w b off ty cs d hc hu hd hi, Result.andThen]
    exact hK' _ _ h
theorem wpListIn_store_row {F : Fence} {n : Nat} {P : Program} {w : World} {ops : Array Oper} {rest : List Oper} {o : Oper} {a : Act} {Q : Exit → Act → World → Prop}
    (hg : o.guard = none) (ty : TypeId) (x y : Operand) (hop : o.op = .store ty x y) (g : Nat) (cells : Array Value) (hx : a.eval x = .pointer (some ⟨g, 0, none⟩)) (hy : a.eval y = .agg cells) (t : TypeId) (old : Array Value)
    (hr : w.heap[g]? = some (.cells old t (0, 0))) (hi : (P.info? ty).map (·.size) = some cells.size) (hold : old.size = cells.size) (h1 : cells.all (·.oneCell') = true)
    (h : wpListIn F n P ops Q rest (a.put o.dst undef) (w.setRow g cells)) : wpListIn F n P ops Q (o :: rest) a w := by
  refine wpListIn_plain hg fun K hK' => ?_
  unfold Oper.wpIn
  refine ⟨?_, ?_⟩
  · simp [Oper.about, hop]
  · rw [Oper.semAt_plain F _ _ (by rw [hop]; intro c hc'; cases hc')]
    simp [execOp, hop, hx, hy, Instr.storeAt, Instr.sureAddr, run_storeVar_row w g t ty old cells hr hi hold h1, Result.andThen]
    exact hK' _ _ h
theorem wpListIn_store_mid {F : Fence} {n : Nat} {P : Program} {w : World} {ops : Array Oper} {rest : List Oper} {o : Oper} {a : Act} {Q : Exit → Act → World → Prop}
    (hg : o.guard = none) (ty : TypeId) (x y : Operand) (hop : o.op = .store ty x y) (b off : Nat) (cells : Array Value) (hx : a.eval x = .pointer (some ⟨b, off, none⟩)) (hy : a.eval y = .agg cells)
    (ht : w.there b off cells.size) (hi : (P.info? ty).map (·.size) = some cells.size) (h1 : cells.all (·.oneCell') = true)
    (h : wpListIn F n P ops Q rest (a.put o.dst undef) (w.setCells b off cells.toList)) : wpListIn F n P ops Q (o :: rest) a w := by
  refine wpListIn_plain hg fun K hK' => ?_
  unfold Oper.wpIn
  refine ⟨?_, ?_⟩
  · simp [Oper.about, hop]
  · rw [Oper.semAt_plain F _ _ (by rw [hop]; intro c hc'; cases hc')]
    simp [execOp, hop, hx, hy, run_storeAt_mid w b off ty cells ht hi h1, Result.andThen]
    exact hK' _ _ h
/-- What is said of a world does not turn when blocks at or beyond B do. -/
def AbAll {β : Type} (B : Nat) (J : β → World → Prop) : Prop := ∀ s W W' row, J s W → W.grownBy W' row → (∀ r, row = some r → B ≤ r) → J s W'
theorem AbAll.putObj {β : Type} {B : Nat} {J : β → World → Prop} (h : AbAll B J) {s : β} {W : World} {l : Nat} (o : Obj) (hs : J s W) (hB : B ≤ l) : J s (W.putObj l o) := h s W _ (some l) hs (grownBy_putObj' W l o) (fun r e => by cases e; exact hB)
theorem AbAll.alloc {β : Type} {B : Nat} {J : β → World → Prop} (h : AbAll B J) {s : β} {W : World} (o : Obj) (hs : J s W) : J s (W.alloc o) := h s W _ none hs (World.grownBy_alloc W o none) (fun r e => by cases e)
/-- All that lay at or beyond B, or in X, lies as it lay. -/
structure KeepA (B : Nat) (X : Nat → Prop) (W W' : World) : Prop where
  size : W.heap.size ≤ W'.heap.size
  same : ∀ k, B ≤ k ∨ X k → k < W.heap.size → W'.heap[k]? = W.heap[k]?
theorem KeepA.trans {B : Nat} {X : Nat → Prop} {Y Z V : World} (h : KeepA B X Y Z) (k : KeepA B X Z V) : KeepA B X Y V := ⟨Nat.le_trans h.size k.size, fun i hB hi => (k.same i hB (Nat.lt_of_lt_of_le hi h.size)).trans (h.same i hB hi)⟩
theorem KeepA.mono {B C : Nat} {X : Nat → Prop} {W W' : World} (h : KeepA B X W W') (hC : B ≤ C) : KeepA C X W W' := ⟨h.size, fun k hk => h.same k (hk.elim (fun h => .inl (Nat.le_trans hC h)) .inr)⟩
theorem KeepA.low {B l : Nat} {X : Nat → Prop} (W : World) (o : Obj) (hl : l < B) (hX : ¬ X l) : KeepA B X W (W.putObj l o) := ⟨by simp, fun k hk _ => World.putObj_heap_other (fun e => by subst e; rcases hk with h | h; omega; exact hX h)⟩
theorem KeepA.of_below {B : Nat} {X : Nat → Prop} {W W' : World} (h : Below W.heap.size W W') : KeepA B X W W' := ⟨h.size, fun k _ hk => h.block k hk⟩
theorem KeepA.row {B : Nat} {X : Nat → Prop} {W W' : World} (h : KeepA B X W W') {g : Nat} {t : TypeId} {cs : List Value} (hr : Row W g t cs) (hB : B ≤ g ∨ X g) : Row W' g t cs := (h.same g hB hr.lt).trans hr
def SeqW {α : Type} (F : Fence) (n : Nat) (P : Program) (g : Nat) (lb : Array Value) (val : Nat → α → Value) (Q : Nat → α → World → Prop) (X : Nat → Prop) (S Sp : List α → Prop) (w : World) : Prop :=
  ∀ (l : Nat) (J Jx : List α → World → Prop) (W : World), Below w.heap.size w W → AbAll W.heap.size J →
    (∀ pre x W1, J pre W1 → Q W.heap.size x W1 → YieldAt F (n - 1) P l #[val W.heap.size x] W1 fun e W' =>
      (e = .returned (.bool true) ∧ J (pre ++ [x]) W' ∧ KeepA W.heap.size X W1 W') ∨ (e = .returned (.bool false) ∧ Jx (pre ++ [x]) W' ∧ KeepA W.heap.size X W1 W')) →
    J [] W →
    CallsIn F n P g (#[.func (.yield l) #[] #[]] ++ lb) W fun e W' => (∃ v, e = .returned v) ∧ ((∃ xs, S xs ∧ J xs W') ∨ (∃ pre, Sp pre ∧ Jx pre W'))
def ownPostW {α : Type} (B : Nat) (X : Nat → Prop) (I : List α → World → Prop) (Ix : Code → List α → World → Prop) (xs : List α) (W : World) : Exit → Act → World → Prop
  | .normal, _, W' => KeepA B X W W' ∧ I xs W'
  | .ret, _, W' => KeepA B X W W' ∧ Ix .ret xs W'
  | .exit id, _, W' => KeepA B X W W' ∧ Ix (.exit id) xs W'
  | .goto t, _, W' => KeepA B X W W' ∧ Ix (.goto t) xs W'
  | .panic _, _, _ => False
  | .outgrown, _, _ => False
section
variable {F : Fence} {n : Nat} {P : Program}
theorem wpIn_rangeFunc_writes {α : Type} {g : Operand} {p : Tmp} {assign body : Code} {Q : Exit → Act → World → Prop} {a : Act} {w : World}
    (hro : F.round = none) (h1 : 1 ≤ n) {gf : Nat} {lb : Array Value} (hg : a.eval g = .func (.func gf) #[] lb) (hFg : F.fn gf) (eg : ∀ args w, (callFunc gf args).run P w = .ok (.enter gf args) w)
    {val : Nat → α → Value} {Qx : Nat → α → World → Prop} {X : Nat → Prop} {S Sp : List α → Prop} (hseq : SeqW F (n - 1) P gf lb val Qx X S Sp w) (hX : ∀ k, X k → k < w.heap.size)
    (hQx : ∀ B x W W', Qx B x W → KeepA B X W W' → Qx B x W')
    (I : List α → World → Prop) (Ix : Code → List α → World → Prop) (hI : AbAll w.heap.size I) (hIx : ∀ c, OwnFrom w.heap.size (Ix c)) (h0 : I [] w) (a₁ : Nat → α → Act)
    (hassign : ∀ (l B : Nat) (x : α) (W : World) (K : Act → World → Prop), K (a₁ B x) W →
      assign.wpIn (F.inRound l) (n - 1 - 1) P (Exit.then K (fun _ _ _ => False)) { tmps := (#[p].zip #[val B x]).foldl (fun t (p, v) => t.setIfInBounds p v) a.tmps, defers := [] } W)
    (hbody : ∀ (l B : Nat) (pre : List α) (x : α) (W : World), w.heap.size + 2 ≤ B → I pre W → Qx B x W → body.wpIn (F.inRound l) (n - 1 - 1) P (ownPostW w.heap.size X I Ix (pre ++ [x]) W) (a₁ B x) W)
    (hdone : ∀ (D : Nat) (xs : List α) (W : World), w.heap.size ≤ D → S xs → I xs W → W.heap[D]? = some (.deferred (some [])) → Q .normal { a with defers := { target := .collected D, args := #[] } :: a.defers } W)
    (hstop : ∀ (D : Nat) (c : Code) (pre : List α) (W : World), w.heap.size ≤ D → Sp pre → Ix c pre W → W.heap[D]? = some (.deferred (some [])) → c.wpIn F n P Q { a with defers := { target := .collected D, args := #[] } :: a.defers } W) :
    (Code.rangeFunc g #[p] assign body).wpIn F n P Q a w := by
  refine wpIn_rangeFunc ?_
  intro fn hfn
  rw [hro]
  obtain ⟨rec, hrec⟩ : ∃ rec : LoopState → Option Code → Loop, rec = fun st pe => { state := st, pending := pe, fn, tmps := a.tmps, params := #[p], assign, body, defers := w.heap.size } := ⟨_, rfl⟩
  have hR : ∀ st pe, rec st pe = { state := st, pending := pe, fn, tmps := a.tmps, params := #[p], assign, body, defers := w.heap.size } := fun st pe => by rw [hrec]
  obtain ⟨W1, hW1⟩ : ∃ W1, (w.alloc (.deferred (some []))).alloc (.loop (rec .ready none)) = W1 := ⟨_, rfl⟩
  have hz1 : W1.heap.size = w.heap.size + 2 := by rw [← hW1]; simp
  have rL : W1.heap[w.heap.size + 1]? = some (.loop (rec .ready none)) := by
    rw [← hW1]; have := World.alloc_heap_new (w.alloc (.deferred (some []))) (.loop (rec .ready none)); rwa [World.size_alloc] at this
  have rD : W1.heap[w.heap.size]? = some (.deferred (some [])) := by
    rw [← hW1]; exact (Below.heap_alloc _ _ _ (by simp)).trans (World.alloc_heap_new w _)
  have i1 : I [] W1 := by rw [← hW1]; exact hI.alloc _ (hI.alloc _ h0)
  have b1 : Below w.heap.size w W1 := by
    rw [← hW1]; exact (((Below.refl _ w).alloc (Nat.le_refl _) _).alloc (by simp) _)
  refine ⟨w.heap.size + 1, [{ target := .collected w.heap.size, args := #[] }], W1, { target := .fn (.func gf) lb, args := #[.func (.yield (w.heap.size + 1)) #[] #[]] }, W1, gf,
    #[.func (.yield (w.heap.size + 1)) #[] #[]] ++ lb, W1, ?_, ?_, ?_, ?_, fun _ => h1, ?_⟩
  · rw [← hW1, hR]; exact run_enterLoop_outer _ _ _ _ _
  · simp only [resolve, hg]
    simp [go_sem]
  · intro f' hf'; simp [Target.leads] at hf'; subst hf'; exact hFg
  · simp [invoke, go_sem, eg]
  have keep : ∀ {A B : World} {row : Option Nat} (k : Nat), k < w.heap.size + 2 → k < A.heap.size → A.grownBy B row → (∀ r, row = some r → W1.heap.size ≤ r) → B.heap[k]? = A.heap[k]? := fun k hk hA hgr hr => hgr.block k hA (fun e => by have := hr k e.symm; omega)
  let JJ : List α → World → Prop := fun pre W => I pre W ∧ W.heap[w.heap.size + 1]? = some (.loop (rec .ready none)) ∧ W.heap[w.heap.size]? = some (.deferred (some []))
  let JX : List α → World → Prop := fun pre W => ∃ c, Ix c pre W ∧ W.heap[w.heap.size + 1]? = some (.loop (rec .done (some c))) ∧ W.heap[w.heap.size]? = some (.deferred (some []))
  have lt : ∀ {W : World} {k : Nat} {o : Obj}, W.heap[k]? = some o → k < W.heap.size := fun h => (Array.getElem?_eq_some_iff.1 h).1
  refine (hseq (w.heap.size + 1) JJ JX W1 b1
    (fun s A B row hs hgr hr => ⟨hI s A B row hs.1 hgr (fun r e => by have := hr r e; omega), (keep _ (by omega) (lt hs.2.1) hgr hr).trans hs.2.1, (keep _ (by omega) (lt hs.2.2) hgr hr).trans hs.2.2⟩)
    ?_ ⟨i1, rL, rD⟩).mono ?_
  · rintro pre x W ⟨hi, hl, hk⟩ hq
    have hy := run_yield (P := P) (args := #[val W1.heap.size x]) hl (by rw [hR]; rfl)
    rw [hR] at hy
    refine ⟨fn, _, assign, body, hy, roundIn_of_wpIn hfn (hassign _ W1.heap.size x W _ ⟨_, run_beginRound hl (by rw [hR]), ?_⟩)⟩
    obtain ⟨W2, hW2⟩ : ∃ W2, W.putObj (w.heap.size + 1) (.loop { rec .ready none with state := .busy }) = W2 := ⟨_, rfl⟩
    have hl2 : W2.heap[w.heap.size + 1]? = some (.loop { rec .ready none with state := .busy }) := by rw [← hW2]; exact World.putObj_heap_same (lt hl)
    have hk2 : W2.heap[w.heap.size]? = some (.deferred (some [])) := by rw [← hW2]; exact (World.putObj_heap_other (by omega)).trans hk
    have hA2 : KeepA W1.heap.size X W W2 := by rw [← hW2]; exact KeepA.low W _ (by omega) (fun h => by have := hX _ h; omega)
    have hi2 : I pre W2 := by rw [← hW2]; exact hI.putObj _ hi (by omega)
    rw [hW2]
    refine wpIn_mono (hbody _ W1.heap.size pre x W2 (by omega) hi2 (hQx _ _ _ _ hq hA2)) ?_
    have fin : ∀ (jump : Option Code) (W3 : World), KeepA w.heap.size X W2 W3 →
        W3.heap[w.heap.size + 1]? = some (.loop { rec .ready none with state := .busy }) ∧ (Instr.endRound (w.heap.size + 1) jump).run P W3 = .ok (.bool jump.isNone) (W3.putObj (w.heap.size + 1) (.loop (rec (if jump.isNone then .ready else .done) jump))) ∧
        (W3.putObj (w.heap.size + 1) (.loop (rec (if jump.isNone then .ready else .done) jump))).heap[w.heap.size + 1]? = some (.loop (rec (if jump.isNone then .ready else .done) jump)) ∧
        (W3.putObj (w.heap.size + 1) (.loop (rec (if jump.isNone then .ready else .done) jump))).heap[w.heap.size]? = some (.deferred (some [])) := fun jump W3 hk3 => by
      have hl3 := (hk3.same _ (.inl (by omega)) (lt hl2)).trans hl2
      have h := run_endRound (P := P) jump hl3
      refine ⟨hl3, ?_⟩
      rw [hrec] at h ⊢
      exact ⟨h, World.putObj_heap_same (lt hl3), (World.putObj_heap_other (by omega)).trans ((hk3.same _ (.inl (Nat.le_refl _)) (lt hk2)).trans hk2)⟩
    rintro e a3 W3 hp
    cases e with
    | normal =>
      obtain ⟨hk3, hi3⟩ := hp
      obtain ⟨hl3, hr, hl4, hk4⟩ := fin none W3 hk3
      exact ⟨_, _, hr, .inl ⟨rfl, ⟨hI.putObj _ hi3 (by omega), hl4, hk4⟩, hA2.trans ((hk3.mono (by omega)).trans (KeepA.low W3 _ (by omega) (fun h => by have := hX _ h; omega)))⟩⟩
    | ret =>
      obtain ⟨hk3, hi3⟩ := hp
      obtain ⟨hl3, hr, hl4, hk4⟩ := fin (some .ret) W3 hk3
      exact ⟨_, _, hr, .inr ⟨rfl, ⟨.ret, (hIx _).putObj _ hi3 (by omega) hl3 rfl, hl4, hk4⟩, hA2.trans ((hk3.mono (by omega)).trans (KeepA.low W3 _ (by omega) (fun h => by have := hX _ h; omega)))⟩⟩
    | exit id =>
      obtain ⟨hk3, hi3⟩ := hp
      obtain ⟨hl3, hr, hl4, hk4⟩ := fin (some (.exit id)) W3 hk3
      exact ⟨_, _, hr, .inr ⟨rfl, ⟨.exit id, (hIx _).putObj _ hi3 (by omega) hl3 rfl, hl4, hk4⟩, hA2.trans ((hk3.mono (by omega)).trans (KeepA.low W3 _ (by omega) (fun h => by have := hX _ h; omega)))⟩⟩
    | goto t =>
      obtain ⟨hk3, hi3⟩ := hp
      obtain ⟨hl3, hr, hl4, hk4⟩ := fin (some (.goto t)) W3 hk3
      exact ⟨_, _, hr, .inr ⟨rfl, ⟨.goto t, (hIx _).putObj _ hi3 (by omega) hl3 rfl, hl4, hk4⟩, hA2.trans ((hk3.mono (by omega)).trans (KeepA.low W3 _ (by omega) (fun h => by have := hX _ h; omega)))⟩⟩
    | panic ch => exact hp.elim
    | outgrown => exact hp.elim
  · rintro e W2 ⟨⟨v, rfl⟩, (⟨xs, hS, hi, hl, hk⟩ | ⟨pre, hSp, c, hi, hl, hk⟩)⟩
    · exact ⟨none, _, by have := run_endLoop (P := P) hl (by rw [hR]; simp); rw [hrec] at this; exact this, hdone _ xs _ (Nat.le_refl _) hS (hI.putObj _ hi (by omega)) ((World.putObj_heap_other (by omega)).trans hk)⟩
    · exact ⟨some c, _, by have := run_endLoop (P := P) hl (by rw [hR]; simp); rw [hrec] at this; exact this, hstop _ c pre _ (Nat.le_refl _) hSp ((hIx c).putObj _ hi (by omega) hl rfl) ((World.putObj_heap_other (by omega)).trans hk)⟩
end
theorem room_open {F : Fence} (hO : Open F) (k : Nat) : F.room k := by
  unfold Fence.room
  rw [hO.depth]
  intro d h; cases h
theorem calls_depth {F : Fence} (hO : Open F) {a b : Nat} {P : Program} {f : FuncId} {args : Array Value} {w : World} {R : Ending → World → Prop} (h : CallsIn F a P f args w R) : CallsIn F b P f args w R := ⟨h.1, fun cs _ => h.2 cs (room_open hO _)⟩
theorem round_depth {F : Fence} (hO : Open F) {a b : Nat} {P : Program} {l : Nat} {f : FuncId} {tmps : Array Value} {assign body : Code} {w : World} {R : Ending → World → Prop} (h : RoundIn F a P l f tmps assign body w R) : RoundIn F b P l f tmps assign body w R := ⟨h.1, fun c cs _ => h.2 c cs (room_open hO _)⟩
theorem grown_set {w : World} {p : Addr} (u : Value) : w.grownBy (w.setCell p u) (some p.block) := ⟨rfl, rfl, rfl, by simp [World.setCell], fun k _ hne => Below.heap_setCell w p u k (fun e => hne (by rw [e]))⟩
theorem Marks.fr {X : Nat → Prop} {Ds : List Nat} {W W' : World} (h : Marks Ds W) (k : Fr X W W') (hX : ∀ D ∈ Ds, ¬ X D) : Marks Ds W' := ⟨h.1, fun D hD => (k.block D (Array.getElem?_eq_some_iff.1 (h.2 D hD)).1 (hX D hD)).trans (h.2 D hD)⟩
theorem Marks.cons {Ds : List Nat} {W W' : World} {D : Nat} (h : Marks Ds W') (hl : ∀ E ∈ Ds, E < W.heap.size) (hD : W.heap.size ≤ D) (hk : W'.heap[D]? = some (.deferred (some []))) : Marks (D :: Ds) W' :=
  ⟨List.nodup_cons.2 ⟨fun hm => by have := hl D hm; omega, h.1⟩, fun E hE => by
    rcases List.mem_cons.1 hE with rfl | hE
    · exact hk
    · exact h.2 E hE⟩
theorem Marks.lt {Ds : List Nat} {W : World} (h : Marks Ds W) {E : Nat} (hE : E ∈ Ds) : E < W.heap.size := (Array.getElem?_eq_some_iff.1 (h.2 E hE)).1
theorem Marks.ne_row {Ds : List Nat} {W : World} (h : Marks Ds W) {E g : Nat} {t : TypeId} {cs : List Value} (hE : E ∈ Ds) (hr : Row W g t cs) : E ≠ g := fun e => by
  subst e
  have h1 := h.2 E hE
  unfold Row at hr
  rw [hr] at h1; cases h1
theorem shut_own {Ds : List Nat} {w : World} (hm : Marks Ds w) {b n : Nat} {e : TypeId} {z : Nat} {v : Value} {xs : List Value} (h : w.ownsRow b e z v n xs) : (shut Ds w).ownsRow b e z v n xs := by
  refine ⟨h.1, ?_⟩
  rcases h.2 with hn | ⟨g, cap, cur, rfl, hb, hg, rest⟩
  · exact .inl hn
  · refine .inr ⟨g, cap, cur, rfl, hb, ?_, rest⟩
    have hr : Row w g e cur.toList := by unfold Row; rw [hg]
    have := shut_row hm hr
    unfold Row at this
    rw [this]
theorem abAll_fr {β : Type} {X : Nat → Prop} {W0 : World} {B : Nat} (hB : W0.heap.size ≤ B) : AbAll B (fun (_ : β) W => Fr X W0 W) := fun _ A C row hs hg hr =>
  ⟨hg.os.trans hs.os, hg.tape.trans hs.tape, hg.output.trans hs.output, Nat.le_trans hs.size hg.size, fun k hk hx => (hg.block k (Nat.lt_of_lt_of_le hk hs.size) (fun e => by have := hr k e.symm; omega)).trans (hs.block k hk hx)⟩
theorem own_turn {A C : World} {row : Option Nat} {b n : Nat} {e : TypeId} {z : Nat} {v : Value} {xs : List Value} (h : A.ownsRow b e z v n xs) (hg : A.grownBy C row) (hr : ∀ r, row = some r → ∃ o : Obj, A.heap[r]? = some o ∧ o.isCells = false) : C.ownsRow b e z v n xs := by
  refine ⟨h.1, ?_⟩
  rcases h.2 with hn | ⟨g, cap, cur, rfl, hb, hgg, rest⟩
  · exact .inl hn
  · refine .inr ⟨g, cap, cur, rfl, hb, ?_, rest⟩
    refine (hg.block g (Array.getElem?_eq_some_iff.1 hgg).1 (fun e => ?_)).trans hgg
    obtain ⟨o, ho, hc⟩ := hr g e.symm
    rw [hgg] at ho; cases ho; cases hc
theorem row_turn {A C : World} {row : Option Nat} {g : Nat} {t : TypeId} {cs : List Value} (h : Row A g t cs) (hg : A.grownBy C row) (hr : ∀ r, row = some r → ∃ o : Obj, A.heap[r]? = some o ∧ o.isCells = false) : Row C g t cs := by
  refine (hg.block g h.lt (fun e => ?_)).trans h
  obtain ⟨o, ho, hc⟩ := hr g e.symm
  unfold Row at h
  rw [h] at ho; cases ho; cases hc
theorem KeepA.setLow {B : Nat} {X : Nat → Prop} (W : World) {p : Addr} (hl : p.block < B) (hX : ¬ X p.block) (u : Value) : KeepA B X W (W.setCell p u) := ⟨by simp [World.setCell], fun k hk _ => Below.heap_setCell W p u k (fun e => by subst e; rcases hk with h | h; omega; exact hX h)⟩
end Go.Proofs.Ytoklnpiehbnalaa
