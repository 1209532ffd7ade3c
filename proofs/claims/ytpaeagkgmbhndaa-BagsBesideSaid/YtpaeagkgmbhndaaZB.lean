/- Parts F D E H of the proof, in this order. -/
import Derived.Test.YtpaeagkgmbhndaaZA
import Derived.Maps.AppendAt
/- What a call may change: all blocks that lay before it lie as they lay, but for those of a set X. And the law for a loop over the members of a set. -/
namespace Go.Proofs.Ytpaeagkgmbhndaa
open Go.RowKit Go.Shelf
structure Fr (X : Nat → Prop) (w w' : World) : Prop where
  os : w'.os = w.os
  tape : w'.tape = w.tape
  output : w'.output = w.output
  size : w.heap.size ≤ w'.heap.size
  block : ∀ k, k < w.heap.size → ¬ X k → w'.heap[k]? = w.heap[k]?
theorem Fr.refl (X : Nat → Prop) (w : World) : Fr X w w := ⟨rfl, rfl, rfl, Nat.le_refl _, fun _ _ _ => rfl⟩
theorem Fr.trans {X : Nat → Prop} {a b c : World} (h : Fr X a b) (k : Fr X b c) : Fr X a c :=
  ⟨k.os.trans h.os, k.tape.trans h.tape, k.output.trans h.output, Nat.le_trans h.size k.size, fun i hi hx => (k.block i (Nat.lt_of_lt_of_le hi h.size) hx).trans (h.block i hi hx)⟩
theorem Fr.of_below {X : Nat → Prop} {w w' : World} (h : Below w.heap.size w w') : Fr X w w' := ⟨h.os, h.tape, h.output, h.size, fun k hk _ => h.block k hk⟩
theorem Fr.below {w w' : World} (h : Fr (fun _ => False) w w') : Below w.heap.size w w' := ⟨h.os, h.tape, h.output, h.size, fun k hk => h.block k hk (fun f => f)⟩
theorem Fr.mono {X Y : Nat → Prop} {w w' : World} (h : Fr X w w') (hXY : ∀ k, k < w.heap.size → X k → Y k) : Fr Y w w' :=
  ⟨h.os, h.tape, h.output, h.size, fun k hk hy => h.block k hk (fun hx => hy (hXY k hk hx))⟩
theorem Fr.drewN {X : Nat → Prop} {a w : World} (h : Fr X a w) (n : Nat) : Fr X a (w.drewN n) := ⟨h.os, h.tape, h.output, h.size, h.block⟩
theorem Fr.drew {X : Nat → Prop} {a w : World} (h : Fr X a w) : Fr X a w.drew := ⟨h.os, h.tape, h.output, h.size, h.block⟩
theorem Fr.alloc {X : Nat → Prop} {a w : World} (h : Fr X a w) (o : Obj) : Fr X a (w.alloc o) := h.trans (Fr.of_below ((Below.refl _ _).alloc (Nat.le_refl _) o))
theorem Fr.setCell {X : Nat → Prop} {a w : World} (h : Fr X a w) {p : Addr} (hp : X p.block ∨ a.heap.size ≤ p.block) (u : Value) : Fr X a (w.setCell p u) :=
  ⟨h.os, h.tape, h.output, Nat.le_trans h.size (by simp [World.setCell]), fun k hk hx => (Below.heap_setCell w p u k (fun e => by
    subst e; rcases hp with hp | hp
    · exact hx hp
    · omega)).trans (h.block k hk hx)⟩
/-- A callee's own account, met in the middle of a call. -/
theorem Fr.then_ {X Y : Nat → Prop} {a b c : World} (h : Fr X a b) (k : Fr Y b c) (hY : ∀ i, i < a.heap.size → Y i → X i) : Fr X a c :=
  ⟨k.os.trans h.os, k.tape.trans h.tape, k.output.trans h.output, Nat.le_trans h.size k.size, fun i hi hx => (k.block i (Nat.lt_of_lt_of_le hi h.size) (fun hy => hx (hY i hi hy))).trans (h.block i hi hx)⟩
theorem Fr.then_below {X : Nat → Prop} {a b c : World} (h : Fr X a b) (k : Below b.heap.size b c) : Fr X a c := h.trans (Fr.of_below k)
theorem Fr.cell {X : Nat → Prop} {w w' : World} (h : Fr X w w') {b o : Nat} (hb : b < w.heap.size) (hx : ¬ X b) : w'.cell? ⟨b, o, none⟩ = w.cell? ⟨b, o, none⟩ := World.cell?_of_block (w := w) (h.block b hb hx)
theorem Fr.under {X : Nat → Prop} {w a b : World} (h : Below w.heap.size w a) (k : Fr X a b) (hX : ∀ i, i < w.heap.size → ¬ X i) : Below w.heap.size w b :=
  ⟨k.os.trans h.os, k.tape.trans h.tape, k.output.trans h.output, Nat.le_trans h.size k.size, fun i hi => (k.block i (Nat.lt_of_lt_of_le hi h.size) (hX i hi)).trans (h.block i hi)⟩
/-- Block g is just these cells, none frozen. -/
def Row (w : World) (g : Nat) (t : TypeId) (cs : List Value) : Prop := w.heap[g]? = some (.cells cs.toArray t (0, 0))
theorem Row.lt {w : World} {g : Nat} {t : TypeId} {cs : List Value} (h : Row w g t cs) : g < w.heap.size := (Array.getElem?_eq_some_iff.1 h).1
theorem Row.cell {w : World} {g : Nat} {t : TypeId} {cs : List Value} (h : Row w g t cs) (i : Nat) : w.cell? ⟨g, i, none⟩ = cs[i]? := by
  rw [cell_of_row w g i _ _ _ h]; simp
theorem Row.free {w : World} {g : Nat} {t : TypeId} {cs : List Value} (h : Row w g t cs) (i : Nat) : w.frozen? ⟨g, i, none⟩ = false := frozen_of_row w g i _ t h
theorem Row.new (w : World) (t : TypeId) (cs : List Value) : Row (w.alloc (.cells cs.toArray t)) w.heap.size t cs := heap_alloc_new w _
theorem Row.cells2 {w : World} {g : Nat} {t : TypeId} {a b : Value} (h : Row w g t [a, b]) : (w.cell? ⟨g, 0, none⟩ = some a ∧ w.cell? ⟨g, 1, none⟩ = some b) ∧ (w.frozen? ⟨g, 0, none⟩ = false ∧ w.frozen? ⟨g, 1, none⟩ = false) := ⟨⟨h.cell 0, h.cell 1⟩, h.free 0, h.free 1⟩
theorem Row.cells1 {w : World} {g : Nat} {t : TypeId} {a : Value} (h : Row w g t [a]) : w.cell? ⟨g, 0, none⟩ = some a ∧ w.frozen? ⟨g, 0, none⟩ = false := ⟨h.cell 0, h.free 0⟩
theorem row_new {W : World} {g : Nat} {t : TypeId} {cs : List Value} (h : W.heap.size = g) : Row (W.alloc (.cells cs.toArray t)) g t cs := by subst h; exact Row.new W t cs
theorem Row.drewN {w : World} {g : Nat} {t : TypeId} {cs : List Value} (h : Row w g t cs) (n : Nat) : Row (w.drewN n) g t cs := h
theorem Row.drew {w : World} {g : Nat} {t : TypeId} {cs : List Value} (h : Row w g t cs) : Row w.drew g t cs := h
theorem Row.alloc {w : World} {g : Nat} {t : TypeId} {cs : List Value} (h : Row w g t cs) (o : Obj) : Row (w.alloc o) g t cs := (Below.heap_alloc w o g h.lt).trans h
theorem Row.set {w : World} {g : Nat} {t : TypeId} {cs : List Value} (h : Row w g t cs) (i : Nat) (u : Value) : Row (w.setCell ⟨g, i, none⟩ u) g t (cs.set i u) := by
  unfold Row at h ⊢
  simp [World.setCell, Array.getElem?_modify, h]
theorem Row.row {w : World} {g : Nat} {t : TypeId} {cs : List Value} (h : Row w g t cs) (cs' : List Value) : Row (w.setRow g cs'.toArray) g t cs' := by
  unfold Row at h ⊢
  simp [World.setRow, Array.getElem?_modify, h]
theorem Row.row_far {w : World} {g k : Nat} {t : TypeId} {cs : List Value} (h : Row w g t cs) (hk : g ≠ k) (cs' : Array Value) : Row (w.setRow k cs') g t cs := by
  unfold Row at h ⊢
  simp only [World.setRow, Array.getElem?_modify]
  rw [if_neg (by omega)]; exact h
theorem Row.far {w : World} {g : Nat} {t : TypeId} {cs : List Value} (h : Row w g t cs) {p : Addr} (hp : g ≠ p.block) (u : Value) : Row (w.setCell p u) g t cs := (Below.heap_setCell w p u g hp).trans h
theorem Row.grown {w w' : World} {g : Nat} {t : TypeId} {cs : List Value} {row : Option Nat} (h : Row w g t cs) (hg : w.grownBy w' row) (hr : some g ≠ row) : Row w' g t cs := (hg.block g h.lt hr).trans h
theorem Row.fr {X : Nat → Prop} {w w' : World} {g : Nat} {t : TypeId} {cs : List Value} (h : Row w g t cs) (k : Fr X w w') (hx : ¬ X g) : Row w' g t cs := (k.block g h.lt hx).trans h
theorem Row.below {w w' : World} {g : Nat} {t : TypeId} {cs : List Value} (h : Row w g t cs) (k : Below w.heap.size w w') : Row w' g t cs := (k.block g h.lt).trans h
theorem grown_lt {A B : World} {row : Option Nat} {Bd : Nat} (hg : A.grownBy B row) (hr : ∀ r, row = some r → Bd ≤ r ∧ ∃ o : Obj, A.heap[r]? = some o ∧ o.isCells = false) (k : Nat) (hk : k < A.heap.size) (hb : k < Bd) : B.heap[k]? = A.heap[k]? :=
  hg.block k hk (fun e => by have := (hr k e.symm).1; omega)
theorem _root_.Go.World.ownsRow.kept' {w w' : World} {base : Nat} {e : TypeId} {size n : Nat} {v : Value} {xs : List Value} (h : w.ownsRow base e size v n xs) (hb : Below w.heap.size w w') : w'.ownsRow base e size v n xs := by
  refine ⟨h.1, ?_⟩
  rcases h.2 with hn | ⟨g, cap, cur, rfl, hbg, hgg, rest⟩
  · exact .inl hn
  · exact .inr ⟨g, cap, cur, rfl, hbg, (hb.block g (Array.getElem?_eq_some_iff.1 hgg).1).trans hgg, rest⟩
theorem own_ge {w : World} {base : Nat} {e : TypeId} {size n : Nat} {v : Value} {xs : List Value} (h : w.ownsRow base e size v n xs) {g : Nat} (hg : v.ownBlock = some g) : base ≤ g ∧ g < w.heap.size ∧ ∃ cs, w.heap[g]? = some (.cells cs e (0, 0)) := by
  rcases h.2 with ⟨rfl, _⟩ | ⟨g', cap, cur, rfl, hb, hgg, _⟩
  · simp [Value.ownBlock] at hg
  · have : g' = g := by simpa [Value.ownBlock] using hg
    subst this
    exact ⟨hb, (Array.getElem?_eq_some_iff.1 hgg).1, _, hgg⟩
theorem Row.not_own {w : World} {base : Nat} {e t : TypeId} {size n g : Nat} {v : Value} {xs cs : List Value} (hr : Row w g t cs) (h : w.ownsRow base e size v n xs) (hte : t ≠ e) : some g ≠ v.ownBlock := by
  intro he
  obtain ⟨_, _, cs', h3⟩ := own_ge h he.symm
  unfold Row at hr
  rw [hr] at h3
  injection h3 with h3; injection h3 with _ h4
  exact hte h4
/-- An append to one of two rows of the call's own. -/
theorem app2 {W w5 : World} {n₀ : Nat} {e : TypeId} {z j k : Nat} {v1 v2 v1' : Value} {xs ys : List Value} (h1 : W.ownsRow n₀ e z v1 k xs) (h2 : W.ownsRow n₀ e z v2 j ys) (hne : v1.ownBlock ≠ v2.ownBlock) (hn : n₀ ≤ W.heap.size) {o : Obj}
    (hgr : (W.alloc o).grownBy w5 v1.ownBlock) (hat : v1'.ownBlock = v1.ownBlock ∨ v1'.ownBlock = some (W.alloc o).heap.size) :
    w5.ownsRow n₀ e z v2 j ys ∧ v1'.ownBlock ≠ v2.ownBlock ∧ Below n₀ W w5 ∧ (∀ g t cs, t ≠ e → Row W g t cs → Row w5 g t cs) := by
  refine ⟨(h2.alloc o).kept hgr (.inr hne.symm), ?_, ?_, fun g t cs ht hr => (hr.alloc o).grown hgr (hr.not_own h1 ht)⟩
  · rcases hat with h | h
    · rw [h]; exact hne
    · rw [h]; intro he
      have := (own_ge h2 he.symm).2.1
      simp at this; omega
  · exact ((Below.refl n₀ W).alloc hn o).grown hgr (by simp; omega) (fun g hg => (own_ge h1 hg).1)
theorem ownFrom_fr {β : Type} {X : Nat → Prop} {w : World} {Bd : Nat} (hB : w.heap.size ≤ Bd) : OwnFrom Bd (fun (_ : β) W => Fr X w W) := fun _ A B row hs hg hr =>
  ⟨hg.os.trans hs.os, hg.tape.trans hs.tape, hg.output.trans hs.output, Nat.le_trans hs.size hg.size, fun k hk hx => (grown_lt hg hr k (Nat.lt_of_lt_of_le hk hs.size) (by omega)).trans (hs.block k hk hx)⟩
theorem ownFrom_row {β : Type} {g : Nat} {t : TypeId} {f : β → List Value} {Bd : Nat} : OwnFrom Bd (fun s W => Row W g t (f s)) := fun s A B row hs hg hr => by
  refine (hg.block g hs.lt (fun e => ?_)).trans hs
  obtain ⟨_, o, ho, hc⟩ := hr g e.symm
  unfold Row at hs
  rw [hs] at ho; cases ho; cases hc
theorem keeps_drewN (B : Nat) (W : World) (n : Nat) : KeepsFrom B W (W.drewN n) := ⟨Nat.le_refl _, fun _ _ _ h _ => h⟩
theorem keeps_below (B : Nat) {W W' : World} (h : Below W.heap.size W W') : KeepsFrom B W W' := ⟨h.size, fun k _ _ hk _ => (h.block k (Array.getElem?_eq_some_iff.1 hk).1).trans hk⟩
theorem keeps_fr {X : Nat → Prop} (B : Nat) {W W' : World} (h : Fr X W W') (hX : ∀ k, X k → ∃ o, W.heap[k]? = some o ∧ o.isCells = true) : KeepsFrom B W W' := ⟨h.size, fun k o _ hk ho => (h.block k (Array.getElem?_eq_some_iff.1 hk).1 (fun hx => by
  obtain ⟨o', h1, h2⟩ := hX k hx
  rw [h1] at hk; cases hk; rw [ho] at h2; cases h2)).trans hk⟩
theorem keepB_row {W W' : World} {B : Nat} {t : TypeId} {cs : List Value} (h : Row W B t cs) (h' : Row W' B t cs) : KeepB B W W' := h'.trans h.symm
def vals {s : Nat} (xs : List (Mem s)) : List Nat := xs.map (·.1)
theorem vals_snoc {s : Nat} (xs : List (Mem s)) (x : Mem s) : vals (xs ++ [x]) = vals xs ++ [x.1] := by simp [vals]
theorem vals_len {s : Nat} (xs : List (Mem s)) : (vals xs).length = xs.length := by simp [vals]
/-- A loop over the members of a set. -/
theorem range_members {F : Fence} (hO : Open F) (hro : F.round = none) {n : Nat} (h1 : 1 ≤ n) {g : Operand} {ps : Array Tmp} {assign body : Code} {Q : Exit → Act → World → Prop} {a : Act} {w : World}
    (B s : Nat) (hs : s < 65536) (hB : Row w B 72 [.int .u32 s]) (hg : a.eval g = .func (.func 70) #[] #[.pointer (some ⟨B, 0, none⟩)]) (hps : ps.size = 1)
    (I : List (Mem s) → World → Prop) (Ix : Code → List (Mem s) → World → Prop) (hI : OwnFrom w.heap.size I) (hIx : ∀ c, OwnFrom w.heap.size (Ix c)) (h0 : I [] w) (a₁ : Mem s → Act)
    (hassign : ∀ (l : Nat) (x : Mem s) (W : World) (K : Act → World → Prop), K (a₁ x) W →
      assign.wpIn (F.inRound l) (n - 1 - 1) Try.prog (Exit.then K (fun _ _ _ => False)) { tmps := (ps.zip #[.int .i64 x.1]).foldl (fun t (p, v) => t.setIfInBounds p v) a.tmps, defers := [] } W)
    (hbody : ∀ (l : Nat) (pre : List (Mem s)) (x : Mem s) (W : World), I pre W → pre.length < 16 → body.wpIn (F.inRound l) (n - 1 - 1) Try.prog (ownPostG w.heap.size (KeepB B) I Ix (pre ++ [x]) W) (a₁ x) W)
    (hdone : ∀ (D : Nat) (xs : List (Mem s)) (W : World), w.heap.size ≤ D → vals xs = ms s → I xs W → W.heap[D]? = some (.deferred (some [])) → Q .normal { a with defers := { target := .collected D, args := #[] } :: a.defers } W)
    (hstop : ∀ (D : Nat) (c : Code) (pre : List (Mem s)) (W : World), w.heap.size ≤ D → Ix c pre W → W.heap[D]? = some (.deferred (some [])) → c.wpIn F n Try.prog Q { a with defers := { target := .collected D, args := #[] } :: a.defers } W) :
    (Code.rangeFunc g ps assign body).wpIn F n Try.prog Q a w :=
  wpIn_rangeFunc_ownG (Kp := KeepB B) (w0 := w) hro h1 hg (hO.fn 70) (enters_of Try.func70 (by kernel_rfl) rfl) (members_stops F hO hro (n - 1) B s hs w hB) (fun h k => k.trans h)
    (fun W l o o' hl _ _ _ => World.putObj_heap_other (by have := hB.lt; omega)) (Below.refl _ _) (fun _ => by rw [hps]; rfl) I Ix hI hIx h0 a₁ hassign hbody hdone (fun D c pre W hD _ => hstop D c pre W hD)
/-! Leaving a function in which loops over a function stood. -/
abbrev mark (D : Nat) : Deferred := { target := .collected D, args := #[] }
def shut : List Nat → World → World
  | [], w => w
  | D :: Ds, w => shut Ds (w.putObj D (.deferred none))
def Marks (Ds : List Nat) (w : World) : Prop := Ds.Nodup ∧ ∀ D ∈ Ds, w.heap[D]? = some (.deferred (some []))
theorem Marks.tail {D : Nat} {Ds : List Nat} {w : World} (h : Marks (D :: Ds) w) : Marks Ds (w.putObj D (.deferred none)) :=
  ⟨(List.nodup_cons.1 h.1).2, fun E hE => (World.putObj_heap_other (fun e => (List.nodup_cons.1 h.1).1 (by rw [← e]; exact hE))).trans (h.2 E (List.mem_cons_of_mem _ hE))⟩
theorem shut_row {Ds : List Nat} {w : World} (hm : Marks Ds w) {g : Nat} {t : TypeId} {cs : List Value} (h : Row w g t cs) : Row (shut Ds w) g t cs := by
  induction Ds generalizing w with
  | nil => exact h
  | cons D Ds ih =>
    refine ih hm.tail ((World.putObj_heap_other (fun e => ?_)).trans h)
    have := hm.2 D (List.mem_cons_self ..)
    unfold Row at h
    rw [← e, h] at this; cases this
theorem shut_below {Ds : List Nat} {B : Nat} {w W : World} (h : Below B w W) (hB : ∀ D ∈ Ds, B ≤ D) : Below B w (shut Ds W) := by
  induction Ds generalizing W with
  | nil => exact h
  | cons D Ds ih =>
    refine ih (h.trans ⟨rfl, rfl, rfl, by simp, fun k hk => World.putObj_heap_other (fun e => ?_)⟩) (fun E hE => hB E (List.mem_cons_of_mem _ hE))
    have := hB D (List.mem_cons_self ..); omega
theorem leaves_marks {F : Fence} {n : Nat} {P : Program} {fn : Func} {tmps : Array Value} {R : Ending → World → Prop} (Ds : List Nat) (w : World) (hm : Marks Ds w) {v : Value}
    (hv : (results fn tmps).run P (shut Ds w) = .ok v (shut Ds w)) (hR : R (.returned v) (shut Ds w)) : LeavesInM F n P fn tmps R (Ds.map mark) .returning w := by
  induction Ds generalizing w with
  | nil => exact ⟨v, hv, hR⟩
  | cons D Ds ih => exact ⟨by simp, .inl ⟨D, _, rfl, run_takeDeferred (hm.2 D (List.mem_cons_self ..)), ih _ hm.tail hv hR⟩⟩
theorem ret_marks {F : Fence} {n : Nat} {P : Program} {fn : Func} {tmps : Array Value} {R : Ending → World → Prop} (Ds : List Nat) {w : World} (hm : Marks Ds w) {v : Value}
    (hv : (results fn tmps).run P (shut Ds w) = .ok v (shut Ds w)) (hR : R (.returned v) (shut Ds w)) : bodyPostM F n P fn R .ret { tmps := tmps, defers := Ds.map mark } w := leaves_marks Ds w hm hv hR
theorem marks_one {D : Nat} {w : World} (h : w.heap[D]? = some (.deferred (some []))) : Marks [D] w := ⟨by simp, fun E hE => by simp at hE; subst hE; exact h⟩
theorem keeps_mark {B D : Nat} {w w' : World} (h : KeepsFrom B w w') (hB : B ≤ D) (hk : w.heap[D]? = some (.deferred (some []))) : w'.heap[D]? = some (.deferred (some [])) := h.same D _ hB hk rfl
end Go.Proofs.Ytpaeagkgmbhndaa
/- The density of a set of vertices. -/
namespace Go.Proofs.Ytpaeagkgmbhndaa
open Go.RowKit Go.Shelf
attribute [local go_sem] Oper.semAt_some
set_option maxHeartbeats 400000
/-- A graph's rows: sixteen sets. -/
structure Rows16 (gs : List Nat) : Prop where
  len : gs.length = 16
  lt : ∀ i : Nat, gs[i]?.getD 0 < 65536
def near (gs : List Nat) (v : Nat) : Nat := gs[v]?.getD 0
def endsOf (gs : List Nat) (s : Nat) (xs : List Nat) : Nat := (xs.map fun v => pc 16 (sAnd (near gs v) s)).sum
theorem endsOf_snoc (gs : List Nat) (s : Nat) (xs : List Nat) (v : Nat) : endsOf gs s (xs ++ [v]) = endsOf gs s xs + pc 16 (sAnd (near gs v) s) := by simp [endsOf]
theorem endsOf_le (gs : List Nat) (s : Nat) (xs : List Nat) : endsOf gs s xs ≤ 16 * xs.length := by
  induction xs with
  | nil => simp [endsOf]
  | cons x xs ih => simp only [endsOf, List.map_cons, List.sum_cons, List.length_cons] at *; have := pc_le 16 (sAnd (near gs x) s); omega
theorem sAnd_lt {s t : Nat} (h : s < 65536) : sAnd s t < 65536 := Nat.lt_of_le_of_lt Nat.and_le_left h
theorem ms_len (s : Nat) : (ms s).length ≤ 16 := by
  unfold ms; have := List.length_filter_le (sHas s) (List.range 16); simpa using this
theorem density_any (m s : Nat) (gs : List Nat) (hg : Rows16 gs) (hs : s < 65536) (hs0 : 0 < pc 16 s) (w : World) :
    Calls Try.prog 47 #[.agg (gcells m gs).toArray, .int .u32 s] w fun e w' => e = .returned (frac (fN (endsOf gs s (ms s) / 2) (pc 16 s)) (fD (endsOf gs s (ms s) / 2) (pc 16 s))) ∧ Below w.heap.size w w' := by
  have hl : (gcells m gs).length = 17 := by rw [gcells_len, hg.len]
  refine callsIn_wide.1 (?_ : CallsIn Fence.wide 9 _ _ _ _ _)
  generalize hFw : Fence.wide = F
  have hO : Open F := hFw ▸ Open.wide
  have hro : F.round = none := hFw ▸ rfl
  clear hFw
  have hF := hO.fn
  have hd := hO.depth
  have F47 := hF 47
  refine callsIn_of_wp_marks Try.func47 rfl F47 ?_ hro
  simp only [Try.ntmps47, List.size_toArray, List.length_cons, List.length_nil, Nat.reduceAdd, Nat.reduceSub, Array.replicate_succ, Array.replicate_zero, List.push_toArray, List.append_toArray, List.nil_append, List.cons_append]
  gi_wp2_with (gi_at_call 61; refine (hO.lift _ (members_any _ _)).mono ?_; rintro e w' ⟨rfl, rfl⟩)
  generalize hw1 : World.alloc _ _ = w1
  have HW := Lib.hid hw1
  clear hw1
  have hb : Below w.heap.size w w1 := by rw [← HW.out]; (repeat (first | exact Below.refl _ _ | assumption | (refine Below.setCell ?_ (by first | exact Nat.le_refl _ | omega | (simp; done) | (simp; omega)) _) | (refine Below.trans ?_ (below_drewN _)) | (refine Below.drew ?_) | (refine Below.alloc ?_ (by first | exact Nat.le_refl _ | omega | (simp; done) | (simp; omega)) _) | (refine below_row ?_ (by first | exact Nat.le_refl _ | omega | (simp; done) | (simp; omega)) _)))
  have hz : w.heap.size + 5 ≤ w1.heap.size := by rw [← HW.out]; simp; try omega
  have r0 : Row w1 (w.heap.size) 75 (gcells m gs) := by rw [← HW.out]; repeat (first | (refine row_new ?_; first | rfl | (simp; done)) | refine Row.alloc ?_ _)
  have r1 : Row w1 (w.heap.size + 1) 72 [.int .u32 s] := by rw [← HW.out]; repeat (first | (refine row_new ?_; first | rfl | (simp; done)) | refine Row.alloc ?_ _)
  have r2 : Row w1 (w.heap.size + 1 + 1) 26 [.int .i64 0, .int .i64 0] := by rw [← HW.out]; repeat (first | (refine row_new ?_; first | rfl | (simp; done)) | refine Row.alloc ?_ _)
  have r3 : Row w1 (w.heap.size + 1 + 1 + 1) 3 [.int .i64 0] := by rw [← HW.out]; repeat (first | (refine row_new ?_; first | rfl | (simp; done)) | refine Row.alloc ?_ _)
  have r4 : Row w1 (w.heap.size + 1 + 1 + 1 + 1) 72 [.int .u32 s] := by rw [← HW.out]; repeat (first | (refine row_new ?_; first | rfl | (simp; done)) | refine Row.alloc ?_ _)
  clear HW
  refine range_members hO hro (by omega) (w.heap.size + 1 + 1 + 1 + 1) s hs r4 rfl rfl
    (fun pre W => Fr (fun k => k = w.heap.size + 1 + 1 + 1) w1 W ∧ Row W (w.heap.size + 1 + 1 + 1) 3 [.int .i64 (endsOf gs s (vals pre))]) (fun _ _ _ => False)
    (OwnFrom.and (ownFrom_fr (Nat.le_refl _)) ownFrom_row) (fun _ _ _ _ _ h _ _ => h) ⟨Fr.refl _ _, r3⟩ ?a1 ?assign ?body ?done (fun _ _ _ _ _ h _ => h.elim)
  case assign =>
    intro l x W K hK
    gi_wp2
    exact hK
  case body =>
    rintro l pre x W ⟨hfr, hr⟩ hlen
    have q0 : Row W w.heap.size 75 (gcells m gs) := r0.fr hfr (by omega)
    have q1 : Row W (w.heap.size + 1) 72 [.int .u32 s] := r1.fr hfr (by omega)
    have q4 : Row W (w.heap.size + 1 + 1 + 1 + 1) 72 [.int .u32 s] := r4.fr hfr (by omega)
    have hxl := x.2.1
    have c0 : W.cell? ⟨w.heap.size, 1 + x.1, none⟩ = some (.int .u32 (near gs x.1)) := by rw [q0.cell, gcells_s _ _ _ (by rw [hg.len]; exact hxl)]; rfl
    have c1 : W.cell? ⟨w.heap.size + 1, 0, none⟩ = some (.int .u32 s) := q1.cell 0
    have c2 : W.cell? ⟨w.heap.size + 1 + 1 + 1, 0, none⟩ = _ := hr.cell 0
    simp only [List.getElem?_cons_zero] at c2
    have f2 := hr.free 0
    have hab := Lib.hid (and_bits (near gs x.1) s (Nat.lt_trans (hg.lt _) (by omega)) (by omega))
    have hsl := sAnd_lt (t := s) (hg.lt x.1)
    have hp := pc_le 16 (sAnd (near gs x.1) s)
    have he := endsOf_le gs s (vals pre)
    rw [vals_len] at he
    have Hs := Lib.hid (endsOf_snoc gs s (vals pre) x.1)
    generalize hx : x.1 = v at *
    have HX := Lib.hid hx
    clear hx q0 q1 r0 r1 r2 r3 r4
    gi_wp2
    refine wpIn_region_quiet_tail (hO.inRound l) 9 (by kernel_rfl) (by kernel_rfl) (by kernel_rfl) ?_
    simp only [List.take_succ_cons, List.take_zero, List.drop_succ_cons, List.drop_zero]
    repeat go_big_quiet_step ((go_at_call 60; (rw [hab.out]; exact Calls.quiet_of (size_any _ _ hsl))))
    refine wpQuiet_nil ?_
    rintro _ ⟨nq, rfl⟩
    gi_wp2
    refine ⟨((keeps_drewN _ _ _).trans ((KeepsOthers.setCell _ _ _).from _)), ?_, (hfr.drewN nq).setCell (.inl rfl) _, ?_⟩
    · exact keepB_row q4 ((q4.drewN nq).far (by simp) _)
    · rw [vals_snoc, HX.out, Hs.out]
      have := (hr.drewN nq).set 0 (.int .i64 (endsOf gs s (vals pre) + pc 16 (sAnd (near gs v) s) : Nat))
      simpa using this
  case done =>
    rintro D xs W hD hxs ⟨hfr, hr⟩ hK
    have q1 : Row W (w.heap.size + 1) 72 [.int .u32 s] := r1.fr hfr (by omega)
    have q2 : Row W (w.heap.size + 1 + 1) 26 [.int .i64 0, .int .i64 0] := r2.fr hfr (by omega)
    have c1 : W.cell? ⟨w.heap.size + 1, 0, none⟩ = some (.int .u32 s) := q1.cell 0
    rw [hxs] at hr
    have c2 : W.cell? ⟨w.heap.size + 1 + 1 + 1, 0, none⟩ = some (.int .i64 (endsOf gs s (ms s))) := hr.cell 0
    have he := endsOf_le gs s (ms s)
    have hm := ms_len s
    have hp := pc_le 16 s
    generalize hE : endsOf gs s (ms s) = E at *
    have HE := Lib.hid hE
    have hB := Lib.hid (hfr.under hb (fun i hi => by omega))
    clear hE hfr q1 r0 r1 r2 r3 r4
    gi_wp2
    refine wpIn_region_quiet_tail hO 4 (by kernel_rfl) (by kernel_rfl) (by kernel_rfl) ?_
    simp only [List.take_succ_cons, List.take_zero, List.drop_succ_cons, List.drop_zero]
    repeat go_big_quiet_step ((go_at_call 60; exact Calls.quiet_of (size_any _ _ hs)))
    refine wpQuiet_nil ?_
    rintro _ ⟨nq, rfl⟩
    have HC : ∀ w, Calls Try.prog 62 #[.int .i64 ((E:Int) / 2), .int .i64 (pc 16 s)] w _ := fun w => reduced_any (E / 2) (pc 16 s) w (by omega) (by omega) hs0
    have HC' := Lib.hid HC
    clear HC
    gi_wp2_with (gi_at_call 62; refine (hO.lift _ (HC'.out _)).mono ?_; rintro e w3 ⟨rfl, hb2⟩; have q3 := (q2.drewN nq).below hb2; obtain ⟨⟨d0, d1⟩, e0, e1⟩ := q3.cells2)
    have q5 := (q3.set 0 (.int .i64 (fN (E / 2) (pc 16 s)))).set 1 (.int .i64 (fD (E / 2) (pc 16 s)))
    have hk3 := keeps_mark (((keeps_drewN w.heap.size W nq).trans (keeps_below _ hb2)).trans (((KeepsOthers.setCell w3 ⟨w.heap.size + 1 + 1, 0, none⟩ (.int .i64 (fN (E / 2) (pc 16 s)))).trans (KeepsOthers.setCell _ ⟨w.heap.size + 1 + 1, 1, none⟩ (.int .i64 (fD (E / 2) (pc 16 s))))).from _)) (by omega) hK
    have hm3 := marks_one hk3
    obtain ⟨⟨g0, g1⟩, _⟩ := (shut_row hm3 q5).cells2
    refine ret_marks [D] hm3 (v := .agg #[.int .i64 (fN (E / 2) (pc 16 s)), .int .i64 (fD (E / 2) (pc 16 s))]) ?_ ⟨by rw [HE.out], shut_below ?_ (by simp; omega)⟩
    · simp [results, Try.results47, go_sem, g0, g1]
    · have hB2 := hB.out
      have := (hB2.trans (below_drewN nq)).trans (hb2.mono hB2.size)
      (repeat (first | exact Below.refl _ _ | assumption | (refine Below.setCell ?_ (by first | exact Nat.le_refl _ | omega | (simp; done) | (simp; omega)) _) | (refine Below.trans ?_ (below_drewN _)) | (refine Below.drew ?_) | (refine Below.alloc ?_ (by first | exact Nat.le_refl _ | omega | (simp; done) | (simp; omega)) _) | (refine below_row ?_ (by first | exact Nat.le_refl _ | omega | (simp; done) | (simp; omega)) _)))
end Go.Proofs.Ytpaeagkgmbhndaa
/- The list of the members of a set. -/
namespace Go.Proofs.Ytpaeagkgmbhndaa
open Go.RowKit Go.Shelf
attribute [local go_sem] Oper.semAt_some
set_option maxHeartbeats 1000000
set_option maxRecDepth 100000
theorem info3 : (Try.prog.info? 3).map (fun i => (i.zero, i.size, i.bytes)) = some (some (.int .i64 0), 1, 8) := by kernel_rfl
def intv (xs : List Nat) : List Value := xs.map fun x : Nat => Value.int .i64 x
theorem list_any (s : Nat) (hs : s < 65536) (w : World) :
    Calls Try.prog 43 #[.int .u32 s] w fun e w' => ∃ v, e = .returned v ∧ w'.ownsRow w.heap.size 3 1 v (ms s).length (intv (ms s)) ∧ Below w.heap.size w w' := by
  obtain ⟨i0, hi, hz0, hz1, hz2⟩ := info_parts info3
  have hp := pc_le 16 s
  refine callsIn_wide.1 (?_ : CallsIn Fence.wide 9 _ _ _ _ _)
  generalize hFw : Fence.wide = F
  have hO : Open F := hFw ▸ Open.wide
  have hro : F.round = none := hFw ▸ rfl
  clear hFw
  have hF := hO.fn
  have hd := hO.depth
  have F43 := hF 43
  refine callsIn_of_wp_marks Try.func43 rfl F43 ?_ hro
  simp only [Try.ntmps43, List.size_toArray, List.length_cons, List.length_nil, Nat.reduceAdd, Nat.reduceSub, Array.replicate_succ, Array.replicate_zero, List.push_toArray, List.append_toArray, List.nil_append, List.cons_append]
  gi_wp2_with (first
    | (gi_at_call 60; refine (hO.lift _ (size_any _ _ hs)).mono ?_; rintro e w' ⟨rfl, nq, rfl⟩)
    | (gi_at_call 61; refine (hO.lift _ (members_any _ _)).mono ?_; rintro e w' ⟨rfl, rfl⟩)
    | (gi_at_make; refine wpListIn_make_own _ rfl _ _ 24 rfl w.heap.size 3 i0 (.int .i64 0) 1 Try.underlying24 hi hz0 hz1 .i64 .i64 _ (pc 16 s) rfl rfl rfl (by rw [hz2]; omega) (by unfold maxLen; omega) (Nat.le_refl _) ?_; intro w1 hown1 hg1))
  have hb1 : Below w.heap.size w w1 := ((Below.refl _ w).trans (below_drewN nq)).grown hg1 (Nat.le_refl _) (by simp)
  have hle1 := hb1.size
  have hw2 : ∃ w2, (w1.alloc (.cells #[.slice (some ⟨w.heap.size, 0, none⟩) 0 (pc 16 s)] 24)).alloc (.cells #[.int .u32 s] 72) = w2 := ⟨_, rfl⟩
  obtain ⟨w2, hw2⟩ := hw2
  rw [hw2]
  have bx : Boxed w2 w1.heap.size 24 (.slice (some ⟨w.heap.size, 0, none⟩) 0 (pc 16 s)) := by rw [← hw2]; exact (Boxed.new _ _ _).alloc _
  have bs : Row w2 (w1.heap.size + 1) 72 [.int .u32 s] := by rw [← hw2]; exact row_new (by simp)
  have hown2 : w2.ownsRow w.heap.size 3 1 (.slice (some ⟨w.heap.size, 0, none⟩) 0 (pc 16 s)) 0 [] := by rw [← hw2]; exact (hown1.alloc _).alloc _
  have hb2 : Below w.heap.size w w2 := by rw [← hw2]; (repeat (first | exact Below.refl _ _ | assumption | (refine Below.setCell ?_ (by first | exact Nat.le_refl _ | omega | (simp; done) | (simp; omega)) _) | (refine Below.trans ?_ (below_drewN _)) | (refine Below.drew ?_) | (refine Below.alloc ?_ (by first | exact Nat.le_refl _ | omega | (simp; done) | (simp; omega)) _) | (refine below_row ?_ (by first | exact Nat.le_refl _ | omega | (simp; done) | (simp; omega)) _)))
  have hz2' : w2.heap.size = w1.heap.size + 1 + 1 := by rw [← hw2]; simp
  clear hw2
  refine range_members hO hro (by omega) (w1.heap.size + 1) s hs bs rfl rfl
    (fun pre W => (∃ v, Boxed W w1.heap.size 24 v ∧ W.ownsRow w.heap.size 3 1 v (vals pre).length (intv (vals pre)) ∧ True) ∧ Row W (w1.heap.size + 1) 72 [.int .u32 s] ∧ Below w.heap.size w W) (fun _ _ _ => False)
    (OwnFrom.and (Own.from (holdsRow_own w.heap.size w1.heap.size 24 3 1 (fun pre => (vals pre).length) (fun pre => intv (vals pre)) (fun _ _ => True)) _) (OwnFrom.and ownFrom_row (ownFrom_below (Nat.le_refl _) (by omega))))
    (fun _ _ _ _ _ h _ _ => h) ⟨⟨_, bx, hown2, trivial⟩, bs, hb2⟩ ?a1 ?assign ?body ?done (fun _ _ _ _ _ h _ => h.elim)
  case assign =>
    intro l x W K hK
    gi_wp2
    exact hK
  case body =>
    rintro l pre x W ⟨⟨v, hv, hrow, _⟩, hbs, hB⟩ hlen
    have hxl := x.2.1
    have hvl := vals_len pre
    have Hs := Lib.hid (vals_snoc pre x)
    generalize hx : x.1 = y at *
    have hvc := hv.cell
    have hvb := hv.not_row (by decide) hrow
    generalize hvp : vals pre = ys at *
    have hle := hB.size
    have hyl : ys.length < 16 := by omega
    clear hx hvl
    gi_wp2_with (gi_at_builtin; refine wpListIn_append_own _ rfl _ _ 24 rfl w.heap.size 3 i0 (.int .i64 0) 1 8 Try.underlying24 hi hz0 hz1 hz2 rfl (by decide) _ _ _ rfl (hrow.alloc _) ⟨W.heap.size, 0, none⟩ 1 1 [.int .i64 y] rfl rfl (cell_one_new _ _ _) (by simp [Value.oneCell']) (by unfold maxLen; omega) (by omega) (by simp; omega) ?_; intro v' w3 hown' hgrow _; obtain ⟨g', cap', rfl⟩ := ownsRow_succ hown'; obtain ⟨hv1, hv2, hr2, hk2, hb2⟩ := hv.appended (by decide) hrow hB.size (by omega) hown' hgrow; have hc1 := hv1.cell; have hf1 := hv1.frozen)
    have bs1 : Boxed W (w1.heap.size + 1) 72 (.int .u32 s) := hbs
    have bs2 : Boxed w3 (w1.heap.size + 1) 72 (.int .u32 s) := (bs1.alloc _).kept hgrow (bs1.not_row (by decide) hrow)
    have bs3 : Row (w3.setCell ⟨w1.heap.size, 0, none⟩ (.slice (some ⟨g', 0, none⟩) (ys.length + 1) cap')) (w1.heap.size + 1) 72 [.int .u32 s] := Row.far (show Row w3 _ 72 [_] from bs2) (by simp) _
    refine ⟨hk2.from _, keepB_row hbs bs3, ⟨_, hv2, ?_, trivial⟩, bs3, hB.trans hb2⟩
    rw [Hs.out]
    have e1 : (ys ++ [y]).length = ys.length + 1 := by rw [List.length_append]; rfl
    have e2 : intv (ys ++ [y]) = intv ys ++ [.int .i64 y] := by simp [intv]
    rw [e1, e2]
    exact hr2
  case done =>
    rintro D xs W hD hxs ⟨⟨v, hv, hrow, _⟩, hbs, hB⟩ hK
    rw [hxs] at hrow
    have hvc := hv.cell
    gi_wp2
    refine ret_marks [D] (marks_one hK) (v := v) ?_ ⟨v, rfl, ownsRow_putObj hrow _ hK rfl, shut_below hB (by simp; omega)⟩
    simp [results, Try.results43, go_sem]
end Go.Proofs.Ytpaeagkgmbhndaa
/- The loneliest vertex of a set. -/
namespace Go.Proofs.Ytpaeagkgmbhndaa
open Go.RowKit Go.Shelf
attribute [local go_sem] Oper.semAt_some
set_option maxHeartbeats 1000000
def nb (gs : List Nat) (s v : Nat) : Nat := pc 16 (sAnd (near gs v) s)
def loneS (gs : List Nat) (s : Nat) (p : Nat × Nat) (v : Nat) : Nat × Nat := if nb gs s v < p.2 then (v, nb gs s v) else p
def lone (gs : List Nat) (s : Nat) (xs : List Nat) : Nat × Nat := xs.foldl (loneS gs s) (0, 16)
theorem lone_snoc (gs : List Nat) (s : Nat) (xs : List Nat) (v : Nat) : lone gs s (xs ++ [v]) = loneS gs s (lone gs s xs) v := by simp [lone]
def loneB (gs : List Nat) (s : Nat) (xs : List Nat) : Nat := (lone gs s xs).1
def loneF (gs : List Nat) (s : Nat) (xs : List Nat) : Nat := (lone gs s xs).2
theorem lone_yes {gs : List Nat} {s : Nat} {xs : List Nat} {v : Nat} (h : nb gs s v < loneF gs s xs) : loneB gs s (xs ++ [v]) = v ∧ loneF gs s (xs ++ [v]) = nb gs s v := by
  unfold loneB loneF at *; rw [lone_snoc]; unfold loneS; rw [if_pos h]; exact ⟨rfl, rfl⟩
theorem lone_no {gs : List Nat} {s : Nat} {xs : List Nat} {v : Nat} (h : ¬ nb gs s v < loneF gs s xs) : loneB gs s (xs ++ [v]) = loneB gs s xs ∧ loneF gs s (xs ++ [v]) = loneF gs s xs := by
  unfold loneB loneF at *; rw [lone_snoc]; unfold loneS; rw [if_neg h]; exact ⟨rfl, rfl⟩
theorem loneliest_any (m s : Nat) (gs : List Nat) (hg : Rows16 gs) (hs : s < 65536) (w : World) :
    Calls Try.prog 66 #[.agg (gcells m gs).toArray, .int .u32 s] w fun e w' => e = .returned (.tuple #[.int .i64 (loneB gs s (ms s)), .int .i64 (loneF gs s (ms s))]) ∧ Below w.heap.size w w' := by
  have hl : (gcells m gs).length = 17 := by rw [gcells_len, hg.len]
  refine callsIn_wide.1 (?_ : CallsIn Fence.wide 9 _ _ _ _ _)
  generalize hFw : Fence.wide = F
  have hO : Open F := hFw ▸ Open.wide
  have hro : F.round = none := hFw ▸ rfl
  clear hFw
  have hF := hO.fn
  have hd := hO.depth
  have F66 := hF 66
  refine callsIn_of_wp_marks Try.func66 rfl F66 ?_ hro
  simp only [Try.ntmps66, List.size_toArray, List.length_cons, List.length_nil, Nat.reduceAdd, Nat.reduceSub, Array.replicate_succ, Array.replicate_zero, List.push_toArray, List.append_toArray, List.nil_append, List.cons_append]
  gi_wp2_with (gi_at_call 61; refine (hO.lift _ (members_any _ _)).mono ?_; rintro e w' ⟨rfl, rfl⟩)
  generalize hw1 : World.alloc _ _ = w1
  have HW := Lib.hid hw1
  clear hw1
  have hb : Below w.heap.size w w1 := by rw [← HW.out]; (repeat (first | exact Below.refl _ _ | assumption | (refine Below.setCell ?_ (by first | exact Nat.le_refl _ | omega | (simp; done) | (simp; omega)) _) | (refine Below.trans ?_ (below_drewN _)) | (refine Below.drew ?_) | (refine Below.alloc ?_ (by first | exact Nat.le_refl _ | omega | (simp; done) | (simp; omega)) _) | (refine below_row ?_ (by first | exact Nat.le_refl _ | omega | (simp; done) | (simp; omega)) _)))
  have hz : w.heap.size + 5 ≤ w1.heap.size := by rw [← HW.out]; simp; try omega
  have r0 : Row w1 (w.heap.size) 75 (gcells m gs) := by rw [← HW.out]; repeat (first | (refine row_new ?_; first | rfl | (simp; done)) | refine Row.alloc ?_ _)
  have r1 : Row w1 (w.heap.size + 1) 72 [.int .u32 s] := by rw [← HW.out]; repeat (first | (refine row_new ?_; first | rfl | (simp; done)) | refine Row.alloc ?_ _)
  have r2 : Row w1 (w.heap.size + 1 + 1) 3 [.int .i64 0] := by rw [← HW.out]; repeat (first | (refine row_new ?_; first | rfl | (simp; done)) | refine Row.alloc ?_ _)
  have r3 : Row w1 (w.heap.size + 1 + 1 + 1) 3 [.int .i64 16] := by rw [← HW.out]; repeat (first | (refine row_new ?_; first | rfl | (simp; done)) | refine Row.alloc ?_ _)
  have r4 : Row w1 (w.heap.size + 1 + 1 + 1 + 1) 72 [.int .u32 s] := by rw [← HW.out]; repeat (first | (refine row_new ?_; first | rfl | (simp; done)) | refine Row.alloc ?_ _)
  clear HW
  refine range_members hO hro (by omega) (w.heap.size + 1 + 1 + 1 + 1) s hs r4 rfl rfl
    (fun pre W => Fr (fun k => k = w.heap.size + 1 + 1 ∨ k = w.heap.size + 1 + 1 + 1) w1 W ∧ Row W (w.heap.size + 1 + 1) 3 [.int .i64 (loneB gs s (vals pre))] ∧ Row W (w.heap.size + 1 + 1 + 1) 3 [.int .i64 (loneF gs s (vals pre))]) (fun _ _ _ => False)
    (OwnFrom.and (ownFrom_fr (Nat.le_refl _)) (OwnFrom.and ownFrom_row ownFrom_row)) (fun _ _ _ _ _ h _ _ => h) ⟨Fr.refl _ _, r2, r3⟩ ?a1 ?assign ?body ?done (fun _ _ _ _ _ h _ => h.elim)
  case assign =>
    intro l x W K hK
    gi_wp2
    exact hK
  case body =>
    rintro l pre x W ⟨hfr, hr, hr3⟩ hlen
    have q0 : Row W w.heap.size 75 (gcells m gs) := r0.fr hfr (by omega)
    have q1 : Row W (w.heap.size + 1) 72 [.int .u32 s] := r1.fr hfr (by omega)
    have q4 : Row W (w.heap.size + 1 + 1 + 1 + 1) 72 [.int .u32 s] := r4.fr hfr (by omega)
    have hxl := x.2.1
    have c0 : W.cell? ⟨w.heap.size, 1 + x.1, none⟩ = some (.int .u32 (near gs x.1)) := by rw [q0.cell, gcells_s _ _ _ (by rw [hg.len]; exact hxl)]; rfl
    have c1 := q1.cells1.1
    obtain ⟨c2, f2⟩ := hr.cells1
    obtain ⟨c3, f3⟩ := hr3.cells1
    have hab := Lib.hid (and_bits (near gs x.1) s (Nat.lt_trans (hg.lt _) (by omega)) (by omega))
    have hsl := sAnd_lt (t := s) (hg.lt x.1)
    have Hs := Lib.hid (vals_snoc pre x)
    generalize hx : x.1 = v at *
    generalize hvp : vals pre = ys at *
    have HC : ∀ w n, Calls Try.prog 60 #[.int .u32 (sAnd (near gs v) s)] (World.drewN w n) fun e w' => e = .returned (.int .i64 (nb gs s v)) ∧ ∃ m, w' = w.drewN m := fun w n => Calls.quiet_of (size_any _ _ hsl)
    have HC' := Lib.hid HC
    clear HC hx hvp
    cases g1 : decide (nb gs s v < loneF gs s ys)
    all_goals
      gi_wp2
      refine wpIn_region_quiet_all (hO.inRound l) (by kernel_rfl) (by kernel_rfl) (by kernel_rfl) ?_
      repeat go_big_quiet_step ((go_at_call 60; (rw [hab.out]; exact HC'.out _ _)))
      refine wpQuiet_nil ?_
      rintro _ ⟨nq, rfl⟩
      gi_wp2
    · obtain ⟨e1, e2⟩ := lone_no (of_decide_eq_false g1)
      refine ⟨keeps_drewN _ _ _, keepB_row q4 (q4.drewN nq), hfr.drewN nq, ?_, ?_⟩
      · rw [Hs.out, e1]; exact hr.drewN nq
      · rw [Hs.out, e2]; exact hr3.drewN nq
    · obtain ⟨e1, e2⟩ := lone_yes (of_decide_eq_true g1)
      refine ⟨((keeps_drewN _ _ _).trans ((KeepsOthers.setCell _ _ _).from _)).trans ((KeepsOthers.setCell _ _ _).from _), ?_, ((hfr.drewN nq).setCell (.inl (.inl rfl)) _).setCell (.inl (.inr rfl)) _, ?_, ?_⟩
      · exact keepB_row q4 (((q4.drewN nq).far (by first | (simp; done) | (simp; omega)) _).far (by first | (simp; done) | (simp; omega)) _)
      · rw [Hs.out, e1]; exact ((hr.drewN nq).set 0 (.int .i64 v)).far (by first | (simp; done) | (simp; omega)) _
      · rw [Hs.out, e2]; exact ((hr3.drewN nq).far (by first | (simp; done) | (simp; omega)) _).set 0 (.int .i64 (nb gs s v))
  case done =>
    rintro D xs W hD hxs ⟨hfr, hr, hr3⟩ hK
    rw [hxs] at hr hr3
    obtain ⟨c2, f2⟩ := hr.cells1
    obtain ⟨c3, f3⟩ := hr3.cells1
    have hB := hfr.under hb (fun i hi => by omega)
    gi_wp2
    refine wpIn_region_quiet_all hO (by kernel_rfl) (by kernel_rfl) (by kernel_rfl) ?_
    repeat go_big_quiet_step ((fail))
    refine wpQuiet_nil ?_
    rintro _ ⟨nq, rfl⟩
    gi_wp2
    refine ret_marks [D] (w := W.drewN nq) (marks_one hK) (v := .tuple #[.int .i64 (loneB gs s (ms s)), .int .i64 (loneF gs s (ms s))]) ?_ ⟨rfl, shut_below (hB.trans (below_drewN nq)) (by simp; omega)⟩
    simp [results, Try.results66, go_sem]
end Go.Proofs.Ytpaeagkgmbhndaa
