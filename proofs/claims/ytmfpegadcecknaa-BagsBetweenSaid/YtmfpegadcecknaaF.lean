/- What a call may change: all blocks that lay before it lie as they lay, but for those of a set X. And the law for a loop over the members of a set. -/
import Derived.Test.YtmfpegadcecknaaM
namespace Go.Proofs.Ytmfpegadcecknaa
open Go.RowKit Go.Shelf
structure Fr (X : Nat → Prop) (w w' : World) : Prop where
  os : w'.os = w.os
  tape : w'.tape = w.tape
  output : w'.output = w.output
  size : w.heap.size ≤ w'.heap.size
  block : ∀ k, k < w.heap.size → ¬ X k → w'.heap[k]? = w.heap[k]?
theorem Fr.refl (X : Nat → Prop) (w : World) : Fr X w w := ⟨rfl, rfl, rfl, Nat.le_refl _, fun _ _ _ => rfl⟩
theorem Fr.trans {X : Nat → Prop} {a b c : World} (h : Fr X a b) (k : Fr X b c) : Fr X a c :=
  ⟨k.os.trans h.os, k.tape.trans h.tape, k.output.trans h.output, Nat.le_trans h.size k.size, fun i hi hx => (k.block i (Nat.lt_of_lt_of_le hi h.size) hx).trans (h.block i hi hx)⟩
theorem Fr.of_below {X : Nat → Prop} {w w' : World} (h : Below w.heap.size w w') : Fr X w w' := ⟨h.os, h.tape, h.output, h.size, fun k hk _ => h.block k hk⟩
theorem Fr.below {w w' : World} (h : Fr (fun _ => False) w w') : Below w.heap.size w w' := ⟨h.os, h.tape, h.output, h.size, fun k hk => h.block k hk (fun f => f)⟩
theorem Fr.mono {X Y : Nat → Prop} {w w' : World} (h : Fr X w w') (hXY : ∀ k, k < w.heap.size → X k → Y k) : Fr Y w w' :=
  ⟨h.os, h.tape, h.output, h.size, fun k hk hy => h.block k hk (fun hx => hy (hXY k hk hx))⟩
theorem Fr.drewN {X : Nat → Prop} {a w : World} (h : Fr X a w) (n : Nat) : Fr X a (w.drewN n) := ⟨h.os, h.tape, h.output, h.size, h.block⟩
theorem Fr.drew {X : Nat → Prop} {a w : World} (h : Fr X a w) : Fr X a w.drew := ⟨h.os, h.tape, h.output, h.size, h.block⟩
theorem Fr.alloc {X : Nat → Prop} {a w : World} (h : Fr X a w) (o : Obj) : Fr X a (w.alloc o) := h.trans (Fr.of_below ((Below.refl _ _).alloc (Nat.le_refl _) o))
theorem Fr.setCell {X : Nat → Prop} {a w : World} (h : Fr X a w) {p : Addr} (hp : X p.block ∨ a.heap.size ≤ p.block) (u : Value) : Fr X a (w.setCell p u) :=
  ⟨h.os, h.tape, h.output, Nat.le_trans h.size (by simp [World.setCell]), fun k hk hx => (Below.heap_setCell w p u k (fun e => by
    subst e; rcases hp with hp | hp
    · exact hx hp
    · omega)).trans (h.block k hk hx)⟩
/-- A callee's own account, met in the middle of a call. -/
theorem Fr.then_ {X Y : Nat → Prop} {a b c : World} (h : Fr X a b) (k : Fr Y b c) (hY : ∀ i, i < a.heap.size → Y i → X i) : Fr X a c :=
  ⟨k.os.trans h.os, k.tape.trans h.tape, k.output.trans h.output, Nat.le_trans h.size k.size, fun i hi hx => (k.block i (Nat.lt_of_lt_of_le hi h.size) (fun hy => hx (hY i hi hy))).trans (h.block i hi hx)⟩
theorem Fr.then_below {X : Nat → Prop} {a b c : World} (h : Fr X a b) (k : Below b.heap.size b c) : Fr X a c := h.trans (Fr.of_below k)
theorem Fr.cell {X : Nat → Prop} {w w' : World} (h : Fr X w w') {b o : Nat} (hb : b < w.heap.size) (hx : ¬ X b) : w'.cell? ⟨b, o, none⟩ = w.cell? ⟨b, o, none⟩ := World.cell?_of_block (w := w) (h.block b hb hx)
theorem Fr.under {X : Nat → Prop} {w a b : World} (h : Below w.heap.size w a) (k : Fr X a b) (hX : ∀ i, i < w.heap.size → ¬ X i) : Below w.heap.size w b :=
  ⟨k.os.trans h.os, k.tape.trans h.tape, k.output.trans h.output, Nat.le_trans h.size k.size, fun i hi => (k.block i (Nat.lt_of_lt_of_le hi h.size) (hX i hi)).trans (h.block i hi)⟩
/-- Block g is just these cells, none frozen. -/
def Row (w : World) (g : Nat) (t : TypeId) (cs : List Value) : Prop := w.heap[g]? = some (.cells cs.toArray t (0, 0))
theorem Row.lt {w : World} {g : Nat} {t : TypeId} {cs : List Value} (h : Row w g t cs) : g < w.heap.size := (Array.getElem?_eq_some_iff.1 h).1
theorem Row.cell {w : World} {g : Nat} {t : TypeId} {cs : List Value} (h : Row w g t cs) (i : Nat) : w.cell? ⟨g, i, none⟩ = cs[i]? := by
  rw [cell_of_row w g i _ _ _ h]; simp
theorem Row.free {w : World} {g : Nat} {t : TypeId} {cs : List Value} (h : Row w g t cs) (i : Nat) : w.frozen? ⟨g, i, none⟩ = false := frozen_of_row w g i _ t h
theorem Row.new (w : World) (t : TypeId) (cs : List Value) : Row (w.alloc (.cells cs.toArray t)) w.heap.size t cs := heap_alloc_new w _
theorem Row.cells2 {w : World} {g : Nat} {t : TypeId} {a b : Value} (h : Row w g t [a, b]) : (w.cell? ⟨g, 0, none⟩ = some a ∧ w.cell? ⟨g, 1, none⟩ = some b) ∧ (w.frozen? ⟨g, 0, none⟩ = false ∧ w.frozen? ⟨g, 1, none⟩ = false) := ⟨⟨h.cell 0, h.cell 1⟩, h.free 0, h.free 1⟩
theorem Row.cells1 {w : World} {g : Nat} {t : TypeId} {a : Value} (h : Row w g t [a]) : w.cell? ⟨g, 0, none⟩ = some a ∧ w.frozen? ⟨g, 0, none⟩ = false := ⟨h.cell 0, h.free 0⟩
theorem row_new {W : World} {g : Nat} {t : TypeId} {cs : List Value} (h : W.heap.size = g) : Row (W.alloc (.cells cs.toArray t)) g t cs := by subst h; exact Row.new W t cs
theorem Row.drewN {w : World} {g : Nat} {t : TypeId} {cs : List Value} (h : Row w g t cs) (n : Nat) : Row (w.drewN n) g t cs := h
theorem Row.drew {w : World} {g : Nat} {t : TypeId} {cs : List Value} (h : Row w g t cs) : Row w.drew g t cs := h
theorem Row.alloc {w : World} {g : Nat} {t : TypeId} {cs : List Value} (h : Row w g t cs) (o : Obj) : Row (w.alloc o) g t cs := (Below.heap_alloc w o g h.lt).trans h
theorem Row.set {w : World} {g : Nat} {t : TypeId} {cs : List Value} (h : Row w g t cs) (i : Nat) (u : Value) : Row (w.setCell ⟨g, i, none⟩ u) g t (cs.set i u) := by
  unfold Row at h ⊢
  simp [World.setCell, Array.getElem?_modify, h]
theorem Row.row {w : World} {g : Nat} {t : TypeId} {cs : List Value} (h : Row w g t cs) (cs' : List Value) : Row (w.setRow g cs'.toArray) g t cs' := by
  unfold Row at h ⊢
  simp [World.setRow, Array.getElem?_modify, h]
theorem Row.row_far {w : World} {g k : Nat} {t : TypeId} {cs : List Value} (h : Row w g t cs) (hk : g ≠ k) (cs' : Array Value) : Row (w.setRow k cs') g t cs := by
  unfold Row at h ⊢
  simp only [World.setRow, Array.getElem?_modify]
  rw [if_neg (by omega)]; exact h
theorem Row.far {w : World} {g : Nat} {t : TypeId} {cs : List Value} (h : Row w g t cs) {p : Addr} (hp : g ≠ p.block) (u : Value) : Row (w.setCell p u) g t cs := (Below.heap_setCell w p u g hp).trans h
theorem Row.grown {w w' : World} {g : Nat} {t : TypeId} {cs : List Value} {row : Option Nat} (h : Row w g t cs) (hg : w.grownBy w' row) (hr : some g ≠ row) : Row w' g t cs := (hg.block g h.lt hr).trans h
theorem Row.fr {X : Nat → Prop} {w w' : World} {g : Nat} {t : TypeId} {cs : List Value} (h : Row w g t cs) (k : Fr X w w') (hx : ¬ X g) : Row w' g t cs := (k.block g h.lt hx).trans h
theorem Row.below {w w' : World} {g : Nat} {t : TypeId} {cs : List Value} (h : Row w g t cs) (k : Below w.heap.size w w') : Row w' g t cs := (k.block g h.lt).trans h
theorem grown_lt {A B : World} {row : Option Nat} {Bd : Nat} (hg : A.grownBy B row) (hr : ∀ r, row = some r → Bd ≤ r ∧ ∃ o : Obj, A.heap[r]? = some o ∧ o.isCells = false) (k : Nat) (hk : k < A.heap.size) (hb : k < Bd) : B.heap[k]? = A.heap[k]? :=
  hg.block k hk (fun e => by have := (hr k e.symm).1; omega)
theorem _root_.Go.World.ownsRow.kept' {w w' : World} {base : Nat} {e : TypeId} {size n : Nat} {v : Value} {xs : List Value} (h : w.ownsRow base e size v n xs) (hb : Below w.heap.size w w') : w'.ownsRow base e size v n xs := by
  refine ⟨h.1, ?_⟩
  rcases h.2 with hn | ⟨g, cap, cur, rfl, hbg, hgg, rest⟩
  · exact .inl hn
  · exact .inr ⟨g, cap, cur, rfl, hbg, (hb.block g (Array.getElem?_eq_some_iff.1 hgg).1).trans hgg, rest⟩
theorem own_ge {w : World} {base : Nat} {e : TypeId} {size n : Nat} {v : Value} {xs : List Value} (h : w.ownsRow base e size v n xs) {g : Nat} (hg : v.ownBlock = some g) : base ≤ g ∧ g < w.heap.size ∧ ∃ cs, w.heap[g]? = some (.cells cs e (0, 0)) := by
  rcases h.2 with ⟨rfl, _⟩ | ⟨g', cap, cur, rfl, hb, hgg, _⟩
  · simp [Value.ownBlock] at hg
  · have : g' = g := by simpa [Value.ownBlock] using hg
    subst this
    exact ⟨hb, (Array.getElem?_eq_some_iff.1 hgg).1, _, hgg⟩
theorem Row.not_own {w : World} {base : Nat} {e t : TypeId} {size n g : Nat} {v : Value} {xs cs : List Value} (hr : Row w g t cs) (h : w.ownsRow base e size v n xs) (hte : t ≠ e) : some g ≠ v.ownBlock := by
  intro he
  obtain ⟨_, _, cs', h3⟩ := own_ge h he.symm
  unfold Row at hr
  rw [hr] at h3
  injection h3 with h3; injection h3 with _ h4
  exact hte h4
/-- An append to one of two rows of the call's own. -/
theorem app2 {W w5 : World} {n₀ : Nat} {e : TypeId} {z j k : Nat} {v1 v2 v1' : Value} {xs ys : List Value} (h1 : W.ownsRow n₀ e z v1 k xs) (h2 : W.ownsRow n₀ e z v2 j ys) (hne : v1.ownBlock ≠ v2.ownBlock) (hn : n₀ ≤ W.heap.size) {o : Obj}
    (hgr : (W.alloc o).grownBy w5 v1.ownBlock) (hat : v1'.ownBlock = v1.ownBlock ∨ v1'.ownBlock = some (W.alloc o).heap.size) :
    w5.ownsRow n₀ e z v2 j ys ∧ v1'.ownBlock ≠ v2.ownBlock ∧ Below n₀ W w5 ∧ (∀ g t cs, t ≠ e → Row W g t cs → Row w5 g t cs) := by
  refine ⟨(h2.alloc o).kept hgr (.inr hne.symm), ?_, ?_, fun g t cs ht hr => (hr.alloc o).grown hgr (hr.not_own h1 ht)⟩
  · rcases hat with h | h
    · rw [h]; exact hne
    · rw [h]; intro he
      have := (own_ge h2 he.symm).2.1
      simp at this; omega
  · exact ((Below.refl n₀ W).alloc hn o).grown hgr (by simp; omega) (fun g hg => (own_ge h1 hg).1)
theorem ownFrom_fr {β : Type} {X : Nat → Prop} {w : World} {Bd : Nat} (hB : w.heap.size ≤ Bd) : OwnFrom Bd (fun (_ : β) W => Fr X w W) := fun _ A B row hs hg hr =>
  ⟨hg.os.trans hs.os, hg.tape.trans hs.tape, hg.output.trans hs.output, Nat.le_trans hs.size hg.size, fun k hk hx => (grown_lt hg hr k (Nat.lt_of_lt_of_le hk hs.size) (by omega)).trans (hs.block k hk hx)⟩
theorem ownFrom_row {β : Type} {g : Nat} {t : TypeId} {f : β → List Value} {Bd : Nat} : OwnFrom Bd (fun s W => Row W g t (f s)) := fun s A B row hs hg hr => by
  refine (hg.block g hs.lt (fun e => ?_)).trans hs
  obtain ⟨_, o, ho, hc⟩ := hr g e.symm
  unfold Row at hs
  rw [hs] at ho; cases ho; cases hc
theorem keeps_drewN (B : Nat) (W : World) (n : Nat) : KeepsFrom B W (W.drewN n) := ⟨Nat.le_refl _, fun _ _ _ h _ => h⟩
theorem keeps_below (B : Nat) {W W' : World} (h : Below W.heap.size W W') : KeepsFrom B W W' := ⟨h.size, fun k _ _ hk _ => (h.block k (Array.getElem?_eq_some_iff.1 hk).1).trans hk⟩
theorem keeps_fr {X : Nat → Prop} (B : Nat) {W W' : World} (h : Fr X W W') (hX : ∀ k, X k → ∃ o, W.heap[k]? = some o ∧ o.isCells = true) : KeepsFrom B W W' := ⟨h.size, fun k o _ hk ho => (h.block k (Array.getElem?_eq_some_iff.1 hk).1 (fun hx => by
  obtain ⟨o', h1, h2⟩ := hX k hx
  rw [h1] at hk; cases hk; rw [ho] at h2; cases h2)).trans hk⟩
theorem keepB_row {W W' : World} {B : Nat} {t : TypeId} {cs : List Value} (h : Row W B t cs) (h' : Row W' B t cs) : KeepB B W W' := h'.trans h.symm
def vals {s : Nat} (xs : List (Mem s)) : List Nat := xs.map (·.1)
theorem vals_snoc {s : Nat} (xs : List (Mem s)) (x : Mem s) : vals (xs ++ [x]) = vals xs ++ [x.1] := by simp [vals]
theorem vals_len {s : Nat} (xs : List (Mem s)) : (vals xs).length = xs.length := by simp [vals]
/-- A loop over the members of a set. -/
theorem range_members {F : Fence} (hO : Open F) (hro : F.round = none) {n : Nat} (h1 : 1 ≤ n) {g : Operand} {ps : Array Tmp} {assign body : Code} {Q : Exit → Act → World → Prop} {a : Act} {w : World}
    (B s : Nat) (hs : s < 65536) (hB : Row w B 72 [.int .u32 s]) (hg : a.eval g = .func (.func 70) #[] #[.pointer (some ⟨B, 0, none⟩)]) (hps : ps.size = 1)
    (I : List (Mem s) → World → Prop) (Ix : Code → List (Mem s) → World → Prop) (hI : OwnFrom w.heap.size I) (hIx : ∀ c, OwnFrom w.heap.size (Ix c)) (h0 : I [] w) (a₁ : Mem s → Act)
    (hassign : ∀ (l : Nat) (x : Mem s) (W : World) (K : Act → World → Prop), K (a₁ x) W →
      assign.wpIn (F.inRound l) (n - 1 - 1) Try.prog (Exit.then K (fun _ _ _ => False)) { tmps := (ps.zip #[.int .i64 x.1]).foldl (fun t (p, v) => t.setIfInBounds p v) a.tmps, defers := [] } W)
    (hbody : ∀ (l : Nat) (pre : List (Mem s)) (x : Mem s) (W : World), I pre W → pre.length < 16 → body.wpIn (F.inRound l) (n - 1 - 1) Try.prog (ownPostG w.heap.size (KeepB B) I Ix (pre ++ [x]) W) (a₁ x) W)
    (hdone : ∀ (D : Nat) (xs : List (Mem s)) (W : World), w.heap.size ≤ D → vals xs = ms s → I xs W → W.heap[D]? = some (.deferred (some [])) → Q .normal { a with defers := { target := .collected D, args := #[] } :: a.defers } W)
    (hstop : ∀ (D : Nat) (c : Code) (pre : List (Mem s)) (W : World), w.heap.size ≤ D → Ix c pre W → W.heap[D]? = some (.deferred (some [])) → c.wpIn F n Try.prog Q { a with defers := { target := .collected D, args := #[] } :: a.defers } W) :
    (Code.rangeFunc g ps assign body).wpIn F n Try.prog Q a w :=
  wpIn_rangeFunc_ownG (Kp := KeepB B) (w0 := w) hro h1 hg (hO.fn 70) (enters_of Try.func70 (by kernel_rfl) rfl) (members_stops F hO hro (n - 1) B s hs w hB) (fun h k => k.trans h)
    (fun W l o o' hl _ _ _ => World.putObj_heap_other (by have := hB.lt; omega)) (Below.refl _ _) (fun _ => by rw [hps]; rfl) I Ix hI hIx h0 a₁ hassign hbody hdone (fun D c pre W hD _ => hstop D c pre W hD)
/-! Leaving a function in which loops over a function stood. -/
abbrev mark (D : Nat) : Deferred := { target := .collected D, args := #[] }
def shut : List Nat → World → World
  | [], w => w
  | D :: Ds, w => shut Ds (w.putObj D (.deferred none))
def Marks (Ds : List Nat) (w : World) : Prop := Ds.Nodup ∧ ∀ D ∈ Ds, w.heap[D]? = some (.deferred (some []))
theorem Marks.tail {D : Nat} {Ds : List Nat} {w : World} (h : Marks (D :: Ds) w) : Marks Ds (w.putObj D (.deferred none)) :=
  ⟨(List.nodup_cons.1 h.1).2, fun E hE => (World.putObj_heap_other (fun e => (List.nodup_cons.1 h.1).1 (by rw [← e]; exact hE))).trans (h.2 E (List.mem_cons_of_mem _ hE))⟩
theorem shut_row {Ds : List Nat} {w : World} (hm : Marks Ds w) {g : Nat} {t : TypeId} {cs : List Value} (h : Row w g t cs) : Row (shut Ds w) g t cs := by
  induction Ds generalizing w with
  | nil => exact h
  | cons D Ds ih =>
    refine ih hm.tail ((World.putObj_heap_other (fun e => ?_)).trans h)
    have := hm.2 D (List.mem_cons_self ..)
    unfold Row at h
    rw [← e, h] at this; cases this
theorem shut_below {Ds : List Nat} {B : Nat} {w W : World} (h : Below B w W) (hB : ∀ D ∈ Ds, B ≤ D) : Below B w (shut Ds W) := by
  induction Ds generalizing W with
  | nil => exact h
  | cons D Ds ih =>
    refine ih (h.trans ⟨rfl, rfl, rfl, by simp, fun k hk => World.putObj_heap_other (fun e => ?_)⟩) (fun E hE => hB E (List.mem_cons_of_mem _ hE))
    have := hB D (List.mem_cons_self ..); omega
theorem leaves_marks {F : Fence} {n : Nat} {P : Program} {fn : Func} {tmps : Array Value} {R : Ending → World → Prop} (Ds : List Nat) (w : World) (hm : Marks Ds w) {v : Value}
    (hv : (results fn tmps).run P (shut Ds w) = .ok v (shut Ds w)) (hR : R (.returned v) (shut Ds w)) : LeavesInM F n P fn tmps R (Ds.map mark) .returning w := by
  induction Ds generalizing w with
  | nil => exact ⟨v, hv, hR⟩
  | cons D Ds ih => exact ⟨by simp, .inl ⟨D, _, rfl, run_takeDeferred (hm.2 D (List.mem_cons_self ..)), ih _ hm.tail hv hR⟩⟩
theorem ret_marks {F : Fence} {n : Nat} {P : Program} {fn : Func} {tmps : Array Value} {R : Ending → World → Prop} (Ds : List Nat) {w : World} (hm : Marks Ds w) {v : Value}
    (hv : (results fn tmps).run P (shut Ds w) = .ok v (shut Ds w)) (hR : R (.returned v) (shut Ds w)) : bodyPostM F n P fn R .ret { tmps := tmps, defers := Ds.map mark } w := leaves_marks Ds w hm hv hR
theorem marks_one {D : Nat} {w : World} (h : w.heap[D]? = some (.deferred (some []))) : Marks [D] w := ⟨by simp, fun E hE => by simp at hE; subst hE; exact h⟩
theorem keeps_mark {B D : Nat} {w w' : World} (h : KeepsFrom B w w') (hB : B ≤ D) (hk : w.heap[D]? = some (.deferred (some []))) : w'.heap[D]? = some (.deferred (some [])) := h.same D _ hB hk rfl
end Go.Proofs.Ytmfpegadcecknaa
