/- A loop over a function that writes the list which it hands out. -/
import Derived.Test.YtopeppnajbnfgaaFL
import Derived.ArgAppend
namespace Go.Proofs.Ytopeppnajbnfgaa
open Go.RowKit Go.Shelf
attribute [local go_sem] Oper.semAt_some
set_option maxHeartbeats 1000000
set_option maxRecDepth 100000
/-- What is said of a world does not turn when blocks at or beyond B do. -/
def AbAll {β : Type} (B : Nat) (J : β → World → Prop) : Prop := ∀ s W W' row, J s W → W.grownBy W' row → (∀ r, row = some r → B ≤ r) → J s W'
theorem AbAll.putObj {β : Type} {B : Nat} {J : β → World → Prop} (h : AbAll B J) {s : β} {W : World} {l : Nat} (o : Obj) (hs : J s W) (hB : B ≤ l) : J s (W.putObj l o) := h s W _ (some l) hs (grownBy_putObj' W l o) (fun r e => by cases e; exact hB)
theorem AbAll.alloc {β : Type} {B : Nat} {J : β → World → Prop} (h : AbAll B J) {s : β} {W : World} (o : Obj) (hs : J s W) : J s (W.alloc o) := h s W _ none hs (World.grownBy_alloc W o none) (fun r e => by cases e)
/-- All that lay at or beyond B, or in X, lies as it lay. -/
structure KeepA (B : Nat) (X : Nat → Prop) (W W' : World) : Prop where
  size : W.heap.size ≤ W'.heap.size
  same : ∀ k, B ≤ k ∨ X k → k < W.heap.size → W'.heap[k]? = W.heap[k]?
theorem KeepA.trans {B : Nat} {X : Nat → Prop} {Y Z V : World} (h : KeepA B X Y Z) (k : KeepA B X Z V) : KeepA B X Y V := ⟨Nat.le_trans h.size k.size, fun i hB hi => (k.same i hB (Nat.lt_of_lt_of_le hi h.size)).trans (h.same i hB hi)⟩
theorem KeepA.mono {B C : Nat} {X : Nat → Prop} {W W' : World} (h : KeepA B X W W') (hC : B ≤ C) : KeepA C X W W' := ⟨h.size, fun k hk => h.same k (hk.elim (fun h => .inl (Nat.le_trans hC h)) .inr)⟩
theorem KeepA.low {B l : Nat} {X : Nat → Prop} (W : World) (o : Obj) (hl : l < B) (hX : ¬ X l) : KeepA B X W (W.putObj l o) := ⟨by simp, fun k hk _ => World.putObj_heap_other (fun e => by subst e; rcases hk with h | h; omega; exact hX h)⟩
theorem KeepA.of_below {B : Nat} {X : Nat → Prop} {W W' : World} (h : Below W.heap.size W W') : KeepA B X W W' := ⟨h.size, fun k _ hk => h.block k hk⟩
theorem KeepA.row {B : Nat} {X : Nat → Prop} {W W' : World} (h : KeepA B X W W') {g : Nat} {t : TypeId} {cs : List Value} (hr : Row W g t cs) (hB : B ≤ g ∨ X g) : Row W' g t cs := (h.same g hB hr.lt).trans hr
def SeqW {α : Type} (F : Fence) (n : Nat) (P : Program) (g : Nat) (lb : Array Value) (val : Nat → α → Value) (Q : Nat → α → World → Prop) (X : Nat → Prop) (S Sp : List α → Prop) (w : World) : Prop :=
  ∀ (l : Nat) (J Jx : List α → World → Prop) (W : World), Below w.heap.size w W → AbAll W.heap.size J →
    (∀ pre x W1, J pre W1 → Q W.heap.size x W1 → YieldAt F (n - 1) P l #[val W.heap.size x] W1 fun e W' =>
      (e = .returned (.bool true) ∧ J (pre ++ [x]) W' ∧ KeepA W.heap.size X W1 W') ∨ (e = .returned (.bool false) ∧ Jx (pre ++ [x]) W' ∧ KeepA W.heap.size X W1 W')) →
    J [] W →
    CallsIn F n P g (#[.func (.yield l) #[] #[]] ++ lb) W fun e W' => (∃ v, e = .returned v) ∧ ((∃ xs, S xs ∧ J xs W') ∨ (∃ pre, Sp pre ∧ Jx pre W'))
def ownPostW {α : Type} (B : Nat) (X : Nat → Prop) (I : List α → World → Prop) (Ix : Code → List α → World → Prop) (xs : List α) (W : World) : Exit → Act → World → Prop
  | .normal, _, W' => KeepA B X W W' ∧ I xs W'
  | .ret, _, W' => KeepA B X W W' ∧ Ix .ret xs W'
  | .exit id, _, W' => KeepA B X W W' ∧ Ix (.exit id) xs W'
  | .goto t, _, W' => KeepA B X W W' ∧ Ix (.goto t) xs W'
  | .panic _, _, _ => False
  | .outgrown, _, _ => False
section
variable {F : Fence} {n : Nat} {P : Program}
theorem wpIn_rangeFunc_writes {α : Type} {g : Operand} {p : Tmp} {assign body : Code} {Q : Exit → Act → World → Prop} {a : Act} {w : World}
    (hro : F.round = none) (h1 : 1 ≤ n) {gf : Nat} {lb : Array Value} (hg : a.eval g = .func (.func gf) #[] lb) (hFg : F.fn gf) (eg : ∀ args w, (callFunc gf args).run P w = .ok (.enter gf args) w)
    {val : Nat → α → Value} {Qx : Nat → α → World → Prop} {X : Nat → Prop} {S Sp : List α → Prop} (hseq : SeqW F (n - 1) P gf lb val Qx X S Sp w) (hX : ∀ k, X k → k < w.heap.size)
    (hQx : ∀ B x W W', Qx B x W → KeepA B X W W' → Qx B x W')
    (I : List α → World → Prop) (Ix : Code → List α → World → Prop) (hI : AbAll w.heap.size I) (hIx : ∀ c, OwnFrom w.heap.size (Ix c)) (h0 : I [] w) (a₁ : Nat → α → Act)
    (hassign : ∀ (l B : Nat) (x : α) (W : World) (K : Act → World → Prop), K (a₁ B x) W →
      assign.wpIn (F.inRound l) (n - 1 - 1) P (Exit.then K (fun _ _ _ => False)) { tmps := (#[p].zip #[val B x]).foldl (fun t (p, v) => t.setIfInBounds p v) a.tmps, defers := [] } W)
    (hbody : ∀ (l B : Nat) (pre : List α) (x : α) (W : World), w.heap.size + 2 ≤ B → I pre W → Qx B x W → body.wpIn (F.inRound l) (n - 1 - 1) P (ownPostW w.heap.size X I Ix (pre ++ [x]) W) (a₁ B x) W)
    (hdone : ∀ (D : Nat) (xs : List α) (W : World), w.heap.size ≤ D → S xs → I xs W → W.heap[D]? = some (.deferred (some [])) → Q .normal { a with defers := { target := .collected D, args := #[] } :: a.defers } W)
    (hstop : ∀ (D : Nat) (c : Code) (pre : List α) (W : World), w.heap.size ≤ D → Sp pre → Ix c pre W → W.heap[D]? = some (.deferred (some [])) → c.wpIn F n P Q { a with defers := { target := .collected D, args := #[] } :: a.defers } W) :
    (Code.rangeFunc g #[p] assign body).wpIn F n P Q a w := by
  refine wpIn_rangeFunc ?_
  intro fn hfn
  rw [hro]
  obtain ⟨rec, hrec⟩ : ∃ rec : LoopState → Option Code → Loop, rec = fun st pe => { state := st, pending := pe, fn, tmps := a.tmps, params := #[p], assign, body, defers := w.heap.size } := ⟨_, rfl⟩
  have hR : ∀ st pe, rec st pe = { state := st, pending := pe, fn, tmps := a.tmps, params := #[p], assign, body, defers := w.heap.size } := fun st pe => by rw [hrec]
  obtain ⟨W1, hW1⟩ : ∃ W1, (w.alloc (.deferred (some []))).alloc (.loop (rec .ready none)) = W1 := ⟨_, rfl⟩
  have hz1 : W1.heap.size = w.heap.size + 2 := by rw [← hW1]; simp
  have rL : W1.heap[w.heap.size + 1]? = some (.loop (rec .ready none)) := by
    rw [← hW1]; have := World.alloc_heap_new (w.alloc (.deferred (some []))) (.loop (rec .ready none)); rwa [World.size_alloc] at this
  have rD : W1.heap[w.heap.size]? = some (.deferred (some [])) := by
    rw [← hW1]; exact (Below.heap_alloc _ _ _ (by simp)).trans (World.alloc_heap_new w _)
  have i1 : I [] W1 := by rw [← hW1]; exact hI.alloc _ (hI.alloc _ h0)
  have b1 : Below w.heap.size w W1 := by
    rw [← hW1]; exact (((Below.refl _ w).alloc (Nat.le_refl _) _).alloc (by simp) _)
  refine ⟨w.heap.size + 1, [{ target := .collected w.heap.size, args := #[] }], W1, { target := .fn (.func gf) lb, args := #[.func (.yield (w.heap.size + 1)) #[] #[]] }, W1, gf,
    #[.func (.yield (w.heap.size + 1)) #[] #[]] ++ lb, W1, ?_, ?_, ?_, ?_, fun _ => h1, ?_⟩
  · rw [← hW1, hR]; exact run_enterLoop_outer _ _ _ _ _
  · simp only [resolve, hg]
    simp [go_sem]
  · intro f' hf'; simp [Target.leads] at hf'; subst hf'; exact hFg
  · simp [invoke, go_sem, eg]
  have keep : ∀ {A B : World} {row : Option Nat} (k : Nat), k < w.heap.size + 2 → k < A.heap.size → A.grownBy B row → (∀ r, row = some r → W1.heap.size ≤ r) → B.heap[k]? = A.heap[k]? := fun k hk hA hgr hr => hgr.block k hA (fun e => by have := hr k e.symm; omega)
  let JJ : List α → World → Prop := fun pre W => I pre W ∧ W.heap[w.heap.size + 1]? = some (.loop (rec .ready none)) ∧ W.heap[w.heap.size]? = some (.deferred (some []))
  let JX : List α → World → Prop := fun pre W => ∃ c, Ix c pre W ∧ W.heap[w.heap.size + 1]? = some (.loop (rec .done (some c))) ∧ W.heap[w.heap.size]? = some (.deferred (some []))
  have lt : ∀ {W : World} {k : Nat} {o : Obj}, W.heap[k]? = some o → k < W.heap.size := fun h => (Array.getElem?_eq_some_iff.1 h).1
  refine (hseq (w.heap.size + 1) JJ JX W1 b1
    (fun s A B row hs hgr hr => ⟨hI s A B row hs.1 hgr (fun r e => by have := hr r e; omega), (keep _ (by omega) (lt hs.2.1) hgr hr).trans hs.2.1, (keep _ (by omega) (lt hs.2.2) hgr hr).trans hs.2.2⟩)
    ?_ ⟨i1, rL, rD⟩).mono ?_
  · rintro pre x W ⟨hi, hl, hk⟩ hq
    have hy := run_yield (P := P) (args := #[val W1.heap.size x]) hl (by rw [hR]; rfl)
    rw [hR] at hy
    refine ⟨fn, _, assign, body, hy, roundIn_of_wpIn hfn (hassign _ W1.heap.size x W _ ⟨_, run_beginRound hl (by rw [hR]), ?_⟩)⟩
    obtain ⟨W2, hW2⟩ : ∃ W2, W.putObj (w.heap.size + 1) (.loop { rec .ready none with state := .busy }) = W2 := ⟨_, rfl⟩
    have hl2 : W2.heap[w.heap.size + 1]? = some (.loop { rec .ready none with state := .busy }) := by rw [← hW2]; exact World.putObj_heap_same (lt hl)
    have hk2 : W2.heap[w.heap.size]? = some (.deferred (some [])) := by rw [← hW2]; exact (World.putObj_heap_other (by omega)).trans hk
    have hA2 : KeepA W1.heap.size X W W2 := by rw [← hW2]; exact KeepA.low W _ (by omega) (fun h => by have := hX _ h; omega)
    have hi2 : I pre W2 := by rw [← hW2]; exact hI.putObj _ hi (by omega)
    rw [hW2]
    refine wpIn_mono (hbody _ W1.heap.size pre x W2 (by omega) hi2 (hQx _ _ _ _ hq hA2)) ?_
    have fin : ∀ (jump : Option Code) (W3 : World), KeepA w.heap.size X W2 W3 →
        W3.heap[w.heap.size + 1]? = some (.loop { rec .ready none with state := .busy }) ∧ (Instr.endRound (w.heap.size + 1) jump).run P W3 = .ok (.bool jump.isNone) (W3.putObj (w.heap.size + 1) (.loop (rec (if jump.isNone then .ready else .done) jump))) ∧
        (W3.putObj (w.heap.size + 1) (.loop (rec (if jump.isNone then .ready else .done) jump))).heap[w.heap.size + 1]? = some (.loop (rec (if jump.isNone then .ready else .done) jump)) ∧
        (W3.putObj (w.heap.size + 1) (.loop (rec (if jump.isNone then .ready else .done) jump))).heap[w.heap.size]? = some (.deferred (some [])) := fun jump W3 hk3 => by
      have hl3 := (hk3.same _ (.inl (by omega)) (lt hl2)).trans hl2
      have h := run_endRound (P := P) jump hl3
      refine ⟨hl3, ?_⟩
      rw [hrec] at h ⊢
      exact ⟨h, World.putObj_heap_same (lt hl3), (World.putObj_heap_other (by omega)).trans ((hk3.same _ (.inl (Nat.le_refl _)) (lt hk2)).trans hk2)⟩
    rintro e a3 W3 hp
    cases e with
    | normal =>
      obtain ⟨hk3, hi3⟩ := hp
      obtain ⟨hl3, hr, hl4, hk4⟩ := fin none W3 hk3
      exact ⟨_, _, hr, .inl ⟨rfl, ⟨hI.putObj _ hi3 (by omega), hl4, hk4⟩, hA2.trans ((hk3.mono (by omega)).trans (KeepA.low W3 _ (by omega) (fun h => by have := hX _ h; omega)))⟩⟩
    | ret =>
      obtain ⟨hk3, hi3⟩ := hp
      obtain ⟨hl3, hr, hl4, hk4⟩ := fin (some .ret) W3 hk3
      exact ⟨_, _, hr, .inr ⟨rfl, ⟨.ret, (hIx _).putObj _ hi3 (by omega) hl3 rfl, hl4, hk4⟩, hA2.trans ((hk3.mono (by omega)).trans (KeepA.low W3 _ (by omega) (fun h => by have := hX _ h; omega)))⟩⟩
    | exit id =>
      obtain ⟨hk3, hi3⟩ := hp
      obtain ⟨hl3, hr, hl4, hk4⟩ := fin (some (.exit id)) W3 hk3
      exact ⟨_, _, hr, .inr ⟨rfl, ⟨.exit id, (hIx _).putObj _ hi3 (by omega) hl3 rfl, hl4, hk4⟩, hA2.trans ((hk3.mono (by omega)).trans (KeepA.low W3 _ (by omega) (fun h => by have := hX _ h; omega)))⟩⟩
    | goto t =>
      obtain ⟨hk3, hi3⟩ := hp
      obtain ⟨hl3, hr, hl4, hk4⟩ := fin (some (.goto t)) W3 hk3
      exact ⟨_, _, hr, .inr ⟨rfl, ⟨.goto t, (hIx _).putObj _ hi3 (by omega) hl3 rfl, hl4, hk4⟩, hA2.trans ((hk3.mono (by omega)).trans (KeepA.low W3 _ (by omega) (fun h => by have := hX _ h; omega)))⟩⟩
    | panic ch => exact hp.elim
    | outgrown => exact hp.elim
  · rintro e W2 ⟨⟨v, rfl⟩, (⟨xs, hS, hi, hl, hk⟩ | ⟨pre, hSp, c, hi, hl, hk⟩)⟩
    · exact ⟨none, _, by have := run_endLoop (P := P) hl (by rw [hR]; simp); rw [hrec] at this; exact this, hdone _ xs _ (Nat.le_refl _) hS (hI.putObj _ hi (by omega)) ((World.putObj_heap_other (by omega)).trans hk)⟩
    · exact ⟨some c, _, by have := run_endLoop (P := P) hl (by rw [hR]; simp); rw [hrec] at this; exact this, hstop _ c pre _ (Nat.le_refl _) hSp ((hIx c).putObj _ hi (by omega) hl rfl) ((World.putObj_heap_other (by omega)).trans hk)⟩
end
end Go.Proofs.Ytopeppnajbnfgaa
