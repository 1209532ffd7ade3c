/- Nested loops over members; a new division. -/
import Derived.Test.YtmfpegadcecknaaAI
namespace Go.Proofs.Ytmfpegadcecknaa
open Go.RowKit Go.Shelf
attribute [local go_sem] Oper.semAt_some
set_option maxHeartbeats 1000000
set_option maxRecDepth 100000
theorem list16 {gs : List Nat} (h : gs.length = 16) : ∃ a b c d e f g i j k l m n o p q, gs = [a, b, c, d, e, f, g, i, j, k, l, m, n, o, p, q] := by
  match gs, h with
  | [a, b, c, d, e, f, g, i, j, k, l, m, n, o, p, q], _ => exact ⟨a, b, c, d, e, f, g, i, j, k, l, m, n, o, p, q, rfl⟩
theorem built108 (m : Nat) {gs : List Nat} (h : gs.length = 16) : Try.prog.built 108 [(0, .agg (gcells m gs).toArray)] = some (dcells m gs (fun _ _ => 0) (fun _ => 0)).toArray := by
  obtain ⟨a, b, c, d, e, f, g, i, j, k, l, m', n, o, p, q, rfl⟩ := list16 h
  kernel_rfl
theorem wpListIn_build {F : Fence} {n : Nat} {P : Program} {w : World} {ops : Array Oper} {rest : List Oper} {o : Oper} {a : Act} {Q : Exit → Act → World → Prop}
    (hg : o.guard = none) (t : TypeId) (k : Nat) (x : Operand) (hop : o.op = .build t #[(k, x)]) (v : Value) (hx : a.eval x = v) (cs : Array Value) (hb : P.built t [(k, v)] = some cs)
    (h : wpListIn F n P ops Q rest (a.put o.dst (.agg cs)) w) : wpListIn F n P ops Q (o :: rest) a w := by
  refine wpListIn_plain hg fun K hK' => ?_
  have hr := run_build (P := P) w t #[(k, v)] cs hb
  unfold Oper.wpIn
  refine ⟨?_, ?_⟩
  · simp [Oper.about, hop]
  · rw [Oper.semAt_plain F _ _ (by rw [hop]; intro c hc'; cases hc')]
    simp only [execOp, hop, List.map_toArray, List.map_cons, List.map_nil, hx, Sem.run_bind, hr, Result.andThen_ok]
    exact hK' _ _ h
/-- A loop over the members of a set, whose body is told of its own record and whose assignment may lay a box. -/
theorem range_membersH {F : Fence} (hO : Open F) (hro : F.round = none) {n : Nat} (h1 : 1 ≤ n) {g : Operand} {ps : Array Tmp} {assign body : Code} {Q : Exit → Act → World → Prop} {a : Act} {w : World}
    (B s : Nat) (hs : s < 65536) (hB : Row w B 72 [.int .u32 s]) (hg : a.eval g = .func (.func 70) #[] #[.pointer (some ⟨B, 0, none⟩)]) (hps : ps.size = 1)
    (I : List (Mem s) → World → Prop) (hI : OwnFrom w.heap.size I) (h0 : I [] w) (Ax : Mem s → Act → World → Prop) (hAx : ∀ x a', OwnFrom w.heap.size (fun (_ : Unit) W => Ax x a' W))
    (hassign : ∀ (l : Nat) (pre : List (Mem s)) (x : Mem s) (W : World) (K : Act → World → Prop), I pre W → (∀ a' W', KeepsFrom w.heap.size W W' → KeepB B W W' → I pre W' → Ax x a' W' → K a' W') →
      assign.wpIn (F.inRound l) (n - 1 - 1) Try.prog (Exit.then K (fun _ _ _ => False)) { tmps := (ps.zip #[.int .i64 x.1]).foldl (fun t (p, v) => t.setIfInBounds p v) a.tmps, defers := [] } W)
    (hbody : ∀ (l : Nat) (pre : List (Mem s)) (x : Mem s) (a' : Act) (W : World), w.heap.size ≤ l → (∃ r, W.heap[l]? = some (.loop r)) → I pre W → Ax x a' W → pre.length < 16 → body.wpIn (F.inRound l) (n - 1 - 1) Try.prog (ownPostG w.heap.size (KeepB B) I (fun _ _ _ => False) (pre ++ [x]) W) a' W)
    (hdone : ∀ (D : Nat) (xs : List (Mem s)) (W : World), w.heap.size ≤ D → vals xs = ms s → I xs W → W.heap[D]? = some (.deferred (some [])) → Q .normal { a with defers := { target := .collected D, args := #[] } :: a.defers } W) :
    (Code.rangeFunc g ps assign body).wpIn F n Try.prog Q a w :=
  wpIn_rangeFunc_ownH (Kp := KeepB B) (w0 := w) hro h1 hg (hO.fn 70) (enters_of Try.func70 (by kernel_rfl) rfl) (members_stops F hO hro (n - 1) B s hs w hB) (fun h k => k.trans h)
    (fun W l o o' hl _ _ _ => World.putObj_heap_other (by have := hB.lt; omega)) (Below.refl _ _) (fun _ => by rw [hps]; rfl) I (fun _ _ _ => False) hI (fun _ _ _ _ _ h _ _ => h) h0 Ax hAx hassign hbody hdone (fun _ _ _ _ _ _ h _ => h.elim)
/-- The same within a round. -/
theorem range_membersN {F : Fence} (hO : Open F) (hro : F.round = none) {l₀ : Nat} {n : Nat} (h1 : 1 ≤ n) {g : Operand} {ps : Array Tmp} {assign body : Code} {Q : Exit → Act → World → Prop} {a : Act} {w : World}
    (hl₀ : ∃ r, w.heap[l₀]? = some (.loop r)) (B s : Nat) (hs : s < 65536) (hB : Row w B 72 [.int .u32 s]) (hg : a.eval g = .func (.func 70) #[] #[.pointer (some ⟨B, 0, none⟩)]) (hps : ps.size = 1)
    (I : List (Mem s) → World → Prop) (hI : OwnFrom w.heap.size I) (h0 : I [] w) (a₁ : Mem s → Act)
    (hassign : ∀ (l : Nat) (x : Mem s) (W : World) (K : Act → World → Prop), K (a₁ x) W →
      assign.wpIn ((F.inRound l₀).inRound l) (n - 1 - 1) Try.prog (Exit.then K (fun _ _ _ => False)) { tmps := (ps.zip #[.int .i64 x.1]).foldl (fun t (p, v) => t.setIfInBounds p v) a.tmps, defers := [] } W)
    (hbody : ∀ (l : Nat) (pre : List (Mem s)) (x : Mem s) (W : World), I pre W → pre.length < 16 → body.wpIn ((F.inRound l₀).inRound l) (n - 1 - 1) Try.prog (ownPostG w.heap.size (KeepB B) I (fun _ _ _ => False) (pre ++ [x]) W) (a₁ x) W)
    (hdone : ∀ (xs : List (Mem s)) (W : World), vals xs = ms s → I xs W → Q .normal a W) :
    (Code.rangeFunc g ps assign body).wpIn (F.inRound l₀) n Try.prog Q a w := by
  obtain ⟨r, hr⟩ := hl₀
  exact wpIn_rangeFunc_ownN (F := F.inRound l₀) (Kp := KeepB B) (w0 := w) rfl hr h1 hg ((hO.inRound l₀).fn 70) (enters_of Try.func70 (by kernel_rfl) rfl) ((members_stops F hO hro (n - 1) B s hs w hB).inRound l₀) (fun h k => k.trans h)
    (fun W l o o' hl _ _ _ => World.putObj_heap_other (by have := hB.lt; omega)) (Below.refl _ _) (fun _ => by rw [hps]; rfl) I (fun _ _ _ => False) hI (fun _ _ _ _ _ h _ _ => h) h0 (fun x a' _ => a' = a₁ x) (fun _ _ _ _ _ _ hs _ _ => hs)
    (fun l pre x W K hi hK => hassign l x W K (hK _ _ (KeepsFrom.refl _ _) rfl hi rfl)) (fun l pre x a' W _ _ hi e => by subst e; exact hbody l pre x W hi) hdone (fun _ _ _ _ h => h.elim)
end Go.Proofs.Ytmfpegadcecknaa
