/- The fewest cuts. -/
import Derived.Test.YtopeppnajbnfgaaFO
namespace Go.Proofs.Ytopeppnajbnfgaa
open Go.RowKit Go.Shelf
attribute [local go_sem] Oper.semAt_some
set_option maxHeartbeats 1000000
set_option maxRecDepth 100000
theorem lists_any (f n M : Int) (w : World) : Calls Try.prog 49 #[.int .i64 f, .int .i64 n, .int .i64 M] w fun e w' => e = .returned (.func (.func 57) #[] #[.pointer (some ⟨w.heap.size + 1 + 1, 0, none⟩), .pointer (some ⟨w.heap.size, 0, none⟩), .pointer (some ⟨w.heap.size + 1, 0, none⟩)]) ∧ ((w.alloc (.cells #[.int .i64 f] 3)).alloc (.cells #[.int .i64 n] 3)).alloc (.cells #[.int .i64 M] 3) = w' := by
  go_enter Try.func49, Try.ntmps49
  go_wp2
  go_ret
  exact ⟨rfl, rfl⟩
/-- A loop over the lists of positions. -/
theorem range_lists {n : Nat} (h1 : 1 ≤ n) {g : Operand} {p : Tmp} {assign body : Code} {Q : Exit → Act → World → Prop} {a : Act} {w : World}
    (G f m M : Nat) (hf : f ≤ 1) (hm : m ≤ 1000) (hM : M ≤ 1000) (r0 : Row w G 3 [.int .i64 f]) (r1 : Row w (G + 1) 3 [.int .i64 m]) (r2 : Row w (G + 1 + 1) 3 [.int .i64 M])
    (hg : a.eval g = .func (.func 57) #[] #[.pointer (some ⟨G + 1 + 1, 0, none⟩), .pointer (some ⟨G, 0, none⟩), .pointer (some ⟨G + 1, 0, none⟩)])
    (I : List (List Int) → World → Prop) (Ix : Code → List (List Int) → World → Prop) (hI : AbAll w.heap.size I) (hIx : ∀ c, OwnFrom w.heap.size (Ix c)) (h0 : I [] w) (a₁ : Nat → List Int → Act)
    (hassign : ∀ (l B : Nat) (x : List Int) (W : World) (K : Act → World → Prop), K (a₁ B x) W →
      assign.wpIn (Fence.wide.inRound l) (n - 1 - 1) Try.prog (Exit.then K (fun _ _ _ => False)) { tmps := (#[p].zip #[Value.slice (some ⟨B, 0, none⟩) M M]).foldl (fun t (p, v) => t.setIfInBounds p v) a.tmps, defers := [] } W)
    (hbody : ∀ (l B : Nat) (pre : List (List Int)) (x : List Int) (W : World), w.heap.size + 2 ≤ B → I pre W → (x.length = M ∧ Row W B 3 (iv x) ∧ ∀ y ∈ x, 0 ≤ y ∧ y < (m : Int)) → body.wpIn (Fence.wide.inRound l) (n - 1 - 1) Try.prog (ownPostW w.heap.size (Box3 G) I Ix (pre ++ [x]) W) (a₁ B x) W)
    (hdone : ∀ (D : Nat) (W : World), w.heap.size ≤ D → I (exts m M [] f) W → W.heap[D]? = some (.deferred (some [])) → Q .normal { a with defers := { target := .collected D, args := #[] } :: a.defers } W)
    (hstop : ∀ (D : Nat) (c : Code) (pre : List (List Int)) (W : World), w.heap.size ≤ D → pre <+: exts m M [] f → Ix c pre W → W.heap[D]? = some (.deferred (some [])) → c.wpIn Fence.wide n Try.prog Q { a with defers := { target := .collected D, args := #[] } :: a.defers } W) :
    (Code.rangeFunc g #[p] assign body).wpIn Fence.wide n Try.prog Q a w :=
  wpIn_rangeFunc_writes (F := Fence.wide) rfl h1 hg (Open.wide.fn 57) (enters_of Try.func57 (by kernel_rfl) rfl) (lists_seq (n - 1) G f m M hf hm hM w r0 r1 r2)
    (fun k hk => by rcases hk with rfl | rfl | rfl; exact r0.lt; exact r1.lt; exact r2.lt)
    (fun B x W W' h k => ⟨h.1, k.row h.2.1 (.inl (Nat.le_refl _)), h.2.2⟩) I Ix hI hIx h0 a₁ hassign hbody (fun D xs W hD hx hi hk => by subst hx; exact hdone D W hD hi hk) hstop
end Go.Proofs.Ytopeppnajbnfgaa
