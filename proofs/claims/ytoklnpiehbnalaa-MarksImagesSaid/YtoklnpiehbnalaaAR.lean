/- Square-free words, visited in their order. -/
import Derived.Test.YtoklnpiehbnalaaAQ
namespace Go.Proofs.Ytoklnpiehbnalaa
open Go.RowKit Go.Shelf Go.PlainAid
attribute [local go_sem] Oper.semAt_some
set_option maxHeartbeats 2000000
set_option maxRecDepth 100000
def Box2 (g : Nat) : Nat → Prop := fun i => i = g ∨ i = g + 1
theorem words_seq (m g n k : Nat) (hn : n ≤ 1000) (hk : k ≤ 4) (w : World) (r0 : Row w g 3 [.int .i64 n]) (r1 : Row w (g + 1) 3 [.int .i64 k]) :
    SeqW (α := List Nat) Fence.wide m Try.prog 73 #[.pointer (some ⟨g, 0, none⟩), .pointer (some ⟨g + 1, 0, none⟩)] (fun _ x => .string (wS x))
      (fun _ x _ => x.length = n ∧ letW k x) (Box2 g) (fun xs => xs = exts k n []) (fun pre => pre <+: exts k n []) w := by
  intro l J Jx W hW hJ hY h0
  have q0 : Row W g 3 [.int .i64 n] := (hW.block _ r0.lt).trans r0
  have q1 : Row W (g + 1) 3 [.int .i64 k] := (hW.block _ r1.lt).trans r1
  have hg2 : g + 1 < W.heap.size := q1.lt
  have hO : Open Fence.wide := Open.wide
  have hF := hO.fn
  have hd := hO.depth
  have F73 := hF 73
  have hro : Fence.wide.round = none := rfl
  refine callsIn_of_wp Try.func73 rfl F73 ?_ hro
  simp only [Try.ntmps73, List.size_toArray, List.length_cons, List.length_nil, Nat.reduceAdd, Nat.reduceSub, Array.replicate_succ, Array.replicate_zero, List.push_toArray, List.append_toArray, List.nil_append, List.cons_append]
  gi_wp2
  obtain ⟨V, hV⟩ : ∃ V, (W.alloc (.cells #[.func (.yield l) #[] #[]] 29)).alloc (.cells #[.func (.func 74) #[] #[.pointer (some ⟨g, 0, none⟩), .pointer (some ⟨W.heap.size, 0, none⟩), .pointer (some ⟨g + 1, 0, none⟩), .pointer (some ⟨W.heap.size + 1, 0, none⟩)]] 29) = V := ⟨_, rfl⟩
  have p0 : Row V W.heap.size 29 [.func (.yield l) #[] #[]] := by rw [← hV]; exact ((row_new rfl : Row (W.alloc (.cells #[.func (.yield l) #[] #[]] 29)) W.heap.size 29 [.func (.yield l) #[] #[]]).alloc _)
  have p1 : Row V (W.heap.size + 1) 29 [.func (.func 74) #[] #[.pointer (some ⟨g, 0, none⟩), .pointer (some ⟨W.heap.size, 0, none⟩), .pointer (some ⟨g + 1, 0, none⟩), .pointer (some ⟨W.heap.size + 1, 0, none⟩)]] := by
    rw [← hV]
    exact row_new (by simp)
  have bV : Below W.heap.size W V := by rw [← hV]; exact ((Below.refl _ W).alloc (Nat.le_refl _) _).alloc (by simp) _
  have hj : J [] V := by
    rw [← hV]
    exact hJ.alloc _ (hJ.alloc _ h0)
  have hE : Env l g W.heap.size (g + 1) (W.heap.size + 1) n k V := ⟨(bV.block _ q0.lt).trans q0, p0, (bV.block _ q1.lt).trans q1, p1⟩
  have hsz : W.heap.size ≤ V.heap.size := bV.size
  have HX := extend_any Fence.wide hO hro l n k g W.heap.size (g + 1) (W.heap.size + 1) W.heap.size (m - 1) (Box2 g) hn hk (.inr (.inl rfl)) (.inl (Nat.le_refl _)) (.inr (.inr rfl)) (.inl (by omega)) J Jx hJ
    (fun pre x W1 hj hx => hY pre x W1 hj hx) n (m - 1) [] [] V (by simp) (fun b hb => by cases hb) hj hE hsz (fun i hi => by rcases hi with rfl | rfl <;> omega)
  rw [List.nil_append] at HX
  rw [hV]
  refine HX.mono ?_
  rintro e W4 ⟨hk4, (⟨rfl, hj4⟩ | ⟨rfl, ys, hys, hjx⟩)⟩
  · gi_wp2
    go_end0
    exact ⟨⟨_, rfl⟩, .inl ⟨_, rfl, hj4⟩⟩
  · gi_wp2
    go_end0
    exact ⟨⟨_, rfl⟩, .inr ⟨ys, hys, by rw [List.nil_append] at hjx; exact hjx⟩⟩
theorem squareFree_any (n k : Int) (w : World) : Calls Try.prog 65 #[.int .i64 n, .int .i64 k] w fun e w' => e = .returned (.func (.func 73) #[] #[.pointer (some ⟨w.heap.size, 0, none⟩), .pointer (some ⟨w.heap.size + 1, 0, none⟩)]) ∧ (w.alloc (.cells #[.int .i64 n] 3)).alloc (.cells #[.int .i64 k] 3) = w' := by
  go_enter Try.func65, Try.ntmps65
  go_wp2
  go_ret
  exact ⟨rfl, rfl⟩
/-- A loop over the square-free words. -/
theorem range_words {m : Nat} (h1 : 1 ≤ m) {g : Operand} {ps : Array Tmp} {assign body : Code} {Q : Exit → Act → World → Prop} {a : Act} {w : World}
    (G n k : Nat) (hn : n ≤ 1000) (hk : k ≤ 4) (r0 : Row w G 3 [.int .i64 n]) (r1 : Row w (G + 1) 3 [.int .i64 k]) (p : Tmp) (hps : ps = #[p])
    (hg : a.eval g = .func (.func 73) #[] #[.pointer (some ⟨G, 0, none⟩), .pointer (some ⟨G + 1, 0, none⟩)])
    (I : List (List Nat) → World → Prop) (Ix : Code → List (List Nat) → World → Prop) (hI : AbAll w.heap.size I) (hIx : ∀ c, OwnFrom w.heap.size (Ix c)) (h0 : I [] w) (a₁ : Nat → List Nat → Act)
    (hassign : ∀ (l B : Nat) (x : List Nat) (W : World) (K : Act → World → Prop), K (a₁ B x) W →
      assign.wpIn (Fence.wide.inRound l) (m - 1 - 1) Try.prog (Exit.then K (fun _ _ _ => False)) { tmps := (ps.zip #[Value.string (wS x)]).foldl (fun t (p, v) => t.setIfInBounds p v) a.tmps, defers := [] } W)
    (hbody : ∀ (l B : Nat) (pre : List (List Nat)) (x : List Nat) (W : World), w.heap.size + 2 ≤ B → I pre W → (x.length = n ∧ letW k x) → body.wpIn (Fence.wide.inRound l) (m - 1 - 1) Try.prog (ownPostW w.heap.size (Box2 G) I Ix (pre ++ [x]) W) (a₁ B x) W)
    (hdone : ∀ (D : Nat) (W : World), w.heap.size ≤ D → I (exts k n []) W → W.heap[D]? = some (.deferred (some [])) → Q .normal { a with defers := { target := .collected D, args := #[] } :: a.defers } W)
    (hstop : ∀ (D : Nat) (c : Code) (pre : List (List Nat)) (W : World), w.heap.size ≤ D → pre <+: exts k n [] → Ix c pre W → W.heap[D]? = some (.deferred (some [])) → c.wpIn Fence.wide m Try.prog Q { a with defers := { target := .collected D, args := #[] } :: a.defers } W) :
    (Code.rangeFunc g ps assign body).wpIn Fence.wide m Try.prog Q a w := by
  subst hps
  exact wpIn_rangeFunc_writes (F := Fence.wide) rfl h1 hg (Open.wide.fn 73) (enters_of Try.func73 (by kernel_rfl) rfl) (words_seq (m - 1) G n k hn hk w r0 r1)
    (fun i hi => by rcases hi with rfl | rfl; exact r0.lt; exact r1.lt)
    (fun B x W W' h _ => h) I Ix hI hIx h0 a₁ hassign hbody (fun D xs W hD hx hi hk => by subst hx; exact hdone D W hD hi hk) hstop
end Go.Proofs.Ytoklnpiehbnalaa
