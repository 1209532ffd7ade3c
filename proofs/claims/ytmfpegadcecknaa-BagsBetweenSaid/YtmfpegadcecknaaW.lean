/- What stays while a search goes on. -/
import Derived.Deep.MidRow
import Derived.Scope
import Derived.WalkMore
import Derived.Test.YtmfpegadcecknaaV
namespace Go.Proofs.Ytmfpegadcecknaa
open Go.RowKit Go.Shelf
set_option maxHeartbeats 400000
def Dfs (Ds : List Nat) (W : World) : Prop := ∀ D ∈ Ds, W.heap[D]? = some (.deferred (some []))
theorem Dfs.keep {Ds : List Nat} {W W' : World} (h : Dfs Ds W) (k : KeepsFrom 0 W W') : Dfs Ds W' := fun D hD => k.same D _ (Nat.zero_le _) (h D hD) rfl
theorem KeepsFrom.up {B : Nat} {W W' : World} (k : KeepsFrom 0 W W') : KeepsFrom B W W' := ⟨k.size, fun i o _ hi ho => k.same i o (Nat.zero_le _) hi ho⟩
theorem QG.keep {B : Nat} {v v' : Value} {W W' : World} (h : QG B v W v' W') : KeepsFrom 0 W W' := by
  obtain ⟨⟨r, hg, hr⟩, _⟩ := h
  refine ⟨hg.size, fun k o _ hk ho => (hg.block k (Array.getElem?_eq_some_iff.1 hk).1 (fun e => ?_)).trans hk⟩
  obtain ⟨_, _, cs, hc⟩ := hr k e.symm
  rw [hc] at hk; cases hk; cases ho
theorem QG.far {B g : Nat} {v v' : Value} {W W' : World} {t : TypeId} {cs : List Value} (h : QG B v W v' W') (hr : Row W g t cs) (ht : t ≠ 3 ∨ g < B ∨ qblk v ≠ some g) : Row W' g t cs := by
  obtain ⟨⟨r, hg, hk⟩, _⟩ := h
  refine hr.grown hg (fun e => ?_)
  obtain ⟨h1, h2, cs', hc⟩ := hk g e.symm
  rcases ht with ht | ht | ht
  · unfold Row at hr
    rw [hr] at hc; injection hc with hc; injection hc with _ h4; exact ht h4
  · omega
  · exact ht h2
theorem QG.under {B n : Nat} {v v' : Value} {W W' w : World} (h : QG B v W v' W') (hb : Below n w W) (hn : n ≤ B) (hw : n ≤ W.heap.size) : Below n w W' := by
  obtain ⟨⟨r, hg, hk⟩, _⟩ := h
  exact hb.grown hg hw (fun g e => by have := (hk g e).1; omega)
theorem QG.ne {B g : Nat} {v v' : Value} {W W' : World} (h : QG B v W v' W') (hv : qblk v ≠ some g) (hg : g < W.heap.size) : qblk v' ≠ some g := by
  rcases h.blk with e | e
  · rw [e]; exact hv
  · intro e2; have := e g e2; omega
theorem Que.blk_lt {w : World} {B : Nat} {v : Value} {xs : List Nat} (h : Que w B v xs) : qblk v ≠ some w.heap.size := by
  obtain ⟨b, off, cap, cur, rfl, _, _, _, h5, _⟩ := h
  intro e; simp [qblk] at e
  have := (Array.getElem?_eq_some_iff.1 h5).1; omega
theorem ownFrom_dfs {β : Type} {Ds : List Nat} {Bd : Nat} (h : ∀ D ∈ Ds, D < Bd) : OwnFrom Bd (fun (_ : β) W => Dfs Ds W) := fun _ A B row hs hg hr D hD => by
  have h1 := hs D hD
  exact (hg.block D (Array.getElem?_eq_some_iff.1 h1).1 (fun e => by have := (hr D e.symm).1; have := h D hD; omega)).trans h1
theorem ownFrom_ex {β γ : Type} {J : γ → β → World → Prop} {Bd : Nat} (h : ∀ x, OwnFrom Bd (J x)) : OwnFrom Bd (fun s W => ∃ x, J x s W) := fun s A B row ⟨x, hs⟩ hg hr => ⟨x, h x s A B row hs hg hr⟩
theorem ownFrom_pure {β : Type} {p : β → Prop} {Bd : Nat} : OwnFrom Bd (fun s _ => p s) := fun _ _ _ _ hs _ _ => hs
theorem Que.same {w w' : World} {B : Nat} {v : Value} {xs : List Nat} (h : Que w B v xs) (hk : ∀ k, B ≤ k → k < w.heap.size → (∃ cs, w.heap[k]? = some (.cells cs 3 (0, 0))) → w'.heap[k]? = w.heap[k]?) : Que w' B v xs := by
  obtain ⟨b, off, cap, cur, h1, h2, h3, h4, h5, h6⟩ := h
  exact ⟨b, off, cap, cur, h1, h2, h3, h4, (hk b h4 (Array.getElem?_eq_some_iff.1 h5).1 ⟨_, h5⟩).trans h5, h6⟩
theorem ownFrom_que {β : Type} {B Bd : Nat} {v : Value} {xs : List Nat} : OwnFrom Bd (fun (_ : β) W => Que W B v xs) := fun _ A C row hs hg hr => hs.same (fun k _ hk ⟨cs, hc⟩ => hg.block k hk (fun e => by
  obtain ⟨_, o, ho, hcl⟩ := hr k e.symm
  rw [hc] at ho; cases ho; cases hcl))
theorem Que.below {w w' : World} {B : Nat} {v : Value} {xs : List Nat} (h : Que w B v xs) (hb : Below w.heap.size w w') : Que w' B v xs := h.same (fun k _ hk _ => hb.block k hk)
theorem Que.drewN {w : World} {B : Nat} {v : Value} {xs : List Nat} (h : Que w B v xs) (n : Nat) : Que (w.drewN n) B v xs := h
theorem Que.alloc {w : World} {B : Nat} {v : Value} {xs : List Nat} (h : Que w B v xs) (o : Obj) : Que (w.alloc o) B v xs := h.same (fun k _ hk _ => Below.heap_alloc w o k hk)
theorem Que.set {w : World} {B : Nat} {v : Value} {xs : List Nat} (h : Que w B v xs) {p : Addr} (hp : p.block < B) (u : Value) : Que (w.setCell p u) B v xs := h.same (fun k hk _ _ => Below.heap_setCell w p u k (by omega))
theorem Que.set_row {w : World} {B g : Nat} {t : TypeId} {cs : List Value} {v : Value} {xs : List Nat} (h : Que w B v xs) {o : Nat} (hr : Row w g t cs) (ht : t ≠ 3) (u : Value) : Que (w.setCell ⟨g, o, none⟩ u) B v xs := h.same (fun k _ _ ⟨cs', hc⟩ => Below.heap_setCell w _ u k (fun e => by
  subst e; unfold Row at hr; rw [hr] at hc; injection hc with hc; injection hc with _ h4; exact ht h4))
theorem Que.head {w : World} {B x : Nat} {v : Value} {xs : List Nat} (h : Que w B v (x :: xs)) : ∃ b off cap, v = .slice (some ⟨b, off, none⟩) (xs.length + 1) (cap + 1) ∧ w.cell? ⟨b, off, none⟩ = some (.int .i64 x) ∧ Que w B (.slice (some ⟨b, off + 1, none⟩) xs.length cap) xs ∧ xs.length ≤ cap ∧ cap + 1 ≤ maxLen := by
  obtain ⟨b, off, cap, cur, h1, h2, h3, h4, h5, h6, h7⟩ := h
  simp only [List.length_cons] at h1 h2 h7
  obtain ⟨cap, rfl⟩ : ∃ c, cap = c + 1 := ⟨cap - 1, by omega⟩
  refine ⟨b, off, cap, h1, ?_, ⟨b, off + 1, cap, cur, rfl, by omega, by omega, h4, h5, by omega, fun j hj => ?_⟩, by omega, h3⟩
  · rw [cell_of_row w b _ _ _ _ h5]
    have := h7 0 (by omega)
    simpa [getn] using this
  · have := h7 (j + 1) (by omega)
    rw [show off + 1 + j = off + (j + 1) by omega, this]; simp [getn]
theorem Que.back {w : World} {B b off cap : Nat} {xs : List Nat} (h : Que w B (.slice (some ⟨b, off + 1, none⟩) xs.length cap) xs) (hc : cap = 0) : Que w B (.slice (some ⟨b, off, none⟩) xs.length 0) xs := by
  obtain ⟨b', off', cap', cur, h1, h2, h3, h4, h5, h6, h7⟩ := h
  injection h1 with h1 _ h8
  injection h1 with h1
  injection h1 with h9 h10
  subst h9; subst h8; subst hc
  exact ⟨b, off, 0, cur, rfl, h2, by omega, h4, h5, by omega, fun j hj => absurd hj (by omega)⟩
theorem Marks.keep {Ds : List Nat} {W W' : World} (h : Marks Ds W) (k : KeepsFrom 0 W W') : Marks Ds W' := ⟨h.1, Dfs.keep h.2 k⟩
theorem shut_own {Ds : List Nat} {w : World} (hm : Marks Ds w) {b n : Nat} {e : TypeId} {z : Nat} {v : Value} {xs : List Value} (h : w.ownsRow b e z v n xs) : (shut Ds w).ownsRow b e z v n xs := by
  induction Ds generalizing w with
  | nil => exact h
  | cons D Ds ih =>
    refine ih hm.tail ⟨h.1, ?_⟩
    rcases h.2 with hn | ⟨g, cap, cur, rfl, hbg, hgg, rest⟩
    · exact .inl hn
    · refine .inr ⟨g, cap, cur, rfl, hbg, (World.putObj_heap_other (fun e => ?_)).trans hgg, rest⟩
      have := hm.2 D (List.mem_cons_self ..)
      rw [← e, hgg] at this; cases this
theorem own_set {w : World} {b n : Nat} {e : TypeId} {z : Nat} {v : Value} {xs : List Value} (h : w.ownsRow b e z v n xs) {p : Addr} (hp : p.block < b) (u : Value) : (w.setCell p u).ownsRow b e z v n xs := by
  refine ⟨h.1, ?_⟩
  rcases h.2 with hn | ⟨g, cap, cur, rfl, hbg, hgg, rest⟩
  · exact .inl hn
  · exact .inr ⟨g, cap, cur, rfl, hbg, (Below.heap_setCell w p u g (by omega)).trans hgg, rest⟩
/-- A frame's slots, by their numbers. -/
def uF : List Value → Nat → Value
  | [], _ => undef
  | x :: _, 0 => x
  | _ :: l, k + 1 => uF l k
theorem wpListIn_load_mid {F : Fence} {n : Nat} {P : Program} {w : World} {ops : Array Oper} {rest : List Oper} {o : Oper} {a : Act} {Q : Exit → Act → World → Prop}
    (hg : o.guard = none) (ty : TypeId) (x : Operand) (hop : o.op = .load ty x) (b off : Nat) (hx : a.eval x = .pointer (some ⟨b, off, none⟩)) (cs : List Value) (d : TypeDesc) (hc : w.rangeAt b off cs)
    (hu : P.underlying ty = some d) (hd : d.isRow = true) (hi : (P.info? ty).map (·.size) = some cs.length) (h : wpListIn F n P ops Q rest (a.put o.dst (.agg cs.toArray)) w) : wpListIn F n P ops Q (o :: rest) a w := by
  refine wpListIn_plain hg fun K hK' => ?_
  unfold Oper.wpIn
  refine ⟨?_, ?_⟩
  · simp [Oper.about, hop]
  · rw [Oper.semAt_plain F _ _ (by rw [hop]; intro c hc'; cases hc')]
    simp [execOp, hop, hx, run_loadAt_mid w b off ty cs d hc hu hd hi, Result.andThen]
    exact hK' _ _ h
theorem Row.range {w : World} {g : Nat} {t : TypeId} {cs : List Value} (h : Row w g t cs) : w.rangeAt g 0 cs := fun j v hj => by rw [Nat.zero_add, h.cell]; exact hj
theorem info93k : (Try.prog.info? 93).map (·.size) = some 16 := by kernel_rfl
theorem info93 {bs : List Nat} (h : bs.length = 16) : (Try.prog.info? 93).map (·.size) = some (intv bs).length := by rw [info93k]; simp [intv, h]
/-! A scope inside a fence. -/
theorem wpIn_scope_straight {F : Fence} {n : Nat} {P : Program} {Q : Exit → Act → World → Prop} {a : Act} {w : World} {c : Code} (h : c.wpIn F n P (Exit.noGoto Q) a w) : (Code.scope c).wpIn F n P Q a w := by
  intro b k cs hro hb hr
  have h0 : (Go.lone (b.atR a (.code (.scope c) :: k)) cs w).fenced P F := fenced_calm hb hr rfl
  have h1 : step P (Go.lone (b.atR a (.code (.scope c) :: k)) cs w) = .next (Go.lone (b.atR a (.code c :: .inScope c :: k)) cs w) := step_lone_go (by simp [stepG, stepG.exec, Frame.atR])
  obtain ⟨e, a₁, w₁, hq, harr⟩ := h b (.inScope c :: k) cs hro hb hr
  cases e with
  | normal =>
    have h2 : step P (Go.lone (b.atR a₁ (.inScope c :: k)) cs w₁) = .next (Go.lone (b.atR a₁ k) cs w₁) := step_lone_go (by simp [stepG, stepG.exec, Frame.atR])
    exact ⟨.normal, a₁, w₁, hq, .head h0 h1 (StepsIn.trans harr (.one (fenced_calm hb hr rfl) h2))⟩
  | exit id =>
    have hx : exitTo id (.inScope c :: k) = exitTo id k := by simp [exitTo]
    exact ⟨.exit id, a₁, w₁, hq, fun k' hk => .head h0 h1 (harr.1 k' (by rw [hx]; exact hk)), fun hr' hk => let ⟨k₁, g1, g2⟩ := harr.2 hr' (by rw [hx]; exact hk); ⟨k₁, g1, .head h0 h1 g2⟩⟩
  | goto l => exact hq.elim
  | ret => exact ⟨_, a₁, w₁, hq, .of_steps (.one h0 h1) harr⟩
  | panic ch => exact ⟨_, a₁, w₁, hq, .of_steps (.one h0 h1) harr⟩
  | outgrown => exact ⟨_, a₁, w₁, hq, .of_steps (.one h0 h1) harr⟩
end Go.Proofs.Ytmfpegadcecknaa
