/- The rows of a search. -/
import Derived.Sort.LoopGhostIn
import Derived.Test.YtmfpegadcecknaaW
namespace Go.Proofs.Ytmfpegadcecknaa
open Go.RowKit Go.Shelf
set_option maxHeartbeats 400000
/-- The boxes of a search, in W; w is the world in which it began. -/
structure WR (w : World) (g f : Nat) (lim : Int) (wy : Value) (R : Nat) (bs : List Nat) (v : Value) (W : World) : Prop where
  fr : Fr (fun _ => False) w W
  r0 : Row W w.heap.size 78 [.pointer (some ⟨g, 0, none⟩)]
  r1 : Row W (w.heap.size + 1) 3 [.int .i64 f]
  r2 : Row W (w.heap.size + 1 + 1) 3 [.int .i64 lim]
  r3 : Row W (w.heap.size + 1 + 1 + 1) 93 (intv bs)
  r4 : Row W (w.heap.size + 1 + 1 + 1 + 1) 24 [wy]
  r5 : Row W (w.heap.size + 1 + 1 + 1 + 1 + 1) 72 [.int .u32 R]
  r7 : Row W (w.heap.size + 1 + 1 + 1 + 1 + 1 + 1 + 1) 24 [v]
variable {w W W' : World} {g f R : Nat} {lim : Int} {wy v : Value} {bs : List Nat}
theorem WR.below (h : WR w g f lim wy R bs v W) (hb : Below W.heap.size W W') : WR w g f lim wy R bs v W' :=
  ⟨h.fr.trans (Fr.of_below hb), h.r0.below hb, h.r1.below hb, h.r2.below hb, h.r3.below hb, h.r4.below hb, h.r5.below hb, h.r7.below hb⟩
theorem WR.drewN (h : WR w g f lim wy R bs v W) (n : Nat) : WR w g f lim wy R bs v (W.drewN n) := h.below (below_drewN n)
theorem WR.alloc (h : WR w g f lim wy R bs v W) (o : Obj) : WR w g f lim wy R bs v (W.alloc o) := h.below ((Below.refl _ _).alloc (Nat.le_refl _) o)
theorem WR.setFar (h : WR w g f lim wy R bs v W) {p : Addr} (hp : w.heap.size + 8 ≤ p.block) (u : Value) : WR w g f lim wy R bs v (W.setCell p u) :=
  ⟨h.fr.setCell (.inr (by omega)) u, h.r0.far (by omega) u, h.r1.far (by omega) u, h.r2.far (by omega) u, h.r3.far (by omega) u, h.r4.far (by omega) u, h.r5.far (by omega) u, h.r7.far (by omega) u⟩
theorem WR.setR (h : WR w g f lim wy R bs v W) (R' : Nat) : WR w g f lim wy R' bs v (W.setCell ⟨w.heap.size + 1 + 1 + 1 + 1 + 1, 0, none⟩ (.int .u32 R')) :=
  ⟨h.fr.setCell (.inr (by simp; omega)) _, h.r0.far (by dsimp only; omega) _, h.r1.far (by dsimp only; omega) _, h.r2.far (by dsimp only; omega) _, h.r3.far (by dsimp only; omega) _, h.r4.far (by dsimp only; omega) _, h.r5.set 0 _, h.r7.far (by dsimp only; omega) _⟩
theorem intv_set {bs : List Nat} {i x : Nat} : (intv bs).set i (.int .i64 x) = intv (bs.set i x) := by unfold intv; rw [List.map_set]
theorem WR.setB (h : WR w g f lim wy R bs v W) (i x : Nat) : WR w g f lim wy R (bs.set i x) v (W.setCell ⟨w.heap.size + 1 + 1 + 1, i, none⟩ (.int .i64 x)) :=
  ⟨h.fr.setCell (.inr (by simp; omega)) _, h.r0.far (by dsimp only; omega) _, h.r1.far (by dsimp only; omega) _, h.r2.far (by dsimp only; omega) _, by have := h.r3.set i (.int .i64 x); rw [intv_set] at this; exact this, h.r4.far (by dsimp only; omega) _, h.r5.far (by dsimp only; omega) _, h.r7.far (by dsimp only; omega) _⟩
theorem WR.setW (h : WR w g f lim wy R bs v W) (wy' : Value) : WR w g f lim wy' R bs v (W.setCell ⟨w.heap.size + 1 + 1 + 1 + 1, 0, none⟩ wy') :=
  ⟨h.fr.setCell (.inr (by simp; omega)) _, h.r0.far (by dsimp only; omega) _, h.r1.far (by dsimp only; omega) _, h.r2.far (by dsimp only; omega) _, h.r3.far (by dsimp only; omega) _, h.r4.set 0 _, h.r5.far (by dsimp only; omega) _, h.r7.far (by dsimp only; omega) _⟩
theorem WR.setQ (h : WR w g f lim wy R bs v W) (v' : Value) : WR w g f lim wy R bs v' (W.setCell ⟨w.heap.size + 1 + 1 + 1 + 1 + 1 + 1 + 1, 0, none⟩ v') :=
  ⟨h.fr.setCell (.inr (by simp; omega)) _, h.r0.far (by dsimp only; omega) _, h.r1.far (by dsimp only; omega) _, h.r2.far (by dsimp only; omega) _, h.r3.far (by dsimp only; omega) _, h.r4.far (by dsimp only; omega) _, h.r5.far (by dsimp only; omega) _, h.r7.set 0 _⟩
theorem WR.lt (h : WR w g f lim wy R bs v W) : w.heap.size + 8 ≤ W.heap.size := h.r7.lt
theorem Fr.qg {x y : Value} (h : Fr (fun _ => False) w W) (q : QG (w.heap.size + 1 + 1 + 1 + 1 + 1 + 1) x W y W') : Fr (fun _ => False) w W' := by
  obtain ⟨⟨r, hg, hk⟩, _⟩ := q
  exact ⟨hg.os.trans h.os, hg.tape.trans h.tape, hg.output.trans h.output, Nat.le_trans h.size hg.size, fun k hk' hx => (hg.block k (Nat.lt_of_lt_of_le hk' h.size) (fun e => by have := (hk k e.symm).1; omega)).trans (h.block k hk' hx)⟩
theorem WR.grow (h : WR w g f lim wy R bs v W) {x y : Value} (q : QG (w.heap.size + 1 + 1 + 1 + 1 + 1 + 1) x W y W') : WR w g f lim wy R bs v W' :=
  ⟨h.fr.qg q, q.far h.r0 (.inr (.inl (by omega))), q.far h.r1 (.inr (.inl (by omega))), q.far h.r2 (.inr (.inl (by omega))), q.far h.r3 (.inr (.inl (by omega))), q.far h.r4 (.inr (.inl (by omega))), q.far h.r5 (.inr (.inl (by omega))), q.far h.r7 (.inl (by decide))⟩
theorem ownFrom_wr {β : Type} {Bd : Nat} (hB : w.heap.size ≤ Bd) : OwnFrom Bd (fun (_ : β) W => WR w g f lim wy R bs v W) := fun s A B row h hg hr =>
  have k {t : TypeId} {c : Nat} {cs : List Value} (r : Row A c t cs) : Row B c t cs := ownFrom_row (g := c) (t := t) (f := fun _ : β => cs) s A B row r hg hr
  ⟨ownFrom_fr hB s A B row h.fr hg hr, k h.r0, k h.r1, k h.r2, k h.r3, k h.r4, k h.r5, k h.r7⟩
theorem ownFrom_owns {β : Type} {Bd b n : Nat} {e : TypeId} {z : Nat} {x : Value} {xs : List Value} : OwnFrom Bd (fun (_ : β) W => W.ownsRow b e z x n xs) := fun _ A B row h hg hr => by
  refine ⟨h.1, ?_⟩
  rcases h.2 with hn | ⟨g, cap, cur, rfl, hbg, hgg, rest⟩
  · exact .inl hn
  · exact .inr ⟨g, cap, cur, rfl, hbg, (hg.block g (Array.getElem?_eq_some_iff.1 hgg).1 (fun e => by obtain ⟨_, o, ho, hc⟩ := hr g e.symm; rw [hgg] at ho; cases ho; cases hc)).trans hgg, rest⟩
end Go.Proofs.Ytmfpegadcecknaa
