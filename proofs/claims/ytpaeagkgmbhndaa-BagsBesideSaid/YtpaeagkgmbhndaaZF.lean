/- Parts Y X AA AB AC AD of the proof, in this order. -/
import Derived.Sort.LoopGhostIn
import Derived.Test.YtpaeagkgmbhndaaZE
import Derived.Deep.MidRow
import Derived.Test.YtpaeagkgmbhndaaZD
/- The rows of a search. -/
namespace Go.Proofs.Ytpaeagkgmbhndaa
open Go.RowKit Go.Shelf
set_option maxHeartbeats 400000
/-- The boxes of a search, in W; w is the world in which it began. -/
structure WR (w : World) (g f : Nat) (lim : Int) (wy : Value) (R : Nat) (bs : List Nat) (v : Value) (W : World) : Prop where
  fr : Fr (fun _ => False) w W
  r0 : Row W w.heap.size 78 [.pointer (some ⟨g, 0, none⟩)]
  r1 : Row W (w.heap.size + 1) 3 [.int .i64 f]
  r2 : Row W (w.heap.size + 1 + 1) 3 [.int .i64 lim]
  r3 : Row W (w.heap.size + 1 + 1 + 1) 93 (intv bs)
  r4 : Row W (w.heap.size + 1 + 1 + 1 + 1) 24 [wy]
  r5 : Row W (w.heap.size + 1 + 1 + 1 + 1 + 1) 72 [.int .u32 R]
  r7 : Row W (w.heap.size + 1 + 1 + 1 + 1 + 1 + 1 + 1) 24 [v]
variable {w W W' : World} {g f R : Nat} {lim : Int} {wy v : Value} {bs : List Nat}
theorem WR.below (h : WR w g f lim wy R bs v W) (hb : Below W.heap.size W W') : WR w g f lim wy R bs v W' :=
  ⟨h.fr.trans (Fr.of_below hb), h.r0.below hb, h.r1.below hb, h.r2.below hb, h.r3.below hb, h.r4.below hb, h.r5.below hb, h.r7.below hb⟩
theorem WR.drewN (h : WR w g f lim wy R bs v W) (n : Nat) : WR w g f lim wy R bs v (W.drewN n) := h.below (below_drewN n)
theorem WR.alloc (h : WR w g f lim wy R bs v W) (o : Obj) : WR w g f lim wy R bs v (W.alloc o) := h.below ((Below.refl _ _).alloc (Nat.le_refl _) o)
theorem WR.setFar (h : WR w g f lim wy R bs v W) {p : Addr} (hp : w.heap.size + 8 ≤ p.block) (u : Value) : WR w g f lim wy R bs v (W.setCell p u) :=
  ⟨h.fr.setCell (.inr (by omega)) u, h.r0.far (by omega) u, h.r1.far (by omega) u, h.r2.far (by omega) u, h.r3.far (by omega) u, h.r4.far (by omega) u, h.r5.far (by omega) u, h.r7.far (by omega) u⟩
theorem WR.setR (h : WR w g f lim wy R bs v W) (R' : Nat) : WR w g f lim wy R' bs v (W.setCell ⟨w.heap.size + 1 + 1 + 1 + 1 + 1, 0, none⟩ (.int .u32 R')) :=
  ⟨h.fr.setCell (.inr (by simp; omega)) _, h.r0.far (by dsimp only; omega) _, h.r1.far (by dsimp only; omega) _, h.r2.far (by dsimp only; omega) _, h.r3.far (by dsimp only; omega) _, h.r4.far (by dsimp only; omega) _, h.r5.set 0 _, h.r7.far (by dsimp only; omega) _⟩
theorem intv_set {bs : List Nat} {i x : Nat} : (intv bs).set i (.int .i64 x) = intv (bs.set i x) := by unfold intv; rw [List.map_set]
theorem WR.setB (h : WR w g f lim wy R bs v W) (i x : Nat) : WR w g f lim wy R (bs.set i x) v (W.setCell ⟨w.heap.size + 1 + 1 + 1, i, none⟩ (.int .i64 x)) :=
  ⟨h.fr.setCell (.inr (by simp; omega)) _, h.r0.far (by dsimp only; omega) _, h.r1.far (by dsimp only; omega) _, h.r2.far (by dsimp only; omega) _, by have := h.r3.set i (.int .i64 x); rw [intv_set] at this; exact this, h.r4.far (by dsimp only; omega) _, h.r5.far (by dsimp only; omega) _, h.r7.far (by dsimp only; omega) _⟩
theorem WR.setW (h : WR w g f lim wy R bs v W) (wy' : Value) : WR w g f lim wy' R bs v (W.setCell ⟨w.heap.size + 1 + 1 + 1 + 1, 0, none⟩ wy') :=
  ⟨h.fr.setCell (.inr (by simp; omega)) _, h.r0.far (by dsimp only; omega) _, h.r1.far (by dsimp only; omega) _, h.r2.far (by dsimp only; omega) _, h.r3.far (by dsimp only; omega) _, h.r4.set 0 _, h.r5.far (by dsimp only; omega) _, h.r7.far (by dsimp only; omega) _⟩
theorem WR.setQ (h : WR w g f lim wy R bs v W) (v' : Value) : WR w g f lim wy R bs v' (W.setCell ⟨w.heap.size + 1 + 1 + 1 + 1 + 1 + 1 + 1, 0, none⟩ v') :=
  ⟨h.fr.setCell (.inr (by simp; omega)) _, h.r0.far (by dsimp only; omega) _, h.r1.far (by dsimp only; omega) _, h.r2.far (by dsimp only; omega) _, h.r3.far (by dsimp only; omega) _, h.r4.far (by dsimp only; omega) _, h.r5.far (by dsimp only; omega) _, h.r7.set 0 _⟩
theorem WR.lt (h : WR w g f lim wy R bs v W) : w.heap.size + 8 ≤ W.heap.size := h.r7.lt
theorem Fr.qg {x y : Value} (h : Fr (fun _ => False) w W) (q : QG (w.heap.size + 1 + 1 + 1 + 1 + 1 + 1) x W y W') : Fr (fun _ => False) w W' := by
  obtain ⟨⟨r, hg, hk⟩, _⟩ := q
  exact ⟨hg.os.trans h.os, hg.tape.trans h.tape, hg.output.trans h.output, Nat.le_trans h.size hg.size, fun k hk' hx => (hg.block k (Nat.lt_of_lt_of_le hk' h.size) (fun e => by have := (hk k e.symm).1; omega)).trans (h.block k hk' hx)⟩
theorem WR.grow (h : WR w g f lim wy R bs v W) {x y : Value} (q : QG (w.heap.size + 1 + 1 + 1 + 1 + 1 + 1) x W y W') : WR w g f lim wy R bs v W' :=
  ⟨h.fr.qg q, q.far h.r0 (.inr (.inl (by omega))), q.far h.r1 (.inr (.inl (by omega))), q.far h.r2 (.inr (.inl (by omega))), q.far h.r3 (.inr (.inl (by omega))), q.far h.r4 (.inr (.inl (by omega))), q.far h.r5 (.inr (.inl (by omega))), q.far h.r7 (.inl (by decide))⟩
theorem ownFrom_wr {β : Type} {Bd : Nat} (hB : w.heap.size ≤ Bd) : OwnFrom Bd (fun (_ : β) W => WR w g f lim wy R bs v W) := fun s A B row h hg hr =>
  have k {t : TypeId} {c : Nat} {cs : List Value} (r : Row A c t cs) : Row B c t cs := ownFrom_row (g := c) (t := t) (f := fun _ : β => cs) s A B row r hg hr
  ⟨ownFrom_fr hB s A B row h.fr hg hr, k h.r0, k h.r1, k h.r2, k h.r3, k h.r4, k h.r5, k h.r7⟩
theorem ownFrom_owns {β : Type} {Bd b n : Nat} {e : TypeId} {z : Nat} {x : Value} {xs : List Value} : OwnFrom Bd (fun (_ : β) W => W.ownsRow b e z x n xs) := fun _ A B row h hg hr => by
  refine ⟨h.1, ?_⟩
  rcases h.2 with hn | ⟨g, cap, cur, rfl, hbg, hgg, rest⟩
  · exact .inl hn
  · exact .inr ⟨g, cap, cur, rfl, hbg, (hg.block g (Array.getElem?_eq_some_iff.1 hgg).1 (fun e => by obtain ⟨_, o, ho, hc⟩ := hr g e.symm; rw [hgg] at ho; cases ho; cases hc)).trans hgg, rest⟩
end Go.Proofs.Ytpaeagkgmbhndaa
/- Searching a way: the walk. -/
namespace Go.Proofs.Ytpaeagkgmbhndaa
open Go.RowKit Go.Shelf
attribute [local go_sem] Oper.semAt_some
set_option maxHeartbeats 1000000
set_option maxRecDepth 100000
theorem wayOut_any (g m f : Nat) (gs : List Nat) (H : Nat → Nat → Int) (L : Nat → Int) (lim : Int) (w : World) (hg : Rows16 gs) (hdv : Div w g m gs H L) (hf : f < 16) :
    Calls Try.prog 64 #[.pointer (some ⟨g, 0, none⟩), .int .i64 f, .int .i64 lim] w fun e w' => ∃ (v : Value) (R : Nat) (ws : List Nat), e = .returned (.tuple #[v, .int .u32 R]) ∧ WayPost gs H L f lim R ws ∧ w'.ownsRow w.heap.size 3 1 v ws.length (intv ws) ∧ Below w.heap.size w w' := by
  have HW0 := Lib.hid (fun w => with_any 0 f w (by omega) (by omega))
  refine callsIn_wide.1 (?_ : CallsIn Fence.wide 9 _ _ _ _ _)
  generalize hFw : Fence.wide = F
  have hO : Open F := hFw ▸ Open.wide
  have hro : F.round = none := hFw ▸ rfl
  clear hFw
  have hF := hO.fn
  have hd := hO.depth
  have F64 := hF 64
  refine callsIn_of_wp_marks Try.func64 rfl F64 ?_ hro
  simp only [Try.ntmps64, List.size_toArray, List.length_cons, List.length_nil, Nat.reduceAdd, Nat.reduceSub, Array.replicate_succ, Array.replicate_zero, List.push_toArray, List.append_toArray, List.nil_append, List.cons_append]
  gi_wp2
  apply wpIn_scope_straight
  gi_wp2_with (gi_at_call 57; refine (hO.lift _ (HW0.out _)).mono ?_; rintro e w' ⟨rfl, rfl⟩)
  apply wpIn_label
  gi_wp2
  generalize hw1 : World.alloc _ _ = w1
  have hwr : WR w g f lim (.slice none 0 0) (sWith 0 f) (List.replicate 16 0) (.slice (some ⟨w.heap.size + 1 + 1 + 1 + 1 + 1 + 1, 0, none⟩) 1 1) w1 := by
    rw [← hw1]
    refine ⟨Fr.of_below ?_, ?_, ?_, ?_, ?_, ?_, ?_, ?_⟩
    · (repeat (first | exact Below.refl _ _ | assumption | (refine Below.setCell ?_ (by first | exact Nat.le_refl _ | omega | (simp; done) | (simp; omega)) _) | (refine Below.trans ?_ (below_drewN _)) | (refine Below.drew ?_) | (refine Below.alloc ?_ (by first | exact Nat.le_refl _ | omega | (simp; done) | (simp; omega)) _) | (refine below_row ?_ (by first | exact Nat.le_refl _ | omega | (simp; done) | (simp; omega)) _)))
    all_goals repeat (first | (refine row_new ?_; first | rfl | (simp; done)) | refine Row.alloc ?_ _)
  have hq : Que w1 (w.heap.size + 1 + 1 + 1 + 1 + 1 + 1) (.slice (some ⟨w.heap.size + 1 + 1 + 1 + 1 + 1 + 1, 0, none⟩) 1 1) [f] := by
    have : Row w1 (w.heap.size + 1 + 1 + 1 + 1 + 1 + 1) 3 [.int .i64 f] := by
      rw [← hw1]; repeat (first | (refine row_new ?_; first | rfl | (simp; done)) | refine Row.alloc ?_ _)
    refine ⟨_, 0, 1, _, rfl, by simp, by unfold maxLen; omega, Nat.le_refl _, this, by simp, fun j hj => ?_⟩
    have : j = 0 := by simpa using hj
    subst this; rfl
  clear hw1
  have hb0 : BfsI gs H L f lim (sWith 0 f) (List.replicate 16 0) [f] := BfsI.start gs H L lim hf (by simp) (fun i => by unfold getn; rw [List.getD_eq_getElem?_getD, List.getElem?_replicate]; split <;> simp)
  refine wpIn_loop_ghost (fun n a W => ∃ (u : Nat → Value) (Ds : List Nat) (R : Nat) (bs q : List Nat) (v : Value), a = { tmps := #[Value.pointer (some { block := g, off := 0 }), Value.int IntKind.i64 f, Value.int IntKind.i64 lim, Value.pointer (some { block := w.heap.size, off := 0 }), Value.pointer (some { block := w.heap.size + 1, off := 0 }), Value.pointer (some { block := w.heap.size + 1 + 1, off := 0 }), Value.slice none 0 0, Value.int IntKind.u32 0, Value.pointer (some { block := w.heap.size + 1 + 1 + 1, off := 0 }), Value.pointer (some { block := w.heap.size + 1 + 1 + 1 + 1, off := 0 }), Value.pointer (some { block := w.heap.size + 1 + 1 + 1 + 1 + 1, off := 0 }), Value.pointer (some { block := w.heap.size + 1 + 1 + 1 + 1 + 1 + 1 + 1, off := 0 }), u 12, u 13, Value.int IntKind.i64 f, Value.int IntKind.u32 (sWith 0 f : Nat), Value.int IntKind.i64 f, Value.slice (some { block := w.heap.size + 1 + 1 + 1 + 1 + 1 + 1, off := 0 }) 1 1, u 18, u 19, u 20, u 21, u 22, u 23, u 24, u 25, u 26, u 27, u 28, u 29, u 30, u 31, u 32, u 33, u 34, u 35, u 36, u 37, u 38, u 39, u 40, u 41, u 42, u 43, u 44, u 45, u 46, u 47, u 48, u 49, u 50, u 51, u 52, u 53, u 54, u 55, u 56, u 57, u 58, u 59, u 60, u 61, u 62, u 63, u 64, u 65, u 66, u 67, u 68, u 69], defers := Ds.map mark } ∧ n = 2 * (16 - pc 16 R) + q.length ∧ BfsI gs H L f lim R bs q ∧ WR w g f lim (.slice none 0 0) R bs v W ∧ Que W (w.heap.size + 1 + 1 + 1 + 1 + 1 + 1) v q ∧ Marks Ds W ∧ ∀ D ∈ Ds, w.heap.size ≤ D) _ ⟨fun _ => undef, [], _, _, _, _, rfl, rfl, hb0, hwr, hq, ⟨by simp, by simp⟩, by simp⟩ ?_
  rintro n a W ⟨u, Ds, R, bs, q, v, rfl, hn, hb, hw, hq, hm, hD⟩
  obtain ⟨c5, f5⟩ := hw.r5.cells1
  obtain ⟨c7, f7⟩ := hw.r7.cells1
  obtain ⟨c0, f0⟩ := hw.r0.cells1
  obtain ⟨c1, f1⟩ := hw.r1.cells1
  obtain ⟨c2, f2⟩ := hw.r2.cells1
  obtain ⟨c4, f4⟩ := hw.r4.cells1
  cases q with
  | nil =>
    obtain ⟨qb, off, cap, cur, rfl, -⟩ := hq
    simp only [List.length_nil] at c7 ⊢
    gi_wp2
    refine wpIn_region_quiet_all hO (by kernel_rfl) (by kernel_rfl) (by kernel_rfl) ?_
    repeat go_big_quiet_step ((fail))
    refine wpQuiet_nil ?_
    rintro _ ⟨nq, rfl⟩
    gi_wp2
    refine ret_marks Ds (w := W.drewN nq) hm (v := .tuple #[.slice none 0 0, .int .u32 R]) ?_ ⟨_, R, [], rfl, hb.post, ⟨rfl, .inl ⟨rfl, rfl⟩⟩, shut_below (hw.fr.below.trans (below_drewN nq)) hD⟩
    simp [results, Try.results64, go_sem]
  | cons at_ q =>
    obtain ⟨qb, off, cap, rfl, hc, hq', hqc, hqm⟩ := hq.head
    have hat := (hb.qm at_ (List.mem_cons_self ..)).1
    have hz := hw.lt
    have HZ := Lib.hid hz
    have l0 : w.heap.size < W.heap.size := by omega
    have l1 : w.heap.size + 1 < W.heap.size := by omega
    have l2 : w.heap.size + 1 + 1 < W.heap.size := by omega
    have l5 : w.heap.size + 1 + 1 + 1 + 1 + 1 < W.heap.size := by omega
    have l7 : w.heap.size + 1 + 1 + 1 + 1 + 1 + 1 + 1 < W.heap.size := by omega
    have hgl : g < w.heap.size := Row.lt hdv
    have HQ := Lib.hid hb
    have HN := Lib.hid hn
    gi_wp2
    all_goals
      first
        | (have hq2 : Que W (w.heap.size + 1 + 1 + 1 + 1 + 1 + 1) (.slice (some ⟨qb, off, none⟩) q.length 0) q := Que.back hq' (by omega)
           generalize Value.slice (some ⟨qb, off, none⟩) q.length 0 = vq at hq2 ⊢)
        | (have hq2 := hq'
           generalize Value.slice (some ⟨qb, off + 1, none⟩) q.length cap = vq at hq2 ⊢)
      have hw2 := (hw.setQ vq).alloc (.cells #[.int .i64 at_] 3)
      have hq3 := (hq2.set_row hw.r7 (by decide) vq (o := 0)).alloc (.cells #[.int .i64 at_] 3)
      have hA : Row ((W.setCell ⟨w.heap.size + 1 + 1 + 1 + 1 + 1 + 1 + 1, 0, none⟩ vq).alloc (.cells #[.int .i64 at_] 3)) W.heap.size 3 [.int .i64 at_] := row_new (by simp)
      have hbk := hq2.blk_lt
      have hm2 := hm.keep (((KeepsOthers.setCell W ⟨w.heap.size + 1 + 1 + 1 + 1 + 1 + 1 + 1, 0, none⟩ vq).trans (KeepsOthers.alloc _ (.cells #[.int .i64 at_] 3))).from 0)
      generalize World.alloc _ _ = w2 at *
      clear hq hq' hq2 hw hm c0 c1 c2 c4 c5 c7 f0 f1 f2 f4 f5 f7 hc l0 l1 l2 l5 l7 hz hn hb
      obtain ⟨c5, f5⟩ := hw2.r5.cells1
      obtain ⟨c0, f0⟩ := hw2.r0.cells1
      obtain ⟨c12, f12⟩ := hA.cells1
      have hdv2 : Div w2 g m gs H L := Row.fr hdv hw2.fr (by simp)
      have c16 := hdv2.near hg hat
      have hRl := HQ.out.tree.lt
      have hab := Lib.hid (andNot_bits (near gs at_) R (Nat.lt_trans (hg.lt _) (by omega)) (by omega))
      have hsl : sAndNot (near gs at_) R < 65536 := Nat.lt_of_le_of_lt Nat.and_le_left (hg.lt _)
      gi_wp2
      refine wpIn_region_quiet_tail hO 9 (by kernel_rfl) (by kernel_rfl) (by kernel_rfl) ?_
      simp only [List.take_succ_cons, List.take_zero, List.drop_succ_cons, List.drop_zero]
      repeat go_big_quiet_step ((fail))
      refine wpQuiet_nil ?_
      rintro _ ⟨nq, rfl⟩
      gi_wp2_with (gi_at_call 61; rw [hab.out]; refine (hO.lift _ (members_any _ _)).mono ?_; rintro e w' ⟨rfl, rfl⟩)
      have hs : sAndNot (near gs at_) R = sAndNot (near gs at_) R := rfl
      generalize hS : sAndNot (near gs at_) R = S at hsl ⊢
      have HS := Lib.hid hS
      have w3r : WR w g f lim (.slice none 0 0) R bs vq ((w2.drewN nq).alloc (.cells #[.int .u32 S] 72)) := (hw2.drewN nq).alloc _
      have w3q : Que ((w2.drewN nq).alloc (.cells #[.int .u32 S] 72)) (w.heap.size + 1 + 1 + 1 + 1 + 1 + 1) vq q := (hq3.drewN nq).alloc _
      have w3A : Row ((w2.drewN nq).alloc (.cells #[.int .u32 S] 72)) W.heap.size 3 [.int .i64 at_] := (hA.drewN nq).alloc _
      have w3B : Row ((w2.drewN nq).alloc (.cells #[.int .u32 S] 72)) w2.heap.size 72 [.int .u32 S] := row_new rfl
      have w3m : Marks Ds ((w2.drewN nq).alloc (.cells #[.int .u32 S] 72)) := hm2.keep ((keeps_drewN 0 _ nq).trans ((KeepsOthers.alloc _ _).from 0))
      have hzA := hw2.lt
      have hzW : W.heap.size < w2.heap.size := hA.lt
      have hzW0 := HZ.out
      generalize World.alloc _ _ = w3 at *
      clear hs hab hS hm2 hA hq3 hw2 hdv2 c0 c5 c12 c16 f0 f5 f12
      refine range_members hO hro (by omega) w2.heap.size S hsl w3B rfl rfl
        (fun pre W' => ∃ R1 bs1 v1 q1, Mid gs H L f lim at_ R q (vals pre) R1 bs1 q1 ∧ WR w g f lim (.slice none 0 0) R1 bs1 v1 W' ∧ Que W' (w.heap.size + 1 + 1 + 1 + 1 + 1 + 1) v1 q1 ∧ qblk v1 ≠ some W.heap.size ∧ Row W' W.heap.size 3 [.int .i64 at_] ∧ Row W' w2.heap.size 72 [.int .u32 S] ∧ Dfs Ds W')
        (fun c _ W' => c = .exit 0 ∧ ∃ R1 bs1 v1 wy ws, WayPost gs H L f lim R1 ws ∧ WR w g f lim wy R1 bs1 v1 W' ∧ W'.ownsRow w.heap.size 3 1 wy ws.length (intv ws) ∧ Dfs Ds W')
        ?_ ?_ ⟨R, bs, vq, q, HQ.out.mid, w3r, w3q, hbk, w3A, w3B, w3m.2⟩ ?_ ?_ ?_ ?_ ?_
      · refine ownFrom_ex fun R1 => ownFrom_ex fun bs1 => ownFrom_ex fun v1 => ownFrom_ex fun q1 => OwnFrom.and ownFrom_pure (OwnFrom.and (ownFrom_wr w3r.fr.size) (OwnFrom.and ownFrom_que (OwnFrom.and ownFrom_pure (OwnFrom.and ownFrom_row (OwnFrom.and ownFrom_row (ownFrom_dfs fun D hD' => ?_))))))
        exact (Array.getElem?_eq_some_iff.1 (w3m.2 D hD')).1
      · intro c
        refine OwnFrom.and ownFrom_pure (ownFrom_ex fun R1 => ownFrom_ex fun bs1 => ownFrom_ex fun v1 => ownFrom_ex fun wy => ownFrom_ex fun ws => OwnFrom.and ownFrom_pure (OwnFrom.and (ownFrom_wr w3r.fr.size) (OwnFrom.and ownFrom_owns (ownFrom_dfs fun D hD' => ?_))))
        exact (Array.getElem?_eq_some_iff.1 (w3m.2 D hD')).1
      rotate_left
      · intro l x W K hK
        gi_wp2
        exact hK
      · rintro l pre x W4 ⟨R1, bs1, v1, q1, hmid, hw4, hq4, hbk4, hA4, hB4, hdf4⟩ hlen
        have hxl := x.2.1
        have hxs : sHas (near gs at_) x.1 = true ∧ sHas R x.1 = false := by
          have h1 : sHas (sAndNot (near gs at_) R) x.1 = true := (congrArg (fun t => sHas t x.1) HS.out).trans x.2.2
          have h2 : sHas (sAndNot (near gs at_) R) x.1 = ((near gs at_).testBit x.1 && !R.testBit x.1) := andNot_bit _ _ _ (hg.lt at_) (Nat.lt_trans hRl (by omega))
          rw [h2] at h1
          simpa [sHas] using h1
        have hdv4 : Div W4 g m gs H L := Row.fr hdv hw4.fr (by simp)
        have d17 := hdv4.has hg hat hxl
        have Hs := Lib.hid (vals_snoc pre x)
        have HM := Lib.hid hmid
        have hq1l : q1.length ≤ 1000 := by
          rw [hmid.qeq, List.length_append]
          have h1 := List.length_filter_le (fun u => decide (H at_ u ≠ 0)) (vals pre)
          rw [vals_len] at h1
          have h2 := HQ.out.meas
          simp only [List.length_cons] at h2
          omega
        have HQL := Lib.hid hq1l
        have hR1 := hmid.tree.lt
        have HBL := Lib.hid hmid.tree.blen
        obtain ⟨c0, f0⟩ := hw4.r0.cells1
        obtain ⟨c12, f12⟩ := hA4.cells1
        generalize hx : x.1 = y at *
        clear hx hmid hq1l hdv4
        by_cases hz : H at_ y = 0
        · have hzb : (H at_ y == 0) = true := by simp [hz]
          gi_wp2
          refine wpIn_region_quiet_all (hO.inRound l) (by kernel_rfl) (by kernel_rfl) (by kernel_rfl) ?_
          repeat go_big_quiet_step ((fail))
          refine wpQuiet_nil ?_
          rintro _ ⟨nq, rfl⟩
          gi_wp2
          exact ⟨keeps_drewN _ _ _, keepB_row hB4 (hB4.drewN nq), R1, bs1, v1, q1, by rw [Hs.out]; exact HM.out.skip hz, hw4.drewN nq, hq4.drewN nq, hbk4, hA4.drewN nq, hB4.drewN nq, Dfs.keep hdf4 (keeps_drewN 0 _ nq)⟩
        · have hzb : (H at_ y == 0) = false := by simp [hz]
          have HC1 := Lib.hid (fun w => with_any R1 y w (by omega) (by omega))
          obtain ⟨c5, f5⟩ := hw4.r5.cells1
          have c3 : W4.cell? ⟨w.heap.size + 1 + 1 + 1, y, none⟩ = some (.int .i64 (getn bs1 y)) := intv_row hw4.r3 (by rw [HBL.out]; exact hxl)
          have f3 := hw4.r3.free y
          gi_wp2
          refine wpIn_region_quiet_all (hO.inRound l) (by kernel_rfl) (by kernel_rfl) (by kernel_rfl) ?_
          repeat go_big_quiet_step ((fail))
          refine wpQuiet_nil ?_
          rintro _ ⟨nq, rfl⟩
          gi_wp2_with (gi_at_call 57; refine ((hO.inRound l).lift _ (HC1.out _)).mono ?_; rintro e w' ⟨rfl, rfl⟩)
          have hwa := (hw4.drewN nq).setR (sWith R1 y)
          have hw5 := hwa.setB y at_
          have hq5 := ((hq4.drewN nq).set_row (hw4.drewN nq).r5 (by decide) (.int .u32 (sWith R1 y)) (o := 0)).set_row hwa.r3 (by decide) (.int .i64 at_) (o := y)
          have hA5 := ((hA4.drewN nq).far (p := ⟨w.heap.size + 1 + 1 + 1 + 1 + 1, 0, none⟩) (by dsimp only; omega) (.int .u32 (sWith R1 y))).far (p := ⟨w.heap.size + 1 + 1 + 1, y, none⟩) (by dsimp only; omega) (.int .i64 at_)
          have hB5 := ((hB4.drewN nq).far (p := ⟨w.heap.size + 1 + 1 + 1 + 1 + 1, 0, none⟩) (by dsimp only; omega) (.int .u32 (sWith R1 y))).far (p := ⟨w.heap.size + 1 + 1 + 1, y, none⟩) (by dsimp only; omega) (.int .i64 at_)
          have hk5 := (keeps_drewN 0 W4 nq).trans (((KeepsOthers.setCell (W4.drewN nq) ⟨w.heap.size + 1 + 1 + 1 + 1 + 1, 0, none⟩ (.int .u32 (sWith R1 y))).trans (KeepsOthers.setCell _ ⟨w.heap.size + 1 + 1 + 1, y, none⟩ (.int .i64 at_))).from 0)
          generalize World.setCell (World.setCell (World.drewN W4 nq) _ _) _ _ = W5 at *
          clear hwa c0 f0 c12 f12 c5 f5 c3 f3 d17
          have hdv5 : Div W5 g m gs H L := Row.fr hdv hw5.fr (by simp)
          have d273 := hdv5.load hg hxl
          obtain ⟨c0, f0⟩ := hw5.r0.cells1
          obtain ⟨c2, f2⟩ := hw5.r2.cells1
          have hz5 := hw5.lt
          clear hdv5
          cases g2 : decide (L y < lim)
          · have hge : lim ≤ L y := by have := of_decide_eq_false g2; omega
            have HM2 := Lib.hid (HM.out.add hxl hxs.1 hxs.2 hz hge)
            clear hge
            obtain ⟨c7, f7⟩ := hw5.r7.cells1
            obtain ⟨i0, hi, hz0, hz1, hz2⟩ := info_parts info3
            gi_wp2
            refine wpIn_region_quiet_all (hO.inRound l) (by kernel_rfl) (by kernel_rfl) (by kernel_rfl) ?_
            repeat go_big_quiet_step ((fail))
            refine wpQuiet_nil ?_
            rintro _ ⟨nq, rfl⟩
            have hq6 := (hq5.drewN nq).alloc (.cells #[.int .i64 y] 3)
            have hw6 := (hw5.drewN nq).alloc (.cells #[.int .i64 y] 3)
            have cy : ((W5.drewN nq).alloc (.cells #[.int .i64 y] 3)).cell? ⟨W5.heap.size, 0, none⟩ = some (.int .i64 y) := (row_new (cs := [.int .i64 y]) rfl : Row _ _ 3 [.int .i64 y]).cell 0
            gi_wp2_with (gi_at_builtin; refine wpListIn_append_que _ rfl (.tmp 64) (.tmp 66) 24 rfl (w.heap.size + 1 + 1 + 1 + 1 + 1 + 1) i0 Try.underlying24 hi hz0 hz1 hz2 v1 q1 rfl hq6 (by simp; omega) ⟨W5.heap.size, 0, none⟩ 1 y rfl cy HQL.out ?_; intro v2 W6 hq7 hg7; have hq7c := hq7; obtain ⟨b7, o7, k7, u7, e7, -⟩ := hq7c; subst e7; have hw7 := hw6.grow hg7; obtain ⟨c77, f77⟩ := hw7.r7.cells1)
            have hA6 := hg7.far ((hA5.drewN nq).alloc (.cells #[.int .i64 y] 3)) (.inr (.inr hbk4))
            have hB6 := hg7.far ((hB5.drewN nq).alloc (.cells #[.int .i64 y] 3)) (.inl (by decide))
            have hk6 := ((hk5.trans (keeps_drewN 0 W5 nq)).trans ((KeepsOthers.alloc (W5.drewN nq) (.cells #[.int .i64 y] 3)).from 0)).trans hg7.keep
            have hk7 := hk6.trans ((KeepsOthers.setCell W6 ⟨w.heap.size + 1 + 1 + 1 + 1 + 1 + 1 + 1, 0, none⟩ (.slice (some ⟨b7, o7, none⟩) (q1 ++ [y]).length k7)).from 0)
            have hbk7 := hg7.ne hbk4 (g := W.heap.size) ((hA5.drewN nq).alloc (.cells #[.int .i64 y] 3)).lt
            have el : (q1 ++ [y]).length = q1.length + 1 := by simp
            rw [el] at hq7 hk7 hbk7
            refine ⟨KeepsFrom.up hk7, keepB_row hB4 (hB6.far (by dsimp only; omega) _), sWith R1 y, bs1.set y at_, _, q1 ++ [y], by rw [Hs.out]; exact HM2.out, hw7.setQ _, hq7.set_row hw7.r7 (by decide) _, hbk7, hA6.far (by dsimp only; omega) _, hB6.far (by dsimp only; omega) _, Dfs.keep hdf4 hk7⟩
          · have hlt := of_decide_eq_true g2
            have ht5 := HM.out.tree_add hxl hxs.1 hxs.2 hz
            have hyf : y ≠ f := by
              intro e; subst e
              have h1 := HM.out.root0
              rw [hxs.2] at h1; cases h1
            obtain ⟨K, hK16, hok, hp⟩ := ht5.post (L := L) (lim := lim) hxl (by rw [with_has]; simp) hyf hlt
            have HP := Lib.hid hp
            have hbl5 := ht5.blen
            have HWB := Lib.hid (fun w => wayBack_any (bs1.set y at_) f y K w hbl5 (fun v _ => ht5.blt v) hf hxl hK16 hok)
            have hi93 := Lib.hid (info93 hbl5)
            have hr3 := Lib.hid (Row.range (hw5.r3.drewN nq))
            clear ht5 hp hok
            obtain ⟨c1, f1⟩ := hw5.r1.cells1
            gi_wp2
            refine wpIn_region_quiet_all (hO.inRound l) (by kernel_rfl) (by kernel_rfl) (by kernel_rfl) ?_
            repeat go_big_quiet_step ((fail))
            refine wpQuiet_nil ?_
            rintro _ ⟨nq, rfl⟩
            gi_wp2_with (first
              | (refine wpListIn_load_mid rfl 93 (.tmp 8) rfl (w.heap.size + 1 + 1 + 1) 0 rfl (intv (bs1.set y at_)) _ (Row.range (hw5.r3.drewN nq)) Try.underlying93 rfl hi93.out ?_)
              | (gi_at_call 71; refine ((hO.inRound l).lift _ (HWB.out _)).mono ?_; rintro e W6 ⟨wy, rfl, hown, hb6⟩; have hownc := hown; obtain ⟨A6, k6, e6, -⟩ := own_ints hownc; subst e6; have hw6 := (hw5.drewN nq).below hb6; obtain ⟨c44, f44⟩ := hw6.r4.cells1))
            have hk9 := ((hk5.trans (keeps_drewN 0 W5 nq)).trans (keeps_below 0 hb6)).trans ((KeepsOthers.setCell W6 ⟨w.heap.size + 1 + 1 + 1 + 1, 0, none⟩ (.slice A6 (wbF (bs1.set y at_) f K y).length k6)).from 0)
            exact ⟨KeepsFrom.up hk9, rfl, _, _, _, _, _, HP.out, hw6.setW _, own_mono (own_set hown (p := ⟨w.heap.size + 1 + 1 + 1 + 1, 0, none⟩) (by simp; omega) _) (by simp; omega), Dfs.keep hdf4 hk9⟩
      · rintro D xs W5 hDB hxs ⟨R1, bs1, v1, q1, hmid, hw5, hq5, -, -, -, hdf⟩ hK
        rw [hxs, ← HS.out] at hmid
        obtain ⟨hb1, hlt⟩ := Mid.done HQ.out hg hmid
        have HB1 := Lib.hid hb1
        have hm5 : Marks (D :: Ds) W5 := by
          refine ⟨List.nodup_cons.2 ⟨fun hDs => ?_, w3m.1⟩, fun E hE => ?_⟩
          · have := (Array.getElem?_eq_some_iff.1 (w3m.2 D hDs)).1; omega
          · rcases List.mem_cons.1 hE with rfl | hE
            · exact hK
            · exact hdf E hE
        gi_wp2
        refine ⟨_, ?_, uF [undef, undef, undef, undef, undef, undef, undef, undef, undef, undef, undef, undef, _, _, undef, undef, undef, undef, _, _, _, _, _, _, _, _, _, _, _, _, _, _, _, _, _, _, _, _, _, _, _, _, _, _, _, _, _, _, _, _, _, _, _, _, _, _, _, _, _, _, _, _, _, _, _, _, _, _, _, _], D :: Ds, R1, bs1, q1, v1, rfl, rfl, HB1.out, hw5, hq5, hm5, ?_⟩
        · rw [HN.out]; simp only [List.length_cons]; omega
        · intro E hE
          have hw3 := w3r.lt
          rcases List.mem_cons.1 hE with rfl | hE
          · omega
          · exact hD E hE
      · rintro D c pre W5 hDB ⟨rfl, R1, bs1, v1, wy, ws, hp, hw5, hown, hdf⟩ hK
        have hm5 : Marks (D :: Ds) W5 := by
          refine ⟨List.nodup_cons.2 ⟨fun hDs => ?_, w3m.1⟩, fun E hE => ?_⟩
          · have := (Array.getElem?_eq_some_iff.1 (w3m.2 D hDs)).1; omega
          · rcases List.mem_cons.1 hE with rfl | hE
            · exact hK
            · exact hdf E hE
        obtain ⟨c4, f4⟩ := hw5.r4.cells1
        obtain ⟨c5, f5⟩ := hw5.r5.cells1
        gi_wp2
        refine wpIn_region_quiet_all hO (by kernel_rfl) (by kernel_rfl) (by kernel_rfl) ?_
        repeat go_big_quiet_step ((fail))
        refine wpQuiet_nil ?_
        rintro _ ⟨nq, rfl⟩
        gi_wp2
        have hw3 := w3r.lt
        have hDD : ∀ E ∈ D :: Ds, w.heap.size ≤ E := by
          intro E hE
          rcases List.mem_cons.1 hE with rfl | hE
          · omega
          · exact hD E hE
        refine ret_marks (D :: Ds) (w := W5.drewN nq) hm5 (v := .tuple #[wy, .int .u32 R1]) ?_ ⟨wy, R1, ws, rfl, hp, shut_own (w := W5.drewN nq) hm5 hown, shut_below (hw5.fr.below.trans (below_drewN nq)) hDD⟩
        simp [results, Try.results64, go_sem]
end Go.Proofs.Ytpaeagkgmbhndaa
/- Reading a set. -/
namespace Go.Proofs.Ytpaeagkgmbhndaa
open Go.RowKit
set_option maxHeartbeats 2000000
def mskTo (xs : List Int) : Nat → Nat
  | 0 => 0
  | k + 1 => sWith (mskTo xs k) (geti xs k).toNat
/-- The set that a list gives, 0 where it gives none. -/
def setV (n : Nat) (xs : List Int) : Nat := if asc n xs xs.length then mskTo xs xs.length else 0
theorem msk_lt {n : Nat} (hn : n ≤ 16) {xs : List Int} : ∀ k, asc n xs k → mskTo xs k < 65536
  | 0, _ => by unfold mskTo; omega
  | k + 1, h => with_lt (msk_lt hn k (fun i hi => h i (by omega))) (by have := h k (by omega); omega)
theorem readSet_any (n : Nat) (A : Option Addr) (c : Nat) (xs : List Int) (w : World) (hn : n ≤ 16) (hx : xs.length ≤ 1000000) (ha : IntsAt w A xs) :
    Calls Try.prog 45 #[.int .i64 n, .slice A xs.length c] w fun e w' => e = .returned (.tuple #[.int .u32 (setV n xs), .bool (decide (setV n xs ≠ 0))]) ∧ ∃ n, w' = w.drewN n := by
  have HA := Lib.hid ha
  clear ha
  go_enter Try.func45, Try.ntmps45
  go_wp2
  go_loopw [6, 7, 12] (fun s l i wr => ∃ k m : Nat, k ≤ xs.length ∧ i = .int .i64 k ∧ wr = w.drewN m ∧ asc n xs k ∧ s = .int .u32 (mskTo xs k) ∧ l = .int .i64 (if k = 0 then -1 else geti xs (k - 1))) (fun _ _ i _ => xs.length - (intOf i).toNat)
  case atStart => exact ⟨0, 0, by omega, rfl, rfl, by intro j hj; omega, rfl, rfl⟩
  case round =>
    obtain ⟨k, m, hk, rfl, rfl, hj, rfl, rfl⟩ := hrel
    have HJ := Lib.hid hj
    have hml := msk_lt hn k hj
    clear hj
    generalize hM : mskTo xs k = M at *
    have HM := Lib.hid hM
    clear hM
    by_cases hlt : k < xs.length
    · obtain ⟨b, o, rfl, hb1, hc⟩ := HA.out (by omega)
      have h1 := hc k hlt
      clear hc
      generalize hlst : (if k = 0 then -1 else geti xs (k - 1)) = lst
      have HL := Lib.hid hlst
      clear hlst
      generalize hy : geti xs k = y at *
      have HY := Lib.hid hy
      clear hy
      cases g1 : decide (y ≤ lst) <;> cases g2 : decide ((n:Int) ≤ y)
      all_goals
        first
          | (have hy0 : 0 ≤ y := by
               have h3 := of_decide_eq_false g1
               rw [← HL.out] at h3
               split at h3
               · omega
               · rename_i hk0
                 have := HJ.out (k - 1) (by omega)
                 omega
             have hyn : y < n := by have := of_decide_eq_false g2; omega
             obtain ⟨v, rfl⟩ : ∃ v : Nat, y = v := ⟨y.toNat, by omega⟩
             have HC := Lib.hid (fun w => with_any M v w (by omega) (by omega))
             have g2n : decide (n ≤ v) = false := decide_eq_false (by omega)
             clear hy0 hyn)
          | skip
      all_goals
        go_wp2_with (go_at_call 57; refine (HC.out _).mono ?_; rintro e w' ⟨rfl, rfl⟩)
      · go_roundw
        case rel =>
          refine ⟨k + 1, m, by omega, by go_num, rfl, fun j hj2 => ?_, ?_, ?_⟩
          · by_cases h : j = k
            · subst h
              have h3 := of_decide_eq_false g1
              have h4 := of_decide_eq_false g2
              rw [HY.out]
              refine ⟨by omega, by omega, fun hj0 => ?_⟩
              rw [← HL.out, if_neg (by omega)] at h3
              omega
            · exact HJ.out j (by omega)
          · rw [mskTo, HM.out, HY.out]; rfl
          · rw [if_neg (by omega), Nat.add_sub_cancel, HY.out]
        case measure => simp [intOf]; omega
      all_goals
           go_ret2
           have hbad : ¬ asc n xs xs.length := by
             intro hh
             have h5 := hh k hlt
             have h6 := HL.out
             rw [HY.out] at h5
             simp only [decide_eq_false_iff_not, decide_eq_true_eq] at g1 g2
             split at h6
             · omega
             · have := h5.2.2 (by omega); omega
           have e0 : setV n xs = 0 := by unfold setV; rw [if_neg hbad]
           rw [e0]
           exact ⟨rfl, m, rfl⟩
    · obtain rfl : k = xs.length := by omega
      generalize (if xs.length = 0 then -1 else geti xs (xs.length - 1)) = lst
      have e0 : setV n xs = M := by unfold setV; rw [if_pos HJ.out, HM.out]
      go_wp2
      go_ret2
      rw [e0]
      have e1 : ((M:Int) != 0) = decide (M ≠ 0) := by rw [Bool.eq_iff_iff]; simp
      exact ⟨by rw [← e1]; rfl, m, rfl⟩
end Go.Proofs.Ytpaeagkgmbhndaa
/- The density of a set, as asked. -/
namespace Go.Proofs.Ytpaeagkgmbhndaa
open Go.RowKit
set_option maxHeartbeats 1000000
set_option maxRecDepth 100000
def denV (gs : List Nat) (s : Nat) : Nat × Nat := (fN (endsOf gs s (ms s) / 2) (pc 16 s), fD (endsOf gs s (ms s) / 2) (pc 16 s))
theorem Density_none (n : Int) (A B : Option Addr) (c d : Nat) (es : List (Int × Int)) (xs : List Int) (w : World) (hx : es.length ≤ 1000000) (ha : PairsAt w A es) (h : readF n es = none) :
    Calls Try.prog 25 #[.int .i64 n, .slice A es.length c, .slice B xs.length d] w fun e w' => e = .returned (.tuple #[frac 0 0, .int .i64 2]) ∧ Below w.heap.size w w' := by
  have HC := Lib.hid (rg_none (c := c) hx ((ha.below ((Below.refl _ w).alloc (Nat.le_refl _) (.cells #[.int .i64 0, .int .i64 0] 26)))) h)
  clear h
  go_enter Try.func25, Try.ntmps25
  go_wp2_with (first
    | (go_at_call 41; refine HC.out.mono ?_; rintro e w2 ⟨rfl, hb2⟩; have hs2 := hb2.size; have r0 : Row w2 w.heap.size 26 [.int .i64 0, .int .i64 0] := (Row.new w 26 _).below hb2; obtain ⟨⟨c0, c1⟩, g0, g1⟩ := r0.cells2; have l0 := r0.lt)
    | (refine wpList_store_row rfl 75 (.tmp 8) (.tmp 15) rfl w2.heap.size (gcells 0 Z16).toArray rfl rfl 75 #[.int .i64 0, .int .u32 0, .int .u32 0, .int .u32 0, .int .u32 0, .int .u32 0, .int .u32 0, .int .u32 0, .int .u32 0, .int .u32 0, .int .u32 0, .int .u32 0, .int .u32 0, .int .u32 0, .int .u32 0, .int .u32 0, .int .u32 0] (heap_alloc_new _ _) info75 rfl (gcells_one _ _) ?_; rw [setRow_alloc]))
  have r5 := ((r0.set 0 (.int .i64 0)).set 1 (.int .i64 0)).alloc (.cells (gcells 0 Z16).toArray 75)
  obtain ⟨⟨d0, d1⟩, -⟩ := r5.cells2
  refine bodyPost_ret (v := .tuple #[.agg #[.int .i64 0, .int .i64 0], .int .i64 2]) ?_ rfl ⟨rfl, ?_⟩
  · simp [results, Try.results25, go_sem, d0, d1]
  · have hb := ((Below.refl _ w).alloc (Nat.le_refl _) (.cells #[.int .i64 0, .int .i64 0] 26)).trans (hb2.mono (by simp))
    (repeat (first | exact Below.refl _ _ | assumption | (refine Below.setCell ?_ (by first | exact Nat.le_refl _ | omega | (simp; done) | (simp; omega)) _) | (refine Below.trans ?_ (below_drewN _)) | (refine Below.drew ?_) | (refine Below.alloc ?_ (by first | exact Nat.le_refl _ | omega | (simp; done) | (simp; omega)) _) | (refine below_row ?_ (by first | exact Nat.le_refl _ | omega | (simp; done) | (simp; omega)) _)))
theorem Density_bad (m : Nat) (A B : Option Addr) (c d : Nat) (es : List (Int × Int)) (gs : List Nat) (xs : List Int) (w : World) (hx : es.length ≤ 1000000) (hx2 : xs.length ≤ 1000000) (ha : PairsAt w A es) (hb : IntsAt w B xs) (h : readF m es = some gs) (hV : setV m xs = 0) :
    Calls Try.prog 25 #[.int .i64 m, .slice A es.length c, .slice B xs.length d] w fun e w' => e = .returned (.tuple #[frac 0 0, .int .i64 2]) ∧ Below w.heap.size w w' := by
  obtain ⟨hm1, hm2, hg, hI⟩ := readF_ok h
  have hm2' : m ≤ 16 := by omega
  have hbw := (Below.refl _ w).alloc (Nat.le_refl _) (.cells #[.int .i64 0, .int .i64 0] 26)
  have HC := Lib.hid (rg_some (c := c) hx (ha.below hbw) h)
  have hbi := hb.below hbw
  have HS := Lib.hid (fun w (hi : IntsAt w B xs) => (readSet_any m B d xs w hm2' hx2 hi).mono (R' := fun e w' => e = .returned (.tuple #[.int .u32 0, .bool false]) ∧ ∃ n, w' = w.drewN n) (fun e w' ⟨h1, h2⟩ => ⟨by rw [h1, hV]; rfl, h2⟩))
  clear h hm1 hm2 hb hV
  go_enter Try.func25, Try.ntmps25
  go_wp2_with (first
    | (go_at_call 41; refine HC.out.mono ?_; rintro e w2 ⟨rfl, hb2⟩; have hs2 := hb2.size; have r0 : Row w2 w.heap.size 26 [.int .i64 0, .int .i64 0] := (Row.new w 26 _).below hb2; obtain ⟨⟨c0, c1⟩, g0, g1⟩ := r0.cells2; have l0 := r0.lt; have hi2 := (hbi.below hb2).below ((Below.refl _ w2).alloc (Nat.le_refl _) (.cells (gcells m gs).toArray 75)))
    | (refine wpList_store_row rfl 75 (.tmp 8) (.tmp 15) rfl w2.heap.size (gcells m gs).toArray rfl rfl 75 #[.int .i64 0, .int .u32 0, .int .u32 0, .int .u32 0, .int .u32 0, .int .u32 0, .int .u32 0, .int .u32 0, .int .u32 0, .int .u32 0, .int .u32 0, .int .u32 0, .int .u32 0, .int .u32 0, .int .u32 0, .int .u32 0, .int .u32 0] (heap_alloc_new _ _) (info75g hg) (size75g hg) (gcells_one _ _) ?_; rw [setRow_alloc])
    | (go_at_call 45; refine (HS.out _ hi2).mono ?_; rintro e w3 ⟨rfl, nq, rfl⟩))
  have r5 := (((r0.alloc (.cells (gcells m gs).toArray 75)).drewN nq).set 0 (.int .i64 0)).set 1 (.int .i64 0)
  obtain ⟨⟨d0, d1⟩, -⟩ := r5.cells2
  refine bodyPost_ret (v := .tuple #[.agg #[.int .i64 0, .int .i64 0], .int .i64 2]) ?_ rfl ⟨rfl, ?_⟩
  · simp [results, Try.results25, go_sem, d0, d1]
  · have hb := ((Below.refl _ w).alloc (Nat.le_refl _) (.cells #[.int .i64 0, .int .i64 0] 26)).trans (hb2.mono (by simp))
    (repeat (first | exact Below.refl _ _ | assumption | (refine Below.setCell ?_ (by first | exact Nat.le_refl _ | omega | (simp; done) | (simp; omega)) _) | (refine Below.trans ?_ (below_drewN _)) | (refine Below.drew ?_) | (refine Below.alloc ?_ (by first | exact Nat.le_refl _ | omega | (simp; done) | (simp; omega)) _) | (refine below_row ?_ (by first | exact Nat.le_refl _ | omega | (simp; done) | (simp; omega)) _)))
theorem setV_lt {m : Nat} (hm : m ≤ 16) (xs : List Int) : setV m xs < 65536 := by
  unfold setV
  split
  · exact msk_lt hm _ ‹_›
  · omega
theorem Density_good (m : Nat) (A B : Option Addr) (c d : Nat) (es : List (Int × Int)) (gs : List Nat) (xs : List Int) (w : World) (hx : es.length ≤ 1000000) (hx2 : xs.length ≤ 1000000) (ha : PairsAt w A es) (hb : IntsAt w B xs) (h : readF m es = some gs) (hV : setV m xs ≠ 0) :
    Calls Try.prog 25 #[.int .i64 m, .slice A es.length c, .slice B xs.length d] w fun e w' => e = .returned (.tuple #[frac (denV gs (setV m xs)).1 (denV gs (setV m xs)).2, .int .i64 0]) ∧ Below w.heap.size w w' := by
  obtain ⟨hm1, hm2, hg, hI⟩ := readF_ok h
  have hm2' : m ≤ 16 := by omega
  have hbw := (Below.refl _ w).alloc (Nat.le_refl _) (.cells #[.int .i64 0, .int .i64 0] 26)
  have HC := Lib.hid (rg_some (c := c) hx (ha.below hbw) h)
  have hbi := hb.below hbw
  have hlt := setV_lt hm2' xs
  have hd1 : decide (setV m xs ≠ 0) = true := decide_eq_true hV
  generalize hs : setV m xs = s at *
  have HS := Lib.hid (fun w (hi : IntsAt w B xs) => (readSet_any m B d xs w hm2' hx2 hi).mono (R' := fun e w' => e = .returned (.tuple #[.int .u32 s, .bool true]) ∧ ∃ n, w' = w.drewN n) (fun e w' ⟨h1, h2⟩ => ⟨by rw [h1, hs, hd1], h2⟩))
  have HD := Lib.hid (fun w => density_any m s gs hg hlt (pc_pos hlt hV) w)
  clear h hm1 hm2 hb hV hs hd1
  show Calls _ _ _ _ fun e w' => e = .returned (.tuple #[frac (fN (endsOf gs s (ms s) / 2) (pc 16 s)) (fD (endsOf gs s (ms s) / 2) (pc 16 s)), .int .i64 0]) ∧ Below w.heap.size w w'
  generalize fN (endsOf gs s (ms s) / 2) (pc 16 s) = N at *
  generalize fD (endsOf gs s (ms s) / 2) (pc 16 s) = D at *
  go_enter Try.func25, Try.ntmps25
  go_wp2_with (first
    | (go_at_call 41; refine HC.out.mono ?_; rintro e w2 ⟨rfl, hb2⟩; have hs2 := hb2.size; have r0 : Row w2 w.heap.size 26 [.int .i64 0, .int .i64 0] := (Row.new w 26 _).below hb2; obtain ⟨⟨c0, c1⟩, g0, g1⟩ := r0.cells2; have l0 := r0.lt; have hi2 := (hbi.below hb2).below ((Below.refl _ w2).alloc (Nat.le_refl _) (.cells (gcells m gs).toArray 75)))
    | (refine wpList_store_row rfl 75 (.tmp 8) (.tmp 15) rfl w2.heap.size (gcells m gs).toArray rfl rfl 75 #[.int .i64 0, .int .u32 0, .int .u32 0, .int .u32 0, .int .u32 0, .int .u32 0, .int .u32 0, .int .u32 0, .int .u32 0, .int .u32 0, .int .u32 0, .int .u32 0, .int .u32 0, .int .u32 0, .int .u32 0, .int .u32 0, .int .u32 0] (heap_alloc_new _ _) (info75g hg) (size75g hg) (gcells_one _ _) ?_; rw [setRow_alloc])
    | (go_at_call 45; refine (HS.out _ hi2).mono ?_; rintro e w3 ⟨rfl, nq, rfl⟩; have rg := (row_new (cs := gcells m gs) rfl : Row (w2.alloc (.cells (gcells m gs).toArray 75)) w2.heap.size 75 (gcells m gs)).drewN nq)
    | (refine wpList_load_row rfl 75 (.tmp 8) rfl w2.heap.size rfl 75 (gcells m gs).toArray (0, 0) _ (row_heap rg) Try.underlying75 rfl (info75g hg) ?_)
    | (go_at_call 47; refine (HD.out _).mono ?_; rintro e w4 ⟨rfl, hb4⟩; have r4 := ((r0.alloc (.cells (gcells m gs).toArray 75)).drewN nq).below hb4; obtain ⟨⟨k0, k1⟩, j0, j1⟩ := r4.cells2))
  have r5 := (r4.set 0 (.int .i64 N)).set 1 (.int .i64 D)
  obtain ⟨⟨d0, d1⟩, -⟩ := r5.cells2
  refine bodyPost_ret (v := .tuple #[.agg #[.int .i64 N, .int .i64 D], .int .i64 0]) ?_ rfl ⟨rfl, ?_⟩
  · simp [results, Try.results25, go_sem, d0, d1]
  · have hb := ((((((Below.refl _ w).alloc (Nat.le_refl _) (.cells #[.int .i64 0, .int .i64 0] 26)).trans (hb2.mono (by simp))).alloc (by omega) (.cells (gcells m gs).toArray 75)).trans (below_drewN nq)).trans (hb4.mono (by simp; omega)))
    (repeat (first | exact Below.refl _ _ | assumption | (refine Below.setCell ?_ (by first | exact Nat.le_refl _ | omega | (simp; done) | (simp; omega)) _) | (refine Below.trans ?_ (below_drewN _)) | (refine Below.drew ?_) | (refine Below.alloc ?_ (by first | exact Nat.le_refl _ | omega | (simp; done) | (simp; omega)) _) | (refine below_row ?_ (by first | exact Nat.le_refl _ | omega | (simp; done) | (simp; omega)) _)))
end Go.Proofs.Ytpaeagkgmbhndaa
/- Does a share prove a fraction? -/
namespace Go.Proofs.Ytpaeagkgmbhndaa
open Go.RowKit
set_option maxHeartbeats 4000000
set_option maxRecDepth 100000
def ldS (c : List Nat) (a b x y : Nat) : List Nat := (c.set a (getn c a + x)).set b (getn (c.set a (getn c a + x)) b + y)
/-- The loads of the first k edges. -/
def ldT (es ss : List (Int × Int)) : Nat → List Nat
  | 0 => zer
  | k + 1 => ldS (ldT es ss k) (pA es k).toNat (pB es k).toNat (pA ss k).toNat (pB ss k).toNat
def shOK (ss : List (Int × Int)) (q k : Nat) : Prop := ∀ i, i < k → 0 ≤ pA ss i ∧ pA ss i ≤ q ∧ pB ss i = q - pA ss i
instance (ss : List (Int × Int)) (q k : Nat) : Decidable (shOK ss q k) := by unfold shOK; infer_instance
def ldOK (c : List Nat) (p : Nat) : Prop := ∀ v, v < 16 → getn c v ≤ p
instance (c : List Nat) (p : Nat) : Decidable (ldOK c p) := by unfold ldOK; infer_instance
def provV (es ss : List (Int × Int)) (p q : Nat) : Bool := decide (ss.length = es.length ∧ shOK ss q es.length ∧ ldOK (ldT es ss es.length) p)
theorem ldS_len (c : List Nat) (a b x y : Nat) : (ldS c a b x y).length = c.length := by simp [ldS]
theorem ldT_len (es ss : List (Int × Int)) : ∀ k, (ldT es ss k).length = 16
  | 0 => by simp [ldT, zer]
  | k + 1 => by rw [ldT, ldS_len]; exact ldT_len es ss k
theorem getn_set_le {c : List Nat} {a x y i : Nat} (h : getn c i ≤ y) (hx : x ≤ y) : getn (c.set a x) i ≤ y := by
  by_cases hl : a < c.length
  · rw [getn_set hl]; split <;> omega
  · rw [List.set_eq_of_length_le (by omega)]; exact h
theorem getn_le_all {c : List Nat} {B : Nat} (h : ∀ i, getn c i ≤ B) (a x : Nat) : ∀ i, getn (c.set a (getn c a + x)) i ≤ B + x := fun i => getn_set_le (by have := h i; omega) (by have := h a; omega)
theorem ldT_le {ss : List (Int × Int)} {q : Nat} (es : List (Int × Int)) : ∀ k, shOK ss q k → ∀ i, getn (ldT es ss k) i ≤ k * (2 * q)
  | 0, _, i => by
    show getn zer i ≤ _
    unfold getn zer
    rw [List.getD_eq_getElem?_getD, List.getElem?_replicate]; split <;> simp
  | k + 1, h, i => by
    have ih := ldT_le es k (fun j hj => h j (by omega))
    have h1 := h k (by omega)
    rw [ldT]
    unfold ldS
    have h2 := getn_le_all (getn_le_all ih (pA es k).toNat (pA ss k).toNat) (pB es k).toNat (pB ss k).toNat i
    have h3 : (k + 1) * (2 * q) = k * (2 * q) + 2 * q := Nat.succ_mul _ _
    omega
theorem run_index93 (cs : Array Value) (j : Nat) (hj : j < 16) (x : Int) (w : World) (h : cs[j]? = some (.int .i64 x)) : (Instr.index 93 (.agg cs) (.int .i64 j)).run Try.prog w = .ok (.int .i64 x) w := by
  obtain ⟨i0, hi, hz0, hz1, hz2⟩ := info_parts info3
  have h1 : (0:Int) ≤ j ∧ (j:Int) < 16 := by omega
  simp [Instr.index, asIntOf, Sem.run_bind, run_underlying Try.underlying93, sizeOf, typeInfo, hi, hz1, part, h, h1]
  omega
theorem proves_any (A B : Option Addr) (c d p q : Nat) (es ss : List (Int × Int)) (w : World) (hx : es.length ≤ 1000000) (ha : PairsAt w A es) (hb : PairsAt w B ss) (hq : q ≤ 1000000)
    (he : ∀ k, k < es.length → 0 ≤ pA es k ∧ pA es k < 16 ∧ 0 ≤ pB es k ∧ pB es k < 16 ∧ pA es k ≠ pB es k) :
    Calls Try.prog 46 #[.slice A es.length c, .slice B ss.length d, frac p q] w fun e w' => e = .returned (.bool (provV es ss p q)) ∧ Below w.heap.size w w' := by
  have HA := Lib.hid ha
  have HB := Lib.hid hb
  have HE := Lib.hid he
  clear ha hb he
  cases gl : ((ss.length : Int) != es.length)
  case true =>
    have hne : ¬ ss.length = es.length := by intro e; rw [e] at gl; simp at gl
    go_enter Try.func46, Try.ntmps46
    go_wp2
    go_ret
    refine ⟨ret_bool (by unfold provV; symm; apply decide_eq_false; exact fun h => hne h.1), ?_⟩
    (repeat (first | exact Below.refl _ _ | assumption | (refine Below.setCell ?_ (by first | exact Nat.le_refl _ | omega | (simp; done) | (simp; omega)) _) | (refine Below.trans ?_ (below_drewN _)) | (refine Below.drew ?_) | (refine Below.alloc ?_ (by first | exact Nat.le_refl _ | omega | (simp; done) | (simp; omega)) _) | (refine below_row ?_ (by first | exact Nat.le_refl _ | omega | (simp; done) | (simp; omega)) _)))
  case false =>
    have hel : ss.length = es.length := by simp at gl; omega
    have HL := Lib.hid hel
    go_enter Try.func46, Try.ntmps46
    go_wp2
    generalize hw1 : World.alloc _ _ = w1
    have HW := Lib.hid hw1
    clear hw1
    have hb : Below w.heap.size w w1 := by rw [← HW.out]; (repeat (first | exact Below.refl _ _ | assumption | (refine Below.setCell ?_ (by first | exact Nat.le_refl _ | omega | (simp; done) | (simp; omega)) _) | (refine Below.trans ?_ (below_drewN _)) | (refine Below.drew ?_) | (refine Below.alloc ?_ (by first | exact Nat.le_refl _ | omega | (simp; done) | (simp; omega)) _) | (refine below_row ?_ (by first | exact Nat.le_refl _ | omega | (simp; done) | (simp; omega)) _)))
    have hz : w.heap.size + 2 ≤ w1.heap.size := by rw [← HW.out]; simp; try omega
    have r0 : Row w1 w.heap.size 26 [.int .i64 p, .int .i64 q] := by rw [← HW.out]; exact (Row.new w 26 _).alloc _
    have r1 : Row w1 (w.heap.size + 1) 93 (intv zer) := by rw [← HW.out]; exact row_new (cs := intv zer) (by simp)
    clear HW
    go_loopw [21] (fun i wr => ∃ k : Nat, k ≤ es.length ∧ i = .int .i64 k ∧ shOK ss q k ∧ Row wr (w.heap.size + 1) 93 (intv (ldT es ss k)) ∧ Row wr w.heap.size 26 [.int .i64 p, .int .i64 q] ∧ Below w.heap.size w wr) (fun i _ => es.length - (intOf i).toNat)
    case atStart => exact ⟨0, by omega, rfl, fun j hj => absurd hj (by omega), r1, r0, hb⟩
    case round =>
      obtain ⟨k, hk, rfl, hall, hr, hr0, hbr⟩ := hrel
      have HALL := Lib.hid hall
      have hle := ldT_le es k hall
      have HLE := Lib.hid hle
      have ltr := hr.lt
      have ltr0 := hr0.lt
      obtain ⟨⟨k0, k1⟩, -⟩ := hr0.cells2
      clear hall hz hb r0 r1 hle
      by_cases hlt : k < es.length
      · obtain ⟨b, o, rfl, hb1, hc⟩ := HA.out (by omega)
        obtain ⟨b', o', rfl, hb1', hc'⟩ := HB.out (by have := HL.out; omega)
        obtain ⟨c1, c2⟩ := hc k hlt
        obtain ⟨c3, c4⟩ := hc' k (by have := HL.out; omega)
        have hlk : k < ss.length := by have := HL.out; omega
        have c1' : wr.cell? ⟨b, o + k * 2, none⟩ = some (.int .i64 (pA es k)) := (hbr.cell (p := ⟨b, _, none⟩) hb1).trans c1
        have c2' : wr.cell? ⟨b, o + k * 2 + 1, none⟩ = some (.int .i64 (pB es k)) := (hbr.cell (p := ⟨b, _, none⟩) hb1).trans c2
        have c3' : wr.cell? ⟨b', o' + k * 2, none⟩ = some (.int .i64 (pA ss k)) := (hbr.cell (p := ⟨b', _, none⟩) hb1').trans c3
        have c4' : wr.cell? ⟨b', o' + k * 2 + 1, none⟩ = some (.int .i64 (pB ss k)) := (hbr.cell (p := ⟨b', _, none⟩) hb1').trans c4
        obtain ⟨e1, e2, e3, e4, e5⟩ := HE.out k hlt
        have lb : b < wr.heap.size := Nat.lt_of_lt_of_le hb1 hbr.size
        have lb' : b' < wr.heap.size := Nat.lt_of_lt_of_le hb1' hbr.size
        clear hc hc' c1 c2 c3 c4
        generalize hX : pA ss k = x at *
        generalize hY : pB ss k = y at *
        generalize hAA : pA es k = a at *
        generalize hBB : pB es k = b2 at *
        have HX := Lib.hid hX
        have HY := Lib.hid hY
        have HAA := Lib.hid hAA
        have HBB := Lib.hid hBB
        clear hX hY hAA hBB
        cases g1 : decide (x < 0) <;> cases g2 : decide ((q:Int) < x) <;> cases g3 : (y != q - x)
        all_goals
          first
            | (have hx0 : 0 ≤ x := by simp at g1; omega
               have hxq : x ≤ q := by simp at g2; omega)
            | skip
        case false.false.false =>
          have hyq : y = q - x := by simpa using g3
          have c5 : wr.cell? ⟨w.heap.size + 1, a.toNat, none⟩ = some (.int .i64 (getn (ldT es ss k) a.toNat)) := intv_row hr (by rw [ldT_len]; omega)
          have f5 := hr.free a.toNat
          have c6 : wr.cell? ⟨w.heap.size + 1, b2.toNat, none⟩ = some (.int .i64 (getn (ldT es ss k) b2.toNat)) := intv_row hr (by rw [ldT_len]; omega)
          have f6 := hr.free b2.toNat
          have hab : a.toNat ≠ b2.toNat := by omega
          have hb1 := HLE.out a.toNat
          have hb2 := HLE.out b2.toNat
          have hkq : k * (2 * q) ≤ 1000000 * (2 * 1000000) := Nat.mul_le_mul (by omega) (by omega)
          go_wp2
          refine wp_region_quiet_lit (by kernel_rfl) (by kernel_rfl) ?_
          repeat go_big_quiet_step ((fail))
          refine wpQuiet_nil ?_
          rintro _ ⟨nq, rfl⟩
          go_wp2
          go_roundw
          case rel =>
            have h5 := (((hr.alloc (.cells #[.int .i64 a, .int .i64 b2] 67)).drewN nq).set a.toNat (.int .i64 (getn (ldT es ss k) a.toNat + x))).set b2.toNat (.int .i64 (getn (ldT es ss k) b2.toNat + (q - x)))
            refine ⟨k + 1, by omega, by go_num, fun j hj => ?_, ?_, (((hr0.alloc _).drewN nq).far (by dsimp only; omega) _).far (by dsimp only; omega) _, ?_⟩
            · by_cases h : j = k
              · subst h; rw [HX.out, HY.out]; exact ⟨hx0, hxq, hyq⟩
              · exact HALL.out j (by omega)
            · have e6 : ((getn (ldT es ss k) a.toNat : Int) + x) = ((getn (ldT es ss k) a.toNat + x.toNat : Nat) : Int) := by omega
              have e7 : ((getn (ldT es ss k) b2.toNat : Int) + (q - x)) = ((getn (ldT es ss k) b2.toNat + y.toNat : Nat) : Int) := by omega
              rw [e6, e7, intv_set, intv_set] at h5
              rw [ldT, HAA.out, HBB.out, HX.out, HY.out]
              unfold ldS
              rw [getn_set (by rw [ldT_len]; omega), if_neg hab, e6, e7]
              exact h5
            · (repeat (first | exact Below.refl _ _ | assumption | (refine Below.setCell ?_ (by first | exact Nat.le_refl _ | omega | (simp; done) | (simp; omega)) _) | (refine Below.trans ?_ (below_drewN _)) | (refine Below.drew ?_) | (refine Below.alloc ?_ (by first | exact Nat.le_refl _ | omega | (simp; done) | (simp; omega)) _) | (refine below_row ?_ (by first | exact Nat.le_refl _ | omega | (simp; done) | (simp; omega)) _)))
          case measure => simp [intOf]; omega
        all_goals
          go_wp2
          refine wp_region_quiet_lit (by kernel_rfl) (by kernel_rfl) ?_
          repeat go_big_quiet_step ((fail))
          refine wpQuiet_nil ?_
          rintro _ ⟨nq, rfl⟩
          go_wp2
          go_ret
          refine ⟨ret_bool ?_, ?_⟩
          · unfold provV; symm; apply decide_eq_false; rintro ⟨_, h, _⟩
            have h1 := h k hlt
            rw [HX.out, HY.out] at h1
            simp at g1 g2 g3
            omega
          · (repeat (first | exact Below.refl _ _ | assumption | (refine Below.setCell ?_ (by first | exact Nat.le_refl _ | omega | (simp; done) | (simp; omega)) _) | (refine Below.trans ?_ (below_drewN _)) | (refine Below.drew ?_) | (refine Below.alloc ?_ (by first | exact Nat.le_refl _ | omega | (simp; done) | (simp; omega)) _) | (refine below_row ?_ (by first | exact Nat.le_refl _ | omega | (simp; done) | (simp; omega)) _)))
      · obtain rfl : k = es.length := by omega
        have hcl := ldT_len es ss es.length
        generalize hC : ldT es ss es.length = C at *
        have HC := Lib.hid hC
        have HCL := Lib.hid hcl
        have hi93 := Lib.hid (show (Try.prog.info? 93).map (·.size) = some (intv C).toArray.size by rw [info93 hcl]; simp)
        have hpv : ∀ Pb : Prop, (Pb ↔ ldOK C p) → ∀ [Decidable Pb], provV es ss p q = decide Pb := by
          intro Pb h1 _
          unfold provV; rw [HC.out]
          apply decide_eq_decide.2
          constructor
          · rintro ⟨_, _, h⟩; exact h1.2 h
          · intro h; exact ⟨HL.out, HALL.out, h1.1 h⟩
        have HPV := Lib.hid hpv
        clear hC hcl hpv
        go_wp2_with (refine wpList_load_row rfl 93 (.tmp 7) rfl (w.heap.size + 1) rfl 93 (intv C).toArray (0, 0) _ hr Try.underlying93 rfl hi93.out ?_)
        go_loopw [68] (fun i wr2 => ∃ j : Nat, j ≤ 16 ∧ i = .int .i64 j ∧ wr = wr2 ∧ ∀ v, v < j → getn C v ≤ p) (fun i _ => 16 - (intOf i).toNat)
        case atStart => exact ⟨0, by omega, rfl, rfl, fun v hv => absurd hv (by omega)⟩
        case round =>
          obtain ⟨j, hj, rfl, rfl, hv⟩ := hrel
          have HV := Lib.hid hv
          clear hv
          by_cases hlt2 : j < 16
          · have hel : (intv C).toArray[j]? = some (.int .i64 (getn C j)) := by
              have : j < C.length := by rw [HCL.out]; exact hlt2
              rw [List.getElem?_toArray]; unfold intv; rw [List.getElem?_map, List.getElem?_eq_getElem this, getn_eq this]; rfl
            have hidx := run_index93 (intv C).toArray j hlt2 _ wr hel
            generalize hy : getn C j = y at *
            have HY := Lib.hid hy
            clear hy hel
            cases g : decide (p < y)
            · go_wp2
              go_roundw
              case rel =>
                refine ⟨j + 1, by omega, by go_num, by trivial, fun v hv => ?_⟩
                by_cases h : v = j
                · subst h; rw [HY.out]; simp at g; exact g
                · exact HV.out v (by omega)
              case measure => simp [intOf]; omega
            · go_wp2
              go_ret
              refine ⟨ret_bool ?_, hbr⟩
              rw [HPV.out False ⟨fun h => h.elim, fun h => ?_⟩]
              · rfl
              · have := h j hlt2
                rw [HY.out] at this
                simp at g; omega
          · obtain rfl : j = 16 := by omega
            go_wp2
            go_ret
            refine ⟨ret_bool ?_, hbr⟩
            rw [HPV.out True ⟨fun _ => HV.out, fun _ => trivial⟩]; rfl
end Go.Proofs.Ytpaeagkgmbhndaa
/- Checking an answer. -/
namespace Go.Proofs.Ytpaeagkgmbhndaa
open Go.RowKit
set_option maxHeartbeats 1000000
set_option maxRecDepth 100000
theorem Check_none (n : Int) (A B C : Option Addr) (c d e0 : Nat) (es ss : List (Int × Int)) (xs : List Int) (w : World) (hx : es.length ≤ 1000000) (ha : PairsAt w A es) (h : readF n es = none) :
    Calls Try.prog 17 #[.int .i64 n, .slice A es.length c, .slice B xs.length d, .slice C ss.length e0] w fun e w' => e = .returned (.int .i64 2) ∧ Below w.heap.size w w' := by
  have HC := Lib.hid (rg_none (c := c) hx ha h)
  clear h
  go_enter Try.func17, Try.ntmps17
  go_wp2_with (first
    | (go_at_call 41; refine HC.out.mono ?_; rintro e w2 ⟨rfl, hb2⟩; have hs2 := hb2.size)
    | (refine wpList_store_row rfl 75 (.tmp 9) (.tmp 16) rfl w2.heap.size (gcells 0 Z16).toArray rfl rfl 75 #[.int .i64 0, .int .u32 0, .int .u32 0, .int .u32 0, .int .u32 0, .int .u32 0, .int .u32 0, .int .u32 0, .int .u32 0, .int .u32 0, .int .u32 0, .int .u32 0, .int .u32 0, .int .u32 0, .int .u32 0, .int .u32 0, .int .u32 0] (heap_alloc_new _ _) info75 rfl (gcells_one _ _) ?_; rw [setRow_alloc]))
  go_ret
  refine ⟨rfl, ?_⟩
  (repeat (first | exact Below.refl _ _ | assumption | (refine Below.setCell ?_ (by first | exact Nat.le_refl _ | omega | (simp; done) | (simp; omega)) _) | (refine Below.trans ?_ (below_drewN _)) | (refine Below.drew ?_) | (refine Below.alloc ?_ (by first | exact Nat.le_refl _ | omega | (simp; done) | (simp; omega)) _) | (refine below_row ?_ (by first | exact Nat.le_refl _ | omega | (simp; done) | (simp; omega)) _)))
theorem Check_bad (m : Nat) (A B C : Option Addr) (c d e0 : Nat) (es ss : List (Int × Int)) (gs : List Nat) (xs : List Int) (w : World) (hx : es.length ≤ 1000000) (hx2 : xs.length ≤ 1000000) (ha : PairsAt w A es) (hb : IntsAt w B xs) (h : readF m es = some gs) (hV : setV m xs = 0) :
    Calls Try.prog 17 #[.int .i64 m, .slice A es.length c, .slice B xs.length d, .slice C ss.length e0] w fun e w' => e = .returned (.int .i64 10) ∧ Below w.heap.size w w' := by
  obtain ⟨hm1, hm2, hg, hI⟩ := readF_ok h
  have hm2' : m ≤ 16 := by omega
  have HC := Lib.hid (rg_some (c := c) hx ha h)
  have HS := Lib.hid (fun w (hi : IntsAt w B xs) => (readSet_any m B d xs w hm2' hx2 hi).mono (R' := fun e w' => e = .returned (.tuple #[.int .u32 0, .bool false]) ∧ ∃ n, w' = w.drewN n) (fun e w' ⟨h1, h2⟩ => ⟨by rw [h1, hV]; rfl, h2⟩))
  clear h hm1 hm2 hV
  go_enter Try.func17, Try.ntmps17
  go_wp2_with (first
    | (go_at_call 41; refine HC.out.mono ?_; rintro e w2 ⟨rfl, hb2⟩; have hs2 := hb2.size; have hi2 := (hb.below hb2).below ((Below.refl _ w2).alloc (Nat.le_refl _) (.cells (gcells m gs).toArray 75)))
    | (refine wpList_store_row rfl 75 (.tmp 9) (.tmp 16) rfl w2.heap.size (gcells m gs).toArray rfl rfl 75 #[.int .i64 0, .int .u32 0, .int .u32 0, .int .u32 0, .int .u32 0, .int .u32 0, .int .u32 0, .int .u32 0, .int .u32 0, .int .u32 0, .int .u32 0, .int .u32 0, .int .u32 0, .int .u32 0, .int .u32 0, .int .u32 0, .int .u32 0] (heap_alloc_new _ _) (info75g hg) (size75g hg) (gcells_one _ _) ?_; rw [setRow_alloc])
    | (go_at_call 45; refine (HS.out _ hi2).mono ?_; rintro e w3 ⟨rfl, nq, rfl⟩))
  go_ret
  refine ⟨rfl, ?_⟩
  (repeat (first | exact Below.refl _ _ | assumption | (refine Below.setCell ?_ (by first | exact Nat.le_refl _ | omega | (simp; done) | (simp; omega)) _) | (refine Below.trans ?_ (below_drewN _)) | (refine Below.drew ?_) | (refine Below.alloc ?_ (by first | exact Nat.le_refl _ | omega | (simp; done) | (simp; omega)) _) | (refine below_row ?_ (by first | exact Nat.le_refl _ | omega | (simp; done) | (simp; omega)) _)))
theorem Check_good (m : Nat) (A B C : Option Addr) (c d e0 : Nat) (es ss : List (Int × Int)) (gs : List Nat) (xs : List Int) (w : World) (hx : es.length ≤ 1000000) (hx2 : xs.length ≤ 1000000) (ha : PairsAt w A es) (hb : IntsAt w B xs) (hc : PairsAt w C ss) (h : readF m es = some gs) (hV : setV m xs ≠ 0) (hD : (denV gs (setV m xs)).2 ≤ 1000000) :
    Calls Try.prog 17 #[.int .i64 m, .slice A es.length c, .slice B xs.length d, .slice C ss.length e0] w fun e w' => e = .returned (.int .i64 (if provV es ss (denV gs (setV m xs)).1 (denV gs (setV m xs)).2 then 0 else 10)) ∧ Below w.heap.size w w' := by
  obtain ⟨hm1, hm2, hg, hI⟩ := readF_ok h
  have hm2' : m ≤ 16 := by omega
  have HE : ∀ k, k < es.length → 0 ≤ pA es k ∧ pA es k < 16 ∧ 0 ≤ pB es k ∧ pB es k < 16 ∧ pA es k ≠ pB es k := fun k hk => by
    have := readF_edges h hk; omega
  have HC := Lib.hid (rg_some (c := c) hx ha h)
  have hlt := setV_lt hm2' xs
  have hd1 : decide (setV m xs ≠ 0) = true := decide_eq_true hV
  unfold denV at hD ⊢
  generalize hs : setV m xs = s at *
  have HS := Lib.hid (fun w (hi : IntsAt w B xs) => (readSet_any m B d xs w hm2' hx2 hi).mono (R' := fun e w' => e = .returned (.tuple #[.int .u32 s, .bool true]) ∧ ∃ n, w' = w.drewN n) (fun e w' ⟨h1, h2⟩ => ⟨by rw [h1, hs, hd1], h2⟩))
  have HD := Lib.hid (fun w => density_any m s gs hg hlt (pc_pos hlt hV) w)
  dsimp only at hD ⊢
  generalize fN (endsOf gs s (ms s) / 2) (pc 16 s) = N at *
  generalize fD (endsOf gs s (ms s) / 2) (pc 16 s) = D at *
  have HP := Lib.hid (fun w (h1 : PairsAt w A es) (h2 : PairsAt w C ss) => proves_any A C c e0 N D es ss w hx h1 h2 hD HE)
  clear h hm1 hm2 hV hs hd1 HE
  cases hv : provV es ss N D
  all_goals
    go_enter Try.func17, Try.ntmps17
    go_wp2_with (first
      | (go_at_call 41; refine HC.out.mono ?_; rintro e w2 ⟨rfl, hb2⟩; have hs2 := hb2.size; have hi2 := (hb.below hb2).below ((Below.refl _ w2).alloc (Nat.le_refl _) (.cells (gcells m gs).toArray 75)))
      | (refine wpList_store_row rfl 75 (.tmp 9) (.tmp 16) rfl w2.heap.size (gcells m gs).toArray rfl rfl 75 #[.int .i64 0, .int .u32 0, .int .u32 0, .int .u32 0, .int .u32 0, .int .u32 0, .int .u32 0, .int .u32 0, .int .u32 0, .int .u32 0, .int .u32 0, .int .u32 0, .int .u32 0, .int .u32 0, .int .u32 0, .int .u32 0, .int .u32 0] (heap_alloc_new _ _) (info75g hg) (size75g hg) (gcells_one _ _) ?_; rw [setRow_alloc])
      | (go_at_call 45; refine (HS.out _ hi2).mono ?_; rintro e w3 ⟨rfl, nq, rfl⟩; have rg := (row_new (cs := gcells m gs) rfl : Row (w2.alloc (.cells (gcells m gs).toArray 75)) w2.heap.size 75 (gcells m gs)).drewN nq)
      | (refine wpList_load_row rfl 75 (.tmp 9) rfl w2.heap.size rfl 75 (gcells m gs).toArray (0, 0) _ (row_heap rg) Try.underlying75 rfl (info75g hg) ?_)
      | (go_big_want; refine wp_load_row 75 (.tmp 9) rfl w2.heap.size rfl 75 (gcells m gs).toArray (0, 0) _ (row_heap rg) Try.underlying75 rfl (info75g hg) ?_)
      | (go_at_call 47; refine (HD.out _).mono ?_; rintro e w4 ⟨rfl, hb4⟩; have hb5 := ((hb2.alloc (by omega) (.cells (gcells m gs).toArray 75)).trans (below_drewN nq)).trans (hb4.mono (by simp; omega)); have hs5 := hb5.size)
      | (go_at_call 46; refine (HP.out _ (ha.below hb5) (hc.below hb5)).mono ?_; rintro e w6 ⟨rfl, hb6⟩; rw [hv]; have hb7 := hb5.trans (hb6.mono hs5)))
    go_ret
    exact ⟨rfl, hb7⟩
end Go.Proofs.Ytpaeagkgmbhndaa
