/- Parts AJ AK AL AM AO of the proof, in this order. -/
import Derived.Test.YtpaeagkgmbhndaaZG
import Derived.Test.YtpaeagkgmbhndaaZD
import Derived.Test.YtpaeagkgmbhndaaZF
/- Nested loops over members; a new division. -/
namespace Go.Proofs.Ytpaeagkgmbhndaa
open Go.RowKit Go.Shelf
attribute [local go_sem] Oper.semAt_some
set_option maxHeartbeats 1000000
set_option maxRecDepth 100000
theorem list16 {gs : List Nat} (h : gs.length = 16) : ∃ a b c d e f g i j k l m n o p q, gs = [a, b, c, d, e, f, g, i, j, k, l, m, n, o, p, q] := by
  match gs, h with
  | [a, b, c, d, e, f, g, i, j, k, l, m, n, o, p, q], _ => exact ⟨a, b, c, d, e, f, g, i, j, k, l, m, n, o, p, q, rfl⟩
theorem built108 (m : Nat) {gs : List Nat} (h : gs.length = 16) : Try.prog.built 108 [(0, .agg (gcells m gs).toArray)] = some (dcells m gs (fun _ _ => 0) (fun _ => 0)).toArray := by
  obtain ⟨a, b, c, d, e, f, g, i, j, k, l, m', n, o, p, q, rfl⟩ := list16 h
  kernel_rfl
theorem wpListIn_build {F : Fence} {n : Nat} {P : Program} {w : World} {ops : Array Oper} {rest : List Oper} {o : Oper} {a : Act} {Q : Exit → Act → World → Prop}
    (hg : o.guard = none) (t : TypeId) (k : Nat) (x : Operand) (hop : o.op = .build t #[(k, x)]) (v : Value) (hx : a.eval x = v) (cs : Array Value) (hb : P.built t [(k, v)] = some cs)
    (h : wpListIn F n P ops Q rest (a.put o.dst (.agg cs)) w) : wpListIn F n P ops Q (o :: rest) a w := by
  refine wpListIn_plain hg fun K hK' => ?_
  have hr := run_build (P := P) w t #[(k, v)] cs hb
  unfold Oper.wpIn
  refine ⟨?_, ?_⟩
  · simp [Oper.about, hop]
  · rw [Oper.semAt_plain F _ _ (by rw [hop]; intro c hc'; cases hc')]
    simp only [execOp, hop, List.map_toArray, List.map_cons, List.map_nil, hx, Sem.run_bind, hr, Result.andThen_ok]
    exact hK' _ _ h
/-- A loop over the members of a set, whose body is told of its own record and whose assignment may lay a box. -/
theorem range_membersH {F : Fence} (hO : Open F) (hro : F.round = none) {n : Nat} (h1 : 1 ≤ n) {g : Operand} {ps : Array Tmp} {assign body : Code} {Q : Exit → Act → World → Prop} {a : Act} {w : World}
    (B s : Nat) (hs : s < 65536) (hB : Row w B 72 [.int .u32 s]) (hg : a.eval g = .func (.func 70) #[] #[.pointer (some ⟨B, 0, none⟩)]) (hps : ps.size = 1)
    (I : List (Mem s) → World → Prop) (hI : OwnFrom w.heap.size I) (h0 : I [] w) (Ax : Mem s → Act → World → Prop) (hAx : ∀ x a', OwnFrom w.heap.size (fun (_ : Unit) W => Ax x a' W))
    (hassign : ∀ (l : Nat) (pre : List (Mem s)) (x : Mem s) (W : World) (K : Act → World → Prop), I pre W → (∀ a' W', KeepsFrom w.heap.size W W' → KeepB B W W' → I pre W' → Ax x a' W' → K a' W') →
      assign.wpIn (F.inRound l) (n - 1 - 1) Try.prog (Exit.then K (fun _ _ _ => False)) { tmps := (ps.zip #[.int .i64 x.1]).foldl (fun t (p, v) => t.setIfInBounds p v) a.tmps, defers := [] } W)
    (hbody : ∀ (l : Nat) (pre : List (Mem s)) (x : Mem s) (a' : Act) (W : World), w.heap.size ≤ l → (∃ r, W.heap[l]? = some (.loop r)) → I pre W → Ax x a' W → pre.length < 16 → body.wpIn (F.inRound l) (n - 1 - 1) Try.prog (ownPostG w.heap.size (KeepB B) I (fun _ _ _ => False) (pre ++ [x]) W) a' W)
    (hdone : ∀ (D : Nat) (xs : List (Mem s)) (W : World), w.heap.size ≤ D → vals xs = ms s → I xs W → W.heap[D]? = some (.deferred (some [])) → Q .normal { a with defers := { target := .collected D, args := #[] } :: a.defers } W) :
    (Code.rangeFunc g ps assign body).wpIn F n Try.prog Q a w :=
  wpIn_rangeFunc_ownH (Kp := KeepB B) (w0 := w) hro h1 hg (hO.fn 70) (enters_of Try.func70 (by kernel_rfl) rfl) (members_stops F hO hro (n - 1) B s hs w hB) (fun h k => k.trans h)
    (fun W l o o' hl _ _ _ => World.putObj_heap_other (by have := hB.lt; omega)) (Below.refl _ _) (fun _ => by rw [hps]; rfl) I (fun _ _ _ => False) hI (fun _ _ _ _ _ h _ _ => h) h0 Ax hAx hassign hbody hdone (fun _ _ _ _ _ _ h _ => h.elim)
/-- The same within a round. -/
theorem range_membersN {F : Fence} (hO : Open F) (hro : F.round = none) {l₀ : Nat} {n : Nat} (h1 : 1 ≤ n) {g : Operand} {ps : Array Tmp} {assign body : Code} {Q : Exit → Act → World → Prop} {a : Act} {w : World}
    (hl₀ : ∃ r, w.heap[l₀]? = some (.loop r)) (B s : Nat) (hs : s < 65536) (hB : Row w B 72 [.int .u32 s]) (hg : a.eval g = .func (.func 70) #[] #[.pointer (some ⟨B, 0, none⟩)]) (hps : ps.size = 1)
    (I : List (Mem s) → World → Prop) (hI : OwnFrom w.heap.size I) (h0 : I [] w) (a₁ : Mem s → Act)
    (hassign : ∀ (l : Nat) (x : Mem s) (W : World) (K : Act → World → Prop), K (a₁ x) W →
      assign.wpIn ((F.inRound l₀).inRound l) (n - 1 - 1) Try.prog (Exit.then K (fun _ _ _ => False)) { tmps := (ps.zip #[.int .i64 x.1]).foldl (fun t (p, v) => t.setIfInBounds p v) a.tmps, defers := [] } W)
    (hbody : ∀ (l : Nat) (pre : List (Mem s)) (x : Mem s) (W : World), I pre W → pre.length < 16 → body.wpIn ((F.inRound l₀).inRound l) (n - 1 - 1) Try.prog (ownPostG w.heap.size (KeepB B) I (fun _ _ _ => False) (pre ++ [x]) W) (a₁ x) W)
    (hdone : ∀ (xs : List (Mem s)) (W : World), vals xs = ms s → I xs W → Q .normal a W) :
    (Code.rangeFunc g ps assign body).wpIn (F.inRound l₀) n Try.prog Q a w := by
  obtain ⟨r, hr⟩ := hl₀
  exact wpIn_rangeFunc_ownN (F := F.inRound l₀) (Kp := KeepB B) (w0 := w) rfl hr h1 hg ((hO.inRound l₀).fn 70) (enters_of Try.func70 (by kernel_rfl) rfl) ((members_stops F hO hro (n - 1) B s hs w hB).inRound l₀) (fun h k => k.trans h)
    (fun W l o o' hl _ _ _ => World.putObj_heap_other (by have := hB.lt; omega)) (Below.refl _ _) (fun _ => by rw [hps]; rfl) I (fun _ _ _ => False) hI (fun _ _ _ _ _ h _ _ => h) h0 (fun x a' _ => a' = a₁ x) (fun _ _ _ _ _ _ hs _ _ => hs)
    (fun l pre x W K hi hK => hassign l x W K (hK _ _ (KeepsFrom.refl _ _) rfl hi rfl)) (fun l pre x a' W _ _ hi e => by subst e; exact hbody l pre x W hi) hdone (fun _ _ _ _ h => h.elim)
end Go.Proofs.Ytpaeagkgmbhndaa
/- Giving all pieces to the smaller ends. -/
namespace Go.Proofs.Ytpaeagkgmbhndaa
open Go.RowKit Go.Shelf
attribute [local go_sem] Oper.semAt_some
set_option maxHeartbeats 1000000
set_option maxRecDepth 100000
/-- Pieces given to the first ends of the arcs G. -/
structure Giv (pcs : Int) (G : Nat → Nat → Prop) (N : Prop) (k : Nat) (H : Nat → Nat → Int) (L : Nat → Int) : Prop where
  yes : ∀ a b, a < 16 → b < 16 → G a b → H a b = pcs
  no : ∀ a b, a < 16 → b < 16 → ¬ G a b → H a b = 0
  load : N → ∀ v, v < 16 → L v = outF H v
  bd : ∀ v, v < 16 → 0 ≤ L v ∧ L v ≤ 6000 * (k : Int)
theorem Giv.cast {pcs : Int} {G G' : Nat → Nat → Prop} {N N' : Prop} {k k' : Nat} {H : Nat → Nat → Int} {L : Nat → Int} (g : Giv pcs G N k H L) (hG : ∀ a b, a < 16 → b < 16 → (G' a b ↔ G a b)) (hN : N' → N) (hk : k ≤ k') : Giv pcs G' N' k' H L :=
  ⟨fun a b ha hb h => g.yes a b ha hb ((hG a b ha hb).1 h), fun a b ha hb h => g.no a b ha hb (fun h2 => h ((hG a b ha hb).2 h2)), fun h => g.load (hN h), fun v hv => by have := g.bd v hv; omega⟩
theorem Giv.give {pcs : Int} {G G' : Nat → Nat → Prop} {N N' : Prop} {k : Nat} {H : Nat → Nat → Int} {L : Nat → Int} (g : Giv pcs G N k H L) {u v : Nat} (hu : u < 16) (hv : v < 16) (hp : 0 ≤ pcs ∧ pcs ≤ 6000)
    (hG : ∀ a b, a < 16 → b < 16 → (G' a b ↔ G a b ∨ (a = u ∧ b = v))) (hN : N' → N ∧ ¬ G u v) : Giv pcs G' N' (k + 1) (upd2 H u v pcs) (upd L u (L u + pcs)) := by
  refine ⟨fun a b ha hb h => ?_, fun a b ha hb h => ?_, fun h x hx => ?_, fun x hx => ?_⟩
  · unfold upd2
    split
    · rfl
    · rename_i hne
      exact g.yes a b ha hb (((hG a b ha hb).1 h).resolve_right hne)
  · have := fun h2 => h ((hG a b ha hb).2 h2)
    unfold upd2
    rw [if_neg (fun e => this (.inr e))]
    exact g.no a b ha hb (fun h2 => this (.inl h2))
  · obtain ⟨hn, hg⟩ := hN h
    have h0 := g.no u v hu hv hg
    unfold upd outF
    by_cases e : x = u
    · subst e
      have : ∀ i, i < 16 → upd2 H x v pcs x i = upd (H x) v pcs i := fun i _ => by unfold upd2 upd; simp
      rw [if_pos rfl, sumN_congr 16 this, sumN_upd, if_pos hv, h0, g.load hn x hx]
      unfold outF; omega
    · have : ∀ i, i < 16 → upd2 H u v pcs x i = H x i := fun i _ => by unfold upd2; simp [e]
      rw [if_neg e, sumN_congr 16 this]; exact g.load hn x hx
  · have := g.bd x hx
    have h2 := g.bd u hu
    unfold upd
    split
    · subst_vars; omega
    · omega
def Gout (gs us : List Nat) (a b : Nat) : Prop := a ∈ us ∧ sHas (near gs a) b = true ∧ a < b
def Gin (gs us : List Nat) (u : Nat) (vs : List Nat) (a b : Nat) : Prop := Gout gs us a b ∨ (a = u ∧ b ∈ vs ∧ a < b)
theorem Row.ne {W : World} {a b : Nat} {t t' : TypeId} {cs cs' : List Value} (h : Row W a t cs) (h' : Row W b t' cs') (ht : t ≠ t') : a ≠ b := by
  intro e; subst e
  unfold Row at h h'
  rw [h] at h'; injection h' with h'; injection h' with _ h4; exact ht h4
theorem divide_any (m : Nat) (gs : List Nat) (pcs : Int) (w : World) (hg : Rows16 gs) (hm : m ≤ 16) (hp : 0 ≤ pcs ∧ pcs ≤ 6000) :
    Calls Try.prog 49 #[.agg (gcells m gs).toArray, .int .i64 pcs] w fun e w' => ∃ g H L, w.heap.size ≤ g ∧ e = .returned (.pointer (some ⟨g, 0, none⟩)) ∧ Giv pcs (Gout gs (ms (sAll m))) True 256 H L ∧ Div w' g m gs H L ∧ Below w.heap.size w w' := by
  have HAL := Lib.hid (fun w => all_any m gs w hm hg.len)
  have hs := all_lt hm
  have HI := Lib.hid (info75m (m := m) hg)
  have HB := Lib.hid (built108 m hg.len)
  refine callsIn_wide.1 (?_ : CallsIn Fence.wide 9 _ _ _ _ _)
  generalize hFw : Fence.wide = F
  have hO : Open F := hFw ▸ Open.wide
  have hro : F.round = none := hFw ▸ rfl
  clear hFw
  have hF := hO.fn
  have hd := hO.depth
  have F49 := hF 49
  refine callsIn_of_wp_marks Try.func49 rfl F49 ?_ hro
  simp only [Try.ntmps49, List.size_toArray, List.length_cons, List.length_nil, Nat.reduceAdd, Nat.reduceSub, Array.replicate_succ, Array.replicate_zero, List.push_toArray, List.append_toArray, List.nil_append, List.cons_append]
  gi_wp2_with (first
    | (refine wpListIn_load_mid rfl 75 (.tmp 2) rfl w.heap.size 0 rfl (gcells m gs) _ (Row.range (t := 75) (by repeat (first | (with_reducible exact row_new rfl) | (with_reducible refine Row.alloc ?_ _)))) Try.underlying75 rfl HI.out ?_)
    | (refine wpListIn_build rfl 108 0 (.tmp 8) rfl _ rfl _ HB.out ?_)
    | (gi_at_call 58; refine (hO.lift _ (HAL.out _)).mono ?_; rintro e w' ⟨rfl, hb2⟩)
    | (gi_at_call 61; refine (hO.lift _ (members_any _ _)).mono ?_; rintro e w' ⟨rfl, rfl⟩))
  have e3 : Below w.heap.size w ((((w.alloc (.cells (gcells m gs).toArray 75)).alloc (.cells #[.int .i64 pcs] 3)).alloc (.cells (dcells m gs (fun _ _ => 0) (fun _ => 0)).toArray 108)).alloc (.cells #[.pointer (some ⟨w.heap.size + 1 + 1, 0, none⟩)] 78)) := by (repeat (first | exact Below.refl _ _ | assumption | (refine Below.setCell ?_ (by first | exact Nat.le_refl _ | omega | (simp; done) | (simp; omega)) _) | (refine Below.trans ?_ (below_drewN _)) | (refine Below.drew ?_) | (refine Below.alloc ?_ (by first | exact Nat.le_refl _ | omega | (simp; done) | (simp; omega)) _) | (refine below_row ?_ (by first | exact Nat.le_refl _ | omega | (simp; done) | (simp; omega)) _)))
  have hb3 := e3.trans (hb2.mono (by simp; omega))
  have q0 : Row w' w.heap.size 75 (gcells m gs) := ((((row_new rfl : Row (w.alloc _) _ 75 (gcells m gs)).alloc _).alloc _).alloc _).below hb2
  have q1 : Row w' (w.heap.size + 1) 3 [.int .i64 pcs] := (((row_new (by simp) : Row ((w.alloc _).alloc _) _ 3 [.int .i64 pcs]).alloc _).alloc _).below hb2
  have q2 : Div w' (w.heap.size + 1 + 1) m gs (fun _ _ => 0) (fun _ => 0) := Row.below ((row_new (by simp) : Row (((w.alloc _).alloc _).alloc _) (w.heap.size + 1 + 1) 108 (dcells m gs (fun _ _ => 0) (fun _ => 0))).alloc _) hb2
  have q3 : Row w' (w.heap.size + 1 + 1 + 1) 78 [.pointer (some ⟨w.heap.size + 1 + 1, 0, none⟩)] := (row_new (by simp) : Row ((((w.alloc _).alloc _).alloc _).alloc _) _ 78 [.pointer (some ⟨w.heap.size + 1 + 1, 0, none⟩)]).below hb2
  have hz := q3.lt
  have r0 := q0.alloc (.cells #[.int .u32 (sAll m)] 72)
  have r1 := q1.alloc (.cells #[.int .u32 (sAll m)] 72)
  have r2 : Div (w'.alloc (.cells #[.int .u32 (sAll m)] 72)) (w.heap.size + 1 + 1) m gs (fun _ _ => 0) (fun _ => 0) := Row.alloc q2 _
  have r3 := q3.alloc (.cells #[.int .u32 (sAll m)] 72)
  have rB : Row (w'.alloc (.cells #[.int .u32 (sAll m)] 72)) w'.heap.size 72 [.int .u32 (sAll m)] := row_new rfl
  have hb4 := hb3.alloc (by omega) (.cells #[.int .u32 (sAll m)] 72)
  generalize hw4 : World.alloc w' _ = w4 at *
  have hz4 : w.heap.size + 5 ≤ w4.heap.size := by rw [← hw4]; simp; omega
  have hzB : w'.heap.size < w4.heap.size := rB.lt
  clear hw4 hb3 e3 q0 q1 q2 q3 hb2
  have g0 : Giv pcs (Gout gs []) ([] : List Nat).Nodup (16 * 0) (fun _ _ => 0) (fun _ => 0) := ⟨fun a b _ _ h => by simp [Gout] at h, fun _ _ _ _ _ => rfl, fun _ v _ => by unfold outF; rfl, fun v _ => by simp⟩
  refine range_membersH hO hro (by omega) w'.heap.size (sAll m) hs rB rfl rfl
    (fun pre W => ∃ H L, Giv pcs (Gout gs (vals pre)) (vals pre).Nodup (16 * pre.length) H L ∧ Div W (w.heap.size + 1 + 1) m gs H L ∧ Fr (fun _ => False) w W ∧ Row W w.heap.size 75 (gcells m gs) ∧ Row W (w.heap.size + 1) 3 [.int .i64 pcs] ∧ Row W (w.heap.size + 1 + 1 + 1) 78 [.pointer (some ⟨w.heap.size + 1 + 1, 0, none⟩)] ∧ Row W w'.heap.size 72 [.int .u32 (sAll m)])
    (ownFrom_ex fun H => ownFrom_ex fun L => OwnFrom.and ownFrom_pure (OwnFrom.and ownFrom_row (OwnFrom.and (ownFrom_fr hb4.size) (OwnFrom.and ownFrom_row (OwnFrom.and ownFrom_row (OwnFrom.and ownFrom_row ownFrom_row))))))
    ⟨_, _, g0, r2, Fr.of_below hb4, r0, r1, r3, rB⟩
    (fun x a' W => ∃ A, a' = { tmps := #[Value.agg (gcells m gs).toArray, Value.int .i64 pcs, Value.pointer (some { block := w.heap.size, off := 0 }), Value.pointer (some { block := w.heap.size + 1, off := 0 }), Value.pointer none, Value.pointer (some { block := w.heap.size + 1 + 1 + 1, off := 0 }), Value.pointer (some { block := A, off := 0 }), undef, Value.agg (gcells m gs).toArray, Value.agg (dcells m gs (fun _ _ => 0) (fun _ => 0)).toArray, Value.pointer (some { block := w.heap.size + 1 + 1, off := 0 }), Value.agg (gcells m gs).toArray, Value.int .u32 (sAll m : Nat), Value.func (Fn.func 70) #[] #[Value.pointer (some { block := w'.heap.size, off := 0 })], Value.int .i64 (x.1 : Nat), undef, undef, undef, undef, undef, undef, undef, undef, undef, undef, undef, undef, undef, undef, undef, undef, undef, undef, undef, undef, undef, undef, undef, undef, undef, undef, undef, undef, undef], defers := [] } ∧ Row W A 3 [.int .i64 (x.1 : Nat)])
    (fun x a' => ownFrom_ex fun A => OwnFrom.and ownFrom_pure ownFrom_row) ?assign ?body ?done
  case assign =>
    rintro l pre x W K ⟨H, L, hgv, hd, hfr, q0, q1, q3, qB⟩ hK
    gi_wp2
    exact hK _ _ ((KeepsOthers.alloc W _).from _) (keepB_row qB (qB.alloc _)) ⟨H, L, hgv, Row.alloc hd _, hfr.alloc _, q0.alloc _, q1.alloc _, q3.alloc _, qB.alloc _⟩ ⟨_, rfl, row_new rfl⟩
  case body =>
    rintro l pre x a' W hl hrec ⟨H, L, hgv, hd, hfr, q0, q1, q3, qB⟩ ⟨A, rfl, qA⟩ hlen
    have hxl := x.2.1
    obtain ⟨cA, fA⟩ := qA.cells1
    have c0 : W.cell? ⟨w.heap.size, 1 + x.1, none⟩ = some (.int .u32 (near gs x.1)) := by rw [q0.cell, gcells_s _ _ _ (by rw [hg.len]; exact hxl)]; rfl
    have hnl := hg.lt x.1
    obtain ⟨rc, hrc⟩ := hrec
    have hlW := (Array.getElem?_eq_some_iff.1 hrc).1
    gi_wp2_with (gi_at_call 61; refine ((hO.inRound l).lift _ (members_any _ _)).mono ?_; rintro e w' ⟨rfl, rfl⟩)
    have hk0 : KeepsFrom w4.heap.size W (W.alloc (.cells #[.int .u32 (near gs x.1)] 72)) := (KeepsOthers.alloc W _).from _
    refine range_membersN hO hro (by omega) ⟨rc, (Below.heap_alloc W _ l hlW).trans hrc⟩ W.heap.size (near gs x.1) hnl (row_new rfl) rfl rfl
      (fun pre2 W2 => ∃ H L, Giv pcs (Gin gs (vals pre) x.1 (vals pre2)) ((vals pre ++ [x.1]).Nodup ∧ (vals pre2).Nodup) (16 * pre.length + pre2.length) H L ∧ Div W2 (w.heap.size + 1 + 1) m gs H L ∧ Fr (fun _ => False) w W2 ∧ Row W2 w.heap.size 75 (gcells m gs) ∧ Row W2 (w.heap.size + 1) 3 [.int .i64 pcs] ∧ Row W2 (w.heap.size + 1 + 1 + 1) 78 [.pointer (some ⟨w.heap.size + 1 + 1, 0, none⟩)] ∧ Row W2 w'.heap.size 72 [.int .u32 (sAll m)] ∧ Row W2 A 3 [.int .i64 (x.1 : Nat)] ∧ Row W2 W.heap.size 72 [.int .u32 (near gs x.1)] ∧ KeepsFrom w4.heap.size W W2)
      (ownFrom_ex fun H => ownFrom_ex fun L => OwnFrom.and ownFrom_pure (OwnFrom.and ownFrom_row (OwnFrom.and (ownFrom_fr (by have := hfr.size; simp; omega)) (OwnFrom.and ownFrom_row (OwnFrom.and ownFrom_row (OwnFrom.and ownFrom_row (OwnFrom.and ownFrom_row (OwnFrom.and ownFrom_row (OwnFrom.and ownFrom_row ?hkf)))))))))
      ⟨H, L, hgv.cast (fun a b _ _ => by simp [Gin, vals]) (fun h => (List.nodup_append.1 h.1).1) (by simp), Row.alloc hd _, hfr.alloc _, q0.alloc _, q1.alloc _, q3.alloc _, qB.alloc _, qA.alloc _, row_new rfl, hk0⟩ ?b1 ?iassign ?ibody ?idone
    case hkf =>
      intro s2 A2 B2 row hs2 hg2 hr2
      refine ⟨Nat.le_trans hs2.size hg2.size, fun k o hk h1 h2 => (hg2.block k (Array.getElem?_eq_some_iff.1 (hs2.same k o hk h1 h2)).1 (fun e => ?_)).trans (hs2.same k o hk h1 h2)⟩
      have h3 := (hr2 k e.symm).1
      have h4 := (Array.getElem?_eq_some_iff.1 h1).1
      simp at h3; omega
    case iassign =>
      intro l2 y W2 K hK
      gi_wp2
      exact hK
    case ibody =>
      rintro l2 pre2 y W2 ⟨H2, L2, hgv2, hd2, hfr2, p0, p1, p3, pB, pA, pC, hk2⟩ hlen2
      have hyl := y.2.1
      have Hs := Lib.hid (vals_snoc pre2 y)
      have HG := Lib.hid hgv2
      have hbd := hgv2.bd x.1 hxl
      have hAne : A ≠ w.heap.size + 1 + 1 := Row.ne qA hd (by decide)
      have hWz : w.heap.size + 5 ≤ W.heap.size := by have := qB.lt; omega
      generalize hxx : x.1 = u at *
      generalize hyy : y.1 = v at *
      have d2 := hd2.has hg hxl hyl
      obtain ⟨c1, f1⟩ := p1.cells1
      obtain ⟨c3, f3⟩ := p3.cells1
      obtain ⟨cA2, fA2⟩ := pA.cells1
      have f17 := Row.free hd2 (17 + u * 16 + v)
      have lz := Row.lt hd2
      clear hgv2 hxx hyy
      cases g1 : decide (u < v)
      · gi_wp2
        refine ⟨KeepsFrom.refl _ _, rfl, H2, L2, HG.out.cast (fun a b _ _ => ?_) (fun h => ⟨h.1, ?_⟩) (by first | (simp; done) | (simp; omega)), hd2, hfr2, p0, p1, p3, pB, pA, pC, hk2⟩
        · have hnv := of_decide_eq_false g1
          rw [Hs.out]; unfold Gin
          constructor
          · rintro (h | ⟨rfl, h2, h3⟩)
            · exact .inl h
            · rcases List.mem_append.1 h2 with h2 | h2
              · exact .inr ⟨rfl, h2, h3⟩
              · simp at h2; subst h2; exact absurd h3 hnv
          · rintro (h | ⟨rfl, h2, h3⟩)
            · exact .inl h
            · exact .inr ⟨rfl, List.mem_append_left _ h2, h3⟩
        · have := h.2; rw [Hs.out] at this; exact (List.nodup_append.1 this).1
      · gi_wp2
        refine wpIn_region_quiet_tail ((hO.inRound l).inRound l2) 8 (by kernel_rfl) (by kernel_rfl) (by kernel_rfl) ?_
        simp only [List.take_succ_cons, List.take_zero, List.drop_succ_cons, List.drop_zero]
        repeat go_big_quiet_step ((fail))
        refine wpQuiet_nil ?_
        rintro _ ⟨nq, rfl⟩
        gi_wp2
        have hd3 := Div.setH (Row.drewN hd2 nq : Div (W2.drewN nq) _ m gs H2 L2) hg hxl hyl pcs
        have fr3 := (hfr2.drewN nq).setCell (p := ⟨w.heap.size + 1 + 1, 17 + u * 16 + v, none⟩) (.inr (by dsimp only; omega)) (.int .i64 pcs)
        have t0 := (p0.drewN nq).far (p := ⟨w.heap.size + 1 + 1, 17 + u * 16 + v, none⟩) (by dsimp only; omega) (.int .i64 pcs)
        have t1 := (p1.drewN nq).far (p := ⟨w.heap.size + 1 + 1, 17 + u * 16 + v, none⟩) (by dsimp only; omega) (.int .i64 pcs)
        have t3 := (p3.drewN nq).far (p := ⟨w.heap.size + 1 + 1, 17 + u * 16 + v, none⟩) (by dsimp only; omega) (.int .i64 pcs)
        have tB := (pB.drewN nq).far (p := ⟨w.heap.size + 1 + 1, 17 + u * 16 + v, none⟩) (by dsimp only; omega) (.int .i64 pcs)
        have tA := (pA.drewN nq).far (p := ⟨w.heap.size + 1 + 1, 17 + u * 16 + v, none⟩) hAne (.int .i64 pcs)
        have tC := (pC.drewN nq).far (p := ⟨w.heap.size + 1 + 1, 17 + u * 16 + v, none⟩) (by dsimp only; omega) (.int .i64 pcs)
        have hk3 := (keeps_drewN 0 W2 nq).trans ((KeepsOthers.setCell (W2.drewN nq) ⟨w.heap.size + 1 + 1, 17 + u * 16 + v, none⟩ (.int .i64 pcs)).from 0)
        generalize World.setCell (World.drewN W2 nq) _ _ = W3 at *
        clear c1 f1 c3 f3 cA2 fA2 f17 d2
        obtain ⟨c1, f1⟩ := t1.cells1
        obtain ⟨c3, f3⟩ := t3.cells1
        obtain ⟨cA2, fA2⟩ := tA.cells1
        have d273 := hd3.load hg hxl
        have f273 := Row.free hd3 (273 + u)
        have lz3 := Row.lt hd3
        gi_wp2
        refine wpIn_region_quiet_tail ((hO.inRound l).inRound l2) 11 (by kernel_rfl) (by kernel_rfl) (by kernel_rfl) ?_
        simp only [List.take_succ_cons, List.take_zero, List.drop_succ_cons, List.drop_zero]
        repeat go_big_quiet_step ((fail))
        refine wpQuiet_nil ?_
        rintro _ ⟨nq, rfl⟩
        gi_wp2
        have hk4 := hk3.trans ((keeps_drewN 0 W3 nq).trans ((KeepsOthers.setCell (W3.drewN nq) ⟨w.heap.size + 1 + 1, 273 + u, none⟩ (.int .i64 (L2 u + pcs))).from 0))
        have huv := of_decide_eq_true g1
        refine ⟨KeepsFrom.up hk4, keepB_row pC ((tC.drewN nq).far (by dsimp only; omega) _), upd2 H2 u v pcs, upd L2 u (L2 u + pcs), (HG.out.give (G' := Gin gs (vals pre) u (vals (pre2 ++ [y]))) (N' := (vals pre ++ [u]).Nodup ∧ (vals (pre2 ++ [y])).Nodup) hxl hyl hp (fun a b _ _ => ?_) (fun h => ⟨⟨h.1, ?_⟩, ?_⟩)).cast (fun _ _ _ _ => Iff.rfl) (fun h => h) (by first | (simp; done) | (simp; omega)), Div.setL (Row.drewN hd3 nq : Div (W3.drewN nq) _ m gs _ L2) hg hxl _, (fr3.drewN nq).setCell (.inr (by dsimp only; omega)) _, (t0.drewN nq).far (by dsimp only; omega) _, (t1.drewN nq).far (by dsimp only; omega) _, (t3.drewN nq).far (by dsimp only; omega) _, (tB.drewN nq).far (by dsimp only; omega) _, (tA.drewN nq).far hAne _, (tC.drewN nq).far (by dsimp only; omega) _, hk2.trans (KeepsFrom.up hk4)⟩
        · rw [Hs.out]; unfold Gin
          constructor
          · rintro (h | ⟨rfl, h2, h3⟩)
            · exact .inl (.inl h)
            · rcases List.mem_append.1 h2 with h2 | h2
              · exact .inl (.inr ⟨rfl, h2, h3⟩)
              · simp at h2; exact .inr ⟨rfl, h2⟩
          · rintro ((h | ⟨rfl, h2, h3⟩) | ⟨rfl, rfl⟩)
            · exact .inl h
            · exact .inr ⟨rfl, List.mem_append_left _ h2, h3⟩
            · exact .inr ⟨rfl, by simp, huv⟩
        · have := h.2; rw [Hs.out] at this; exact (List.nodup_append.1 this).1
        · rintro (⟨h1, _⟩ | ⟨_, h2, _⟩)
          · exact (List.nodup_append.1 h.1).2.2 u h1 u (by simp) rfl
          · have := h.2; rw [Hs.out] at this
            exact (List.nodup_append.1 this).2.2 v h2 v (by simp) rfl
    case idone =>
      rintro xs W2 hxs ⟨H2, L2, hgv2, hd2, hfr2, p0, p1, p3, pB, pA, pC, hk2⟩
      gi_wp2
      refine ⟨hk2, keepB_row qB pB, H2, L2, hgv2.cast (fun a b ha hb => ?_) (fun h => ?_) ?_, hd2, hfr2, p0, p1, p3, pB⟩
      · rw [vals_snoc, hxs]
        unfold Gin Gout
        constructor
        · rintro ⟨h1, h2, h3⟩
          rcases List.mem_append.1 h1 with h1 | h1
          · exact .inl ⟨h1, h2, h3⟩
          · simp at h1; subst h1; exact .inr ⟨rfl, mem_ms.2 ⟨hb, h2⟩, h3⟩
        · rintro (⟨h1, h2, h3⟩ | ⟨rfl, h2, h3⟩)
          · exact ⟨List.mem_append_left _ h1, h2, h3⟩
          · exact ⟨by simp, (mem_ms.1 h2).2, h3⟩
      · rw [vals_snoc] at h
        exact ⟨h, by rw [hxs]; exact (List.nodup_range).filter _⟩
      · have : xs.length ≤ 16 := by rw [← vals_len, hxs]; exact ms_len _
        simp; omega
  case done =>
    rintro D xs W hD hxs ⟨H, L, hgv, hd, hfr, q0, q1, q3, qB⟩ hK
    obtain ⟨c3, f3⟩ := q3.cells1
    have hxl : xs.length ≤ 16 := by rw [← vals_len, hxs]; exact ms_len _
    gi_wp2
    refine ret_marks [D] (marks_one hK) (v := .pointer (some ⟨w.heap.size + 1 + 1, 0, none⟩)) ?_ ⟨_, H, L, by omega, rfl, hgv.cast (fun a b _ _ => by rw [hxs]) (fun _ => by rw [hxs]; exact (List.nodup_range).filter _) (by omega), shut_row (marks_one hK) hd, shut_below hfr.below (by simp; omega)⟩
    simp [results, Try.results49, go_sem]
end Go.Proofs.Ytpaeagkgmbhndaa
/- What a graph that was read has. -/
namespace Go.Proofs.Ytpaeagkgmbhndaa
set_option maxHeartbeats 400000
theorem add_has {gs : List Nat} (h : Rows16 gs) {a b : Nat} (ha : a < 16) (hb : b < 16) (hne : a ≠ b) (u v : Nat) : sHas (near (addE gs a b) u) v = true ↔ sHas (near gs u) v = true ∨ (u = a ∧ v = b) ∨ (u = b ∧ v = a) := by
  unfold addE
  rw [near_set _ _ _ _ (by rw [List.length_set, h.len]; exact hb)]
  by_cases e1 : b = u
  · subst e1
    rw [if_pos rfl, with_has, near_set _ _ _ _ (by rw [h.len]; exact ha), if_neg hne]
    simp only [Bool.or_eq_true, decide_eq_true_eq]
    constructor
    · rintro (h1 | h1)
      · exact .inl h1
      · exact .inr (.inr ⟨by trivial, h1.symm⟩)
    · rintro (h1 | ⟨h1, _⟩ | ⟨_, h1⟩)
      · exact .inl h1
      · exact absurd h1.symm hne
      · exact .inr h1.symm
  · rw [if_neg e1, near_set _ _ _ _ (by rw [h.len]; exact ha)]
    by_cases e2 : a = u
    · subst e2
      rw [if_pos rfl, with_has]
      simp only [Bool.or_eq_true, decide_eq_true_eq]
      constructor
      · rintro (h1 | h1)
        · exact .inl h1
        · exact .inr (.inl ⟨by trivial, h1.symm⟩)
      · rintro (h1 | ⟨_, h1⟩ | ⟨h1, _⟩)
        · exact .inl h1
        · exact .inr h1.symm
        · exact absurd h1.symm e1
    · rw [if_neg e2]
      constructor
      · exact .inl
      · rintro (h1 | ⟨h1, _⟩ | ⟨h1, _⟩)
        · exact h1
        · exact absurd h1.symm e2
        · exact absurd h1.symm e1
/-- Some edge joins u and v. -/
def Joins (es : List (Int × Int)) (u v : Nat) : Prop := ∃ e ∈ es, (e.1 = u ∧ e.2 = v) ∨ (e.1 = v ∧ e.2 = u)
theorem rd_has {n : Nat} (hn : n ≤ 16) : ∀ (es : List (Int × Int)) (gs gs' : List Nat), Rows16 gs → rd n es gs = some gs' → ∀ u v, sHas (near gs' u) v = true ↔ sHas (near gs u) v = true ∨ Joins es u v := by
  intro es
  induction es with
  | nil => intro gs gs' h he u v; simp [rd] at he; subst he; simp [Joins]
  | cons e es ih =>
    intro gs gs' h he u v
    rw [rd] at he
    split at he
    · rename_i hok
      unfold okE at hok
      simp only [Bool.and_eq_true, decide_eq_true_eq] at hok
      obtain ⟨g1, g2, g3, _⟩ := hok
      rw [ih _ _ (h.addE (by omega) (by omega)) he u v, add_has h (by omega) (by omega) (by omega)]
      unfold Joins
      constructor
      · rintro ((h1 | ⟨h1, h2⟩ | ⟨h1, h2⟩) | ⟨x, hx, h1⟩)
        · exact .inl h1
        · exact .inr ⟨e, List.mem_cons_self .., .inl ⟨by omega, by omega⟩⟩
        · exact .inr ⟨e, List.mem_cons_self .., .inr ⟨by omega, by omega⟩⟩
        · exact .inr ⟨x, List.mem_cons_of_mem _ hx, h1⟩
      · rintro (h1 | ⟨x, hx, h1⟩)
        · exact .inl (.inl h1)
        · rcases List.mem_cons.1 hx with rfl | hx
          · rcases h1 with ⟨h1, h2⟩ | ⟨h1, h2⟩
            · exact .inl (.inr (.inl ⟨by omega, by omega⟩))
            · exact .inl (.inr (.inr ⟨by omega, by omega⟩))
          · exact .inr ⟨x, hx, h1⟩
    · cases he
theorem readF_has {m : Nat} {es : List (Int × Int)} {gs : List Nat} (h : readF m es = some gs) (u v : Nat) : sHas (near gs u) v = true ↔ Joins es u v := by
  unfold readF at h
  split at h
  · rename_i hn
    rw [rd_has (by omega) es _ _ rows_zero h]
    have : sHas (near (List.replicate 16 0) u) v = false := by unfold near sHas; rw [List.getElem?_replicate]; split <;> simp
    rw [this]; simp
  · cases h
theorem readF_sym {m : Nat} {es : List (Int × Int)} {gs : List Nat} (h : readF m es = some gs) (u v : Nat) : sHas (near gs u) v = sHas (near gs v) u := by
  rw [Bool.eq_iff_iff, readF_has h, readF_has h]
  unfold Joins
  constructor
  · rintro ⟨e, he, h1⟩; exact ⟨e, he, h1.symm⟩
  · rintro ⟨e, he, h1⟩; exact ⟨e, he, h1.symm⟩
theorem readF_low {m : Nat} {es : List (Int × Int)} {gs : List Nat} (h : readF m es = some gs) {u v : Nat} (hu : sHas (near gs u) v = true) : u < m := by
  obtain ⟨e, he, h1⟩ := (readF_has h u v).1 hu
  obtain ⟨k, hk, rfl⟩ := List.getElem_of_mem he
  have h2 := readF_edges h hk
  have e1 : pA es k = es[k].1 := by unfold pA; rw [List.getD_eq_getElem?_getD, List.getElem?_eq_getElem hk]; rfl
  have e2 : pB es k = es[k].2 := by unfold pB; rw [List.getD_eq_getElem?_getD, List.getElem?_eq_getElem hk]; rfl
  rw [e1, e2] at h2
  omega
/-- All pieces given to the smaller ends are a spread. -/
theorem Giv.spread {m : Nat} {es : List (Int × Int)} {gs : List Nat} (h : readF m es = some gs) {pcs : Int} (hp0 : 0 ≤ pcs) {k : Nat} {H : Nat → Nat → Int} {L : Nat → Int} (g : Giv pcs (Gout gs (ms (sAll m))) True k H L) : Spread gs pcs H L := by
  obtain ⟨hm1, hm2, hg, hI⟩ := readF_ok h
  have hall : ∀ u v, sHas (near gs u) v = true → u ∈ ms (sAll m) := fun u v hu => by
    have := readF_low h hu
    exact mem_ms.2 ⟨by omega, by unfold sHas; rw [all_bit]; simpa using this⟩
  have hir : ∀ u v, u < 16 → sHas (near gs u) v = true → u ≠ v := fun u v hu h1 e => by subst e; rw [hI u hu] at h1; cases h1
  refine ⟨fun u v hu hv => ?_, fun u v hu hv h1 => ?_, fun u v hu hv h1 => ?_, fun v hv => g.load trivial v hv⟩
  · by_cases e : Gout gs (ms (sAll m)) u v
    · rw [g.yes u v hu hv e]; exact hp0
    · rw [g.no u v hu hv e]; exact Int.le_refl _
  · have h2 : sHas (near gs v) u = true := by rw [← readF_sym h]; exact h1
    rcases Nat.lt_or_gt_of_ne (hir u v hu h1) with h3 | h3
    · rw [g.yes u v hu hv ⟨hall u v h1, h1, h3⟩, g.no v u hv hu (fun e => by have := e.2.2; omega)]; omega
    · rw [g.yes v u hv hu ⟨hall v u h2, h2, h3⟩, g.no u v hu hv (fun e => by have := e.2.2; omega)]; omega
  · exact g.no u v hu hv (fun e => by have := e.2.1; rw [h1] at this; cases this)
end Go.Proofs.Ytpaeagkgmbhndaa
/- Sums over sets of vertices: a set from which nothing can be given away is denser. -/
namespace Go.Proofs.Ytpaeagkgmbhndaa
set_option maxHeartbeats 400000
theorem sumN_s (n : Nat) (f : Nat → Int) : sumN (n + 1) f = sumN n f + f n := rfl
theorem sumN_add (f g : Nat → Int) : ∀ n, sumN n (fun i => f i + g i) = sumN n f + sumN n g
  | 0 => rfl
  | n + 1 => by rw [sumN_s, sumN_s, sumN_s, sumN_add f g n]; omega
theorem sumN_mul (c : Int) (f : Nat → Int) : ∀ n, sumN n (fun i => c * f i) = c * sumN n f
  | 0 => by simp [sumN]
  | n + 1 => by rw [sumN_s, sumN_s, sumN_mul c f n, Int.mul_add]
theorem sumN_zero : ∀ n, sumN n (fun _ => 0) = 0
  | 0 => rfl
  | n + 1 => by unfold sumN; rw [sumN_zero n]; rfl
theorem sumN_swap (f : Nat → Nat → Int) (m : Nat) : ∀ n, sumN n (fun i => sumN m (f i)) = sumN m (fun j => sumN n (fun i => f i j))
  | 0 => (sumN_zero m).symm
  | n + 1 => by
    show sumN n (fun i => sumN m (f i)) + sumN m (f n) = _
    rw [sumN_swap f m n, ← sumN_add]; rfl
theorem sum_upTo (s : Nat) (f : Nat → Nat) : ∀ k, (((upTo s k).map f).sum : Int) = sumN k (fun v => if sHas s v = true then (f v : Int) else 0)
  | 0 => by simp [upTo, sumN]
  | k + 1 => by
    rw [sumN_s]
    cases h : sHas s k
    · rw [upTo_no h, sum_upTo s f k, if_neg (by simp)]; omega
    · rw [upTo_yes h, List.map_append, List.sum_append, if_pos rfl]
      have := sum_upTo s f k
      simp only [List.map_cons, List.map_nil, List.sum_cons, List.sum_nil]
      omega
theorem sum_ms (s : Nat) (f : Nat → Nat) : (((ms s).map f).sum : Int) = sumN 16 (fun v => if sHas s v = true then (f v : Int) else 0) := sum_upTo s f 16
theorem pc_sum (s : Nat) : (pc 16 s : Int) = sumN 16 (fun v => if sHas s v = true then 1 else 0) := by
  have h := sum_ms s (fun _ => 1)
  have e : ((ms s).map (fun _ => 1)).sum = pc 16 s := by
    unfold pc ms sHas; rw [List.map_const', List.sum_replicate_nat]; simp
  rw [e] at h; rw [h]; rfl
theorem sumN_lt {f g : Nat → Int} : ∀ n, (∀ i, i < n → f i ≤ g i) → ∀ k, k < n → f k < g k → sumN n f < sumN n g
  | 0, _, k, hk, _ => absurd hk (by omega)
  | n + 1, h, k, hk, hl => by
    unfold sumN
    by_cases e : k = n
    · subst e
      have : sumN k f ≤ sumN k g := by
        have := sumN_nn (f := fun i => g i - f i) k (fun i hi => by have := h i (by omega); omega)
        have e2 : sumN k (fun i => g i - f i) = sumN k g + sumN k (fun i => (-1) * f i) := by rw [← sumN_add]; exact sumN_congr k (fun i _ => by omega)
        rw [e2, sumN_mul] at this; omega
      omega
    · have := sumN_lt n (fun i hi => h i (by omega)) k (by omega) hl
      have := h n (by omega); omega
/-- The load of a closed set is that of the edges inside it. -/
theorem Spread.closed {gs : List Nat} {pcs : Int} {H : Nat → Nat → Int} {L : Nat → Int} (s : Spread gs pcs H L) (hsym : ∀ u v, sHas (near gs u) v = sHas (near gs v) u) {R : Nat}
    (hc : ∀ v, v < 16 → sHas R v = true → ∀ u, u < 16 → sHas (near gs v) u = true → H v u ≠ 0 → sHas R u = true) :
    2 * sumN 16 (fun v => if sHas R v = true then L v else 0) = pcs * (endsOf gs R (ms R) : Int) := by
  have h1 : sumN 16 (fun v => if sHas R v = true then L v else 0) = sumN 16 (fun v => sumN 16 (fun u => if sHas R v = true ∧ sHas R u = true then H v u else 0)) := by
    refine sumN_congr 16 (fun v hv => ?_)
    by_cases e : sHas R v = true
    · rw [if_pos e, s.load v hv]; unfold outF
      refine sumN_congr 16 (fun u hu => ?_)
      by_cases e2 : sHas R u = true
      · rw [if_pos ⟨e, e2⟩]
      · rw [if_neg (fun h => e2 h.2)]
        cases hn : sHas (near gs v) u
        · exact s.no v u hv hu hn
        · exact Decidable.byContradiction fun h0 => e2 (hc v hv e u hu hn h0)
    · rw [if_neg e]
      exact ((sumN_congr 16 (fun u _ => if_neg (fun h => e h.1))).trans (sumN_zero 16)).symm
  have h2 : sumN 16 (fun v => sumN 16 (fun u => if sHas R v = true ∧ sHas R u = true then H v u else 0)) = sumN 16 (fun v => sumN 16 (fun u => if sHas R v = true ∧ sHas R u = true then H u v else 0)) := by
    rw [sumN_swap]
    refine sumN_congr 16 (fun v _ => sumN_congr 16 (fun u _ => ?_))
    by_cases e : sHas R v = true ∧ sHas R u = true
    · rw [if_pos e, if_pos ⟨e.2, e.1⟩]
    · rw [if_neg e, if_neg (fun h => e ⟨h.2, h.1⟩)]
  have h3 : (endsOf gs R (ms R) : Int) = sumN 16 (fun v => sumN 16 (fun u => if sHas R v = true ∧ sHas R u = true ∧ sHas (near gs v) u = true then 1 else 0)) := by
    unfold endsOf
    rw [sum_ms]
    refine sumN_congr 16 (fun v hv => ?_)
    by_cases e : sHas R v = true
    · rw [if_pos e, pc_sum]
      refine sumN_congr 16 (fun u hu => ?_)
      have hb : sHas (sAnd (near gs v) R) u = ((near gs v).testBit u && R.testBit u) := sAnd_bit _ _ _
      rw [hb]
      unfold sHas at *
      by_cases e1 : R.testBit u = true <;> by_cases e2 : (near gs v).testBit u = true <;> simp [e, e1, e2]
    · rw [if_neg e]
      exact ((sumN_congr 16 (fun u _ => if_neg (fun h => e h.1))).trans (sumN_zero 16)).symm
  have h4 : 2 * sumN 16 (fun v => if sHas R v = true then L v else 0) = sumN 16 (fun v => sumN 16 (fun u => if sHas R v = true ∧ sHas R u = true then H v u else 0)) + sumN 16 (fun v => sumN 16 (fun u => if sHas R v = true ∧ sHas R u = true then H u v else 0)) := by rw [← h2, ← h1]; omega
  rw [h4, h3, ← sumN_mul, ← sumN_add]
  refine sumN_congr 16 (fun v hv => ?_)
  rw [← sumN_add, ← sumN_mul]
  refine sumN_congr 16 (fun u hu => ?_)
  by_cases e : sHas R v = true ∧ sHas R u = true
  · rw [if_pos e, if_pos e]
    cases hn : sHas (near gs v) u
    · rw [s.no v u hv hu hn, s.no u v hu hv (by rw [← hsym]; exact hn)]; simp
    · rw [s.sum v u hv hu hn, if_pos ⟨e.1, e.2, rfl⟩]; simp
  · rw [if_neg e, if_neg e, if_neg (fun h => e ⟨h.1, h.2.1⟩)]; simp
/-- A vertex with too great a load from which no way leads on: what it reaches is denser than the limit. -/
theorem Spread.denser {gs : List Nat} {pcs : Int} {H : Nat → Nat → Int} {L : Nat → Int} (s : Spread gs pcs H L) (hsym : ∀ u v, sHas (near gs u) v = sHas (near gs v) u) {f : Nat} {lim : Int} {R : Nat} (hf : f < 16) (hl : lim < L f) (w : WayPost gs H L f lim R []) :
    2 * (lim * (pc 16 R : Int)) < pcs * (endsOf gs R (ms R) : Int) := by
  obtain ⟨h1, h2⟩ := w.stuck rfl
  rw [← s.closed hsym h1, pc_sum, ← sumN_mul]
  have : sumN 16 (fun v => lim * (if sHas R v = true then 1 else 0)) < sumN 16 (fun v => if sHas R v = true then L v else 0) := by
    refine sumN_lt 16 (fun v hv => ?_) f hf ?_
    · by_cases e : sHas R v = true
      · rw [if_pos e, if_pos e, Int.mul_one]
        by_cases e2 : v = f
        · subst e2; omega
        · exact h2 v hv e e2
      · rw [if_neg e, if_neg e]; simp
    · rw [if_pos w.root, if_pos w.root, Int.mul_one]; exact hl
  omega
/-- Where no load is too great, no set is denser than the limit. -/
theorem Spread.none_denser {gs : List Nat} {pcs : Int} {H : Nat → Nat → Int} {L : Nat → Int} (s : Spread gs pcs H L) (hsym : ∀ u v, sHas (near gs u) v = sHas (near gs v) u) {lim : Int} {S : Nat} (hl : ∀ v, v < 16 → sHas S v = true → L v ≤ lim) :
    pcs * (endsOf gs S (ms S) : Int) ≤ 2 * (lim * (pc 16 S : Int)) := by
  have h3 : (endsOf gs S (ms S) : Int) = sumN 16 (fun v => sumN 16 (fun u => if sHas S v = true ∧ sHas S u = true ∧ sHas (near gs v) u = true then 1 else 0)) := by
    unfold endsOf
    rw [sum_ms]
    refine sumN_congr 16 (fun v hv => ?_)
    by_cases e : sHas S v = true
    · rw [if_pos e, pc_sum]
      refine sumN_congr 16 (fun u hu => ?_)
      have hb : sHas (sAnd (near gs v) S) u = ((near gs v).testBit u && S.testBit u) := sAnd_bit _ _ _
      rw [hb]
      unfold sHas at *
      by_cases e1 : S.testBit u = true <;> by_cases e2 : (near gs v).testBit u = true <;> simp [e, e1, e2]
    · rw [if_neg e]
      exact ((sumN_congr 16 (fun u _ => if_neg (fun h => e h.1))).trans (sumN_zero 16)).symm
  have sumN_mono : ∀ {f g : Nat → Int} n, (∀ i, i < n → f i ≤ g i) → sumN n f ≤ sumN n g := by
    intro f g n
    induction n with
    | zero => intro _; exact Int.le_refl _
    | succ n ih => intro h; rw [sumN_s, sumN_s]; have := ih (fun i hi => h i (by omega)); have := h n (by omega); omega
  have h2 : sumN 16 (fun v => sumN 16 (fun u => if sHas S v = true ∧ sHas S u = true then H v u else 0)) = sumN 16 (fun v => sumN 16 (fun u => if sHas S v = true ∧ sHas S u = true then H u v else 0)) := by
    rw [sumN_swap]
    refine sumN_congr 16 (fun v _ => sumN_congr 16 (fun u _ => ?_))
    by_cases e : sHas S v = true ∧ sHas S u = true
    · rw [if_pos e, if_pos ⟨e.2, e.1⟩]
    · rw [if_neg e, if_neg (fun h => e ⟨h.2, h.1⟩)]
  have h4 : pcs * (endsOf gs S (ms S) : Int) = 2 * sumN 16 (fun v => sumN 16 (fun u => if sHas S v = true ∧ sHas S u = true then H v u else 0)) := by
    have e1 : 2 * sumN 16 (fun v => sumN 16 (fun u => if sHas S v = true ∧ sHas S u = true then H v u else 0)) = sumN 16 (fun v => sumN 16 (fun u => if sHas S v = true ∧ sHas S u = true then H v u else 0)) + sumN 16 (fun v => sumN 16 (fun u => if sHas S v = true ∧ sHas S u = true then H u v else 0)) := by rw [← h2]; omega
    rw [e1, h3, ← sumN_mul, ← sumN_add]
    refine sumN_congr 16 (fun v hv => ?_)
    rw [← sumN_add, ← sumN_mul]
    refine sumN_congr 16 (fun u hu => ?_)
    by_cases e : sHas S v = true ∧ sHas S u = true
    · rw [if_pos e, if_pos e]
      cases hn : sHas (near gs v) u
      · rw [s.no v u hv hu hn, s.no u v hu hv (by rw [← hsym]; exact hn)]; simp
      · rw [s.sum v u hv hu hn, if_pos ⟨e.1, e.2, rfl⟩]; simp
    · rw [if_neg e, if_neg e, if_neg (fun h => e ⟨h.1, h.2.1⟩)]; simp
  rw [h4, pc_sum]
  have h5 : sumN 16 (fun v => sumN 16 (fun u => if sHas S v = true ∧ sHas S u = true then H v u else 0)) ≤ sumN 16 (fun v => lim * (if sHas S v = true then 1 else 0)) := by
    refine sumN_mono 16 (fun v hv => ?_)
    by_cases e : sHas S v = true
    · rw [if_pos e, Int.mul_one]
      refine Int.le_trans ?_ (hl v hv e)
      rw [s.load v hv]; unfold outF
      refine sumN_mono 16 (fun u hu => ?_)
      have := s.nn v u hv hu
      split <;> omega
    · rw [if_neg e]
      have : sumN 16 (fun u => if sHas S v = true ∧ sHas S u = true then H v u else 0) = 0 := (sumN_congr 16 (fun u _ => if_neg (fun h => e h.1))).trans (sumN_zero 16)
      rw [this]; simp
  rw [sumN_mul] at h5
  omega
end Go.Proofs.Ytpaeagkgmbhndaa
/- Which sets are densest: the full vertices are the greatest one. -/
namespace Go.Proofs.Ytpaeagkgmbhndaa
set_option maxHeartbeats 400000
theorem sumN_mono {f g : Nat → Int} : ∀ n, (∀ i, i < n → f i ≤ g i) → sumN n f ≤ sumN n g
  | 0, _ => Int.le_refl _
  | n + 1, h => by rw [sumN_s, sumN_s]; have := sumN_mono n (fun i hi => h i (by omega)); have := h n (by omega); omega
theorem sumN_all0 {f : Nat → Int} : ∀ n, (∀ i, i < n → 0 ≤ f i) → sumN n f = 0 → ∀ i, i < n → f i = 0
  | 0, _, _, i, hi => absurd hi (by omega)
  | n + 1, h, h0, i, hi => by
    rw [sumN_s] at h0
    have h1 := sumN_nn n (fun i hi => h i (by omega))
    have h2 := h n (by omega)
    by_cases e : i = n
    · subst e; omega
    · exact sumN_all0 n (fun i hi => h i (by omega)) (by omega) i (by omega)
/-- A vertex's pieces of the edges inside a set. -/
def inF (H : Nat → Nat → Int) (S v : Nat) : Int := sumN 16 (fun u => if sHas S v = true ∧ sHas S u = true then H v u else 0)
theorem ends_sum (gs : List Nat) (S : Nat) : (endsOf gs S (ms S) : Int) = sumN 16 (fun v => sumN 16 (fun u => if sHas S v = true ∧ sHas S u = true ∧ sHas (near gs v) u = true then 1 else 0)) := by
  unfold endsOf
  rw [sum_ms]
  refine sumN_congr 16 (fun v hv => ?_)
  by_cases e : sHas S v = true
  · rw [if_pos e, pc_sum]
    refine sumN_congr 16 (fun u hu => ?_)
    have hb : sHas (sAnd (near gs v) S) u = ((near gs v).testBit u && S.testBit u) := sAnd_bit _ _ _
    rw [hb]
    unfold sHas at *
    by_cases e1 : S.testBit u = true <;> by_cases e2 : (near gs v).testBit u = true <;> simp [e, e1, e2]
  · rw [if_neg e]
    exact ((sumN_congr 16 (fun u _ => if_neg (fun h => e h.1))).trans (sumN_zero 16)).symm
theorem Spread.ends {gs : List Nat} {pcs : Int} {H : Nat → Nat → Int} {L : Nat → Int} (s : Spread gs pcs H L) (hsym : ∀ u v, sHas (near gs u) v = sHas (near gs v) u) (S : Nat) :
    pcs * (endsOf gs S (ms S) : Int) = 2 * sumN 16 (inF H S) := by
  have h2 : sumN 16 (fun v => sumN 16 (fun u => if sHas S v = true ∧ sHas S u = true then H v u else 0)) = sumN 16 (fun v => sumN 16 (fun u => if sHas S v = true ∧ sHas S u = true then H u v else 0)) := by
    rw [sumN_swap]
    refine sumN_congr 16 (fun v _ => sumN_congr 16 (fun u _ => ?_))
    by_cases e : sHas S v = true ∧ sHas S u = true
    · rw [if_pos e, if_pos ⟨e.2, e.1⟩]
    · rw [if_neg e, if_neg (fun h => e ⟨h.2, h.1⟩)]
  have e1 : 2 * sumN 16 (inF H S) = sumN 16 (fun v => sumN 16 (fun u => if sHas S v = true ∧ sHas S u = true then H v u else 0)) + sumN 16 (fun v => sumN 16 (fun u => if sHas S v = true ∧ sHas S u = true then H u v else 0)) := by
    rw [← h2]; unfold inF; omega
  rw [e1, ends_sum, ← sumN_mul, ← sumN_add]
  refine sumN_congr 16 (fun v hv => ?_)
  rw [← sumN_add, ← sumN_mul]
  refine sumN_congr 16 (fun u hu => ?_)
  by_cases e : sHas S v = true ∧ sHas S u = true
  · rw [if_pos e, if_pos e]
    cases hn : sHas (near gs v) u
    · rw [s.no v u hv hu hn, s.no u v hu hv (by rw [← hsym]; exact hn)]; simp
    · rw [s.sum v u hv hu hn, if_pos ⟨e.1, e.2, rfl⟩]; simp
  · rw [if_neg e, if_neg e, if_neg (fun h => e ⟨h.1, h.2.1⟩)]; simp
theorem Spread.in_le {gs : List Nat} {pcs : Int} {H : Nat → Nat → Int} {L : Nat → Int} (s : Spread gs pcs H L) (S : Nat) {v : Nat} (hv : v < 16) : inF H S v ≤ if sHas S v = true then L v else 0 := by
  unfold inF
  by_cases e : sHas S v = true
  · rw [if_pos e, s.load v hv]; unfold outF
    refine sumN_mono 16 (fun u hu => ?_)
    have := s.nn v u hv hu
    split <;> omega
  · rw [if_neg e]
    have : sumN 16 (fun u => if sHas S v = true ∧ sHas S u = true then H v u else 0) = 0 := (sumN_congr 16 (fun u _ => if_neg (fun h => e h.1))).trans (sumN_zero 16)
    rw [this]; exact Int.le_refl _
/-- A set that is as dense as the limit is full, and nothing can be moved out of it. -/
theorem Spread.tight {gs : List Nat} {pcs : Int} {H : Nat → Nat → Int} {L : Nat → Int} (s : Spread gs pcs H L) (hsym : ∀ u v, sHas (near gs u) v = sHas (near gs v) u) {lim : Int} {T : Nat}
    (hl : ∀ v, v < 16 → sHas T v = true → L v ≤ lim) (he : pcs * (endsOf gs T (ms T) : Int) = 2 * (lim * (pc 16 T : Int))) :
    ∀ v, v < 16 → sHas T v = true → L v = lim ∧ ∀ u, u < 16 → H v u ≠ 0 → sHas T u = true := by
  rw [s.ends hsym, pc_sum, ← sumN_mul lim] at he
  have h0 : sumN 16 (fun v => lim * (if sHas T v = true then 1 else 0) - inF H T v) = 0 := by
    have : sumN 16 (fun v => lim * (if sHas T v = true then 1 else 0) - inF H T v) = sumN 16 (fun v => lim * (if sHas T v = true then 1 else 0)) + sumN 16 (fun v => (-1) * inF H T v) := by
      rw [← sumN_add]; exact sumN_congr 16 (fun i _ => by omega)
    rw [this, sumN_mul (-1)]; omega
  have hnn : ∀ v, v < 16 → 0 ≤ lim * (if sHas T v = true then 1 else 0) - inF H T v := fun v hv => by
    have h1 := s.in_le T hv
    by_cases e : sHas T v = true
    · rw [if_pos e] at h1 ⊢; have := hl v hv e; omega
    · rw [if_neg e] at h1 ⊢; omega
  intro v hv e
  have h1 := sumN_all0 16 hnn h0 v hv
  have h2 := s.in_le T hv
  have h3 := hl v hv e
  rw [if_pos e] at h1 h2
  have h4 : L v = lim := by omega
  refine ⟨h4, fun u hu hn => Decidable.byContradiction fun hT => ?_⟩
  have h5 : sumN 16 (fun u => H v u - (if sHas T v = true ∧ sHas T u = true then H v u else 0)) = 0 := by
    have : sumN 16 (fun u => H v u - (if sHas T v = true ∧ sHas T u = true then H v u else 0)) = sumN 16 (H v) + sumN 16 (fun u => (-1) * (if sHas T v = true ∧ sHas T u = true then H v u else 0)) := by
      rw [← sumN_add]; exact sumN_congr 16 (fun i _ => by omega)
    rw [this, sumN_mul (-1)]
    have e5 := s.load v hv
    unfold outF at e5
    unfold inF at h1
    omega
  have h6 := sumN_all0 16 (fun u hu => by have := s.nn v u hv hu; split <;> omega) h5 u hu
  rw [if_neg (fun h => hT h.2)] at h6
  omega
/-- A way stays within a set that it can't leave. -/
theorem WayL.stays {E : Nat → Nat → Prop} {f T : Nat} (hc : ∀ a b, sHas T a = true → E a b → sHas T b = true) (hf : sHas T f = true) : ∀ ws : List Nat, WayL E f ws → ∀ x ∈ ws, sHas T x = true
  | [], h, _, _ => h.elim
  | [v], h, x, hx => by
    have hv : v = f := h
    simp at hx; subst hx; subst hv; exact hf
  | v :: p :: t, h, x, hx => by
    obtain ⟨h1, _, h2⟩ := h
    have ih := WayL.stays hc hf (p :: t) h2
    rcases List.mem_cons.1 hx with rfl | hx
    · exact hc p x (ih p (List.mem_cons_self ..)) h1
    · exact ih x hx
theorem not_freed {gs : List Nat} {H : Nat → Nat → Int} {L : Nat → Int} {lim : Int} {T v : Nat} (hv : sHas T v = true) (hc : ∀ v, v < 16 → sHas T v = true → ∀ u, u < 16 → sHas (near gs v) u = true → H v u ≠ 0 → sHas T u = true)
    (hl : ∀ v, v < 16 → sHas T v = true → lim ≤ L v) : ¬ Freed gs H L lim v := by
  rintro ⟨R, ws, hne, hw⟩
  obtain ⟨g1, g2, g3, g4, g5, g6⟩ := hw.way hne
  have hm : getn ws 0 ∈ ws := getn_mem (List.length_pos_iff.2 hne)
  have h1 := WayL.stays (T := T) (fun a b ha e => hc a e.1 ha b e.2.1 e.2.2.1 e.2.2.2) hv ws g1 _ hm
  have := hl _ (g4 _ hm) h1
  omega
/-- What has been found: a division in which no load is greater than the density of some set. -/
structure DensPost (m : Nat) (gs : List Nat) (p q : Nat) (H : Nat → Nat → Int) (L : Nat → Int) (s : Nat) : Prop where
  sp : Spread gs q H L
  le : ∀ v ∈ ms (sAll m), L v ≤ p
  full : FullI gs H L p (ms (sAll m)) s
  att : ∃ S, S < 65536 ∧ S ≠ 0 ∧ (∀ v, sHas S v = true → v < m) ∧ denV gs S = (p, q)
theorem even_sum {f : Nat → Nat → Int} (hs : ∀ u v, f u v = f v u) (hd : ∀ v, f v v = 0) : ∀ n, ∃ k, sumN n (fun v => sumN n (f v)) = 2 * k
  | 0 => ⟨0, rfl⟩
  | n + 1 => by
    obtain ⟨k, hk⟩ := even_sum hs hd n
    have h1 : sumN (n + 1) (fun v => sumN (n + 1) (f v)) = sumN n (fun v => sumN n (f v)) + sumN n (fun v => f v n) + (sumN n (f n) + f n n) := by
      rw [sumN_s, ← sumN_add]; rfl
    have h2 : sumN n (fun v => f v n) = sumN n (f n) := sumN_congr n (fun i _ => hs i n)
    exact ⟨k + sumN n (f n), by rw [h1, hk, h2, hd]; omega⟩
theorem ends_even {gs : List Nat} (hsym : ∀ u v, sHas (near gs u) v = sHas (near gs v) u) (hir : ∀ v, sHas (near gs v) v = false) (S : Nat) : endsOf gs S (ms S) = 2 * (endsOf gs S (ms S) / 2) := by
  obtain ⟨k, hk⟩ := even_sum (f := fun v u => if sHas S v = true ∧ sHas S u = true ∧ sHas (near gs v) u = true then 1 else 0) (fun u v => by
      rw [hsym u v]
      by_cases e : sHas S v = true ∧ sHas S u = true ∧ sHas (near gs v) u = true
      · rw [if_pos e, if_pos ⟨e.2.1, e.1, e.2.2⟩]
      · rw [if_neg e, if_neg (fun h => e ⟨h.2.1, h.1, h.2.2⟩)]) (fun v => by rw [hir v]; simp) 16
  have := ends_sum gs S
  rw [hk] at this
  omega
theorem frac_eq {a b c d : Nat} (hb : 0 < b) (hd : 0 < d) (h : a * d = c * b) : fN a b = fN c d ∧ fD a b = fD c d := by
  have g1 : 0 < Nat.gcd a b := Nat.gcd_pos_of_pos_right _ hb
  have g2 : 0 < Nat.gcd c d := Nat.gcd_pos_of_pos_right _ hd
  have a1 : Nat.gcd a b * fN a b = a := Nat.mul_div_cancel' (Nat.gcd_dvd_left a b)
  have b1 : Nat.gcd a b * fD a b = b := Nat.mul_div_cancel' (Nat.gcd_dvd_right a b)
  have c1 : Nat.gcd c d * fN c d = c := Nat.mul_div_cancel' (Nat.gcd_dvd_left c d)
  have d1 : Nat.gcd c d * fD c d = d := Nat.mul_div_cancel' (Nat.gcd_dvd_right c d)
  have co1 : Nat.Coprime (fN a b) (fD a b) := Nat.coprime_div_gcd_div_gcd g1
  have co2 : Nat.Coprime (fN c d) (fD c d) := Nat.coprime_div_gcd_div_gcd g2
  have key : fN a b * fD c d = fN c d * fD a b := by
    have e : (Nat.gcd a b * Nat.gcd c d) * (fN a b * fD c d) = (Nat.gcd a b * Nat.gcd c d) * (fN c d * fD a b) := by
      have e1 : (Nat.gcd a b * Nat.gcd c d) * (fN a b * fD c d) = (Nat.gcd a b * fN a b) * (Nat.gcd c d * fD c d) := by ac_rfl
      have e2 : (Nat.gcd a b * Nat.gcd c d) * (fN c d * fD a b) = (Nat.gcd c d * fN c d) * (Nat.gcd a b * fD a b) := by ac_rfl
      rw [e1, e2, a1, b1, c1, d1, h]
    exact Nat.eq_of_mul_eq_mul_left (Nat.mul_pos g1 g2) e
  have hbp : 0 < fD a b := Nat.pos_of_ne_zero (fun h0 => by rw [h0] at b1; omega)
  have d12 : fD a b ∣ fD c d := co1.symm.dvd_of_dvd_mul_left (by rw [key]; exact Nat.dvd_mul_left _ _)
  have d21 : fD c d ∣ fD a b := co2.symm.dvd_of_dvd_mul_left (by rw [← key]; exact Nat.dvd_mul_left _ _)
  have eD : fD a b = fD c d := Nat.dvd_antisymm d12 d21
  refine ⟨?_, eD⟩
  rw [eD] at key
  exact Nat.eq_of_mul_eq_mul_right (eD ▸ hbp) key
theorem frac_mul {a b : Nat} (hb : 0 < b) : 0 < fD a b ∧ fN a b * b = a * fD a b ∧ fN a b ≤ a ∧ fD a b ≤ b := by
  have g1 : 0 < Nat.gcd a b := Nat.gcd_pos_of_pos_right _ hb
  have a1 : Nat.gcd a b * fN a b = a := Nat.mul_div_cancel' (Nat.gcd_dvd_left a b)
  have b1 : Nat.gcd a b * fD a b = b := Nat.mul_div_cancel' (Nat.gcd_dvd_right a b)
  refine ⟨Nat.pos_of_ne_zero (fun h0 => by rw [h0] at b1; omega), ?_, Nat.div_le_self _ _, Nat.div_le_self _ _⟩
  generalize fN a b = x at *
  generalize fD a b = y at *
  generalize Nat.gcd a b = g at *
  subst a1 b1; ac_rfl
/-- The density's terms. -/
theorem den_terms {gs : List Nat} {S p q : Nat} (hs : S < 65536) (h0 : S ≠ 0) (h : denV gs S = (p, q)) : 0 < q ∧ q ≤ 16 ∧ p ≤ 128 ∧ p * pc 16 S = endsOf gs S (ms S) / 2 * q := by
  unfold denV at h
  injection h with h1 h2
  have hp := pc_pos hs h0
  have hl := pc_le 16 S
  have he := endsOf_le gs S (ms S)
  have hm := ms_len S
  obtain ⟨f1, f2, f3, f4⟩ := frac_mul (a := endsOf gs S (ms S) / 2) hp
  rw [h1, h2] at *
  exact ⟨f1, by omega, by omega, f2⟩
theorem DensPost.best {m : Nat} {gs : List Nat} {p q s : Nat} {H : Nat → Nat → Int} {L : Nat → Int} (d : DensPost m gs p q H L s) (hm : m ≤ 16) (hsym : ∀ u v, sHas (near gs u) v = sHas (near gs v) u) (hir : ∀ v, sHas (near gs v) v = false)
    (hlow : ∀ u v, sHas (near gs u) v = true → v < m) :
    s < 65536 ∧ s ≠ 0 ∧ (∀ v, sHas s v = true → v < m) ∧ denV gs s = (p, q) ∧ 0 < q ∧ q ≤ 16 ∧ p ≤ 128 ∧
    ∀ T, T < 65536 → (∀ v, sHas T v = true → v < m) → q * (endsOf gs T (ms T) / 2) ≤ p * pc 16 T ∧ (q * (endsOf gs T (ms T) / 2) = p * pc 16 T → ∀ v, sHas T v = true → sHas s v = true) := by
  obtain ⟨S, hS, hS0, hSm, hSd⟩ := d.att
  obtain ⟨q0, q16, p128, hpq⟩ := den_terms hS hS0 hSd
  have hall : ∀ v, v < m → v ∈ ms (sAll m) := fun v hv => mem_ms.2 ⟨by omega, by unfold sHas; rw [all_bit]; simpa using hv⟩
  have hmem : ∀ v, v ∈ ms (sAll m) → v < m := fun v hv => by have := (mem_ms.1 hv).2; unfold sHas at this; rw [all_bit] at this; simpa using this
  have hle : ∀ T, (∀ v, sHas T v = true → v < m) → ∀ v, v < 16 → sHas T v = true → L v ≤ p := fun T hT v _ hv => d.le v (hall v (hT v hv))
  have hup : ∀ T, T < 65536 → (∀ v, sHas T v = true → v < m) → q * (endsOf gs T (ms T) / 2) ≤ p * pc 16 T := fun T hT hTm => by
    have h1 := d.sp.none_denser hsym (hle T hTm)
    have h2 := ends_even hsym hir T
    have h3 : 2 * (q * (endsOf gs T (ms T) / 2)) ≤ 2 * (p * pc 16 T) := by
      have e : 2 * (q * (endsOf gs T (ms T) / 2)) = q * endsOf gs T (ms T) := by
        calc 2 * (q * (endsOf gs T (ms T) / 2)) = q * (2 * (endsOf gs T (ms T) / 2)) := by ac_rfl
          _ = q * endsOf gs T (ms T) := by rw [← h2]
      rw [e]; exact_mod_cast h1
    omega
  have hti : ∀ T, T < 65536 → (∀ v, sHas T v = true → v < m) → q * (endsOf gs T (ms T) / 2) = p * pc 16 T → ∀ v, sHas T v = true → sHas s v = true := fun T hT hTm he v hv => by
    have h2 := ends_even hsym hir T
    have he2 : (q : Int) * (endsOf gs T (ms T) : Int) = 2 * ((p : Int) * (pc 16 T : Int)) := by
      have e : q * endsOf gs T (ms T) = 2 * (p * pc 16 T) := by
        rw [← he]
        calc q * endsOf gs T (ms T) = q * (2 * (endsOf gs T (ms T) / 2)) := by rw [← h2]
          _ = 2 * (q * (endsOf gs T (ms T) / 2)) := by ac_rfl
      exact_mod_cast e
    have ht := d.sp.tight hsym (hle T hTm) he2
    have hv16 := lt16_bits hT hv
    rcases d.full.all v (hall v (hTm v hv)) with h | h | h
    · exact h
    · exact absurd (ht v hv16 hv).1 h
    · exact absurd h (not_freed hv (fun a ha hTa u hu _ hn => (ht a ha hTa).2 u hu hn) (fun a ha hTa => by have := (ht a ha hTa).1; omega))
  have hsm : ∀ v, sHas s v = true → v < m := fun v hv => hmem v (d.full.sub v hv).1
  have hs0 : s ≠ 0 := fun e => by
    obtain ⟨v, hv⟩ := List.exists_mem_of_ne_nil _ (ms_ne hS hS0)
    have hv2 := (mem_ms.1 hv).2
    have := hti S hS hSm (by rw [Nat.mul_comm, ← hpq]) v hv2
    rw [e] at this; simp [sHas] at this
  have hcl : ∀ v, v < 16 → sHas s v = true → ∀ u, u < 16 → sHas (near gs v) u = true → H v u ≠ 0 → sHas s u = true := by
    intro v hv hsv u hu hn h0
    obtain ⟨_, hLv, R, hR⟩ := d.full.sub v hsv
    obtain ⟨r1, r2⟩ := hR.stuck rfl
    have hRu := r1 v hv hR.root u hu hn h0
    have hRl : ∀ x, x < 16 → sHas R x = true → (p : Int) ≤ L x := fun x hx hx2 => by
      by_cases e : x = v
      · subst e; omega
      · exact r2 x hx hx2 e
    have hum := hall u (hlow v u hn)
    rcases d.full.all u hum with h | h | h
    · exact h
    · have := hRl u hu hRu; have := d.le u hum; omega
    · exact absurd h (not_freed hRu r1 hRl)
  have hsl := d.full.lt
  have hden : q * (endsOf gs s (ms s) / 2) = p * pc 16 s := by
    have h1 := d.sp.closed hsym hcl
    have h2 : sumN 16 (fun v => if sHas s v = true then L v else 0) = p * (pc 16 s : Int) := by
      rw [pc_sum, ← sumN_mul]
      refine sumN_congr 16 (fun v _ => ?_)
      by_cases e : sHas s v = true
      · rw [if_pos e, if_pos e, (d.full.sub v e).2.1]; omega
      · rw [if_neg e, if_neg e]; omega
    rw [h2] at h1
    have h3 : 2 * (p * pc 16 s) = q * endsOf gs s (ms s) := by exact_mod_cast h1
    have h4 := ends_even hsym hir s
    have h5 : q * endsOf gs s (ms s) = 2 * (q * (endsOf gs s (ms s) / 2)) := by
      calc q * endsOf gs s (ms s) = q * (2 * (endsOf gs s (ms s) / 2)) := by rw [← h4]
        _ = 2 * (q * (endsOf gs s (ms s) / 2)) := by ac_rfl
    omega
  refine ⟨hsl, hs0, hsm, ?_, q0, q16, p128, fun T hT hTm => ⟨hup T hT hTm, hti T hT hTm⟩⟩
  rw [← hSd]
  have hps := pc_pos hsl hs0
  have hpS := pc_pos hS hS0
  unfold denV
  obtain ⟨e1, e2⟩ := frac_eq (a := endsOf gs s (ms s) / 2) (b := pc 16 s) (c := endsOf gs S (ms S) / 2) (d := pc 16 S) hps hpS (by
    have k1 : q * (endsOf gs s (ms s) / 2 * pc 16 S) = q * (endsOf gs S (ms S) / 2 * pc 16 s) := by
      calc q * (endsOf gs s (ms s) / 2 * pc 16 S) = (q * (endsOf gs s (ms s) / 2)) * pc 16 S := by ac_rfl
        _ = (p * pc 16 s) * pc 16 S := by rw [hden]
        _ = (p * pc 16 S) * pc 16 s := by ac_rfl
        _ = (endsOf gs S (ms S) / 2 * q) * pc 16 s := by rw [hpq]
        _ = q * (endsOf gs S (ms S) / 2 * pc 16 s) := by ac_rfl
    exact Nat.eq_of_mul_eq_mul_left q0 k1)
  rw [e1, e2]
end Go.Proofs.Ytpaeagkgmbhndaa
