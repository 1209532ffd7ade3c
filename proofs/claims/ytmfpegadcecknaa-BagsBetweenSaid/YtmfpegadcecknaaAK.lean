/- Giving all pieces to the smaller ends. -/
import Derived.Test.YtmfpegadcecknaaAJ
namespace Go.Proofs.Ytmfpegadcecknaa
open Go.RowKit Go.Shelf
attribute [local go_sem] Oper.semAt_some
set_option maxHeartbeats 1000000
set_option maxRecDepth 100000
/-- Pieces given to the first ends of the arcs G. -/
structure Giv (pcs : Int) (G : Nat → Nat → Prop) (N : Prop) (k : Nat) (H : Nat → Nat → Int) (L : Nat → Int) : Prop where
  yes : ∀ a b, a < 16 → b < 16 → G a b → H a b = pcs
  no : ∀ a b, a < 16 → b < 16 → ¬ G a b → H a b = 0
  load : N → ∀ v, v < 16 → L v = outF H v
  bd : ∀ v, v < 16 → 0 ≤ L v ∧ L v ≤ 6000 * (k : Int)
theorem Giv.cast {pcs : Int} {G G' : Nat → Nat → Prop} {N N' : Prop} {k k' : Nat} {H : Nat → Nat → Int} {L : Nat → Int} (g : Giv pcs G N k H L) (hG : ∀ a b, a < 16 → b < 16 → (G' a b ↔ G a b)) (hN : N' → N) (hk : k ≤ k') : Giv pcs G' N' k' H L :=
  ⟨fun a b ha hb h => g.yes a b ha hb ((hG a b ha hb).1 h), fun a b ha hb h => g.no a b ha hb (fun h2 => h ((hG a b ha hb).2 h2)), fun h => g.load (hN h), fun v hv => by have := g.bd v hv; omega⟩
theorem Giv.give {pcs : Int} {G G' : Nat → Nat → Prop} {N N' : Prop} {k : Nat} {H : Nat → Nat → Int} {L : Nat → Int} (g : Giv pcs G N k H L) {u v : Nat} (hu : u < 16) (hv : v < 16) (hp : 0 ≤ pcs ∧ pcs ≤ 6000)
    (hG : ∀ a b, a < 16 → b < 16 → (G' a b ↔ G a b ∨ (a = u ∧ b = v))) (hN : N' → N ∧ ¬ G u v) : Giv pcs G' N' (k + 1) (upd2 H u v pcs) (upd L u (L u + pcs)) := by
  refine ⟨fun a b ha hb h => ?_, fun a b ha hb h => ?_, fun h x hx => ?_, fun x hx => ?_⟩
  · unfold upd2
    split
    · rfl
    · rename_i hne
      exact g.yes a b ha hb (((hG a b ha hb).1 h).resolve_right hne)
  · have := fun h2 => h ((hG a b ha hb).2 h2)
    unfold upd2
    rw [if_neg (fun e => this (.inr e))]
    exact g.no a b ha hb (fun h2 => this (.inl h2))
  · obtain ⟨hn, hg⟩ := hN h
    have h0 := g.no u v hu hv hg
    unfold upd outF
    by_cases e : x = u
    · subst e
      have : ∀ i, i < 16 → upd2 H x v pcs x i = upd (H x) v pcs i := fun i _ => by unfold upd2 upd; simp
      rw [if_pos rfl, sumN_congr 16 this, sumN_upd, if_pos hv, h0, g.load hn x hx]
      unfold outF; omega
    · have : ∀ i, i < 16 → upd2 H u v pcs x i = H x i := fun i _ => by unfold upd2; simp [e]
      rw [if_neg e, sumN_congr 16 this]; exact g.load hn x hx
  · have := g.bd x hx
    have h2 := g.bd u hu
    unfold upd
    split
    · subst_vars; omega
    · omega
def Gout (gs us : List Nat) (a b : Nat) : Prop := a ∈ us ∧ sHas (near gs a) b = true ∧ a < b
def Gin (gs us : List Nat) (u : Nat) (vs : List Nat) (a b : Nat) : Prop := Gout gs us a b ∨ (a = u ∧ b ∈ vs ∧ a < b)
theorem Row.ne {W : World} {a b : Nat} {t t' : TypeId} {cs cs' : List Value} (h : Row W a t cs) (h' : Row W b t' cs') (ht : t ≠ t') : a ≠ b := by
  intro e; subst e
  unfold Row at h h'
  rw [h] at h'; injection h' with h'; injection h' with _ h4; exact ht h4
theorem divide_any (m : Nat) (gs : List Nat) (pcs : Int) (w : World) (hg : Rows16 gs) (hm : m ≤ 16) (hp : 0 ≤ pcs ∧ pcs ≤ 6000) :
    Calls Try.prog 49 #[.agg (gcells m gs).toArray, .int .i64 pcs] w fun e w' => ∃ g H L, w.heap.size ≤ g ∧ e = .returned (.pointer (some ⟨g, 0, none⟩)) ∧ Giv pcs (Gout gs (ms (sAll m))) True 256 H L ∧ Div w' g m gs H L ∧ Below w.heap.size w w' := by
  have HAL := Lib.hid (fun w => all_any m gs w hm hg.len)
  have hs := all_lt hm
  have HI := Lib.hid (info75m (m := m) hg)
  have HB := Lib.hid (built108 m hg.len)
  refine callsIn_wide.1 (?_ : CallsIn Fence.wide 9 _ _ _ _ _)
  generalize hFw : Fence.wide = F
  have hO : Open F := hFw ▸ Open.wide
  have hro : F.round = none := hFw ▸ rfl
  clear hFw
  have hF := hO.fn
  have hd := hO.depth
  have F49 := hF 49
  refine callsIn_of_wp_marks Try.func49 rfl F49 ?_ hro
  simp only [Try.ntmps49, List.size_toArray, List.length_cons, List.length_nil, Nat.reduceAdd, Nat.reduceSub, Array.replicate_succ, Array.replicate_zero, List.push_toArray, List.append_toArray, List.nil_append, List.cons_append]
  gi_wp2_with (first
    | (refine wpListIn_load_mid rfl 75 (.tmp 2) rfl w.heap.size 0 rfl (gcells m gs) _ (Row.range (t := 75) (by repeat (first | (with_reducible exact row_new rfl) | (with_reducible refine Row.alloc ?_ _)))) Try.underlying75 rfl HI.out ?_)
    | (refine wpListIn_build rfl 108 0 (.tmp 8) rfl _ rfl _ HB.out ?_)
    | (gi_at_call 58; refine (hO.lift _ (HAL.out _)).mono ?_; rintro e w' ⟨rfl, hb2⟩)
    | (gi_at_call 61; refine (hO.lift _ (members_any _ _)).mono ?_; rintro e w' ⟨rfl, rfl⟩))
  have e3 : Below w.heap.size w ((((w.alloc (.cells (gcells m gs).toArray 75)).alloc (.cells #[.int .i64 pcs] 3)).alloc (.cells (dcells m gs (fun _ _ => 0) (fun _ => 0)).toArray 108)).alloc (.cells #[.pointer (some ⟨w.heap.size + 1 + 1, 0, none⟩)] 78)) := by (repeat (first | exact Below.refl _ _ | assumption | (refine Below.setCell ?_ (by first | exact Nat.le_refl _ | omega | (simp; done) | (simp; omega)) _) | (refine Below.trans ?_ (below_drewN _)) | (refine Below.drew ?_) | (refine Below.alloc ?_ (by first | exact Nat.le_refl _ | omega | (simp; done) | (simp; omega)) _) | (refine below_row ?_ (by first | exact Nat.le_refl _ | omega | (simp; done) | (simp; omega)) _)))
  have hb3 := e3.trans (hb2.mono (by simp; omega))
  have q0 : Row w' w.heap.size 75 (gcells m gs) := ((((row_new rfl : Row (w.alloc _) _ 75 (gcells m gs)).alloc _).alloc _).alloc _).below hb2
  have q1 : Row w' (w.heap.size + 1) 3 [.int .i64 pcs] := (((row_new (by simp) : Row ((w.alloc _).alloc _) _ 3 [.int .i64 pcs]).alloc _).alloc _).below hb2
  have q2 : Div w' (w.heap.size + 1 + 1) m gs (fun _ _ => 0) (fun _ => 0) := Row.below ((row_new (by simp) : Row (((w.alloc _).alloc _).alloc _) (w.heap.size + 1 + 1) 108 (dcells m gs (fun _ _ => 0) (fun _ => 0))).alloc _) hb2
  have q3 : Row w' (w.heap.size + 1 + 1 + 1) 78 [.pointer (some ⟨w.heap.size + 1 + 1, 0, none⟩)] := (row_new (by simp) : Row ((((w.alloc _).alloc _).alloc _).alloc _) _ 78 [.pointer (some ⟨w.heap.size + 1 + 1, 0, none⟩)]).below hb2
  have hz := q3.lt
  have r0 := q0.alloc (.cells #[.int .u32 (sAll m)] 72)
  have r1 := q1.alloc (.cells #[.int .u32 (sAll m)] 72)
  have r2 : Div (w'.alloc (.cells #[.int .u32 (sAll m)] 72)) (w.heap.size + 1 + 1) m gs (fun _ _ => 0) (fun _ => 0) := Row.alloc q2 _
  have r3 := q3.alloc (.cells #[.int .u32 (sAll m)] 72)
  have rB : Row (w'.alloc (.cells #[.int .u32 (sAll m)] 72)) w'.heap.size 72 [.int .u32 (sAll m)] := row_new rfl
  have hb4 := hb3.alloc (by omega) (.cells #[.int .u32 (sAll m)] 72)
  generalize hw4 : World.alloc w' _ = w4 at *
  have hz4 : w.heap.size + 5 ≤ w4.heap.size := by rw [← hw4]; simp; omega
  have hzB : w'.heap.size < w4.heap.size := rB.lt
  clear hw4 hb3 e3 q0 q1 q2 q3 hb2
  have g0 : Giv pcs (Gout gs []) ([] : List Nat).Nodup (16 * 0) (fun _ _ => 0) (fun _ => 0) := ⟨fun a b _ _ h => by simp [Gout] at h, fun _ _ _ _ _ => rfl, fun _ v _ => by unfold outF; rfl, fun v _ => by simp⟩
  refine range_membersH hO hro (by omega) w'.heap.size (sAll m) hs rB rfl rfl
    (fun pre W => ∃ H L, Giv pcs (Gout gs (vals pre)) (vals pre).Nodup (16 * pre.length) H L ∧ Div W (w.heap.size + 1 + 1) m gs H L ∧ Fr (fun _ => False) w W ∧ Row W w.heap.size 75 (gcells m gs) ∧ Row W (w.heap.size + 1) 3 [.int .i64 pcs] ∧ Row W (w.heap.size + 1 + 1 + 1) 78 [.pointer (some ⟨w.heap.size + 1 + 1, 0, none⟩)] ∧ Row W w'.heap.size 72 [.int .u32 (sAll m)])
    (ownFrom_ex fun H => ownFrom_ex fun L => OwnFrom.and ownFrom_pure (OwnFrom.and ownFrom_row (OwnFrom.and (ownFrom_fr hb4.size) (OwnFrom.and ownFrom_row (OwnFrom.and ownFrom_row (OwnFrom.and ownFrom_row ownFrom_row))))))
    ⟨_, _, g0, r2, Fr.of_below hb4, r0, r1, r3, rB⟩
    (fun x a' W => ∃ A, a' = { tmps := #[Value.agg (gcells m gs).toArray, Value.int .i64 pcs, Value.pointer (some { block := w.heap.size, off := 0 }), Value.pointer (some { block := w.heap.size + 1, off := 0 }), Value.pointer none, Value.pointer (some { block := w.heap.size + 1 + 1 + 1, off := 0 }), Value.pointer (some { block := A, off := 0 }), undef, Value.agg (gcells m gs).toArray, Value.agg (dcells m gs (fun _ _ => 0) (fun _ => 0)).toArray, Value.pointer (some { block := w.heap.size + 1 + 1, off := 0 }), Value.agg (gcells m gs).toArray, Value.int .u32 (sAll m : Nat), Value.func (Fn.func 70) #[] #[Value.pointer (some { block := w'.heap.size, off := 0 })], Value.int .i64 (x.1 : Nat), undef, undef, undef, undef, undef, undef, undef, undef, undef, undef, undef, undef, undef, undef, undef, undef, undef, undef, undef, undef, undef, undef, undef, undef, undef, undef, undef, undef, undef], defers := [] } ∧ Row W A 3 [.int .i64 (x.1 : Nat)])
    (fun x a' => ownFrom_ex fun A => OwnFrom.and ownFrom_pure ownFrom_row) ?assign ?body ?done
  case assign =>
    rintro l pre x W K ⟨H, L, hgv, hd, hfr, q0, q1, q3, qB⟩ hK
    gi_wp2
    exact hK _ _ ((KeepsOthers.alloc W _).from _) (keepB_row qB (qB.alloc _)) ⟨H, L, hgv, Row.alloc hd _, hfr.alloc _, q0.alloc _, q1.alloc _, q3.alloc _, qB.alloc _⟩ ⟨_, rfl, row_new rfl⟩
  case body =>
    rintro l pre x a' W hl hrec ⟨H, L, hgv, hd, hfr, q0, q1, q3, qB⟩ ⟨A, rfl, qA⟩ hlen
    have hxl := x.2.1
    obtain ⟨cA, fA⟩ := qA.cells1
    have c0 : W.cell? ⟨w.heap.size, 1 + x.1, none⟩ = some (.int .u32 (near gs x.1)) := by rw [q0.cell, gcells_s _ _ _ (by rw [hg.len]; exact hxl)]; rfl
    have hnl := hg.lt x.1
    obtain ⟨rc, hrc⟩ := hrec
    have hlW := (Array.getElem?_eq_some_iff.1 hrc).1
    gi_wp2_with (gi_at_call 61; refine ((hO.inRound l).lift _ (members_any _ _)).mono ?_; rintro e w' ⟨rfl, rfl⟩)
    have hk0 : KeepsFrom w4.heap.size W (W.alloc (.cells #[.int .u32 (near gs x.1)] 72)) := (KeepsOthers.alloc W _).from _
    refine range_membersN hO hro (by omega) ⟨rc, (Below.heap_alloc W _ l hlW).trans hrc⟩ W.heap.size (near gs x.1) hnl (row_new rfl) rfl rfl
      (fun pre2 W2 => ∃ H L, Giv pcs (Gin gs (vals pre) x.1 (vals pre2)) ((vals pre ++ [x.1]).Nodup ∧ (vals pre2).Nodup) (16 * pre.length + pre2.length) H L ∧ Div W2 (w.heap.size + 1 + 1) m gs H L ∧ Fr (fun _ => False) w W2 ∧ Row W2 w.heap.size 75 (gcells m gs) ∧ Row W2 (w.heap.size + 1) 3 [.int .i64 pcs] ∧ Row W2 (w.heap.size + 1 + 1 + 1) 78 [.pointer (some ⟨w.heap.size + 1 + 1, 0, none⟩)] ∧ Row W2 w'.heap.size 72 [.int .u32 (sAll m)] ∧ Row W2 A 3 [.int .i64 (x.1 : Nat)] ∧ Row W2 W.heap.size 72 [.int .u32 (near gs x.1)] ∧ KeepsFrom w4.heap.size W W2)
      (ownFrom_ex fun H => ownFrom_ex fun L => OwnFrom.and ownFrom_pure (OwnFrom.and ownFrom_row (OwnFrom.and (ownFrom_fr (by have := hfr.size; simp; omega)) (OwnFrom.and ownFrom_row (OwnFrom.and ownFrom_row (OwnFrom.and ownFrom_row (OwnFrom.and ownFrom_row (OwnFrom.and ownFrom_row (OwnFrom.and ownFrom_row ?hkf)))))))))
      ⟨H, L, hgv.cast (fun a b _ _ => by simp [Gin, vals]) (fun h => (List.nodup_append.1 h.1).1) (by simp), Row.alloc hd _, hfr.alloc _, q0.alloc _, q1.alloc _, q3.alloc _, qB.alloc _, qA.alloc _, row_new rfl, hk0⟩ ?b1 ?iassign ?ibody ?idone
    case hkf =>
      intro s2 A2 B2 row hs2 hg2 hr2
      refine ⟨Nat.le_trans hs2.size hg2.size, fun k o hk h1 h2 => (hg2.block k (Array.getElem?_eq_some_iff.1 (hs2.same k o hk h1 h2)).1 (fun e => ?_)).trans (hs2.same k o hk h1 h2)⟩
      have h3 := (hr2 k e.symm).1
      have h4 := (Array.getElem?_eq_some_iff.1 h1).1
      simp at h3; omega
    case iassign =>
      intro l2 y W2 K hK
      gi_wp2
      exact hK
    case ibody =>
      rintro l2 pre2 y W2 ⟨H2, L2, hgv2, hd2, hfr2, p0, p1, p3, pB, pA, pC, hk2⟩ hlen2
      have hyl := y.2.1
      have Hs := Lib.hid (vals_snoc pre2 y)
      have HG := Lib.hid hgv2
      have hbd := hgv2.bd x.1 hxl
      have hAne : A ≠ w.heap.size + 1 + 1 := Row.ne qA hd (by decide)
      have hWz : w.heap.size + 5 ≤ W.heap.size := by have := qB.lt; omega
      generalize hxx : x.1 = u at *
      generalize hyy : y.1 = v at *
      have d2 := hd2.has hg hxl hyl
      obtain ⟨c1, f1⟩ := p1.cells1
      obtain ⟨c3, f3⟩ := p3.cells1
      obtain ⟨cA2, fA2⟩ := pA.cells1
      have f17 := Row.free hd2 (17 + u * 16 + v)
      have lz := Row.lt hd2
      clear hgv2 hxx hyy
      cases g1 : decide (u < v)
      · gi_wp2
        refine ⟨KeepsFrom.refl _ _, rfl, H2, L2, HG.out.cast (fun a b _ _ => ?_) (fun h => ⟨h.1, ?_⟩) (by first | (simp; done) | (simp; omega)), hd2, hfr2, p0, p1, p3, pB, pA, pC, hk2⟩
        · have hnv := of_decide_eq_false g1
          rw [Hs.out]; unfold Gin
          constructor
          · rintro (h | ⟨rfl, h2, h3⟩)
            · exact .inl h
            · rcases List.mem_append.1 h2 with h2 | h2
              · exact .inr ⟨rfl, h2, h3⟩
              · simp at h2; subst h2; exact absurd h3 hnv
          · rintro (h | ⟨rfl, h2, h3⟩)
            · exact .inl h
            · exact .inr ⟨rfl, List.mem_append_left _ h2, h3⟩
        · have := h.2; rw [Hs.out] at this; exact (List.nodup_append.1 this).1
      · gi_wp2
        refine wpIn_region_quiet_tail ((hO.inRound l).inRound l2) 8 (by kernel_rfl) (by kernel_rfl) (by kernel_rfl) ?_
        simp only [List.take_succ_cons, List.take_zero, List.drop_succ_cons, List.drop_zero]
        repeat go_big_quiet_step ((fail))
        refine wpQuiet_nil ?_
        rintro _ ⟨nq, rfl⟩
        gi_wp2
        have hd3 := Div.setH (Row.drewN hd2 nq : Div (W2.drewN nq) _ m gs H2 L2) hg hxl hyl pcs
        have fr3 := (hfr2.drewN nq).setCell (p := ⟨w.heap.size + 1 + 1, 17 + u * 16 + v, none⟩) (.inr (by dsimp only; omega)) (.int .i64 pcs)
        have t0 := (p0.drewN nq).far (p := ⟨w.heap.size + 1 + 1, 17 + u * 16 + v, none⟩) (by dsimp only; omega) (.int .i64 pcs)
        have t1 := (p1.drewN nq).far (p := ⟨w.heap.size + 1 + 1, 17 + u * 16 + v, none⟩) (by dsimp only; omega) (.int .i64 pcs)
        have t3 := (p3.drewN nq).far (p := ⟨w.heap.size + 1 + 1, 17 + u * 16 + v, none⟩) (by dsimp only; omega) (.int .i64 pcs)
        have tB := (pB.drewN nq).far (p := ⟨w.heap.size + 1 + 1, 17 + u * 16 + v, none⟩) (by dsimp only; omega) (.int .i64 pcs)
        have tA := (pA.drewN nq).far (p := ⟨w.heap.size + 1 + 1, 17 + u * 16 + v, none⟩) hAne (.int .i64 pcs)
        have tC := (pC.drewN nq).far (p := ⟨w.heap.size + 1 + 1, 17 + u * 16 + v, none⟩) (by dsimp only; omega) (.int .i64 pcs)
        have hk3 := (keeps_drewN 0 W2 nq).trans ((KeepsOthers.setCell (W2.drewN nq) ⟨w.heap.size + 1 + 1, 17 + u * 16 + v, none⟩ (.int .i64 pcs)).from 0)
        generalize World.setCell (World.drewN W2 nq) _ _ = W3 at *
        clear c1 f1 c3 f3 cA2 fA2 f17 d2
        obtain ⟨c1, f1⟩ := t1.cells1
        obtain ⟨c3, f3⟩ := t3.cells1
        obtain ⟨cA2, fA2⟩ := tA.cells1
        have d273 := hd3.load hg hxl
        have f273 := Row.free hd3 (273 + u)
        have lz3 := Row.lt hd3
        gi_wp2
        refine wpIn_region_quiet_tail ((hO.inRound l).inRound l2) 11 (by kernel_rfl) (by kernel_rfl) (by kernel_rfl) ?_
        simp only [List.take_succ_cons, List.take_zero, List.drop_succ_cons, List.drop_zero]
        repeat go_big_quiet_step ((fail))
        refine wpQuiet_nil ?_
        rintro _ ⟨nq, rfl⟩
        gi_wp2
        have hk4 := hk3.trans ((keeps_drewN 0 W3 nq).trans ((KeepsOthers.setCell (W3.drewN nq) ⟨w.heap.size + 1 + 1, 273 + u, none⟩ (.int .i64 (L2 u + pcs))).from 0))
        have huv := of_decide_eq_true g1
        refine ⟨KeepsFrom.up hk4, keepB_row pC ((tC.drewN nq).far (by dsimp only; omega) _), upd2 H2 u v pcs, upd L2 u (L2 u + pcs), (HG.out.give (G' := Gin gs (vals pre) u (vals (pre2 ++ [y]))) (N' := (vals pre ++ [u]).Nodup ∧ (vals (pre2 ++ [y])).Nodup) hxl hyl hp (fun a b _ _ => ?_) (fun h => ⟨⟨h.1, ?_⟩, ?_⟩)).cast (fun _ _ _ _ => Iff.rfl) (fun h => h) (by first | (simp; done) | (simp; omega)), Div.setL (Row.drewN hd3 nq : Div (W3.drewN nq) _ m gs _ L2) hg hxl _, (fr3.drewN nq).setCell (.inr (by dsimp only; omega)) _, (t0.drewN nq).far (by dsimp only; omega) _, (t1.drewN nq).far (by dsimp only; omega) _, (t3.drewN nq).far (by dsimp only; omega) _, (tB.drewN nq).far (by dsimp only; omega) _, (tA.drewN nq).far hAne _, (tC.drewN nq).far (by dsimp only; omega) _, hk2.trans (KeepsFrom.up hk4)⟩
        · rw [Hs.out]; unfold Gin
          constructor
          · rintro (h | ⟨rfl, h2, h3⟩)
            · exact .inl (.inl h)
            · rcases List.mem_append.1 h2 with h2 | h2
              · exact .inl (.inr ⟨rfl, h2, h3⟩)
              · simp at h2; exact .inr ⟨rfl, h2⟩
          · rintro ((h | ⟨rfl, h2, h3⟩) | ⟨rfl, rfl⟩)
            · exact .inl h
            · exact .inr ⟨rfl, List.mem_append_left _ h2, h3⟩
            · exact .inr ⟨rfl, by simp, huv⟩
        · have := h.2; rw [Hs.out] at this; exact (List.nodup_append.1 this).1
        · rintro (⟨h1, _⟩ | ⟨_, h2, _⟩)
          · exact (List.nodup_append.1 h.1).2.2 u h1 u (by simp) rfl
          · have := h.2; rw [Hs.out] at this
            exact (List.nodup_append.1 this).2.2 v h2 v (by simp) rfl
    case idone =>
      rintro xs W2 hxs ⟨H2, L2, hgv2, hd2, hfr2, p0, p1, p3, pB, pA, pC, hk2⟩
      gi_wp2
      refine ⟨hk2, keepB_row qB pB, H2, L2, hgv2.cast (fun a b ha hb => ?_) (fun h => ?_) ?_, hd2, hfr2, p0, p1, p3, pB⟩
      · rw [vals_snoc, hxs]
        unfold Gin Gout
        constructor
        · rintro ⟨h1, h2, h3⟩
          rcases List.mem_append.1 h1 with h1 | h1
          · exact .inl ⟨h1, h2, h3⟩
          · simp at h1; subst h1; exact .inr ⟨rfl, mem_ms.2 ⟨hb, h2⟩, h3⟩
        · rintro (⟨h1, h2, h3⟩ | ⟨rfl, h2, h3⟩)
          · exact ⟨List.mem_append_left _ h1, h2, h3⟩
          · exact ⟨by simp, (mem_ms.1 h2).2, h3⟩
      · rw [vals_snoc] at h
        exact ⟨h, by rw [hxs]; exact (List.nodup_range).filter _⟩
      · have : xs.length ≤ 16 := by rw [← vals_len, hxs]; exact ms_len _
        simp; omega
  case done =>
    rintro D xs W hD hxs ⟨H, L, hgv, hd, hfr, q0, q1, q3, qB⟩ hK
    obtain ⟨c3, f3⟩ := q3.cells1
    have hxl : xs.length ≤ 16 := by rw [← vals_len, hxs]; exact ms_len _
    gi_wp2
    refine ret_marks [D] (marks_one hK) (v := .pointer (some ⟨w.heap.size + 1 + 1, 0, none⟩)) ?_ ⟨_, H, L, by omega, rfl, hgv.cast (fun a b _ _ => by rw [hxs]) (fun _ => by rw [hxs]; exact (List.nodup_range).filter _) (by omega), shut_row (marks_one hK) hd, shut_below hfr.below (by simp; omega)⟩
    simp [results, Try.results49, go_sem]
end Go.Proofs.Ytmfpegadcecknaa
