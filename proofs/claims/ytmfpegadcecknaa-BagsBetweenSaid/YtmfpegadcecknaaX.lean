/- Searching a way: the walk. -/
import Derived.Deep.MidRow
import Derived.Test.YtmfpegadcecknaaY
namespace Go.Proofs.Ytmfpegadcecknaa
open Go.RowKit Go.Shelf
attribute [local go_sem] Oper.semAt_some
set_option maxHeartbeats 1000000
set_option maxRecDepth 100000
theorem wayOut_any (g m f : Nat) (gs : List Nat) (H : Nat → Nat → Int) (L : Nat → Int) (lim : Int) (w : World) (hg : Rows16 gs) (hdv : Div w g m gs H L) (hf : f < 16) :
    Calls Try.prog 64 #[.pointer (some ⟨g, 0, none⟩), .int .i64 f, .int .i64 lim] w fun e w' => ∃ (v : Value) (R : Nat) (ws : List Nat), e = .returned (.tuple #[v, .int .u32 R]) ∧ WayPost gs H L f lim R ws ∧ w'.ownsRow w.heap.size 3 1 v ws.length (intv ws) ∧ Below w.heap.size w w' := by
  have HW0 := Lib.hid (fun w => with_any 0 f w (by omega) (by omega))
  refine callsIn_wide.1 (?_ : CallsIn Fence.wide 9 _ _ _ _ _)
  generalize hFw : Fence.wide = F
  have hO : Open F := hFw ▸ Open.wide
  have hro : F.round = none := hFw ▸ rfl
  clear hFw
  have hF := hO.fn
  have hd := hO.depth
  have F64 := hF 64
  refine callsIn_of_wp_marks Try.func64 rfl F64 ?_ hro
  simp only [Try.ntmps64, List.size_toArray, List.length_cons, List.length_nil, Nat.reduceAdd, Nat.reduceSub, Array.replicate_succ, Array.replicate_zero, List.push_toArray, List.append_toArray, List.nil_append, List.cons_append]
  gi_wp2
  apply wpIn_scope_straight
  gi_wp2_with (gi_at_call 57; refine (hO.lift _ (HW0.out _)).mono ?_; rintro e w' ⟨rfl, rfl⟩)
  apply wpIn_label
  gi_wp2
  generalize hw1 : World.alloc _ _ = w1
  have hwr : WR w g f lim (.slice none 0 0) (sWith 0 f) (List.replicate 16 0) (.slice (some ⟨w.heap.size + 1 + 1 + 1 + 1 + 1 + 1, 0, none⟩) 1 1) w1 := by
    rw [← hw1]
    refine ⟨Fr.of_below ?_, ?_, ?_, ?_, ?_, ?_, ?_, ?_⟩
    · (repeat (first | exact Below.refl _ _ | assumption | (refine Below.setCell ?_ (by first | exact Nat.le_refl _ | omega | (simp; done) | (simp; omega)) _) | (refine Below.trans ?_ (below_drewN _)) | (refine Below.drew ?_) | (refine Below.alloc ?_ (by first | exact Nat.le_refl _ | omega | (simp; done) | (simp; omega)) _) | (refine below_row ?_ (by first | exact Nat.le_refl _ | omega | (simp; done) | (simp; omega)) _)))
    all_goals repeat (first | (refine row_new ?_; first | rfl | (simp; done)) | refine Row.alloc ?_ _)
  have hq : Que w1 (w.heap.size + 1 + 1 + 1 + 1 + 1 + 1) (.slice (some ⟨w.heap.size + 1 + 1 + 1 + 1 + 1 + 1, 0, none⟩) 1 1) [f] := by
    have : Row w1 (w.heap.size + 1 + 1 + 1 + 1 + 1 + 1) 3 [.int .i64 f] := by
      rw [← hw1]; repeat (first | (refine row_new ?_; first | rfl | (simp; done)) | refine Row.alloc ?_ _)
    refine ⟨_, 0, 1, _, rfl, by simp, by unfold maxLen; omega, Nat.le_refl _, this, by simp, fun j hj => ?_⟩
    have : j = 0 := by simpa using hj
    subst this; rfl
  clear hw1
  have hb0 : BfsI gs H L f lim (sWith 0 f) (List.replicate 16 0) [f] := BfsI.start gs H L lim hf (by simp) (fun i => by unfold getn; rw [List.getD_eq_getElem?_getD, List.getElem?_replicate]; split <;> simp)
  refine wpIn_loop_ghost (fun n a W => ∃ (u : Nat → Value) (Ds : List Nat) (R : Nat) (bs q : List Nat) (v : Value), a = { tmps := #[Value.pointer (some { block := g, off := 0 }), Value.int IntKind.i64 f, Value.int IntKind.i64 lim, Value.pointer (some { block := w.heap.size, off := 0 }), Value.pointer (some { block := w.heap.size + 1, off := 0 }), Value.pointer (some { block := w.heap.size + 1 + 1, off := 0 }), Value.slice none 0 0, Value.int IntKind.u32 0, Value.pointer (some { block := w.heap.size + 1 + 1 + 1, off := 0 }), Value.pointer (some { block := w.heap.size + 1 + 1 + 1 + 1, off := 0 }), Value.pointer (some { block := w.heap.size + 1 + 1 + 1 + 1 + 1, off := 0 }), Value.pointer (some { block := w.heap.size + 1 + 1 + 1 + 1 + 1 + 1 + 1, off := 0 }), u 12, u 13, Value.int IntKind.i64 f, Value.int IntKind.u32 (sWith 0 f : Nat), Value.int IntKind.i64 f, Value.slice (some { block := w.heap.size + 1 + 1 + 1 + 1 + 1 + 1, off := 0 }) 1 1, u 18, u 19, u 20, u 21, u 22, u 23, u 24, u 25, u 26, u 27, u 28, u 29, u 30, u 31, u 32, u 33, u 34, u 35, u 36, u 37, u 38, u 39, u 40, u 41, u 42, u 43, u 44, u 45, u 46, u 47, u 48, u 49, u 50, u 51, u 52, u 53, u 54, u 55, u 56, u 57, u 58, u 59, u 60, u 61, u 62, u 63, u 64, u 65, u 66, u 67, u 68, u 69], defers := Ds.map mark } ∧ n = 2 * (16 - pc 16 R) + q.length ∧ BfsI gs H L f lim R bs q ∧ WR w g f lim (.slice none 0 0) R bs v W ∧ Que W (w.heap.size + 1 + 1 + 1 + 1 + 1 + 1) v q ∧ Marks Ds W ∧ ∀ D ∈ Ds, w.heap.size ≤ D) _ ⟨fun _ => undef, [], _, _, _, _, rfl, rfl, hb0, hwr, hq, ⟨by simp, by simp⟩, by simp⟩ ?_
  rintro n a W ⟨u, Ds, R, bs, q, v, rfl, hn, hb, hw, hq, hm, hD⟩
  obtain ⟨c5, f5⟩ := hw.r5.cells1
  obtain ⟨c7, f7⟩ := hw.r7.cells1
  obtain ⟨c0, f0⟩ := hw.r0.cells1
  obtain ⟨c1, f1⟩ := hw.r1.cells1
  obtain ⟨c2, f2⟩ := hw.r2.cells1
  obtain ⟨c4, f4⟩ := hw.r4.cells1
  cases q with
  | nil =>
    obtain ⟨qb, off, cap, cur, rfl, -⟩ := hq
    simp only [List.length_nil] at c7 ⊢
    gi_wp2
    refine wpIn_region_quiet_all hO (by kernel_rfl) (by kernel_rfl) (by kernel_rfl) ?_
    repeat go_big_quiet_step ((fail))
    refine wpQuiet_nil ?_
    rintro _ ⟨nq, rfl⟩
    gi_wp2
    refine ret_marks Ds (w := W.drewN nq) hm (v := .tuple #[.slice none 0 0, .int .u32 R]) ?_ ⟨_, R, [], rfl, hb.post, ⟨rfl, .inl ⟨rfl, rfl⟩⟩, shut_below (hw.fr.below.trans (below_drewN nq)) hD⟩
    simp [results, Try.results64, go_sem]
  | cons at_ q =>
    obtain ⟨qb, off, cap, rfl, hc, hq', hqc, hqm⟩ := hq.head
    have hat := (hb.qm at_ (List.mem_cons_self ..)).1
    have hz := hw.lt
    have HZ := Lib.hid hz
    have l0 : w.heap.size < W.heap.size := by omega
    have l1 : w.heap.size + 1 < W.heap.size := by omega
    have l2 : w.heap.size + 1 + 1 < W.heap.size := by omega
    have l5 : w.heap.size + 1 + 1 + 1 + 1 + 1 < W.heap.size := by omega
    have l7 : w.heap.size + 1 + 1 + 1 + 1 + 1 + 1 + 1 < W.heap.size := by omega
    have hgl : g < w.heap.size := Row.lt hdv
    have HQ := Lib.hid hb
    have HN := Lib.hid hn
    gi_wp2
    all_goals
      first
        | (have hq2 : Que W (w.heap.size + 1 + 1 + 1 + 1 + 1 + 1) (.slice (some ⟨qb, off, none⟩) q.length 0) q := Que.back hq' (by omega)
           generalize Value.slice (some ⟨qb, off, none⟩) q.length 0 = vq at hq2 ⊢)
        | (have hq2 := hq'
           generalize Value.slice (some ⟨qb, off + 1, none⟩) q.length cap = vq at hq2 ⊢)
      have hw2 := (hw.setQ vq).alloc (.cells #[.int .i64 at_] 3)
      have hq3 := (hq2.set_row hw.r7 (by decide) vq (o := 0)).alloc (.cells #[.int .i64 at_] 3)
      have hA : Row ((W.setCell ⟨w.heap.size + 1 + 1 + 1 + 1 + 1 + 1 + 1, 0, none⟩ vq).alloc (.cells #[.int .i64 at_] 3)) W.heap.size 3 [.int .i64 at_] := row_new (by simp)
      have hbk := hq2.blk_lt
      have hm2 := hm.keep (((KeepsOthers.setCell W ⟨w.heap.size + 1 + 1 + 1 + 1 + 1 + 1 + 1, 0, none⟩ vq).trans (KeepsOthers.alloc _ (.cells #[.int .i64 at_] 3))).from 0)
      generalize World.alloc _ _ = w2 at *
      clear hq hq' hq2 hw hm c0 c1 c2 c4 c5 c7 f0 f1 f2 f4 f5 f7 hc l0 l1 l2 l5 l7 hz hn hb
      obtain ⟨c5, f5⟩ := hw2.r5.cells1
      obtain ⟨c0, f0⟩ := hw2.r0.cells1
      obtain ⟨c12, f12⟩ := hA.cells1
      have hdv2 : Div w2 g m gs H L := Row.fr hdv hw2.fr (by simp)
      have c16 := hdv2.near hg hat
      have hRl := HQ.out.tree.lt
      have hab := Lib.hid (andNot_bits (near gs at_) R (Nat.lt_trans (hg.lt _) (by omega)) (by omega))
      have hsl : sAndNot (near gs at_) R < 65536 := Nat.lt_of_le_of_lt Nat.and_le_left (hg.lt _)
      gi_wp2
      refine wpIn_region_quiet_tail hO 9 (by kernel_rfl) (by kernel_rfl) (by kernel_rfl) ?_
      simp only [List.take_succ_cons, List.take_zero, List.drop_succ_cons, List.drop_zero]
      repeat go_big_quiet_step ((fail))
      refine wpQuiet_nil ?_
      rintro _ ⟨nq, rfl⟩
      gi_wp2_with (gi_at_call 61; rw [hab.out]; refine (hO.lift _ (members_any _ _)).mono ?_; rintro e w' ⟨rfl, rfl⟩)
      have hs : sAndNot (near gs at_) R = sAndNot (near gs at_) R := rfl
      generalize hS : sAndNot (near gs at_) R = S at hsl ⊢
      have HS := Lib.hid hS
      have w3r : WR w g f lim (.slice none 0 0) R bs vq ((w2.drewN nq).alloc (.cells #[.int .u32 S] 72)) := (hw2.drewN nq).alloc _
      have w3q : Que ((w2.drewN nq).alloc (.cells #[.int .u32 S] 72)) (w.heap.size + 1 + 1 + 1 + 1 + 1 + 1) vq q := (hq3.drewN nq).alloc _
      have w3A : Row ((w2.drewN nq).alloc (.cells #[.int .u32 S] 72)) W.heap.size 3 [.int .i64 at_] := (hA.drewN nq).alloc _
      have w3B : Row ((w2.drewN nq).alloc (.cells #[.int .u32 S] 72)) w2.heap.size 72 [.int .u32 S] := row_new rfl
      have w3m : Marks Ds ((w2.drewN nq).alloc (.cells #[.int .u32 S] 72)) := hm2.keep ((keeps_drewN 0 _ nq).trans ((KeepsOthers.alloc _ _).from 0))
      have hzA := hw2.lt
      have hzW : W.heap.size < w2.heap.size := hA.lt
      have hzW0 := HZ.out
      generalize World.alloc _ _ = w3 at *
      clear hs hab hS hm2 hA hq3 hw2 hdv2 c0 c5 c12 c16 f0 f5 f12
      refine range_members hO hro (by omega) w2.heap.size S hsl w3B rfl rfl
        (fun pre W' => ∃ R1 bs1 v1 q1, Mid gs H L f lim at_ R q (vals pre) R1 bs1 q1 ∧ WR w g f lim (.slice none 0 0) R1 bs1 v1 W' ∧ Que W' (w.heap.size + 1 + 1 + 1 + 1 + 1 + 1) v1 q1 ∧ qblk v1 ≠ some W.heap.size ∧ Row W' W.heap.size 3 [.int .i64 at_] ∧ Row W' w2.heap.size 72 [.int .u32 S] ∧ Dfs Ds W')
        (fun c _ W' => c = .exit 0 ∧ ∃ R1 bs1 v1 wy ws, WayPost gs H L f lim R1 ws ∧ WR w g f lim wy R1 bs1 v1 W' ∧ W'.ownsRow w.heap.size 3 1 wy ws.length (intv ws) ∧ Dfs Ds W')
        ?_ ?_ ⟨R, bs, vq, q, HQ.out.mid, w3r, w3q, hbk, w3A, w3B, w3m.2⟩ ?_ ?_ ?_ ?_ ?_
      · refine ownFrom_ex fun R1 => ownFrom_ex fun bs1 => ownFrom_ex fun v1 => ownFrom_ex fun q1 => OwnFrom.and ownFrom_pure (OwnFrom.and (ownFrom_wr w3r.fr.size) (OwnFrom.and ownFrom_que (OwnFrom.and ownFrom_pure (OwnFrom.and ownFrom_row (OwnFrom.and ownFrom_row (ownFrom_dfs fun D hD' => ?_))))))
        exact (Array.getElem?_eq_some_iff.1 (w3m.2 D hD')).1
      · intro c
        refine OwnFrom.and ownFrom_pure (ownFrom_ex fun R1 => ownFrom_ex fun bs1 => ownFrom_ex fun v1 => ownFrom_ex fun wy => ownFrom_ex fun ws => OwnFrom.and ownFrom_pure (OwnFrom.and (ownFrom_wr w3r.fr.size) (OwnFrom.and ownFrom_owns (ownFrom_dfs fun D hD' => ?_))))
        exact (Array.getElem?_eq_some_iff.1 (w3m.2 D hD')).1
      rotate_left
      · intro l x W K hK
        gi_wp2
        exact hK
      · rintro l pre x W4 ⟨R1, bs1, v1, q1, hmid, hw4, hq4, hbk4, hA4, hB4, hdf4⟩ hlen
        have hxl := x.2.1
        have hxs : sHas (near gs at_) x.1 = true ∧ sHas R x.1 = false := by
          have h1 : sHas (sAndNot (near gs at_) R) x.1 = true := (congrArg (fun t => sHas t x.1) HS.out).trans x.2.2
          have h2 : sHas (sAndNot (near gs at_) R) x.1 = ((near gs at_).testBit x.1 && !R.testBit x.1) := andNot_bit _ _ _ (hg.lt at_) (Nat.lt_trans hRl (by omega))
          rw [h2] at h1
          simpa [sHas] using h1
        have hdv4 : Div W4 g m gs H L := Row.fr hdv hw4.fr (by simp)
        have d17 := hdv4.has hg hat hxl
        have Hs := Lib.hid (vals_snoc pre x)
        have HM := Lib.hid hmid
        have hq1l : q1.length ≤ 1000 := by
          rw [hmid.qeq, List.length_append]
          have h1 := List.length_filter_le (fun u => decide (H at_ u ≠ 0)) (vals pre)
          rw [vals_len] at h1
          have h2 := HQ.out.meas
          simp only [List.length_cons] at h2
          omega
        have HQL := Lib.hid hq1l
        have hR1 := hmid.tree.lt
        have HBL := Lib.hid hmid.tree.blen
        obtain ⟨c0, f0⟩ := hw4.r0.cells1
        obtain ⟨c12, f12⟩ := hA4.cells1
        generalize hx : x.1 = y at *
        clear hx hmid hq1l hdv4
        by_cases hz : H at_ y = 0
        · have hzb : (H at_ y == 0) = true := by simp [hz]
          gi_wp2
          refine wpIn_region_quiet_all (hO.inRound l) (by kernel_rfl) (by kernel_rfl) (by kernel_rfl) ?_
          repeat go_big_quiet_step ((fail))
          refine wpQuiet_nil ?_
          rintro _ ⟨nq, rfl⟩
          gi_wp2
          exact ⟨keeps_drewN _ _ _, keepB_row hB4 (hB4.drewN nq), R1, bs1, v1, q1, by rw [Hs.out]; exact HM.out.skip hz, hw4.drewN nq, hq4.drewN nq, hbk4, hA4.drewN nq, hB4.drewN nq, Dfs.keep hdf4 (keeps_drewN 0 _ nq)⟩
        · have hzb : (H at_ y == 0) = false := by simp [hz]
          have HC1 := Lib.hid (fun w => with_any R1 y w (by omega) (by omega))
          obtain ⟨c5, f5⟩ := hw4.r5.cells1
          have c3 : W4.cell? ⟨w.heap.size + 1 + 1 + 1, y, none⟩ = some (.int .i64 (getn bs1 y)) := intv_row hw4.r3 (by rw [HBL.out]; exact hxl)
          have f3 := hw4.r3.free y
          gi_wp2
          refine wpIn_region_quiet_all (hO.inRound l) (by kernel_rfl) (by kernel_rfl) (by kernel_rfl) ?_
          repeat go_big_quiet_step ((fail))
          refine wpQuiet_nil ?_
          rintro _ ⟨nq, rfl⟩
          gi_wp2_with (gi_at_call 57; refine ((hO.inRound l).lift _ (HC1.out _)).mono ?_; rintro e w' ⟨rfl, rfl⟩)
          have hwa := (hw4.drewN nq).setR (sWith R1 y)
          have hw5 := hwa.setB y at_
          have hq5 := ((hq4.drewN nq).set_row (hw4.drewN nq).r5 (by decide) (.int .u32 (sWith R1 y)) (o := 0)).set_row hwa.r3 (by decide) (.int .i64 at_) (o := y)
          have hA5 := ((hA4.drewN nq).far (p := ⟨w.heap.size + 1 + 1 + 1 + 1 + 1, 0, none⟩) (by dsimp only; omega) (.int .u32 (sWith R1 y))).far (p := ⟨w.heap.size + 1 + 1 + 1, y, none⟩) (by dsimp only; omega) (.int .i64 at_)
          have hB5 := ((hB4.drewN nq).far (p := ⟨w.heap.size + 1 + 1 + 1 + 1 + 1, 0, none⟩) (by dsimp only; omega) (.int .u32 (sWith R1 y))).far (p := ⟨w.heap.size + 1 + 1 + 1, y, none⟩) (by dsimp only; omega) (.int .i64 at_)
          have hk5 := (keeps_drewN 0 W4 nq).trans (((KeepsOthers.setCell (W4.drewN nq) ⟨w.heap.size + 1 + 1 + 1 + 1 + 1, 0, none⟩ (.int .u32 (sWith R1 y))).trans (KeepsOthers.setCell _ ⟨w.heap.size + 1 + 1 + 1, y, none⟩ (.int .i64 at_))).from 0)
          generalize World.setCell (World.setCell (World.drewN W4 nq) _ _) _ _ = W5 at *
          clear hwa c0 f0 c12 f12 c5 f5 c3 f3 d17
          have hdv5 : Div W5 g m gs H L := Row.fr hdv hw5.fr (by simp)
          have d273 := hdv5.load hg hxl
          obtain ⟨c0, f0⟩ := hw5.r0.cells1
          obtain ⟨c2, f2⟩ := hw5.r2.cells1
          have hz5 := hw5.lt
          clear hdv5
          cases g2 : decide (L y < lim)
          · have hge : lim ≤ L y := by have := of_decide_eq_false g2; omega
            have HM2 := Lib.hid (HM.out.add hxl hxs.1 hxs.2 hz hge)
            clear hge
            obtain ⟨c7, f7⟩ := hw5.r7.cells1
            obtain ⟨i0, hi, hz0, hz1, hz2⟩ := info_parts info3
            gi_wp2
            refine wpIn_region_quiet_all (hO.inRound l) (by kernel_rfl) (by kernel_rfl) (by kernel_rfl) ?_
            repeat go_big_quiet_step ((fail))
            refine wpQuiet_nil ?_
            rintro _ ⟨nq, rfl⟩
            have hq6 := (hq5.drewN nq).alloc (.cells #[.int .i64 y] 3)
            have hw6 := (hw5.drewN nq).alloc (.cells #[.int .i64 y] 3)
            have cy : ((W5.drewN nq).alloc (.cells #[.int .i64 y] 3)).cell? ⟨W5.heap.size, 0, none⟩ = some (.int .i64 y) := (row_new (cs := [.int .i64 y]) rfl : Row _ _ 3 [.int .i64 y]).cell 0
            gi_wp2_with (gi_at_builtin; refine wpListIn_append_que _ rfl (.tmp 64) (.tmp 66) 24 rfl (w.heap.size + 1 + 1 + 1 + 1 + 1 + 1) i0 Try.underlying24 hi hz0 hz1 hz2 v1 q1 rfl hq6 (by simp; omega) ⟨W5.heap.size, 0, none⟩ 1 y rfl cy HQL.out ?_; intro v2 W6 hq7 hg7; have hq7c := hq7; obtain ⟨b7, o7, k7, u7, e7, -⟩ := hq7c; subst e7; have hw7 := hw6.grow hg7; obtain ⟨c77, f77⟩ := hw7.r7.cells1)
            have hA6 := hg7.far ((hA5.drewN nq).alloc (.cells #[.int .i64 y] 3)) (.inr (.inr hbk4))
            have hB6 := hg7.far ((hB5.drewN nq).alloc (.cells #[.int .i64 y] 3)) (.inl (by decide))
            have hk6 := ((hk5.trans (keeps_drewN 0 W5 nq)).trans ((KeepsOthers.alloc (W5.drewN nq) (.cells #[.int .i64 y] 3)).from 0)).trans hg7.keep
            have hk7 := hk6.trans ((KeepsOthers.setCell W6 ⟨w.heap.size + 1 + 1 + 1 + 1 + 1 + 1 + 1, 0, none⟩ (.slice (some ⟨b7, o7, none⟩) (q1 ++ [y]).length k7)).from 0)
            have hbk7 := hg7.ne hbk4 (g := W.heap.size) ((hA5.drewN nq).alloc (.cells #[.int .i64 y] 3)).lt
            have el : (q1 ++ [y]).length = q1.length + 1 := by simp
            rw [el] at hq7 hk7 hbk7
            refine ⟨KeepsFrom.up hk7, keepB_row hB4 (hB6.far (by dsimp only; omega) _), sWith R1 y, bs1.set y at_, _, q1 ++ [y], by rw [Hs.out]; exact HM2.out, hw7.setQ _, hq7.set_row hw7.r7 (by decide) _, hbk7, hA6.far (by dsimp only; omega) _, hB6.far (by dsimp only; omega) _, Dfs.keep hdf4 hk7⟩
          · have hlt := of_decide_eq_true g2
            have ht5 := HM.out.tree_add hxl hxs.1 hxs.2 hz
            have hyf : y ≠ f := by
              intro e; subst e
              have h1 := HM.out.root0
              rw [hxs.2] at h1; cases h1
            obtain ⟨K, hK16, hok, hp⟩ := ht5.post (L := L) (lim := lim) hxl (by rw [with_has]; simp) hyf hlt
            have HP := Lib.hid hp
            have hbl5 := ht5.blen
            have HWB := Lib.hid (fun w => wayBack_any (bs1.set y at_) f y K w hbl5 (fun v _ => ht5.blt v) hf hxl hK16 hok)
            have hi93 := Lib.hid (info93 hbl5)
            have hr3 := Lib.hid (Row.range (hw5.r3.drewN nq))
            clear ht5 hp hok
            obtain ⟨c1, f1⟩ := hw5.r1.cells1
            gi_wp2
            refine wpIn_region_quiet_all (hO.inRound l) (by kernel_rfl) (by kernel_rfl) (by kernel_rfl) ?_
            repeat go_big_quiet_step ((fail))
            refine wpQuiet_nil ?_
            rintro _ ⟨nq, rfl⟩
            gi_wp2_with (first
              | (refine wpListIn_load_mid rfl 93 (.tmp 8) rfl (w.heap.size + 1 + 1 + 1) 0 rfl (intv (bs1.set y at_)) _ (Row.range (hw5.r3.drewN nq)) Try.underlying93 rfl hi93.out ?_)
              | (gi_at_call 71; refine ((hO.inRound l).lift _ (HWB.out _)).mono ?_; rintro e W6 ⟨wy, rfl, hown, hb6⟩; have hownc := hown; obtain ⟨A6, k6, e6, -⟩ := own_ints hownc; subst e6; have hw6 := (hw5.drewN nq).below hb6; obtain ⟨c44, f44⟩ := hw6.r4.cells1))
            have hk9 := ((hk5.trans (keeps_drewN 0 W5 nq)).trans (keeps_below 0 hb6)).trans ((KeepsOthers.setCell W6 ⟨w.heap.size + 1 + 1 + 1 + 1, 0, none⟩ (.slice A6 (wbF (bs1.set y at_) f K y).length k6)).from 0)
            exact ⟨KeepsFrom.up hk9, rfl, _, _, _, _, _, HP.out, hw6.setW _, own_mono (own_set hown (p := ⟨w.heap.size + 1 + 1 + 1 + 1, 0, none⟩) (by simp; omega) _) (by simp; omega), Dfs.keep hdf4 hk9⟩
      · rintro D xs W5 hDB hxs ⟨R1, bs1, v1, q1, hmid, hw5, hq5, -, -, -, hdf⟩ hK
        rw [hxs, ← HS.out] at hmid
        obtain ⟨hb1, hlt⟩ := Mid.done HQ.out hg hmid
        have HB1 := Lib.hid hb1
        have hm5 : Marks (D :: Ds) W5 := by
          refine ⟨List.nodup_cons.2 ⟨fun hDs => ?_, w3m.1⟩, fun E hE => ?_⟩
          · have := (Array.getElem?_eq_some_iff.1 (w3m.2 D hDs)).1; omega
          · rcases List.mem_cons.1 hE with rfl | hE
            · exact hK
            · exact hdf E hE
        gi_wp2
        refine ⟨_, ?_, uF [undef, undef, undef, undef, undef, undef, undef, undef, undef, undef, undef, undef, _, _, undef, undef, undef, undef, _, _, _, _, _, _, _, _, _, _, _, _, _, _, _, _, _, _, _, _, _, _, _, _, _, _, _, _, _, _, _, _, _, _, _, _, _, _, _, _, _, _, _, _, _, _, _, _, _, _, _, _], D :: Ds, R1, bs1, q1, v1, rfl, rfl, HB1.out, hw5, hq5, hm5, ?_⟩
        · rw [HN.out]; simp only [List.length_cons]; omega
        · intro E hE
          have hw3 := w3r.lt
          rcases List.mem_cons.1 hE with rfl | hE
          · omega
          · exact hD E hE
      · rintro D c pre W5 hDB ⟨rfl, R1, bs1, v1, wy, ws, hp, hw5, hown, hdf⟩ hK
        have hm5 : Marks (D :: Ds) W5 := by
          refine ⟨List.nodup_cons.2 ⟨fun hDs => ?_, w3m.1⟩, fun E hE => ?_⟩
          · have := (Array.getElem?_eq_some_iff.1 (w3m.2 D hDs)).1; omega
          · rcases List.mem_cons.1 hE with rfl | hE
            · exact hK
            · exact hdf E hE
        obtain ⟨c4, f4⟩ := hw5.r4.cells1
        obtain ⟨c5, f5⟩ := hw5.r5.cells1
        gi_wp2
        refine wpIn_region_quiet_all hO (by kernel_rfl) (by kernel_rfl) (by kernel_rfl) ?_
        repeat go_big_quiet_step ((fail))
        refine wpQuiet_nil ?_
        rintro _ ⟨nq, rfl⟩
        gi_wp2
        have hw3 := w3r.lt
        have hDD : ∀ E ∈ D :: Ds, w.heap.size ≤ E := by
          intro E hE
          rcases List.mem_cons.1 hE with rfl | hE
          · omega
          · exact hD E hE
        refine ret_marks (D :: Ds) (w := W5.drewN nq) hm5 (v := .tuple #[wy, .int .u32 R1]) ?_ ⟨wy, R1, ws, rfl, hp, shut_own (w := W5.drewN nq) hm5 hown, shut_below (hw5.fr.below.trans (below_drewN nq)) hDD⟩
        simp [results, Try.results64, go_sem]
end Go.Proofs.Ytmfpegadcecknaa
