/- The list of the members of a set. -/
import Derived.Maps.AppendAt
import Derived.Test.YtmfpegadcecknaaD
namespace Go.Proofs.Ytmfpegadcecknaa
open Go.RowKit Go.Shelf
attribute [local go_sem] Oper.semAt_some
set_option maxHeartbeats 1000000
set_option maxRecDepth 100000
theorem info3 : (Try.prog.info? 3).map (fun i => (i.zero, i.size, i.bytes)) = some (some (.int .i64 0), 1, 8) := by kernel_rfl
def intv (xs : List Nat) : List Value := xs.map fun x : Nat => Value.int .i64 x
theorem list_any (s : Nat) (hs : s < 65536) (w : World) :
    Calls Try.prog 43 #[.int .u32 s] w fun e w' => ∃ v, e = .returned v ∧ w'.ownsRow w.heap.size 3 1 v (ms s).length (intv (ms s)) ∧ Below w.heap.size w w' := by
  obtain ⟨i0, hi, hz0, hz1, hz2⟩ := info_parts info3
  have hp := pc_le 16 s
  refine callsIn_wide.1 (?_ : CallsIn Fence.wide 9 _ _ _ _ _)
  generalize hFw : Fence.wide = F
  have hO : Open F := hFw ▸ Open.wide
  have hro : F.round = none := hFw ▸ rfl
  clear hFw
  have hF := hO.fn
  have hd := hO.depth
  have F43 := hF 43
  refine callsIn_of_wp_marks Try.func43 rfl F43 ?_ hro
  simp only [Try.ntmps43, List.size_toArray, List.length_cons, List.length_nil, Nat.reduceAdd, Nat.reduceSub, Array.replicate_succ, Array.replicate_zero, List.push_toArray, List.append_toArray, List.nil_append, List.cons_append]
  gi_wp2_with (first
    | (gi_at_call 60; refine (hO.lift _ (size_any _ _ hs)).mono ?_; rintro e w' ⟨rfl, nq, rfl⟩)
    | (gi_at_call 61; refine (hO.lift _ (members_any _ _)).mono ?_; rintro e w' ⟨rfl, rfl⟩)
    | (gi_at_make; refine wpListIn_make_own _ rfl _ _ 24 rfl w.heap.size 3 i0 (.int .i64 0) 1 Try.underlying24 hi hz0 hz1 .i64 .i64 _ (pc 16 s) rfl rfl rfl (by rw [hz2]; omega) (by unfold maxLen; omega) (Nat.le_refl _) ?_; intro w1 hown1 hg1))
  have hb1 : Below w.heap.size w w1 := ((Below.refl _ w).trans (below_drewN nq)).grown hg1 (Nat.le_refl _) (by simp)
  have hle1 := hb1.size
  have hw2 : ∃ w2, (w1.alloc (.cells #[.slice (some ⟨w.heap.size, 0, none⟩) 0 (pc 16 s)] 24)).alloc (.cells #[.int .u32 s] 72) = w2 := ⟨_, rfl⟩
  obtain ⟨w2, hw2⟩ := hw2
  rw [hw2]
  have bx : Boxed w2 w1.heap.size 24 (.slice (some ⟨w.heap.size, 0, none⟩) 0 (pc 16 s)) := by rw [← hw2]; exact (Boxed.new _ _ _).alloc _
  have bs : Row w2 (w1.heap.size + 1) 72 [.int .u32 s] := by rw [← hw2]; exact row_new (by simp)
  have hown2 : w2.ownsRow w.heap.size 3 1 (.slice (some ⟨w.heap.size, 0, none⟩) 0 (pc 16 s)) 0 [] := by rw [← hw2]; exact (hown1.alloc _).alloc _
  have hb2 : Below w.heap.size w w2 := by rw [← hw2]; (repeat (first | exact Below.refl _ _ | assumption | (refine Below.setCell ?_ (by first | exact Nat.le_refl _ | omega | (simp; done) | (simp; omega)) _) | (refine Below.trans ?_ (below_drewN _)) | (refine Below.drew ?_) | (refine Below.alloc ?_ (by first | exact Nat.le_refl _ | omega | (simp; done) | (simp; omega)) _) | (refine below_row ?_ (by first | exact Nat.le_refl _ | omega | (simp; done) | (simp; omega)) _)))
  have hz2' : w2.heap.size = w1.heap.size + 1 + 1 := by rw [← hw2]; simp
  clear hw2
  refine range_members hO hro (by omega) (w1.heap.size + 1) s hs bs rfl rfl
    (fun pre W => (∃ v, Boxed W w1.heap.size 24 v ∧ W.ownsRow w.heap.size 3 1 v (vals pre).length (intv (vals pre)) ∧ True) ∧ Row W (w1.heap.size + 1) 72 [.int .u32 s] ∧ Below w.heap.size w W) (fun _ _ _ => False)
    (OwnFrom.and (Own.from (holdsRow_own w.heap.size w1.heap.size 24 3 1 (fun pre => (vals pre).length) (fun pre => intv (vals pre)) (fun _ _ => True)) _) (OwnFrom.and ownFrom_row (ownFrom_below (Nat.le_refl _) (by omega))))
    (fun _ _ _ _ _ h _ _ => h) ⟨⟨_, bx, hown2, trivial⟩, bs, hb2⟩ ?a1 ?assign ?body ?done (fun _ _ _ _ _ h _ => h.elim)
  case assign =>
    intro l x W K hK
    gi_wp2
    exact hK
  case body =>
    rintro l pre x W ⟨⟨v, hv, hrow, _⟩, hbs, hB⟩ hlen
    have hxl := x.2.1
    have hvl := vals_len pre
    have Hs := Lib.hid (vals_snoc pre x)
    generalize hx : x.1 = y at *
    have hvc := hv.cell
    have hvb := hv.not_row (by decide) hrow
    generalize hvp : vals pre = ys at *
    have hle := hB.size
    have hyl : ys.length < 16 := by omega
    clear hx hvl
    gi_wp2_with (gi_at_builtin; refine wpListIn_append_own _ rfl _ _ 24 rfl w.heap.size 3 i0 (.int .i64 0) 1 8 Try.underlying24 hi hz0 hz1 hz2 rfl (by decide) _ _ _ rfl (hrow.alloc _) ⟨W.heap.size, 0, none⟩ 1 1 [.int .i64 y] rfl rfl (cell_one_new _ _ _) (by simp [Value.oneCell']) (by unfold maxLen; omega) (by omega) (by simp; omega) ?_; intro v' w3 hown' hgrow _; obtain ⟨g', cap', rfl⟩ := ownsRow_succ hown'; obtain ⟨hv1, hv2, hr2, hk2, hb2⟩ := hv.appended (by decide) hrow hB.size (by omega) hown' hgrow; have hc1 := hv1.cell; have hf1 := hv1.frozen)
    have bs1 : Boxed W (w1.heap.size + 1) 72 (.int .u32 s) := hbs
    have bs2 : Boxed w3 (w1.heap.size + 1) 72 (.int .u32 s) := (bs1.alloc _).kept hgrow (bs1.not_row (by decide) hrow)
    have bs3 : Row (w3.setCell ⟨w1.heap.size, 0, none⟩ (.slice (some ⟨g', 0, none⟩) (ys.length + 1) cap')) (w1.heap.size + 1) 72 [.int .u32 s] := Row.far (show Row w3 _ 72 [_] from bs2) (by simp) _
    refine ⟨hk2.from _, keepB_row hbs bs3, ⟨_, hv2, ?_, trivial⟩, bs3, hB.trans hb2⟩
    rw [Hs.out]
    have e1 : (ys ++ [y]).length = ys.length + 1 := by rw [List.length_append]; rfl
    have e2 : intv (ys ++ [y]) = intv ys ++ [.int .i64 y] := by simp [intv]
    rw [e1, e2]
    exact hr2
  case done =>
    rintro D xs W hD hxs ⟨⟨v, hv, hrow, _⟩, hbs, hB⟩ hK
    rw [hxs] at hrow
    have hvc := hv.cell
    gi_wp2
    refine ret_marks [D] (marks_one hK) (v := v) ?_ ⟨v, rfl, ownsRow_putObj hrow _ hK rfl, shut_below hB (by simp; omega)⟩
    simp [results, Try.results43, go_sem]
end Go.Proofs.Ytmfpegadcecknaa
