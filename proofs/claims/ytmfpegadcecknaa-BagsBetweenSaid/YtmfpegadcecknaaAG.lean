/- The vertices that are full. -/
import Derived.Test.YtmfpegadcecknaaX
namespace Go.Proofs.Ytmfpegadcecknaa
open Go.RowKit Go.Shelf
attribute [local go_sem] Oper.semAt_some
set_option maxHeartbeats 1000000
set_option maxRecDepth 100000
theorem Div.graph {w : World} {g m : Nat} {gs : List Nat} {H : Nat → Nat → Int} {L : Nat → Int} (d : Div w g m gs H L) : w.rangeAt g 0 (gcells m gs) := fun j v hj => by
  have hl := (List.getElem?_eq_some_iff.1 hj).1
  rw [Nat.zero_add, Row.cell d]
  unfold dcells
  rw [List.getElem?_append_left hl]; exact hj
theorem info75m {m : Nat} {gs : List Nat} (h : Rows16 gs) : (Try.prog.info? 75).map (·.size) = some (gcells m gs).length := by
  have := info75g (m := m) h
  simpa using this
/-- Nothing can be moved from v to a smaller load. -/
def Stuck (gs : List Nat) (H : Nat → Nat → Int) (L : Nat → Int) (lim : Int) (v : Nat) : Prop := ∃ R, WayPost gs H L v lim R []
def Freed (gs : List Nat) (H : Nat → Nat → Int) (L : Nat → Int) (lim : Int) (v : Nat) : Prop := ∃ R ws, ws ≠ [] ∧ WayPost gs H L v lim R ws
/-- The set s is right about the vertices xs. -/
structure FullI (gs : List Nat) (H : Nat → Nat → Int) (L : Nat → Int) (lim : Int) (xs : List Nat) (s : Nat) : Prop where
  lt : s < 65536
  sub : ∀ v, sHas s v = true → v ∈ xs ∧ L v = lim ∧ Stuck gs H L lim v
  all : ∀ v ∈ xs, sHas s v = true ∨ L v ≠ lim ∨ Freed gs H L lim v
theorem FullI.skip {gs : List Nat} {H : Nat → Nat → Int} {L : Nat → Int} {lim : Int} {xs : List Nat} {s y : Nat} (h : FullI gs H L lim xs s) (hy : L y ≠ lim ∨ Freed gs H L lim y) : FullI gs H L lim (xs ++ [y]) s := by
  refine ⟨h.lt, fun v hv => ?_, fun v hv => ?_⟩
  · have := h.sub v hv; exact ⟨List.mem_append_left _ this.1, this.2⟩
  · rcases List.mem_append.1 hv with hv | hv
    · exact h.all v hv
    · simp at hv; subst hv; exact .inr hy
theorem FullI.add {gs : List Nat} {H : Nat → Nat → Int} {L : Nat → Int} {lim : Int} {xs : List Nat} {s y : Nat} (h : FullI gs H L lim xs s) (hy : y < 16) (h1 : L y = lim) (h2 : Stuck gs H L lim y) : FullI gs H L lim (xs ++ [y]) (sWith s y) := by
  refine ⟨with_lt h.lt hy, fun v hv => ?_, fun v hv => ?_⟩
  · rw [with_has] at hv
    by_cases e : y = v
    · subst e; exact ⟨by simp, h1, h2⟩
    · have := h.sub v (by simpa [e] using hv); exact ⟨List.mem_append_left _ this.1, this.2⟩
  · rw [with_has]
    rcases List.mem_append.1 hv with hv | hv
    · rcases h.all v hv with h3 | h3
      · exact .inl (by rw [h3]; rfl)
      · exact .inr h3
    · simp at hv; subst hv; exact .inl (by simp)
theorem full_any (g m : Nat) (gs : List Nat) (H : Nat → Nat → Int) (L : Nat → Int) (lim : Int) (w : World) (hg : Rows16 gs) (hm : m ≤ 16) (hdv : Div w g m gs H L) :
    Calls Try.prog 59 #[.pointer (some ⟨g, 0, none⟩), .int .i64 lim] w fun e w' => ∃ s : Nat, e = .returned (.int .u32 s) ∧ FullI gs H L lim (ms (sAll m)) s ∧ Below w.heap.size w w' := by
  have hgl := Row.lt hdv
  have HAL := Lib.hid (fun w => all_any m gs w hm hg.len)
  have hs := all_lt hm
  have HI := Lib.hid (info75m (m := m) hg)
  refine callsIn_wide.1 (?_ : CallsIn Fence.wide 9 _ _ _ _ _)
  generalize hFw : Fence.wide = F
  have hO : Open F := hFw ▸ Open.wide
  have hro : F.round = none := hFw ▸ rfl
  clear hFw
  have hF := hO.fn
  have hd := hO.depth
  have F59 := hF 59
  refine callsIn_of_wp_marks Try.func59 rfl F59 ?_ hro
  simp only [Try.ntmps59, List.size_toArray, List.length_cons, List.length_nil, Nat.reduceAdd, Nat.reduceSub, Array.replicate_succ, Array.replicate_zero, List.push_toArray, List.append_toArray, List.nil_append, List.cons_append]
  have hdg : World.rangeAt (((w.alloc (.cells #[.pointer (some ⟨g, 0, none⟩)] 78)).alloc (.cells #[.int .i64 lim] 3)).alloc (.cells #[.int .u32 0] 72)) g 0 (gcells m gs) := Div.graph (((hdv.alloc _).alloc _).alloc _ : Div _ g m gs H L)
  gi_wp2_with (first
    | (refine wpListIn_load_mid rfl 75 (.tmp 11) rfl g 0 rfl (gcells m gs) _ hdg Try.underlying75 rfl HI.out ?_)
    | (gi_at_call 58; refine (hO.lift _ (HAL.out _)).mono ?_; rintro e w' ⟨rfl, hb2⟩)
    | (gi_at_call 61; refine (hO.lift _ (members_any _ _)).mono ?_; rintro e w' ⟨rfl, rfl⟩))
  have hb3 := (((((Below.refl _ w).alloc (Nat.le_refl _) (.cells #[.pointer (some ⟨g, 0, none⟩)] 78)).alloc (by first | (simp; done) | (simp; omega)) (.cells #[.int .i64 lim] 3)).alloc (by first | (simp; done) | (simp; omega)) (.cells #[.int .u32 0] 72)).trans (hb2.mono (by simp; omega)))
  have q0 : Row w' w.heap.size 78 [.pointer (some ⟨g, 0, none⟩)] := (((row_new rfl : Row (w.alloc _) _ 78 [.pointer (some ⟨g, 0, none⟩)]).alloc _).alloc _).below hb2
  have q1 : Row w' (w.heap.size + 1) 3 [.int .i64 lim] := ((row_new (by simp) : Row ((w.alloc _).alloc _) _ 3 [.int .i64 lim]).alloc _).below hb2
  have q2 : Row w' (w.heap.size + 1 + 1) 72 [.int .u32 (0 : Nat)] := (row_new (by simp) : Row (((w.alloc _).alloc _).alloc _) _ 72 [.int .u32 (0 : Nat)]).below hb2
  have hz := q2.lt
  have r0 := q0.alloc (.cells #[.int .u32 (sAll m)] 72)
  have r1 := q1.alloc (.cells #[.int .u32 (sAll m)] 72)
  have r2 := q2.alloc (.cells #[.int .u32 (sAll m)] 72)
  have rB : Row (w'.alloc (.cells #[.int .u32 (sAll m)] 72)) w'.heap.size 72 [.int .u32 (sAll m)] := row_new rfl
  have hb4 := hb3.alloc (by omega) (.cells #[.int .u32 (sAll m)] 72)
  have HWO := Lib.hid (fun W v (hd : Div W g m gs H L) (hv : v < 16) => wayOut_any g m v gs H L lim W hg hd hv)
  generalize hw4 : World.alloc w' _ = w4 at *
  have hz4 : w.heap.size + 3 ≤ w4.heap.size := by rw [← hw4]; simp; omega
  clear hw4
  clear hb3 hdg q0 q1 q2 hb2
  refine range_members hO hro (by omega) w'.heap.size (sAll m) hs rB rfl rfl
    (fun pre W => ∃ s : Nat, FullI gs H L lim (vals pre) s ∧ Fr (fun _ => False) w W ∧ Row W w.heap.size 78 [.pointer (some ⟨g, 0, none⟩)] ∧ Row W (w.heap.size + 1) 3 [.int .i64 lim] ∧ Row W (w.heap.size + 1 + 1) 72 [.int .u32 s] ∧ Row W w'.heap.size 72 [.int .u32 (sAll m)]) (fun _ _ _ => False)
    (ownFrom_ex fun s => OwnFrom.and ownFrom_pure (OwnFrom.and (ownFrom_fr hb4.size) (OwnFrom.and ownFrom_row (OwnFrom.and ownFrom_row (OwnFrom.and ownFrom_row ownFrom_row))))) (fun _ _ _ _ _ h _ _ => h) ⟨0, ⟨by omega, fun v hv => by simp [sHas] at hv, fun v hv => by simp [vals] at hv⟩, Fr.of_below hb4, r0, r1, r2, rB⟩ ?a1 ?assign ?body ?done (fun _ _ _ _ _ h _ => h.elim)
  case assign =>
    intro l x W K hK
    gi_wp2
    exact hK
  case body =>
    rintro l pre x W ⟨s, hI, hfr, q0, q1, q2, q3⟩ hlen
    have hxl := x.2.1
    obtain ⟨c0, f0⟩ := q0.cells1
    obtain ⟨c1, f1⟩ := q1.cells1
    have hdW : Div W g m gs H L := Row.fr hdv hfr (by simp)
    have Hs := Lib.hid (vals_snoc pre x)
    have HII := Lib.hid hI
    have hsl := hI.lt
    clear hI
    generalize hx : x.1 = y at *
    clear hx
    have HW1 := Lib.hid (fun w => with_any s y w (by omega) (by omega))
    gi_wp2_with (gi_at_call 64; refine ((hO.inRound l).lift _ (HWO.out W y hdW hxl)).mono ?_; rintro e W5 ⟨wy, R, ws, rfl, hp, hown, hb5⟩; obtain ⟨A6, k6, e6, -⟩ := own_ints hown; subst e6)
    have p0 := q0.below hb5
    have p1 := q1.below hb5
    have p2 := q2.below hb5
    have p3 := q3.below hb5
    have hfr5 := hfr.then_below hb5
    have hd5 : Div W5 g m gs H L := Row.fr hdv hfr5 (by simp)
    have d1 := hd5.load hg hxl
    have HP := Lib.hid hp
    obtain ⟨c0, f0⟩ := p0.cells1
    obtain ⟨c1, f1⟩ := p1.cells1
    obtain ⟨c2, f2⟩ := p2.cells1
    clear hown hp hdW hd5
    cases g1 : (L y == lim) <;> cases g2 : ((ws.length : Int) == 0)
    all_goals
      gi_wp2
      refine wpIn_region_quiet_all (hO.inRound l) (by kernel_rfl) (by kernel_rfl) (by kernel_rfl) ?_
      repeat go_big_quiet_step ((fail))
      refine wpQuiet_nil ?_
      rintro _ ⟨nq, rfl⟩
      gi_wp2_with (gi_at_call 57; refine ((hO.inRound l).lift _ (HW1.out _)).mono ?_; rintro e w' ⟨rfl, rfl⟩)
    · exact ⟨(keeps_below _ hb5).trans (keeps_drewN _ _ _), keepB_row q3 (p3.drewN nq), s, by rw [Hs.out]; exact HII.out.skip (.inl (by simpa using g1)), hfr5.drewN nq, p0.drewN nq, p1.drewN nq, p2.drewN nq, p3.drewN nq⟩
    · exact ⟨(keeps_below _ hb5).trans (keeps_drewN _ _ _), keepB_row q3 (p3.drewN nq), s, by rw [Hs.out]; exact HII.out.skip (.inl (by simpa using g1)), hfr5.drewN nq, p0.drewN nq, p1.drewN nq, p2.drewN nq, p3.drewN nq⟩
    · exact ⟨(keeps_below _ hb5).trans (keeps_drewN _ _ _), keepB_row q3 (p3.drewN nq), s, by rw [Hs.out]; exact HII.out.skip (.inr ⟨R, ws, by intro e; subst e; simp at g2, HP.out⟩), hfr5.drewN nq, p0.drewN nq, p1.drewN nq, p2.drewN nq, p3.drewN nq⟩
    · have e0 : ws = [] := by
        have : (ws.length : Int) = 0 := by simpa using g2
        exact List.eq_nil_of_length_eq_zero (by omega)
      refine ⟨((keeps_below _ hb5).trans (keeps_drewN _ _ _)).trans ((KeepsOthers.setCell _ _ _).from _), keepB_row q3 ((p3.drewN nq).far (by dsimp only; omega) _), sWith s y, ?_, (hfr5.drewN nq).setCell (.inr (by dsimp only; omega)) _, (p0.drewN nq).far (by dsimp only; omega) _, (p1.drewN nq).far (by dsimp only; omega) _, (p2.drewN nq).set 0 _, (p3.drewN nq).far (by dsimp only; omega) _⟩
      rw [Hs.out]
      exact HII.out.add hxl (by simpa using g1) ⟨R, by have := HP.out; rw [e0] at this; exact this⟩
  case done =>
    rintro D xs W hD hxs ⟨s, hI, hfr, q0, q1, q2, q3⟩ hK
    rw [hxs] at hI
    obtain ⟨c2, f2⟩ := q2.cells1
    gi_wp2
    refine ret_marks [D] (marks_one hK) (v := .int .u32 s) ?_ ⟨s, rfl, hI, shut_below hfr.below (by simp; omega)⟩
    simp [results, Try.results59, go_sem]
end Go.Proofs.Ytmfpegadcecknaa
