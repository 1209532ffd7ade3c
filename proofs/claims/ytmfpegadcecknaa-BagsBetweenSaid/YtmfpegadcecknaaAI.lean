/- Relieving vertices. -/
import Derived.Test.YtmfpegadcecknaaAG
import Derived.Test.YtmfpegadcecknaaAH
namespace Go.Proofs.Ytmfpegadcecknaa
open Go.RowKit Go.Shelf
attribute [local go_sem] Oper.semAt_some
set_option maxHeartbeats 1000000
set_option maxRecDepth 100000
theorem own_more {w : World} {b n : Nat} {v : Value} {xs : List Nat} (h : w.ownsRow b 3 1 v n (intv xs)) : ∃ A c, v = .slice A xs.length c ∧ IntsAt w A (natI xs) ∧ xs.length ≤ c ∧ ∀ b' o, A = some ⟨b', o, none⟩ → b ≤ b' := by
  obtain ⟨A, c, rfl, rfl, hi⟩ := own_ints h
  refine ⟨A, c, rfl, hi, ?_, fun b' o e => ?_⟩
  · rcases h.2 with ⟨h1, h2⟩ | ⟨g, cap, cur, h1, hb, hg, hc, _⟩
    · injection h1 with _ _ h3; omega
    · injection h1 with _ _ h3; omega
  · subst e; exact (own_ge h (g := b') rfl).1
theorem Spread.bd {gs : List Nat} {pcs : Int} {H : Nat → Nat → Int} {L : Nat → Int} (s : Spread gs pcs H L) (hp : 0 ≤ pcs ∧ pcs ≤ 6000) : (∀ u v, u < 16 → v < 16 → 0 ≤ H u v ∧ H u v ≤ 6000) ∧ ∀ v, v < 16 → 0 ≤ L v ∧ L v ≤ 100000 := by
  have h1 : ∀ u v, u < 16 → v < 16 → 0 ≤ H u v ∧ H u v ≤ 6000 := fun u v hu hv => by
    have a1 := s.nn u v hu hv
    have a2 := s.nn v u hv hu
    refine ⟨a1, ?_⟩
    cases h : sHas (near gs u) v
    · rw [s.no u v hu hv h]; omega
    · have := s.sum u v hu hv h; omega
  refine ⟨h1, fun v hv => ?_⟩
  rw [s.load v hv]
  unfold outF
  have a1 := sumN_nn (f := H v) 16 (fun i hi => (h1 v i hv hi).1)
  have a2 := sumN_le (f := H v) (B := 6000) 16 (fun i hi => (h1 v i hv hi).2)
  exact ⟨a1, by omega⟩
theorem Spread.move_le {gs : List Nat} {H : Nat → Nat → Int} {L : Nat → Int} {f : Nat} {lim : Int} {R : Nat} {ws : List Nat} (w : WayPost gs H L f lim R ws) (hne : ws ≠ []) (hf : lim < L f) {v : Nat} (hv : L v ≤ lim) :
    upd (upd L (getn ws (ws.length - 1)) (L (getn ws (ws.length - 1)) - minT ws H (way0 L lim ws) (ws.length - 1))) (getn ws 0) (upd L (getn ws (ws.length - 1)) (L (getn ws (ws.length - 1)) - minT ws H (way0 L lim ws) (ws.length - 1)) (getn ws 0) + minT ws H (way0 L lim ws) (ws.length - 1)) v ≤ lim := by
  obtain ⟨g1, g2, g3, g4, g5, g6⟩ := w.way hne
  obtain ⟨h1, h2, h3⟩ := g1.steps
  rw [h3]
  have hp0 : way0 L lim ws = mn (L f - lim) (lim - L (getn ws 0)) := by unfold way0; rw [h3]
  rw [hp0]
  have hle := (minT_le ws H (mn (L f - lim) (lim - L (getn ws 0))) (ws.length - 1)).1
  have hmn := mn_le (L f - lim) (lim - L (getn ws 0))
  generalize minT ws H (mn (L f - lim) (lim - L (getn ws 0))) (ws.length - 1) = P at *
  have hvf : v ≠ f := by intro e; subst e; omega
  unfold upd
  by_cases e1 : v = getn ws 0
  · rw [if_pos e1, if_neg g6]; omega
  · rw [if_neg e1, if_neg hvf]; exact hv
theorem shut_fr {X : Nat → Prop} {Ds : List Nat} {w W : World} (h : Fr X w W) (hB : ∀ D ∈ Ds, w.heap.size ≤ D) : Fr X w (shut Ds W) := by
  induction Ds generalizing W with
  | nil => exact h
  | cons D Ds ih =>
    refine ih ⟨h.os, h.tape, h.output, Nat.le_trans h.size (by simp), fun k hk hx => (World.putObj_heap_other (fun e => ?_)).trans (h.block k hk hx)⟩ (fun E hE => hB E (List.mem_cons_of_mem _ hE))
    have := hB D (List.mem_cons_self ..); omega
/-- How relieving ends. -/
def RelPost (g m : Nat) (gs : List Nat) (pcs lim : Int) (s : Nat) (w : World) : Prop := ∃ H L, Spread gs pcs H L ∧ Div w g m gs H L ∧
  ((s = 0 ∧ ∀ v ∈ ms (sAll m), L v ≤ lim) ∨ ∃ v, v ∈ ms (sAll m) ∧ lim < L v ∧ WayPost gs H L v lim s [])
theorem relieve_any (g m : Nat) (gs : List Nat) (H0 : Nat → Nat → Int) (L0 : Nat → Int) (pcs lim : Int) (w : World) (hg : Rows16 gs) (hm : m ≤ 16) (hp : 0 ≤ pcs ∧ pcs ≤ 6000) (hlim : 0 ≤ lim ∧ lim ≤ 100000)
    (hsym : ∀ u v, u < 16 → v < 16 → sHas (near gs u) v = sHas (near gs v) u) (hs0 : Spread gs pcs H0 L0) (hdv : Div w g m gs H0 L0) :
    Calls Try.prog 50 #[.pointer (some ⟨g, 0, none⟩), .int .i64 lim] w fun e w' => ∃ s : Nat, e = .returned (.int .u32 s) ∧ RelPost g m gs pcs lim s w' ∧ Fr (fun k => k = g) w w' := by
  have hgl := Row.lt hdv
  have HAL := Lib.hid (fun w => all_any m gs w hm hg.len)
  have hs := all_lt hm
  have HI := Lib.hid (info75m (m := m) hg)
  refine callsIn_wide.1 (?_ : CallsIn Fence.wide 9 _ _ _ _ _)
  generalize hFw : Fence.wide = F
  have hO : Open F := hFw ▸ Open.wide
  have hro : F.round = none := hFw ▸ rfl
  clear hFw
  have hF := hO.fn
  have hd := hO.depth
  have F50 := hF 50
  refine callsIn_of_wp_marks Try.func50 rfl F50 ?_ hro
  simp only [Try.ntmps50, List.size_toArray, List.length_cons, List.length_nil, Nat.reduceAdd, Nat.reduceSub, Array.replicate_succ, Array.replicate_zero, List.push_toArray, List.append_toArray, List.nil_append, List.cons_append]
  have hdg : World.rangeAt (((w.alloc (.cells #[.pointer (some ⟨g, 0, none⟩)] 78)).alloc (.cells #[.int .i64 lim] 3)).alloc (.cells #[.int .u32 0] 72)) g 0 (gcells m gs) := Div.graph (((hdv.alloc _).alloc _).alloc _ : Div _ g m gs H0 L0)
  gi_wp2_with (first
    | (refine wpListIn_load_mid rfl 75 (.tmp 10) rfl g 0 rfl (gcells m gs) _ hdg Try.underlying75 rfl HI.out ?_)
    | (gi_at_call 58; refine (hO.lift _ (HAL.out _)).mono ?_; rintro e w' ⟨rfl, hb2⟩)
    | (gi_at_call 61; refine (hO.lift _ (members_any _ _)).mono ?_; rintro e w' ⟨rfl, rfl⟩))
  have hb3 := (((((Below.refl _ w).alloc (Nat.le_refl _) (.cells #[.pointer (some ⟨g, 0, none⟩)] 78)).alloc (by first | (simp; done) | (simp; omega)) (.cells #[.int .i64 lim] 3)).alloc (by first | (simp; done) | (simp; omega)) (.cells #[.int .u32 0] 72)).trans (hb2.mono (by simp; omega)))
  have q0 : Row w' w.heap.size 78 [.pointer (some ⟨g, 0, none⟩)] := (((row_new rfl : Row (w.alloc _) _ 78 [.pointer (some ⟨g, 0, none⟩)]).alloc _).alloc _).below hb2
  have q1 : Row w' (w.heap.size + 1) 3 [.int .i64 lim] := ((row_new (by simp) : Row ((w.alloc _).alloc _) _ 3 [.int .i64 lim]).alloc _).below hb2
  have q2 : Row w' (w.heap.size + 1 + 1) 72 [.int .u32 (0 : Nat)] := (row_new (by simp) : Row (((w.alloc _).alloc _).alloc _) _ 72 [.int .u32 (0 : Nat)]).below hb2
  have hz := q2.lt
  have r0 := q0.alloc (.cells #[.int .u32 (sAll m)] 72)
  have r1 := q1.alloc (.cells #[.int .u32 (sAll m)] 72)
  have r2 := q2.alloc (.cells #[.int .u32 (sAll m)] 72)
  have rB : Row (w'.alloc (.cells #[.int .u32 (sAll m)] 72)) w'.heap.size 72 [.int .u32 (sAll m)] := row_new rfl
  have hb4 := hb3.alloc (by omega) (.cells #[.int .u32 (sAll m)] 72)
  have HWO := Lib.hid (fun W H L v (hd : Div W g m gs H L) (hv : v < 16) => wayOut_any g m v gs H L lim W hg hd hv)
  generalize hw4 : World.alloc w' _ = w4 at *
  have hz4 : w.heap.size + 3 ≤ w4.heap.size := by rw [← hw4]; simp; omega
  clear hw4 hb3 hdg q0 q1 q2 hb2
  have hdv4 : Div w4 g m gs H0 L0 := Row.fr hdv (Fr.of_below hb4 : Fr (fun _ => False) w w4) (by simp)
  refine range_members hO hro (by omega) w'.heap.size (sAll m) hs rB rfl rfl
    (fun pre W => ∃ H L, (Spread gs pcs H L ∧ ∀ u ∈ vals pre, L u ≤ lim) ∧ Div W g m gs H L ∧ Fr (fun k => k = g) w W ∧ Row W w.heap.size 78 [.pointer (some ⟨g, 0, none⟩)] ∧ Row W (w.heap.size + 1) 3 [.int .i64 lim] ∧ Row W (w.heap.size + 1 + 1) 72 [.int .u32 (0 : Nat)] ∧ Row W w'.heap.size 72 [.int .u32 (sAll m)])
    (fun c _ W => c = .ret ∧ ∃ H L R, (Spread gs pcs H L ∧ ∃ v, v ∈ ms (sAll m) ∧ lim < L v ∧ WayPost gs H L v lim R []) ∧ Div W g m gs H L ∧ Fr (fun k => k = g) w W ∧ Row W (w.heap.size + 1 + 1) 72 [.int .u32 (R : Nat)])
    (ownFrom_ex fun H => ownFrom_ex fun L => OwnFrom.and ownFrom_pure (OwnFrom.and ownFrom_row (OwnFrom.and (ownFrom_fr hb4.size) (OwnFrom.and ownFrom_row (OwnFrom.and ownFrom_row (OwnFrom.and ownFrom_row ownFrom_row))))))
    (fun c => OwnFrom.and ownFrom_pure (ownFrom_ex fun H => ownFrom_ex fun L => ownFrom_ex fun R => OwnFrom.and ownFrom_pure (OwnFrom.and ownFrom_row (OwnFrom.and (ownFrom_fr hb4.size) ownFrom_row))))
    ⟨H0, L0, ⟨hs0, fun u hu => by simp [vals] at hu⟩, hdv4, Fr.of_below hb4, r0, r1, r2, rB⟩ ?a1 ?assign ?body ?done ?stop
  case assign =>
    intro l x W K hK
    gi_wp2
    exact hK
  case body =>
    rintro l pre x W ⟨H, L, ⟨hsp, hall⟩, hd, hfr, q0, q1, q2, q3⟩ hlen
    have hxl := x.2.1
    have hxm : x.1 ∈ ms (sAll m) := mem_ms.2 x.2
    have Hs := Lib.hid (vals_snoc pre x)
    generalize hx : x.1 = y at *
    clear hx
    gi_wp2
    gi_loopg [] (exc lim L) (fun n W1 => ∃ H L, (n = exc lim L ∧ Spread gs pcs H L ∧ ∀ u ∈ vals pre, L u ≤ lim) ∧ Div W1 g m gs H L ∧ Fr (fun k => k = g) W W1)
    case atStart => exact ⟨H, L, ⟨rfl, hsp, hall⟩, hd, Fr.refl _ _⟩
    case round =>
      obtain ⟨H1, L1, ⟨hn, hsp1, hall1⟩, hd1, hfr1⟩ := hrel
      have p0 := q0.fr hfr1 (by omega)
      have p1 := q1.fr hfr1 (by omega)
      have p2 := q2.fr hfr1 (by omega)
      have p3 := q3.fr hfr1 (by omega)
      have hkg : ∀ k, k = g → ∃ o, W.heap[k]? = some o ∧ o.isCells = true := fun k hk => by subst hk; exact ⟨_, hd, rfl⟩
      have hkW := keeps_fr w4.heap.size hfr1 hkg
      have hfw := hfr.trans hfr1
      have HS1 := Lib.hid hsp1
      have HA1 := Lib.hid hall1
      have HNN := Lib.hid hn
      obtain ⟨c0, f0⟩ := p0.cells1
      obtain ⟨c1, f1⟩ := p1.cells1
      have d1 := hd1.load hg hxl
      have hgr := Row.lt hd1
      clear hn hsp1 hall1 hsp hall
      cases g1 : decide (lim < L1 y)
      · gi_wp2
        refine wpIn_region_quiet_all (hO.inRound l) (by kernel_rfl) (by kernel_rfl) (by kernel_rfl) ?_
        repeat go_big_quiet_step ((fail))
        refine wpQuiet_nil ?_
        rintro _ ⟨nq, rfl⟩
        gi_wp2
        refine ⟨hkW.trans (keeps_drewN _ _ _), keepB_row q3 (p3.drewN nq), H1, L1, ⟨HS1.out, fun u hu => ?_⟩, Row.drewN hd1 nq, hfw.drewN nq, p0.drewN nq, p1.drewN nq, p2.drewN nq, p3.drewN nq⟩
        rw [Hs.out] at hu
        rcases List.mem_append.1 hu with hu | hu
        · exact HA1.out u hu
        · simp at hu; subst hu; have := of_decide_eq_false g1; omega
      · have hlt := of_decide_eq_true g1
        obtain ⟨c2, f2⟩ := p2.cells1
        gi_wp2
        refine wpIn_region_quiet_all (hO.inRound l) (by kernel_rfl) (by kernel_rfl) (by kernel_rfl) ?_
        repeat go_big_quiet_step ((fail))
        refine wpQuiet_nil ?_
        rintro _ ⟨nq, rfl⟩
        gi_wp2_with (gi_at_call 64; refine ((hO.inRound l).lift _ (HWO.out (wr.drewN nq) H1 L1 y (Row.drewN hd1 nq) hxl)).mono ?_; rintro e W5 ⟨wy, R, ws, rfl, hpo, hown, hb5⟩; obtain ⟨A6, k6, e6, hin, hcap, hblk⟩ := own_more hown; subst e6; have HPO := Lib.hid hpo; have hs5 := hb5.size; have t0 := (p0.drewN nq).below hb5; have t1 := (p1.drewN nq).below hb5; have t2 := (p2.drewN nq).below hb5; have t3 := (p3.drewN nq).below hb5; have hd5 : Div W5 g m gs H1 L1 := Row.below (Row.drewN hd1 nq) hb5; obtain ⟨d0, e0⟩ := t0.cells1; obtain ⟨d1', e1⟩ := t1.cells1; obtain ⟨d2, e2⟩ := t2.cells1; clear hpo hown; cases g2 : ((ws.length : Int) == 0))
        · have hne : ws ≠ [] := by intro e; subst e; simp at g2
          obtain ⟨sw1, sw2, sw3⟩ := HS1.out.move HPO.out hne hlt hsym
          have sw4 := fun v hv => Spread.move_le HPO.out hne hlt (v := v) hv
          obtain ⟨bd1, bd2⟩ := HS1.out.bd hp
          obtain ⟨y1, y2, y3, y4, y5, y6⟩ := HPO.out.way hne
          refine ((hO.inRound l).lift _ (move_any g m gs H1 L1 A6 k6 ws lim W5 hg hd5 hin (fun b o e => by have := hblk b o e; simp at this; omega) sw3 y3 hcap (fun k hk => y4 _ (getn_mem hk)) (fun u v hu hv => ⟨(bd1 u v hu hv).1, by have := (bd1 u v hu hv).2; omega⟩) bd2 hlim _ rfl)).mono ?_
          rintro e W6 ⟨rfl, hd6, hfr6⟩
          have hwW : Fr (fun k => k = g) W W6 := ((hfr1.drewN nq).then_below hb5).trans hfr6
          obtain ⟨H6, L6, z1, z2, z3, z4⟩ : ∃ H6 L6, Spread gs pcs H6 L6 ∧ exc lim L6 < exc lim L1 ∧ (∀ v, L1 v ≤ lim → L6 v ≤ lim) ∧ Div W6 g m gs H6 L6 := ⟨_, _, sw1, sw2, sw4, hd6⟩
          clear bd1 bd2 y1 y2 y3 y4 y5 y6 sw1 sw2 sw4 hd6
          gi_wp2
          gi_roundg (exc lim L6)
          case rel => exact ⟨H6, L6, ⟨rfl, z1, fun u hu => z3 u (HA1.out u hu)⟩, z4, hwW⟩
          case measure => rw [HNN.out]; exact z2
        · have e0 : ws = [] := by
            have : (ws.length : Int) = 0 := by simpa using g2
            exact List.eq_nil_of_length_eq_zero (by omega)
          have hk5 := (hkW.trans (keeps_drewN _ _ nq)).trans ((keeps_below _ hb5).trans ((KeepsOthers.setCell W5 ⟨w.heap.size + 1 + 1, 0, none⟩ (.int .u32 R)).from _))
          exact ⟨hk5, rfl, H1, L1, R, ⟨HS1.out, y, hxm, hlt, by have := HPO.out; rw [e0] at this; exact this⟩, Row.far hd5 (by dsimp only; omega) _, ((hfw.drewN nq).then_below hb5).setCell (.inr (by dsimp only; omega)) _, t2.set 0 _⟩
  case done =>
    rintro D xs W hD hxs ⟨H, L, ⟨hsp, hall⟩, hd, hfr, q0, q1, q2, q3⟩ hK
    rw [hxs] at hall
    obtain ⟨c2, f2⟩ := q2.cells1
    gi_wp2
    have hk1 := keeps_mark ((KeepsOthers.setCell W ⟨w.heap.size + 1 + 1, 0, none⟩ (.int .u32 0)).from w4.heap.size) hD hK
    have hm1 := marks_one hk1
    have q5 := (shut_row hm1 (q2.set 0 (.int .u32 (0 : Nat)))).cells1.1
    have hd5 : Div (shut [D] (W.setCell ⟨w.heap.size + 1 + 1, 0, none⟩ (.int .u32 (0 : Nat)))) g m gs H L := shut_row hm1 (Row.far hd (by dsimp only; omega) _)
    have hf5 := shut_fr (Ds := [D]) (hfr.setCell (p := ⟨w.heap.size + 1 + 1, 0, none⟩) (.inr (by dsimp only; omega)) (.int .u32 (0 : Nat))) (fun E hE => by simp at hE; omega)
    refine ret_marks [D] hm1 (v := .int .u32 (0 : Nat)) ?_ ⟨0, rfl, ⟨H, L, hsp, hd5, .inl ⟨rfl, hall⟩⟩, hf5⟩
    simp [results, Try.results50, go_sem] at q5 ⊢
    simp [q5]
  case stop =>
    rintro D c pre W hD ⟨rfl, H, L, R, ⟨hsp, hv⟩, hd, hfr, q2⟩ hK
    obtain ⟨c2, f2⟩ := q2.cells1
    gi_wp2
    have hm1 := marks_one hK
    have q5 := (shut_row hm1 q2).cells1.1
    have hd5 : Div (shut [D] W) g m gs H L := shut_row hm1 hd
    have hf5 := shut_fr (Ds := [D]) hfr (fun E hE => by simp at hE; omega)
    refine ret_marks [D] hm1 (v := .int .u32 R) ?_ ⟨R, rfl, ⟨H, L, hsp, hd5, .inr hv⟩, hf5⟩
    simp [results, Try.results50, go_sem] at q5 ⊢
    simp [q5]
end Go.Proofs.Ytmfpegadcecknaa
