import Derived.Deep.RegionHeld3
import Derived.Deep.DrawnRows
import Derived.Deep.LoopGhost
import Derived.Deep.DeepCutAuto
import Derived.Deep.MidRow
import Derived.Outline
import Derived.Test.YtmfpegadcecknaaAO
namespace Go.Proofs.Ytmfpegadcecknaa
open Go.RowKit
attribute [local go_sem] Oper.semAt_some
set_option maxHeartbeats 1000000
set_option maxRecDepth 100000
/-- A measure: greater densities are less. -/
def dmu (p q : Nat) : Nat := 144144000 - p * (720720 / q)
theorem dmu_lt {p q p' q' : Nat} (hq : 0 < q) (hq16 : q ≤ 16) (hq' : 0 < q') (hq16' : q' ≤ 16) (hp' : p' ≤ 128) (h : p * q' < p' * q) : dmu p' q' < dmu p q := by
  have dv : ∀ x : Nat, 0 < x → x ≤ 16 → (720720 / x) * x = 720720 ∧ 720720 / x ≤ 720720 := by
    intro x h0 h1
    have : x = 1 ∨ x = 2 ∨ x = 3 ∨ x = 4 ∨ x = 5 ∨ x = 6 ∨ x = 7 ∨ x = 8 ∨ x = 9 ∨ x = 10 ∨ x = 11 ∨ x = 12 ∨ x = 13 ∨ x = 14 ∨ x = 15 ∨ x = 16 := by omega
    rcases this with rfl | rfl | rfl | rfl | rfl | rfl | rfl | rfl | rfl | rfl | rfl | rfl | rfl | rfl | rfl | rfl <;> exact ⟨rfl, by decide⟩
  obtain ⟨a1, _⟩ := dv q hq hq16
  obtain ⟨b1, b2⟩ := dv q' hq' hq16'
  unfold dmu
  generalize 720720 / q = x at *
  generalize 720720 / q' = y at *
  have k1 : p * x < p' * y := by
    refine Nat.lt_of_mul_lt_mul_right (a := q * q') ?_
    have e1 : p * x * (q * q') = (p * q') * 720720 := by rw [← a1]; ac_rfl
    have e2 : p' * y * (q * q') = (p' * q) * 720720 := by rw [← b1]; ac_rfl
    rw [e1, e2]; omega
  have k2 : p' * y ≤ 128 * 720720 := Nat.mul_le_mul hp' b2
  omega
theorem info26k : (Try.prog.info? 26).map (·.size) = some 2 := by kernel_rfl
/-- Some set has this density. -/
def Att (m : Nat) (gs : List Nat) (p q : Nat) : Prop := ∃ S, S < 65536 ∧ S ≠ 0 ∧ (∀ v, sHas S v = true → v < m) ∧ denV gs S = (p, q)
theorem att_next {m : Nat} {gs : List Nat} {p q R v : Nat} {H : Nat → Nat → Int} {L : Nat → Int} (sp : Spread gs q H L) (hsym : ∀ u v, sHas (near gs u) v = sHas (near gs v) u) (hir : ∀ v, sHas (near gs v) v = false) (hlow : ∀ u v, sHas (near gs u) v = true → v < m)
    (hv : v ∈ ms (sAll m)) (hl : (p : Int) < L v) (hw : WayPost gs H L v p R []) (hq : 0 < q) (hq16 : q ≤ 16) :
    R < 65536 ∧ R ≠ 0 ∧ 0 < pc 16 R ∧ Att m gs (fN (endsOf gs R (ms R) / 2) (pc 16 R)) (fD (endsOf gs R (ms R) / 2) (pc 16 R)) ∧ dmu (fN (endsOf gs R (ms R) / 2) (pc 16 R)) (fD (endsOf gs R (ms R) / 2) (pc 16 R)) < dmu p q := by
  have hv16 := (mem_ms.1 hv).1
  have hvm : v < m := by have := (mem_ms.1 hv).2; unfold sHas at this; rw [all_bit] at this; simpa using this
  have hR := hw.lt
  have hR0 : R ≠ 0 := fun e => by have := hw.root; rw [e] at this; simp [sHas] at this
  have hp0 := pc_pos hR hR0
  have hRm : ∀ u, sHas R u = true → u < m := fun u hu => by
    by_cases e : u = v
    · subst e; exact hvm
    · obtain ⟨x, hx⟩ := hw.reach u (lt16_bits hR hu) hu e
      exact hlow x u hx
  have hd : denV gs R = (fN (endsOf gs R (ms R) / 2) (pc 16 R), fD (endsOf gs R (ms R) / 2) (pc 16 R)) := rfl
  obtain ⟨t1, t2, t3, t4⟩ := den_terms hR hR0 hd
  refine ⟨hR, hR0, hp0, ⟨R, hR, hR0, hRm, hd⟩, dmu_lt hq hq16 t1 t2 t3 ?_⟩
  have h1 := sp.denser hsym hv16 hl hw
  have h2 := ends_even hsym hir R
  generalize fN (endsOf gs R (ms R) / 2) (pc 16 R) = p' at *
  generalize fD (endsOf gs R (ms R) / 2) (pc 16 R) = q' at *
  have h3 : 2 * (p * pc 16 R) < q * endsOf gs R (ms R) := by exact_mod_cast h1
  have h4 : q * endsOf gs R (ms R) = 2 * (q * (endsOf gs R (ms R) / 2)) := by
    calc q * endsOf gs R (ms R) = q * (2 * (endsOf gs R (ms R) / 2)) := by rw [← h2]
      _ = 2 * (q * (endsOf gs R (ms R) / 2)) := by ac_rfl
  have h5 : p * pc 16 R < q * (endsOf gs R (ms R) / 2) := by omega
  refine Nat.lt_of_mul_lt_mul_right (a := pc 16 R) ?_
  calc p * q' * pc 16 R = (p * pc 16 R) * q' := by ac_rfl
    _ < (q * (endsOf gs R (ms R) / 2)) * q' := Nat.mul_lt_mul_of_pos_right h5 t1
    _ = (endsOf gs R (ms R) / 2 * q') * q := by ac_rfl
    _ = (p' * pc 16 R) * q := by rw [t4]
    _ = p' * q * pc 16 R := by ac_rfl
/-- What densest answers. -/
def DensRes (m : Nat) (gs : List Nat) (w : World) (e : Ending) (w' : World) : Prop := ∃ s p q g H L, e = .returned (.tuple #[.int .u32 (s : Nat), frac p q, .pointer (some ⟨g, 0, none⟩)]) ∧ DensPost m gs p q H L s ∧ w.heap.size ≤ g ∧ Div w' g m gs H L ∧ Below w.heap.size w w'
theorem densest_any (m : Nat) (gs : List Nat) (w : World) (hg : Rows16 gs) (hm1 : 1 ≤ m) (hm : m ≤ 16) (hsym : ∀ u v, sHas (near gs u) v = sHas (near gs v) u) (hir : ∀ v, sHas (near gs v) v = false) (hlow : ∀ u v, sHas (near gs u) v = true → v < m)
    (hsp : ∀ (pcs : Int), 0 ≤ pcs → ∀ k H L, Giv pcs (Gout gs (ms (sAll m))) True k H L → Spread gs pcs H L) :
    Calls Try.prog 42 #[.agg (gcells m gs).toArray] w (DensRes m gs w) := by
  have hs := all_lt hm
  have hs0 : 0 < pc 16 (sAll m) := by rw [pc_all hm]; omega
  have ha0 : Att m gs (fN (endsOf gs (sAll m) (ms (sAll m)) / 2) (pc 16 (sAll m))) (fD (endsOf gs (sAll m) (ms (sAll m)) / 2) (pc 16 (sAll m))) := ⟨sAll m, hs, fun e => by rw [e] at hs0; simp [pc] at hs0, fun v hv => by unfold sHas at hv; rw [all_bit] at hv; simpa using hv, rfl⟩
  have HA := Lib.hid (fun w => all_any m gs w hm hg.len)
  have HD := Lib.hid (fun w => density_any m (sAll m) gs hg hs hs0 w)
  have hi := Lib.hid (info75m (m := m) hg)
  generalize hp : fN (endsOf gs (sAll m) (ms (sAll m)) / 2) (pc 16 (sAll m)) = p at HD
  generalize hq : fD (endsOf gs (sAll m) (ms (sAll m)) / 2) (pc 16 (sAll m)) = q at HD
  rw [hp, hq] at ha0
  have HAT := Lib.hid ha0
  have HSP := Lib.hid hsp
  have HSY := Lib.hid hsym
  have HIR := Lib.hid hir
  have HLO := Lib.hid hlow
  clear hp hq ha0 hsp hsym hir hlow
  go_enter Try.func42, Try.ntmps42
  go_wp2
  have r0 : Row ((w.alloc (.cells (gcells m gs).toArray 75)).alloc (.cells #[.int .i64 0, .int .i64 0] 26)) w.heap.size 75 (gcells m gs) := (row_new rfl : Row (w.alloc _) _ 75 (gcells m gs)).alloc _
  have r1 : Row ((w.alloc (.cells (gcells m gs).toArray 75)).alloc (.cells #[.int .i64 0, .int .i64 0] 26)) (w.heap.size + 1) 26 [.int .i64 0, .int .i64 0] := row_new (by simp)
  have hb1 : Below w.heap.size w ((w.alloc (.cells (gcells m gs).toArray 75)).alloc (.cells #[.int .i64 0, .int .i64 0] 26)) := by (repeat (first | exact Below.refl _ _ | assumption | (refine Below.setCell ?_ (by first | exact Nat.le_refl _ | omega | (simp; done) | (simp; omega)) _) | (refine Below.trans ?_ (below_drewN _)) | (refine Below.drew ?_) | (refine Below.alloc ?_ (by first | exact Nat.le_refl _ | omega | (simp; done) | (simp; omega)) _) | (refine below_row ?_ (by first | exact Nat.le_refl _ | omega | (simp; done) | (simp; omega)) _)))
  generalize hw1 : World.alloc _ _ = w1 at *
  clear hw1
  go_cut [5] (fun s5 wx => ∃ b, s5 = .pointer (some ⟨b, 0, none⟩) ∧ Row wx b 26 [.int .i64 p, .int .i64 q] ∧ Row wx w.heap.size 75 (gcells m gs) ∧ Row wx (w.heap.size + 1) 26 [.int .i64 0, .int .i64 0] ∧ Below w.heap.size w wx ∧ w.heap.size + 1 < b)
  case first =>
    refine wp_region_noPanic ?_
    refine wp_region_held_drew (S := fun W => Row W w.heap.size 75 (gcells m gs) ∧ Row W (w.heap.size + 1) 26 [.int .i64 0, .int .i64 0] ∧ Below w.heap.size w W) (by kernel_rfl) ⟨r0.drew, r1.drew, hb1.drew⟩ (fun hHeld => ?_)
    refine wpAnyH_take (i := 0) (v := .agg (gcells m gs).toArray) rfl (by kernel_rfl) (by kernel_rfl) (by kernel_rfl) (fun _ _ _ h => h) (yieldsIf_load_mid (by rfl) _ _ rfl _ _ rfl _ _ (fun W hW => hW.1.range) Try.underlying75 rfl hi.out) hHeld ?_
    simp only [Act.put]
    refine wpAnyH_take (i := 1) (v := .agg (gcells m gs).toArray) rfl (by kernel_rfl) (by kernel_rfl) (by kernel_rfl) (fun _ _ _ h => h) (yieldsIf_load_mid (by rfl) _ _ rfl _ _ rfl _ _ (fun W hW => hW.1.range) Try.underlying75 rfl hi.out) hHeld ?_
    simp only [Act.put]
    clear r0 r1 hb1
    refine wpAnyH_ready (rs := [2, 4]) (by kernel_rfl) (by simp) ?_
    refine AllReadyH.cons rfl (fun K hK => ?_) (AllReadyH.cons rfl (fun K hK => ?_) AllReadyH.nil)
    · go_simp
      refine (HA.out _).mono ?_
      rintro e w2 ⟨rfl, hbA⟩
      go_wp2_with fail
      refine hK.out _ _ ?_ (fun hH2 => ?_)
      · exact ⟨hHeld.1.below hbA, hHeld.2.1.below hbA, hHeld.2.2.trans (hbA.mono (by have := hHeld.2.2.size; omega))⟩
      clear hK K hHeld hbA
      refine wpAnyH_ready (rs := [3, 4]) (by kernel_rfl) (by simp) ?_
      refine AllReadyH.cons rfl (fun K hK => ?_) (AllReadyH.cons rfl (fun K hK => ?_) AllReadyH.nil)
      · go_simp
        refine (HD.out _).mono ?_
        rintro e w3 ⟨rfl, hbD⟩
        go_wp2_with fail
        refine hK.out _ _ ?_ (fun hH3 => ?_)
        · exact ⟨hH2.1.below hbD, hH2.2.1.below hbD, hH2.2.2.trans (hbD.mono (by have := hH2.2.2.size; omega))⟩
        clear hK K hH2 hbD
        refine wpAnyH_ready (rs := [4]) (by kernel_rfl) (by simp) ?_
        refine AllReadyH.cons rfl (fun K hK => ?_) AllReadyH.nil
        have hr5 : Row (w3.alloc (.cells #[.int .i64 0, .int .i64 0] 26)) w3.heap.size 26 [.int .i64 0, .int .i64 0] := row_new rfl
        have hz5 : w.heap.size + 1 < w3.heap.size := hH3.2.1.lt
        go_simp
        refine hK.out _ _ ?_ (fun hH4 => ?_)
        · exact ⟨hH3.1.alloc _, hH3.2.1.alloc _, hH3.2.2.alloc (hH3.2.2.size) _⟩
        clear hK K
        refine wpAnyH_ready (rs := [5]) (by kernel_rfl) (by simp) ?_
        refine AllReadyH.cons rfl (fun K hK => ?_) AllReadyH.nil
        obtain ⟨⟨c0, c1⟩, f0, f1⟩ := hr5.cells2
        go_simp
        refine hK.out _ _ ?_ (fun hHf => ?_)
        · exact ⟨hH3.1.alloc _, hH3.2.1.alloc _, hH3.2.2.alloc (hH3.2.2.size) _⟩
        clear hK K
        refine wpAnyH_done (by kernel_rfl) ?_ _
        refine NoPanic.normal ?_
        go_wp2_with fail
        go_meet
        exact ⟨_, rfl, row_new rfl, hHf.1, hHf.2.1, hHf.2.2, hz5⟩
      · have hr5 : Row (w2.alloc (.cells #[.int .i64 0, .int .i64 0] 26)) w2.heap.size 26 [.int .i64 0, .int .i64 0] := row_new rfl
        have hz5 : w.heap.size + 1 < w2.heap.size := hH2.2.1.lt
        go_simp
        refine hK.out _ _ ?_ (fun hH4 => ?_)
        · exact ⟨hH2.1.alloc _, hH2.2.1.alloc _, hH2.2.2.alloc (hH2.2.2.size) _⟩
        clear hK K
        refine wpAnyH_ready (rs := [3]) (by kernel_rfl) (by simp) ?_
        refine AllReadyH.cons rfl (fun K hK => ?_) AllReadyH.nil
        go_simp
        refine (HD.out _).mono ?_
        rintro e w3 ⟨rfl, hbD⟩
        go_wp2_with fail
        refine hK.out _ _ ?_ (fun hH5 => ?_)
        · exact ⟨hH4.1.below hbD, hH4.2.1.below hbD, hH4.2.2.trans (hbD.mono (by have := hH4.2.2.size; omega))⟩
        clear hK K
        replace hr5 := hr5.below hbD
        refine wpAnyH_ready (rs := [5]) (by kernel_rfl) (by simp) ?_
        refine AllReadyH.cons rfl (fun K hK => ?_) AllReadyH.nil
        obtain ⟨⟨c0, c1⟩, f0, f1⟩ := hr5.cells2
        go_simp
        refine hK.out _ _ ?_ (fun hHf => ?_)
        · exact ⟨(hH5.1.far (by dsimp only; omega) _).far (by dsimp only; omega) _, (hH5.2.1.far (by dsimp only; omega) _).far (by dsimp only; omega) _, (hH5.2.2.setCell (by dsimp only; omega) _).setCell (by dsimp only; omega) _⟩
        clear hK K
        refine wpAnyH_done (by kernel_rfl) ?_ _
        refine NoPanic.normal ?_
        go_wp2_with fail
        go_meet
        exact ⟨_, rfl, (hr5.set 0 (.int .i64 p)).set 1 (.int .i64 q), hHf.1, hHf.2.1, hHf.2.2, hz5⟩
    · have hr5 : Row (w1.drew.alloc (.cells #[.int .i64 0, .int .i64 0] 26)) w1.heap.size 26 [.int .i64 0, .int .i64 0] := row_new rfl
      have hz5 : w.heap.size + 1 < w1.heap.size := hHeld.2.1.lt
      go_simp
      refine hK.out _ _ ?_ (fun hH4 => ?_)
      · exact ⟨hHeld.1.alloc _, hHeld.2.1.alloc _, hHeld.2.2.alloc (hHeld.2.2.size) _⟩
      clear hK K
      refine wpAnyH_ready (rs := [2]) (by kernel_rfl) (by simp) ?_
      refine AllReadyH.cons rfl (fun K hK => ?_) AllReadyH.nil
      go_simp
      refine (HA.out _).mono ?_
      rintro e w2 ⟨rfl, hbA⟩
      go_wp2_with fail
      refine hK.out _ _ ?_ (fun hH2 => ?_)
      · exact ⟨hH4.1.below hbA, hH4.2.1.below hbA, hH4.2.2.trans (hbA.mono (by have := hH4.2.2.size; omega))⟩
      clear hK K
      replace hr5 := hr5.below hbA
      refine wpAnyH_ready (rs := [3]) (by kernel_rfl) (by simp) ?_
      refine AllReadyH.cons rfl (fun K hK => ?_) AllReadyH.nil
      go_simp
      refine (HD.out _).mono ?_
      rintro e w3 ⟨rfl, hbD⟩
      go_wp2_with fail
      refine hK.out _ _ ?_ (fun hH5 => ?_)
      · exact ⟨hH2.1.below hbD, hH2.2.1.below hbD, hH2.2.2.trans (hbD.mono (by have := hH2.2.2.size; omega))⟩
      clear hK K
      replace hr5 := hr5.below hbD
      refine wpAnyH_ready (rs := [5]) (by kernel_rfl) (by simp) ?_
      refine AllReadyH.cons rfl (fun K hK => ?_) AllReadyH.nil
      obtain ⟨⟨c0, c1⟩, f0, f1⟩ := hr5.cells2
      go_simp
      refine hK.out _ _ ?_ (fun hHf => ?_)
      · exact ⟨(hH5.1.far (by dsimp only; omega) _).far (by dsimp only; omega) _, (hH5.2.1.far (by dsimp only; omega) _).far (by dsimp only; omega) _, (hH5.2.2.setCell (by dsimp only; omega) _).setCell (by dsimp only; omega) _⟩
      clear hK K
      refine wpAnyH_done (by kernel_rfl) ?_ _
      refine NoPanic.normal ?_
      go_wp2_with fail
      go_meet
      exact ⟨_, rfl, (hr5.set 0 (.int .i64 p)).set 1 (.int .i64 q), hHf.1, hHf.2.1, hHf.2.2, hz5⟩
  case rest =>
    obtain ⟨b, rfl, hrow, r0, r1, hb, hlt⟩ := hcut
    go_wp2
    go_loopg [] (dmu p q) (fun n W => ∃ p q, n = dmu p q ∧ Att m gs p q ∧ Row W b 26 [.int .i64 (p : Nat), .int .i64 (q : Nat)] ∧ Row W w.heap.size 75 (gcells m gs) ∧ Row W (w.heap.size + 1) 26 [.int .i64 0, .int .i64 0] ∧ Below w.heap.size w W)
    case atStart => exact ⟨p, q, rfl, HAT.out, hrow, r0, r1, hb⟩
    case round =>
      clear hrow r0 r1 hb HAT HA HD
      obtain ⟨p, q, hn, hat, hrow, r0, r1, hb⟩ := hrel
      have HN := Lib.hid hn
      have HAT := Lib.hid hat
      obtain ⟨S, z1, z2, z3, z4⟩ := hat
      obtain ⟨q0, q16, p128, hpq⟩ := den_terms z1 z2 z4
      clear hn z1 z2 z3 z4 hpq
      have HDV := Lib.hid (fun w => divide_any m gs q w hg hm ⟨by omega, by omega⟩)
      obtain ⟨⟨c0, c1⟩, f0, f1⟩ := hrow.cells2
      go_wp2_with (first
        | (refine wpList_load_row rfl 75 (.tmp 1) rfl w.heap.size rfl 75 (gcells m gs).toArray (0, 0) _ (row_heap r0) Try.underlying75 rfl (info75g hg) ?_)
        | (go_at_call 49; refine (HDV.out _).mono ?_; rintro e w2 ⟨g, H, L, hg2, rfl, hgv, hdv, hb2⟩; have hs2 := HSP.out _ (by omega) _ _ _ hgv; have s0 := hrow.below hb2; have s1 := r0.below hb2; have s2 := r1.below hb2; have hb3 := hb.trans (hb2.mono hb.size); obtain ⟨⟨d0, d1⟩, e0, e1⟩ := s0.cells2; have hbl := s0.lt; have hbl2 := hrow.lt; clear hgv hb2 hrow r0 r1 hb c0 c1 f0 f1)
        | (go_at_call 50; refine (relieve_any g m gs H L q p _ hg hm ⟨by omega, by omega⟩ ⟨by omega, by omega⟩ (fun u v _ _ => HSY.out u v) hs2 hdv).mono ?_; rintro e w3 ⟨s, rfl, ⟨H2, L2, sp2, hd2, hcase⟩, hfr⟩; have t0 := s0.fr hfr (by omega); have t1 := s1.fr hfr (by omega); have t2 := s2.fr hfr (by omega); have hb4 := Fr.under hb3 hfr (by intro i h1 h2; omega); have HSP2 := Lib.hid sp2; have HC := Lib.hid hcase; clear hs2 hdv s0 s1 s2 hb3 d0 d1 e0 e1 hfr sp2 hcase; cases hz : ((s : Int) == 0))
        | (refine wpList_load_row rfl 75 (.tmp 1) rfl w.heap.size rfl 75 (gcells m gs).toArray (0, 0) _ (row_heap t1) Try.underlying75 rfl (info75g hg) ?_)
        | (go_at_call 47; have hne : s ≠ 0 := (by intro e; subst e; simp at hz); obtain ⟨v, hv1, hv2, hv3⟩ := HC.out.resolve_left (fun h => hne h.1); obtain ⟨n1, n2, n3, n4, n5⟩ := att_next HSP2.out HSY.out HIR.out HLO.out hv1 hv2 hv3 q0 q16; have HD2 := Lib.hid (fun w => density_any m s gs hg n1 n3 w); generalize fN (endsOf gs s (ms s) / 2) (pc 16 s) = p' at *; generalize fD (endsOf gs s (ms s) / 2) (pc 16 s) = q' at *; have N4 := Lib.hid n4; have N5 := Lib.hid n5; clear n4 n5 hv1 hv2 hv3 HC hd2; refine (HD2.out _).mono ?_; rintro e w5 ⟨rfl, hb5⟩; have v0 := t0.below hb5; have v1 := t1.below hb5; have v2 := t2.below hb5; have hb6 := hb4.trans (hb5.mono hb4.size); obtain ⟨⟨d0, d1⟩, e0, e1⟩ := v0.cells2))
      · rename_i p' q' n1 n2 n3 HD2 N4 N5 w5 hb5 v0 v1 v2 hb6 d0 d1 e0 e1
        go_roundg (dmu p' q')
        case rel => exact ⟨p', q', rfl, N4.out, (v0.set 0 _).set 1 _, (v1.far (by dsimp only; omega) _).far (by dsimp only; omega) _, (v2.far (by dsimp only; omega) _).far (by dsimp only; omega) _, (hb6.setCell (by dsimp only; omega) _).setCell (by dsimp only; omega) _⟩
        case measure => rw [HN.out]; exact N5.out
      · have hne : s = 0 := by simpa using hz
        have hall : ∀ v ∈ ms (sAll m), L2 v ≤ p := by
          rcases HC.out with h | ⟨v, _, _, hw⟩
          · exact h.2
          · have := hw.root; rw [hne] at this; simp [sHas] at this
        have HAL := Lib.hid hall
        clear hall hne HC
        go_wp2
        refine wp_region_noPanic ?_
        refine wp_region_held_drew (S := fun W => Row W b 26 [.int .i64 (p : Nat), .int .i64 (q : Nat)] ∧ Div W g m gs H2 L2 ∧ Below w.heap.size w W) (by kernel_rfl) ⟨t0.drew, Row.drew hd2, hb4.drew⟩ (fun hHeld => ?_)
        refine wpAnyH_take (i := 0) (v := .pointer (some ⟨g, 0, none⟩)) rfl (by kernel_rfl) (by kernel_rfl) (by kernel_rfl) (fun _ _ _ h => h) (Or.inl ⟨by rfl, fun W hW => ?_⟩) hHeld ?_
        · go_simp
        refine wpAnyH_take (i := 1) (v := .pointer (some ⟨b, 0, none⟩)) rfl (by kernel_rfl) (by kernel_rfl) (by kernel_rfl) (fun _ _ _ h => h) (Or.inl ⟨by rfl, fun W hW => ?_⟩) hHeld ?_
        · go_simp
        refine wpAnyH_take (i := 2) (v := .int .i64 p) rfl (by kernel_rfl) (by kernel_rfl) (by kernel_rfl) (fun _ _ _ h => h) (Or.inl ⟨by rfl, fun W hW => ?_⟩) hHeld ?_
        · have c0 := hW.1.cells2.1.1
          go_simp
        refine wpAnyH_take (i := 4) (v := frac p q) rfl (by kernel_rfl) (by kernel_rfl) (by kernel_rfl) (fun _ _ _ h => h) (Or.inl ⟨by rfl, fun W hW => ?_⟩) hHeld ?_
        · obtain ⟨c0, c1⟩ := hW.1.cells2.1
          go_simp
        refine wpAnyH_take (i := 5) (v := .pointer (some ⟨g, 0, none⟩)) rfl (by kernel_rfl) (by kernel_rfl) (by kernel_rfl) (fun _ _ _ h => h) (Or.inl ⟨by rfl, fun W hW => ?_⟩) hHeld ?_
        · go_simp
        refine wpAnyH_ready (rs := [3]) (by kernel_rfl) (by simp) ?_
        refine AllReadyH.cons rfl (fun K hK => ?_) AllReadyH.nil
        go_simp
        refine (full_any g m gs H2 L2 p _ hg hm (Row.drew hd2)).mono ?_
        rintro e w5 ⟨s5, rfl, hfull, hb5⟩
        go_wp2_with fail
        refine hK.out _ _ ⟨t0.drew.below hb5, Row.below (Row.drew hd2) hb5, hHeld.2.2.trans (hb5.mono hb4.size)⟩ (fun hH2 => ?_)
        have hFU := Lib.hid hfull
        have v2 := t2.drew.below hb5
        clear hK K hb5 hfull t0 t1 t2 hb4 hd2 hHeld
        refine wpAnyH_ready (rs := [6]) (by kernel_rfl) (by simp) ?_
        refine AllReadyH.cons rfl (fun K hK => ?_) AllReadyH.nil
        go_simp
        refine hK.out _ _ hH2 (fun _ => ?_)
        clear hK K
        refine wpAnyH_ready (rs := [7]) (by kernel_rfl) (by simp) ?_
        refine AllReadyH.cons rfl (fun K hK => ?_) AllReadyH.nil
        obtain ⟨⟨d0, d1⟩, e0, e1⟩ := v2.cells2
        have hg3 : g ≠ w.heap.size + 1 := fun e => Row.ne hH2.2.1 v2 (by decide) e
        go_simp
        refine hK.out _ _ ⟨(hH2.1.far (by dsimp only; omega) _).far (by dsimp only; omega) _, Row.far (Row.far hH2.2.1 (by dsimp only; omega) _) (by dsimp only; omega) _, (hH2.2.2.setCell (by dsimp only; omega) _).setCell (by dsimp only; omega) _⟩ (fun hH4 => ?_)
        have v3 := (v2.set 0 (.int .i64 (p : Nat))).set 1 (.int .i64 (q : Nat))
        clear hK K
        refine wpAnyH_ready (rs := [8]) (by kernel_rfl) (by simp) ?_
        refine AllReadyH.cons rfl (fun K hK => ?_) AllReadyH.nil
        go_simp
        refine hK.out _ _ hH4 (fun _ => ?_)
        clear hK K
        refine wpAnyH_done (by kernel_rfl) ?_ _
        refine NoPanic.normal ?_
        obtain ⟨⟨x0, x1⟩, y0, y1⟩ := v3.cells2
        go_wp2
        refine bodyPost_ret (v := .tuple #[.int .u32 s5, frac p q, .pointer (some ⟨g, 0, none⟩)]) (by simp [results, Try.results42, go_sem, x0, x1]) rfl ⟨s5, p, q, g, H2, L2, rfl, ⟨HSP2.out, HAL.out, hFU.out, HAT.out⟩, by omega, hH4.2.1, hH4.2.2⟩
end Go.Proofs.Ytmfpegadcecknaa
