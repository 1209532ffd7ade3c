/- Parts AN AP of the proof, in this order. -/
import Derived.Deep.RegionHeld3
import Derived.Deep.DrawnRows
import Derived.Deep.LoopGhost
import Derived.Deep.DeepCutAuto
import Derived.Deep.MidRow
import Derived.Test.YtpaeagkgmbhndaaZH
import Derived.Test.YtpaeagkgmbhndaaZG
namespace Go.Proofs.Ytpaeagkgmbhndaa
open Go.RowKit
attribute [local go_sem] Oper.semAt_some
set_option maxHeartbeats 1000000
set_option maxRecDepth 100000
/-- A measure: greater densities are less. -/
def dmu (p q : Nat) : Nat := 144144000 - p * (720720 / q)
theorem dmu_lt {p q p' q' : Nat} (hq : 0 < q) (hq16 : q ≤ 16) (hq' : 0 < q') (hq16' : q' ≤ 16) (hp' : p' ≤ 128) (h : p * q' < p' * q) : dmu p' q' < dmu p q := by
  have dv : ∀ x : Nat, 0 < x → x ≤ 16 → (720720 / x) * x = 720720 ∧ 720720 / x ≤ 720720 := by
    intro x h0 h1
    have : x = 1 ∨ x = 2 ∨ x = 3 ∨ x = 4 ∨ x = 5 ∨ x = 6 ∨ x = 7 ∨ x = 8 ∨ x = 9 ∨ x = 10 ∨ x = 11 ∨ x = 12 ∨ x = 13 ∨ x = 14 ∨ x = 15 ∨ x = 16 := by omega
    rcases this with rfl | rfl | rfl | rfl | rfl | rfl | rfl | rfl | rfl | rfl | rfl | rfl | rfl | rfl | rfl | rfl <;> exact ⟨rfl, by decide⟩
  obtain ⟨a1, _⟩ := dv q hq hq16
  obtain ⟨b1, b2⟩ := dv q' hq' hq16'
  unfold dmu
  generalize 720720 / q = x at *
  generalize 720720 / q' = y at *
  have k1 : p * x < p' * y := by
    refine Nat.lt_of_mul_lt_mul_right (a := q * q') ?_
    have e1 : p * x * (q * q') = (p * q') * 720720 := by rw [← a1]; ac_rfl
    have e2 : p' * y * (q * q') = (p' * q) * 720720 := by rw [← b1]; ac_rfl
    rw [e1, e2]; omega
  have k2 : p' * y ≤ 128 * 720720 := Nat.mul_le_mul hp' b2
  omega
theorem info26k : (Try.prog.info? 26).map (·.size) = some 2 := by kernel_rfl
/-- Some set has this density. -/
def Att (m : Nat) (gs : List Nat) (p q : Nat) : Prop := ∃ S, S < 65536 ∧ S ≠ 0 ∧ (∀ v, sHas S v = true → v < m) ∧ denV gs S = (p, q)
theorem att_next {m : Nat} {gs : List Nat} {p q R v : Nat} {H : Nat → Nat → Int} {L : Nat → Int} (sp : Spread gs q H L) (hsym : ∀ u v, sHas (near gs u) v = sHas (near gs v) u) (hir : ∀ v, sHas (near gs v) v = false) (hlow : ∀ u v, sHas (near gs u) v = true → v < m)
    (hv : v ∈ ms (sAll m)) (hl : (p : Int) < L v) (hw : WayPost gs H L v p R []) (hq : 0 < q) (hq16 : q ≤ 16) :
    R < 65536 ∧ R ≠ 0 ∧ 0 < pc 16 R ∧ Att m gs (fN (endsOf gs R (ms R) / 2) (pc 16 R)) (fD (endsOf gs R (ms R) / 2) (pc 16 R)) ∧ dmu (fN (endsOf gs R (ms R) / 2) (pc 16 R)) (fD (endsOf gs R (ms R) / 2) (pc 16 R)) < dmu p q := by
  have hv16 := (mem_ms.1 hv).1
  have hvm : v < m := by have := (mem_ms.1 hv).2; unfold sHas at this; rw [all_bit] at this; simpa using this
  have hR := hw.lt
  have hR0 : R ≠ 0 := fun e => by have := hw.root; rw [e] at this; simp [sHas] at this
  have hp0 := pc_pos hR hR0
  have hRm : ∀ u, sHas R u = true → u < m := fun u hu => by
    by_cases e : u = v
    · subst e; exact hvm
    · obtain ⟨x, hx⟩ := hw.reach u (lt16_bits hR hu) hu e
      exact hlow x u hx
  have hd : denV gs R = (fN (endsOf gs R (ms R) / 2) (pc 16 R), fD (endsOf gs R (ms R) / 2) (pc 16 R)) := rfl
  obtain ⟨t1, t2, t3, t4⟩ := den_terms hR hR0 hd
  refine ⟨hR, hR0, hp0, ⟨R, hR, hR0, hRm, hd⟩, dmu_lt hq hq16 t1 t2 t3 ?_⟩
  have h1 := sp.denser hsym hv16 hl hw
  have h2 := ends_even hsym hir R
  generalize fN (endsOf gs R (ms R) / 2) (pc 16 R) = p' at *
  generalize fD (endsOf gs R (ms R) / 2) (pc 16 R) = q' at *
  have h3 : 2 * (p * pc 16 R) < q * endsOf gs R (ms R) := by exact_mod_cast h1
  have h4 : q * endsOf gs R (ms R) = 2 * (q * (endsOf gs R (ms R) / 2)) := by
    calc q * endsOf gs R (ms R) = q * (2 * (endsOf gs R (ms R) / 2)) := by rw [← h2]
      _ = 2 * (q * (endsOf gs R (ms R) / 2)) := by ac_rfl
  have h5 : p * pc 16 R < q * (endsOf gs R (ms R) / 2) := by omega
  refine Nat.lt_of_mul_lt_mul_right (a := pc 16 R) ?_
  calc p * q' * pc 16 R = (p * pc 16 R) * q' := by ac_rfl
    _ < (q * (endsOf gs R (ms R) / 2)) * q' := Nat.mul_lt_mul_of_pos_right h5 t1
    _ = (endsOf gs R (ms R) / 2 * q') * q := by ac_rfl
    _ = (p' * pc 16 R) * q := by rw [t4]
    _ = p' * q * pc 16 R := by ac_rfl
/-- What densest answers. -/
def DensRes (m : Nat) (gs : List Nat) (w : World) (e : Ending) (w' : World) : Prop := ∃ s p q g H L, e = .returned (.tuple #[.int .u32 (s : Nat), frac p q, .pointer (some ⟨g, 0, none⟩)]) ∧ DensPost m gs p q H L s ∧ w.heap.size ≤ g ∧ Div w' g m gs H L ∧ Below w.heap.size w w'
theorem densest_any (m : Nat) (gs : List Nat) (w : World) (hg : Rows16 gs) (hm1 : 1 ≤ m) (hm : m ≤ 16) (hsym : ∀ u v, sHas (near gs u) v = sHas (near gs v) u) (hir : ∀ v, sHas (near gs v) v = false) (hlow : ∀ u v, sHas (near gs u) v = true → v < m)
    (hsp : ∀ (pcs : Int), 0 ≤ pcs → ∀ k H L, Giv pcs (Gout gs (ms (sAll m))) True k H L → Spread gs pcs H L) :
    Calls Try.prog 42 #[.agg (gcells m gs).toArray] w (DensRes m gs w) := by
  have hs := all_lt hm
  have hs0 : 0 < pc 16 (sAll m) := by rw [pc_all hm]; omega
  have ha0 : Att m gs (fN (endsOf gs (sAll m) (ms (sAll m)) / 2) (pc 16 (sAll m))) (fD (endsOf gs (sAll m) (ms (sAll m)) / 2) (pc 16 (sAll m))) := ⟨sAll m, hs, fun e => by rw [e] at hs0; simp [pc] at hs0, fun v hv => by unfold sHas at hv; rw [all_bit] at hv; simpa using hv, rfl⟩
  have HA := Lib.hid (fun w => all_any m gs w hm hg.len)
  have HD := Lib.hid (fun w => density_any m (sAll m) gs hg hs hs0 w)
  have hi := Lib.hid (info75m (m := m) hg)
  generalize hp : fN (endsOf gs (sAll m) (ms (sAll m)) / 2) (pc 16 (sAll m)) = p at HD
  generalize hq : fD (endsOf gs (sAll m) (ms (sAll m)) / 2) (pc 16 (sAll m)) = q at HD
  rw [hp, hq] at ha0
  have HAT := Lib.hid ha0
  have HSP := Lib.hid hsp
  have HSY := Lib.hid hsym
  have HIR := Lib.hid hir
  have HLO := Lib.hid hlow
  clear hp hq ha0 hsp hsym hir hlow
  go_enter Try.func42, Try.ntmps42
  go_wp2
  have r0 : Row ((w.alloc (.cells (gcells m gs).toArray 75)).alloc (.cells #[.int .i64 0, .int .i64 0] 26)) w.heap.size 75 (gcells m gs) := (row_new rfl : Row (w.alloc _) _ 75 (gcells m gs)).alloc _
  have r1 : Row ((w.alloc (.cells (gcells m gs).toArray 75)).alloc (.cells #[.int .i64 0, .int .i64 0] 26)) (w.heap.size + 1) 26 [.int .i64 0, .int .i64 0] := row_new (by simp)
  have hb1 : Below w.heap.size w ((w.alloc (.cells (gcells m gs).toArray 75)).alloc (.cells #[.int .i64 0, .int .i64 0] 26)) := by (repeat (first | exact Below.refl _ _ | assumption | (refine Below.setCell ?_ (by first | exact Nat.le_refl _ | omega | (simp; done) | (simp; omega)) _) | (refine Below.trans ?_ (below_drewN _)) | (refine Below.drew ?_) | (refine Below.alloc ?_ (by first | exact Nat.le_refl _ | omega | (simp; done) | (simp; omega)) _) | (refine below_row ?_ (by first | exact Nat.le_refl _ | omega | (simp; done) | (simp; omega)) _)))
  generalize hw1 : World.alloc _ _ = w1 at *
  clear hw1
  go_cut [5] (fun s5 wx => ∃ b, s5 = .pointer (some ⟨b, 0, none⟩) ∧ Row wx b 26 [.int .i64 p, .int .i64 q] ∧ Row wx w.heap.size 75 (gcells m gs) ∧ Row wx (w.heap.size + 1) 26 [.int .i64 0, .int .i64 0] ∧ Below w.heap.size w wx ∧ w.heap.size + 1 < b)
  case first =>
    refine wp_region_noPanic ?_
    refine wp_region_held_drew (S := fun W => Row W w.heap.size 75 (gcells m gs) ∧ Row W (w.heap.size + 1) 26 [.int .i64 0, .int .i64 0] ∧ Below w.heap.size w W) (by kernel_rfl) ⟨r0.drew, r1.drew, hb1.drew⟩ (fun hHeld => ?_)
    refine wpAnyH_take (i := 0) (v := .agg (gcells m gs).toArray) rfl (by kernel_rfl) (by kernel_rfl) (by kernel_rfl) (fun _ _ _ h => h) (yieldsIf_load_mid (by rfl) _ _ rfl _ _ rfl _ _ (fun W hW => hW.1.range) Try.underlying75 rfl hi.out) hHeld ?_
    simp only [Act.put]
    refine wpAnyH_take (i := 1) (v := .agg (gcells m gs).toArray) rfl (by kernel_rfl) (by kernel_rfl) (by kernel_rfl) (fun _ _ _ h => h) (yieldsIf_load_mid (by rfl) _ _ rfl _ _ rfl _ _ (fun W hW => hW.1.range) Try.underlying75 rfl hi.out) hHeld ?_
    simp only [Act.put]
    clear r0 r1 hb1
    refine wpAnyH_ready (rs := [2, 4]) (by kernel_rfl) (by simp) ?_
    refine AllReadyH.cons rfl (fun K hK => ?_) (AllReadyH.cons rfl (fun K hK => ?_) AllReadyH.nil)
    · go_simp
      refine (HA.out _).mono ?_
      rintro e w2 ⟨rfl, hbA⟩
      go_wp2_with fail
      refine hK.out _ _ ?_ (fun hH2 => ?_)
      · exact ⟨hHeld.1.below hbA, hHeld.2.1.below hbA, hHeld.2.2.trans (hbA.mono (by have := hHeld.2.2.size; omega))⟩
      clear hK K hHeld hbA
      refine wpAnyH_ready (rs := [3, 4]) (by kernel_rfl) (by simp) ?_
      refine AllReadyH.cons rfl (fun K hK => ?_) (AllReadyH.cons rfl (fun K hK => ?_) AllReadyH.nil)
      · go_simp
        refine (HD.out _).mono ?_
        rintro e w3 ⟨rfl, hbD⟩
        go_wp2_with fail
        refine hK.out _ _ ?_ (fun hH3 => ?_)
        · exact ⟨hH2.1.below hbD, hH2.2.1.below hbD, hH2.2.2.trans (hbD.mono (by have := hH2.2.2.size; omega))⟩
        clear hK K hH2 hbD
        refine wpAnyH_ready (rs := [4]) (by kernel_rfl) (by simp) ?_
        refine AllReadyH.cons rfl (fun K hK => ?_) AllReadyH.nil
        have hr5 : Row (w3.alloc (.cells #[.int .i64 0, .int .i64 0] 26)) w3.heap.size 26 [.int .i64 0, .int .i64 0] := row_new rfl
        have hz5 : w.heap.size + 1 < w3.heap.size := hH3.2.1.lt
        go_simp
        refine hK.out _ _ ?_ (fun hH4 => ?_)
        · exact ⟨hH3.1.alloc _, hH3.2.1.alloc _, hH3.2.2.alloc (hH3.2.2.size) _⟩
        clear hK K
        refine wpAnyH_ready (rs := [5]) (by kernel_rfl) (by simp) ?_
        refine AllReadyH.cons rfl (fun K hK => ?_) AllReadyH.nil
        obtain ⟨⟨c0, c1⟩, f0, f1⟩ := hr5.cells2
        go_simp
        refine hK.out _ _ ?_ (fun hHf => ?_)
        · exact ⟨hH3.1.alloc _, hH3.2.1.alloc _, hH3.2.2.alloc (hH3.2.2.size) _⟩
        clear hK K
        refine wpAnyH_done (by kernel_rfl) ?_ _
        refine NoPanic.normal ?_
        go_wp2_with fail
        go_meet
        exact ⟨_, rfl, row_new rfl, hHf.1, hHf.2.1, hHf.2.2, hz5⟩
      · have hr5 : Row (w2.alloc (.cells #[.int .i64 0, .int .i64 0] 26)) w2.heap.size 26 [.int .i64 0, .int .i64 0] := row_new rfl
        have hz5 : w.heap.size + 1 < w2.heap.size := hH2.2.1.lt
        go_simp
        refine hK.out _ _ ?_ (fun hH4 => ?_)
        · exact ⟨hH2.1.alloc _, hH2.2.1.alloc _, hH2.2.2.alloc (hH2.2.2.size) _⟩
        clear hK K
        refine wpAnyH_ready (rs := [3]) (by kernel_rfl) (by simp) ?_
        refine AllReadyH.cons rfl (fun K hK => ?_) AllReadyH.nil
        go_simp
        refine (HD.out _).mono ?_
        rintro e w3 ⟨rfl, hbD⟩
        go_wp2_with fail
        refine hK.out _ _ ?_ (fun hH5 => ?_)
        · exact ⟨hH4.1.below hbD, hH4.2.1.below hbD, hH4.2.2.trans (hbD.mono (by have := hH4.2.2.size; omega))⟩
        clear hK K
        replace hr5 := hr5.below hbD
        refine wpAnyH_ready (rs := [5]) (by kernel_rfl) (by simp) ?_
        refine AllReadyH.cons rfl (fun K hK => ?_) AllReadyH.nil
        obtain ⟨⟨c0, c1⟩, f0, f1⟩ := hr5.cells2
        go_simp
        refine hK.out _ _ ?_ (fun hHf => ?_)
        · exact ⟨(hH5.1.far (by dsimp only; omega) _).far (by dsimp only; omega) _, (hH5.2.1.far (by dsimp only; omega) _).far (by dsimp only; omega) _, (hH5.2.2.setCell (by dsimp only; omega) _).setCell (by dsimp only; omega) _⟩
        clear hK K
        refine wpAnyH_done (by kernel_rfl) ?_ _
        refine NoPanic.normal ?_
        go_wp2_with fail
        go_meet
        exact ⟨_, rfl, (hr5.set 0 (.int .i64 p)).set 1 (.int .i64 q), hHf.1, hHf.2.1, hHf.2.2, hz5⟩
    · have hr5 : Row (w1.drew.alloc (.cells #[.int .i64 0, .int .i64 0] 26)) w1.heap.size 26 [.int .i64 0, .int .i64 0] := row_new rfl
      have hz5 : w.heap.size + 1 < w1.heap.size := hHeld.2.1.lt
      go_simp
      refine hK.out _ _ ?_ (fun hH4 => ?_)
      · exact ⟨hHeld.1.alloc _, hHeld.2.1.alloc _, hHeld.2.2.alloc (hHeld.2.2.size) _⟩
      clear hK K
      refine wpAnyH_ready (rs := [2]) (by kernel_rfl) (by simp) ?_
      refine AllReadyH.cons rfl (fun K hK => ?_) AllReadyH.nil
      go_simp
      refine (HA.out _).mono ?_
      rintro e w2 ⟨rfl, hbA⟩
      go_wp2_with fail
      refine hK.out _ _ ?_ (fun hH2 => ?_)
      · exact ⟨hH4.1.below hbA, hH4.2.1.below hbA, hH4.2.2.trans (hbA.mono (by have := hH4.2.2.size; omega))⟩
      clear hK K
      replace hr5 := hr5.below hbA
      refine wpAnyH_ready (rs := [3]) (by kernel_rfl) (by simp) ?_
      refine AllReadyH.cons rfl (fun K hK => ?_) AllReadyH.nil
      go_simp
      refine (HD.out _).mono ?_
      rintro e w3 ⟨rfl, hbD⟩
      go_wp2_with fail
      refine hK.out _ _ ?_ (fun hH5 => ?_)
      · exact ⟨hH2.1.below hbD, hH2.2.1.below hbD, hH2.2.2.trans (hbD.mono (by have := hH2.2.2.size; omega))⟩
      clear hK K
      replace hr5 := hr5.below hbD
      refine wpAnyH_ready (rs := [5]) (by kernel_rfl) (by simp) ?_
      refine AllReadyH.cons rfl (fun K hK => ?_) AllReadyH.nil
      obtain ⟨⟨c0, c1⟩, f0, f1⟩ := hr5.cells2
      go_simp
      refine hK.out _ _ ?_ (fun hHf => ?_)
      · exact ⟨(hH5.1.far (by dsimp only; omega) _).far (by dsimp only; omega) _, (hH5.2.1.far (by dsimp only; omega) _).far (by dsimp only; omega) _, (hH5.2.2.setCell (by dsimp only; omega) _).setCell (by dsimp only; omega) _⟩
      clear hK K
      refine wpAnyH_done (by kernel_rfl) ?_ _
      refine NoPanic.normal ?_
      go_wp2_with fail
      go_meet
      exact ⟨_, rfl, (hr5.set 0 (.int .i64 p)).set 1 (.int .i64 q), hHf.1, hHf.2.1, hHf.2.2, hz5⟩
  case rest =>
    obtain ⟨b, rfl, hrow, r0, r1, hb, hlt⟩ := hcut
    go_wp2
    go_loopg [] (dmu p q) (fun n W => ∃ p q, n = dmu p q ∧ Att m gs p q ∧ Row W b 26 [.int .i64 (p : Nat), .int .i64 (q : Nat)] ∧ Row W w.heap.size 75 (gcells m gs) ∧ Row W (w.heap.size + 1) 26 [.int .i64 0, .int .i64 0] ∧ Below w.heap.size w W)
    case atStart => exact ⟨p, q, rfl, HAT.out, hrow, r0, r1, hb⟩
    case round =>
      clear hrow r0 r1 hb HAT HA HD
      obtain ⟨p, q, hn, hat, hrow, r0, r1, hb⟩ := hrel
      have HN := Lib.hid hn
      have HAT := Lib.hid hat
      obtain ⟨S, z1, z2, z3, z4⟩ := hat
      obtain ⟨q0, q16, p128, hpq⟩ := den_terms z1 z2 z4
      clear hn z1 z2 z3 z4 hpq
      have HDV := Lib.hid (fun w => divide_any m gs q w hg hm ⟨by omega, by omega⟩)
      obtain ⟨⟨c0, c1⟩, f0, f1⟩ := hrow.cells2
      go_wp2_with (first
        | (refine wpList_load_row rfl 75 (.tmp 1) rfl w.heap.size rfl 75 (gcells m gs).toArray (0, 0) _ (row_heap r0) Try.underlying75 rfl (info75g hg) ?_)
        | (go_at_call 49; refine (HDV.out _).mono ?_; rintro e w2 ⟨g, H, L, hg2, rfl, hgv, hdv, hb2⟩; have hs2 := HSP.out _ (by omega) _ _ _ hgv; have s0 := hrow.below hb2; have s1 := r0.below hb2; have s2 := r1.below hb2; have hb3 := hb.trans (hb2.mono hb.size); obtain ⟨⟨d0, d1⟩, e0, e1⟩ := s0.cells2; have hbl := s0.lt; have hbl2 := hrow.lt; clear hgv hb2 hrow r0 r1 hb c0 c1 f0 f1)
        | (go_at_call 50; refine (relieve_any g m gs H L q p _ hg hm ⟨by omega, by omega⟩ ⟨by omega, by omega⟩ (fun u v _ _ => HSY.out u v) hs2 hdv).mono ?_; rintro e w3 ⟨s, rfl, ⟨H2, L2, sp2, hd2, hcase⟩, hfr⟩; have t0 := s0.fr hfr (by omega); have t1 := s1.fr hfr (by omega); have t2 := s2.fr hfr (by omega); have hb4 := Fr.under hb3 hfr (by intro i h1 h2; omega); have HSP2 := Lib.hid sp2; have HC := Lib.hid hcase; clear hs2 hdv s0 s1 s2 hb3 d0 d1 e0 e1 hfr sp2 hcase; cases hz : ((s : Int) == 0))
        | (refine wpList_load_row rfl 75 (.tmp 1) rfl w.heap.size rfl 75 (gcells m gs).toArray (0, 0) _ (row_heap t1) Try.underlying75 rfl (info75g hg) ?_)
        | (go_at_call 47; have hne : s ≠ 0 := (by intro e; subst e; simp at hz); obtain ⟨v, hv1, hv2, hv3⟩ := HC.out.resolve_left (fun h => hne h.1); obtain ⟨n1, n2, n3, n4, n5⟩ := att_next HSP2.out HSY.out HIR.out HLO.out hv1 hv2 hv3 q0 q16; have HD2 := Lib.hid (fun w => density_any m s gs hg n1 n3 w); generalize fN (endsOf gs s (ms s) / 2) (pc 16 s) = p' at *; generalize fD (endsOf gs s (ms s) / 2) (pc 16 s) = q' at *; have N4 := Lib.hid n4; have N5 := Lib.hid n5; clear n4 n5 hv1 hv2 hv3 HC hd2; refine (HD2.out _).mono ?_; rintro e w5 ⟨rfl, hb5⟩; have v0 := t0.below hb5; have v1 := t1.below hb5; have v2 := t2.below hb5; have hb6 := hb4.trans (hb5.mono hb4.size); obtain ⟨⟨d0, d1⟩, e0, e1⟩ := v0.cells2))
      · rename_i p' q' n1 n2 n3 HD2 N4 N5 w5 hb5 v0 v1 v2 hb6 d0 d1 e0 e1
        go_roundg (dmu p' q')
        case rel => exact ⟨p', q', rfl, N4.out, (v0.set 0 _).set 1 _, (v1.far (by dsimp only; omega) _).far (by dsimp only; omega) _, (v2.far (by dsimp only; omega) _).far (by dsimp only; omega) _, (hb6.setCell (by dsimp only; omega) _).setCell (by dsimp only; omega) _⟩
        case measure => rw [HN.out]; exact N5.out
      · have hne : s = 0 := by simpa using hz
        have hall : ∀ v ∈ ms (sAll m), L2 v ≤ p := by
          rcases HC.out with h | ⟨v, _, _, hw⟩
          · exact h.2
          · have := hw.root; rw [hne] at this; simp [sHas] at this
        have HAL := Lib.hid hall
        clear hall hne HC
        go_wp2
        refine wp_region_noPanic ?_
        refine wp_region_held_drew (S := fun W => Row W b 26 [.int .i64 (p : Nat), .int .i64 (q : Nat)] ∧ Div W g m gs H2 L2 ∧ Below w.heap.size w W) (by kernel_rfl) ⟨t0.drew, Row.drew hd2, hb4.drew⟩ (fun hHeld => ?_)
        refine wpAnyH_take (i := 0) (v := .pointer (some ⟨g, 0, none⟩)) rfl (by kernel_rfl) (by kernel_rfl) (by kernel_rfl) (fun _ _ _ h => h) (Or.inl ⟨by rfl, fun W hW => ?_⟩) hHeld ?_
        · go_simp
        refine wpAnyH_take (i := 1) (v := .pointer (some ⟨b, 0, none⟩)) rfl (by kernel_rfl) (by kernel_rfl) (by kernel_rfl) (fun _ _ _ h => h) (Or.inl ⟨by rfl, fun W hW => ?_⟩) hHeld ?_
        · go_simp
        refine wpAnyH_take (i := 2) (v := .int .i64 p) rfl (by kernel_rfl) (by kernel_rfl) (by kernel_rfl) (fun _ _ _ h => h) (Or.inl ⟨by rfl, fun W hW => ?_⟩) hHeld ?_
        · have c0 := hW.1.cells2.1.1
          go_simp
        refine wpAnyH_take (i := 4) (v := frac p q) rfl (by kernel_rfl) (by kernel_rfl) (by kernel_rfl) (fun _ _ _ h => h) (Or.inl ⟨by rfl, fun W hW => ?_⟩) hHeld ?_
        · obtain ⟨c0, c1⟩ := hW.1.cells2.1
          go_simp
        refine wpAnyH_take (i := 5) (v := .pointer (some ⟨g, 0, none⟩)) rfl (by kernel_rfl) (by kernel_rfl) (by kernel_rfl) (fun _ _ _ h => h) (Or.inl ⟨by rfl, fun W hW => ?_⟩) hHeld ?_
        · go_simp
        refine wpAnyH_ready (rs := [3]) (by kernel_rfl) (by simp) ?_
        refine AllReadyH.cons rfl (fun K hK => ?_) AllReadyH.nil
        go_simp
        refine (full_any g m gs H2 L2 p _ hg hm (Row.drew hd2)).mono ?_
        rintro e w5 ⟨s5, rfl, hfull, hb5⟩
        go_wp2_with fail
        refine hK.out _ _ ⟨t0.drew.below hb5, Row.below (Row.drew hd2) hb5, hHeld.2.2.trans (hb5.mono hb4.size)⟩ (fun hH2 => ?_)
        have hFU := Lib.hid hfull
        have v2 := t2.drew.below hb5
        clear hK K hb5 hfull t0 t1 t2 hb4 hd2 hHeld
        refine wpAnyH_ready (rs := [6]) (by kernel_rfl) (by simp) ?_
        refine AllReadyH.cons rfl (fun K hK => ?_) AllReadyH.nil
        go_simp
        refine hK.out _ _ hH2 (fun _ => ?_)
        clear hK K
        refine wpAnyH_ready (rs := [7]) (by kernel_rfl) (by simp) ?_
        refine AllReadyH.cons rfl (fun K hK => ?_) AllReadyH.nil
        obtain ⟨⟨d0, d1⟩, e0, e1⟩ := v2.cells2
        have hg3 : g ≠ w.heap.size + 1 := fun e => Row.ne hH2.2.1 v2 (by decide) e
        go_simp
        refine hK.out _ _ ⟨(hH2.1.far (by dsimp only; omega) _).far (by dsimp only; omega) _, Row.far (Row.far hH2.2.1 (by dsimp only; omega) _) (by dsimp only; omega) _, (hH2.2.2.setCell (by dsimp only; omega) _).setCell (by dsimp only; omega) _⟩ (fun hH4 => ?_)
        have v3 := (v2.set 0 (.int .i64 (p : Nat))).set 1 (.int .i64 (q : Nat))
        clear hK K
        refine wpAnyH_ready (rs := [8]) (by kernel_rfl) (by simp) ?_
        refine AllReadyH.cons rfl (fun K hK => ?_) AllReadyH.nil
        go_simp
        refine hK.out _ _ hH4 (fun _ => ?_)
        clear hK K
        refine wpAnyH_done (by kernel_rfl) ?_ _
        refine NoPanic.normal ?_
        obtain ⟨⟨x0, x1⟩, y0, y1⟩ := v3.cells2
        go_wp2
        refine bodyPost_ret (v := .tuple #[.int .u32 s5, frac p q, .pointer (some ⟨g, 0, none⟩)]) (by simp [results, Try.results42, go_sem, x0, x1]) rfl ⟨s5, p, q, g, H2, L2, rfl, ⟨HSP2.out, HAL.out, hFU.out, HAT.out⟩, by omega, hH4.2.1, hH4.2.2⟩
end Go.Proofs.Ytpaeagkgmbhndaa
/- The densest set, as asked. -/
namespace Go.Proofs.Ytpaeagkgmbhndaa
open Go.RowKit
attribute [local go_sem] Oper.semAt_some
set_option maxHeartbeats 1000000
set_option maxRecDepth 100000
theorem readF_hir {m : Nat} {es : List (Int × Int)} {gs : List Nat} (h : readF m es = some gs) (v : Nat) : sHas (near gs v) v = false := by
  by_cases hv : v < 16
  · exact (readF_ok h).2.2.2 v hv
  · have := (readF_ok h).2.2.1.len
    unfold near sHas; rw [List.getElem?_eq_none (by omega)]; simp
theorem densest_read {m : Nat} {es : List (Int × Int)} {gs : List Nat} (h : readF m es = some gs) (w : World) : Calls Try.prog 42 #[.agg (gcells m gs).toArray] w (DensRes m gs w) := by
  obtain ⟨hm1, hm2, hg, hI⟩ := readF_ok h
  exact densest_any m gs w hg (by omega) (by omega) (readF_sym h) (readF_hir h) (fun u v hu => readF_low h (by rw [readF_sym h]; exact hu)) (fun pcs hp k H L g => g.spread h hp)
/-- The greatest densest set s with the density p / q. -/
structure Dens (m : Nat) (gs : List Nat) (s p q : Nat) : Prop where
  lt : s < 65536
  ne : s ≠ 0
  sub : ∀ v, sHas s v = true → v < m
  den : denV gs s = (p, q)
  q0 : 0 < q
  q16 : q ≤ 16
  p128 : p ≤ 128
  up : ∀ T, T < 65536 → (∀ v, sHas T v = true → v < m) → q * (endsOf gs T (ms T) / 2) ≤ p * pc 16 T
  max : ∀ T, T < 65536 → (∀ v, sHas T v = true → v < m) → q * (endsOf gs T (ms T) / 2) = p * pc 16 T → ∀ v, sHas T v = true → sHas s v = true
theorem DensPost.dens {m : Nat} {es : List (Int × Int)} {gs : List Nat} (h : readF m es = some gs) {p q s : Nat} {H : Nat → Nat → Int} {L : Nat → Int} (d : DensPost m gs p q H L s) : Dens m gs s p q := by
  obtain ⟨hm1, hm2, hg, hI⟩ := readF_ok h
  obtain ⟨a, b, c, e, f, g, i, j⟩ := d.best (by omega) (readF_sym h) (readF_hir h) (fun u v hu => readF_low h (by rw [readF_sym h]; exact hu))
  exact ⟨a, b, c, e, f, g, i, fun T h1 h2 => (j T h1 h2).1, fun T h1 h2 => (j T h1 h2).2⟩
/-- There is only one. -/
theorem Dens.one {m : Nat} {gs : List Nat} {s p q s' p' q' : Nat} (d : Dens m gs s p q) (d' : Dens m gs s' p' q') : s = s' ∧ p = p' ∧ q = q' := by
  obtain ⟨a1, a2, a3, a4⟩ := den_terms d.lt d.ne d.den
  obtain ⟨b1, b2, b3, b4⟩ := den_terms d'.lt d'.ne d'.den
  have u1 := d.up s' d'.lt d'.sub
  have u2 := d'.up s d.lt d.sub
  have ps := pc_pos d.lt d.ne
  have ps' := pc_pos d'.lt d'.ne
  have k1 : q * p' ≤ p * q' := by
    refine Nat.le_of_mul_le_mul_right (c := pc 16 s') ?_ ps'
    calc q * p' * pc 16 s' = q * (p' * pc 16 s') := by ac_rfl
      _ = q' * (q * (endsOf gs s' (ms s') / 2)) := by rw [b4]; ac_rfl
      _ ≤ q' * (p * pc 16 s') := Nat.mul_le_mul_left _ u1
      _ = p * q' * pc 16 s' := by ac_rfl
  have k2 : q' * p ≤ p' * q := by
    refine Nat.le_of_mul_le_mul_right (c := pc 16 s) ?_ ps
    calc q' * p * pc 16 s = q' * (p * pc 16 s) := by ac_rfl
      _ = q * (q' * (endsOf gs s (ms s) / 2)) := by rw [a4]; ac_rfl
      _ ≤ q * (p' * pc 16 s) := Nat.mul_le_mul_left _ u2
      _ = p' * q * pc 16 s := by ac_rfl
  have k3 : p * q' = p' * q := by
    have e1 : q * p' = p' * q := Nat.mul_comm _ _
    have e2 : q' * p = p * q' := Nat.mul_comm _ _
    omega
  have e1 : q * (endsOf gs s' (ms s') / 2) = p * pc 16 s' := by
    refine Nat.eq_of_mul_eq_mul_left b1 ?_
    calc q' * (q * (endsOf gs s' (ms s') / 2)) = q * (endsOf gs s' (ms s') / 2 * q') := by ac_rfl
      _ = q * (p' * pc 16 s') := by rw [b4]
      _ = (p' * q) * pc 16 s' := by ac_rfl
      _ = (p * q') * pc 16 s' := by rw [k3]
      _ = q' * (p * pc 16 s') := by ac_rfl
  have e2 : q' * (endsOf gs s (ms s) / 2) = p' * pc 16 s := by
    refine Nat.eq_of_mul_eq_mul_left a1 ?_
    calc q * (q' * (endsOf gs s (ms s) / 2)) = q' * (endsOf gs s (ms s) / 2 * q) := by ac_rfl
      _ = q' * (p * pc 16 s) := by rw [a4]
      _ = (p * q') * pc 16 s := by ac_rfl
      _ = (p' * q) * pc 16 s := by rw [k3]
      _ = q * (p' * pc 16 s) := by ac_rfl
  have m1 := d.max s' d'.lt d'.sub e1
  have m2 := d'.max s d.lt d.sub e2
  have es : s = s' := by
    refine Nat.eq_of_testBit_eq fun i => ?_
    have x1 := m1 i
    have x2 := m2 i
    unfold sHas at x1 x2
    rw [Bool.eq_iff_iff]
    exact ⟨x2, x1⟩
  subst es
  have := d.den.symm.trans d'.den
  injection this with h1 h2
  exact ⟨rfl, h1, h2⟩
theorem Densest_none (n : Int) (A : Option Addr) (c : Nat) (es : List (Int × Int)) (w : World) (hx : es.length ≤ 1000000) (ha : PairsAt w A es) (h : readF n es = none) :
    Calls Try.prog 15 #[.int .i64 n, .slice A es.length c] w fun e w' => e = .returned (.tuple #[.slice none 0 0, frac 0 0, .slice none 0 0, .int .i64 2]) ∧ Below w.heap.size w w' := by
  have HC := Lib.hid (rg_none (c := c) hx ((ha.below ((Below.refl _ w).alloc (Nat.le_refl _) (.cells #[.int .i64 0, .int .i64 0] 26)))) h)
  clear h
  go_enter Try.func15, Try.ntmps15
  go_wp2_with (first
    | (go_at_call 41; refine HC.out.mono ?_; rintro e w2 ⟨rfl, hb2⟩; have hs2 := hb2.size; have r0 : Row w2 w.heap.size 26 [.int .i64 0, .int .i64 0] := (Row.new w 26 _).below hb2; obtain ⟨⟨c0, c1⟩, g0, g1⟩ := r0.cells2; have l0 := r0.lt)
    | (refine wpList_store_row rfl 75 (.tmp 8) (.tmp 17) rfl w2.heap.size (gcells 0 Z16).toArray rfl rfl 75 #[.int .i64 0, .int .u32 0, .int .u32 0, .int .u32 0, .int .u32 0, .int .u32 0, .int .u32 0, .int .u32 0, .int .u32 0, .int .u32 0, .int .u32 0, .int .u32 0, .int .u32 0, .int .u32 0, .int .u32 0, .int .u32 0, .int .u32 0] (heap_alloc_new _ _) info75 rfl (gcells_one _ _) ?_; rw [setRow_alloc]))
  have r5 := ((r0.set 0 (.int .i64 0)).set 1 (.int .i64 0)).alloc (.cells (gcells 0 Z16).toArray 75)
  obtain ⟨⟨d0, d1⟩, -⟩ := r5.cells2
  refine bodyPost_ret (v := .tuple #[.slice none 0 0, .agg #[.int .i64 0, .int .i64 0], .slice none 0 0, .int .i64 2]) ?_ rfl ⟨rfl, ?_⟩
  · simp [results, Try.results15, go_sem, d0, d1]
  · have hb := ((Below.refl _ w).alloc (Nat.le_refl _) (.cells #[.int .i64 0, .int .i64 0] 26)).trans (hb2.mono (by simp))
    (repeat (first | exact Below.refl _ _ | assumption | (refine Below.setCell ?_ (by first | exact Nat.le_refl _ | omega | (simp; done) | (simp; omega)) _) | (refine Below.trans ?_ (below_drewN _)) | (refine Below.drew ?_) | (refine Below.alloc ?_ (by first | exact Nat.le_refl _ | omega | (simp; done) | (simp; omega)) _) | (refine below_row ?_ (by first | exact Nat.le_refl _ | omega | (simp; done) | (simp; omega)) _)))
/-- What Densest answers. -/
def DensestRes (m : Nat) (es : List (Int × Int)) (gs : List Nat) (w : World) (e : Ending) (w' : World) : Prop := ∃ v g s p q H L f, e = .returned (.tuple #[v, frac p q, .slice (some ⟨g, 0, none⟩) es.length es.length, .int .i64 0]) ∧ Dens m gs s p q ∧ Spread gs q H L ∧ (∀ u ∈ ms (sAll m), L u ≤ p) ∧ shareOK es H es.length f ∧
  w'.ownsRow w.heap.size 3 1 v (ms s).length (intv (ms s)) ∧ w.heap.size ≤ g ∧ (0 < es.length → Row w' g 65 (cellsF (es.length * 2) f)) ∧ Below w.heap.size w w'
theorem Densest_some (m : Nat) (A : Option Addr) (c : Nat) (es : List (Int × Int)) (gs : List Nat) (w : World) (hx : es.length ≤ 1000000) (ha : PairsAt w A es) (h : readF m es = some gs) :
    Calls Try.prog 15 #[.int .i64 m, .slice A es.length c] w (DensestRes m es gs w) := by
  obtain ⟨hm1, hm2, hg, hI⟩ := readF_ok h
  have hbw := (Below.refl _ w).alloc (Nat.le_refl _) (.cells #[.int .i64 0, .int .i64 0] 26)
  have HC := Lib.hid (rg_some (c := c) hx (ha.below hbw) h)
  have hpa := ha.below hbw
  have HDN := Lib.hid (fun w => densest_read h w)
  have HED := Lib.hid (fun k (hk : k < es.length) => (by have := readF_edges h hk; omega : 0 ≤ pA es k ∧ pA es k < 16 ∧ 0 ≤ pB es k ∧ pB es k < 16 ∧ pA es k ≠ pB es k))
  have HH := Lib.hid h
  have HPA := Lib.hid (fun (W : World) (hb : Below w.heap.size w W) => ha.below hb)
  clear h hm1 hm2 ha
  go_enter Try.func15, Try.ntmps15
  go_wp2_with (first
    | (go_at_call 41; refine HC.out.mono ?_; rintro e w2 ⟨rfl, hb2⟩; have hs2 := hb2.size; have r0 : Row w2 w.heap.size 26 [.int .i64 0, .int .i64 0] := (Row.new w 26 _).below hb2; have hpa2 := (hpa.below hb2).below ((Below.refl _ w2).alloc (Nat.le_refl _) (.cells (gcells m gs).toArray 75)); have rg : Row (w2.alloc (.cells (gcells m gs).toArray 75)) w2.heap.size 75 (gcells m gs) := row_new rfl; have hb3 : Below w.heap.size w (w2.alloc (.cells (gcells m gs).toArray 75)) := (hbw.trans (hb2.mono (by simp))).alloc (by have := r0.lt; omega) _; have r03 := r0.alloc (.cells (gcells m gs).toArray 75); clear HC hbw hpa hb2)
    | (refine wpList_store_row rfl 75 (.tmp 8) (.tmp 17) rfl w2.heap.size (gcells m gs).toArray rfl rfl 75 #[.int .i64 0, .int .u32 0, .int .u32 0, .int .u32 0, .int .u32 0, .int .u32 0, .int .u32 0, .int .u32 0, .int .u32 0, .int .u32 0, .int .u32 0, .int .u32 0, .int .u32 0, .int .u32 0, .int .u32 0, .int .u32 0, .int .u32 0] (heap_alloc_new _ _) (info75g hg) (size75g hg) (gcells_one _ _) ?_; rw [setRow_alloc])
    | (refine wpList_load_row rfl 75 (.tmp 8) rfl w2.heap.size rfl 75 (gcells m gs).toArray (0, 0) _ (row_heap rg) Try.underlying75 rfl (info75g hg) ?_)
    | (go_at_call 42; refine (HDN.out _).mono ?_; rintro e w4 ⟨s, p, q, g, H, L, rfl, hpost, hg4, hd4, hb4⟩; have HPO := Lib.hid hpost; have x0 := r03.below hb4; have x1 := hpa2.below hb4; have hb5 := hb3.trans (hb4.mono hb3.size); have hl4 := r03.lt; clear r0 rg r03 hpa2 hpost hb3 hb4))
  have y0 := x0.alloc (.cells #[.int .i64 (p : Nat), .int .i64 (q : Nat)] 26)
  have y2 : Row (w4.alloc (.cells #[.int .i64 (p : Nat), .int .i64 (q : Nat)] 26)) w4.heap.size 26 [.int .i64 (p : Nat), .int .i64 (q : Nat)] := row_new rfl
  have y3 : Div (w4.alloc (.cells #[.int .i64 (p : Nat), .int .i64 (q : Nat)] 26)) g m gs H L := Row.alloc hd4 _
  have hb6 := hb5.alloc hb5.size (.cells #[.int .i64 (p : Nat), .int .i64 (q : Nat)] 26)
  have hgne : w.heap.size + 1 ≤ g := by simp at hg4 hs2; omega
  have hl5 : w.heap.size < w4.heap.size := x0.lt
  generalize hw5 : World.alloc w4 _ = w5 at *
  clear hw5 x0 x1 hd4 hb5
  have hda := HPO.out.dens HH.out
  have hsl := hda.lt
  have HDA := Lib.hid hda
  clear hda
  refine wp_region_noPanic ?_
  refine wp_region_held_drew (S := fun W => Row W w4.heap.size 26 [.int .i64 (p : Nat), .int .i64 (q : Nat)] ∧ Div W g m gs H L ∧ Below w.heap.size w W) (by kernel_rfl) ⟨y2.drew, Row.drew y3, hb6.drew⟩ (fun hH => ?_)
  refine wpAnyH_take (i := 0) (v := .int .u32 s) rfl (by kernel_rfl) (by kernel_rfl) (by kernel_rfl) (fun _ _ _ h => h) (Or.inl ⟨by rfl, fun W hW => ?_⟩) hH ?_
  · go_simp
  refine wpAnyH_take (i := 2) (v := frac p q) rfl (by kernel_rfl) (by kernel_rfl) (by kernel_rfl) (fun _ _ _ h => h) (Or.inl ⟨by rfl, fun W hW => ?_⟩) hH ?_
  · obtain ⟨c0, c1⟩ := hW.1.cells2.1
    go_simp
  refine wpAnyH_take (i := 3) (v := .pointer (some ⟨g, 0, none⟩)) rfl (by kernel_rfl) (by kernel_rfl) (by kernel_rfl) (fun _ _ _ h => h) (Or.inl ⟨by rfl, fun W hW => ?_⟩) hH ?_
  · go_simp
  refine wpAnyH_take (i := 4) (v := .slice A es.length c) rfl (by kernel_rfl) (by kernel_rfl) (by kernel_rfl) (fun _ _ _ h => h) (Or.inl ⟨by rfl, fun W hW => ?_⟩) hH ?_
  · go_simp
  refine wpAnyH_ready (rs := [1]) (by kernel_rfl) (by simp) ?_
  refine AllReadyH.cons rfl (fun K hK => ?_) AllReadyH.nil
  go_simp
  refine (list_any s hsl _).mono ?_
  rintro e w6 ⟨v, rfl, hown, hb7⟩
  go_wp2_with fail
  refine hK.out _ _ ⟨hH.1.below hb7, Row.below hH.2.1 hb7, hH.2.2.trans (hb7.mono hH.2.2.size)⟩ (fun hH1 => ?_)
  clear hK K
  refine wpAnyH_ready (rs := [5]) (by kernel_rfl) (by simp) ?_
  refine AllReadyH.cons rfl (fun K hK => ?_) AllReadyH.nil
  go_simp
  refine (share_any g m gs H L A c es _ hg hH1.2.1 hx (HPA.out _ hH1.2.2) HED.out).mono ?_
  rintro e w7 ⟨f, hf, rfl, hrw, hb8⟩
  go_wp2_with fail
  refine hK.out _ _ ⟨hH1.1.below hb8, Row.below hH1.2.1 hb8, hH1.2.2.trans (hb8.mono hH1.2.2.size)⟩ (fun hH2 => ?_)
  clear hK K
  have z0 := (y0.drew.below hb7).below hb8
  have hown0 := hown.kept' hb8
  have hz6 : w5.heap.size ≤ w6.heap.size := hb7.size
  have hz5 : w.heap.size < w5.heap.size := y0.lt
  have HF := Lib.hid hf
  have HRW := Lib.hid hrw
  have HOW := Lib.hid hown0
  have hz0 := z0.lt
  clear hf hrw hown hown0 hH hH1 hb7 hb8 y0 y2 y3 hb6
  refine wpAnyH_ready (rs := [6]) (by kernel_rfl) (by simp) ?_
  refine AllReadyH.cons rfl (fun K hK => ?_) AllReadyH.nil
  go_simp
  refine hK.out _ _ hH2 (fun _ => ?_)
  clear hK K
  refine wpAnyH_ready (rs := [7]) (by kernel_rfl) (by simp) ?_
  refine AllReadyH.cons rfl (fun K hK => ?_) AllReadyH.nil
  obtain ⟨⟨d0, d1⟩, e0, e1⟩ := z0.cells2
  go_simp
  have hlw6 : w.heap.size < w6.heap.size := by omega
  refine hK.out _ _ ⟨(hH2.1.far (by dsimp only; omega) _).far (by dsimp only; omega) _, Row.far (Row.far hH2.2.1 (by dsimp only; omega) _) (by dsimp only; omega) _, (hH2.2.2.setCell (by dsimp only; omega) _).setCell (by dsimp only; omega) _⟩ (fun hH4 => ?_)
  have v3 := (z0.set 0 (.int .i64 (p : Nat))).set 1 (.int .i64 (q : Nat))
  have HRW2 := Lib.hid (fun h0 => ((HRW.out h0).far (p := ⟨w.heap.size, 0, none⟩) (by dsimp only; omega) (.int .i64 (p : Nat))).far (p := ⟨w.heap.size, 1, none⟩) (by dsimp only; omega) (.int .i64 (q : Nat)))
  clear hK K
  refine wpAnyH_ready (rs := [8]) (by kernel_rfl) (by simp) ?_
  refine AllReadyH.cons rfl (fun K hK => ?_) AllReadyH.nil
  go_simp
  refine hK.out _ _ hH4 (fun _ => ?_)
  clear hK K
  refine wpAnyH_ready (rs := [9]) (by kernel_rfl) (by simp) ?_
  refine AllReadyH.cons rfl (fun K hK => ?_) AllReadyH.nil
  go_simp
  refine hK.out _ _ hH4 (fun _ => ?_)
  clear hK K
  refine wpAnyH_done (by kernel_rfl) ?_ _
  refine NoPanic.normal ?_
  obtain ⟨⟨x0, x1⟩, y0, y1⟩ := v3.cells2
  go_wp2
  refine bodyPost_ret (v := .tuple #[v, frac p q, .slice (some ⟨w6.heap.size, 0, none⟩) es.length es.length, .int .i64 0]) (by simp [results, Try.results15, go_sem, x0, x1]) rfl ⟨v, w6.heap.size, s, p, q, H, L, f, rfl, HDA.out, HPO.out.sp, HPO.out.le, HF.out, ?_, by omega, HRW2.out, hH4.2.2⟩
  exact own_mono (own_set (own_set HOW.out (by dsimp only; exact hz5) _) (by dsimp only; exact hz5) _) (Nat.le_of_lt hz5)
end Go.Proofs.Ytpaeagkgmbhndaa
