/- BagsChecks returns true: the walk. -/
import Derived.Deep.RegionHeld3
import Derived.Deep.DeepCutAuto
import Derived.Test.YtpaeagkgmbhndaaZM
namespace Go.Proofs.Ytpaeagkgmbhndaa
open Go.RowKit
attribute [local go_sem] Oper.semAt_some
set_option maxHeartbeats 1000000
set_option maxRecDepth 100000
theorem Set_yes {n : Nat} {A : Option Addr} {c : Nat} {xs : List Int} {w : World} (hx : xs.length ≤ 1000000) (ha : IntsAt w A xs) (h : IsSet n xs) :
    Calls Try.prog 26 #[.int .i64 n, .slice A xs.length c] w fun e w' => e = .returned (.bool true) ∧ ∃ n, w' = w.drewN n :=
  (Set_any n A c xs w hx ha).mono fun _ _ ⟨h1, h2⟩ => ⟨by rw [h1]; exact ret_bool (decide_eq_true h), h2⟩
theorem Set_no {n : Nat} {A : Option Addr} {c : Nat} {xs : List Int} {w : World} (hx : xs.length ≤ 1000000) (ha : IntsAt w A xs) (h : ¬ IsSet n xs) :
    Calls Try.prog 26 #[.int .i64 n, .slice A xs.length c] w fun e w' => e = .returned (.bool false) ∧ ∃ n, w' = w.drewN n :=
  (Set_any n A c xs w hx ha).mono fun _ _ ⟨h1, h2⟩ => ⟨by rw [h1]; exact ret_bool (decide_eq_false h), h2⟩
theorem BagsChecks_any (n : Int) (A B C : Option Addr) (c d k : Nat) (es : List (Int × Int)) (xs : List Int) (ss : List (Int × Int)) (w : World) (hx : es.length ≤ c) (hc : c ≤ maxLen) (hx2 : xs.length ≤ d) (hd : d ≤ maxLen) (hx3 : ss.length ≤ k) (hk : k ≤ maxLen) (ha : PairsAt w A es) (hb : IntsAt w B xs) (hs : PairsAt w C ss) :
    Calls Try.prog 4 #[.int .i64 n, .slice A es.length c, .agg #[.slice B xs.length d, .slice C ss.length k]] w fun e w' => e = .returned (.bool true) ∧ Below w.heap.size w w' := by
  have HE := Lib.hid (fun (W : World) (h : Below w.heap.size w W) => edges_any A c es W hx hc (ha.below h))
  have HL := Lib.hid (fun (W : World) (h : Below w.heap.size w W) => list_copy_any B d xs W hx2 hd (hb.below h))
  have HS := Lib.hid (fun (W : World) (h : Below w.heap.size w W) => shares_any C k ss W hx3 hk (hs.below h))
  have hl1 : (es.take 130).length ≤ 130 := by rw [List.length_take]; omega
  have hl2 : (xs.take 130).length ≤ 130 := by rw [List.length_take]; omega
  have hl3 : (ss.take 130).length ≤ 130 := by rw [List.length_take]; omega
  clear hx hc hx2 hd hx3 hk ha hb hs
  generalize es.take 130 = own at *
  generalize xs.take 130 = ys at *
  generalize ss.take 130 = ts at *
  go_enter Try.func4, Try.ntmps4
  go_wp2
  have r0 : Row (w.alloc (.cells #[.slice B xs.length d, .slice C ss.length k] 39)) w.heap.size 39 [.slice B xs.length d, .slice C ss.length k] := row_new rfl
  have hb0 : Below w.heap.size w (w.alloc (.cells #[.slice B xs.length d, .slice C ss.length k] 39)) := (Below.refl _ w).alloc (Nat.le_refl _) _
  generalize World.alloc w _ = w0 at *
  go_cut [7, 8, 9] (fun s7 s8 s9 W => ∃ A1 c1 A2 c2 A3 c3, s7 = .slice A1 own.length c1 ∧ s8 = .slice A2 ys.length c2 ∧ s9 = .slice A3 ts.length c3 ∧ PairsAt W A1 own ∧ IntsAt W A2 ys ∧ PairsAt W A3 ts ∧ Below w.heap.size w W)
  case first =>
    refine wp_region_noPanic ?_
    refine wp_region_held_drew (S := fun W => Row W w.heap.size 39 [.slice B xs.length d, .slice C ss.length k] ∧ Below w.heap.size w W) (by kernel_rfl) ⟨r0.drew, hb0.drew⟩ (fun hH => ?_)
    refine wpAnyH_take (i := 0) (v := .slice A es.length c) rfl (by kernel_rfl) (by kernel_rfl) (by kernel_rfl) (fun _ _ _ h => h) (Or.inl ⟨by rfl, fun W hW => ?_⟩) hH ?_
    · go_simp
    refine wpAnyH_take (i := 2) (v := .pointer (some ⟨w.heap.size, 0, none⟩)) rfl (by kernel_rfl) (by kernel_rfl) (by kernel_rfl) (fun _ _ _ h => h) (Or.inl ⟨by rfl, fun W hW => ?_⟩) hH ?_
    · go_simp
    refine wpAnyH_take (i := 3) (v := .slice B xs.length d) rfl (by kernel_rfl) (by kernel_rfl) (by kernel_rfl) (fun _ _ _ h => h) (Or.inl ⟨by rfl, fun W hW => ?_⟩) hH ?_
    · have c0 := hW.1.cells2.1.1
      go_simp
    refine wpAnyH_take (i := 5) (v := .pointer (some ⟨w.heap.size, 1, none⟩)) rfl (by kernel_rfl) (by kernel_rfl) (by kernel_rfl) (fun _ _ _ h => h) (Or.inl ⟨by rfl, fun W hW => ?_⟩) hH ?_
    · go_simp
    refine wpAnyH_take (i := 6) (v := .slice C ss.length k) rfl (by kernel_rfl) (by kernel_rfl) (by kernel_rfl) (fun _ _ _ h => h) (Or.inl ⟨by rfl, fun W hW => ?_⟩) hH ?_
    · have c0 := hW.1.cells2.1.2
      go_simp
    refine wpAnyH_ready (rs := [1]) (by kernel_rfl) (by simp) ?_
    refine AllReadyH.cons rfl (fun K hK => ?_) AllReadyH.nil
    go_simp
    refine (HE.out _ hH.2).mono ?_
    rintro e w1 ⟨v1, n1, rfl, o1, b1⟩
    go_wp2_with fail
    refine hK.out _ _ ⟨hH.1.below b1, hH.2.trans (b1.mono hH.2.size)⟩ (fun hH1 => ?_)
    clear hK K
    refine wpAnyH_ready (rs := [4]) (by kernel_rfl) (by simp) ?_
    refine AllReadyH.cons rfl (fun K hK => ?_) AllReadyH.nil
    go_simp
    refine (HL.out _ hH1.2).mono ?_
    rintro e w2 ⟨v2, n2, rfl, o2, b2⟩
    go_wp2_with fail
    refine hK.out _ _ ⟨hH1.1.below b2, hH1.2.trans (b2.mono hH1.2.size)⟩ (fun hH2 => ?_)
    clear hK K
    refine wpAnyH_ready (rs := [7]) (by kernel_rfl) (by simp) ?_
    refine AllReadyH.cons rfl (fun K hK => ?_) AllReadyH.nil
    go_simp
    refine (HS.out _ hH2.2).mono ?_
    rintro e w3 ⟨v3, n3, rfl, o3, b3⟩
    go_wp2_with fail
    refine hK.out _ _ ⟨hH2.1.below b3, hH2.2.trans (b3.mono hH2.2.size)⟩ (fun hH3 => ?_)
    clear hK K
    obtain ⟨A1, c1, rfl, -, -, p1⟩ := own_pairs o1
    obtain ⟨A2, c2, rfl, -, -, i2⟩ := own_intsI o2
    obtain ⟨A3, c3, rfl, -, -, p3⟩ := own_pairs o3
    have P1 := Lib.hid ((p1.below b2).below b3)
    have I2 := Lib.hid (i2.below b3)
    have P3 := Lib.hid p3
    clear o1 o2 o3 p1 i2 p3
    refine wpAnyH_ready (rs := [8]) (by kernel_rfl) (by simp) ?_
    refine AllReadyH.cons rfl (fun K hK => ?_) AllReadyH.nil
    go_simp
    refine hK.out _ _ hH3 (fun _ => ?_)
    clear hK K
    refine wpAnyH_ready (rs := [9]) (by kernel_rfl) (by simp) ?_
    refine AllReadyH.cons rfl (fun K hK => ?_) AllReadyH.nil
    go_simp
    refine hK.out _ _ hH3 (fun _ => ?_)
    clear hK K
    refine wpAnyH_ready (rs := [10]) (by kernel_rfl) (by simp) ?_
    refine AllReadyH.cons rfl (fun K hK => ?_) AllReadyH.nil
    go_simp
    refine hK.out _ _ hH3 (fun _ => ?_)
    clear hK K
    refine wpAnyH_done (by kernel_rfl) ?_ _
    refine NoPanic.normal ?_
    go_wp2_with fail
    go_meet
    exact ⟨_, _, _, _, _, _, rfl, rfl, rfl, P1.out, I2.out, P3.out, hH3.2⟩
  case rest =>
    obtain ⟨A1, c1, A2, c2, A3, c3, rfl, rfl, rfl, p1, i1, s1, b1⟩ := hcut
    clear r0 hb0 HE HL HS
    rcases hr : readF n own with _ | gs
    · have HR := Lib.hid hr
      clear hr
      go_wp2_with (first
        | (go_at_call 17; refine (Check_none n A1 A2 A3 c1 c2 c3 own ts ys _ (by omega) p1 HR.out).mono ?_; rintro e w2 ⟨rfl, b2⟩; have p2 := p1.below b2; have b3 := b1.trans (b2.mono b1.size); clear p1 b1 b2)
        | (go_at_call 25; refine (Density_none n A1 A2 c1 c2 own ys _ (by omega) p2 HR.out).mono ?_; rintro e w3 ⟨rfl, b4⟩; have p3 := (p2.below b4).alloc (.cells #[.int .i64 0, .int .i64 0] 26); have r3 : Row (w3.alloc (.cells #[.int .i64 0, .int .i64 0] 26)) w3.heap.size 26 [.int .i64 0, .int .i64 0] := row_new rfl; have b5 := (b3.trans (b4.mono b3.size)).alloc (by have := b3.size; have := b4.size; omega) (.cells #[.int .i64 0, .int .i64 0] 26); clear p2 b3 b4)
        | (go_at_call 16; refine (Graph_no (by omega) p3 HR.out).mono ?_; rintro e w4 ⟨rfl, b6⟩; have r4 := r3.below b6; obtain ⟨⟨x0, x1⟩, -⟩ := r4.cells2; have b7 := b5.trans (b6.mono b5.size); clear p3 b5 b6 r3)
        | (go_at_call 18; refine (awake_any _).mono ?_; rintro e w5 ⟨rfl, b8⟩))
      go_ret
      exact ⟨rfl, b7.trans (b8.mono b7.size)⟩
    · obtain ⟨m, rfl⟩ := readF_nat hr
      have hm16 : m ≤ 16 := by have := readF_ok hr; omega
      have HR := Lib.hid hr
      clear hr
      by_cases hset : IsSet m ys
      · obtain ⟨z1, z2, z3, z4, z5⟩ := setV_yes hm16 hset
        have hden : denV gs (setV m ys) = (fN (insT own ys own.length) ys.length, fD (insT own ys own.length) ys.length) := by
          unfold denV; rw [ends_ins HR.out z5, z3]
        have hys := hset.2
        obtain ⟨t1, t2, t3, t4⟩ := den_terms z1 z2 hden
        have HSET := Lib.hid hset
        have HCK := Lib.hid (fun W p i s => by have := Check_good m A1 A2 A3 c1 c2 c3 own ts gs ys W (by omega) (by omega) p i s HR.out z2 (by rw [hden]; dsimp only; omega); rw [hden] at this; exact this)
        have HDE := Lib.hid (fun W p i => by have := Density_good m A1 A2 c1 c2 own gs ys W (by omega) (by omega) p i HR.out z2; rw [hden] at this; exact this)
        have HRD := Lib.hid (fun W p i => RefDensity_any A1 A2 c1 c2 own ys W (by omega) (by omega) hys p i)
        have HRP := Lib.hid (fun W p s => RefProves_any m A1 A3 c1 c3 (fN (insT own ys own.length) ys.length) (fD (insT own ys own.length) ys.length) own ts gs W (by omega) p s (by omega) HR.out)
        clear hset z1 z2 z3 z4 z5 hden t1 t2 t3 t4 hys
        generalize fN (insT own ys own.length) ys.length = P at *
        generalize fD (insT own ys own.length) ys.length = Q at *
        cases hpv : provV own ts P Q
        all_goals
          have HPV := Lib.hid hpv
          clear hpv
          go_wp2_with (first
            | (go_at_call 17; refine (HCK.out _ p1 i1 s1).mono ?_; rintro e w2 ⟨rfl, b2⟩; simp only [HPV.out]; have p2 := p1.below b2; have i2 := i1.below b2; have s2 := s1.below b2; have b3 := b1.trans (b2.mono b1.size); clear p1 i1 s1 b1 b2)
            | (go_at_call 25; refine (HDE.out _ p2 i2).mono ?_; rintro e w3 ⟨rfl, b4⟩; have p3 := (p2.below b4).alloc (.cells #[.int .i64 P, .int .i64 Q] 26); have i3 := (i2.below b4).alloc (.cells #[.int .i64 P, .int .i64 Q] 26); have s3 := (s2.below b4).alloc (.cells #[.int .i64 P, .int .i64 Q] 26); have r3 : Row (w3.alloc (.cells #[.int .i64 P, .int .i64 Q] 26)) w3.heap.size 26 [.int .i64 P, .int .i64 Q] := row_new rfl; have b5 := (b3.trans (b4.mono b3.size)).alloc (by have := b3.size; have := b4.size; omega) (.cells #[.int .i64 P, .int .i64 Q] 26); clear p2 i2 s2 b3 b4)
            | (go_at_call 16; refine (Graph_yes (by omega) p3 HR.out).mono ?_; rintro e w4 ⟨rfl, b6⟩; have r4 := r3.below b6; have p4 := p3.below b6; have i4 := i3.below b6; have s4 := s3.below b6; have b7 := b5.trans (b6.mono b5.size); clear p3 i3 s3 b5 b6 r3)
            | (go_at_call 26; refine (Set_yes (by omega) i4 HSET.out).mono ?_; rintro e w5 ⟨rfl, n5, rfl⟩; have r5 := r4.drewN n5; have p5 := p4.below (below_drewN n5); have i5 := i4.drewN n5; have s5 := s4.below (below_drewN n5); have b9 := b7.trans (below_drewN n5); clear p4 i4 s4 b7 r4)
            | (go_at_call 20; refine (HRD.out _ p5 i5).mono ?_; rintro e w6 ⟨rfl, b10⟩; have hz6 := r5.lt; have hb10s := b10.size; have r6 := (r5.below b10).alloc (.cells #[.int .i64 P, .int .i64 Q] 26); have q6 : Row (w6.alloc (.cells #[.int .i64 P, .int .i64 Q] 26)) w6.heap.size 26 [.int .i64 P, .int .i64 Q] := row_new rfl; obtain ⟨⟨x0, x1⟩, -⟩ := r6.cells2; obtain ⟨⟨y0, y1⟩, -⟩ := q6.cells2; have p6 := (p5.below b10).alloc (.cells #[.int .i64 P, .int .i64 Q] 26); have s6 := (s5.below b10).alloc (.cells #[.int .i64 P, .int .i64 Q] 26); have b11 := (b9.trans (b10.mono b9.size)).alloc (by have := b9.size; omega) (.cells #[.int .i64 P, .int .i64 Q] 26); clear p5 i5 s5 b9 b10 r5)
            | (go_at_call 22; refine (HRP.out _ p6 s6).mono ?_; rintro e w7 ⟨rfl, b12⟩; simp only [HPV.out]; have b13 := b11.trans (b12.mono b11.size); clear b11 b12)
            | (go_at_call 18; refine (awake_any _).mono ?_; rintro e w8 ⟨rfl, b14⟩))
          go_ret
          exact ⟨rfl, b13.trans (b14.mono b13.size)⟩
      · have hv0 := setV_no hset
        have HSET := Lib.hid hset
        have HV := Lib.hid hv0
        clear hset hv0
        go_wp2_with (first
          | (go_at_call 17; refine (Check_bad m A1 A2 A3 c1 c2 c3 own ts gs ys _ (by omega) (by omega) p1 i1 HR.out HV.out).mono ?_; rintro e w2 ⟨rfl, b2⟩; have p2 := p1.below b2; have i2 := i1.below b2; have b3 := b1.trans (b2.mono b1.size); clear p1 i1 b1 b2)
          | (go_at_call 25; refine (Density_bad m A1 A2 c1 c2 own gs ys _ (by omega) (by omega) p2 i2 HR.out HV.out).mono ?_; rintro e w3 ⟨rfl, b4⟩; have p3 := (p2.below b4).alloc (.cells #[.int .i64 0, .int .i64 0] 26); have i3 := (i2.below b4).alloc (.cells #[.int .i64 0, .int .i64 0] 26); have r3 : Row (w3.alloc (.cells #[.int .i64 0, .int .i64 0] 26)) w3.heap.size 26 [.int .i64 0, .int .i64 0] := row_new rfl; have b5 := (b3.trans (b4.mono b3.size)).alloc (by have := b3.size; have := b4.size; omega) (.cells #[.int .i64 0, .int .i64 0] 26); clear p2 i2 b3 b4)
          | (go_at_call 16; refine (Graph_yes (by omega) p3 HR.out).mono ?_; rintro e w4 ⟨rfl, b6⟩; have r4 := r3.below b6; have i4 := i3.below b6; have b7 := b5.trans (b6.mono b5.size); clear p3 i3 b5 b6 r3)
          | (go_at_call 26; refine (Set_no (by omega) i4 HSET.out).mono ?_; rintro e w5 ⟨rfl, n5, rfl⟩; have r5 := r4.drewN n5; obtain ⟨⟨x0, x1⟩, -⟩ := r4.cells2; have b9 := b7.trans (below_drewN n5); clear i4 b7)
          | (go_at_call 18; refine (awake_any _).mono ?_; rintro e w6 ⟨rfl, b8⟩))
        go_ret
        exact ⟨rfl, b9.trans (b8.mono b9.size)⟩
end Go.Proofs.Ytpaeagkgmbhndaa
