/- Parts of a list are turned back: the first number to the end. -/
import Derived.Test.YtheblebfeinjjaaNP
namespace Go.Proofs.Ytheblebfeinjjaa
open Go.RowKit
set_option maxHeartbeats 1000000
set_option maxRecDepth 100000
theorem rotl_snoc (part : List Int) (x : Int) : ∃ h t, part ++ [x] = h :: t ∧ rotl (part ++ [x]) = t ++ [h] ∧ t.length = part.length := by
  match part with
  | [] => exact ⟨x, [], rfl, rfl, rfl⟩
  | p :: ps => exact ⟨p, ps ++ [x], rfl, rfl, by simp⟩
/-- While the list is seen: what is turned back, the part that has begun, what is left. -/
structure LtF (a : Int) (gB : Bool) (X Y C done part : List Int) (b k : Nat) : Prop where
  hb : done.length = b
  hk : done.length + part.length = k
  hC : C = done ++ (part ++ (X.drop k ++ Y))
  hr : done ++ btlGo a gB part (X.drop k) = btl a X
theorem LtF.start (a : Int) (X Y : List Int) : LtF a (decide (a < geti X 0)) X Y (X ++ Y) [] [] 0 0 := ⟨rfl, rfl, rfl, rfl⟩
theorem LtF.at {a : Int} {gB : Bool} {X Y C done part : List Int} {b k : Nat} (h : LtF a gB X Y C done part b k) {j : Nat} (hj : k ≤ j) (hk : j < X.length) : geti C j = geti X j := by
  obtain ⟨rfl, rfl, rfl, -⟩ := h
  rw [← List.append_assoc, geti_app, if_neg (by rw [List.length_append]; omega), List.length_append, geti_app, if_pos (by rw [List.length_drop]; omega)]
  unfold geti
  rw [List.getD_eq_getElem?_getD, List.getD_eq_getElem?_getD, List.getElem?_drop, show done.length + part.length + (j - (done.length + part.length)) = j by omega]
theorem LtF.no {a : Int} {gB : Bool} {X Y C done part : List Int} {b k : Nat} (h : LtF a gB X Y C done part b k) (hk : k + 1 < X.length) (hd : decide (a < geti X (k + 1)) ≠ gB) : LtF a gB X Y C done (part ++ [geti X k]) b (k + 1) := by
  obtain ⟨h1, h2, h3, h4⟩ := h
  refine ⟨h1, by rw [List.length_append, List.length_singleton]; omega, ?_, ?_⟩
  · rw [h3, drop_cons (by omega)]; simp
  · rw [← h4, drop_cons (show k < X.length by omega)]
    conv => rhs; unfold btlGo
    rw [if_neg]
    rw [drop_cons hk]
    rintro (e | e)
    · cases e
    · exact hd e
/-- The list behind a part that is turned back. -/
def afF (X Y done part : List Int) (k : Nat) : List Int := (done ++ rotl (part ++ [geti X k])) ++ (X.drop (k + 1) ++ Y)
theorem LtF.yes {a : Int} {gB : Bool} {X Y C done part : List Int} {b k : Nat} (h : LtF a gB X Y C done part b k) (hk : k < X.length) (hd : k + 1 = X.length ∨ decide (a < geti X (k + 1)) = gB) :
    LtF a gB X Y (afF X Y done part k) (done ++ rotl (part ++ [geti X k])) [] (k + 1) (k + 1) := by
  obtain ⟨h1, h2, h3, h4⟩ := h
  have hl : (rotl (part ++ [geti X k])).length = part.length + 1 := by rw [(rotl_perm _).length_eq]; simp
  refine ⟨by rw [List.length_append, hl]; omega, by rw [List.length_append, hl]; simp; omega, by simp [afF], ?_⟩
  rw [← h4, drop_cons hk]
  conv => rhs; unfold btlGo
  rw [if_pos]
  · simp
  · rcases hd with hd | hd
    · left; rw [hd, List.drop_length]
    · by_cases e : k + 1 < X.length
      · right; rw [drop_cons e]; exact hd
      · left; rw [List.drop_eq_nil_of_le (by omega)]
theorem LtF.all {a : Int} {gB : Bool} {X Y C done part : List Int} {b k : Nat} (h : LtF a gB X Y C done part b k) (hk : k = X.length) (hbk : b = k) : C = btl a X ++ Y := by
  obtain ⟨h1, h2, h3, h4⟩ := h
  subst hk
  have hp : part = [] := List.eq_nil_of_length_eq_zero (by omega)
  subst hp
  rw [List.drop_length] at h3 h4
  rw [← h4, h3]
  simp [btlGo]
/-- What a turn of a part does in memory: the head, the rest of the part. -/
theorem LtF.move {a : Int} {gB : Bool} {X Y C done part : List Int} {b k : Nat} (h : LtF a gB X Y C done part b k) (hk : k < X.length) (hC : C.length = 12) :
    ∃ q t, t.length = k - b ∧ geti C b = q ∧ (∀ j, j < t.length → geti C (b + 1 + j) = geti t j) ∧ (C.take b ++ (t ++ C.drop (b + t.length))).set k q = afF X Y done part k ∧ (C.take b ++ (t ++ C.drop (b + t.length))).length = 12 := by
  obtain ⟨h1, h2, h3, -⟩ := h
  obtain ⟨q, t, e1, e2, e3⟩ := rotl_snoc part (geti X k)
  have hC2 : C = done ++ (q :: t ++ (X.drop (k + 1) ++ Y)) := by rw [h3, drop_cons hk, ← e1]; simp
  have hlen : t.length = k - b := by omega
  refine ⟨q, t, hlen, ?_, ?_, ?_, ?_⟩
  · rw [hC2, geti_app, if_neg (by omega), h1, Nat.sub_self]; rfl
  · intro j hj
    rw [hC2, geti_app, if_neg (by omega), show b + 1 + j - done.length = j + 1 by omega, List.cons_append]
    show geti (t ++ _) j = _
    rw [geti_app, if_pos hj]
  · unfold afF
    rw [e2, hC2, ← h1]
    have d1 : (done ++ (q :: t ++ (X.drop (k + 1) ++ Y))).take done.length = done := by simp
    have d2 : (done ++ (q :: t ++ (X.drop (k + 1) ++ Y))).drop (done.length + t.length) = (q :: t ++ (X.drop (k + 1) ++ Y)).drop t.length := by
      rw [List.drop_append, List.drop_eq_nil_of_le (by omega), List.nil_append]
      congr 1; omega
    rw [d1, d2, List.set_append_right _ _ (by omega), List.set_append_right _ _ (by omega), show k - done.length - t.length = 0 by omega]
    have d3 : (q :: t ++ (X.drop (k + 1) ++ Y)).drop t.length = (q :: t).drop t.length ++ (X.drop (k + 1) ++ Y) := by
      rw [List.drop_append, show t.length - (q :: t).length = 0 by simp, List.drop_zero]
    have d4 : ((q :: t).drop t.length).length = 1 := by simp
    obtain ⟨z, hz⟩ := List.length_eq_one_iff.1 d4
    rw [d3, hz, List.singleton_append, List.set_cons_zero]
    simp
  · have hb2 : done.length + (part.length + (X.length - k + Y.length)) = 12 := by
      rw [← hC, h3]; simp only [List.length_append, List.length_drop]
    simp only [List.length_append, List.length_take, List.length_drop]
    omega
theorem backTo_any (g : Nat) (a : Int) (X Y : List Int) (w : World) (hp : 0 < X.length) (hl : (X ++ Y).length = 12) (hx : X.length < 12) (hr : Row w g 50 (iv (X ++ Y))) :
    Calls Try.prog 76 #[.slice (some ⟨g, 0, none⟩) X.length 12, .int .i64 a] w fun e w' => e = .returned (.tuple #[]) ∧ Row w' g 50 (iv (btl a X ++ Y)) ∧ w.grownBy w' (some g) := by
  have hfirst : geti (X ++ Y) 0 = geti X 0 := by rw [geti_app, if_pos (by omega)]
  have h0 := ivR hr (i := 0) (by omega)
  rw [hfirst] at h0
  have HL0 := Lib.hid (LtF.start a X Y)
  obtain ⟨q, hq⟩ : ∃ q, geti X 0 = q := ⟨_, rfl⟩
  rw [hq] at h0 HL0
  clear hq hfirst
  have g0 := grown_refl w (some g)
  have HLEN := Lib.hid hl
  have hX11 : X.length ≤ 11 := by omega
  clear hl hx
  obtain ⟨gB, hgB⟩ : ∃ gB, decide (a < q) = gB := ⟨_, rfl⟩
  rw [hgB] at HL0
  go_enter Try.func76, Try.ntmps76
  go_wp2
  go_loopw [5, 15] (fun bv i wr => ∃ (b k : Nat) (C done part : List Int), k ≤ X.length ∧ b ≤ k ∧ (k = X.length → b = k) ∧ i = .int .i64 k ∧ bv = .int .i64 b ∧ Hid (LtF a gB X Y C done part b k) ∧ Hid (C.length = 12) ∧ Row wr g 50 (iv C) ∧ w.grownBy wr (some g)) (fun _ i _ => X.length - (intOf i).toNat)
  case atStart => exact ⟨0, 0, _, _, _, by omega, by omega, fun e => rfl, rfl, rfl, HL0, HLEN, hr, g0⟩
  case round =>
    clear hr g0 HL0 h0 hgB
    obtain ⟨b, k, C, done, part, hk, hbk, hbe, rfl, rfl, HL, HC, hr, g0⟩ := hrel
    by_cases hlt : k < X.length
    · obtain ⟨q2, t, ht, hq2, htj, hmv, hmvl⟩ := HL.out.move hlt HC.out
      have c1 := ivR hr (i := b) (by have := HC.out; omega)
      rw [hq2] at c1
      have HTL := Lib.hid ht
      have HTJ := Lib.hid htj
      have HMV := Lib.hid hmv
      have HML := Lib.hid hmvl
      have HY := Lib.hid (fun hd => HL.out.yes hlt hd)
      have HN := Lib.hid (fun h1 hd => HL.out.no h1 hd)
      have HNL : Hid ((afF X Y done part k).length = 12) := Lib.hid (by rw [← HMV.out, List.length_set]; exact HML.out)
      clear ht hq2 htj hmv hmvl hbe
      have HSRC : Hid (∀ W, Row W g 50 (iv C) → ∀ j v, (iv t)[j]? = some v → W.cell? ((⟨g, b + 1, none⟩ : Addr).add j) = some v) := Lib.hid (fun W hW j v hj => by
        have hjl : j < t.length := by
          have := (List.getElem?_eq_some_iff.1 hj).1
          rwa [iv_len] at this
        rw [WideShapes.add_plain, ivR hW (by rw [HC.out]; have := HTL.out; omega), HTJ.out j hjl, ← hj, iv_get hjl])
      have HLN : Hid ((iv t).length = Nat.min (k - b) (k - b)) := Lib.hid (by rw [iv_len, show Nat.min (k - b) (k - b) = k - b from Nat.min_self _]; exact HTL.out)
      have HFIT : Hid (b + (iv t).length ≤ (iv C).toArray.size) := Lib.hid (by rw [List.size_toArray, iv_len, iv_len, HC.out, HTL.out]; omega)
      have HMI : Hid ((iv C).take b ++ (iv t ++ (iv C).drop (b + t.length)) = iv (C.take b ++ (t ++ C.drop (b + t.length)))) := Lib.hid (by rw [iv_take, iv_drop, ← iv_app, ← iv_app])
      have HNIL : Hid (b = k → C.take b ++ (t ++ C.drop (b + t.length)) = C) := Lib.hid (fun e => by
        have ht0 : t = [] := List.eq_nil_of_length_eq_zero (by rw [HTL.out]; omega)
        rw [ht0]; simp)
      generalize C.take b ++ (t ++ C.drop (b + t.length)) = M at *
      generalize afF X Y done part k = N at *
      by_cases hend : k + 1 = X.length
      · have g1 : ((k : Int) + 1 == (X.length : Int)) = true := by simp; omega
        have HY2 := Lib.hid (HY.out (.inl hend))
        clear HY HN hend
        by_cases hbk2 : b < k
        · go_wp2
          refine wp_region_quiet_tail 10 (by kernel_rfl) (by kernel_rfl) ?_
          simp only [List.take_succ_cons, List.take_zero, List.drop_succ_cons, List.drop_zero]
          repeat go_big_quiet_step ((fail))
          refine wpQuiet_nil ?_
          rintro _ ⟨nq, rfl⟩
          refine wpList_copy_own rfl (.tmp 41) (.tmp 47) 22 22 rfl 3 Try.underlying22 size3 g b (k - b) (12 - b) ⟨g, b + 1, none⟩ (k - b) (11 - b) rfl rfl (iv C).toArray 50 (row_heap (hr.drewN nq)) (iv t) HLN.out (HSRC.out _ (hr.drewN nq)) HFIT.out (iv_one t) ?_
          rw [show (iv C).toArray.toList = iv C from rfl, iv_len, HMI.out]
          have r2 := (hr.drewN nq).row (iv M)
          have g2' := grown_trans (grown_trans g0 (grown_drewN wr nq _)) (grown_row (wr.drewN nq) g (iv M).toArray)
          generalize World.setRow (wr.drewN nq) _ _ = W at *
          have f2 := r2.free k
          have hu := ivR r2 (i := k) (by rw [HML.out]; omega)
          go_wp2
          go_roundw
          case rel => exact ⟨k + 1, k + 1, N, _, [], by omega, by omega, by intro _; rfl, by go_num, by go_num, HY2, HNL, by rw [← HMV.out, ← iv_set]; exact r2.set k (.int .i64 q2), grown_trans g2' (grown_set W g k _)⟩
          case measure => simp [intOf]; omega
        · obtain rfl : b = k := by omega
          have HM2 := HNIL.out rfl
          go_wp2
          refine wp_region_quiet_tail 10 (by kernel_rfl) (by kernel_rfl) ?_
          simp only [List.take_succ_cons, List.take_zero, List.drop_succ_cons, List.drop_zero]
          repeat go_big_quiet_step ((fail))
          refine wpQuiet_nil ?_
          rintro _ ⟨nq, rfl⟩
          refine wpList_copy_nothing rfl (.tmp 41) (.tmp 47) 22 22 rfl 3 Try.underlying22 size3 (some ⟨g, b, none⟩) (some ⟨g, b + 1, none⟩) 0 (12 - b) 0 (11 - b) rfl rfl rfl ?_
          have r2 := hr.drewN nq
          have g2' := grown_trans g0 (grown_drewN wr nq _)
          have f2 := r2.free b
          have hu := ivR r2 (i := b) (by rw [HC.out]; omega)
          rw [HM2] at HMV
          go_wp2
          go_roundw
          case rel => exact ⟨b + 1, b + 1, N, _, [], by omega, by omega, by intro _; rfl, by go_num, by go_num, HY2, HNL, by rw [← HMV.out, ← iv_set]; exact r2.set b (.int .i64 q2), grown_trans g2' (grown_set _ g b _)⟩
          case measure => simp [intOf]; omega
      · have g1 : ((k : Int) + 1 == (X.length : Int)) = false := by simp; omega
        have c2 := ivR hr (i := k + 1) (by have := HC.out; omega)
        rw [HL.out.at (by omega) (by omega)] at c2
        obtain ⟨x, hx⟩ : ∃ x, geti X (k + 1) = x := ⟨_, rfl⟩
        rw [hx] at c2 HN HY
        by_cases hd : decide (a < x) = gB
        · have g2 : ((decide (a < x)) == gB) = true := by rw [hd]; simp
          have HY2 := Lib.hid (HY.out (.inr hd))
          clear HY HN hd
          by_cases hbk2 : b < k
          · go_wp2
            refine wp_region_quiet_tail 10 (by kernel_rfl) (by kernel_rfl) ?_
            simp only [List.take_succ_cons, List.take_zero, List.drop_succ_cons, List.drop_zero]
            repeat go_big_quiet_step ((fail))
            refine wpQuiet_nil ?_
            rintro _ ⟨nq, rfl⟩
            refine wpList_copy_own rfl (.tmp 41) (.tmp 47) 22 22 rfl 3 Try.underlying22 size3 g b (k - b) (12 - b) ⟨g, b + 1, none⟩ (k - b) (11 - b) rfl rfl (iv C).toArray 50 (row_heap (hr.drewN nq)) (iv t) HLN.out (HSRC.out _ (hr.drewN nq)) HFIT.out (iv_one t) ?_
            rw [show (iv C).toArray.toList = iv C from rfl, iv_len, HMI.out]
            have r2 := (hr.drewN nq).row (iv M)
            have g2' := grown_trans (grown_trans g0 (grown_drewN wr nq _)) (grown_row (wr.drewN nq) g (iv M).toArray)
            generalize World.setRow (wr.drewN nq) _ _ = W at *
            have f2 := r2.free k
            have hu := ivR r2 (i := k) (by rw [HML.out]; omega)
            go_wp2
            go_roundw
            case rel => exact ⟨k + 1, k + 1, N, _, [], by omega, by omega, by intro _; rfl, by go_num, by go_num, HY2, HNL, by rw [← HMV.out, ← iv_set]; exact r2.set k (.int .i64 q2), grown_trans g2' (grown_set W g k _)⟩
            case measure => simp [intOf]; omega
          · obtain rfl : b = k := by omega
            have HM2 := HNIL.out rfl
            go_wp2
            refine wp_region_quiet_tail 10 (by kernel_rfl) (by kernel_rfl) ?_
            simp only [List.take_succ_cons, List.take_zero, List.drop_succ_cons, List.drop_zero]
            repeat go_big_quiet_step ((fail))
            refine wpQuiet_nil ?_
            rintro _ ⟨nq, rfl⟩
            refine wpList_copy_nothing rfl (.tmp 41) (.tmp 47) 22 22 rfl 3 Try.underlying22 size3 (some ⟨g, b, none⟩) (some ⟨g, b + 1, none⟩) 0 (12 - b) 0 (11 - b) rfl rfl rfl ?_
            have r2 := hr.drewN nq
            have g2' := grown_trans g0 (grown_drewN wr nq _)
            have f2 := r2.free b
            have hu := ivR r2 (i := b) (by rw [HC.out]; omega)
            rw [HM2] at HMV
            go_wp2
            go_roundw
            case rel => exact ⟨b + 1, b + 1, N, _, [], by omega, by omega, by intro _; rfl, by go_num, by go_num, HY2, HNL, by rw [← HMV.out, ← iv_set]; exact r2.set b (.int .i64 q2), grown_trans g2' (grown_set _ g b _)⟩
            case measure => simp [intOf]; omega
        · have g2 : ((decide (a < x)) == gB) = false := by simpa using hd
          have HN2 := Lib.hid (HN.out (by omega) hd)
          clear HY HN hd
          go_wp2
          go_roundw
          case rel => exact ⟨b, k + 1, C, done, _, by omega, by omega, fun e => absurd e hend, by go_num, rfl, HN2, HC, hr, g0⟩
          case measure => simp [intOf]; omega
    · have HA := Lib.hid (HL.out.all (by omega) (hbe (by omega)))
      go_wp2
      exact bodyPost_end (v := .tuple #[]) (by simp [results, Try.results76]) rfl ⟨rfl, by rw [← HA.out]; exact hr, g0⟩
end Go.Proofs.Ytheblebfeinjjaa
