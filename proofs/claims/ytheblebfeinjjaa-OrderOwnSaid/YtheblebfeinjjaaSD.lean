/- Parts turned back; the first order. -/
import Derived.Test.YtheblebfeinjjaaNP
import Derived.Test.YtheblebfeinjjaaNQ
import Derived.Test.YtheblebfeinjjaaNW
/- Parts of a list are turned back: the first number to the end. -/
namespace Go.Proofs.Ytheblebfeinjjaa
open Go.RowKit
set_option maxHeartbeats 1000000
set_option maxRecDepth 100000
theorem rotl_snoc (part : List Int) (x : Int) : ∃ h t, part ++ [x] = h :: t ∧ rotl (part ++ [x]) = t ++ [h] ∧ t.length = part.length := by
  match part with
  | [] => exact ⟨x, [], rfl, rfl, rfl⟩
  | p :: ps => exact ⟨p, ps ++ [x], rfl, rfl, by simp⟩
/-- While the list is seen: what is turned back, the part that has begun, what is left. -/
structure LtF (a : Int) (gB : Bool) (X Y C done part : List Int) (b k : Nat) : Prop where
  hb : done.length = b
  hk : done.length + part.length = k
  hC : C = done ++ (part ++ (X.drop k ++ Y))
  hr : done ++ btlGo a gB part (X.drop k) = btl a X
theorem LtF.start (a : Int) (X Y : List Int) : LtF a (decide (a < geti X 0)) X Y (X ++ Y) [] [] 0 0 := ⟨rfl, rfl, rfl, rfl⟩
theorem LtF.at {a : Int} {gB : Bool} {X Y C done part : List Int} {b k : Nat} (h : LtF a gB X Y C done part b k) {j : Nat} (hj : k ≤ j) (hk : j < X.length) : geti C j = geti X j := by
  obtain ⟨rfl, rfl, rfl, -⟩ := h
  rw [← List.append_assoc, geti_app, if_neg (by rw [List.length_append]; omega), List.length_append, geti_app, if_pos (by rw [List.length_drop]; omega)]
  unfold geti
  rw [List.getD_eq_getElem?_getD, List.getD_eq_getElem?_getD, List.getElem?_drop, show done.length + part.length + (j - (done.length + part.length)) = j by omega]
theorem LtF.no {a : Int} {gB : Bool} {X Y C done part : List Int} {b k : Nat} (h : LtF a gB X Y C done part b k) (hk : k + 1 < X.length) (hd : decide (a < geti X (k + 1)) ≠ gB) : LtF a gB X Y C done (part ++ [geti X k]) b (k + 1) := by
  obtain ⟨h1, h2, h3, h4⟩ := h
  refine ⟨h1, by rw [List.length_append, List.length_singleton]; omega, ?_, ?_⟩
  · rw [h3, drop_cons (by omega)]; simp
  · rw [← h4, drop_cons (show k < X.length by omega)]
    conv => rhs; unfold btlGo
    rw [if_neg]
    rw [drop_cons hk]
    rintro (e | e)
    · cases e
    · exact hd e
/-- The list behind a part that is turned back. -/
def afF (X Y done part : List Int) (k : Nat) : List Int := (done ++ rotl (part ++ [geti X k])) ++ (X.drop (k + 1) ++ Y)
theorem LtF.yes {a : Int} {gB : Bool} {X Y C done part : List Int} {b k : Nat} (h : LtF a gB X Y C done part b k) (hk : k < X.length) (hd : k + 1 = X.length ∨ decide (a < geti X (k + 1)) = gB) :
    LtF a gB X Y (afF X Y done part k) (done ++ rotl (part ++ [geti X k])) [] (k + 1) (k + 1) := by
  obtain ⟨h1, h2, h3, h4⟩ := h
  have hl : (rotl (part ++ [geti X k])).length = part.length + 1 := by rw [(rotl_perm _).length_eq]; simp
  refine ⟨by rw [List.length_append, hl]; omega, by rw [List.length_append, hl]; simp; omega, by simp [afF], ?_⟩
  rw [← h4, drop_cons hk]
  conv => rhs; unfold btlGo
  rw [if_pos]
  · simp
  · rcases hd with hd | hd
    · left; rw [hd, List.drop_length]
    · by_cases e : k + 1 < X.length
      · right; rw [drop_cons e]; exact hd
      · left; rw [List.drop_eq_nil_of_le (by omega)]
theorem LtF.all {a : Int} {gB : Bool} {X Y C done part : List Int} {b k : Nat} (h : LtF a gB X Y C done part b k) (hk : k = X.length) (hbk : b = k) : C = btl a X ++ Y := by
  obtain ⟨h1, h2, h3, h4⟩ := h
  subst hk
  have hp : part = [] := List.eq_nil_of_length_eq_zero (by omega)
  subst hp
  rw [List.drop_length] at h3 h4
  rw [← h4, h3]
  simp [btlGo]
/-- What a turn of a part does in memory: the head, the rest of the part. -/
theorem LtF.move {a : Int} {gB : Bool} {X Y C done part : List Int} {b k : Nat} (h : LtF a gB X Y C done part b k) (hk : k < X.length) (hC : C.length = 12) :
    ∃ q t, t.length = k - b ∧ geti C b = q ∧ (∀ j, j < t.length → geti C (b + 1 + j) = geti t j) ∧ (C.take b ++ (t ++ C.drop (b + t.length))).set k q = afF X Y done part k ∧ (C.take b ++ (t ++ C.drop (b + t.length))).length = 12 := by
  obtain ⟨h1, h2, h3, -⟩ := h
  obtain ⟨q, t, e1, e2, e3⟩ := rotl_snoc part (geti X k)
  have hC2 : C = done ++ (q :: t ++ (X.drop (k + 1) ++ Y)) := by rw [h3, drop_cons hk, ← e1]; simp
  have hlen : t.length = k - b := by omega
  refine ⟨q, t, hlen, ?_, ?_, ?_, ?_⟩
  · rw [hC2, geti_app, if_neg (by omega), h1, Nat.sub_self]; rfl
  · intro j hj
    rw [hC2, geti_app, if_neg (by omega), show b + 1 + j - done.length = j + 1 by omega, List.cons_append]
    show geti (t ++ _) j = _
    rw [geti_app, if_pos hj]
  · unfold afF
    rw [e2, hC2, ← h1]
    have d1 : (done ++ (q :: t ++ (X.drop (k + 1) ++ Y))).take done.length = done := by simp
    have d2 : (done ++ (q :: t ++ (X.drop (k + 1) ++ Y))).drop (done.length + t.length) = (q :: t ++ (X.drop (k + 1) ++ Y)).drop t.length := by
      rw [List.drop_append, List.drop_eq_nil_of_le (by omega), List.nil_append]
      congr 1; omega
    rw [d1, d2, List.set_append_right _ _ (by omega), List.set_append_right _ _ (by omega), show k - done.length - t.length = 0 by omega]
    have d3 : (q :: t ++ (X.drop (k + 1) ++ Y)).drop t.length = (q :: t).drop t.length ++ (X.drop (k + 1) ++ Y) := by
      rw [List.drop_append, show t.length - (q :: t).length = 0 by simp, List.drop_zero]
    have d4 : ((q :: t).drop t.length).length = 1 := by simp
    obtain ⟨z, hz⟩ := List.length_eq_one_iff.1 d4
    rw [d3, hz, List.singleton_append, List.set_cons_zero]
    simp
  · have hb2 : done.length + (part.length + (X.length - k + Y.length)) = 12 := by
      rw [← hC, h3]; simp only [List.length_append, List.length_drop]
    simp only [List.length_append, List.length_take, List.length_drop]
    omega
theorem backTo_any (g : Nat) (a : Int) (X Y : List Int) (w : World) (hp : 0 < X.length) (hl : (X ++ Y).length = 12) (hx : X.length < 12) (hr : Row w g 50 (iv (X ++ Y))) :
    Calls Try.prog 76 #[.slice (some ⟨g, 0, none⟩) X.length 12, .int .i64 a] w fun e w' => e = .returned (.tuple #[]) ∧ Row w' g 50 (iv (btl a X ++ Y)) ∧ w.grownBy w' (some g) := by
  have hfirst : geti (X ++ Y) 0 = geti X 0 := by rw [geti_app, if_pos (by omega)]
  have h0 := ivR hr (i := 0) (by omega)
  rw [hfirst] at h0
  have HL0 := Lib.hid (LtF.start a X Y)
  obtain ⟨q, hq⟩ : ∃ q, geti X 0 = q := ⟨_, rfl⟩
  rw [hq] at h0 HL0
  clear hq hfirst
  have g0 := grown_refl w (some g)
  have HLEN := Lib.hid hl
  have hX11 : X.length ≤ 11 := by omega
  clear hl hx
  obtain ⟨gB, hgB⟩ : ∃ gB, decide (a < q) = gB := ⟨_, rfl⟩
  rw [hgB] at HL0
  go_enter Try.func76, Try.ntmps76
  go_wp2
  go_loopw [5, 15] (fun bv i wr => ∃ (b k : Nat) (C done part : List Int), k ≤ X.length ∧ b ≤ k ∧ (k = X.length → b = k) ∧ i = .int .i64 k ∧ bv = .int .i64 b ∧ Hid (LtF a gB X Y C done part b k) ∧ Hid (C.length = 12) ∧ Row wr g 50 (iv C) ∧ w.grownBy wr (some g)) (fun _ i _ => X.length - (intOf i).toNat)
  case atStart => exact ⟨0, 0, _, _, _, by omega, by omega, fun e => rfl, rfl, rfl, HL0, HLEN, hr, g0⟩
  case round =>
    clear hr g0 HL0 h0 hgB
    obtain ⟨b, k, C, done, part, hk, hbk, hbe, rfl, rfl, HL, HC, hr, g0⟩ := hrel
    by_cases hlt : k < X.length
    · obtain ⟨q2, t, ht, hq2, htj, hmv, hmvl⟩ := HL.out.move hlt HC.out
      have c1 := ivR hr (i := b) (by have := HC.out; omega)
      rw [hq2] at c1
      have HTL := Lib.hid ht
      have HTJ := Lib.hid htj
      have HMV := Lib.hid hmv
      have HML := Lib.hid hmvl
      have HY := Lib.hid (fun hd => HL.out.yes hlt hd)
      have HN := Lib.hid (fun h1 hd => HL.out.no h1 hd)
      have HNL : Hid ((afF X Y done part k).length = 12) := Lib.hid (by rw [← HMV.out, List.length_set]; exact HML.out)
      clear ht hq2 htj hmv hmvl hbe
      have HSRC : Hid (∀ W, Row W g 50 (iv C) → ∀ j v, (iv t)[j]? = some v → W.cell? ((⟨g, b + 1, none⟩ : Addr).add j) = some v) := Lib.hid (fun W hW j v hj => by
        have hjl : j < t.length := by
          have := (List.getElem?_eq_some_iff.1 hj).1
          rwa [iv_len] at this
        rw [WideShapes.add_plain, ivR hW (by rw [HC.out]; have := HTL.out; omega), HTJ.out j hjl, ← hj, iv_get hjl])
      have HLN : Hid ((iv t).length = Nat.min (k - b) (k - b)) := Lib.hid (by rw [iv_len, show Nat.min (k - b) (k - b) = k - b from Nat.min_self _]; exact HTL.out)
      have HFIT : Hid (b + (iv t).length ≤ (iv C).toArray.size) := Lib.hid (by rw [List.size_toArray, iv_len, iv_len, HC.out, HTL.out]; omega)
      have HMI : Hid ((iv C).take b ++ (iv t ++ (iv C).drop (b + t.length)) = iv (C.take b ++ (t ++ C.drop (b + t.length)))) := Lib.hid (by rw [iv_take, iv_drop, ← iv_app, ← iv_app])
      have HNIL : Hid (b = k → C.take b ++ (t ++ C.drop (b + t.length)) = C) := Lib.hid (fun e => by
        have ht0 : t = [] := List.eq_nil_of_length_eq_zero (by rw [HTL.out]; omega)
        rw [ht0]; simp)
      generalize C.take b ++ (t ++ C.drop (b + t.length)) = M at *
      generalize afF X Y done part k = N at *
      by_cases hend : k + 1 = X.length
      · have g1 : ((k : Int) + 1 == (X.length : Int)) = true := by simp; omega
        have HY2 := Lib.hid (HY.out (.inl hend))
        clear HY HN hend
        by_cases hbk2 : b < k
        · go_wp2
          refine wp_region_quiet_tail 10 (by kernel_rfl) (by kernel_rfl) ?_
          simp only [List.take_succ_cons, List.take_zero, List.drop_succ_cons, List.drop_zero]
          repeat go_big_quiet_step ((fail))
          refine wpQuiet_nil ?_
          rintro _ ⟨nq, rfl⟩
          refine wpList_copy_own rfl (.tmp 41) (.tmp 47) 22 22 rfl 3 Try.underlying22 size3 g b (k - b) (12 - b) ⟨g, b + 1, none⟩ (k - b) (11 - b) rfl rfl (iv C).toArray 50 (row_heap (hr.drewN nq)) (iv t) HLN.out (HSRC.out _ (hr.drewN nq)) HFIT.out (iv_one t) ?_
          rw [show (iv C).toArray.toList = iv C from rfl, iv_len, HMI.out]
          have r2 := (hr.drewN nq).row (iv M)
          have g2' := grown_trans (grown_trans g0 (grown_drewN wr nq _)) (grown_row (wr.drewN nq) g (iv M).toArray)
          generalize World.setRow (wr.drewN nq) _ _ = W at *
          have f2 := r2.free k
          have hu := ivR r2 (i := k) (by rw [HML.out]; omega)
          go_wp2
          go_roundw
          case rel => exact ⟨k + 1, k + 1, N, _, [], by omega, by omega, by intro _; rfl, by go_num, by go_num, HY2, HNL, by rw [← HMV.out, ← iv_set]; exact r2.set k (.int .i64 q2), grown_trans g2' (grown_set W g k _)⟩
          case measure => simp [intOf]; omega
        · obtain rfl : b = k := by omega
          have HM2 := HNIL.out rfl
          go_wp2
          refine wp_region_quiet_tail 10 (by kernel_rfl) (by kernel_rfl) ?_
          simp only [List.take_succ_cons, List.take_zero, List.drop_succ_cons, List.drop_zero]
          repeat go_big_quiet_step ((fail))
          refine wpQuiet_nil ?_
          rintro _ ⟨nq, rfl⟩
          refine wpList_copy_nothing rfl (.tmp 41) (.tmp 47) 22 22 rfl 3 Try.underlying22 size3 (some ⟨g, b, none⟩) (some ⟨g, b + 1, none⟩) 0 (12 - b) 0 (11 - b) rfl rfl rfl ?_
          have r2 := hr.drewN nq
          have g2' := grown_trans g0 (grown_drewN wr nq _)
          have f2 := r2.free b
          have hu := ivR r2 (i := b) (by rw [HC.out]; omega)
          rw [HM2] at HMV
          go_wp2
          go_roundw
          case rel => exact ⟨b + 1, b + 1, N, _, [], by omega, by omega, by intro _; rfl, by go_num, by go_num, HY2, HNL, by rw [← HMV.out, ← iv_set]; exact r2.set b (.int .i64 q2), grown_trans g2' (grown_set _ g b _)⟩
          case measure => simp [intOf]; omega
      · have g1 : ((k : Int) + 1 == (X.length : Int)) = false := by simp; omega
        have c2 := ivR hr (i := k + 1) (by have := HC.out; omega)
        rw [HL.out.at (by omega) (by omega)] at c2
        obtain ⟨x, hx⟩ : ∃ x, geti X (k + 1) = x := ⟨_, rfl⟩
        rw [hx] at c2 HN HY
        by_cases hd : decide (a < x) = gB
        · have g2 : ((decide (a < x)) == gB) = true := by rw [hd]; simp
          have HY2 := Lib.hid (HY.out (.inr hd))
          clear HY HN hd
          by_cases hbk2 : b < k
          · go_wp2
            refine wp_region_quiet_tail 10 (by kernel_rfl) (by kernel_rfl) ?_
            simp only [List.take_succ_cons, List.take_zero, List.drop_succ_cons, List.drop_zero]
            repeat go_big_quiet_step ((fail))
            refine wpQuiet_nil ?_
            rintro _ ⟨nq, rfl⟩
            refine wpList_copy_own rfl (.tmp 41) (.tmp 47) 22 22 rfl 3 Try.underlying22 size3 g b (k - b) (12 - b) ⟨g, b + 1, none⟩ (k - b) (11 - b) rfl rfl (iv C).toArray 50 (row_heap (hr.drewN nq)) (iv t) HLN.out (HSRC.out _ (hr.drewN nq)) HFIT.out (iv_one t) ?_
            rw [show (iv C).toArray.toList = iv C from rfl, iv_len, HMI.out]
            have r2 := (hr.drewN nq).row (iv M)
            have g2' := grown_trans (grown_trans g0 (grown_drewN wr nq _)) (grown_row (wr.drewN nq) g (iv M).toArray)
            generalize World.setRow (wr.drewN nq) _ _ = W at *
            have f2 := r2.free k
            have hu := ivR r2 (i := k) (by rw [HML.out]; omega)
            go_wp2
            go_roundw
            case rel => exact ⟨k + 1, k + 1, N, _, [], by omega, by omega, by intro _; rfl, by go_num, by go_num, HY2, HNL, by rw [← HMV.out, ← iv_set]; exact r2.set k (.int .i64 q2), grown_trans g2' (grown_set W g k _)⟩
            case measure => simp [intOf]; omega
          · obtain rfl : b = k := by omega
            have HM2 := HNIL.out rfl
            go_wp2
            refine wp_region_quiet_tail 10 (by kernel_rfl) (by kernel_rfl) ?_
            simp only [List.take_succ_cons, List.take_zero, List.drop_succ_cons, List.drop_zero]
            repeat go_big_quiet_step ((fail))
            refine wpQuiet_nil ?_
            rintro _ ⟨nq, rfl⟩
            refine wpList_copy_nothing rfl (.tmp 41) (.tmp 47) 22 22 rfl 3 Try.underlying22 size3 (some ⟨g, b, none⟩) (some ⟨g, b + 1, none⟩) 0 (12 - b) 0 (11 - b) rfl rfl rfl ?_
            have r2 := hr.drewN nq
            have g2' := grown_trans g0 (grown_drewN wr nq _)
            have f2 := r2.free b
            have hu := ivR r2 (i := b) (by rw [HC.out]; omega)
            rw [HM2] at HMV
            go_wp2
            go_roundw
            case rel => exact ⟨b + 1, b + 1, N, _, [], by omega, by omega, by intro _; rfl, by go_num, by go_num, HY2, HNL, by rw [← HMV.out, ← iv_set]; exact r2.set b (.int .i64 q2), grown_trans g2' (grown_set _ g b _)⟩
            case measure => simp [intOf]; omega
        · have g2 : ((decide (a < x)) == gB) = false := by simpa using hd
          have HN2 := Lib.hid (HN.out (by omega) hd)
          clear HY HN hd
          go_wp2
          go_roundw
          case rel => exact ⟨b, k + 1, C, done, _, by omega, by omega, fun e => absurd e hend, by go_num, rfl, HN2, HC, hr, g0⟩
          case measure => simp [intOf]; omega
    · have HA := Lib.hid (HL.out.all (by omega) (hbe (by omega)))
      go_wp2
      exact bodyPost_end (v := .tuple #[]) (by simp [results, Try.results76]) rfl ⟨rfl, by rw [← HA.out]; exact hr, g0⟩
end Go.Proofs.Ytheblebfeinjjaa
/- The first order, walked. -/
namespace Go.Proofs.Ytheblebfeinjjaa
open Go.RowKit
set_option maxHeartbeats 1000000
set_option maxRecDepth 100000
theorem pad_cut {F : List Int} {m : Nat} (hm : m ≤ F.length) : pad F = F.take m ++ (pad F).drop m := by
  have h := (List.take_append_drop m (pad F)).symm
  have h2 : (pad F).take m = F.take m := by
    unfold pad
    rw [List.take_append_of_le_length hm]
  rwa [h2] at h
theorem fst_next (l : List Int) {k : Nat} (hk : k + 1 < l.length) : btl (geti (fstN l k) (l.length - 1 - k)) ((fstN l k).take (l.length - 1 - k)) ++ (pad (fstN l k)).drop (l.length - 1 - k) = pad (fstN l (k + 1)) := by
  have h1 := fstN_len l k
  have h2 := fstN_len l (k + 1)
  unfold pad
  rw [h1, h2]
  conv => rhs; unfold fstN
  rw [List.append_assoc]
  congr 1
  rw [List.drop_append_of_le_length (by omega)]
theorem first_any (l : List Int) (w : World) (h : IsO l) : Calls Try.prog 61 #[arr l] w fun e w' => e = .returned (arr (fst' l)) ∧ Below w.heap.size w w' := by
  have hle := h.le
  have hpl := pad_len hle
  have r0 : Row ((w.alloc (.cells (iv (pad l)).toArray 50)).alloc (.cells Z12.toArray 50)) w.heap.size 50 (iv (pad l)) := (row_new rfl).alloc _
  have q0 : Row ((w.alloc (.cells (iv (pad l)).toArray 50)).alloc (.cells Z12.toArray 50)) (w.heap.size + 1) 50 Z12 := row_new (by simp)
  have b0 : Below w.heap.size w ((w.alloc (.cells (iv (pad l)).toArray 50)).alloc (.cells Z12.toArray 50)) := by (repeat (first | exact Below.refl _ _ | assumption | (refine Below.setCell ?_ (by first | exact Nat.le_refl _ | omega | (simp; done) | (simp; omega)) _) | (refine Below.trans ?_ (below_drewN _)) | (refine Below.drew ?_) | (refine Below.alloc ?_ (by first | exact Nat.le_refl _ | omega | (simp; done) | (simp; omega)) _) | (refine below_row ?_ (by first | exact Nat.le_refl _ | omega | (simp; done) | (simp; omega)) _)))
  have hi := info50_iv hpl
  have HL := Lib.hid (fun w => length_any l w h)
  have hfl : (fst' l).length = l.length := fstN_len l _
  have hsp : (pad (fst' l)).length = 12 := pad_len (by omega)
  have his := info50_iv hsp
  have HPL : Hid (∀ k, (pad (fstN l k)).length = 12) := Lib.hid (fun k => pad_len (by rw [fstN_len]; exact hle))
  have HCE : Hid (∀ (k : Nat) (W : World), k + 1 < l.length → Row W w.heap.size 50 (iv (pad (fstN l k))) → W.cell? ⟨w.heap.size, l.length - 1 - k, none⟩ = some (.int .i64 (geti (fstN l k) (l.length - 1 - k)))) := Lib.hid (fun k W hk hr => by
    rw [ivR hr (by rw [HPL.out]; omega), pad_at])
  have HLT := Lib.hid (fun (k : Nat) (hk : k + 1 < l.length) (W : World) (hr : Row W w.heap.size 50 (iv (pad (fstN l k)))) => by
    have hm : l.length - 1 - k ≤ (fstN l k).length := by rw [fstN_len]; omega
    have hlen : ((fstN l k).take (l.length - 1 - k)).length = l.length - 1 - k := by rw [List.length_take]; omega
    have e := pad_cut hm
    have hr2 : Row W w.heap.size 50 (iv ((fstN l k).take (l.length - 1 - k) ++ (pad (fstN l k)).drop (l.length - 1 - k))) := by rw [← e]; exact hr
    have hcall := backTo_any w.heap.size (geti (fstN l k) (l.length - 1 - k)) _ _ W (by rw [hlen]; omega) (by rw [← e]; exact HPL.out k) (by rw [hlen]; omega) hr2
    rw [hlen, fst_next l hk] at hcall
    exact hcall)
  have HZ : Hid (fstN l 0 = l) := Lib.hid rfl
  have HE : Hid (fstN l (l.length - 1) = fst' l) := Lib.hid rfl
  unfold arr at HL ⊢
  clear h hfl
  go_enter Try.func61, Try.ntmps61
  go_wp2_with (first
    | (refine wpList_load_row rfl 50 (.tmp 1) rfl w.heap.size rfl 50 (iv (pad l)).toArray (0, 0) _ (row_heap r0) Try.underlying50 rfl hi ?_)
    | (go_at_call 72; refine (HL.out _).mono ?_; rintro e w2 ⟨rfl, b2⟩; replace r0 := r0.below b2; replace q0 := q0.below b2; replace b0 := b0.trans (b2.mono b0.size)))
  rw [← HZ.out] at r0
  go_loopw [10] (fun i wr => ∃ k : Nat, k ≤ l.length - 1 ∧ i = .int .i64 k ∧ Row wr w.heap.size 50 (iv (pad (fstN l k))) ∧ Row wr (w.heap.size + 1) 50 Z12 ∧ Below w.heap.size w wr) (fun i _ => l.length - (intOf i).toNat)
  case atStart => exact ⟨0, by omega, rfl, r0, q0, b0⟩
  case round =>
    clear r0 q0 b0
    obtain ⟨k, hk, rfl, r0, q0, b0⟩ := hrel
    by_cases hlt : k + 1 < l.length
    · have g1 : decide ((k : Int) < (l.length : Int) - 1) = true := decide_eq_true (by omega)
      have hce := HCE.out k wr hlt r0
      have HC := Lib.hid (fun n => HLT.out k hlt (wr.drewN n) (r0.drewN n))
      obtain ⟨m, hm⟩ : ∃ m, l.length - 1 - k = m := ⟨_, rfl⟩
      rw [hm] at hce HC
      have hmi : (l.length : Int) - 1 - (k : Int) = (m : Int) := by omega
      have hm12 : m < 12 := by omega
      clear hm
      have hsl : ∀ w' : World, (Instr.sliceAt 50 (.pointer (some ⟨w.heap.size, 0, none⟩)) none (some (.int .i64 (m : Int))) none).run Try.prog w' = .ok (.slice (some ⟨w.heap.size, 0, none⟩) m 12) w' := fun w' => slice50_h (b := w.heap.size) (h := m) (by omega)
      generalize geti (fstN l k) m = a at *
      go_wp2
      refine wp_region_quiet_tail 5 (by kernel_rfl) (by kernel_rfl) ?_
      simp only [List.take_succ_cons, List.take_zero, List.drop_succ_cons, List.drop_zero]
      repeat go_big_quiet_step ((fail))
      refine wpQuiet_nil ?_
      rintro _ ⟨nq, rfl⟩
      have q1 := q0.drewN nq
      have b1 := b0.trans (below_drewN nq)
      go_wp2_with (go_at_call 76; refine (HC.out nq).mono ?_; rintro e w3 ⟨rfl, r3, g3⟩; replace q1 := q1.grown g3 (by intro e; injection e with e; omega); replace b1 := b1.grown g3 b1.size (fun k e => by injection e with e; omega))
      go_roundw
      case rel => exact ⟨k + 1, by omega, by go_num, r3, q1, b1⟩
      case measure => simp [intOf]; omega
    · obtain rfl : k = l.length - 1 := by omega
      have g1 : decide (((l.length - 1 : Nat) : Int) < (l.length : Int) - 1) = false := decide_eq_false (by omega)
      rw [HE.out] at r0
      go_wp2_with (first
        | ((with_reducible refine (?_ : wpList _ _ _ (Oper.mk (some 24) _ _ _ _ _ :: _) _ _)); refine wpList_load_row rfl 50 (.tmp 1) rfl w.heap.size rfl 50 (iv (pad (fst' l))).toArray (0, 0) _ (row_heap r0) Try.underlying50 rfl his ?_)
        | ((with_reducible refine (?_ : wpList _ _ _ (Oper.mk none _ _ _ _ _ :: _) _ _)); refine wpList_store_row rfl 50 (.tmp 2) (.tmp 24) rfl (w.heap.size + 1) (iv (pad (fst' l))).toArray rfl rfl 50 Z12.toArray (row_heap q0) his (size50_Z hsp) (iv_all _) ?_))
      exact bodyPost_ret (v := .agg (iv (pad (fst' l))).toArray) (res1 Try.results61 rfl (cell50_res hsp (q0.row (iv (pad (fst' l)))))) rfl ⟨rfl, below_row b0 (by omega) _⟩
end Go.Proofs.Ytheblebfeinjjaa
/- An order is turned: First. -/
namespace Go.Proofs.Ytheblebfeinjjaa
open Go.RowKit
set_option maxHeartbeats 1000000
set_option maxRecDepth 100000
theorem turnedF_yes (A : Option Addr) (c : Nat) (l : List Int) (w : World) (h : IsO l) (ha : IntsAt w A l) :
    Calls Try.prog 51 #[.slice A l.length c, .func (.func 61) #[] #[]] w fun e w' => ∃ v, e = .returned (.tuple #[v, .int .i64 0]) ∧ w'.ownsRow w.heap.size 3 1 v (fst' l).length (iv (fst' l)) ∧ Below w.heap.size w w' := by
  have hpl := pad_len h.le
  have hi := info50_iv hpl
  have HR := Lib.hid (read_yes A c l w h ha)
  have HN := Lib.hid (fun w => first_any l w h)
  have HL := Lib.hid (fun w => list_any (fst' l) w h.fst')
  unfold arr at HR HN HL
  clear h ha
  generalize fst' l = M at *
  generalize pad l = X at *
  generalize pad M = Y at *
  go_enter Try.func51, Try.ntmps51
  go_wp2_with (first
    | (go_at_call 49; refine HR.out.mono ?_; rintro e w1 ⟨rfl, b1⟩; have r1 : Row (w1.alloc (.cells Z12.toArray 50)) w1.heap.size 50 Z12 := row_new rfl; have b0 := b1.alloc b1.size (.cells Z12.toArray 50); have hz1 := b1.size)
    | (with_reducible refine (?_ : wpList _ _ _ (Oper.mk _ (Op.store 50 (.tmp 6) _) _ _ _ _ :: _) _ _); refine wpList_store_row rfl 50 (.tmp 6) (.tmp 11) rfl w1.heap.size (iv X).toArray rfl rfl 50 Z12.toArray (row_heap r1) hi (size50_Z hpl) (iv_all _) ?_; replace r1 := r1.row (iv X); replace b0 := below_row (g := w1.heap.size) b0 hz1 (iv X).toArray; generalize World.setRow (w1.alloc _) _ _ = W at *)
    | ((with_reducible refine (?_ : wpList _ _ _ (Oper.mk (some 16) _ _ _ _ _ :: _) _ _)); refine wpList_load_row rfl 50 (.tmp 6) rfl w1.heap.size rfl 50 (iv X).toArray (0, 0) _ (row_heap r1) Try.underlying50 rfl hi ?_)
    | (go_at_call 61; refine (HN.out _).mono ?_; rintro e w5 ⟨rfl, b5⟩; replace b0 := b0.trans (b5.mono b0.size))
    | (go_at_call 59; fail))
  refine (HL.out _).mono ?_
  rintro e w6 ⟨v, rfl, o6, b6⟩
  have b7 := b0.trans (b6.mono b0.size)
  have o7 := own_mono o6 b0.size
  clear o6 b6
  obtain ⟨A6, c6, rfl, -, -, -⟩ := own_intsI o7
  go_wp2
  go_ret2
  exact ⟨_, rfl, o7, b7⟩
theorem turnedF_no (A : Option Addr) (c : Nat) (l : List Int) (w : World) (hx : l.length ≤ 1000000) (h : okO l = false) (ha : IntsAt w A l) :
    Calls Try.prog 51 #[.slice A l.length c, .func (.func 61) #[] #[]] w fun e w' => e = .returned (.tuple #[.slice none 0 0, .int .i64 2]) ∧ Below w.heap.size w w' := by
  have HR := Lib.hid (read_no A c l w hx h ha)
  clear h ha
  go_enter Try.func51, Try.ntmps51
  go_wp2_with (go_at_call 49; fail)
  refine HR.out.mono ?_
  rintro e w1 ⟨X, hpl, rfl, b1⟩
  have hi := info50_iv hpl
  have r1 : Row (w1.alloc (.cells Z12.toArray 50)) w1.heap.size 50 Z12 := row_new rfl
  have b0 := b1.alloc b1.size (.cells Z12.toArray 50)
  have hz1 := b1.size
  go_wp2_with (with_reducible refine (?_ : wpList _ _ _ (Oper.mk _ (Op.store 50 (.tmp 6) _) _ _ _ _ :: _) _ _); refine wpList_store_row rfl 50 (.tmp 6) (.tmp 11) rfl w1.heap.size (iv X).toArray rfl rfl 50 Z12.toArray (row_heap r1) hi (size50_Z hpl) (iv_all _) ?_; replace b0 := below_row (g := w1.heap.size) b0 hz1 (iv X).toArray; generalize World.setRow (w1.alloc _) _ _ = W at *)
  go_ret2
  exact ⟨rfl, b0⟩
theorem First_yes (A : Option Addr) (c : Nat) (l : List Int) (w : World) (h : IsO l) (ha : IntsAt w A l) :
    Calls Try.prog 30 #[.slice A l.length c] w fun e w' => ∃ A' c', e = .returned (.tuple #[.slice A' (fst' l).length c', .int .i64 0]) ∧ w'.ownsRow w.heap.size 3 1 (.slice A' (fst' l).length c') (fst' l).length (iv (fst' l)) ∧ Below w.heap.size w w' := by
  have HT := Lib.hid (turnedF_yes A c l w h ha)
  clear h ha
  go_enter Try.func30, Try.ntmps30
  go_wp2_with (go_at_call 51; fail)
  refine HT.out.mono ?_
  rintro e w6 ⟨v, rfl, o7, b7⟩
  obtain ⟨A6, c6, rfl, -, -, -⟩ := own_intsI o7
  go_wp2
  go_ret2
  exact ⟨_, _, rfl, o7, b7⟩
theorem First_no (A : Option Addr) (c : Nat) (l : List Int) (w : World) (hx : l.length ≤ 1000000) (h : okO l = false) (ha : IntsAt w A l) :
    Calls Try.prog 30 #[.slice A l.length c] w fun e w' => e = .returned (.tuple #[.slice none 0 0, .int .i64 2]) ∧ Below w.heap.size w w' := by
  have HT := Lib.hid (turnedF_no A c l w hx h ha)
  clear h ha
  go_enter Try.func30, Try.ntmps30
  go_wp2_with (go_at_call 51; refine HT.out.mono ?_; rintro e w6 ⟨rfl, b7⟩)
  go_ret2
  exact ⟨rfl, b7⟩
end Go.Proofs.Ytheblebfeinjjaa
