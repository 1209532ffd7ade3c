/- Parts of a list are turned: the last number to the beginning. -/
import Derived.Test.YtheblebfeinjjaaNH
namespace Go.Proofs.Ytheblebfeinjjaa
open Go.RowKit
set_option maxHeartbeats 1000000
set_option maxRecDepth 100000
theorem grown_refl (w : World) (r : Option Nat) : w.grownBy w r := ⟨rfl, rfl, rfl, Nat.le_refl _, fun _ _ _ => rfl⟩
theorem grown_trans {w w1 w2 : World} {r : Option Nat} (h : w.grownBy w1 r) (h2 : w1.grownBy w2 r) : w.grownBy w2 r :=
  ⟨h2.os.trans h.os, h2.tape.trans h.tape, h2.output.trans h.output, Nat.le_trans h.size h2.size, fun k hk hr => (h2.block k (Nat.lt_of_lt_of_le hk h.size) hr).trans (h.block k hk hr)⟩
theorem grown_set (w : World) (g i : Nat) (v : Value) : w.grownBy (w.setCell ⟨g, i, none⟩ v) (some g) := by
  have hb := (Below.refl 0 w).setCell (p := ⟨g, i, none⟩) (Nat.zero_le _) v
  refine ⟨hb.os, hb.tape, hb.output, hb.size, fun k _ hk => ?_⟩
  exact Below.heap_setCell w _ v k (fun e => hk (by rw [e]))
theorem grown_row (w : World) (g : Nat) (cs : Array Value) : w.grownBy (w.setRow g cs) (some g) :=
  ⟨rfl, rfl, rfl, by simp [World.setRow], fun k _ hk => setRow_other w g k cs (fun e => hk (by rw [e]))⟩
theorem grown_drewN (w : World) (n : Nat) (r : Option Nat) : w.grownBy (w.drewN n) r := ⟨rfl, rfl, rfl, Nat.le_refl _, fun _ _ _ => rfl⟩
theorem rot_move (done part rest : List Int) (x : Int) (hp : 0 < part.length) :
    ((done ++ (part ++ x :: rest)).take (done.length + 1) ++ (part ++ (done ++ (part ++ x :: rest)).drop (done.length + 1 + part.length))).set done.length x = (done ++ x :: part) ++ rest := by
  match part, hp with
  | p :: ps, _ =>
    have e1 : (done ++ (p :: ps ++ x :: rest)).take (done.length + 1) = done ++ [p] := by
      rw [List.take_append, List.take_of_length_le (by omega), Nat.add_sub_cancel_left, List.cons_append, List.take_succ_cons, List.take_zero]
    have e2 : (done ++ (p :: ps ++ x :: rest)).drop (done.length + 1 + (p :: ps).length) = rest := by
      rw [List.drop_append, List.drop_eq_nil_of_le (by omega), List.nil_append, show done.length + 1 + (p :: ps).length - done.length = (p :: ps).length + 1 by omega, List.drop_append,
        List.drop_eq_nil_of_le (by omega), List.nil_append, Nat.add_sub_cancel_left, List.drop_succ_cons, List.drop_zero]
    rw [e1, e2, List.append_assoc, List.set_append_right _ _ (Nat.le_refl _), Nat.sub_self, List.singleton_append, List.set_cons_zero]
    simp
theorem iv_app (a b : List Int) : iv (a ++ b) = iv a ++ iv b := by simp [iv]
theorem iv_take (a : List Int) (n : Nat) : (iv a).take n = iv (a.take n) := by simp [iv]
theorem iv_drop (a : List Int) (n : Nat) : (iv a).drop n = iv (a.drop n) := by simp [iv]
/-- While the list is seen: what is turned, the part that has begun, what is left. -/
structure LtB (a : Int) (gB : Bool) (X Y C done part : List Int) (b k : Nat) : Prop where
  hb : done.length = b
  hk : done.length + part.length = k
  hC : C = done ++ (part ++ (X.drop k ++ Y))
  hr : done ++ rotGo a gB part (X.drop k) = rot a X
theorem LtB.start (a : Int) (X Y : List Int) : LtB a (decide (a < geti X (X.length - 1))) X Y (X ++ Y) [] [] 0 0 := ⟨rfl, rfl, rfl, rfl⟩
theorem LtB.at {a : Int} {gB : Bool} {X Y C done part : List Int} {b k : Nat} (h : LtB a gB X Y C done part b k) (hk : k < X.length) : geti C k = geti X k := by
  obtain ⟨rfl, rfl, rfl, -⟩ := h
  rw [← List.append_assoc, geti_app, if_neg (by rw [List.length_append]; omega), List.length_append, Nat.sub_self, drop_cons hk]
  rfl
theorem LtB.no {a : Int} {gB : Bool} {X Y C done part : List Int} {b k : Nat} (h : LtB a gB X Y C done part b k) (hk : k < X.length) (hd : decide (a < geti X k) ≠ gB) : LtB a gB X Y C done (part ++ [geti X k]) b (k + 1) := by
  obtain ⟨h1, h2, h3, h4⟩ := h
  refine ⟨h1, by rw [List.length_append, List.length_singleton]; omega, ?_, ?_⟩
  · rw [h3, drop_cons hk]; simp
  · rw [← h4, drop_cons hk]
    conv => rhs; unfold rotGo
    rw [if_neg hd]
theorem LtB.yes {a : Int} {gB : Bool} {X Y C done part : List Int} {b k : Nat} (h : LtB a gB X Y C done part b k) (hk : k < X.length) (hd : decide (a < geti X k) = gB) :
    LtB a gB X Y ((done ++ geti X k :: part) ++ (X.drop (k + 1) ++ Y)) (done ++ geti X k :: part) [] (k + 1) (k + 1) := by
  obtain ⟨h1, h2, h3, h4⟩ := h
  refine ⟨by simp; omega, by simp; omega, by simp, ?_⟩
  rw [← h4, drop_cons hk]
  conv => rhs; unfold rotGo
  rw [if_pos hd]
  simp
theorem LtB.all {a : Int} {gB : Bool} {X Y C done part : List Int} {b k : Nat} (h : LtB a gB X Y C done part b k) (hk : k = X.length) : C = rot a X ++ Y := by
  obtain ⟨h1, h2, h3, h4⟩ := h
  subst hk
  rw [List.drop_length] at h3 h4
  rw [← h4, h3]
  simp [rotGo]
theorem lastTo_any (g : Nat) (a : Int) (X Y : List Int) (w : World) (hp : 0 < X.length) (hl : (X ++ Y).length = 12) (hx : X.length < 12) (hr : Row w g 50 (iv (X ++ Y))) :
    Calls Try.prog 75 #[.slice (some ⟨g, 0, none⟩) X.length 12, .int .i64 a] w fun e w' => e = .returned (.tuple #[]) ∧ Row w' g 50 (iv (rot a X ++ Y)) ∧ w.grownBy w' (some g) := by
  have hlast : geti (X ++ Y) (X.length - 1) = geti X (X.length - 1) := by rw [geti_app, if_pos (by omega)]
  have h0 := ivR hr (i := X.length - 1) (by omega)
  rw [hlast] at h0
  have HL0 := Lib.hid (LtB.start a X Y)
  obtain ⟨q, hq⟩ : ∃ q, geti X (X.length - 1) = q := ⟨_, rfl⟩
  rw [hq] at h0 HL0
  clear hq hlast
  have g0 := grown_refl w (some g)
  have HLEN := Lib.hid hl
  have hX11 : X.length ≤ 11 := by omega
  clear hl hx
  obtain ⟨gB, hgB⟩ : ∃ gB, decide (a < q) = gB := ⟨_, rfl⟩
  rw [hgB] at HL0
  go_enter Try.func75, Try.ntmps75
  go_wp2
  go_loopw [5, 18] (fun bv i wr => ∃ (b k : Nat) (C done part : List Int), k ≤ X.length ∧ b ≤ k ∧ i = .int .i64 k ∧ bv = .int .i64 b ∧ Hid (LtB a gB X Y C done part b k) ∧ Hid (C.length = 12) ∧ Row wr g 50 (iv C) ∧ w.grownBy wr (some g)) (fun _ i _ => X.length - (intOf i).toNat)
  case atStart => exact ⟨0, 0, _, _, _, by omega, by omega, rfl, rfl, HL0, HLEN, hr, g0⟩
  case round =>
    clear hr g0 HL0 h0 hgB
    obtain ⟨b, k, C, done, part, hk, hbk, rfl, rfl, HL, HC, hr, g0⟩ := hrel
    by_cases hlt : k < X.length
    · have c1 := ivR hr (i := k) (by have := HC.out; omega)
      rw [HL.out.at hlt] at c1
      have HN := Lib.hid (fun hd => HL.out.no hlt hd)
      have HY := Lib.hid (fun hd => HL.out.yes hlt hd)
      obtain ⟨x, hx⟩ : ∃ x, geti X k = x := ⟨_, rfl⟩
      rw [hx] at c1 HN HY
      have HXK := Lib.hid hx
      clear hx
      by_cases hd : decide (a < x) = gB
      · have HY2 := Lib.hid (HY.out hd)
        have hdd : ((decide (a < x)) == gB) = true := by rw [hd]; simp
        clear HN HY hd
        by_cases hbe : b < k
        · have HLN : Hid ((iv part).length = Nat.min (k - b) (k - b)) := Lib.hid (by
            obtain ⟨h1, h2, -, -⟩ := HL.out
            rw [iv_len, show Nat.min (k - b) (k - b) = k - b from Nat.min_self _]; omega)
          have HSRC : Hid (∀ W, Row W g 50 (iv C) → ∀ j v, (iv part)[j]? = some v → W.cell? ((⟨g, b, none⟩ : Addr).add j) = some v) := Lib.hid (fun W hW j v hj => by
            obtain ⟨h1, h2, h3, -⟩ := HL.out
            have hjl : j < part.length := by
              have := (List.getElem?_eq_some_iff.1 hj).1
              rwa [iv_len] at this
            rw [WideShapes.add_plain, hW.cell, h3, iv_app, iv_app, List.getElem?_append_right (by rw [iv_len]; omega), iv_len, h1, Nat.add_sub_cancel_left, List.getElem?_append_left (by rw [iv_len]; exact hjl)]
            exact hj)
          have HFIT : Hid (b + 1 + (iv part).length ≤ (iv C).toArray.size) := Lib.hid (by
            obtain ⟨h1, h2, -, -⟩ := HL.out
            rw [List.size_toArray, iv_len, iv_len, HC.out]; omega)
          have HM : Hid ((C.take (b + 1) ++ (part ++ C.drop (b + 1 + part.length))).set b x = (done ++ x :: part) ++ (X.drop (k + 1) ++ Y)) := Lib.hid (by
            obtain ⟨h1, h2, h3, -⟩ := HL.out
            rw [h3, drop_cons hlt, HXK.out, ← h1]
            exact rot_move done part _ x (by omega))
          have HML : Hid ((C.take (b + 1) ++ (part ++ C.drop (b + 1 + part.length))).length = 12) := Lib.hid (by
            obtain ⟨h1, h2, -, -⟩ := HL.out
            have := HC.out
            simp only [List.length_append, List.length_take, List.length_drop]
            omega)
          have HMI : Hid ((iv C).take (b + 1) ++ (iv part ++ (iv C).drop (b + 1 + part.length)) = iv (C.take (b + 1) ++ (part ++ C.drop (b + 1 + part.length)))) := Lib.hid (by
            rw [iv_take, iv_drop, ← iv_app, ← iv_app])
          generalize C.take (b + 1) ++ (part ++ C.drop (b + 1 + part.length)) = M at *
          generalize (done ++ x :: part) ++ (X.drop (k + 1) ++ Y) = N at *
          have HNL : Hid (N.length = 12) := Lib.hid (by rw [← HM.out, List.length_set]; exact HML.out)
          go_wp2
          refine wp_region_quiet_tail 10 (by kernel_rfl) (by kernel_rfl) ?_
          simp only [List.take_succ_cons, List.take_zero, List.drop_succ_cons, List.drop_zero]
          repeat go_big_quiet_step ((fail))
          refine wpQuiet_nil ?_
          rintro _ ⟨nq, rfl⟩
          refine wpList_copy_own rfl (.tmp 33) (.tmp 37) 22 22 rfl 3 Try.underlying22 size3 g (b + 1) (k - b) (11 - b) ⟨g, b, none⟩ (k - b) (12 - b) rfl rfl (iv C).toArray 50 (row_heap (hr.drewN nq)) (iv part) HLN.out (HSRC.out _ (hr.drewN nq)) HFIT.out (iv_one part) ?_
          rw [show (iv C).toArray.toList = iv C from rfl, iv_len, HMI.out]
          have r2 := (hr.drewN nq).row (iv M)
          have g2 := grown_trans (grown_trans g0 (grown_drewN wr nq _)) (grown_row (wr.drewN nq) g (iv M).toArray)
          generalize World.setRow (wr.drewN nq) _ _ = W at *
          have f2 := r2.free b
          have hu := ivR r2 (i := b) (by rw [HML.out]; omega)
          go_wp2
          go_roundw
          case rel => exact ⟨k + 1, k + 1, N, _, [], by omega, by omega, by go_num, by go_num, HY2, HNL, by rw [← HM.out, ← iv_set]; exact r2.set b (.int .i64 x), grown_trans g2 (grown_set W g b _)⟩
          case measure => simp [intOf]; omega
        · obtain rfl : b = k := by omega
          have HM : Hid (C.set b x = (done ++ x :: part) ++ (X.drop (b + 1) ++ Y)) := Lib.hid (by
            obtain ⟨h1, h2, h3, -⟩ := HL.out
            have hp0 : part = [] := List.eq_nil_of_length_eq_zero (by omega)
            rw [h3, drop_cons hlt, HXK.out, ← h1, hp0, List.set_append_right _ _ (Nat.le_refl _), Nat.sub_self]
            simp)
          generalize (done ++ x :: part) ++ (X.drop (b + 1) ++ Y) = N at *
          have HNL : Hid (N.length = 12) := Lib.hid (by rw [← HM.out, List.length_set]; exact HC.out)
          go_wp2
          refine wp_region_quiet_tail 10 (by kernel_rfl) (by kernel_rfl) ?_
          simp only [List.take_succ_cons, List.take_zero, List.drop_succ_cons, List.drop_zero]
          repeat go_big_quiet_step ((fail))
          refine wpQuiet_nil ?_
          rintro _ ⟨nq, rfl⟩
          refine wpList_copy_nothing rfl (.tmp 33) (.tmp 37) 22 22 rfl 3 Try.underlying22 size3 (some ⟨g, b + 1, none⟩) (some ⟨g, b, none⟩) 0 (11 - b) 0 (12 - b) rfl rfl rfl ?_
          have r2 := hr.drewN nq
          have g2 := grown_trans g0 (grown_drewN wr nq _)
          have f2 := r2.free b
          have hu := ivR r2 (i := b) (by rw [HC.out]; omega)
          go_wp2
          go_roundw
          case rel => exact ⟨b + 1, b + 1, N, _, [], by omega, by omega, by go_num, by go_num, HY2, HNL, by rw [← HM.out, ← iv_set]; exact r2.set b (.int .i64 x), grown_trans g2 (grown_set _ g b _)⟩
          case measure => simp [intOf]; omega
      · have HN2 := Lib.hid (HN.out hd)
        have hdd : ((decide (a < x)) == gB) = false := by simpa using hd
        clear HN HY hd
        go_wp2
        go_roundw
        case rel => exact ⟨b, k + 1, C, done, part ++ [x], by omega, by omega, by go_num, rfl, HN2, HC, hr, g0⟩
        case measure => simp [intOf]; omega
    · have HA := Lib.hid (HL.out.all (by omega))
      go_wp2
      exact bodyPost_end (v := .tuple #[]) (by simp [results, Try.results75]) rfl ⟨rfl, by rw [← HA.out]; exact hr, g0⟩
end Go.Proofs.Ytheblebfeinjjaa
