/- Joining rows to columns: the search. -/
import Derived.Test.YtnnaaoobdofooaaRK
namespace Go.Proofs.Ytnnaaoobdofooaa
open Go.RowKit
set_option maxHeartbeats 1000000
set_option maxRecDepth 100000
/-- The search for a column of a row, column by column. -/
def fdC (L : List (List Int)) (rec : Nat → Nat × List Int → Bool × Nat × List Int) (row : Nat) : List Nat → Nat × List Int → Bool × Nat × List Int
  | [], st => (false, st)
  | c :: cs, st =>
    if gat L row c = 0 ∨ st.1.testBit c = true then fdC L rec row cs st
    else if geti st.2 c = -1 then (true, sWith st.1 c, st.2.set c row)
    else match rec (geti st.2 c).toNat (sWith st.1 c, st.2) with
      | (true, s2, M2) => (true, s2, M2.set c row)
      | (false, s2, M2) => fdC L rec row cs (s2, M2)
def fd (L : List (List Int)) : Nat → Nat → Nat × List Int → Bool × Nat × List Int
  | 0, row, st => fdC L (fun _ st => (false, st)) row (List.range L.length) st
  | f + 1, row, st => fdC L (fd L f) row (List.range L.length) st
def jc (n : Nat) (M : List Int) (st : Nat) : List Value := .int .i64 n :: (iv M ++ [.int .u16 st])
def FV (G R J F : Nat) : Value := .func (.func 70) #[] #[.pointer (some ⟨G, 0, none⟩), .pointer (some ⟨R, 0, none⟩), .pointer (some ⟨J, 0, none⟩), .pointer (some ⟨F, 0, none⟩)]
structure FSt (W : World) (G R J F : Nat) (L : List (List Int)) (s : Nat) (M : List Int) (st : Nat) : Prop where
  g : Row W G 73 (iv (grd L))
  r : Row W R 79 [.int .u16 s]
  j : Row W J 87 (jc L.length M st)
  f : Row W F 99 [FV G R J F]
structure MOk (n : Nat) (M : List Int) : Prop where
  len : M.length = 10
  at' : ∀ c, c < 10 → geti M c = -1 ∨ (0 ≤ geti M c ∧ geti M c < n)
theorem FSt.drewN {W : World} {G R J F : Nat} {L : List (List Int)} {s : Nat} {M : List Int} {st : Nat} (h : FSt W G R J F L s M st) (k : Nat) : FSt (W.drewN k) G R J F L s M st := ⟨h.g, h.r, h.j, h.f⟩
theorem FSt.cells {W : World} {G R J F : Nat} {L : List (List Int)} {s : Nat} {M : List Int} {st : Nat} (h : FSt W G R J F L s M st) (hM : M.length = 10) :
    W.cell? ⟨G, 0, none⟩ = some (.int .i64 L.length) ∧ W.cell? ⟨R, 0, none⟩ = some (.int .u16 s) ∧ W.frozen? ⟨R, 0, none⟩ = false ∧ W.cell? ⟨F, 0, none⟩ = some (FV G R J F) ∧ ∀ c, c < 10 → W.cell? ⟨J, 1 + c, none⟩ = some (.int .i64 (geti M c)) ∧ W.frozen? ⟨J, 1 + c, none⟩ = false := by
  refine ⟨ivR h.g (i := 0) (by unfold grd; rw [grdP_len]; omega), h.r.cells1.1, h.r.cells1.2, h.f.cells1.1, fun c hc => ⟨?_, h.j.free _⟩⟩
  rw [h.j.cell]
  unfold jc
  rw [Nat.add_comm, List.getElem?_cons_succ, List.getElem?_append_left (by rw [iv_len]; omega)]
  unfold iv
  rw [List.getElem?_map, List.getElem?_eq_getElem (by omega), geti_eq (by omega)]; rfl
theorem FSt.setR {W : World} {G R J F : Nat} {L : List (List Int)} {s : Nat} {M : List Int} {st : Nat} (h : FSt W G R J F L s M st) (s2 : Nat) : FSt (W.setCell ⟨R, 0, none⟩ (.int .u16 s2)) G R J F L s2 M st :=
  ⟨h.g.far (h.g.ne h.r (by decide)) _, h.r.set 0 _, h.j.far (h.j.ne h.r (by decide)) _, h.f.far (h.f.ne h.r (by decide)) _⟩
theorem jc_set {n : Nat} {M : List Int} {st c : Nat} (hM : M.length = 10) (hc : c < 10) (x : Int) : (jc n M st).set (1 + c) (.int .i64 x) = jc n (M.set c x) st := by
  unfold jc
  rw [Nat.add_comm, List.set_cons_succ, List.set_append_left _ _ (by rw [iv_len]; omega), iv_set]
theorem FSt.setJ {W : World} {G R J F : Nat} {L : List (List Int)} {s : Nat} {M : List Int} {st : Nat} (h : FSt W G R J F L s M st) (hM : M.length = 10) {c : Nat} (hc : c < 10) (x : Int) : FSt (W.setCell ⟨J, 1 + c, none⟩ (.int .i64 x)) G R J F L s (M.set c x) st :=
  ⟨h.g.far (h.g.ne h.j (by decide)) _, h.r.far (h.r.ne h.j (by decide)) _, by have := h.j.set (1 + c) (.int .i64 x); rwa [jc_set hM hc] at this, h.f.far (h.f.ne h.j (by decide)) _⟩
theorem MOk.set {n : Nat} {M : List Int} (h : MOk n M) {c r : Nat} (hr : r < n) : MOk n (M.set c r) := ⟨by rw [List.length_set, h.len], fun k hk => by
  by_cases hc : c < M.length
  · rw [geti_set hc]
    split
    · exact Or.inr ⟨by omega, by omega⟩
    · exact h.at' k hk
  · rw [List.set_eq_of_length_le (by omega)]; exact h.at' k hk⟩
theorem pcn_with {s c : Nat} (hb : s.testBit c = false) : ∀ n, pc n (sWith s c) = pc n s + if c < n then 1 else 0
  | 0 => by simp [pc]
  | n + 1 => by
    rw [pc_succ, pc_succ, pcn_with hb n, with_bit]
    by_cases e : c = n
    · subst e; simp [hb]
    · have e2 : (s.testBit n || decide (c = n)) = s.testBit n := by rw [decide_eq_false e, Bool.or_false]
      have e3 : (if c < n + 1 then 1 else 0) = if c < n then 1 else 0 := by
        by_cases h : c < n
        · rw [if_pos h, if_pos (by omega)]
        · rw [if_neg h, if_neg (by omega)]
      rw [e2, e3]; omega
theorem fdC_skip {L : List (List Int)} {rec : Nat → Nat × List Int → Bool × Nat × List Int} {row c s : Nat} {cs : List Nat} {M : List Int} (h : gat L row c = 0 ∨ s.testBit c = true) : fdC L rec row (c :: cs) (s, M) = fdC L rec row cs (s, M) := by
  show (if _ then _ else _) = _
  rw [if_pos h]
theorem fdC_free {L : List (List Int)} {rec : Nat → Nat × List Int → Bool × Nat × List Int} {row c s : Nat} {cs : List Nat} {M : List Int} (h : ¬ (gat L row c = 0 ∨ s.testBit c = true)) (h2 : geti M c = -1) : fdC L rec row (c :: cs) (s, M) = (true, sWith s c, M.set c row) := by
  show (if _ then _ else if _ then _ else _) = _
  rw [if_neg h, if_pos h2]
theorem fdC_yes {L : List (List Int)} {rec : Nat → Nat × List Int → Bool × Nat × List Int} {row c s s2 : Nat} {cs : List Nat} {M M2 : List Int} (h : ¬ (gat L row c = 0 ∨ s.testBit c = true)) (h2 : ¬ geti M c = -1) (hr : rec (geti M c).toNat (sWith s c, M) = (true, s2, M2)) :
    fdC L rec row (c :: cs) (s, M) = (true, s2, M2.set c row) := by
  show (if _ then _ else if _ then _ else _) = _
  rw [if_neg h, if_neg h2, hr]
theorem fdC_no {L : List (List Int)} {rec : Nat → Nat × List Int → Bool × Nat × List Int} {row c s s2 : Nat} {cs : List Nat} {M M2 : List Int} (h : ¬ (gat L row c = 0 ∨ s.testBit c = true)) (h2 : ¬ geti M c = -1) (hr : rec (geti M c).toNat (sWith s c, M) = (false, s2, M2)) :
    fdC L rec row (c :: cs) (s, M) = fdC L rec row cs (s2, M2) := by
  show (if _ then _ else if _ then _ else _) = _
  rw [if_neg h, if_neg h2, hr]
def FindR (L : List (List Int)) (G R J F B st : Nat) (W : World) (s : Nat) (x : Bool × Nat × List Int) (e : Ending) (W' : World) : Prop :=
  e = .returned (.bool x.1) ∧ FSt W' G R J F L x.2.1 x.2.2 st ∧ x.2.1 < 65536 ∧ MOk L.length x.2.2 ∧ pc L.length s ≤ pc L.length x.2.1 ∧ Below B W W'
theorem find_loop (L : List (List Int)) (hL : IsT L) (G R J F B st : Nat) (hR : B ≤ R) (hJ : B ≤ J) (rec : Nat → Nat × List Int → Bool × Nat × List Int) (row s : Nat) (M : List Int) (w : World) (hrow : row < L.length) (hs : s < 65536) (hM : MOk L.length M)
    (hrec : ∀ (r2 s2 : Nat) (M2 : List Int) (V : World), r2 < L.length → s2 < 65536 → MOk L.length M2 → pc L.length s < pc L.length s2 → FSt V G R J F L s2 M2 st →
      Calls Try.prog 70 #[.int .i64 r2, .pointer (some ⟨G, 0, none⟩), .pointer (some ⟨R, 0, none⟩), .pointer (some ⟨J, 0, none⟩), .pointer (some ⟨F, 0, none⟩)] V (FindR L G R J F B st V s2 (rec r2 (s2, M2))))
    (h : FSt w G R J F L s M st) :
    Calls Try.prog 70 #[.int .i64 row, .pointer (some ⟨G, 0, none⟩), .pointer (some ⟨R, 0, none⟩), .pointer (some ⟨J, 0, none⟩), .pointer (some ⟨F, 0, none⟩)] w (FindR L G R J F B st w s (fdC L rec row (List.range L.length) (s, M))) := by
  have hle := hL.le
  obtain ⟨X, hX⟩ : ∃ X, fdC L rec row (List.range L.length) (s, M) = X := ⟨_, rfl⟩
  have HX0 : Hid (fdC L rec row ((List.range L.length).drop 0) (s, M) = X) := Lib.hid hX
  rw [hX]
  have H0 := Lib.hid h
  have HM0 := Lib.hid hM
  have HREC := Lib.hid hrec
  obtain ⟨c0, c1, c2, c3, c4⟩ := h.cells hM.len
  have b0 := Below.refl B w
  have HCG : Hid (∀ (V : World) (r c : Nat), r < 10 → c < 10 → Row V G 73 (iv (grd L)) → V.cell? ⟨G, 1 + r * 10 + c, none⟩ = some (.int .i64 (gat L r c))) := Lib.hid (fun V r c hr hc h => by
    have := ivR h (i := 1 + r * 10 + c) (by unfold grd; rw [grdP_len]; omega)
    rwa [Nat.add_assoc, grd_at L hr hc, ← Nat.add_assoc] at this)
  clear hX h hM hrec c4
  go_enter Try.func70, Try.ntmps70
  go_wp2
  clear c1 c2 c3
  go_loopw [10] (fun v wr => ∃ (k s' : Nat) (M' : List Int), k ≤ L.length ∧ v = .int .i64 k ∧ FSt wr G R J F L s' M' st ∧ s' < 65536 ∧ Hid (MOk L.length M') ∧ pc L.length s ≤ pc L.length s' ∧ Hid (fdC L rec row ((List.range L.length).drop k) (s', M') = X) ∧ Below B w wr) (fun v _ => L.length - (intOf v).toNat)
  case atStart => exact ⟨0, s, M, by omega, rfl, H0.out, hs, HM0, Nat.le_refl _, HX0, b0⟩
  case round =>
    clear b0 HX0 HM0 H0 hs c0
    obtain ⟨k, s', M', hk, rfl, h, hs, HM, hpc, HX, b0⟩ := hrel
    have hMl := HM.out.len
    by_cases hlt : k < L.length
    · have g1 : decide ((k : Int) < (L.length : Int)) = true := decide_eq_true (by omega)
      obtain ⟨c0, c1, c2, c3, c4⟩ := h.cells hMl
      have e1 := HCG.out _ row k (by omega) (by omega) h.g
      have HH := Lib.hid (has_any s' k wr hs (by omega))
      have HWI := Lib.hid (with_any s' k wr hs (by omega))
      have hxd := HX.out
      rw [range_drop hlt] at hxd
      have HXD := Lib.hid hxd
      have HF := Lib.hid h
      have HY : Hid (∀ y, gat L row k = y → gat L row k = y) := Lib.hid (fun y h => h)
      unfold sHas at HH
      clear hxd h c4
      cases hb : s'.testBit k
      · by_cases hy : gat L row k = 0
        · have HX2 : Hid (fdC L rec row ((List.range L.length).drop (k + 1)) (s', M') = X) := Lib.hid (by rw [← fdC_skip (Or.inl hy)]; exact HXD.out)
          rw [hy] at e1
          rw [hb] at HH
          clear hb hy HXD HX
          go_wp2_with (go_at_call 66; refine HH.out.mono ?_; rintro e w1 ⟨rfl, rfl⟩)
          go_roundw
          case rel => exact ⟨k + 1, s', M', by omega, by go_num, HF.out, hs, HM, hpc, HX2, b0⟩
          case measure => simp [intOf]; omega
        · have HNC : Hid (¬ (gat L row k = 0 ∨ s'.testBit k = true)) := Lib.hid (fun h => h.elim hy (fun h => by rw [hb] at h; cases h))
          have g2 : (gat L row k == 0) = false := by rw [beq_eq_false_iff_ne]; exact hy
          have hpw := pcn_with hb L.length
          rw [if_pos hlt] at hpw
          have hwl := with_lt (v := k) hs (by omega)
          rw [hb] at HH
          clear hb hy
          have F1 := Lib.hid (HF.out.setR (sWith s' k))
          have b1 := b0.setCell (p := ⟨R, 0, none⟩) hR (.int .u16 (sWith s' k))
          have hma := HM.out.at' k (by omega)
          have HFR : Hid (geti M' k = -1 → (true, sWith s' k, M'.set k (row : Int)) = X) := Lib.hid (fun h => by rw [← HXD.out, fdC_free HNC.out h])
          have HYE : Hid (∀ s2 M2, ¬ geti M' k = -1 → rec (geti M' k).toNat (sWith s' k, M') = (true, s2, M2) → (true, s2, M2.set k (row : Int)) = X) := Lib.hid (fun s2 M2 h hr => by rw [← HXD.out, fdC_yes HNC.out h hr])
          have HNE : Hid (∀ s2 M2, ¬ geti M' k = -1 → rec (geti M' k).toNat (sWith s' k, M') = (false, s2, M2) → fdC L rec row ((List.range L.length).drop (k + 1)) (s2, M2) = X) := Lib.hid (fun s2 M2 h hr => by rw [← HXD.out, fdC_no HNC.out h hr])
          generalize gat L row k = y at *
          go_wp2_with (first
            | (go_at_call 66; refine HH.out.mono ?_; rintro e w1 ⟨rfl, rfl⟩)
            | (go_at_call 71; refine HWI.out.mono ?_; rintro e w1 ⟨rfl, rfl⟩))
          generalize World.setCell wr _ _ = V at *
          obtain ⟨-, -, -, d3, d4⟩ := F1.out.cells hMl
          obtain ⟨d5, d6⟩ := d4 k (by omega)
          obtain ⟨z, hz⟩ : ∃ z, geti M' k = z := ⟨_, rfl⟩
          rw [hz] at d5 hma
          clear HH HWI HF c0 c1 c2 c3 e1 g2 d4 b0
          by_cases hz1 : z = -1
          · have g3 : (z == -1) = true := by simp [hz1]
            have HX3 : Hid ((true, sWith s' k, M'.set k (row : Int)) = X) := Lib.hid (HFR.out (by rw [hz, hz1]))
            have HZ := Lib.hid hz
            clear hz1 hma hz HXD HX d3
            refine wp_region_quiet_lit (by kernel_rfl) (by kernel_rfl) ?_
            repeat go_big_quiet_step ((fail))
            refine wpQuiet_nil ?_
            rintro _ ⟨nq, rfl⟩
            have F2 := Lib.hid ((F1.out.drewN nq).setJ hMl (c := k) (by omega) (row : Int))
            have b2 := (b1.trans (below_drewN nq)).setCell (p := ⟨J, 1 + k, none⟩) hJ (.int .i64 (row : Int))
            replace d5 : (V.drewN nq).cell? ⟨J, 1 + k, none⟩ = some (.int .i64 z) := d5
            replace d6 : (V.drewN nq).frozen? ⟨J, 1 + k, none⟩ = false := d6
            obtain rfl := HX3.out
            have HM3 := Lib.hid (HM.out.set (c := k) hrow)
            go_wp2
            go_ret
            exact ⟨rfl, F2.out, hwl, HM3.out, (by show pc L.length s ≤ pc L.length (sWith s' k); omega), b2⟩
          · obtain ⟨r2, rfl⟩ : ∃ r2 : Nat, z = r2 := ⟨z.toNat, by omega⟩
            have g3 : ((r2 : Int) == -1) = false := by rw [beq_eq_false_iff_ne]; omega
            have hr2 : r2 < L.length := by omega
            have HC := Lib.hid (fun (n : Nat) => HREC.out r2 (sWith s' k) M' (V.drewN n) hr2 hwl HM.out (by omega) (F1.out.drewN n))
            have HZ := Lib.hid hz
            rw [show FV G R J F = .func (.func 70) #[] #[.pointer (some ⟨G, 0, none⟩), .pointer (some ⟨R, 0, none⟩), .pointer (some ⟨J, 0, none⟩), .pointer (some ⟨F, 0, none⟩)] from rfl] at d3
            obtain ⟨x, hx⟩ : ∃ x, rec r2 (sWith s' k, M') = x := ⟨_, rfl⟩
            obtain ⟨bx, s2, M2⟩ := x
            rw [hx] at HC
            have HXR := Lib.hid hx
            clear hz1 hma hz hx
            refine wp_region_quiet_tail 11 (by kernel_rfl) (by kernel_rfl) ?_
            simp only [List.take_succ_cons, List.take_zero, List.drop_succ_cons, List.drop_zero]
            repeat go_big_quiet_step ((fail))
            refine wpQuiet_nil ?_
            rintro _ ⟨nq, rfl⟩
            have hne : ¬ geti M' k = -1 := by rw [HZ.out]; omega
            have HT2 : Hid ((geti M' k).toNat = r2) := Lib.hid (by rw [HZ.out]; rfl)
            have HNE1 := Lib.hid hne
            clear hne
            have b3 := b1.trans (below_drewN (B := B) (w := V) nq)
            go_wp2_with (go_at_call 70; fail)
            refine (HC.out nq).mono ?_
            rintro e w5 ⟨rfl, F5, hs5, HM5, hpc5, b5⟩
            replace F5 : FSt w5 G R J F L s2 M2 st := F5
            replace hs5 : s2 < 65536 := hs5
            replace HM5 : MOk L.length M2 := HM5
            replace hpc5 : pc L.length (sWith s' k) ≤ pc L.length s2 := hpc5
            have HM6 := Lib.hid HM5
            have hMl2 := HM5.len
            have b6 := b3.trans b5
            clear HC d3 d5 d6 b1 b3 b5 F1
            cases bx
            · have HXN : Hid (fdC L rec row ((List.range L.length).drop (k + 1)) (s2, M2) = X) := Lib.hid (HNE.out s2 M2 HNE1.out (by rw [HT2.out]; exact HXR.out))
              have F6 := Lib.hid F5
              clear HNE HYE HFR HXR HXD HX HM5 F5
              go_wp2
              go_roundw
              case rel => exact ⟨k + 1, s2, M2, by omega, by go_num, F6.out, hs5, HM6, by omega, HXN, b6⟩
              case measure => simp [intOf]; omega
            · have HXY : Hid ((true, s2, M2.set k (row : Int)) = X) := Lib.hid (HYE.out s2 M2 HNE1.out (by rw [HT2.out]; exact HXR.out))
              obtain ⟨-, -, -, -, d4⟩ := F5.cells hMl2
              obtain ⟨d5, d6⟩ := d4 k (by omega)
              have F2 := Lib.hid (F5.setJ hMl2 (c := k) (by omega) (row : Int))
              have b2 := b6.setCell (p := ⟨J, 1 + k, none⟩) hJ (.int .i64 (row : Int))
              have HM3 := Lib.hid (HM6.out.set (c := k) hrow)
              obtain rfl := HXY.out
              clear HNE HYE HFR HXR HXD HX HM5 F5 d4
              go_wp2
              go_ret
              exact ⟨rfl, F2.out, hs5, HM3.out, (by show pc L.length s ≤ pc L.length s2; omega), b2⟩
      · have HX2 : Hid (fdC L rec row ((List.range L.length).drop (k + 1)) (s', M') = X) := Lib.hid (by rw [← fdC_skip (Or.inr hb)]; exact HXD.out)
        rw [hb] at HH
        clear hb HXD HX HY
        generalize gat L row k = y at *
        cases hy : (y == 0)
        · go_wp2_with (go_at_call 66; refine HH.out.mono ?_; rintro e w1 ⟨rfl, rfl⟩)
          go_roundw
          case rel => exact ⟨k + 1, s', M', by omega, by go_num, HF.out, hs, HM, hpc, HX2, b0⟩
          case measure => simp [intOf]; omega
        · go_wp2_with (go_at_call 66; refine HH.out.mono ?_; rintro e w1 ⟨rfl, rfl⟩)
          go_roundw
          case rel => exact ⟨k + 1, s', M', by omega, by go_num, HF.out, hs, HM, hpc, HX2, b0⟩
          case measure => simp [intOf]; omega
    · obtain rfl : k = L.length := by omega
      have g1 : decide ((L.length : Int) < (L.length : Int)) = false := decide_eq_false (by omega)
      have hx := HX.out
      rw [show (List.range L.length).drop L.length = [] from List.drop_eq_nil_of_le (by simp)] at hx
      have HXX : Hid ((false, s', M') = X) := Lib.hid hx
      clear hx HX
      obtain rfl := HXX.out
      go_wp2
      go_ret
      exact ⟨rfl, h, hs, HM.out, hpc, b0⟩
end Go.Proofs.Ytnnaaoobdofooaa
