/- The reference's second and first order. -/
import Derived.Test.YtheblebfeinjjaaQM
import Derived.Test.YtheblebfeinjjaaNC
import Derived.Test.YtheblebfeinjjaaOC
import Derived.Test.YtheblebfeinjjaaNP
/- The reference's second order. -/
namespace Go.Proofs.Ytheblebfeinjjaa
open Go.RowKit
set_option maxHeartbeats 2000000
set_option maxRecDepth 100000
/-- Two lists of the call's own do not share memory. -/
def Sep (u v : Value) : Prop := ∀ g, u.ownBlock = some g → v.ownBlock ≠ some g
theorem Sep.symm {u v : Value} (h : Sep u v) : Sep v u := fun g h1 h2 => h g h2 h1
theorem Sep.nil {u : Value} : Sep u (.slice none 0 0) := fun g _ h2 => by simp [Value.ownBlock] at h2
theorem Sep.ne {u v : Value} (h : Sep u v) : u.ownBlock = none ∨ u.ownBlock ≠ v.ownBlock := by
  cases hu : u.ownBlock with
  | none => exact .inl rfl
  | some g => exact .inr (fun e => h g hu e.symm)
theorem Sep.app {w : World} {u v v' : Value} {B m n z : Nat} {e : TypeId} {xs : List Value} (h : Sep u v) (hu : w.ownsRow B e z u m xs) (hn : w.heap.size ≤ n) (hat : v'.ownBlock = v.ownBlock ∨ v'.ownBlock = some n) : Sep u v' := fun g h1 h2 => by
  rcases hat with e | e
  · rw [e] at h2; exact h g h1 h2
  · rw [e] at h2
    injection h2 with h2
    have := (own_ge hu h1).2.1
    omega
theorem iv_app3 (X Y : List Int) : iv (X ++ Y) = iv X ++ iv Y := by simp [iv]
theorem snoc_le {P : List Int} {x : Int} {c : Nat} (h : (P ++ [x]).length ≤ c) : P.length ≤ c := by simp at h; omega
theorem alloc_size (w : World) (o : Obj) : (w.alloc o).heap.size = w.heap.size + 1 := by simp
theorem refSecond_any (A : Option Addr) (c : Nat) (l : List Int) (w : World) (hle : l.length ≤ 1000000) (ha : IntsAt w A l) :
    Calls Try.prog 33 #[.slice A l.length c] w fun e w' => ∃ v, e = .returned v ∧ w'.ownsRow w.heap.size 3 1 v l.length (iv (sec l)) ∧ Below w.heap.size w w' := by
  obtain ⟨j0, ji, jz0, jz1, jz2⟩ := info_parts info3
  have HA := Lib.hid ha
  have HSL := Lib.hid (fun k (hk : k ≤ l.length) => secN_len l hk)
  have HSN : Hid (∀ k, secN l (k + 1) = rot (geti l k) (secN l k) ++ [geti l k]) := Lib.hid (fun k => rfl)
  have HSS : Hid (sec l = secN l l.length) := Lib.hid rfl
  have o0 : w.ownsRow w.heap.size 3 1 (.slice none 0 0) 0 (iv (secN l 0)) := ⟨rfl, .inl ⟨rfl, rfl⟩⟩
  have b0 : Below w.heap.size w w := Below.refl _ _
  clear ha
  go_enter Try.func33, Try.ntmps33
  go_wp2
  go_loopw [3, 4] (fun v i wr => ∃ k : Nat, k ≤ l.length ∧ i = .int .i64 k ∧ wr.ownsRow w.heap.size 3 1 v k (iv (secN l k)) ∧ Below w.heap.size w wr) (fun _ i _ => l.length - (intOf i).toNat)
  case atStart => exact ⟨0, by omega, rfl, o0, b0⟩
  case round =>
    clear o0 b0
    obtain ⟨k, hk, rfl, o0, b0⟩ := hrel
    by_cases hlt : k < l.length
    · have g1 : decide ((k : Int) < (l.length : Int)) = true := decide_eq_true (by omega)
      obtain ⟨bA, oA, hAe, hbA, f1⟩ := (HA.out.below b0) (by omega)
      subst hAe
      have da := f1 k hlt
      have HO := Lib.hid o0
      have hbs := b0.size
      obtain ⟨A2, c2, e2, -, -, i2⟩ := own_intsI o0
      have hO := HSL.out k hk
      rw [hO] at e2
      subst e2
      have HS := Lib.hid (HSN.out k)
      obtain ⟨O, hOe⟩ : ∃ O, secN l k = O := ⟨_, rfl⟩
      obtain ⟨a, hae⟩ : ∃ a, geti l k = a := ⟨_, rfl⟩
      rw [hOe] at hO HS HO i2 
      rw [hae] at HS da
      clear f1 o0
      obtain ⟨gB, hgB⟩ : ∃ gB, decide (a < geti O (O.length - 1)) = gB := ⟨_, rfl⟩
      have HR0 : Hid (([] : List Int) ++ rotGo a gB [] (O.drop 0) = rot a O) := Lib.hid (by rw [← hgB]; rfl)
      have o1 : wr.ownsRow wr.heap.size 3 1 (.slice none 0 0) ([] : List Int).length (iv ([] : List Int)) := ⟨rfl, .inl ⟨rfl, rfl⟩⟩
      have b1 : Below wr.heap.size wr wr := Below.refl _ _
      have HI := Lib.hid (fun (V : World) (hb : Below wr.heap.size wr V) => i2.below hb)
      have HKO := Lib.hid hO
      clear hOe hae hO
      generalize wr = W0 at *
      go_wp2
      go_loopw [6, 7, 8] (fun nx pt kv V => ∃ (j : Nat) (X P : List Int), j ≤ k ∧ kv = .int .i64 j ∧ (j = k → P = []) ∧ Hid (X ++ rotGo a gB P (O.drop j) = rot a O) ∧ X.length + P.length = j ∧ V.ownsRow W0.heap.size 3 1 nx X.length (iv X) ∧ V.ownsRow W0.heap.size 3 1 pt P.length (iv P) ∧ Sep nx pt ∧ Below W0.heap.size W0 V) (fun _ _ kv _ => k - (intOf kv).toNat)
      case atStart => exact ⟨0, [], [], by omega, rfl, fun _ => rfl, HR0, rfl, o1, o1, Sep.nil, b1⟩
      case round =>
        clear o1 b1 HR0
        obtain ⟨j, X, P, hj, rfl, hpe, HR, hxp, ox, op, hsep, b1⟩ := hrel
        obtain ⟨AX, cX, rfl, -, -, -⟩ := own_intsI ox
        obtain ⟨AP, cP, rfl, -, -, -⟩ := own_intsI op
        by_cases hjk : j < k
        · have g2 : decide ((j : Int) < (k : Int)) = true := decide_eq_true (by omega)
          obtain ⟨bO, oO, hOe, hbO, fO⟩ := (HI.out _ b1) (by rw [HKO.out]; omega)
          subst hOe
          have dx := fO j (by rw [HKO.out]; omega)
          have dl := fO (k - 1) (by rw [HKO.out]; omega)
          rw [HKO.out] at hgB
          obtain ⟨x, hx⟩ : ∃ x, geti O j = x := ⟨_, rfl⟩
          obtain ⟨z, hz⟩ : ∃ z, geti O (k - 1) = z := ⟨_, rfl⟩
          rw [hx] at dx
          rw [hz] at dl hgB
          have HX := Lib.hid hx
          have HZ := Lib.hid hz
          have hbs1 := b1.size
          have HBx := Lib.hid b1
          clear fO b1
          by_cases he : decide (a < x) = gB
          · have HRY : Hid ((X ++ [x]) ++ P ++ rotGo a gB [] (O.drop (j + 1)) = rot a O) := Lib.hid (by
              rw [← HR.out, drop_cons (l := O) (k := j) (by rw [HKO.out]; omega), HX.out]
              conv => rhs; unfold rotGo
              rw [if_pos he]
              simp)
            cases gB
            all_goals
              go_wp2_with (first
                | (at_builtin; refine wpList_append_own_at _ rfl (.tmp 26) (.tmp 31) 22 rfl W0.heap.size 3 j0 (.int .i64 0) 1 8 Try.underlying22 ji jz0 jz1 jz2 rfl (by decide) _ _ _ rfl (op.alloc _) ⟨wr.heap.size, 0, none⟩ 1 1 [.int .i64 x] rfl rfl (cell_one_new _ _ _) (by simp [Value.oneCell']) (by unfold maxLen; omega) (by omega) (by simp; omega) ?_; intro v2 w2 o2 hg2 _ hat2; rw [← iv_snoc] at o2; have b2 := HBx.out.trans (app1' op hbs1 hg2); have hbs2 := b2.size; have ox2 := (ox.alloc _).kept hg2 hsep.ne; have hsep2 := hsep.app ox (by simp) hat2; obtain ⟨A3, c3, e3, -, hc3, i3⟩ := own_intsI o2; rw [List.length_append, List.length_singleton] at e3; subst e3; obtain ⟨b3, o3, e3, hb3, f3⟩ := i3 (by simp); subst e3; have d3 := f3 P.length (by simp); have hc4 := snoc_le hc3; clear op ox hg2 hat2 dx dl; obtain ⟨bO', oO', hOe', hbO', fO'⟩ := (HI.out _ b2) (by rw [HKO.out]; omega); injection hOe' with hOe'; injection hOe' with hOe1 hOe2; subst hOe1 hOe2; have dx := fO' j (by rw [HKO.out]; omega); have dl := fO' (k - 1) (by rw [HKO.out]; omega); rw [HX.out] at dx; rw [HZ.out] at dl; clear fO')
                | (at_builtin; refine wpList_append_own_at _ rfl (.tmp 49) (.tmp 54) 22 rfl W0.heap.size 3 j0 (.int .i64 0) 1 8 Try.underlying22 ji jz0 jz1 jz2 rfl (by decide) _ _ _ rfl (ox2.alloc _) ⟨w2.heap.size, 0, none⟩ 1 1 [.int .i64 x] rfl rfl (cell_one_new _ _ _) (by simp [Value.oneCell']) (by unfold maxLen; omega) (by omega) (by simp; omega) ?_; intro v4 w4 o4 hg4 _ hat4; rw [← iv_snoc] at o4; have b4 := b2.trans (app1' ox2 hbs2 hg4); have op4 := (o2.alloc _).kept hg4 hsep2.symm.ne; have hsep4 := (hsep2.symm.app o2 (by simp) hat4).symm; obtain ⟨A5, c5, e5, -, -, -⟩ := own_intsI o4; rw [List.length_append, List.length_singleton] at e5; subst e5; obtain ⟨A6, c6, e6, -, -, i6⟩ := own_intsI op4; injection e6 with e61 e62 e63; subst e61 e63; have hn6 := i6.news P.length; rw [List.take_left' rfl] at hn6; clear dx dl d3 ox2 o2 hg4 hat4 e62)
                | (at_builtin; refine wpList_append_own_at _ rfl (.tmp 56) (.tmp 61) 22 rfl W0.heap.size 3 j0 (.int .i64 0) 1 8 Try.underlying22 ji jz0 jz1 jz2 rfl (by decide) _ _ _ rfl o4 ⟨b3, o3, none⟩ P.length c3 (iv P) rfl (by rw [iv_len]; omega) hn6 (iv_one _) (by unfold maxLen; omega) (by omega) b4.size ?_; intro v6 w6 o6 hg6 _ _; rw [← iv_app3] at o6; have b6 := b4.trans ((Below.refl W0.heap.size _).grown hg6 b4.size (fun g hg => (own_ge o4 hg).1)); obtain ⟨A7, c7, e7, -, -, -⟩ := own_intsI o6; rw [List.length_append, List.length_append, List.length_singleton] at e7; subst e7; clear op4 o4 hn6 i6 hg6 hsep4))
              refine ⟨⟨j + 1, (X ++ [x]) ++ P, [], by omega, rfl, fun _ => rfl, HRY, by simp; omega, ?_, ⟨rfl, .inl ⟨rfl, rfl⟩⟩, Sep.nil, b6⟩, by simp [intOf]; omega⟩
              rw [List.length_append, List.length_append, List.length_singleton]
              exact o6
          · have HRN : Hid (X ++ rotGo a gB (P ++ [x]) (O.drop (j + 1)) = rot a O) := Lib.hid (by
              rw [← HR.out, drop_cons (l := O) (k := j) (by rw [HKO.out]; omega), HX.out]
              conv => rhs; unfold rotGo
              rw [if_neg he])
            have HPE : Hid (j + 1 = k → P ++ [x] = []) := Lib.hid (fun e => by
              exfalso
              have e2 : j = k - 1 := by omega
              have e3 : x = z := by rw [← HX.out, ← HZ.out, e2]
              rw [e3] at he
              exact he hgB)
            have g3 : decide (a < x) = !gB := by
              cases h5 : decide (a < x) <;> cases h6 : gB <;> simp_all
            cases gB
            all_goals
              go_wp2_with (first
                | (at_builtin; refine wpList_append_own_at _ rfl (.tmp 26) (.tmp 31) 22 rfl W0.heap.size 3 j0 (.int .i64 0) 1 8 Try.underlying22 ji jz0 jz1 jz2 rfl (by decide) _ _ _ rfl (op.alloc _) ⟨wr.heap.size, 0, none⟩ 1 1 [.int .i64 x] rfl rfl (cell_one_new _ _ _) (by simp [Value.oneCell']) (by unfold maxLen; omega) (by omega) (by simp; omega) ?_; intro v2 w2 o2 hg2 _ hat2; rw [← iv_snoc] at o2; have b2 := HBx.out.trans (app1' op hbs1 hg2); have hbs2 := b2.size; have ox2 := (ox.alloc _).kept hg2 hsep.ne; have hsep2 := hsep.app ox (by simp) hat2; obtain ⟨A3, c3, e3, -, hc3, i3⟩ := own_intsI o2; rw [List.length_append, List.length_singleton] at e3; subst e3; obtain ⟨b3, o3, e3, hb3, f3⟩ := i3 (by simp); subst e3; have d3 := f3 P.length (by simp); have hc4 := snoc_le hc3; clear op ox hg2 hat2 dx dl; obtain ⟨bO', oO', hOe', hbO', fO'⟩ := (HI.out _ b2) (by rw [HKO.out]; omega); injection hOe' with hOe'; injection hOe' with hOe1 hOe2; subst hOe1 hOe2; have dx := fO' j (by rw [HKO.out]; omega); have dl := fO' (k - 1) (by rw [HKO.out]; omega); rw [HX.out] at dx; rw [HZ.out] at dl; clear fO'))
              refine ⟨⟨j + 1, X, P ++ [x], by omega, rfl, HPE.out, HRN, by simp; omega, ox2, ?_, hsep2, b2⟩, by simp [intOf]; omega⟩
              rw [List.length_append, List.length_singleton]
              exact o2
        · obtain rfl : j = k := by omega
          obtain rfl := hpe rfl
          have HRE : Hid (X = rot a O) := Lib.hid (by
            have := HR.out
            rw [List.drop_eq_nil_of_le (by rw [HKO.out]; omega)] at this
            simpa [rotGo] using this)
          rw [← HRE.out] at HS
          clear HR op hsep hpe HRE hgB
          have hxl : X.length = j := by simpa using hxp
          clear hxp
          have hbs1 := b1.size
          go_wp2_with (at_builtin; refine wpList_append_own_at _ rfl (.tmp 63) (.tmp 65) 22 rfl W0.heap.size 3 j0 (.int .i64 0) 1 8 Try.underlying22 ji jz0 jz1 jz2 rfl (by decide) _ _ _ rfl (ox.alloc _) ⟨wr.heap.size, 0, none⟩ 1 1 [.int .i64 a] rfl rfl (cell_one_new _ _ _) (by simp [Value.oneCell']) (by unfold maxLen; omega) (by omega) (by simp; omega) ?_; intro v2 w2 o2 hg2 _ _; rw [← iv_snoc, ← HS.out] at o2; have b2 := b1.trans (app1' ox hbs1 hg2))
          rw [hxl] at o2
          exact ⟨⟨j + 1, by omega, rfl, own_mono o2 hbs, b0.trans (b2.mono hbs)⟩, by simp [intOf]; omega⟩
    · obtain rfl : k = l.length := by omega
      go_wp2
      go_ret
      exact ⟨_, rfl, by rw [HSS.out]; exact o0, b0⟩
end Go.Proofs.Ytheblebfeinjjaa
/- The reference's first order. -/
namespace Go.Proofs.Ytheblebfeinjjaa
open Go.RowKit
set_option maxHeartbeats 2000000
set_option maxRecDepth 100000
/-- The numbers from one place up to another. -/
def seg (X : List Int) (k t : Nat) : List Int := (X.take t).drop k
theorem seg_len (X : List Int) {k t : Nat} (h1 : k ≤ t) (h2 : t ≤ X.length) : (seg X k t).length = t - k := by
  unfold seg; rw [List.length_drop, List.length_take]; omega
theorem seg_none (X : List Int) (k : Nat) : seg X k k = [] := by unfold seg; exact List.drop_eq_nil_of_le (by rw [List.length_take]; omega)
theorem seg_snoc {X : List Int} {k t : Nat} (h1 : k ≤ t) (h2 : t < X.length) : seg X k (t + 1) = seg X k t ++ [geti X t] := by
  unfold seg
  rw [take_snoc h2, List.drop_append_of_le_length (by rw [List.length_take]; omega)]
theorem seg_cons {X : List Int} {k t : Nat} (h1 : k < t) (h2 : t ≤ X.length) : seg X k t = geti X k :: seg X (k + 1) t := by
  unfold seg
  rw [drop_cons (l := X.take t) (k := k) (by rw [List.length_take]; omega)]
  congr 1
  unfold geti
  simp [h1]
theorem btl_more {a : Int} {g : Bool} {X : List Int} {k s : Nat} (h1 : k ≤ s) (h2 : s + 1 < X.length) (hd : decide (a < geti X (s + 1)) ≠ g) :
    btlGo a g (seg X k s) (X.drop s) = btlGo a g (seg X k (s + 1)) (X.drop (s + 1)) := by
  rw [drop_cons (show s < X.length by omega)]
  conv => lhs; unfold btlGo
  rw [if_neg, seg_snoc h1 (by omega)]
  rintro (e | e)
  · rw [drop_cons h2] at e; cases e
  · rw [drop_cons h2] at e; exact hd e
theorem btl_end {a : Int} {g : Bool} {X : List Int} {k s : Nat} (h1 : k ≤ s) (h2 : s < X.length) (hd : s + 1 = X.length ∨ decide (a < geti X (s + 1)) = g) :
    btlGo a g (seg X k s) (X.drop s) = (seg X (k + 1) (s + 1) ++ [geti X k]) ++ btlGo a g [] (X.drop (s + 1)) := by
  rw [drop_cons h2]
  conv => lhs; unfold btlGo
  rw [if_pos, ← seg_snoc h1 h2, seg_cons (by omega) (by omega)]
  · rfl
  · rcases hd with hd | hd
    · left; rw [hd, List.drop_length]
    · by_cases e : s + 1 < X.length
      · right; rw [drop_cons e]; exact hd
      · left; exact List.drop_eq_nil_of_le (by omega)
theorem fstN_all (l : List Int) : fstN l l.length = fst' l := by
  unfold fst'
  cases hn : l.length with
  | zero => rfl
  | succ n =>
    show fstN l (n + 1) = fstN l (n + 1 - 1)
    rw [Nat.add_sub_cancel]
    conv => lhs; unfold fstN
    rw [hn, show n + 1 - 1 - n = 0 by omega, List.take_zero, List.drop_zero]
    rfl
theorem seg_at {X : List Int} {k t j : Nat} (h : k + j < t) : geti (seg X k t) j = geti X (k + j) := by
  unfold seg geti
  rw [List.getD_eq_getElem?_getD, List.getD_eq_getElem?_getD, List.getElem?_drop, List.getElem?_take, if_pos h]
theorem seg_news {w : World} {b o : Nat} {X : List Int} {k t : Nat} (h1 : k ≤ t) (h2 : t ≤ X.length) (h : ∀ i, i < X.length → w.cell? ⟨b, o + i, none⟩ = some (.int .i64 (geti X i))) :
    ∀ j u, (iv (seg X k t))[j]? = some u → w.cell? ((⟨b, o + k, none⟩ : Addr).add j) = some u := by
  intro j u hj
  have hjl := (List.getElem?_eq_some_iff.1 hj).1
  rw [iv_len, seg_len X h1 h2] at hjl
  rw [WideShapes.add_plain, Nat.add_assoc, h (k + j) (by omega), ← hj]
  have hl : j < (seg X k t).length := by rw [seg_len X h1 h2]; exact hjl
  unfold iv
  rw [List.getElem?_map, List.getElem?_eq_getElem hl]
  have e : (seg X k t)[j] = geti X (k + j) := by rw [← geti_eq hl, seg_at (by omega)]
  rw [e]; rfl
theorem fst_cut (l : List Int) {m : Nat} (h : m < l.length) : (fstN l (m + 1)).take (l.length - (m + 1)) = btl (geti (fstN l m) (l.length - 1 - m)) ((fstN l m).take (l.length - 1 - m)) := by
  have e : (btl (geti (fstN l m) (l.length - 1 - m)) ((fstN l m).take (l.length - 1 - m))).length = l.length - (m + 1) := by rw [btl_len, List.length_take, fstN_len]; omega
  conv => lhs; unfold fstN
  rw [List.take_left' e]
theorem fst_rest (l : List Int) {m : Nat} (h : m < l.length) : (fstN l (m + 1)).drop (l.length - (m + 1)) = geti (fstN l m) (l.length - 1 - m) :: (fstN l m).drop (l.length - m) := by
  have e : (btl (geti (fstN l m) (l.length - 1 - m)) ((fstN l m).take (l.length - 1 - m))).length = l.length - (m + 1) := by rw [btl_len, List.length_take, fstN_len]; omega
  conv => lhs; unfold fstN
  rw [List.drop_left' e, drop_cons (l := fstN l m) (by rw [fstN_len]; omega), show l.length - 1 - m + 1 = l.length - m by omega]
theorem ints_cut {w : World} {b o : Nat} {F : List Int} (hb : b < w.heap.size) (h : ∀ i, i < F.length → w.cell? ⟨b, o + i, none⟩ = some (.int .i64 (geti F i))) (k : Nat) : IntsAt w (some ⟨b, o, none⟩) (F.take k) := fun _ => ⟨b, o, rfl, hb, fun i hi => by
  rw [List.length_take] at hi
  rw [h i (by omega), geti_take (h := by omega)]⟩
theorem refFirst_any (A : Option Addr) (c : Nat) (l : List Int) (w : World) (hle : l.length ≤ 1000000) (hc : l.length ≤ c) (ha : IntsAt w A l) :
    Calls Try.prog 34 #[.slice A l.length c] w fun e w' => ∃ v, e = .returned v ∧ w'.ownsRow w.heap.size 3 1 v l.length (iv (fst' l)) ∧ Below w.heap.size w w' := by
  obtain ⟨j0, ji, jz0, jz1, jz2⟩ := info_parts info3
  have HFL := Lib.hid (fstN_len l)
  have HFA := Lib.hid (fstN_all l)
  have HFC := Lib.hid (fun m (h : m < l.length) => fst_cut l h)
  have HFR := Lib.hid (fun m (h : m < l.length) => fst_rest l h)
  have a0 : IntsAt w A ((fstN l 0).take (l.length - 0)) := by
    have e : (fstN l 0).take (l.length - 0) = l := by rw [Nat.sub_zero]; exact List.take_length
    rw [e]; exact ha
  have o0 : w.ownsRow w.heap.size 3 1 (.slice none 0 0) 0 (iv ((fstN l 0).drop (l.length - 0))) := by
    have e : (fstN l 0).drop (l.length - 0) = [] := by rw [Nat.sub_zero]; exact List.drop_length
    rw [e]; exact ⟨rfl, .inl ⟨rfl, rfl⟩⟩
  have b0 : Below w.heap.size w w := Below.refl _ _
  clear ha
  generalize l.length = n at *
  go_enter Try.func34, Try.ntmps34
  go_wp2
  go_loopw [3, 4] (fun nv ov wr => ∃ (m : Nat) (AN : Option Addr) (cN : Nat), m ≤ n ∧ n - m ≤ cN ∧ nv = .slice AN (n - m : Nat) cN ∧ IntsAt wr AN ((fstN l m).take (n - m)) ∧ wr.ownsRow w.heap.size 3 1 ov m (iv ((fstN l m).drop (n - m))) ∧ Below w.heap.size w wr) (fun nv _ _ => slen nv)
  case atStart => exact ⟨0, A, c, by omega, by omega, rfl, a0, o0, b0⟩
  case round =>
    clear a0 o0 b0 hc
    obtain ⟨m, AN, cN, hm, hcN, rfl, a0, o0, b0⟩ := hrel
    have HO := Lib.hid o0
    have hbs := b0.size
    obtain ⟨A2, c2, e2, -, -, -⟩ := own_intsI o0
    have hL2 : ((fstN l m).drop (n - m)).length = m := by rw [List.length_drop, HFL.out]; omega
    rw [hL2] at e2
    subst e2
    clear hL2
    by_cases hlt : m < n
    · obtain ⟨bN, oN, hNe, hbN, f1⟩ := a0 (by rw [List.length_take, HFL.out]; omega)
      subst hNe
      have HCUT := HFC.out m hlt
      have HRST := HFR.out m hlt
      obtain ⟨p, hp⟩ : ∃ p, n - m = p + 1 := ⟨n - m - 1, by omega⟩
      rw [show n - (m + 1) = p by omega, show n - 1 - m = p by omega] at HCUT HRST
      rw [hp] at HRST f1 hcN o0 HO
      have hFl := HFL.out m
      have f2 : ∀ i, i < p + 1 → wr.cell? ⟨bN, oN + i, none⟩ = some (.int .i64 (geti (fstN l m) i)) := fun i hi => by
        have := f1 i (by rw [List.length_take, hFl]; omega)
        rwa [geti_take (h := hi)] at this
      have hpn : m + p + 1 = n := by omega
      clear f1 a0
      generalize fstN l m = F at *
      have hXl : (F.take p).length = p := by rw [List.length_take]; omega
      have da := f2 p (by omega)
      have fX : ∀ i, i < (F.take p).length → wr.cell? ⟨bN, oN + i, none⟩ = some (.int .i64 (geti (F.take p) i)) := fun i hi => by
        rw [hXl] at hi
        rw [f2 i (by omega), geti_take (h := hi)]
      clear f2
      obtain ⟨a, hae⟩ : ∃ a, geti F p = a := ⟨_, rfl⟩
      rw [hae] at HCUT HRST da
      have HCU := Lib.hid HCUT
      have HRS := Lib.hid HRST
      have HNL := Lib.hid hpn
      clear HCUT HRST hae hFl
      generalize F.take p = X at *
      have HXL := Lib.hid hXl
      have HFX := Lib.hid (fun (V : World) (hb : Below wr.heap.size wr V) (i : Nat) (hi : i < p) => (hb.cell (p := ⟨bN, oN + i, none⟩) hbN).trans (fX i (by rw [HXL.out]; exact hi)))
      have g1 : decide ((0 : Int) < (((p + 1 : Nat)) : Int)) = true := decide_eq_true (by omega)
      rw [hp]
      clear hp fX hXl
      generalize wr = W0 at *
      obtain ⟨gB, hgB⟩ : ∃ gB, decide (a < geti X 0) = gB := ⟨_, rfl⟩
      have HB0 : Hid (([] : List Int) ++ btlGo a gB (seg X 0 0) (X.drop 0) = btl a X) := Lib.hid (by rw [← hgB]; rfl)
      go_wp2
      have o1 : W0.ownsRow W0.heap.size 3 1 (.slice none 0 0) 0 (iv ([] : List Int)) := ⟨rfl, .inl ⟨rfl, rfl⟩⟩
      have b1 : Below W0.heap.size W0 W0 := Below.refl _ _
      go_loopw [6, 7] (fun bk kv V => ∃ (k : Nat) (B : List Int), k ≤ p ∧ kv = .int .i64 k ∧ B.length = k ∧ Hid (B ++ btlGo a gB [] (X.drop k) = btl a X) ∧ V.ownsRow W0.heap.size 3 1 bk k (iv B) ∧ Below W0.heap.size W0 V) (fun _ kv _ => p - (intOf kv).toNat)
      case atStart => exact ⟨0, [], by omega, rfl, rfl, HB0, o1, b1⟩
      case round =>
        clear o1 b1 HB0
        obtain ⟨k, B, hk, rfl, hBl, HB, o1, b1⟩ := hrel
        have HBL := Lib.hid hBl
        obtain ⟨A4, c4, e4, -, hcB, -⟩ := own_intsI o1
        rw [hBl] at e4 hcB
        subst e4
        clear hBl
        by_cases hkp : k < p
        · have g2 : decide ((k : Int) < (p : Int)) = true := decide_eq_true (by omega)
          have HB2 : Hid (B ++ btlGo a gB (seg X k k) (X.drop k) = btl a X) := Lib.hid (by rw [seg_none]; exact HB.out)
          obtain ⟨x0, hx0⟩ : ∃ x0, geti X 0 = x0 := ⟨_, rfl⟩
          have HX0 := Lib.hid hx0
          rw [hx0] at hgB
          clear HB hx0
          go_wp2
          go_loopw [8] (fun ev V => ∃ s : Nat, k ≤ s ∧ s < p ∧ ev = .int .i64 ((s : Int) + 1) ∧ Hid (B ++ btlGo a gB (seg X k s) (X.drop s) = btl a X) ∧ V.ownsRow W0.heap.size 3 1 (.slice A4 k c4) k (iv B) ∧ Below W0.heap.size W0 V) (fun ev _ => p - (intOf ev).toNat)
          case atStart => exact ⟨k, by omega, hkp, rfl, HB2, o1, b1⟩
          case round =>
            clear o1 b1 HB2
            obtain ⟨s, hks, hsp, rfl, HB2, o1, b1⟩ := hrel
            have d0 : wr.cell? ⟨bN, oN, none⟩ = some (.int .i64 x0) := by
              have := HFX.out _ b1 0 (by omega)
              rwa [HX0.out] at this
            by_cases hs1 : s + 1 < p
            · have g3 : decide ((s : Int) + 1 < (p : Int)) = true := decide_eq_true (by omega)
              have dy := HFX.out _ b1 (s + 1) hs1
              obtain ⟨y, hy⟩ : ∃ y, geti X (s + 1) = y := ⟨_, rfl⟩
              rw [hy] at dy
              have HY := Lib.hid hy
              clear hy
              by_cases he : decide (a < y) = gB
              · have HEND := Lib.hid (by rw [← HB2.out, btl_end hks (by rw [HXL.out]; exact hsp) (Or.inr (by rw [HY.out]; exact he))]; simp [List.append_assoc] : ((B ++ seg X (k + 1) (s + 1)) ++ [geti X k]) ++ btlGo a gB [] (X.drop (s + 1)) = btl a X)
                cases gB
                all_goals
                  go_wp2
                  refine wp_region_quiet_lit (by kernel_rfl) (by kernel_rfl) ?_
                  repeat go_big_quiet_step ((fail))
                  refine wpQuiet_nil ?_
                  rintro _ ⟨nq, rfl⟩
                  have o2 := o1.kept' (below_drewN nq)
                  have b2 := b1.trans (below_drewN nq)
                  clear d0 dy o1 b1
                  generalize wr.drewN nq = wr at *
                  have hn3 := seg_news (t := s + 1) (k := k + 1) (X := X) (b := bN) (o := oN) (w := wr) (by omega) (by rw [HXL.out]; omega) (fun i hi => HFX.out wr b2 i (by rw [HXL.out] at hi; exact hi))
                  have hbs2 := b2.size
                  have hsl : (seg X (k + 1) (s + 1)).length = s - k := by rw [seg_len X (by omega) (by rw [HXL.out]; omega)]; omega
                  have HSL := Lib.hid hsl
                  have HL6 : Hid ((B ++ seg X (k + 1) (s + 1)).length = s) := Lib.hid (by rw [List.length_append, HBL.out, hsl]; omega)
                  have HL7 : Hid (((B ++ seg X (k + 1) (s + 1)) ++ [geti X k]).length = s + 1) := Lib.hid (by rw [List.length_append, HL6.out]; rfl)
                  have HEN := Lib.hid HEND.out
                  have hks0 : k + (s - k) + 1 = s + 1 := by omega
                  have HKS := Lib.hid hks0
                  clear hsl HEND hks0
                  obtain ⟨xk, hxk⟩ : ∃ xk, geti X k = xk := ⟨_, rfl⟩
                  have HXK := Lib.hid hxk
                  rw [hxk] at HEN HL7
                  clear hxk
                  generalize seg X (k + 1) (s + 1) = G at *
                  go_wp2_with (first
                    | (at_builtin; refine wpList_append_own_at _ rfl (.tmp 51) (.tmp 56) 22 rfl W0.heap.size 3 j0 (.int .i64 0) 1 8 Try.underlying22 ji jz0 jz1 jz2 rfl (by decide) _ _ _ rfl o2 ⟨bN, oN + (k + 1), none⟩ (s - k) (cN - (k + 1)) (iv G) rfl (by rw [iv_len, HSL.out]; omega) hn3 (iv_one _) (by unfold maxLen; omega) (by omega) hbs2 ?_; intro v5 w5 o5 hg5 _ _; rw [← iv_app3] at o5; have b5 := b2.trans ((Below.refl W0.heap.size _).grown hg5 hbs2 (fun g hg => (own_ge o2 hg).1)); have hbs5 := b5.size; obtain ⟨A6, c6, e6, -, -, -⟩ := own_intsI o5; rw [HL6.out] at e6; subst e6; have dk := HFX.out _ b5 k hkp; rw [HXK.out] at dk; clear o2 hn3 hg5 b2 hbs2)
                    | (at_builtin; refine wpList_append_own_at _ rfl (.tmp 58) (.tmp 63) 22 rfl W0.heap.size 3 j0 (.int .i64 0) 1 8 Try.underlying22 ji jz0 jz1 jz2 rfl (by decide) _ _ _ rfl (o5.alloc _) ⟨w5.heap.size, 0, none⟩ 1 1 [.int .i64 xk] rfl rfl (cell_one_new _ _ _) (by simp [Value.oneCell']) (by unfold maxLen; omega) (by omega) (by simp; omega) ?_; intro v7 w7 o7 hg7 _ _; rw [← iv_snoc, HKS.out] at o7; have b7 := b5.trans (app1' o5 hbs5 hg7); clear o5 hg7 b5 dk)
                    | (at_builtin; fail))
                  exact ⟨⟨s + 1, (B ++ G) ++ [xk], by omega, by go_num, HL7.out, HEN, o7, b7⟩, by simp [intOf]; omega⟩
              · have HMORE := Lib.hid (by rw [← btl_more hks (by rw [HXL.out]; exact hs1) (by rw [HY.out]; exact he)]; exact HB2.out : B ++ btlGo a gB (seg X k (s + 1)) (X.drop (s + 1)) = btl a X)
                have g5 : decide (a < y) = !gB := by
                  cases h5 : decide (a < y) <;> cases h6 : gB <;> simp_all
                clear he HB2
                cases gB
                all_goals
                  go_wp2
                  refine wp_region_quiet_lit (by kernel_rfl) (by kernel_rfl) ?_
                  repeat go_big_quiet_step ((fail))
                  refine wpQuiet_nil ?_
                  rintro _ ⟨nq, rfl⟩
                  have o2 := o1.kept' (below_drewN nq)
                  have b2 := b1.trans (below_drewN nq)
                  go_wp2
                  exact ⟨⟨s + 1, by omega, by omega, by go_num, HMORE, o2, b2⟩, by simp [intOf]; omega⟩
            · have hs2 : s + 1 = p := by omega
              have HEND := Lib.hid (by rw [← HB2.out, btl_end hks (by rw [HXL.out]; exact hsp) (Or.inl (by rw [HXL.out]; exact hs2))]; simp [List.append_assoc] : ((B ++ seg X (k + 1) (s + 1)) ++ [geti X k]) ++ btlGo a gB [] (X.drop (s + 1)) = btl a X)
              have g3 : decide ((s : Int) + 1 < (p : Int)) = false := decide_eq_false (by omega)
              clear hs2
              go_wp2
              refine wp_region_quiet_lit (by kernel_rfl) (by kernel_rfl) ?_
              repeat go_big_quiet_step ((fail))
              refine wpQuiet_nil ?_
              rintro _ ⟨nq, rfl⟩
              have o2 := o1.kept' (below_drewN nq)
              have b2 := b1.trans (below_drewN nq)
              clear d0 o1 b1
              generalize wr.drewN nq = wr at *
              have hn3 := seg_news (t := s + 1) (k := k + 1) (X := X) (b := bN) (o := oN) (w := wr) (by omega) (by rw [HXL.out]; omega) (fun i hi => HFX.out wr b2 i (by rw [HXL.out] at hi; exact hi))
              have hbs2 := b2.size
              have hsl : (seg X (k + 1) (s + 1)).length = s - k := by rw [seg_len X (by omega) (by rw [HXL.out]; omega)]; omega
              have HSL := Lib.hid hsl
              have HL6 : Hid ((B ++ seg X (k + 1) (s + 1)).length = s) := Lib.hid (by rw [List.length_append, HBL.out, hsl]; omega)
              have HL7 : Hid (((B ++ seg X (k + 1) (s + 1)) ++ [geti X k]).length = s + 1) := Lib.hid (by rw [List.length_append, HL6.out]; rfl)
              have HEN := Lib.hid HEND.out
              have hks0 : k + (s - k) + 1 = s + 1 := by omega
              have HKS := Lib.hid hks0
              clear hsl HEND hks0
              obtain ⟨xk, hxk⟩ : ∃ xk, geti X k = xk := ⟨_, rfl⟩
              have HXK := Lib.hid hxk
              rw [hxk] at HEN HL7
              clear hxk
              generalize seg X (k + 1) (s + 1) = G at *
              go_wp2_with (first
                | (at_builtin; refine wpList_append_own_at _ rfl (.tmp 51) (.tmp 56) 22 rfl W0.heap.size 3 j0 (.int .i64 0) 1 8 Try.underlying22 ji jz0 jz1 jz2 rfl (by decide) _ _ _ rfl o2 ⟨bN, oN + (k + 1), none⟩ (s - k) (cN - (k + 1)) (iv G) rfl (by rw [iv_len, HSL.out]; omega) hn3 (iv_one _) (by unfold maxLen; omega) (by omega) hbs2 ?_; intro v5 w5 o5 hg5 _ _; rw [← iv_app3] at o5; have b5 := b2.trans ((Below.refl W0.heap.size _).grown hg5 hbs2 (fun g hg => (own_ge o2 hg).1)); have hbs5 := b5.size; obtain ⟨A6, c6, e6, -, -, -⟩ := own_intsI o5; rw [HL6.out] at e6; subst e6; have dk := HFX.out _ b5 k hkp; rw [HXK.out] at dk; clear o2 hn3 hg5 b2 hbs2)
                | (at_builtin; refine wpList_append_own_at _ rfl (.tmp 58) (.tmp 63) 22 rfl W0.heap.size 3 j0 (.int .i64 0) 1 8 Try.underlying22 ji jz0 jz1 jz2 rfl (by decide) _ _ _ rfl (o5.alloc _) ⟨w5.heap.size, 0, none⟩ 1 1 [.int .i64 xk] rfl rfl (cell_one_new _ _ _) (by simp [Value.oneCell']) (by unfold maxLen; omega) (by omega) (by simp; omega) ?_; intro v7 w7 o7 hg7 _ _; rw [← iv_snoc, HKS.out] at o7; have b7 := b5.trans (app1' o5 hbs5 hg7); clear o5 hg7 b5 dk)
                | (at_builtin; fail))
              exact ⟨⟨s + 1, (B ++ G) ++ [xk], by omega, by go_num, HL7.out, HEN, o7, b7⟩, by simp [intOf]; omega⟩
        · obtain rfl : k = p := by omega
          have HRE : Hid (B = btl a X) := Lib.hid (by
            have := HB.out
            rw [List.drop_eq_nil_of_le (by rw [HXL.out]; omega)] at this
            simpa [btlGo] using this)
          have e8 : n - (m + 1) = k := by have := HNL.out; omega
          have HE8 := Lib.hid e8
          clear HB e8
          have hbs1 := b1.size
          have hm9 : m + 1 ≤ n := by omega
          rcases HO.out.2 with ⟨e, h0⟩ | ⟨g, cap, cur, e, -⟩
          · injection e with e1 e2 e3
            subst e1 h0 e3
            clear e2
            have HDN : Hid (F.drop (k + 1) = []) := Lib.hid (by
              have := HO.out.1
              rw [iv_len] at this
              exact List.eq_nil_of_length_eq_zero (by omega))
            go_wp2_with (first
              | (at_builtin; refine wpList_append_own_at _ rfl (.tmp 67) (.tmp 69) 22 rfl W0.heap.size 3 j0 (.int .i64 0) 1 8 Try.underlying22 ji jz0 jz1 jz2 rfl (by decide) _ _ _ rfl (World.ownsRow_nil (wr.alloc _) W0.heap.size 3 1) ⟨wr.heap.size, 0, none⟩ 1 1 [.int .i64 a] rfl rfl (cell_one_new _ _ _) (by simp [Value.oneCell']) (by unfold maxLen; omega) (by omega) (by simp; omega) ?_; intro v5 w5 o5 hg5 _ hat5; have b5 := b1.trans (app1' (World.ownsRow_nil wr W0.heap.size 3 1) hbs1 hg5); have hbs5 := b5.size; have o15 := (o1.alloc _).kept hg5 (Classical.em _); have hsep5 := Sep.app (w := wr) Sep.nil o1 (by simp) hat5; replace o5 : w5.ownsRow W0.heap.size 3 1 v5 1 (iv [a]) := o5; have ho5 := HO.out.kept' b5; obtain ⟨A6, c6, e6, -, -, -⟩ := own_intsI o5; subst e6; clear hg5 hat5 o1 b1)
              | (at_builtin; refine wpList_append_own_none rfl (.tmp 71) (.tmp 72) 22 rfl W0.heap.size 3 j0 1 Try.underlying22 ji _ 1 _ rfl o5 rfl ?_))
            refine ⟨⟨0 + 1, A4, c4, by omega, by rw [HE8.out]; exact hcB, by rw [HE8.out], by rw [HE8.out, HCU.out, ← HRE.out]; obtain ⟨A9, c9, e9, -, -, i9⟩ := own_intsI o15; injection e9 with e91; subst e91; exact i9, by rw [HE8.out, HRS.out, HDN.out]; exact own_mono o5 hbs, b0.trans (b5.mono hbs)⟩, by simp [slen]⟩
          · injection e with e1 e2 e3
            subst e1 e3
            clear e2
            go_wp2_with (first
              | (at_builtin; refine wpList_append_own_at _ rfl (.tmp 67) (.tmp 69) 22 rfl W0.heap.size 3 j0 (.int .i64 0) 1 8 Try.underlying22 ji jz0 jz1 jz2 rfl (by decide) _ _ _ rfl (World.ownsRow_nil (wr.alloc _) W0.heap.size 3 1) ⟨wr.heap.size, 0, none⟩ 1 1 [.int .i64 a] rfl rfl (cell_one_new _ _ _) (by simp [Value.oneCell']) (by unfold maxLen; omega) (by omega) (by simp; omega) ?_; intro v5 w5 o5 hg5 _ hat5; have b5 := b1.trans (app1' (World.ownsRow_nil wr W0.heap.size 3 1) hbs1 hg5); have hbs5 := b5.size; have o15 := (o1.alloc _).kept hg5 (Classical.em _); have hsep5 := Sep.app (w := wr) Sep.nil o1 (by simp) hat5; replace o5 : w5.ownsRow W0.heap.size 3 1 v5 1 (iv [a]) := o5; have ho5 := HO.out.kept' b5; obtain ⟨A6, c6, e6, -, -, -⟩ := own_intsI o5; subst e6; clear hg5 hat5 o1 b1)
              | (at_builtin; refine wpList_append_own_at _ rfl (.tmp 71) (.tmp 72) 22 rfl W0.heap.size 3 j0 (.int .i64 0) 1 8 Try.underlying22 ji jz0 jz1 jz2 rfl (by decide) _ _ _ rfl o5 ⟨g, 0, none⟩ m c2 (iv (F.drop (k + 1))) rfl (by have := ho5.1; omega) (ho5.cells (g := g) rfl) (iv_one _) (by unfold maxLen; omega) (by omega) hbs5 ?_; intro v7 w7 o7 hg7 _ _; have b7 := b5.trans ((Below.refl W0.heap.size _).grown hg7 hbs5 (fun g hg => (own_ge o5 hg).1)); have o17 := o15.kept hg7 hsep5.ne; rw [← iv_app3, Nat.add_comm 1 m] at o7))
            refine ⟨⟨m + 1, A4, c4, by omega, by rw [HE8.out]; exact hcB, by rw [HE8.out], by rw [HE8.out, HCU.out, ← HRE.out]; obtain ⟨A9, c9, e9, -, -, i9⟩ := own_intsI o17; injection e9 with e91; subst e91; exact i9, by rw [HE8.out, HRS.out]; exact own_mono o7 hbs, b0.trans (b7.mono hbs)⟩, by simp [slen]⟩
    · obtain rfl : m = n := by omega
      have g1 : decide ((0 : Int) < ((m - m : Nat) : Int)) = false := decide_eq_false (by omega)
      have e9 : (fstN l m).drop (m - m) = fst' l := by rw [Nat.sub_self, List.drop_zero]; exact HFA.out
      rw [e9] at o0
      go_wp2
      go_ret
      exact ⟨_, rfl, o0, b0⟩
end Go.Proofs.Ytheblebfeinjjaa
