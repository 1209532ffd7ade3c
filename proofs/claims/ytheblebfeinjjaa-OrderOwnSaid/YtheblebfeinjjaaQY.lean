/- The reference's second order. -/
import Derived.Test.YtheblebfeinjjaaQM
import Derived.Test.YtheblebfeinjjaaNC
import Derived.Test.YtheblebfeinjjaaOC
namespace Go.Proofs.Ytheblebfeinjjaa
open Go.RowKit
set_option maxHeartbeats 2000000
set_option maxRecDepth 100000
/-- Two lists of the call's own do not share memory. -/
def Sep (u v : Value) : Prop := ∀ g, u.ownBlock = some g → v.ownBlock ≠ some g
theorem Sep.symm {u v : Value} (h : Sep u v) : Sep v u := fun g h1 h2 => h g h2 h1
theorem Sep.nil {u : Value} : Sep u (.slice none 0 0) := fun g _ h2 => by simp [Value.ownBlock] at h2
theorem Sep.ne {u v : Value} (h : Sep u v) : u.ownBlock = none ∨ u.ownBlock ≠ v.ownBlock := by
  cases hu : u.ownBlock with
  | none => exact .inl rfl
  | some g => exact .inr (fun e => h g hu e.symm)
theorem Sep.app {w : World} {u v v' : Value} {B m n z : Nat} {e : TypeId} {xs : List Value} (h : Sep u v) (hu : w.ownsRow B e z u m xs) (hn : w.heap.size ≤ n) (hat : v'.ownBlock = v.ownBlock ∨ v'.ownBlock = some n) : Sep u v' := fun g h1 h2 => by
  rcases hat with e | e
  · rw [e] at h2; exact h g h1 h2
  · rw [e] at h2
    injection h2 with h2
    have := (own_ge hu h1).2.1
    omega
theorem iv_app3 (X Y : List Int) : iv (X ++ Y) = iv X ++ iv Y := by simp [iv]
theorem snoc_le {P : List Int} {x : Int} {c : Nat} (h : (P ++ [x]).length ≤ c) : P.length ≤ c := by simp at h; omega
theorem alloc_size (w : World) (o : Obj) : (w.alloc o).heap.size = w.heap.size + 1 := by simp
theorem refSecond_any (A : Option Addr) (c : Nat) (l : List Int) (w : World) (hle : l.length ≤ 1000000) (ha : IntsAt w A l) :
    Calls Try.prog 33 #[.slice A l.length c] w fun e w' => ∃ v, e = .returned v ∧ w'.ownsRow w.heap.size 3 1 v l.length (iv (sec l)) ∧ Below w.heap.size w w' := by
  obtain ⟨j0, ji, jz0, jz1, jz2⟩ := info_parts info3
  have HA := Lib.hid ha
  have HSL := Lib.hid (fun k (hk : k ≤ l.length) => secN_len l hk)
  have HSN : Hid (∀ k, secN l (k + 1) = rot (geti l k) (secN l k) ++ [geti l k]) := Lib.hid (fun k => rfl)
  have HSS : Hid (sec l = secN l l.length) := Lib.hid rfl
  have o0 : w.ownsRow w.heap.size 3 1 (.slice none 0 0) 0 (iv (secN l 0)) := ⟨rfl, .inl ⟨rfl, rfl⟩⟩
  have b0 : Below w.heap.size w w := Below.refl _ _
  clear ha
  go_enter Try.func33, Try.ntmps33
  go_wp2
  go_loopw [3, 4] (fun v i wr => ∃ k : Nat, k ≤ l.length ∧ i = .int .i64 k ∧ wr.ownsRow w.heap.size 3 1 v k (iv (secN l k)) ∧ Below w.heap.size w wr) (fun _ i _ => l.length - (intOf i).toNat)
  case atStart => exact ⟨0, by omega, rfl, o0, b0⟩
  case round =>
    clear o0 b0
    obtain ⟨k, hk, rfl, o0, b0⟩ := hrel
    by_cases hlt : k < l.length
    · have g1 : decide ((k : Int) < (l.length : Int)) = true := decide_eq_true (by omega)
      obtain ⟨bA, oA, hAe, hbA, f1⟩ := (HA.out.below b0) (by omega)
      subst hAe
      have da := f1 k hlt
      have HO := Lib.hid o0
      have hbs := b0.size
      obtain ⟨A2, c2, e2, -, -, i2⟩ := own_intsI o0
      have hO := HSL.out k hk
      rw [hO] at e2
      subst e2
      have HS := Lib.hid (HSN.out k)
      obtain ⟨O, hOe⟩ : ∃ O, secN l k = O := ⟨_, rfl⟩
      obtain ⟨a, hae⟩ : ∃ a, geti l k = a := ⟨_, rfl⟩
      rw [hOe] at hO HS HO i2 
      rw [hae] at HS da
      clear f1 o0
      obtain ⟨gB, hgB⟩ : ∃ gB, decide (a < geti O (O.length - 1)) = gB := ⟨_, rfl⟩
      have HR0 : Hid (([] : List Int) ++ rotGo a gB [] (O.drop 0) = rot a O) := Lib.hid (by rw [← hgB]; rfl)
      have o1 : wr.ownsRow wr.heap.size 3 1 (.slice none 0 0) ([] : List Int).length (iv ([] : List Int)) := ⟨rfl, .inl ⟨rfl, rfl⟩⟩
      have b1 : Below wr.heap.size wr wr := Below.refl _ _
      have HI := Lib.hid (fun (V : World) (hb : Below wr.heap.size wr V) => i2.below hb)
      have HKO := Lib.hid hO
      clear hOe hae hO
      generalize wr = W0 at *
      go_wp2
      go_loopw [6, 7, 8] (fun nx pt kv V => ∃ (j : Nat) (X P : List Int), j ≤ k ∧ kv = .int .i64 j ∧ (j = k → P = []) ∧ Hid (X ++ rotGo a gB P (O.drop j) = rot a O) ∧ X.length + P.length = j ∧ V.ownsRow W0.heap.size 3 1 nx X.length (iv X) ∧ V.ownsRow W0.heap.size 3 1 pt P.length (iv P) ∧ Sep nx pt ∧ Below W0.heap.size W0 V) (fun _ _ kv _ => k - (intOf kv).toNat)
      case atStart => exact ⟨0, [], [], by omega, rfl, fun _ => rfl, HR0, rfl, o1, o1, Sep.nil, b1⟩
      case round =>
        clear o1 b1 HR0
        obtain ⟨j, X, P, hj, rfl, hpe, HR, hxp, ox, op, hsep, b1⟩ := hrel
        obtain ⟨AX, cX, rfl, -, -, -⟩ := own_intsI ox
        obtain ⟨AP, cP, rfl, -, -, -⟩ := own_intsI op
        by_cases hjk : j < k
        · have g2 : decide ((j : Int) < (k : Int)) = true := decide_eq_true (by omega)
          obtain ⟨bO, oO, hOe, hbO, fO⟩ := (HI.out _ b1) (by rw [HKO.out]; omega)
          subst hOe
          have dx := fO j (by rw [HKO.out]; omega)
          have dl := fO (k - 1) (by rw [HKO.out]; omega)
          rw [HKO.out] at hgB
          obtain ⟨x, hx⟩ : ∃ x, geti O j = x := ⟨_, rfl⟩
          obtain ⟨z, hz⟩ : ∃ z, geti O (k - 1) = z := ⟨_, rfl⟩
          rw [hx] at dx
          rw [hz] at dl hgB
          have HX := Lib.hid hx
          have HZ := Lib.hid hz
          have hbs1 := b1.size
          have HBx := Lib.hid b1
          clear fO b1
          by_cases he : decide (a < x) = gB
          · have HRY : Hid ((X ++ [x]) ++ P ++ rotGo a gB [] (O.drop (j + 1)) = rot a O) := Lib.hid (by
              rw [← HR.out, drop_cons (l := O) (k := j) (by rw [HKO.out]; omega), HX.out]
              conv => rhs; unfold rotGo
              rw [if_pos he]
              simp)
            cases gB
            all_goals
              go_wp2_with (first
                | (at_builtin; refine wpList_append_own_at _ rfl (.tmp 26) (.tmp 31) 22 rfl W0.heap.size 3 j0 (.int .i64 0) 1 8 Try.underlying22 ji jz0 jz1 jz2 rfl (by decide) _ _ _ rfl (op.alloc _) ⟨wr.heap.size, 0, none⟩ 1 1 [.int .i64 x] rfl rfl (cell_one_new _ _ _) (by simp [Value.oneCell']) (by unfold maxLen; omega) (by omega) (by simp; omega) ?_; intro v2 w2 o2 hg2 _ hat2; rw [← iv_snoc] at o2; have b2 := HBx.out.trans (app1' op hbs1 hg2); have hbs2 := b2.size; have ox2 := (ox.alloc _).kept hg2 hsep.ne; have hsep2 := hsep.app ox (by simp) hat2; obtain ⟨A3, c3, e3, -, hc3, i3⟩ := own_intsI o2; rw [List.length_append, List.length_singleton] at e3; subst e3; obtain ⟨b3, o3, e3, hb3, f3⟩ := i3 (by simp); subst e3; have d3 := f3 P.length (by simp); have hc4 := snoc_le hc3; clear op ox hg2 hat2 dx dl; obtain ⟨bO', oO', hOe', hbO', fO'⟩ := (HI.out _ b2) (by rw [HKO.out]; omega); injection hOe' with hOe'; injection hOe' with hOe1 hOe2; subst hOe1 hOe2; have dx := fO' j (by rw [HKO.out]; omega); have dl := fO' (k - 1) (by rw [HKO.out]; omega); rw [HX.out] at dx; rw [HZ.out] at dl; clear fO')
                | (at_builtin; refine wpList_append_own_at _ rfl (.tmp 49) (.tmp 54) 22 rfl W0.heap.size 3 j0 (.int .i64 0) 1 8 Try.underlying22 ji jz0 jz1 jz2 rfl (by decide) _ _ _ rfl (ox2.alloc _) ⟨w2.heap.size, 0, none⟩ 1 1 [.int .i64 x] rfl rfl (cell_one_new _ _ _) (by simp [Value.oneCell']) (by unfold maxLen; omega) (by omega) (by simp; omega) ?_; intro v4 w4 o4 hg4 _ hat4; rw [← iv_snoc] at o4; have b4 := b2.trans (app1' ox2 hbs2 hg4); have op4 := (o2.alloc _).kept hg4 hsep2.symm.ne; have hsep4 := (hsep2.symm.app o2 (by simp) hat4).symm; obtain ⟨A5, c5, e5, -, -, -⟩ := own_intsI o4; rw [List.length_append, List.length_singleton] at e5; subst e5; obtain ⟨A6, c6, e6, -, -, i6⟩ := own_intsI op4; injection e6 with e61 e62 e63; subst e61 e63; have hn6 := i6.news P.length; rw [List.take_left' rfl] at hn6; clear dx dl d3 ox2 o2 hg4 hat4 e62)
                | (at_builtin; refine wpList_append_own_at _ rfl (.tmp 56) (.tmp 61) 22 rfl W0.heap.size 3 j0 (.int .i64 0) 1 8 Try.underlying22 ji jz0 jz1 jz2 rfl (by decide) _ _ _ rfl o4 ⟨b3, o3, none⟩ P.length c3 (iv P) rfl (by rw [iv_len]; omega) hn6 (iv_one _) (by unfold maxLen; omega) (by omega) b4.size ?_; intro v6 w6 o6 hg6 _ _; rw [← iv_app3] at o6; have b6 := b4.trans ((Below.refl W0.heap.size _).grown hg6 b4.size (fun g hg => (own_ge o4 hg).1)); obtain ⟨A7, c7, e7, -, -, -⟩ := own_intsI o6; rw [List.length_append, List.length_append, List.length_singleton] at e7; subst e7; clear op4 o4 hn6 i6 hg6 hsep4))
              refine ⟨⟨j + 1, (X ++ [x]) ++ P, [], by omega, rfl, fun _ => rfl, HRY, by simp; omega, ?_, ⟨rfl, .inl ⟨rfl, rfl⟩⟩, Sep.nil, b6⟩, by simp [intOf]; omega⟩
              rw [List.length_append, List.length_append, List.length_singleton]
              exact o6
          · have HRN : Hid (X ++ rotGo a gB (P ++ [x]) (O.drop (j + 1)) = rot a O) := Lib.hid (by
              rw [← HR.out, drop_cons (l := O) (k := j) (by rw [HKO.out]; omega), HX.out]
              conv => rhs; unfold rotGo
              rw [if_neg he])
            have HPE : Hid (j + 1 = k → P ++ [x] = []) := Lib.hid (fun e => by
              exfalso
              have e2 : j = k - 1 := by omega
              have e3 : x = z := by rw [← HX.out, ← HZ.out, e2]
              rw [e3] at he
              exact he hgB)
            have g3 : decide (a < x) = !gB := by
              cases h5 : decide (a < x) <;> cases h6 : gB <;> simp_all
            cases gB
            all_goals
              go_wp2_with (first
                | (at_builtin; refine wpList_append_own_at _ rfl (.tmp 26) (.tmp 31) 22 rfl W0.heap.size 3 j0 (.int .i64 0) 1 8 Try.underlying22 ji jz0 jz1 jz2 rfl (by decide) _ _ _ rfl (op.alloc _) ⟨wr.heap.size, 0, none⟩ 1 1 [.int .i64 x] rfl rfl (cell_one_new _ _ _) (by simp [Value.oneCell']) (by unfold maxLen; omega) (by omega) (by simp; omega) ?_; intro v2 w2 o2 hg2 _ hat2; rw [← iv_snoc] at o2; have b2 := HBx.out.trans (app1' op hbs1 hg2); have hbs2 := b2.size; have ox2 := (ox.alloc _).kept hg2 hsep.ne; have hsep2 := hsep.app ox (by simp) hat2; obtain ⟨A3, c3, e3, -, hc3, i3⟩ := own_intsI o2; rw [List.length_append, List.length_singleton] at e3; subst e3; obtain ⟨b3, o3, e3, hb3, f3⟩ := i3 (by simp); subst e3; have d3 := f3 P.length (by simp); have hc4 := snoc_le hc3; clear op ox hg2 hat2 dx dl; obtain ⟨bO', oO', hOe', hbO', fO'⟩ := (HI.out _ b2) (by rw [HKO.out]; omega); injection hOe' with hOe'; injection hOe' with hOe1 hOe2; subst hOe1 hOe2; have dx := fO' j (by rw [HKO.out]; omega); have dl := fO' (k - 1) (by rw [HKO.out]; omega); rw [HX.out] at dx; rw [HZ.out] at dl; clear fO'))
              refine ⟨⟨j + 1, X, P ++ [x], by omega, rfl, HPE.out, HRN, by simp; omega, ox2, ?_, hsep2, b2⟩, by simp [intOf]; omega⟩
              rw [List.length_append, List.length_singleton]
              exact o2
        · obtain rfl : j = k := by omega
          obtain rfl := hpe rfl
          have HRE : Hid (X = rot a O) := Lib.hid (by
            have := HR.out
            rw [List.drop_eq_nil_of_le (by rw [HKO.out]; omega)] at this
            simpa [rotGo] using this)
          rw [← HRE.out] at HS
          clear HR op hsep hpe HRE hgB
          have hxl : X.length = j := by simpa using hxp
          clear hxp
          have hbs1 := b1.size
          go_wp2_with (at_builtin; refine wpList_append_own_at _ rfl (.tmp 63) (.tmp 65) 22 rfl W0.heap.size 3 j0 (.int .i64 0) 1 8 Try.underlying22 ji jz0 jz1 jz2 rfl (by decide) _ _ _ rfl (ox.alloc _) ⟨wr.heap.size, 0, none⟩ 1 1 [.int .i64 a] rfl rfl (cell_one_new _ _ _) (by simp [Value.oneCell']) (by unfold maxLen; omega) (by omega) (by simp; omega) ?_; intro v2 w2 o2 hg2 _ _; rw [← iv_snoc, ← HS.out] at o2; have b2 := b1.trans (app1' ox hbs1 hg2))
          rw [hxl] at o2
          exact ⟨⟨j + 1, by omega, rfl, own_mono o2 hbs, b0.trans (b2.mono hbs)⟩, by simp [intOf]; omega⟩
    · obtain rfl : k = l.length := by omega
      go_wp2
      go_ret
      exact ⟨_, rfl, by rw [HSS.out]; exact o0, b0⟩
end Go.Proofs.Ytheblebfeinjjaa
