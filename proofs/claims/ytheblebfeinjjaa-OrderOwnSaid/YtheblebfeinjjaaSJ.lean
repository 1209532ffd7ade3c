/- OrderOwn, walked; the row. -/
import Derived.Test.YtheblebfeinjjaaQY
import Derived.Test.YtheblebfeinjjaaSD
import Derived.Test.YtheblebfeinjjaaPB
import Derived.Test.YtheblebfeinjjaaPA
import Derived.Test.YtheblebfeinjjaaNX
import Derived.Test.YtheblebfeinjjaaOC
/- OrderOwn, walked. -/
namespace Go.Proofs.Ytheblebfeinjjaa
open Go.RowKit
set_option maxHeartbeats 1000000
set_option maxRecDepth 100000
/-- Numbers that may be written. -/
def RL (w : World) (g n : Nat) : Prop := ∃ cs : List Value, n ≤ cs.length ∧ Row w g 3 cs
theorem RL.set {w : World} {g n : Nat} (h : RL w g n) (b i : Nat) (u : Value) : RL (w.setCell ⟨b, i, none⟩ u) g n := by
  obtain ⟨cs, h1, h2⟩ := h
  by_cases e : g = b
  · subst e
    exact ⟨cs.set i u, by rw [List.length_set]; exact h1, h2.set i u⟩
  · exact ⟨cs, h1, h2.far e u⟩
theorem RL.cell {w : World} {g n : Nat} (h : RL w g n) {k : Nat} (hk : k < n) : (∃ u, w.cell? ⟨g, k, none⟩ = some u) ∧ w.frozen? ⟨g, k, none⟩ = false := by
  obtain ⟨cs, h1, h2⟩ := h
  exact ⟨⟨cs[k], by rw [h2.cell k, List.getElem?_eq_getElem (by omega)]⟩, h2.free k⟩
theorem own_RL {w : World} {B n c : Nat} {A : Option Addr} {xs : List Value} (h : w.ownsRow B 3 1 (.slice A n c) n xs) : 0 < n → ∃ g, A = some ⟨g, 0, none⟩ ∧ B ≤ g ∧ RL w g n := by
  intro hp
  rcases h.2 with ⟨e, h0⟩ | ⟨g, cap, cur, e, hb, hg, hc, _, hs, _⟩
  · omega
  · injection e with e1 e2 e3
    subst e1
    exact ⟨g, rfl, hb, cur.toList, by rw [Array.length_toList, hs]; omega, by unfold Row; simpa using hg⟩
theorem own_cap {w : World} {B n c : Nat} {A : Option Addr} {xs : List Value} (h : w.ownsRow B 3 1 (.slice A n c) n xs) : c ≤ maxLen := by
  rcases h.2 with ⟨e, h0⟩ | ⟨g, cap, cur, e, hb, hg, hc, hm, _⟩
  · injection e with e1 e2 e3
    omega
  · injection e with e1 e2 e3
    omega
/-- The list of the four answers, each of which may be written. -/
def OwnQ (w : World) (G N n : Nat) (AA : Nat → Option Addr) (CC : Nat → Nat) : Prop :=
  (∃ cs, Row w G 22 cs) ∧ ∀ i, i < 4 → w.cell? ⟨G, i, none⟩ = some (.slice (AA i) n (CC i)) ∧ (0 < n → ∃ g, AA i = some ⟨g, 0, none⟩ ∧ N ≤ g ∧ RL w g n)
theorem OwnQ.set {w : World} {G N n m : Nat} {AA : Nat → Option Addr} {CC : Nat → Nat} (h : OwnQ w G N n AA CC) {g : Nat} (hg : RL w g m) (i : Nat) (u : Value) : OwnQ (w.setCell ⟨g, i, none⟩ u) G N n AA CC := by
  obtain ⟨⟨cs, h2⟩, h3⟩ := h
  have hne : G ≠ g := by
    obtain ⟨ds, _, h4⟩ := hg
    exact h2.ne h4 (by decide)
  have h7 : Row (w.setCell ⟨g, i, none⟩ u) G 22 cs := h2.far hne u
  refine ⟨⟨cs, h7⟩, fun j hj => ?_⟩
  obtain ⟨h5, h6⟩ := h3 j hj
  refine ⟨?_, fun hp => ?_⟩
  · rw [h7.cell, ← h2.cell]; exact h5
  · obtain ⟨g2, e1, e2, e3⟩ := h6 hp
    exact ⟨g2, e1, e2, e3.set _ _ _⟩
theorem own_start {w : World} {N n : Nat} {A1 A2 A3 A4 : Option Addr} {c1 c2 c3 c4 : Nat} {x1 x2 x3 x4 : List Value} (h1 : w.ownsRow N 3 1 (.slice A1 n c1) n x1) (h2 : w.ownsRow N 3 1 (.slice A2 n c2) n x2) (h3 : w.ownsRow N 3 1 (.slice A3 n c3) n x3) (h4 : w.ownsRow N 3 1 (.slice A4 n c4) n x4) :
    OwnQ (w.alloc (.cells #[.slice A1 n c1, .slice A2 n c2, .slice A3 n c3, .slice A4 n c4] 22)) w.heap.size N n (fun i => [A1, A2, A3, A4].getD i none) (fun i => [c1, c2, c3, c4].getD i 0) := by
  have hr : Row (w.alloc (.cells #[.slice A1 n c1, .slice A2 n c2, .slice A3 n c3, .slice A4 n c4] 22)) w.heap.size 22 [.slice A1 n c1, .slice A2 n c2, .slice A3 n c3, .slice A4 n c4] := row_new rfl
  refine ⟨⟨_, hr⟩, fun i hi => ?_⟩
  match i, hi with
  | 0, _ => exact ⟨hr.cell 0, own_RL (h1.alloc _)⟩
  | 1, _ => exact ⟨hr.cell 1, own_RL (h2.alloc _)⟩
  | 2, _ => exact ⟨hr.cell 2, own_RL (h3.alloc _)⟩
  | 3, _ => exact ⟨hr.cell 3, own_RL (h4.alloc _)⟩
theorem OrderOwn_any (A : Option Addr) (c : Nat) (a : List Int) (w : World) (hx : a.length ≤ c) (hc : c ≤ maxLen) (ha : IntsAt w A a) :
    Calls Try.prog 14 #[.slice A a.length c] w fun e w' => e = .returned (.bool true) ∧ Below w.heap.size w w' := by
  have HT := Lib.hid (tame_any A c a w hx hc ha)
  have HO : Hid (IsO (tmL a (min a.length 12))) := Lib.hid (tmL_iso a (by omega))
  clear ha hx hc
  generalize tmL a (min a.length 12) = O at *
  generalize min a.length 12 = n0 at *
  go_enter Try.func14, Try.ntmps14
  go_wp2_with (go_at_call 46; fail)
  refine HT.out.mono ?_
  rintro e w1 ⟨v1, rfl, o1, b1⟩
  obtain ⟨A1, c1, rfl, hn0, hc1, i1⟩ := own_intsI o1
  subst hn0
  have hcm := own_cap o1
  have hO12 := HO.out.le
  have hcp := list_copy_any A1 c1 O w1 hc1 hcm i1
  rw [List.take_of_length_le (by omega : O.length ≤ 13)] at hcp
  have I1 := Lib.hid i1
  have HL1 : Hid ((sec O).length = O.length) := Lib.hid (sec_len O)
  have HL2 : Hid ((wr' O).length = O.length) := Lib.hid (wr_perm HO.out).length_eq
  have HL3 : Hid ((tabL O).length = O.length) := Lib.hid (tabL_len O)
  have HL4 : Hid ((fst' O).length = O.length) := Lib.hid (fstN_len O _)
  have HC1 := fun A c w hw => Second_yes A c O w HO.out hw
  have HC2 := fun A c w hw => Written_yes A c O w HO.out hw
  have HC3 := Lib.hid (fun A c w hw => Table_yes A c O w HO.out hw)
  have HC4 := fun A c w hw => First_yes A c O w HO.out hw
  have HR1 := Lib.hid (fun A c w hw => refSecond_any A c O w (by omega) hw)
  rw [HL1.out] at HC1
  rw [HL2.out] at HC2
  rw [HL4.out] at HC4
  replace HC1 := Lib.hid HC1
  replace HC2 := Lib.hid HC2
  replace HC4 := Lib.hid HC4
  clear HT o1 i1 HO hcm
  generalize sec O = S1 at *
  generalize wr' O = S2 at *
  generalize tabL O = S3 at *
  generalize fst' O = S4 at *
  go_wp2_with (go_at_call 15; fail)
  refine hcp.mono ?_
  rintro e w2 ⟨v2, n2, rfl, o2, b2⟩
  obtain ⟨A2, c2, rfl, hn2, -, i2⟩ := own_intsI o2
  subst hn2
  have I2 := Lib.hid i2
  replace I1 := Lib.hid (I1.out.below b2)
  replace b1 := b1.trans (b2.mono b1.size)
  have y0 : Below w2.heap.size w2 w2 := Below.refl _ _
  clear hcp o2 i2 b2
  go_wp2_with (go_at_call 29; fail)
  refine (HC1.out _ _ _ I1.out).mono ?_
  rintro e x3 ⟨B1, d1, rfl, p1, z3⟩
  have y3 := y0.trans (z3.mono y0.size)
  clear y0 z3
  have HP1 := Lib.hid p1
  have J3 := Lib.hid (I1.out.below y3)
  clear p1
  go_wp2_with (go_at_call 31; fail)
  refine (HC2.out _ _ _ J3.out).mono ?_
  rintro e x4 ⟨B2, d2, rfl, p2, z4⟩
  have y4 := y3.trans (z4.mono y3.size)
  have HP2 := Lib.hid (own_mono p2 y3.size)
  replace HP1 := Lib.hid (HP1.out.kept' z4)
  have J4 := Lib.hid (I1.out.below y4)
  clear p2 z4 y3 J3
  go_wp2_with (go_at_call 18; fail)
  refine (HC3.out _ _ _ J4.out).mono ?_
  rintro e x5 ⟨B3, d3, rfl, p3, z5⟩
  have y5 := y4.trans (z5.mono y4.size)
  have HP3 := Lib.hid (own_mono p3 y4.size)
  replace HP1 := Lib.hid (HP1.out.kept' z5)
  replace HP2 := Lib.hid (HP2.out.kept' z5)
  have J5 := Lib.hid (I1.out.below y5)
  clear p3 z5 y4 J4
  go_wp2_with (go_at_call 30; fail)
  refine (HC4.out _ _ _ J5.out).mono ?_
  rintro e x6 ⟨B4, d4, rfl, p4, z6⟩
  have y6 := y5.trans (z6.mono y5.size)
  have HP4 := Lib.hid (own_mono p4 y5.size)
  replace HP1 := Lib.hid (HP1.out.kept' z6)
  replace HP2 := Lib.hid (HP2.out.kept' z6)
  replace HP3 := Lib.hid (HP3.out.kept' z6)
  clear p4 z6 y5 J5
  have hq := own_start HP1.out HP2.out HP3.out HP4.out
  have y7 := y6.alloc y6.size (.cells #[.slice B1 O.length d1, .slice B2 O.length d2, .slice B3 O.length d3, .slice B4 O.length d4] 22)
  have HQ := Lib.hid hq
  have HG := y6.size
  clear hq
  generalize (fun i => [B1, B2, B3, B4].getD i none) = AA at HQ
  generalize (fun i => [d1, d2, d3, d4].getD i 0) = CC at HQ
  clear HP1 HP2 HP3 HP4
  go_wp2
  generalize hWa : World.alloc _ _ = Wa at *
  have HQ0 := HQ.out
  generalize x6.heap.size = G at *
  clear hWa HQ
  go_loopw [14] (fun i wr => ∃ k : Nat, k ≤ 4 ∧ i = .int .i64 k ∧ OwnQ wr G w2.heap.size O.length AA CC ∧ Below w2.heap.size w2 wr) (fun i _ => 4 - (intOf i).toNat)
  case atStart => exact ⟨0, by omega, rfl, HQ0, y7⟩
  case round =>
    clear HQ0 y7
    obtain ⟨k, hk, rfl, q0, b0⟩ := hrel
    by_cases hlt : k < 4
    · have g1 : decide ((k : Int) < 4) = true := decide_eq_true (by omega)
      go_wp2
      go_loopw [15] (fun j wr => ∃ q : Nat, q ≤ O.length ∧ j = .int .i64 q ∧ OwnQ wr G w2.heap.size O.length AA CC ∧ Below w2.heap.size w2 wr) (fun j _ => O.length - (intOf j).toNat)
      case atStart => exact ⟨0, by omega, rfl, q0, b0⟩
      case round =>
        clear q0 b0
        obtain ⟨q, hq, rfl, q0, b0⟩ := hrel
        obtain ⟨dV, hV⟩ := q0.2 k hlt
        by_cases hql : q < O.length
        · have g2 : decide ((q : Int) < (O.length : Int)) = true := decide_eq_true (by omega)
          obtain ⟨g, hA, hgN, hrl⟩ := hV (by omega)
          rw [hA] at dV
          obtain ⟨⟨u, e0⟩, f0⟩ := hrl.cell hql
          go_wp2
          exact ⟨⟨q + 1, by omega, rfl, q0.set hrl _ _, b0.setCell (p := ⟨g, q, none⟩) hgN _⟩, by simp [intOf]; omega⟩
        · have g2 : decide ((q : Int) < (O.length : Int)) = false := decide_eq_false (by omega)
          clear hV
          go_wp2
          exact ⟨⟨k + 1, by omega, rfl, q0, b0⟩, by simp [intOf]; omega⟩
    · obtain rfl : k = 4 := by omega
      have I8 := Lib.hid (I1.out.below b0)
      have K8 := Lib.hid (I2.out.below b0)
      have b8 := b1.trans (b0.mono b1.size)
      clear q0 b0
      go_wp2_with (go_at_call 29; fail)
      refine (HC1.out _ _ _ I8.out).mono ?_
      rintro e x9 ⟨B9, d9, rfl, p9, z9⟩
      obtain ⟨A9', c9', e9, -, -, i9⟩ := own_intsI p9
      rw [HL1.out] at e9
      injection e9 with e91 e92 e93
      subst e91 e93
      have J9 := Lib.hid i9
      replace I8 := Lib.hid (I8.out.below z9)
      replace K8 := Lib.hid (K8.out.below z9)
      replace b8 := b8.trans (z9.mono b8.size)
      clear p9 i9 z9 e92
      go_wp2_with (go_at_call 23; fail)
      refine (ints_yes A1 A2 c1 c2 O O.length x9 rfl (by omega) I8.out K8.out).mono ?_
      rintro e y1 ⟨rfl, n1, rfl⟩
      replace J9 := Lib.hid (J9.out.drewN n1)
      replace K8 := Lib.hid (K8.out.drewN n1)
      replace b8 := b8.trans (below_drewN n1)
      clear I8
      generalize x9.drewN n1 = W10 at *
      go_wp2_with (go_at_call 33; fail)
      refine (HR1.out _ _ _ K8.out).mono ?_
      rintro e x11 ⟨v, rfl, o9, z9⟩
      obtain ⟨A9, c9, e9, -, -, i9⟩ := own_intsI o9
      rw [HL1.out] at e9
      subst e9
      have I9 := Lib.hid i9
      replace J9 := Lib.hid (J9.out.below z9)
      replace b8 := b8.trans (z9.mono b8.size)
      clear HR1 z9 o9 i9 K8
      go_wp2_with (go_at_call 23; fail)
      refine (ints_yes B9 A9 d9 c9 S1 O.length x11 HL1.out (by omega) J9.out I9.out).mono ?_
      rintro e y1 ⟨rfl, n2, rfl⟩
      replace b8 := b8.trans (below_drewN n2)
      clear J9 I9
      generalize x11.drewN n2 = W12 at *
      go_wp2_with (go_at_call 21; refine (awake_any _).mono ?_; rintro e y3 ⟨rfl, b16⟩; replace b8 := b8.trans (b16.mono b8.size); clear b16)
      go_ret
      exact ⟨rfl, b8⟩
end Go.Proofs.Ytheblebfeinjjaa
/- OrderOwn returns true for every input: writing into the answers changes neither the argument nor later answers. No condition. -/
namespace Go.Proofs.Ytheblebfeinjjaa
open Go.ChangeShapes Go.WideShapes Go.ChangeAt Go.RowKit
set_option maxRecDepth 100000
theorem orderOwn_lifted (os : Os) (started : os.Started) (H : Type) (enc : TypeId × Value → H) :
    ReturnsInHanded {} Try.checked os 14 .any (Rows.orderOwnSpec.pre6 enc Try.prog Try.f14 Rows.orderOwnRow.domain false) (Rows.orderOwnSpec.post enc Try.prog Try.f14 false true false false) := by
  refine returnsInHanded_of_change (C := Try.checked) Try.own started (by kernel_rfl) Try.func14
    (ChangeSpec.witness6 (enc := enc) (C := Try.checked) false ⟨#[], #[.slice none 0 0], []⟩ 8 (by kernel_rfl) (by kernel_rfl) (by kernel_rfl) (by kernel_rfl)) ?_
  intro W base args ds gs before hval0 hW hcnd _
  have hval : ∀ (j : Nat) t v, Try.f14.params[j]? = some t → args[j]? = some v → Value.okWide Try.prog W .any base t v := hval0
  have hW' := hW
  obtain ⟨p, q, hA0, hV, rfl, hfz, hnd⟩ := hW
  have hA : DataW.TrodAll enc Try.prog W 0 (fun _ => true) true Try.f14.params.toList args.toList ds p := hA0
  rw [Try.params14] at hA hval
  obtain ⟨v0, d0, rfl, rfl, h0⟩ := trodAll_one hA
  obtain ⟨rfl, rfl⟩ := trodVars_none hV
  obtain ⟨A0, c0, xs0, rfl, hx0, hc0, ha0⟩ := open_list Try.underlying22 (hval 0 22 v0 rfl rfl) h0
  refine (OrderOwn_any A0 c0 xs0 W hx0 hc0 ha0).mono fun e W' ⟨he, hg⟩ => ?_
  subst he
  exact ⟨_, rfl, law_post Try.laidOut Try.underlying4 rfl rfl (by rw [Try.params14]; exact of_decide_eq_true (by kernel_rfl)) hW' rfl rfl rfl hg⟩
theorem orderOwn_holds : Rows.OrderOwnSaid :=
  OpenClaim.holds_of_wide 14 Try.f14 rfl rfl rfl rfl rfl rfl rfl ⟨rfl, rfl, rfl, rfl, rfl⟩ rfl rfl rfl rfl rfl (by kernel_rfl) Try.func14 (by kernel_rfl)
    (of_decide_eq_true (by kernel_rfl)) (by unfold Func.isWrapper; first | (rw [if_pos (by decide +kernel)]; kernel_rfl) | (rw [if_neg (by decide +kernel)]; exact ⟨rfl, rfl⟩))
    (fun os started H enc _ => orderOwn_lifted os started H enc)
#print axioms orderOwn_holds
end Go.Proofs.Ytheblebfeinjjaa
