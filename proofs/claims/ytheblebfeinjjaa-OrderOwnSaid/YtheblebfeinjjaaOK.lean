/- The reference's order with a table. -/
import Derived.Test.YtheblebfeinjjaaOJ
namespace Go.Proofs.Ytheblebfeinjjaa
open Go.RowKit
set_option maxHeartbeats 1000000
set_option maxRecDepth 100000
/-- Two lists of the call's own lie apart. -/
def Apart (v u : Value) : Prop := ∀ g, v.ownBlock = some g → u.ownBlock = some g → False
theorem Apart.symm {v u : Value} (h : Apart v u) : Apart u v := fun g h1 h2 => h g h2 h1
/-- The other list is kept, and both still lie apart. -/
theorem apart_keep {W w5 : World} {B : Nat} {o : Obj} {n k : Nat} {v u v' : Value} {xs ys : List Value} (hv : W.ownsRow B 3 1 v n xs) (hu : W.ownsRow B 3 1 u k ys) (hd : Apart v u) (hgr : (W.alloc o).grownBy w5 v.ownBlock)
    (h5 : v'.ownBlock = v.ownBlock ∨ v'.ownBlock = some (W.alloc o).heap.size) : w5.ownsRow B 3 1 u k ys ∧ Apart v' u := by
  constructor
  · refine (hu.alloc o).kept hgr ?_
    cases hub : u.ownBlock with
    | none => simp
    | some g =>
      exact .inr (fun e => hd g e.symm hub)
  · intro g h1 h2
    rcases h5 with h | h
    · exact hd g (by rw [← h]; exact h1) h2
    · have h3 := own_ge hu h2
      rw [h] at h1
      injection h1 with h1
      simp at h1
      omega
theorem apart_keep0 {W w5 : World} {B : Nat} {n k : Nat} {v u v' : Value} {xs ys : List Value} (_hv : W.ownsRow B 3 1 v n xs) (hu : W.ownsRow B 3 1 u k ys) (hd : Apart v u) (hgr : W.grownBy w5 v.ownBlock)
    (h5 : v'.ownBlock = v.ownBlock ∨ v'.ownBlock = some W.heap.size) : w5.ownsRow B 3 1 u k ys ∧ Apart v' u := by
  constructor
  · refine hu.kept hgr ?_
    cases hub : u.ownBlock with
    | none => simp
    | some g =>
      exact .inr (fun e => hd g e.symm hub)
  · intro g h1 h2
    rcases h5 with h | h
    · exact hd g (by rw [← h]; exact h1) h2
    · have h3 := own_ge hu h2
      rw [h] at h1
      injection h1 with h1
      omega
theorem apart_nil (u : Value) : Apart (.slice none 0 0) u := fun g h1 _ => by simp [Value.ownBlock] at h1
theorem own_nil (W : World) (B : Nat) : W.ownsRow B 3 1 (.slice none 0 0) 0 [] := ⟨rfl, .inl ⟨rfl, rfl⟩⟩
theorem own_grow {W w5 : World} {B : Nat} {v : Value} {n : Nat} {xs : List Value} (hv : W.ownsRow B 3 1 v n xs) (hB : B ≤ W.heap.size) (hgr : W.grownBy w5 v.ownBlock) : Below B W w5 :=
  (Below.refl B W).grown hgr hB (fun g hg => (own_ge hv hg).1)
/-- While the table is read. -/
structure MdI (t done left : List Int) (k : Nat) : Prop where
  hd : done.length = k
  hl : left.length = t.length - k
  ht : ∀ i, i < k → 0 ≤ geti t i ∧ geti t i < (t.length : Int) - i
  hr : done ++ wtN (t.drop k) left = mdL t
theorem MdI.start (t : List Int) : MdI t [] (asc t.length) 0 := ⟨rfl, by rw [asc_len]; rfl, fun i hi => absurd hi (by omega), rfl⟩
theorem MdI.step {t done left : List Int} {k s : Nat} (h : MdI t done left k) (hk : k < t.length) (hs : geti t k = s) (hs2 : s < left.length) : MdI t (done ++ [geti left s]) (left.take s ++ left.drop (s + 1)) (k + 1) := by
  obtain ⟨h1, h2, h3, h4⟩ := h
  have he := erase_len hs2
  rw [erase_td] at he
  refine ⟨by rw [List.length_append, List.length_singleton, h1], by rw [he]; omega, fun i hi => ?_, ?_⟩
  · by_cases e : i = k
    · subst e; rw [hs]; omega
    · exact h3 i (by omega)
  · rw [← h4, drop_cons hk, hs]
    conv => rhs; unfold wtN
    rw [Int.toNat_natCast, List.append_assoc, List.singleton_append, erase_td]
theorem MdI.all {t done left : List Int} {k : Nat} (h : MdI t done left k) (hk : k = t.length) : done = mdL t ∧ okT t = true := by
  obtain ⟨h1, h2, h3, h4⟩ := h
  subst hk
  rw [List.drop_length] at h4
  unfold wtN at h4
  exact ⟨by rw [← h4, List.append_nil], okT_at.2 h3⟩
theorem own_intsAt {W : World} {B g m n c : Nat} {left : List Int} (h : W.ownsRow B 3 1 (.slice (some ⟨g, 0, none⟩) m c) n (iv left)) : IntsAt W (some ⟨g, 0, none⟩) left := by
  obtain ⟨A, c', e, -, -, i⟩ := own_intsI h
  injection e with e1 e2 e3
  subst e1
  exact i
theorem news_drop {W : World} {g d : Nat} {xs : List Int} (h : IntsAt W (some ⟨g, 0, none⟩) xs) : ∀ j u, (iv (xs.drop d))[j]? = some u → W.cell? ((⟨g, d, none⟩ : Addr).add j) = some u := by
  intro j u hj
  have hlt := (List.getElem?_eq_some_iff.1 hj).1
  rw [iv_len, List.length_drop] at hlt
  obtain ⟨b, o, e, -, hc⟩ := h (by omega)
  injection e with e
  injection e with e1 e2
  subst e1 e2
  have := hc (d + j) (by omega)
  rw [Nat.zero_add] at this
  rw [WideShapes.add_plain, this, ← hj, ← iv_drop, List.getElem?_drop, iv_get (by omega)]
def madeR (t : List Int) (w : World) (e : Ending) (w' : World) : Prop :=
  if isT t then ∃ A c, e = .returned (.tuple #[.slice A t.length c, .bool true]) ∧ w'.ownsRow w.heap.size 3 1 (.slice A t.length c) t.length (iv (mdL t)) else ∃ A n c, e = .returned (.tuple #[.slice A n c, .bool false])
theorem Made_any (A : Option Addr) (c : Nat) (t : List Int) (w : World) (hx : t.length ≤ 1000000) (ha : IntsAt w A t) :
    Calls Try.prog 28 #[.slice A t.length c] w fun e w' => madeR t w e w' ∧ Below w.heap.size w w' := by
  obtain ⟨j0, ji, jz0, jz1, jz2⟩ := info_parts info3
  have HA := Lib.hid ha
  have HMS := Lib.hid (MdI.start t)
  have o0 : w.ownsRow w.heap.size 3 1 (.slice none 0 0) (asc 0).length (iv (asc 0)) := own_nil w w.heap.size
  have b0 : Below w.heap.size w w := Below.refl _ _
  have HSN : Hid (∀ k : Nat, iv (asc (k + 1)) = iv (asc k) ++ [.int .i64 ((k : Int) + 1)]) := Lib.hid (fun k => by rw [asc_snoc, iv_snoc])
  clear ha
  go_enter Try.func28, Try.ntmps28
  go_wp2
  go_loopw [4, 6] (fun v i wr => ∃ k : Nat, k ≤ t.length ∧ i = .int .i64 k ∧ wr.ownsRow w.heap.size 3 1 v k (iv (asc k)) ∧ Below w.heap.size w wr) (fun _ i _ => t.length - (intOf i).toNat)
  case atStart => exact ⟨0, by omega, rfl, o0, b0⟩
  case round =>
    clear o0 b0
    obtain ⟨k, hk, rfl, o0, b0⟩ := hrel
    obtain ⟨A2, c2, e2, -, -, -⟩ := own_intsI o0
    rw [asc_len] at e2
    subst e2
    by_cases hlt : k < t.length
    · have hnr : Row (wr.alloc (.cells #[.int .i64 ((k : Int) + 1)] 3)) wr.heap.size 3 [.int .i64 ((k : Int) + 1)] := row_new rfl
      have hbs := b0.size
      go_wp2_with (at_builtin; refine wpList_append_own_at _ rfl (.tmp 15) (.tmp 18) 22 rfl w.heap.size 3 j0 (.int .i64 0) 1 8 Try.underlying22 ji jz0 jz1 jz2 rfl (by decide) _ _ _ rfl (o0.alloc _) ⟨wr.heap.size, 0, none⟩ 1 1 [.int .i64 ((k : Int) + 1)] rfl rfl (news_one hnr) (by simp [Value.oneCell']) (by unfold maxLen; omega) (by omega) (by simp; omega) ?_; intro v2 w2 o2 hg2 _ _; rw [← HSN.out] at o2; have b3 := b0.trans (app1' o0 hbs hg2))
      go_roundw
      case rel => exact ⟨k + 1, by omega, by go_num, o2, b3⟩
      case measure => simp [intOf]; omega
    · obtain rfl : k = t.length := by omega
      clear HSN
      have HL0 := Lib.hid (asc_len t.length).symm
      have AP0 : Hid (Apart (.slice A2 t.length c2) (.slice none 0 0)) := Lib.hid ((apart_nil _).symm)
      have u0 : wr.ownsRow w.heap.size 3 1 (.slice none 0 0) 0 (iv []) := own_nil wr w.heap.size
      generalize asc t.length = L0 at *
      go_wp2
      go_loopw [4, 5, 7] (fun v u i wr => ∃ (k m : Nat) (done left : List Int), k ≤ t.length ∧ i = .int .i64 k ∧ Hid (m = left.length) ∧ Hid (MdI t done left k) ∧ wr.ownsRow w.heap.size 3 1 v m (iv left) ∧ wr.ownsRow w.heap.size 3 1 u k (iv done) ∧ Hid (Apart v u) ∧ Below w.heap.size w wr) (fun _ _ i _ => t.length - (intOf i).toNat)
      case atStart => exact ⟨0, t.length, [], L0, by omega, rfl, HL0, HMS, o0, u0, AP0, b0⟩
      case round =>
        clear o0 u0 b0 HMS AP0 HL0
        obtain ⟨k, m, done, left, hk, rfl, HM, HD, o0, u0, AP, b0⟩ := hrel
        obtain ⟨A3, c3, e3, -, hc3, -⟩ := own_intsI o0
        rw [← HM.out] at e3 hc3
        obtain ⟨A4, c4, e4, hk4, -, -⟩ := own_intsI u0
        rw [← hk4] at e4
        clear hk4
        subst e3 e4
        by_cases hlt : k < t.length
        · obtain ⟨bA, oA, hAe, hbA, hcA⟩ := (HA.out.below b0) (by omega)
          subst hAe
          have ct := hcA k hlt
          obtain ⟨x, hx⟩ : ∃ x, geti t k = x := ⟨_, rfl⟩
          rw [hx] at ct
          clear hcA
          have HX := Lib.hid hx
          have hmn : m = t.length - k := by rw [HM.out]; exact HD.out.hl
          clear hx
          by_cases h1 : x < 0
          · have g1 : decide (x < 0) = true := decide_eq_true h1
            have HV : Hid (isT t = false) := Lib.hid (by
              cases h : okT t
              · unfold isT; rw [h, Bool.and_false]
              · have := (okT_at.1 h k hlt).1; rw [HX.out] at this; omega)
            clear h1 hmn
            go_wp2
            go_ret2
            exact ⟨by unfold madeR; rw [HV.out]; exact ⟨none, 0, 0, rfl⟩, b0⟩
          · have g1 : decide (x < 0) = false := decide_eq_false h1
            by_cases h2 : (m : Int) ≤ x
            · have g2 : decide ((m : Int) ≤ x) = true := decide_eq_true h2
              have HV : Hid (isT t = false) := Lib.hid (by
                cases h : okT t
                · unfold isT; rw [h, Bool.and_false]
                · have := (okT_at.1 h k hlt).2; rw [HX.out] at this; omega)
              clear h1 h2 hmn
              go_wp2
              go_ret2
              exact ⟨by unfold madeR; rw [HV.out]; exact ⟨none, 0, 0, rfl⟩, b0⟩
            · have g2 : decide ((m : Int) ≤ x) = false := decide_eq_false h2
              obtain ⟨s, rfl⟩ := Int.eq_ofNat_of_zero_le (show 0 ≤ x by omega)
              have hsm : s < m := by omega
              clear h1 h2 g1
              have hm6 : m ≤ 1000000 := by omega
              clear hmn
              have hk6 : k < 1000000 := by omega
              have HTC : Hid (∀ W, Below w.heap.size w W → W.cell? ⟨bA, oA + k, none⟩ = some (.int .i64 (s : Int))) := Lib.hid (fun W hW => by
                obtain ⟨b', o', e, -, hc'⟩ := (HA.out.below hW) (by omega)
                injection e with e
                injection e with e1 e2
                subst e1 e2
                have := hc' k hlt
                rwa [HX.out] at this)
              have HMD := Lib.hid (HD.out.step hlt HX.out (by rw [← HM.out]; exact hsm))
              obtain ⟨g, rfl⟩ : ∃ g, A3 = some ⟨g, 0, none⟩ := by
                rcases o0.2 with ⟨_, h0⟩ | ⟨g, cap, cur, he, _⟩
                · omega
                · injection he with he; exact ⟨g, he⟩
              have cl := own_intsAt o0
              obtain ⟨b', o', e', -, hcl⟩ := cl (by rw [← HM.out]; omega)
              injection e' with e'
              injection e' with e1 e2
              subst e1 e2
              have cl2 := hcl s (by rw [← HM.out]; exact hsm)
              rw [Nat.zero_add] at cl2
              have HTK : Hid ((iv (left.take s)).length = s * 1) := Lib.hid (by rw [iv_len, List.length_take, ← HM.out]; omega)
              have HDL : Hid ((iv (left.drop (s + 1))).length = (m - (s + 1)) * 1) := Lib.hid (by rw [iv_len, List.length_drop, ← HM.out]; omega)
              have HLL : Hid ((left.take s ++ left.drop (s + 1)).length = s + (m - (s + 1))) := Lib.hid (by rw [List.length_append, List.length_take, List.length_drop, ← HM.out]; omega)
              have hcm : c3 ≤ 9223372036854775807 := by
                rcases o0.2 with ⟨_, h0⟩ | ⟨g, cap, cur, he, _, _, _, hcm, _⟩
                · omega
                · injection he with _ _ he; subst he; exact hcm
              obtain ⟨y, hy⟩ : ∃ y, geti left s = y := ⟨_, rfl⟩
              rw [hy] at cl2 HMD
              have HYN : Hid (iv (done ++ [y]) = iv done ++ [.int .i64 y]) := Lib.hid (iv_snoc _ _)
              have hnr : Row (wr.alloc (.cells #[.int .i64 y] 3)) wr.heap.size 3 [.int .i64 y] := row_new rfl
              have hbs := b0.size
              have HV := Lib.hid o0
              have HU := Lib.hid u0
              clear cl hcl hy o0 u0 HM HD
              by_cases hs1 : s + 1 < m
              · have hne : ¬ c3 = s + 1 := by omega
                go_wp2_with (first
                  | ((with_reducible refine (?_ : wpList _ _ _ (Oper.mk (some 49) _ _ _ _ _ :: _) _ _)); refine wpList_append_own_at _ rfl (.tmp 40) (.tmp 48) 22 rfl w.heap.size 3 j0 (.int .i64 0) 1 8 Try.underlying22 ji jz0 jz1 jz2 rfl (by decide) _ _ _ rfl (HU.out.alloc _) ⟨wr.heap.size, 0, none⟩ 1 1 [.int .i64 y] rfl rfl (news_one hnr) (by simp [Value.oneCell']) (by unfold maxLen; omega) (by omega) (by simp; omega) ?_; intro u4 w4 o4 hg4 _ h4; obtain ⟨q4, ap4⟩ := apart_keep HU.out HV.out AP.out.symm hg4 h4; have b4 := b0.trans (app1' HU.out hbs hg4); have hbs4 := b4.size; have ct4 := HTC.out _ b4; have Q4 := Lib.hid q4; have I4 := Lib.hid (own_intsAt q4); have O4 := Lib.hid o4; have AP4 := Lib.hid ap4; clear q4 o4 ap4)
                  | ((with_reducible refine (?_ : wpList _ _ _ (Oper.mk (some 57) _ _ _ _ _ :: _) _ _)); refine wpList_append_own_at _ rfl (.tmp 50) (.tmp 56) 22 rfl w.heap.size 3 j0 (.int .i64 0) 1 8 Try.underlying22 ji jz0 jz1 jz2 rfl (by decide) _ 0 [] rfl (own_nil w4 _) ⟨g, 0, none⟩ s c3 (iv (left.take s)) rfl HTK.out (I4.out.news s) (iv_one _) (by unfold maxLen; omega) (by omega) hbs4 ?_; intro v5 w5 o5 hg5 _ h5; obtain ⟨q5, ap5⟩ := apart_keep0 (own_nil w4 w.heap.size) Q4.out (apart_nil _) hg5 h5; obtain ⟨r5, ap6⟩ := apart_keep0 (own_nil w4 w.heap.size) O4.out (apart_nil _) hg5 h5; have b5 := b4.trans (own_grow (own_nil w4 w.heap.size) hbs4 hg5); have hbs5 := b5.size; have ct5 := HTC.out _ b5; have I5 := Lib.hid (own_intsAt q5); have P5 := Lib.hid o5; have O5 := Lib.hid r5; have AP5 := Lib.hid ap6; clear q5 o5 ap5 ap6 r5)
                  | ((with_reducible refine (?_ : wpList _ _ _ (Oper.mk (some 66) _ _ _ _ _ :: _) _ _)); refine wpList_append_own_at _ rfl (.tmp 58) (.tmp 65) 22 rfl w.heap.size 3 j0 (.int .i64 0) 1 8 Try.underlying22 ji jz0 jz1 jz2 rfl (by decide) _ _ _ rfl P5.out ⟨g, s + 1, none⟩ (m - (s + 1)) (c3 - (s + 1)) (iv (left.drop (s + 1))) rfl HDL.out (news_drop I5.out) (iv_one _) (by unfold maxLen; omega) (by omega) hbs5 ?_; intro v6 w6 o6 hg6 _ h6; obtain ⟨r6, ap6⟩ := apart_keep0 P5.out O5.out AP5.out hg6 h6; have b6 := b5.trans (own_grow P5.out hbs5 hg6)))
                have o7 : w6.ownsRow w.heap.size 3 1 v6 (left.take s ++ left.drop (s + 1)).length (iv (left.take s ++ left.drop (s + 1))) := by
                  have h := o6
                  rw [List.nil_append, ← iv_app, Nat.zero_add] at h
                  rw [HLL.out]
                  first | exact h | (rw [hs0]; exact h)
                rw [← HYN.out] at r6
                go_roundw
                case rel => exact ⟨k + 1, _, _, _, by omega, by go_num, Lib.hid rfl, HMD.out, o7, r6, Lib.hid ap6, b6⟩
                case measure => simp [intOf]; omega

              · obtain rfl : m = s + 1 := by omega
                have HD0 : Hid ((iv (left.drop (s + 1))).length = 0 * 1) := Lib.hid (by have h := HDL.out; rw [h]; omega)
                have HDN : Hid (∀ (W : World) (ad : Addr) (j : Nat) (u : Value), (iv (left.drop (s + 1)))[j]? = some u → W.cell? (ad.add j) = some u) := Lib.hid (fun W ad j u hj => by
                  have h := (List.getElem?_eq_some_iff.1 hj).1
                  have h2 := HD0.out
                  omega)
                have hs0 : s + 1 - (s + 1) = 0 := by omega
                by_cases hcc : c3 = s + 1
                · subst hcc
                  go_wp2_with (first
                    | ((with_reducible refine (?_ : wpList _ _ _ (Oper.mk (some 49) _ _ _ _ _ :: _) _ _)); refine wpList_append_own_at _ rfl (.tmp 40) (.tmp 48) 22 rfl w.heap.size 3 j0 (.int .i64 0) 1 8 Try.underlying22 ji jz0 jz1 jz2 rfl (by decide) _ _ _ rfl (HU.out.alloc _) ⟨wr.heap.size, 0, none⟩ 1 1 [.int .i64 y] rfl rfl (news_one hnr) (by simp [Value.oneCell']) (by unfold maxLen; omega) (by omega) (by simp; omega) ?_; intro u4 w4 o4 hg4 _ h4; obtain ⟨q4, ap4⟩ := apart_keep HU.out HV.out AP.out.symm hg4 h4; have b4 := b0.trans (app1' HU.out hbs hg4); have hbs4 := b4.size; have ct4 := HTC.out _ b4; have Q4 := Lib.hid q4; have I4 := Lib.hid (own_intsAt q4); have O4 := Lib.hid o4; have AP4 := Lib.hid ap4; clear q4 o4 ap4)
                    | ((with_reducible refine (?_ : wpList _ _ _ (Oper.mk (some 57) _ _ _ _ _ :: _) _ _)); refine wpList_append_own_at _ rfl (.tmp 50) (.tmp 56) 22 rfl w.heap.size 3 j0 (.int .i64 0) 1 8 Try.underlying22 ji jz0 jz1 jz2 rfl (by decide) _ 0 [] rfl (own_nil w4 _) ⟨g, 0, none⟩ s (s + 1) (iv (left.take s)) rfl HTK.out (I4.out.news s) (iv_one _) (by unfold maxLen; omega) (by omega) hbs4 ?_; intro v5 w5 o5 hg5 _ h5; obtain ⟨q5, ap5⟩ := apart_keep0 (own_nil w4 w.heap.size) Q4.out (apart_nil _) hg5 h5; obtain ⟨r5, ap6⟩ := apart_keep0 (own_nil w4 w.heap.size) O4.out (apart_nil _) hg5 h5; have b5 := b4.trans (own_grow (own_nil w4 w.heap.size) hbs4 hg5); have hbs5 := b5.size; have ct5 := HTC.out _ b5; have I5 := Lib.hid (own_intsAt q5); have P5 := Lib.hid o5; have O5 := Lib.hid r5; have AP5 := Lib.hid ap6; clear q5 o5 ap5 ap6 r5)
                    | ((with_reducible refine (?_ : wpList _ _ _ (Oper.mk (some 66) _ _ _ _ _ :: _) _ _)); refine wpList_append_own_at _ rfl (.tmp 58) (.tmp 65) 22 rfl w.heap.size 3 j0 (.int .i64 0) 1 8 Try.underlying22 ji jz0 jz1 jz2 rfl (by decide) _ _ _ rfl P5.out ⟨g, 0, none⟩ 0 0 (iv (left.drop (s + 1))) rfl HD0.out (HDN.out _ _) (iv_one _) (by unfold maxLen; omega) (by omega) hbs5 ?_; intro v6 w6 o6 hg6 _ h6; obtain ⟨r6, ap6⟩ := apart_keep0 P5.out O5.out AP5.out hg6 h6; have b6 := b5.trans (own_grow P5.out hbs5 hg6)))
                  have o7 : w6.ownsRow w.heap.size 3 1 v6 (left.take s ++ left.drop (s + 1)).length (iv (left.take s ++ left.drop (s + 1))) := by
                    have h := o6
                    rw [List.nil_append, ← iv_app, Nat.zero_add] at h
                    rw [HLL.out]
                    first | exact h | (rw [hs0]; exact h)
                  rw [← HYN.out] at r6
                  go_roundw
                  case rel => exact ⟨k + 1, _, _, _, by omega, by go_num, Lib.hid rfl, HMD.out, o7, r6, Lib.hid ap6, b6⟩
                  case measure => simp [intOf]; omega
                · have hne : ¬ c3 = s + 1 := hcc
                  go_wp2_with (first
                    | ((with_reducible refine (?_ : wpList _ _ _ (Oper.mk (some 49) _ _ _ _ _ :: _) _ _)); refine wpList_append_own_at _ rfl (.tmp 40) (.tmp 48) 22 rfl w.heap.size 3 j0 (.int .i64 0) 1 8 Try.underlying22 ji jz0 jz1 jz2 rfl (by decide) _ _ _ rfl (HU.out.alloc _) ⟨wr.heap.size, 0, none⟩ 1 1 [.int .i64 y] rfl rfl (news_one hnr) (by simp [Value.oneCell']) (by unfold maxLen; omega) (by omega) (by simp; omega) ?_; intro u4 w4 o4 hg4 _ h4; obtain ⟨q4, ap4⟩ := apart_keep HU.out HV.out AP.out.symm hg4 h4; have b4 := b0.trans (app1' HU.out hbs hg4); have hbs4 := b4.size; have ct4 := HTC.out _ b4; have Q4 := Lib.hid q4; have I4 := Lib.hid (own_intsAt q4); have O4 := Lib.hid o4; have AP4 := Lib.hid ap4; clear q4 o4 ap4)
                    | ((with_reducible refine (?_ : wpList _ _ _ (Oper.mk (some 57) _ _ _ _ _ :: _) _ _)); refine wpList_append_own_at _ rfl (.tmp 50) (.tmp 56) 22 rfl w.heap.size 3 j0 (.int .i64 0) 1 8 Try.underlying22 ji jz0 jz1 jz2 rfl (by decide) _ 0 [] rfl (own_nil w4 _) ⟨g, 0, none⟩ s c3 (iv (left.take s)) rfl HTK.out (I4.out.news s) (iv_one _) (by unfold maxLen; omega) (by omega) hbs4 ?_; intro v5 w5 o5 hg5 _ h5; obtain ⟨q5, ap5⟩ := apart_keep0 (own_nil w4 w.heap.size) Q4.out (apart_nil _) hg5 h5; obtain ⟨r5, ap6⟩ := apart_keep0 (own_nil w4 w.heap.size) O4.out (apart_nil _) hg5 h5; have b5 := b4.trans (own_grow (own_nil w4 w.heap.size) hbs4 hg5); have hbs5 := b5.size; have ct5 := HTC.out _ b5; have I5 := Lib.hid (own_intsAt q5); have P5 := Lib.hid o5; have O5 := Lib.hid r5; have AP5 := Lib.hid ap6; clear q5 o5 ap5 ap6 r5)
                    | ((with_reducible refine (?_ : wpList _ _ _ (Oper.mk (some 66) _ _ _ _ _ :: _) _ _)); refine wpList_append_own_at _ rfl (.tmp 58) (.tmp 65) 22 rfl w.heap.size 3 j0 (.int .i64 0) 1 8 Try.underlying22 ji jz0 jz1 jz2 rfl (by decide) _ _ _ rfl P5.out ⟨g, s + 1, none⟩ 0 (c3 - (s + 1)) (iv (left.drop (s + 1))) rfl HD0.out (HDN.out _ _) (iv_one _) (by unfold maxLen; omega) (by omega) hbs5 ?_; intro v6 w6 o6 hg6 _ h6; obtain ⟨r6, ap6⟩ := apart_keep0 P5.out O5.out AP5.out hg6 h6; have b6 := b5.trans (own_grow P5.out hbs5 hg6)))
                  have o7 : w6.ownsRow w.heap.size 3 1 v6 (left.take s ++ left.drop (s + 1)).length (iv (left.take s ++ left.drop (s + 1))) := by
                    have h := o6
                    rw [List.nil_append, ← iv_app, Nat.zero_add] at h
                    rw [HLL.out]
                    first | exact h | (rw [hs0]; exact h)
                  rw [← HYN.out] at r6
                  go_roundw
                  case rel => exact ⟨k + 1, _, _, _, by omega, by go_num, Lib.hid rfl, HMD.out, o7, r6, Lib.hid ap6, b6⟩
                  case measure => simp [intOf]; omega
        · obtain rfl : k = t.length := by omega
          obtain ⟨h1, h2⟩ := HD.out.all rfl
          have HV := Lib.hid h1
          have HO := Lib.hid h2
          clear h1 h2
          obtain ⟨A5, c5, e5, -, -, -⟩ := own_intsI u0
          have hdd : decide ((t.length : Int) ≤ 12) = decide (t.length ≤ 12) := decide_eq_decide.2 (by omega)
          cases h12 : decide (t.length ≤ 12)
          · have HT : Hid (isT t = false) := Lib.hid (by unfold isT; rw [h12]; rfl)
            rw [h12] at hdd
            go_wp2
            go_ret2
            exact ⟨by unfold madeR; rw [HT.out]; exact ⟨_, _, _, rfl⟩, b0⟩
          · have HT : Hid (isT t = true) := Lib.hid (by unfold isT; rw [h12, HO.out]; rfl)
            rw [h12] at hdd
            go_wp2
            go_ret2
            exact ⟨by unfold madeR; rw [HT.out]; exact ⟨_, _, rfl, by rw [← HV.out]; exact u0⟩, b0⟩
end Go.Proofs.Ytheblebfeinjjaa
