/- SumsParts returns true for every input. -/
import Derived.Test.YtokjdadgdfmffaaMM
import Derived.Test.YtokjdadgdfmffaaMN
namespace Go.Proofs.Ytokjdadgdfmffaa
open Go.RowKit
set_option maxHeartbeats 4000000
set_option maxRecDepth 100000
theorem zero_el {g : List Int} {m n : Nat} (hg : IsG g m n) : elV m n (List.replicate g.length 0) = true ∧ elA m (List.replicate g.length 0) = 0 ∧ elB m (List.replicate g.length 0) = 0 := by
  obtain ⟨⟨g1, g2, g3, g4⟩, ⟨rfl, h1⟩ | ⟨rfl, h1⟩, h2, _⟩ := hg
  · refine ⟨decide_eq_true ⟨h1, by omega, by omega⟩, rfl, ?_⟩
    simp [elB]
  · refine ⟨decide_eq_true ⟨by omega, ⟨by omega, by omega⟩, by omega, by omega⟩, ?_, ?_⟩
    · show (if m = 1 then (0 : Int) else 0) = 0
      split <;> rfl
    · simp [elB, List.replicate]
theorem tbR_short (L : List (List Int)) (k i : Nat) : (getl (tbR L k) i).length ≤ 3 := by
  unfold getl tbR
  rw [List.getD_eq_getElem?_getD, List.getElem?_map]
  cases (L.take k)[i]? with
  | none => simp
  | some x => simp; omega
theorem SumsParts_any (A0 : Option Addr) (c0 : Nat) (gs : List Int) (A1 : Option Addr) (c1 : Nat) (L : List (List Int)) (A2 : Option Addr) (c2 : Nat) (xs : List Int) (w : World)
    (hx0 : gs.length ≤ c0) (hc0 : c0 ≤ maxLen) (ha0 : IntsAt w A0 gs) (hx1 : L.length ≤ c1) (hc1 : c1 ≤ maxLen) (ha1 : RowsIn w A1 L) (hx2 : xs.length ≤ c2) (hc2 : c2 ≤ maxLen) (ha2 : IntsAt w A2 xs) :
    Calls Try.prog 3 #[.slice A0 gs.length c0, .slice A1 L.length c1, .slice A2 xs.length c2] w fun e w' => e = .returned (.bool true) ∧ Below w.heap.size w w' := by
  have hG : (gs.take 110).length ≤ 1000000 := by rw [List.length_take]; omega
  have hX : (xs.take 110).length ≤ 1000000 := by rw [List.length_take]; omega
  have hTl : (tbR L (min L.length 61)).length = min L.length 61 := tbR_len (by omega)
  have hT1 : (tbR L (min L.length 61)).length ≤ 1000000 := by rw [hTl]; omega
  have hT2 : ∀ i, i < (tbR L (min L.length 61)).length → (getl (tbR L (min L.length 61)) i).length ≤ 1000000 := fun i _ => by have := tbR_short L (min L.length 61) i; omega
  have H1 := Lib.hid (fun V (hV : Below w.heap.size w V) => list_copy_any A0 c0 gs V hx0 hc0 (ha0.below hV))
  have H3 := Lib.hid (fun V (hV : Below w.heap.size w V) => list_copy_any A2 c2 xs V hx2 hc2 (ha2.below hV))
  have H2 : Hid (∀ V, Below w.heap.size w V → Calls Try.prog 15 #[.slice A1 L.length c1] V fun e w' => ∃ A' c', e = .returned (.slice A' (tbR L (min L.length 61)).length c') ∧ RowsAt w' A' (tbR L (min L.length 61)) ∧ Below V.heap.size V w') := Lib.hid (fun V hV => by
    refine (table_any A1 c1 L V (by omega) (ha1.below hV)).mono ?_
    rintro e w' ⟨A', c', cs, rfl, h2, h3, h4⟩
    refine ⟨A', c', by rw [hTl], rows_at h3 h2, h4⟩)
  revert H1 H2 H3 hT1 hT2 hG hX
  generalize gs.take 110 = G
  generalize xs.take 110 = X
  generalize tbR L (min L.length 61) = T
  intro hG hX hT1 hT2 H1 H3 H2
  have H6 := Lib.hid (fun V A c (h : IntsAt V A G) => RefGroup_any A c G V hG h)
  cases hgv : grV G with
  | false =>
    rw [hgv] at H6
    exact sp_nogroup A0 A1 A2 _ _ _ c0 c1 c2 G X T w H1 H2 H3 (Lib.hid fun V A c B d ha hb => (Zero_bad A B c d G T V hG hT1 hT2 ha hb (.inl hgv)).mono fun _ _ h => noneR_l h)
      (Lib.hid fun V A c B d C s ha hb _ => (Part_bad A B C c d s G X T V hG hT1 hT2 ha hb (.inl hgv)).mono fun _ _ h => noneR_l h) H6
  | true =>
  rw [hgv] at H6
  obtain ⟨m, n, hg⟩ := isG_of hgv
  have H7 := Lib.hid (fun V A c B d (ha : IntsAt V A G) (hb : RowsAt V B T) => RefList_any A B c d m n G T V hg hT1 hT2 ha hb)
  cases hlv : rlV m n T with
  | false =>
    rw [hlv] at H7
    exact sp_nolist A0 A1 A2 _ _ _ c0 c1 c2 G X T w H1 H2 H3 (Lib.hid fun V A c B d ha hb => (Zero_bad A B c d G T V hG hT1 hT2 ha hb (.inr ⟨m, n, hg, hlv⟩)).mono fun _ _ h => noneR_l h)
      (Lib.hid fun V A c B d C s ha hb _ => (Part_bad A B C c d s G X T V hG hT1 hT2 ha hb (.inr ⟨m, n, hg, hlv⟩)).mono fun _ _ h => noneR_l h) H6 H7
  | true =>
  rw [hlv] at H7
  obtain ⟨hZ1, hZ2, hZ3⟩ := zero_el hg
  have hGl := isG_len hg
  obtain ⟨h60, hel⟩ := rlV_el hg.1 hlv
  have hem : ∀ e ∈ rlE m T, El m n e.1 e.2 := fun e he => by
    obtain ⟨i, hi, rfl⟩ := List.mem_iff_getElem.1 he
    exact hel i hi
  have H8 := Lib.hid (fun V A c => RefZero_any A c G.length V (by omega))
  have hZl : (List.replicate G.length (0 : Int)).length = G.length := List.length_replicate
  have hEl0 := elV_el hg.1 hZ1
  have HF1 := Lib.hid (fun V A c B d C s (ha : IntsAt V A G) (hb : RowsAt V B T) (hC : IntsAt V C (List.replicate G.length 0)) => RefFirst_any A B C c d s m n 1 G (List.replicate G.length 0) T V hg hT2 ha hb hC hlv hZ1 (by omega) _ ⟨fun h => absurd h (by omega), fun _ => rfl⟩)
  rw [hZl, hZ2, hZ3] at HF1
  rw [hZ2, hZ3] at hEl0
  revert H8 HF1
  generalize List.replicate G.length (0 : Int) = Z
  intro H8 HF1
  have hlen : ∀ a b, (zrL m n T a b).length ≤ 60 := fun a b => Nat.le_trans (shF_len _ _ _ _ _ _) h60
  have HI : ∀ p : List Int, p.length ≤ 60 → Hid (∀ V A B c d, IntsAt V A p → IntsAt V B p → Calls Try.prog 23 #[.slice A p.length c, .slice B p.length d] V fun e w' => e = .returned (.bool true) ∧ Below V.heap.size V w') := fun p hp => Lib.hid fun V A B c d ha hb => by
    refine (ints_yes A B c d p p.length V rfl (by omega) ha hb).mono ?_
    rintro e _ ⟨rfl, k, rfl⟩
    exact ⟨rfl, below_drewN k⟩
  have far : ∀ l : List Int, l.length ≤ 60 → (l = [] ∧ lnF l = farN) ∨ (0 < l.length ∧ lnF l < farN) := fun l hl => by
    cases l with
    | nil => exact .inl ⟨rfl, rfl⟩
    | cons x l =>
      refine .inr ⟨by simp, ?_⟩
      unfold lnF farN
      rw [if_neg (by simp)]
      omega
  have HZ : ((Hid (∀ V A c B d, IntsAt V A G → RowsAt V B T → Calls Try.prog 16 #[.slice A G.length c, .slice B T.length d] V (LRes V [] 6))) ∧ (Hid (∀ V A c B d C s, IntsAt V A G → RowsAt V B T → IntsAt V C Z → Calls Try.prog 21 #[.slice A G.length c, .slice B T.length d, .slice C G.length s, .int .i64 1] V (FNon V))))
      ∨ ∃ z : List Int, z.length ≤ 60 ∧ (Hid (∀ V A c B d, IntsAt V A G → RowsAt V B T → Calls Try.prog 16 #[.slice A G.length c, .slice B T.length d] V (LRes V z 0))) ∧ (Hid (∀ V A c B d C s, IntsAt V A G → RowsAt V B T → IntsAt V C Z → Calls Try.prog 21 #[.slice A G.length c, .slice B T.length d, .slice C G.length s, .int .i64 1] V (FRes V z))) := by
    obtain ⟨k1, -, k3⟩ := nz_part hg.1 hem h60 hEl0
    rcases far _ (hlen 0 0) with ⟨h1, h2⟩ | ⟨h1, h2⟩
    · refine .inl ⟨Lib.hid fun V A c B d ha hb => (Zero_none A B c d m n G T V hg hT2 ha hb hlv h1).mono fun _ _ h => noneR_l h, Lib.hid fun V A c B d C s ha hb hC => (HF1.out V A c B d C s ha hb hC).mono fun _ _ h => firR_none h ?_⟩
      rw [k1]; exact Nat.le_of_eq h2.symm
    · refine .inr ⟨zrL m n T 0 0, hlen 0 0, Lib.hid fun V A c B d ha hb => (Zero_some A B c d m n G T V hg hT2 ha hb hlv h1).mono fun _ _ h => someR_l h, Lib.hid fun V A c B d C s ha hb hC => (HF1.out V A c B d C s ha hb hC).mono fun _ _ h => ?_⟩
      have hlt : nzN m n (rlE m T) (cdN n 0 0) < farN := by rw [k1]; exact h2
      have h3 := firR_some h hlt
      rw [k3 hlt] at h3
      exact h3
  have HP : ((Hid (∀ V A c C s, IntsAt V A G → IntsAt V C X → Calls Try.prog 24 #[.slice A G.length c, .slice C X.length s] V fun e w' => e = .returned (.bool false) ∧ Below V.heap.size V w')) ∧ (Hid (∀ V A c B d C s, IntsAt V A G → RowsAt V B T → IntsAt V C X → Calls Try.prog 17 #[.slice A G.length c, .slice B T.length d, .slice C X.length s] V (LRes V [] 2))))
      ∨ ((Hid (∀ V A c C s, IntsAt V A G → IntsAt V C X → Calls Try.prog 24 #[.slice A G.length c, .slice C X.length s] V fun e w' => e = .returned (.bool true) ∧ Below V.heap.size V w')) ∧ (Hid (∀ V A c B d C s, IntsAt V A G → RowsAt V B T → IntsAt V C X → Calls Try.prog 17 #[.slice A G.length c, .slice B T.length d, .slice C X.length s] V (LRes V [] 6))) ∧ (Hid (∀ V A c B d C s, IntsAt V A G → RowsAt V B T → IntsAt V C X → Calls Try.prog 21 #[.slice A G.length c, .slice B T.length d, .slice C X.length s, .int .i64 0] V (FNon V))))
      ∨ ((Hid (∀ V A c C s, IntsAt V A G → IntsAt V C X → Calls Try.prog 24 #[.slice A G.length c, .slice C X.length s] V fun e w' => e = .returned (.bool true) ∧ Below V.heap.size V w')) ∧ ∃ p : List Int, p.length ≤ 60 ∧ (Hid (∀ V A c B d C s, IntsAt V A G → RowsAt V B T → IntsAt V C X → Calls Try.prog 17 #[.slice A G.length c, .slice B T.length d, .slice C X.length s] V (LRes V p 0))) ∧ (Hid (∀ V A c B d C s, IntsAt V A G → RowsAt V B T → IntsAt V C X → Calls Try.prog 21 #[.slice A G.length c, .slice B T.length d, .slice C X.length s, .int .i64 0] V (FRes V p)))) := by
    have HE := Lib.hid (fun V A c C s (ha : IntsAt V A G) (hC : IntsAt V C X) => RefElement_any A C c s m n G X V hg hX ha hC)
    cases hev : elV m n X with
    | false =>
      rw [hev] at HE
      exact .inl ⟨HE, Lib.hid fun V A c B d C s ha hb hC => (Part_el A B C c d s m n G X T V hg hT2 hX ha hb hC hlv hev).mono fun _ _ h => noneR_l h⟩
    | true =>
    rw [hev] at HE
    refine .inr ?_
    have hEl := elV_el hg.1 hev
    have HF0 := Lib.hid (fun V A c B d C s (ha : IntsAt V A G) (hb : RowsAt V B T) (hC : IntsAt V C X) => RefFirst_any A B C c d s m n 0 G X T V hg hT2 ha hb hC hlv hev (by omega) _ ⟨fun _ => rfl, fun h => absurd h (by omega)⟩)
    by_cases h0 : elA m X = 0 ∧ elB m X = 0
    · refine .inr ⟨HE, [], by simp, Lib.hid fun V A c B d C s ha hb hC => (Part_zero A B C c d s m n G X T V hg hT2 hX ha hb hC hlv hev h0).mono fun _ _ h => noneR_l h, Lib.hid fun V A c B d C s ha hb hC => (HF0.out V A c B d C s ha hb hC).mono fun _ _ h => ?_⟩
      obtain ⟨-, c1, c2⟩ := cdN_ok hEl
      have hs : szN m n (rlE m T) (cdN n (elA m X) (elB m X)) = 0 := by unfold szN; rw [c1, c2, h0.1, h0.2, szL_zero]
      have h3 := firR_some h (by rw [hs]; decide)
      rw [hs] at h3
      unfold gdN at h3
      rw [gdL_zero] at h3
      exact h3
    · obtain ⟨k1, k2, k3⟩ := nz_part hg.1 hem h60 hEl
      replace k2 := k2 h0
      rw [k2] at HF0
      have HPG := Lib.hid (fun V A c B d C s (ha : IntsAt V A G) (hb : RowsAt V B T) (hC : IntsAt V C X) => Part_go A B C c d s m n G X T V hg hT2 hX ha hb hC hlv hev h0)
      rcases far _ (hlen (elA m X) (elB m X)) with ⟨h1, h2⟩ | ⟨h1, h2⟩
      · refine .inl ⟨HE, Lib.hid fun V A c B d C s ha hb hC => (HPG.out V A c B d C s ha hb hC).mono fun _ _ h => noneR_l (h.1 h1), Lib.hid fun V A c B d C s ha hb hC => (HF0.out V A c B d C s ha hb hC).mono fun _ _ h => firR_none h ?_⟩
        rw [k1]; exact Nat.le_of_eq h2.symm
      · refine .inr ⟨HE, _, hlen (elA m X) (elB m X), Lib.hid fun V A c B d C s ha hb hC => (HPG.out V A c B d C s ha hb hC).mono fun _ _ h => someR_l (h.2 h1), Lib.hid fun V A c B d C s ha hb hC => (HF0.out V A c B d C s ha hb hC).mono fun _ _ h => ?_⟩
        have hlt : nzN m n (rlE m T) (cdN n (elA m X) (elB m X)) < farN := by rw [k1]; exact h2
        have h3 := firR_some h hlt
        rw [k3 hlt] at h3
        exact h3
  rcases HZ with ⟨z1, z2⟩ | ⟨z, hz, z1, z2⟩
  · rcases HP with ⟨e1, p1⟩ | ⟨e1, p1, f1⟩ | ⟨e1, p, hp, p1, f1⟩
    · exact sp_none_noel A0 A1 A2 _ _ _ c0 c1 c2 G X Z T w H1 H2 H3 z1 p1 H6 H7 H8 z2 e1
    · exact sp_none_none A0 A1 A2 _ _ _ c0 c1 c2 G X Z T w H1 H2 H3 z1 p1 H6 H7 H8 z2 e1 f1
    · exact sp_none_some A0 A1 A2 _ _ _ c0 c1 c2 G X Z p T w H1 H2 H3 z1 p1 H6 H7 H8 z2 e1 f1 (HI p hp)
  · rcases HP with ⟨e1, p1⟩ | ⟨e1, p1, f1⟩ | ⟨e1, p, hp, p1, f1⟩
    · exact sp_some_noel A0 A1 A2 _ _ _ c0 c1 c2 G X Z z T w H1 H2 H3 z1 p1 H6 H7 H8 z2 e1 (HI z hz)
    · exact sp_some_none A0 A1 A2 _ _ _ c0 c1 c2 G X Z z T w H1 H2 H3 z1 p1 H6 H7 H8 z2 e1 f1 (HI z hz)
    · exact sp_some_some A0 A1 A2 _ _ _ c0 c1 c2 G X Z z p T w H1 H2 H3 z1 p1 H6 H7 H8 z2 e1 f1 (HI z hz) (HI p hp)
end Go.Proofs.Ytokjdadgdfmffaa
