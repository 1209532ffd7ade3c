/- A list of elements is read. -/
import Derived.Test.YtokjdadgdfmffaaKE
namespace Go.Proofs.Ytokjdadgdfmffaa
open Go.RowKit
set_option maxHeartbeats 1000000
set_option maxRecDepth 100000
/-- Lists of numbers, one behind the other. -/
def getl (L : List (List Int)) (k : Nat) : List Int := L.getD k []
def RowsAt (w : World) (A : Option Addr) (L : List (List Int)) : Prop :=
  0 < L.length → ∃ b o, A = some ⟨b, o, none⟩ ∧ b < w.heap.size ∧ ∀ i, i < L.length → ∃ B c, w.cell? ⟨b, o + i, none⟩ = some (.slice B (getl L i).length c) ∧ IntsAt w B (getl L i)
theorem RowsAt.below {w w' : World} {A : Option Addr} {L : List (List Int)} (h : RowsAt w A L) (hg : Below w.heap.size w w') : RowsAt w' A L := fun hp => by
  obtain ⟨b, o, e, hb, hc⟩ := h hp
  refine ⟨b, o, e, Nat.lt_of_lt_of_le hb hg.size, fun i hi => ?_⟩
  obtain ⟨B, c, h1, h2⟩ := hc i hi
  exact ⟨B, c, (hg.cell (p := ⟨b, _, none⟩) hb).trans h1, h2.below hg⟩
/-- The cells of elements. -/
def pcs (es : List (Int × Int)) : List Value := es.flatMap fun e => [.int .i64 e.1, .int .i64 e.2]
theorem pcs_len (es : List (Int × Int)) : (pcs es).length = 2 * es.length := by
  induction es with
  | nil => rfl
  | cons e es ih => unfold pcs at ih ⊢; rw [List.flatMap_cons, List.length_append, ih]; simp; omega
theorem pcs_app (a b : List (Int × Int)) : pcs (a ++ b) = pcs a ++ pcs b := by unfold pcs; rw [List.flatMap_append]
theorem pcs_at (es : List (Int × Int)) (k : Nat) (h : k < es.length) : (pcs es)[k * 2]? = some (.int .i64 es[k].1) ∧ (pcs es)[k * 2 + 1]? = some (.int .i64 es[k].2) := by
  have e : es = es.take k ++ es[k] :: es.drop (k + 1) := by rw [← List.drop_eq_getElem_cons h, List.take_append_drop]
  have hl : (pcs (es.take k)).length = k * 2 := by rw [pcs_len, List.length_take]; omega
  have h2 : pcs (es[k] :: es.drop (k + 1)) = .int .i64 es[k].1 :: .int .i64 es[k].2 :: pcs (es.drop (k + 1)) := rfl
  constructor
  · conv => lhs; rw [e]
    rw [pcs_app, h2, List.getElem?_append_right (by omega), hl, Nat.sub_self]; rfl
  · conv => lhs; rw [e]
    rw [pcs_app, h2, List.getElem?_append_right (by omega), hl, show k * 2 + 1 - k * 2 = 1 by omega]; rfl
/-- So many elements are laid. -/
def laid (es : List (Int × Int)) (k : Nat) : List (Int × Int) := es.take k ++ List.replicate (es.length - k) (0, 0)
theorem laid_len (es : List (Int × Int)) {k : Nat} (h : k ≤ es.length) : (laid es k).length = es.length := by unfold laid; rw [List.length_append, List.length_take, List.length_replicate]; omega
theorem laid_all (es : List (Int × Int)) : laid es es.length = es := by unfold laid; rw [List.take_length, Nat.sub_self]; simp
theorem laid_at (es : List (Int × Int)) {k : Nat} (h : k < es.length) (h2 : k < (laid es k).length) : (laid es k)[k] = (0, 0) := by
  have h3 : (laid es k)[k]? = some (0, 0) := by
    unfold laid
    rw [List.getElem?_append_right (by rw [List.length_take]; omega), List.getElem?_replicate, if_pos (by rw [List.length_take]; omega)]
  rw [List.getElem?_eq_getElem h2] at h3
  injection h3
theorem laid_set (es : List (Int × Int)) {k : Nat} (h : k < es.length) : ((pcs (laid es k)).set (k * 2) (.int .i64 es[k].1)).set (k * 2 + 1) (.int .i64 es[k].2) = pcs (laid es (k + 1)) := by
  have e : laid es k = es.take k ++ ((0, 0) :: List.replicate (es.length - (k + 1)) (0, 0)) := by
    unfold laid
    rw [show es.length - k = es.length - (k + 1) + 1 by omega, List.replicate_succ]
  have e2 : laid es (k + 1) = es.take k ++ (es[k] :: List.replicate (es.length - (k + 1)) (0, 0)) := by
    unfold laid
    rw [List.take_succ_eq_append_getElem h, List.append_assoc]; rfl
  have hl : (pcs (es.take k)).length = k * 2 := by rw [pcs_len, List.length_take]; omega
  have h3 : ∀ (p : Int × Int) l, pcs (p :: l) = .int .i64 p.1 :: .int .i64 p.2 :: pcs l := fun _ _ => rfl
  rw [e, e2, pcs_app, pcs_app, h3, h3, List.set_append_right _ _ (by omega), hl, Nat.sub_self, List.set_cons_zero, List.set_append_right _ _ (by omega), hl, show k * 2 + 1 - k * 2 = 1 by omega, List.set_cons_succ, List.set_cons_zero]
theorem made_pairs (n : Nat) : (madeCells (pv 0 0).cells (n * 2)).toList = pcs (List.replicate n (0, 0)) := by
  unfold madeCells
  apply List.ext_getElem?
  intro i
  have hc : (pv 0 0).cells = #[.int .i64 0, .int .i64 0] := rfl
  rw [hc]
  by_cases h : i < n * 2
  · have e : i = (i / 2) * 2 + i % 2 := by omega
    have h4 : i / 2 < (List.replicate n ((0 : Int), (0 : Int))).length := by rw [List.length_replicate]; omega
    have hp := pcs_at (List.replicate n (0, 0)) (i / 2) h4
    rw [List.getElem_replicate] at hp
    have h2 : i % 2 = 0 ∨ i % 2 = 1 := by omega
    rcases h2 with h2 | h2
    · rw [show (i / 2) * 2 = i by omega] at hp
      rw [hp.1]
      simp [h, h2]
    · rw [show (i / 2) * 2 + 1 = i by omega] at hp
      rw [hp.2]
      simp [h, h2]
  · have h5 : (pcs (List.replicate n (0, 0)))[i]? = none := List.getElem?_eq_none (by rw [pcs_len, List.length_replicate]; omega)
    rw [h5]
    simp [h]
theorem info69p : (Try.prog.info? 69).map (fun i => (i.zero, i.size, i.bytes)) = some (some (pv 0 0), 2, 16) := by kernel_rfl
theorem make_el (n : Nat) (hn : n ≤ 1000000) (W : World) : (Instr.makeSlice 64 (.int .i64 n) (.int .i64 n)).run Try.prog W = .ok (.slice (some ⟨W.heap.size, 0, none⟩) n n) (W.alloc (.cells (pcs (List.replicate n (0, 0))).toArray 69)) := by
  obtain ⟨j0, ji, jz0, jz1, jz2⟩ := info_parts info69p
  have h := run_make (P := Try.prog) W 64 69 j0 (pv 0 0) Try.underlying64 ji jz0 .i64 .i64 n n (by omega) (by omega) (by rw [jz2]; omega) (by omega)
  rw [jz1, Int.toNat_natCast] at h
  rw [h, ← made_pairs]
/-- What is read as a list of elements, and whether it is one. -/
def rlE (m : Nat) (L : List (List Int)) : List (Int × Int) := L.map fun xs => (elA m xs, elB m xs)
def rlV (m n : Nat) (L : List (List Int)) : Bool := decide (L.length ≤ 60 ∧ ∀ i, i < L.length → elV m n (getl L i) = true)
theorem rlE_at (m : Nat) (L : List (List Int)) {k : Nat} (h : k < L.length) (h2 : k < (rlE m L).length) : (rlE m L)[k] = (elA m (getl L k), elB m (getl L k)) := by
  have h3 : (rlE m L)[k]? = some (elA m (getl L k), elB m (getl L k)) := by
    unfold rlE getl
    rw [List.getElem?_map, List.getD_eq_getElem?_getD, List.getElem?_eq_getElem h]; rfl
  rw [List.getElem?_eq_getElem h2] at h3
  injection h3
/-- The elements, in new memory. -/
def ElsAt (w : World) (es : List (Int × Int)) (e : Value) (w' : World) : Prop := ∃ g, e = .slice (some ⟨g, 0, none⟩) es.length es.length ∧ w.heap.size ≤ g ∧ Row w' g 69 (pcs es)
def ListR (w : World) (es : List (Int × Int)) (e : Ending) (w' : World) : Prop := ∃ v, e = .returned (.tuple #[v, .bool true]) ∧ ElsAt w es v w' ∧ Below w.heap.size w w'
theorem readList_no (A : Option Addr) (c m n : Nat) (L : List (List Int)) (w : World) (hg : Gr m n) (hl : L.length ≤ 1000000) (hl2 : ∀ i, i < L.length → (getl L i).length ≤ 1000000) (ha : RowsAt w A L) (hv : rlV m n L = false) :
    Calls Try.prog 64 #[pv m n, .slice A L.length c] w fun e w' => e = .returned (.tuple #[.slice none 0 0, .bool false]) ∧ Below w.heap.size w w' := by
  by_cases h60 : L.length ≤ 60
  · skip
    have g1 : decide ((60 : Int) < L.length) = false := decide_eq_false (by omega)
    have hmk := make_el L.length (by omega)
    have hel : (rlE m L).length = L.length := by simp [rlE]
    have HL := Lib.hid hel
    have H2 := Lib.hid hl2
    have r1 : Row ((w.alloc (.cells #[.int .i64 m, .int .i64 n] 63)).alloc (.cells (pcs (List.replicate L.length (0, 0))).toArray 69)) (w.heap.size + 1) 69 (pcs (laid (rlE m L) 0)) := by
      rw [show laid (rlE m L) 0 = List.replicate L.length (0, 0) by unfold laid; rw [hel]; simp]; exact row_new (by simp)
    have r0 : Row ((w.alloc (.cells #[.int .i64 m, .int .i64 n] 63)).alloc (.cells (pcs (List.replicate L.length (0, 0))).toArray 69)) w.heap.size 63 [.int .i64 m, .int .i64 n] := (row_new rfl).alloc _
    have b0 : Below w.heap.size w ((w.alloc (.cells #[.int .i64 m, .int .i64 n] 63)).alloc (.cells (pcs (List.replicate L.length (0, 0))).toArray 69)) := by (repeat (first | exact Below.refl _ _ | assumption | (refine Below.setCell ?_ (by first | exact Nat.le_refl _ | omega | (simp; done) | (simp; omega)) _) | (refine Below.trans ?_ (below_drewN _)) | (refine Below.drew ?_) | (refine Below.alloc ?_ (by first | exact Nat.le_refl _ | omega | (simp; done) | (simp; omega)) _) | (refine below_row ?_ (by first | exact Nat.le_refl _ | omega | (simp; done) | (simp; omega)) _)))
    have HA0 := Lib.hid ha
    have HN := Lib.hid (show (∀ i, i < L.length → elV m n (getl L i) = true) → False from fun h => by have := decide_eq_true (p := L.length ≤ 60 ∧ ∀ i, i < L.length → elV m n (getl L i) = true) ⟨h60, h⟩; unfold rlV at hv; rw [hv] at this; cases this)
    have H0 := Lib.hid (fun (i : Nat) (h : i < 0) => (absurd h (Nat.not_lt_zero i) : elV m n (getl L i) = true))
    clear hv hl2 hel ha
    go_enter Try.func64, Try.ntmps64
    go_wp2
    clear hmk
    go_loopw [19] (fun i wr => ∃ k : Nat, k ≤ L.length ∧ i = .int .i64 k ∧ Row wr w.heap.size 63 [.int .i64 m, .int .i64 n] ∧ Row wr (w.heap.size + 1) 69 (pcs (laid (rlE m L) k)) ∧ Below w.heap.size w wr ∧ Hid (∀ i, i < k → elV m n (getl L i) = true)) (fun i _ => L.length - (intOf i).toNat)
    case atStart => exact ⟨0, by omega, rfl, r0, r1, b0, H0⟩
    case round =>
      clear r0 r1 b0 H0
      obtain ⟨k, hk, rfl, r0, r1, b0, HK⟩ := hrel
      by_cases hlt : k < L.length
      · obtain ⟨b, o, hAe, hb, hc⟩ := (HA0.out.below b0) (by omega)
        subst hAe
        obtain ⟨B, c', hcell, hi⟩ := hc k hlt
        obtain ⟨⟨c0, c1⟩, -, -⟩ := r0.cells2
        have hk2 : k < (rlE m L).length := by rw [HL.out]; exact hlt
        have hX : Hid (elR m n (getl L k) = .tuple #[pv (rlE m L)[k].1 (rlE m L)[k].2, .bool (elV m n (getl L k))]) := Lib.hid (by rw [rlE_at m L hlt hk2]; rfl)
        have h2 := H2.out k hlt
        have hp1 := pcs_at (laid (rlE m L) k) k (by rw [laid_len _ (by omega)]; exact hk2)
        have hst := laid_set (rlE m L) hk2
        generalize (rlE m L)[k] = p at *
        obtain ⟨x, y⟩ := p
        dsimp only at hX hst
        have HST := Lib.hid hst
        have HP := Lib.hid hp1
        have HC := Lib.hid hc
        clear hst hp1 hc
        have hl0 := r0.lt
        have hl1 := r1.lt
        have hbs := b0.size
        cases hv : elV m n (getl L k)
        · rw [hv] at hX
          clear hv
          go_wp2_with (go_at_call 50; refine (readEl_any B c' m n (getl L k) _ hg h2 hi).mono ?_; rintro e w1 ⟨he, hb1⟩; rw [hX.out] at he; subst he; have p0 := (r0.below hb1).alloc (.cells #[.int .i64 x, .int .i64 y] 69); have p1 := (r1.below hb1).alloc (.cells #[.int .i64 x, .int .i64 y] 69); have p3 : Row (w1.alloc (.cells #[.int .i64 x, .int .i64 y] 69)) w1.heap.size 69 [.int .i64 x, .int .i64 y] := row_new rfl; have pb := (b0.trans (hb1.mono hbs)).alloc (Nat.le_trans hbs hb1.size) (.cells #[.int .i64 x, .int .i64 y] 69); obtain ⟨⟨z1, z2⟩, -, -⟩ := p3.cells2; have y0 := p1.cell (k * 2); have y1 := p1.cell (k * 2 + 1); rw [HP.out.1] at y0; rw [HP.out.2] at y1; have f0 := p1.free (k * 2); have f1 := p1.free (k * 2 + 1); clear r0 r1 b0)
          go_ret2
          exact ⟨rfl, pb⟩
        · have HV := Lib.hid hv
          rw [hv] at hX
          clear hv
          go_wp2_with (go_at_call 50; refine (readEl_any B c' m n (getl L k) _ hg h2 hi).mono ?_; rintro e w1 ⟨he, hb1⟩; rw [hX.out] at he; subst he; have p0 := (r0.below hb1).alloc (.cells #[.int .i64 x, .int .i64 y] 69); have p1 := (r1.below hb1).alloc (.cells #[.int .i64 x, .int .i64 y] 69); have p3 : Row (w1.alloc (.cells #[.int .i64 x, .int .i64 y] 69)) w1.heap.size 69 [.int .i64 x, .int .i64 y] := row_new rfl; have pb := (b0.trans (hb1.mono hbs)).alloc (Nat.le_trans hbs hb1.size) (.cells #[.int .i64 x, .int .i64 y] 69); obtain ⟨⟨z1, z2⟩, -, -⟩ := p3.cells2; have y0 := p1.cell (k * 2); have y1 := p1.cell (k * 2 + 1); rw [HP.out.1] at y0; rw [HP.out.2] at y1; have f0 := p1.free (k * 2); have f1 := p1.free (k * 2 + 1); clear r0 r1 b0)
          go_roundw
          case rel =>
            refine ⟨k + 1, by omega, by go_num, (p0.far (by dsimp only; omega) _).far (by dsimp only; omega) _, ?_, (pb.setCell (by dsimp only; omega) _).setCell (by dsimp only; omega) _, Lib.hid fun i hi => ?_⟩
            · rw [← HST.out]
              exact (p1.set _ _).set _ _
            · by_cases e : i = k
              · subst e; exact HV.out
              · exact HK.out i (by omega)
          case measure => simp [intOf]; omega
      · exact absurd (fun i hi => HK.out i (by omega)) HN.out
  · have g1 : decide ((60 : Int) < L.length) = true := decide_eq_true (by omega)
    go_enter Try.func64, Try.ntmps64
    go_wp2
    go_ret2
    exact ⟨rfl, by (repeat (first | exact Below.refl _ _ | assumption | (refine Below.setCell ?_ (by first | exact Nat.le_refl _ | omega | (simp; done) | (simp; omega)) _) | (refine Below.trans ?_ (below_drewN _)) | (refine Below.drew ?_) | (refine Below.alloc ?_ (by first | exact Nat.le_refl _ | omega | (simp; done) | (simp; omega)) _) | (refine below_row ?_ (by first | exact Nat.le_refl _ | omega | (simp; done) | (simp; omega)) _)))⟩
theorem readList_yes (A : Option Addr) (c m n : Nat) (L : List (List Int)) (w : World) (hg : Gr m n) (hl2 : ∀ i, i < L.length → (getl L i).length ≤ 1000000) (ha : RowsAt w A L) (hv : rlV m n L = true) :
    Calls Try.prog 64 #[pv m n, .slice A L.length c] w (ListR w (rlE m L)) := by
  obtain ⟨h60, hall⟩ := of_decide_eq_true hv
  have g1 : decide ((60 : Int) < L.length) = false := decide_eq_false (by omega)
  have hmk := make_el L.length (by omega)
  have hel : (rlE m L).length = L.length := by simp [rlE]
  have HL := Lib.hid hel
  have HA := Lib.hid hall
  have H2 := Lib.hid hl2
  have r1 : Row ((w.alloc (.cells #[.int .i64 m, .int .i64 n] 63)).alloc (.cells (pcs (List.replicate L.length (0, 0))).toArray 69)) (w.heap.size + 1) 69 (pcs (laid (rlE m L) 0)) := by
    rw [show laid (rlE m L) 0 = List.replicate L.length (0, 0) by unfold laid; rw [hel]; simp]; exact row_new (by simp)
  have r0 : Row ((w.alloc (.cells #[.int .i64 m, .int .i64 n] 63)).alloc (.cells (pcs (List.replicate L.length (0, 0))).toArray 69)) w.heap.size 63 [.int .i64 m, .int .i64 n] := (row_new rfl).alloc _
  have b0 : Below w.heap.size w ((w.alloc (.cells #[.int .i64 m, .int .i64 n] 63)).alloc (.cells (pcs (List.replicate L.length (0, 0))).toArray 69)) := by (repeat (first | exact Below.refl _ _ | assumption | (refine Below.setCell ?_ (by first | exact Nat.le_refl _ | omega | (simp; done) | (simp; omega)) _) | (refine Below.trans ?_ (below_drewN _)) | (refine Below.drew ?_) | (refine Below.alloc ?_ (by first | exact Nat.le_refl _ | omega | (simp; done) | (simp; omega)) _) | (refine below_row ?_ (by first | exact Nat.le_refl _ | omega | (simp; done) | (simp; omega)) _)))
  have HA0 := Lib.hid ha
  clear hv hall hl2 hel ha
  go_enter Try.func64, Try.ntmps64
  go_wp2
  clear hmk
  go_loopw [19] (fun i wr => ∃ k : Nat, k ≤ L.length ∧ i = .int .i64 k ∧ Row wr w.heap.size 63 [.int .i64 m, .int .i64 n] ∧ Row wr (w.heap.size + 1) 69 (pcs (laid (rlE m L) k)) ∧ Below w.heap.size w wr) (fun i _ => L.length - (intOf i).toNat)
  case atStart => exact ⟨0, by omega, rfl, r0, r1, b0⟩
  case round =>
    clear r0 r1 b0
    obtain ⟨k, hk, rfl, r0, r1, b0⟩ := hrel
    by_cases hlt : k < L.length
    · obtain ⟨b, o, hAe, hb, hc⟩ := (HA0.out.below b0) (by omega)
      subst hAe
      obtain ⟨B, c', hcell, hi⟩ := hc k hlt
      obtain ⟨⟨c0, c1⟩, -, -⟩ := r0.cells2
      have hk2 : k < (rlE m L).length := by rw [HL.out]; exact hlt
      have hv := HA.out k hlt
      have hX : Hid (elR m n (getl L k) = .tuple #[pv (rlE m L)[k].1 (rlE m L)[k].2, .bool true]) := Lib.hid (by rw [rlE_at m L hlt hk2]; unfold elR; rw [hv])
      have h2 := H2.out k hlt
      have hp1 := pcs_at (laid (rlE m L) k) k (by rw [laid_len _ (by omega)]; exact hk2)
      have hst := laid_set (rlE m L) hk2
      generalize (rlE m L)[k] = p at *
      obtain ⟨x, y⟩ := p
      dsimp only at hX hst
      have HST := Lib.hid hst
      have HP := Lib.hid hp1
      have HC := Lib.hid hc
      clear hst hp1 hv hc
      have hl0 := r0.lt
      have hl1 := r1.lt
      have hbs := b0.size
      go_wp2_with (go_at_call 50; refine (readEl_any B c' m n (getl L k) _ hg h2 hi).mono ?_; rintro e w1 ⟨he, hb1⟩; rw [hX.out] at he; subst he; have p0 := (r0.below hb1).alloc (.cells #[.int .i64 x, .int .i64 y] 69); have p1 := (r1.below hb1).alloc (.cells #[.int .i64 x, .int .i64 y] 69); have p3 : Row (w1.alloc (.cells #[.int .i64 x, .int .i64 y] 69)) w1.heap.size 69 [.int .i64 x, .int .i64 y] := row_new rfl; have pb := (b0.trans (hb1.mono hbs)).alloc (Nat.le_trans hbs hb1.size) (.cells #[.int .i64 x, .int .i64 y] 69); obtain ⟨⟨z1, z2⟩, -, -⟩ := p3.cells2; have y0 := p1.cell (k * 2); have y1 := p1.cell (k * 2 + 1); rw [HP.out.1] at y0; rw [HP.out.2] at y1; have f0 := p1.free (k * 2); have f1 := p1.free (k * 2 + 1); clear r0 r1 b0)
      go_roundw
      case rel =>
        refine ⟨k + 1, by omega, by go_num, (p0.far (by dsimp only; omega) _).far (by dsimp only; omega) _, ?_, (pb.setCell (by dsimp only; omega) _).setCell (by dsimp only; omega) _⟩
        rw [← HST.out]
        exact (p1.set _ _).set _ _
      case measure => simp [intOf]; omega
    · obtain rfl : k = L.length := by omega
      have r2 : Row wr (w.heap.size + 1) 69 (pcs (rlE m L)) := by
        have h := laid_all (rlE m L)
        rw [HL.out] at h
        rw [h] at r1; exact r1
      clear r1
      go_wp2
      go_ret2
      exact ⟨_, rfl, ⟨_, by rw [HL.out]; rfl, by omega, r2⟩, b0⟩
end Go.Proofs.Ytokjdadgdfmffaa
