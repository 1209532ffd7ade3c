/- A list of strings read as a map. -/
import Derived.Test.YtoklnpiehbnalaaAU
import Derived.Test.YtoklnpiehbnalaaAN
namespace Go.Proofs.Ytoklnpiehbnalaa
open Go.RowKit Go.PlainAid
set_option maxHeartbeats 2000000
set_option maxRecDepth 100000
def gets (ss : List ByteArray) (i : Nat) : ByteArray := ss.getD i ⟨#[]⟩
/-- Strings in memory. -/
def StrsAt (w : World) (A : Option Addr) (ss : List ByteArray) : Prop :=
  0 < ss.length → ∃ b o, A = some ⟨b, o, none⟩ ∧ b < w.heap.size ∧ ∀ i, i < ss.length → w.cell? ⟨b, o + i, none⟩ = some (.string (gets ss i))
theorem StrsAt.below {w w' : World} {A : Option Addr} {ss : List ByteArray} (h : StrsAt w A ss) (hg : Below w.heap.size w w') : StrsAt w' A ss := fun hp => by
  obtain ⟨b, o, e, hb, hc⟩ := h hp
  exact ⟨b, o, e, Nat.lt_of_lt_of_le hb hg.size, fun i hi => (hg.cell (p := ⟨b, _, none⟩) hb).trans (hc i hi)⟩
/-- A string may be an image. -/
def okI (s : ByteArray) : Bool := decide (1 ≤ s.size) && decide (s.size ≤ 12) && okB s
def okMp (ss : List ByteArray) : Bool := decide (ss.length = 3) && ss.all okI
theorem okMp_iff {ss : List ByteArray} : okMp ss = true ↔ ∃ ms, IsMp ms ∧ ss = ms.map wS := by
  unfold okMp
  rw [Bool.and_eq_true, decide_eq_true_eq, List.all_eq_true]
  constructor
  · rintro ⟨h1, h2⟩
    have h3 : ∀ s ∈ ss, wS (dS s) = s ∧ okW (dS s) ∧ 1 ≤ s.size ∧ s.size ≤ 12 := fun s hs => by
      have := h2 s hs
      unfold okI at this
      rw [Bool.and_eq_true, Bool.and_eq_true, decide_eq_true_eq, decide_eq_true_eq] at this
      obtain ⟨h4, h5⟩ := dS_wS (okB_at this.2).2
      exact ⟨h4, h5, this.1.1, this.1.2⟩
    refine ⟨ss.map dS, ⟨by simpa using h1, ?_, ?_, ?_⟩, ?_⟩
    · intro m hm
      obtain ⟨s, hs, rfl⟩ := List.mem_map.1 hm
      exact (h3 s hs).2.1
    · intro m hm
      obtain ⟨s, hs, rfl⟩ := List.mem_map.1 hm
      rw [dS_len]; exact (h3 s hs).2.2.1
    · intro m hm
      obtain ⟨s, hs, rfl⟩ := List.mem_map.1 hm
      rw [dS_len]; exact (h3 s hs).2.2.2
    · rw [List.map_map]
      conv => lhs; rw [← List.map_id ss]
      exact List.map_congr_left (fun s hs => (h3 s hs).1.symm)
  · rintro ⟨ms, h, rfl⟩
    refine ⟨by rw [List.length_map]; exact h.len, fun s hs => ?_⟩
    obtain ⟨m, hm, rfl⟩ := List.mem_map.1 hs
    have h1 := h.one m hm
    have h2 := h.most m hm
    unfold okI
    rw [okB_wS (h.ok m hm) (by omega), wS_len]
    simp; omega
theorem okMp_len {ss : List ByteArray} (h : ss.length ≠ 3) : okMp ss = false := by unfold okMp; rw [decide_eq_false h]; rfl
theorem okMp_no {ss : List ByteArray} {i : Nat} (hi : i < ss.length) (h : okI (gets ss i) = false) : okMp ss = false := by
  unfold okMp
  rw [Bool.and_eq_false_iff]
  right
  rw [Bool.eq_false_iff]
  intro ha
  rw [List.all_eq_true] at ha
  have e : gets ss i = ss[i] := by unfold gets; rw [List.getD_eq_getElem?_getD, List.getElem?_eq_getElem hi]; rfl
  rw [e, ha _ (List.getElem_mem hi)] at h
  cases h
theorem okMp_yes {ss : List ByteArray} (hl : ss.length = 3) (h : ∀ i, i < 3 → okI (gets ss i) = true) : okMp ss = true := by
  unfold okMp
  rw [decide_eq_true hl, Bool.true_and, List.all_eq_true]
  intro s hs
  obtain ⟨i, hi, rfl⟩ := List.mem_iff_getElem.1 hs
  have := h i (by omega)
  unfold gets at this
  rw [List.getD_eq_getElem?_getD, List.getElem?_eq_getElem hi] at this
  exact this
/-- The first j of three strings. -/
def imL (ss : List ByteArray) (j : Nat) : List Value := (ss.take j).map Value.string ++ List.replicate (3 - j) (.string ⟨#[]⟩)
theorem imL_zero (ss : List ByteArray) : imL ss 0 = [.string ⟨#[]⟩, .string ⟨#[]⟩, .string ⟨#[]⟩] := rfl
theorem lit3 {ss : List ByteArray} (h : ss.length = 3) : ∃ a b c, ss = [a, b, c] := by
  match ss, h with
  | [a, b, c], _ => exact ⟨a, b, c, rfl⟩
theorem imL_set {ss : List ByteArray} (h : ss.length = 3) {j : Nat} (hj : j < 3) : (imL ss j).set j (.string (gets ss j)) = imL ss (j + 1) := by
  obtain ⟨a, b, c, rfl⟩ := lit3 h
  obtain rfl | rfl | rfl : j = 0 ∨ j = 1 ∨ j = 2 := by omega
  · rfl
  · rfl
  · rfl
theorem imL_cells {W : World} {g : Nat} {ss : List ByteArray} (h : ss.length = 3) {j : Nat} (hj : j ≤ 3) (hr : Row W g 87 (imL ss j)) : ∃ a b c, imL ss j = [.string a, .string b, .string c] ∧ (W.cell? ⟨g, 0, none⟩ = some (.string a) ∧ W.cell? ⟨g, 1, none⟩ = some (.string b) ∧ W.cell? ⟨g, 2, none⟩ = some (.string c)) := by
  obtain ⟨x, y, z, rfl⟩ := lit3 h
  have : ∃ a b c, imL [x, y, z] j = [.string a, .string b, .string c] := by
    obtain rfl | rfl | rfl | rfl : j = 0 ∨ j = 1 ∨ j = 2 ∨ j = 3 := by omega
    · exact ⟨_, _, _, rfl⟩
    · exact ⟨_, _, _, rfl⟩
    · exact ⟨_, _, _, rfl⟩
    · exact ⟨_, _, _, rfl⟩
  obtain ⟨a, b, c, e⟩ := this
  rw [e] at hr
  exact ⟨a, b, c, e, hr.cell 0, hr.cell 1, hr.cell 2⟩
abbrev Z3 : List Value := [.string ⟨#[]⟩, .string ⟨#[]⟩, .string ⟨#[]⟩]
theorem info87 : (Try.prog.info? 87).map (·.size) = some 3 := by kernel_rfl
theorem cell3_res {W : World} {k : Nat} {a b c : Value} (hr : Row W k 87 [a, b, c]) : (loadVar 87 ⟨k, 0, none⟩).run Try.prog W = .ok (.agg #[a, b, c]) W :=
  run_loadVar_row (P := Try.prog) W k 87 87 #[a, b, c] (0, 0) _ hr Try.underlying87 rfl info87
/-- What readMap hands back. -/
def rmV (ss : List ByteArray) : Value := if okMp ss then .tuple #[.agg (ss.map Value.string).toArray, .bool true] else .tuple #[.agg #[.string ⟨#[]⟩, .string ⟨#[]⟩, .string ⟨#[]⟩], .bool false]
theorem readMap_any (A : Option Addr) (c : Nat) (ss : List ByteArray) (w : World) (hs : ∀ i, (gets ss i).size ≤ 100000) (hl : ss.length ≤ 100000) (ha : StrsAt w A ss) :
    Calls Try.prog 67 #[.slice A ss.length c] w fun e w' => e = .returned (rmV ss) ∧ Below w.heap.size w w' := by
  by_cases h3 : ss.length = 3
  · have HR : Hid (okMp ss = false → rmV ss = .tuple #[.agg #[.string ⟨#[]⟩, .string ⟨#[]⟩, .string ⟨#[]⟩], .bool false]) := Lib.hid (fun h => by unfold rmV; rw [h]; rfl)
    have HY : Hid ((∀ i, i < 3 → okI (gets ss i) = true) → rmV ss = .tuple #[.agg (imL ss 3).toArray, .bool true]) := Lib.hid (fun h => by
      unfold rmV
      rw [okMp_yes h3 h, if_pos rfl]
      obtain ⟨x, y, z, rfl⟩ := lit3 h3
      rfl)
    have HN := Lib.hid (fun i (hi : i < 3) => @okMp_no ss i (by omega))
    have HW := Lib.hid (fun i V => isWord_any (gets ss i) V (by have := hs i; omega))
    have HSZ := Lib.hid hs
    have HST := Lib.hid (fun j (hj : j < 3) => imL_set h3 hj)
    have HCL := Lib.hid (fun W g j (hj : j ≤ 3) => @imL_cells W g ss h3 j hj)
    have H0 : Hid (∀ i, i < 0 → okI (gets ss i) = true) := Lib.hid (fun i h => absurd h (by omega))
    obtain ⟨bA, oA, rfl, hbA, hcA⟩ := ha (by omega)
    rw [h3] at hcA
    have HCA : Hid (∀ (V : World) i, Below w.heap.size w V → i < 3 → V.cell? ⟨bA, oA + i, none⟩ = some (.string (gets ss i))) := Lib.hid (fun V i hV hi => (hV.cell (p := ⟨bA, _, none⟩) hbA).trans (hcA i hi))
    have r0 : Row ((w.alloc (.cells Z3.toArray 87)).alloc (.cells Z3.toArray 87)) w.heap.size 87 Z3 := (row_new rfl).alloc _
    have r1 : Row ((w.alloc (.cells Z3.toArray 87)).alloc (.cells Z3.toArray 87)) (w.heap.size + 1) 87 (imL ss 0) := by rw [imL_zero]; exact row_new (by simp)
    have b0 : Below w.heap.size w ((w.alloc (.cells Z3.toArray 87)).alloc (.cells Z3.toArray 87)) := ((Below.refl _ w).alloc (Nat.le_refl _) _).alloc (by simp) _
    rw [h3]
    have H3 := Lib.hid h3
    clear h3 hl hs ha hcA
    go_enter Try.func67, Try.ntmps67
    go_wp2
    go_loopw [13] (fun i wr => ∃ j : Nat, i = .int .i64 j ∧ j ≤ 3 ∧ Row wr w.heap.size 87 Z3 ∧ Row wr (w.heap.size + 1) 87 (imL ss j) ∧ Below w.heap.size w wr ∧ Hid (∀ i, i < j → okI (gets ss i) = true)) (fun i _ => 3 - (intOf i).toNat)
    case atStart => exact ⟨0, rfl, by omega, r0, r1, b0, H0⟩
    case round =>
      clear r0 r1 b0 H0
      obtain ⟨j, rfl, hj, r0, r1, b0, HQ⟩ := hrel
      by_cases hlt : j < 3
      · have g1 : decide ((j : Int) < 3) = true := decide_eq_true (by omega)
        have d0 := HCA.out wr j b0 hlt
        have c0 : wr.cell? ⟨w.heap.size, 0, none⟩ = some (.string ⟨#[]⟩) := r0.cell 0
        have c1 : wr.cell? ⟨w.heap.size, 1, none⟩ = some (.string ⟨#[]⟩) := r0.cell 1
        have c2 : wr.cell? ⟨w.heap.size, 2, none⟩ = some (.string ⟨#[]⟩) := r0.cell 2
        have f0 := r0.free 0
        have f1 := r0.free 1
        have f2 := r0.free 2
        have HN1 := Lib.hid (HN.out j hlt)
        have hsz := HSZ.out j
        have HW1 := Lib.hid (HW.out j)
        have HST1 := Lib.hid (HST.out j hlt)
        have HOI : Hid (okI (gets ss j) = (decide (1 ≤ (gets ss j).size) && decide ((gets ss j).size ≤ 12) && okB (gets ss j))) := Lib.hid rfl
        have HQ2 : Hid (okI (gets ss j) = true → ∀ i, i < j + 1 → okI (gets ss i) = true) := Lib.hid (fun h i hi => by
          rcases Nat.lt_or_ge i j with h1 | h1
          · exact HQ.out i h1
          · rw [show i = j by omega]; exact h)
        have HEM : Hid ((gets ss j).toList.isEmpty = decide ((gets ss j).size = 0)) := Lib.hid (by
          rw [ba_list, Bool.eq_iff_iff, List.isEmpty_iff, decide_eq_true_eq, ← ds_len]
          exact List.length_eq_zero_iff.symm)
        clear HN HSZ HW HST HCL HCA HQ HY
        generalize gets ss j = s at *
        by_cases h1 : s.size = 0
        · have hne : s.toList.isEmpty = true := by rw [HEM.out, decide_eq_true h1]
          have HNO := Lib.hid (HR.out (HN1.out (by rw [HOI.out, decide_eq_false (show ¬ 1 ≤ s.size by omega)]; rfl)))
          clear HN1 HOI HQ2 HEM h1 HR
          go_wp2
          exact bodyPost_ret (v := .tuple #[.agg #[.string ⟨#[]⟩, .string ⟨#[]⟩, .string ⟨#[]⟩], .bool false]) (res2 Try.results67 rfl rfl (cell3_res (((r0.set 0 (.string ⟨#[]⟩)).set 1 (.string ⟨#[]⟩)).set 2 (.string ⟨#[]⟩)))) rfl ⟨by rw [HNO.out], ((b0.setCell (Nat.le_refl _) _).setCell (Nat.le_refl _) _).setCell (Nat.le_refl _) _⟩
        · have hne : s.toList.isEmpty = false := by rw [HEM.out, decide_eq_false h1]
          by_cases h2 : 12 < s.size
          · have g2 : decide ((12 : Int) < (s.size : Int)) = true := decide_eq_true (by omega)
            have HNO := Lib.hid (HR.out (HN1.out (by rw [HOI.out, decide_eq_false (show ¬ s.size ≤ 12 by omega), Bool.and_false]; rfl)))
            clear HN1 HOI HQ2 HEM h1 HR
            go_wp2
            exact bodyPost_ret (v := .tuple #[.agg #[.string ⟨#[]⟩, .string ⟨#[]⟩, .string ⟨#[]⟩], .bool false]) (res2 Try.results67 rfl rfl (cell3_res (((r0.set 0 (.string ⟨#[]⟩)).set 1 (.string ⟨#[]⟩)).set 2 (.string ⟨#[]⟩)))) rfl ⟨by rw [HNO.out], ((b0.setCell (Nat.le_refl _) _).setCell (Nat.le_refl _) _).setCell (Nat.le_refl _) _⟩
          · have g2 : decide ((12 : Int) < (s.size : Int)) = false := decide_eq_false (by omega)
            cases hb : okB s
            · rw [hb] at HW1
              have HNO := Lib.hid (HR.out (HN1.out (by rw [HOI.out, hb, Bool.and_false])))
              clear HN1 HOI HQ2 HEM h1 HR hb
              go_wp2_with (go_at_call 58; (with_reducible refine (HW1.out _).mono ?_); rintro e w2 ⟨rfl, b2⟩; replace r0 := r0.below b2; replace b0 := b0.trans (b2.mono b0.size); have c0' := r0.cell 0; have c1' := r0.cell 1; have c2' := r0.cell 2; have f0' := r0.free 0; have f1' := r0.free 1; have f2' := r0.free 2)
              exact bodyPost_ret (v := .tuple #[.agg #[.string ⟨#[]⟩, .string ⟨#[]⟩, .string ⟨#[]⟩], .bool false]) (res2 Try.results67 rfl rfl (cell3_res (((r0.set 0 (.string ⟨#[]⟩)).set 1 (.string ⟨#[]⟩)).set 2 (.string ⟨#[]⟩)))) rfl ⟨by rw [HNO.out], ((b0.setCell (Nat.le_refl _) _).setCell (Nat.le_refl _) _).setCell (Nat.le_refl _) _⟩
            · rw [hb] at HW1
              have HOK := Lib.hid (HQ2.out (by rw [HOI.out, hb, decide_eq_true (show 1 ≤ s.size by omega), decide_eq_true (show s.size ≤ 12 by omega)]; rfl))
              clear HN1 HOI HQ2 HEM h1 HR hb
              have hjj : j < (imL ss j).length := by
                obtain ⟨x, y, z, e⟩ := lit3 H3.out
                rw [e]
                obtain rfl | rfl | rfl : j = 0 ∨ j = 1 ∨ j = 2 := by omega
                · exact (by simp [imL] : 0 < (imL [x, y, z] 0).length)
                · exact (by simp [imL] : 1 < (imL [x, y, z] 1).length)
                · exact (by simp [imL] : 2 < (imL [x, y, z] 2).length)
              obtain ⟨vj, hvj⟩ : ∃ v, (imL ss j)[j]? = some v := ⟨_, List.getElem?_eq_getElem hjj⟩
              have HVJ := Lib.hid hvj
              clear hjj hvj
              go_wp2_with (go_at_call 58; (with_reducible refine (HW1.out _).mono ?_); rintro e w2 ⟨rfl, b2⟩; replace r0 := r0.below b2; replace r1 := r1.below b2; replace b0 := b0.trans (b2.mono b0.size); have cj := (r1.cell j).trans HVJ.out; have fj := r1.free j)
              go_roundw
              case rel => exact ⟨j + 1, by go_num, by omega, r0.far (by dsimp only; omega) _, by rw [← HST1.out]; exact r1.set j _, b0.setCell (by dsimp only; omega) _, HOK⟩
              case measure => simp [intOf]; omega
      · obtain rfl : j = 3 := by omega
        have g1 : decide (((3 : Nat) : Int) < 3) = false := decide_eq_false (by omega)
        have HYY := Lib.hid (HY.out HQ.out)
        obtain ⟨x, y, z, he, d0, d1, d2⟩ := HCL.out wr (w.heap.size + 1) 3 (Nat.le_refl _) r1
        rw [he] at HYY
        have c0 : wr.cell? ⟨w.heap.size, 0, none⟩ = some (.string ⟨#[]⟩) := r0.cell 0
        have c1 : wr.cell? ⟨w.heap.size, 1, none⟩ = some (.string ⟨#[]⟩) := r0.cell 1
        have c2 : wr.cell? ⟨w.heap.size, 2, none⟩ = some (.string ⟨#[]⟩) := r0.cell 2
        have f0 := r0.free 0
        have f1 := r0.free 1
        have f2 := r0.free 2
        clear HN HSZ HW HST HCL HCA HQ HY he HR
        go_wp2
        exact bodyPost_ret (v := .tuple #[.agg #[.string x, .string y, .string z], .bool true]) (res2 Try.results67 rfl rfl (cell3_res (((r0.set 0 (.string x)).set 1 (.string y)).set 2 (.string z)))) rfl ⟨by rw [HYY.out], ((b0.setCell (Nat.le_refl _) _).setCell (Nat.le_refl _) _).setCell (Nat.le_refl _) _⟩
  · have HNO : Hid (rmV ss = .tuple #[.agg #[.string ⟨#[]⟩, .string ⟨#[]⟩, .string ⟨#[]⟩], .bool false]) := Lib.hid (by unfold rmV; rw [okMp_len h3]; rfl)
    have g1 : ((ss.length : Int) != 3) = true := by simp; omega
    have r0 : Row (w.alloc (.cells Z3.toArray 87)) w.heap.size 87 Z3 := row_new rfl
    have b0 : Below w.heap.size w (w.alloc (.cells Z3.toArray 87)) := (Below.refl _ w).alloc (Nat.le_refl _) _
    generalize ss.length = n at *
    clear h3 ha hs
    go_enter Try.func67, Try.ntmps67
    go_wp2
    exact bodyPost_ret (v := .tuple #[.agg #[.string ⟨#[]⟩, .string ⟨#[]⟩, .string ⟨#[]⟩], .bool false]) (res2 Try.results67 rfl rfl (cell3_res r0)) rfl ⟨by rw [HNO.out], b0⟩
end Go.Proofs.Ytoklnpiehbnalaa
