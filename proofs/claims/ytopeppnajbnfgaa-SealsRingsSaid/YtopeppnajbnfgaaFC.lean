/- The seals of a chain are counted. -/
import Derived.Test.YtopeppnajbnfgaaFB
import Derived.Deep.WholeRow
namespace Go.Proofs.Ytopeppnajbnfgaa
open Go.RowKit
set_option maxHeartbeats 1000000
set_option maxRecDepth 100000
/-- The byte at a position. -/
def sb (s : ByteArray) (i : Nat) : Nat := (s.data.getD i 0).toNat
def okC (s : ByteArray) (i : Nat) : Prop := 97 ≤ sb s i ∧ sb s i < 101
instance (s : ByteArray) (i : Nat) : Decidable (okC s i) := by unfold okC; infer_instance
/-- Is it a chain? -/
def chV (s : ByteArray) : Bool := decide (s.size ≤ 24 ∧ ∀ i, i < s.size → okC s i)
/-- How many of the first p seals are of a letter. -/
def cnt (s : ByteArray) : Nat → Nat → Int
  | 0, _ => 0
  | p + 1, c => cnt s p c + if sb s p = 97 + c then 1 else 0
def sumL (s : ByteArray) (p : Nat) : List Int := [cnt s p 0, cnt s p 1, cnt s p 2, cnt s p 3]
theorem cnt_rng (s : ByteArray) (c : Nat) : ∀ p, 0 ≤ cnt s p c ∧ cnt s p c ≤ p
  | 0 => by simp [cnt]
  | p + 1 => by
    have := cnt_rng s c p
    unfold cnt
    split <;> omega
theorem sumL_at (s : ByteArray) (p : Nat) {c : Nat} (h : c < 4) : geti (sumL s p) c = cnt s p c := by
  rcases c with _ | _ | _ | _ | c
  · rfl
  · rfl
  · rfl
  · rfl
  · omega
theorem sumL_sm (s : ByteArray) {p : Nat} (hp : p ≤ 1000) : Sm (sumL s p) := ⟨rfl, fun i hi => by
  rw [sumL_at s p hi]
  have := cnt_rng s i p
  omega⟩
theorem sumL_step (s : ByteArray) (p : Nat) {d : Nat} (h : sb s p = 97 + d) (hd : d < 4) : (sumL s p).set d (geti (sumL s p) d + 1) = sumL s (p + 1) := by
  rw [sumL_at s p hd]
  apply ext_geti (by simp [sumL])
  intro i hi
  have hi4 : i < 4 := by simpa [sumL] using hi
  rw [sumL_at s _ hi4, geti_eq hi, List.getElem_set]
  have : cnt s (p + 1) i = cnt s p i + if sb s p = 97 + i then 1 else 0 := rfl
  rw [this, h]
  by_cases e : d = i
  · subst e; simp
  · have e2 : ¬ (97 + d = 97 + i) := by omega
    rw [if_neg e, if_neg e2]
    have hl : i < (sumL s p).length := by simpa using hi
    rw [← geti_eq hl, sumL_at s p hi4]; omega
/-- The tally, of which so many rows are laid. -/
def talL (s : ByteArray) (K : Nat) : List Int := (s.size : Int) :: (List.range 100).map fun j => if j / 4 ≤ K then cnt s (j / 4) (j % 4) else 0
def tal (s : ByteArray) : List Int := talL s s.size
def Z101 : List Int := List.replicate 101 0
theorem talL_len (s : ByteArray) (K : Nat) : (talL s K).length = 101 := by simp [talL]
theorem Z101_len : Z101.length = 101 := by simp [Z101]
theorem talL_at (s : ByteArray) (K : Nat) {p c : Nat} (hp : p < 25) (hc : c < 4) : geti (talL s K) (1 + (4 * p + c)) = if p ≤ K then cnt s p c else 0 := by
  have h : 1 + (4 * p + c) < (talL s K).length := by rw [talL_len]; omega
  rw [geti_eq h]
  have e1 : (4 * p + c) / 4 = p := by omega
  have e2 : (4 * p + c) % 4 = c := by omega
  simp only [talL, Nat.add_comm 1, List.getElem_cons_succ, List.getElem_map, List.getElem_range, e1, e2]
theorem talL_head (s : ByteArray) (K : Nat) : geti (talL s K) 0 = s.size := rfl
theorem talL_zero (s : ByteArray) : (s.size : Int) :: List.replicate 100 0 = talL s 0 := by
  rfl
/-- Cells from an offset on are stored. -/
theorem Row.mid {g : Nat} {t : TypeId} : ∀ (vs : List Value) (o : Nat) {w : World} {cs cs' : List Value}, Row w g t cs → cs'.length = cs.length →
    (∀ j, j < cs.length → cs'[j]? = if o ≤ j ∧ j < o + vs.length then vs[j - o]? else cs[j]?) → Row (w.setCells g o vs) g t cs'
  | [], o, w, cs, cs', h, hl, hj => by
    have : cs' = cs := by
      apply List.ext_getElem? 
      intro i
      by_cases hi : i < cs.length
      · rw [hj i hi, if_neg (by simp)]
      · rw [List.getElem?_eq_none (by omega), List.getElem?_eq_none (by omega)]
    rw [this]; exact h
  | v :: vs, o, w, cs, cs', h, hl, hj => by
    refine Row.mid vs (o + 1) (h.set o v) (by simp [hl]) (fun j hj2 => ?_)
    have hj3 : j < cs.length := by simpa using hj2
    rw [hj j hj3, List.getElem?_set]
    simp only [List.length_cons]
    by_cases e : o = j
    · subst e
      rw [if_pos (by omega), if_neg (by omega), if_pos rfl]
      simp [hj3]
    · rw [if_neg e]
      by_cases e2 : o + 1 ≤ j ∧ j < o + 1 + vs.length
      · rw [if_pos (by omega), if_pos e2]
        have : j - o = (j - (o + 1)) + 1 := by omega
        rw [this, List.getElem?_cons_succ]
      · rw [if_neg (by omega), if_neg e2]
theorem z54 : ∀ w, (zeroValue 54).run Try.prog w = .ok (.agg (iv Z101).toArray) w := (zero_of_info (n := 101) (by kernel_rfl)).1
theorem info54 : (Try.prog.info? 54).map (·.size) = some 101 := by kernel_rfl
theorem z51 : ∀ w, (zeroValue 51).run Try.prog w = .ok (.agg Z4.toArray) w := (zero_of_info (n := 4) (by kernel_rfl)).1
theorem built54 (n : Int) : Try.prog.built 54 [(0, .int .i64 n)] = some (iv (n :: List.replicate 100 0)).toArray := by kernel_rfl
theorem built54z : Try.prog.built 54 [] = some (iv Z101).toArray := by kernel_rfl
theorem info54_iv {x : List Int} (h : x.length = 101) : (Try.prog.info? 54).map (·.size) = some (iv x).toArray.size := by rw [List.size_toArray, iv_len, h]; exact info54
theorem size54_iv {x y : List Int} (h : x.length = 101) (h' : y.length = 101) : (iv x).toArray.size = (iv y).toArray.size := by rw [List.size_toArray, List.size_toArray, iv_len, iv_len, h, h']
def rcV (s : ByteArray) : Value := .tuple #[.agg (iv (if chV s then tal s else Z101)).toArray, .bool (chV s)]
theorem rcV_no {s : ByteArray} (h : chV s = false) : rcV s = .tuple #[.agg (iv Z101).toArray, .bool false] := by unfold rcV; rw [h]; rfl
theorem rcV_yes {s : ByteArray} (h : chV s = true) : rcV s = .tuple #[.agg (iv (tal s)).toArray, .bool true] := by unfold rcV; rw [h]; rfl
theorem sb_eq {s : ByteArray} {i : Nat} (h : i < s.size) : sb s i = s[i].toNat := by
  unfold sb
  have h' : i < s.data.size := h
  simp [Array.getD, h]
  rfl
theorem Row.there {w : World} {g : Nat} {t : TypeId} {cs : List Value} (h : Row w g t cs) {o n : Nat} (hn : o + n ≤ cs.length) : w.there g o n := fun j hj => ⟨by rw [h.cell, List.getElem?_eq_getElem (by omega)]; rfl, h.free _⟩
theorem tal_step {s : ByteArray} {k : Nat} (hk : k < 24) {w : World} {g : Nat} (h : Row w g 54 (iv (talL s k))) : Row (w.setCells g (1 + (k + 1) * 4) (iv (sumL s (k + 1)))) g 54 (iv (talL s (k + 1))) := by
  refine h.mid _ _ (by simp [iv_len, talL_len]) (fun j hj => ?_)
  rw [iv_len, talL_len] at hj
  have hs : (iv (sumL s (k + 1))).length = 4 := by rw [iv_len]; rfl
  rw [hs]
  have g : ∀ (xs : List Int) (i : Nat), i < xs.length → (iv xs)[i]? = some (.int .i64 (geti xs i)) := fun xs i hi => by rw [iv, List.getElem?_map, List.getElem?_eq_getElem hi, geti_eq hi]; rfl
  rw [g _ j (by rw [talL_len]; exact hj)]
  by_cases h0 : j = 0
  · subst h0
    rw [if_neg (by omega), g _ 0 (by rw [talL_len]; omega), talL_head, talL_head]
  · have e : j = 1 + (4 * ((j - 1) / 4) + (j - 1) % 4) := by omega
    have e1 : geti (talL s (k + 1)) j = if (j - 1) / 4 ≤ k + 1 then cnt s ((j - 1) / 4) ((j - 1) % 4) else 0 := by
      have := talL_at s (k + 1) (p := (j - 1) / 4) (c := (j - 1) % 4) (by omega) (by omega)
      rwa [← e] at this
    have e2 : geti (talL s k) j = if (j - 1) / 4 ≤ k then cnt s ((j - 1) / 4) ((j - 1) % 4) else 0 := by
      have := talL_at s k (p := (j - 1) / 4) (c := (j - 1) % 4) (by omega) (by omega)
      rwa [← e] at this
    rw [e1]
    by_cases h1 : 1 + (k + 1) * 4 ≤ j ∧ j < 1 + (k + 1) * 4 + 4
    · rw [if_pos h1, if_pos (by omega), g _ _ (by show _ < 4; omega), sumL_at s _ (by omega)]
      have e3 : (j - 1) / 4 = k + 1 := by omega
      have e4 : (j - 1) % 4 = j - (1 + (k + 1) * 4) := by omega
      rw [e3, e4]
    · rw [if_neg h1, g _ j (by rw [talL_len]; exact hj), e2]
      by_cases h2 : (j - 1) / 4 ≤ k
      · rw [if_pos h2, if_pos (by omega)]
      · rw [if_neg h2, if_neg (by omega)]
theorem Row.cells_far {w : World} {g : Nat} {t : TypeId} {cs : List Value} (h : Row w g t cs) {b : Nat} (hb : g ≠ b) : ∀ (vs : List Value) (o : Nat), Row (w.setCells b o vs) g t cs := by
  intro vs
  induction vs generalizing w with
  | nil => exact fun _ => h
  | cons v vs ih => exact fun o => ih (h.far (p := ⟨b, o, none⟩) hb v) (o + 1)
theorem below_cells {B b : Nat} {a w : World} (h : Below B a w) (hb : B ≤ b) : ∀ (vs : List Value) (o : Nat), Below B a (w.setCells b o vs) := by
  intro vs
  induction vs generalizing w with
  | nil => exact fun _ => h
  | cons v vs ih => exact fun o => ih (h.setCell (p := ⟨b, o, none⟩) hb v) (o + 1)
theorem chV_no {s : ByteArray} {i : Nat} (hi : i < s.size) (h : ¬ okC s i) : chV s = false := by unfold chV; exact decide_eq_false (fun hh => h (hh.2 i hi))
theorem cell101_res {W : World} {k : Nat} {x : List Int} (h : x.length = 101) (hr : Row W k 54 (iv x)) : (loadVar 54 ⟨k, 0, none⟩).run Try.prog W = .ok (.agg (iv x).toArray) W :=
  run_loadVar_row (P := Try.prog) W k 54 54 (iv x).toArray (0, 0) _ hr Try.underlying54 rfl (info54_iv h)
theorem res2 {P : Program} {F : Func} {tm : Array Value} {i j k : Nat} {t : TypeId} {v u : Value} {W : World} (hF : F.results = #[ResultVar.cell i t, ResultVar.tmp j]) (h0 : tm.getD i undef = .pointer (some ⟨k, 0, none⟩)) (h1 : tm.getD j undef = u)
    (hl : (loadVar t ⟨k, 0, none⟩).run P W = .ok v W) : (results F tm).run P W = .ok (.tuple #[v, u]) W := by
  have h0' : tm[i]?.getD undef = .pointer (some ⟨k, 0, none⟩) := by simpa using h0
  have h1' : tm[j]?.getD undef = u := by simpa using h1
  simp [results, hF, h0', h1', asAddr, hl]
theorem readChain_any (s : ByteArray) (w : World) : Calls Try.prog 47 #[.string s] w fun e w' => e = .returned (rcV s) ∧ Below w.heap.size w w' := by
  have z4 := z54
  have z1 := z51
  by_cases hs : s.size ≤ 24
  · have g1 : decide ((24 : Int) < s.size) = false := decide_eq_false (by omega)
    have r1 : Row ((w.alloc (.cells (iv Z101).toArray 54)).alloc (.cells (iv Z101).toArray 54)) (w.heap.size + 1) 54 (iv Z101) := row_new (by simp)
    have r0 : Row ((w.alloc (.cells (iv Z101).toArray 54)).alloc (.cells (iv Z101).toArray 54)) w.heap.size 54 (iv Z101) := (row_new rfl).alloc _
    have b0 : Below w.heap.size w ((w.alloc (.cells (iv Z101).toArray 54)).alloc (.cells (iv Z101).toArray 54)) := ((Below.refl _ w).alloc (Nat.le_refl _) _).alloc (by simp) _
    have hi0 : (Try.prog.info? 54).map (·.size) = some ((iv Z101).set 0 (.int .i64 (s.size : Int))).toArray.size := by rw [List.size_toArray, List.length_set, iv_len]; exact info54
    have hi1 : (iv Z101).toArray.size = ((iv Z101).set 0 (.int .i64 (s.size : Int))).toArray.size := by simp
    have hi2 : ((iv Z101).set 0 (.int .i64 (s.size : Int))).toArray.all (·.oneCell') = true := by rw [iv_set]; exact iv_all _
    go_enter Try.func47, Try.ntmps47
    go_wp2_with (first | (refine wpList_store_row rfl 54 (.tmp 4) (.tmp 13) rfl (w.heap.size + 1) ((iv Z101).set 0 (.int .i64 (s.size : Int))).toArray rfl rfl 54 (iv Z101).toArray (row_heap r1) hi0 hi1 hi2 ?_))
    have e0 : ((iv Z101).set 0 (.int .i64 (s.size : Int))) = iv (talL s 0) := by rw [iv_set]; rfl
    have q1 : Row (((((w.alloc (.cells (iv Z101).toArray 54)).alloc (.cells (iv Z101).toArray 54)).setRow (w.heap.size + 1) ((iv Z101).set 0 (.int .i64 (s.size : Int))).toArray)).alloc (.cells Z4.toArray 51)) (w.heap.size + 1) 54 (iv (talL s 0)) := by rw [e0]; exact (r1.row _).alloc _
    have q0 : Row (((((w.alloc (.cells (iv Z101).toArray 54)).alloc (.cells (iv Z101).toArray 54)).setRow (w.heap.size + 1) ((iv Z101).set 0 (.int .i64 (s.size : Int))).toArray)).alloc (.cells Z4.toArray 51)) w.heap.size 54 (iv Z101) := (r0.row_far (by omega) _).alloc _
    have q2 : Row (((((w.alloc (.cells (iv Z101).toArray 54)).alloc (.cells (iv Z101).toArray 54)).setRow (w.heap.size + 1) ((iv Z101).set 0 (.int .i64 (s.size : Int))).toArray)).alloc (.cells Z4.toArray 51)) (w.heap.size + 1 + 1) 51 (iv (sumL s 0)) := row_new (by simp)
    have bq : Below w.heap.size w (((((w.alloc (.cells (iv Z101).toArray 54)).alloc (.cells (iv Z101).toArray 54)).setRow (w.heap.size + 1) ((iv Z101).set 0 (.int .i64 (s.size : Int))).toArray)).alloc (.cells Z4.toArray 51)) := (below_row b0 (by omega) _).alloc (by simp; omega) _
    clear r0 r1 b0 hi0 hi1 hi2 e0
    go_loopw [16] (fun i wr => ∃ k : Nat, k ≤ s.size ∧ i = .int .i64 k ∧ Row wr w.heap.size 54 (iv Z101) ∧ Row wr (w.heap.size + 1) 54 (iv (talL s k)) ∧ Row wr (w.heap.size + 1 + 1) 51 (iv (sumL s k)) ∧ Below w.heap.size w wr ∧ ∀ j, j < k → okC s j) (fun i _ => s.size - (intOf i).toNat)
    case atStart => exact ⟨0, by omega, rfl, q0, q1, q2, bq, fun j hj => absurd hj (by omega)⟩
    case round =>
      clear q0 q1 q2 bq
      obtain ⟨k, hk, rfl, q0, q1, q2, bq, hok⟩ := hrel
      have HOK := Lib.hid hok
      clear hok
      by_cases hlt : k < s.size
      · have hsb := sb_eq hlt
        by_cases hbad : okC s k
        · obtain ⟨ha, hb⟩ := hbad
          rw [hsb] at ha hb
          have g2 : decide ((s[k].toNat : Int) < 97) = false := decide_eq_false (by omega)
          have g3 : decide ((101 : Int) ≤ s[k].toNat) = false := decide_eq_false (by omega)
          have d2 : wr.cell? ⟨w.heap.size + 1 + 1, s[k].toNat - 97, none⟩ = some (.int .i64 (cnt s k (s[k].toNat - 97))) := by
            have := ivR q2 (i := s[k].toNat - 97) (by show _ < 4; omega)
            rwa [sumL_at s k (by omega)] at this
          have f2 : wr.frozen? ⟨w.heap.size + 1 + 1, s[k].toNat - 97, none⟩ = false := q2.free _
          have hcr := cnt_rng s (s[k].toNat - 97) k
          obtain ⟨hcr1, hcr2⟩ := hcr
          have hst := sumL_step s k (d := s[k].toNat - 97) (by omega) (by omega)
          rw [sumL_at s k (by omega)] at hst
          have q2' := q2.set (s[k].toNat - 97) (.int .i64 (cnt s k (s[k].toNat - 97) + 1))
          rw [iv_set, hst] at q2'
          clear hst q2
          have q0' := q0.far (p := ⟨w.heap.size + 1 + 1, s[k].toNat - 97, none⟩) (by dsimp only; omega) (.int .i64 (cnt s k (s[k].toNat - 97) + 1))
          have q1' := q1.far (p := ⟨w.heap.size + 1 + 1, s[k].toNat - 97, none⟩) (by dsimp only; omega) (.int .i64 (cnt s k (s[k].toNat - 97) + 1))
          have bq' := bq.setCell (p := ⟨w.heap.size + 1 + 1, s[k].toNat - 97, none⟩) (by dsimp only; omega) (.int .i64 (cnt s k (s[k].toNat - 97) + 1))
          clear q0 q1 bq
          generalize cnt s k (s[k].toNat - 97) = x at *
          have ht := q1'.there (o := 1 + (k + 1) * 4) (n := (iv (sumL s (k + 1))).toArray.size) (by rw [iv_len, talL_len]; show _ + 4 ≤ _; omega)
          have hi51 := info51_iv (x := sumL s (k + 1)) rfl
          go_wp2_with (first
            | ((with_reducible refine (?_ : wpList _ _ _ (Oper.mk (some 40) _ _ _ _ _ :: _) _ _)); refine wpList_load_row rfl 51 (.tmp 5) rfl (w.heap.size + 1 + 1) rfl 51 (iv (sumL s (k + 1))).toArray (0, 0) _ (row_heap q2') Try.underlying51 rfl hi51 ?_)
            | ((with_reducible refine (?_ : wpList _ _ _ (Oper.mk none _ _ _ _ _ :: _) _ _)); with_reducible refine (?_ : wpList _ _ _ (Oper.mk _ (Op.store 51 _ _) _ _ _ _ :: _) _ _); refine wpList_store_mid rfl 51 (.tmp 42) (.tmp 40) rfl (w.heap.size + 1) (1 + (k + 1) * 4) (iv (sumL s (k + 1))).toArray rfl rfl ht hi51 (iv_all _) ?_))
          go_roundw
          case rel =>
            refine ⟨k + 1, by omega, by go_num, q0'.cells_far (by omega) _ _, tal_step (by omega) q1', q2'.cells_far (by omega) _ _, below_cells bq' (by omega) _ _, fun j hj => ?_⟩
            by_cases e : j = k
            · subst e; exact ⟨by omega, by omega⟩
            · exact HOK.out j (by omega)
          case measure => simp [intOf]; omega
        · have HB := Lib.hid (chV_no hlt hbad)
          unfold okC at hbad
          rw [hsb] at hbad
          cases g2 : decide ((s[k].toNat : Int) < 97)
          · have g3 : decide ((101 : Int) ≤ s[k].toNat) = true := decide_eq_true (by have := of_decide_eq_false g2; omega)
            clear hbad
            go_wp2_with (first | (refine wpList_store_row rfl 54 (.tmp 2) (.tmp 29) rfl w.heap.size (iv Z101).toArray rfl rfl 54 (iv Z101).toArray (row_heap q0) (info54_iv Z101_len) rfl (iv_all _) ?_))
            exact bodyPost_ret (v := .tuple #[.agg (iv Z101).toArray, .bool false]) (res2 Try.results47 rfl rfl (cell101_res Z101_len (q0.row _))) rfl ⟨by rw [rcV_no HB.out], below_row bq (Nat.le_refl _) _⟩
          · clear hbad
            go_wp2_with (first | (refine wpList_store_row rfl 54 (.tmp 2) (.tmp 29) rfl w.heap.size (iv Z101).toArray rfl rfl 54 (iv Z101).toArray (row_heap q0) (info54_iv Z101_len) rfl (iv_all _) ?_))
            exact bodyPost_ret (v := .tuple #[.agg (iv Z101).toArray, .bool false]) (res2 Try.results47 rfl rfl (cell101_res Z101_len (q0.row _))) rfl ⟨by rw [rcV_no HB.out], below_row bq (Nat.le_refl _) _⟩
      · obtain rfl : k = s.size := by omega
        have hi := info54_iv (talL_len s s.size)
        have hv : chV s = true := by unfold chV; exact decide_eq_true ⟨hs, HOK.out⟩
        go_wp2_with (first
          | (refine wpList_load_row rfl 54 (.tmp 4) rfl (w.heap.size + 1) rfl 54 (iv (talL s s.size)).toArray (0, 0) _ (row_heap q1) Try.underlying54 rfl hi ?_)
          | (refine wpList_store_row rfl 54 (.tmp 2) (.tmp 44) rfl w.heap.size (iv (talL s s.size)).toArray rfl rfl 54 (iv Z101).toArray (row_heap q0) hi (size54_iv Z101_len (talL_len _ _)) (iv_all _) ?_))
        exact bodyPost_ret (v := .tuple #[.agg (iv (tal s)).toArray, .bool true]) (res2 Try.results47 rfl rfl (cell101_res (talL_len _ _) (q0.row _))) rfl ⟨by rw [rcV_yes hv], below_row bq (Nat.le_refl _) _⟩
  · have g1 : decide ((24 : Int) < s.size) = true := decide_eq_true (by omega)
    have hc : chV s = false := by unfold chV; exact decide_eq_false (fun h => hs h.1)
    have r0 : Row (w.alloc (.cells (iv Z101).toArray 54)) w.heap.size 54 (iv Z101) := row_new rfl
    go_enter Try.func47, Try.ntmps47
    go_wp2_with (first | (refine wpList_store_row rfl 54 (.tmp 2) (.tmp 10) rfl w.heap.size (iv Z101).toArray rfl rfl 54 (iv Z101).toArray (row_heap r0) (info54_iv Z101_len) rfl (iv_all _) ?_))
    rw [rcV_no hc]
    exact bodyPost_ret (v := .tuple #[.agg (iv Z101).toArray, .bool false]) (res2 Try.results47 rfl rfl (cell101_res Z101_len (r0.row _))) rfl ⟨rfl, below_row ((Below.refl _ w).alloc (Nat.le_refl _) _) (Nat.le_refl _) _⟩
end Go.Proofs.Ytopeppnajbnfgaa
