/- How many substrings have half of the seals. -/
import Derived.Test.YtopeppnajbnfgaaHA
namespace Go.Proofs.Ytopeppnajbnfgaa
open Go.RowKit
set_option maxHeartbeats 1000000
set_option maxRecDepth 100000
/-- The place with these counts, among the first ones. -/
def findP (s : ByteArray) (k : Nat) (x : List Int) : Option Nat := (List.range k).find? fun j => decide (sumL s j = x)
def halfS (s : ByteArray) : List Int := halfL (sumL s s.size)
def stepH (s : ByteArray) (L : List Int) (e : Nat) : List Int :=
  match findP s (e + 1) (subL (sumL s e) (halfS s)) with
  | some j => L.set (e - j) (geti L (e - j) + 1)
  | none => L
def hlvL (s : ByteArray) : Nat → List Int
  | 0 => List.replicate (s.size + 1) 0
  | k + 1 => stepH s (hlvL s k) k
theorem hlvL_len (s : ByteArray) : ∀ k, (hlvL s k).length = s.size + 1
  | 0 => by simp [hlvL]
  | k + 1 => by
    show (stepH s (hlvL s k) k).length = _
    unfold stepH
    split
    · rw [List.length_set]; exact hlvL_len s k
    · exact hlvL_len s k
theorem geti_put (L : List Int) (i j : Nat) (x : Int) : geti (L.set i x) j = if i = j ∧ j < L.length then x else geti L j := by
  unfold geti
  rw [List.getD_eq_getElem?_getD, List.getD_eq_getElem?_getD, List.getElem?_set]
  by_cases h : i = j
  · subst h
    by_cases h2 : i < L.length
    · simp [h2]
    · simp [h2]
  · simp [h]
theorem hlvL_rng (s : ByteArray) : ∀ k i, 0 ≤ geti (hlvL s k) i ∧ geti (hlvL s k) i ≤ k
  | 0, i => by
    have : geti (hlvL s 0) i = 0 := by
      unfold geti hlvL
      rw [List.getD_eq_getElem?_getD, List.getElem?_replicate]
      split <;> rfl
    omega
  | k + 1, i => by
    have ih := hlvL_rng s k i
    show 0 ≤ geti (stepH s (hlvL s k) k) i ∧ geti (stepH s (hlvL s k) k) i ≤ _
    unfold stepH
    split
    · rename_i j _
      have ih2 := hlvL_rng s k (k - j)
      rw [geti_put]
      split <;> (constructor <;> omega)
    · omega
theorem make_n (M : Nat) (hM : M ≤ 1000) (W : World) : (Instr.makeSlice 23 (.int .i64 ((M : Int) + 1)) (.int .i64 ((M : Int) + 1))).run Try.prog W = .ok (.slice (some ⟨W.heap.size, 0, none⟩) (M + 1) (M + 1)) (W.alloc (.cells (iv (List.replicate (M + 1) 0)).toArray 3)) := by
  obtain ⟨j0, ji, jz0, jz1, jz2⟩ := info_parts info3
  have h := run_make (P := Try.prog) W 23 3 j0 (.int .i64 0) Try.underlying23 ji jz0 .i64 .i64 ((M + 1 : Nat) : Int) ((M + 1 : Nat) : Int) (by omega) (by omega) (by rw [jz2]; omega) (by omega)
  rw [jz1, Int.toNat_natCast, made_zeros] at h
  exact h
theorem map_block {H : Type} {w w' : World} {k : TypeId} {R : Value → Option (DataW H × List MemPlace)} {b n : Nat} {D : DataW H} (h : w.ownsMap Try.prog k R b n D) (hb : w'.heap[b]? = w.heap[b]?) : w'.ownsMap Try.prog k R b n D := by
  obtain ⟨es, clock, h1, h2⟩ := h
  exact ⟨es, clock, hb.trans h1, h2⟩
theorem findP_some {s : ByteArray} {k j : Nat} {x : List Int} (h : findP s k x = some j) : j < k ∧ sumL s j = x := by
  unfold findP at h
  have h2 := List.find?_some (p := fun j => decide (sumL s j = x)) h
  exact ⟨List.mem_range.1 (List.mem_of_find?_eq_some h), of_decide_eq_true h2⟩
theorem findP_none {s : ByteArray} {k : Nat} {x : List Int} (h : findP s k x = none) : ∀ j, j < k → sumL s j ≠ x := fun j hj e => by
  unfold findP at h
  rw [List.find?_eq_none] at h
  exact h j (List.mem_range.2 hj) (decide_eq_true e)
theorem look51 {s : ByteArray} (hs : s.size ≤ 24) (ho : ∀ i, i < s.size → okC s i) {W : World} {b n k : Nat} (hm : W.ownsMap (H := Unit) Try.prog 51 (plainElem Try.prog 3) b n (DM s k)) (hk : k ≤ s.size + 1) {x : List Int} (hx : Sm x) :
    (Instr.lookup 74 (.map (some b)) (.agg (iv x).toArray) true).run Try.prog W = .ok (.tuple #[.int .i64 (((findP s k x).getD 0 : Nat) : Int), .bool (findP s k x).isSome]) W := by
  have hz : (zeroValue 3).run Try.prog W = .ok (.int .i64 0) W := by kernel_rfl
  obtain ⟨v, ps, hrun, hv⟩ := hm.look_ok K51 Try.underlying74 hz (plainElem_int Try.underlying3 (by decide)) (key_sm hx)
  obtain ⟨c, rfl, hc, -⟩ := plainElem_int_inv Try.underlying3 hv
  have hc1 := congrArg Prod.fst hc
  rw [hrun]
  cases hf : findP s k x with
  | none =>
    have h1 := DM_no (H := Unit) hx k (by omega) (findP_none hf)
    rw [Maps.atKey_of_not_has h1] at hc1
    simp at hc1
    rw [h1, ← hc1]; rfl
  | some j =>
    obtain ⟨hj, hj2⟩ := findP_some hf
    obtain ⟨h1, h2⟩ := DM_yes (H := Unit) hx hj2 k (by omega) hj (fun i hi hi2 => sumL_inj ho (by omega) (by omega) (hi2.trans hj2.symm))
    rw [h2] at hc1
    simp at hc1
    rw [h1, ← hc1]; rfl
theorem quiet_lookup {P : Program} {C : World → Prop} {K : Act → Prop} {o : Oper} {a : Act} (t : TypeId) (m x : Operand) (ho : o.op = .lookup t m x true) (vm vx r : Value) (hm : a.eval m = vm) (hx : a.eval x = vx)
    (hS : ∀ w, C w → (Instr.lookup t vm vx true).run P w = .ok r w) (hk : K (a.put o.dst r)) : o.quiet P a C K :=
  ⟨_, fun w hw => by
    unfold Oper.quietAt execOp
    simp only [ho, hm, hx, Sem.run_bind, hS w hw, Sem.run_pure, Result.andThen_ok]
    exact ⟨rfl, rfl⟩, hk⟩
theorem below_map {b : Nat} {a w w' : World} (h : Below a.heap.size a w) (hg : w.grownBy w' (some b)) (hb : a.heap.size ≤ b) : Below a.heap.size a w' :=
  h.trans ⟨hg.os, hg.tape, hg.output, hg.size, fun k hk => hg.block k (Nat.lt_of_lt_of_le hk h.size) (fun e => by injection e with e; omega)⟩
theorem halves_any (s : ByteArray) (w : World) (hc : chV s = true) :
    Calls Try.prog 50 #[.agg (iv (tal s)).toArray] w fun e w' => ∃ g, e = .returned (.slice (some ⟨g, 0, none⟩) (s.size + 1) (s.size + 1)) ∧ w.heap.size ≤ g ∧ Row w' g 3 (iv (hlvL s (s.size + 1))) ∧ Below w.heap.size w w' := by
  have hs := chV_size hc
  have hT : (tal s).length = 101 := talL_len _ _
  have r0 : Row (w.alloc (.cells (iv (tal s)).toArray 54)) w.heap.size 54 (iv (tal s)) := row_new rfl
  have b0 : Below w.heap.size w (w.alloc (.cells (iv (tal s)).toArray 54)) := (Below.refl _ w).alloc (Nat.le_refl _) _
  have c0 : (w.alloc (.cells (iv (tal s)).toArray 54)).cell? ⟨w.heap.size, 0, none⟩ = some (.int .i64 s.size) := ivR r0 (by rw [hT]; omega)
  have hmk := make_n s.size (by omega)
  have hmm : ∀ W : World, (Instr.makeMap 74 none).run Try.prog W = .ok (.map (some W.heap.size)) (W.alloc (.map #[] 0)) := fun W => rfl
  have c1 : (((w.alloc (.cells (iv (tal s)).toArray 54)).alloc (.cells (iv (List.replicate (s.size + 1) 0)).toArray 3)).alloc (.map #[] 0)).cell? ⟨w.heap.size, 0, none⟩ = some (.int .i64 s.size) := ivR ((r0.alloc _).alloc _) (by rw [hT]; omega)
  have hal : Try.prog.arrayLen 52 = 25 := by kernel_rfl
  have hsl : ∀ W : World, (Instr.sliceAt 52 (.pointer (some ⟨w.heap.size, 1, none⟩)) none (some (.int .i64 ((s.size : Int) + 1))) none).run Try.prog W = .ok (.slice (some ⟨w.heap.size, 1, none⟩) (s.size + 1) 25) W := fun W => by
    have h := run_sliceAt_array_h (P := Try.prog) W 52 ⟨w.heap.size, 1, none⟩ (by rw [hal]; exact Try.underlying52) .i64 ((s.size : Int) + 1) (by omega) (by rw [hal]; omega)
    rw [h, hal]
    have e4 : (sizeOf (Try.prog.elem 52)).run Try.prog W = .ok 4 W := by kernel_rfl
    rw [e4]
    have e5 : ((s.size : Int) + 1).toNat = s.size + 1 := by omega
    simp [Result.andThen, slicedAt, e5, Addr.add]
  go_enter Try.func50, Try.ntmps50
  go_wp2
  have ho := (of_decide_eq_true hc).2
  have m0 : (((w.alloc (.cells (iv (tal s)).toArray 54)).alloc (.cells (iv (List.replicate (s.size + 1) 0)).toArray 3)).alloc (.map #[] 0)).ownsMap (H := Unit) Try.prog 51 (plainElem Try.prog 3) (w.heap.size + 1 + 1) 0 (DM s 0) := by
    have := World.ownsMap_made (H := Unit) ((w.alloc (.cells (iv (tal s)).toArray 54)).alloc (.cells (iv (List.replicate (s.size + 1) 0)).toArray 3)) Try.prog 51 (plainElem Try.prog 3)
    simp only [World.size_alloc] at this
    exact this
  have q0 := (r0.alloc (.cells (iv (List.replicate (s.size + 1) 0)).toArray 3)).alloc (.map #[] 0)
  have q1 : Row (((w.alloc (.cells (iv (tal s)).toArray 54)).alloc (.cells (iv (List.replicate (s.size + 1) 0)).toArray 3)).alloc (.map #[] 0)) (w.heap.size + 1) 3 (iv (hlvL s 0)) := (row_new (by simp [])).alloc _
  have bq : Below w.heap.size w (((w.alloc (.cells (iv (tal s)).toArray 54)).alloc (.cells (iv (List.replicate (s.size + 1) 0)).toArray 3)).alloc (.map #[] 0)) := (b0.alloc (by simp) _).alloc (by simp; omega) _
  clear r0 b0 c0 c1 hmk hmm
  have HA := Lib.hid (fun w => all_any s w hs)
  have HH := Lib.hid (fun w => half_any (sumL s s.size) w (sumL_sm s (by omega)))
  go_loopw [20] (fun i wr => ∃ k : Nat, k ≤ s.size + 1 ∧ i = .int .i64 k ∧ Row wr w.heap.size 54 (iv (tal s)) ∧ Row wr (w.heap.size + 1) 3 (iv (hlvL s k)) ∧ wr.ownsMap (H := Unit) Try.prog 51 (plainElem Try.prog 3) (w.heap.size + 1 + 1) k (DM s k) ∧ Below w.heap.size w wr) (fun i _ => s.size + 1 - (intOf i).toNat)
  case atStart => exact ⟨0, by omega, rfl, q0, q1, m0, bq⟩
  case round =>
    clear q0 q1 m0 bq
    obtain ⟨k, hk, rfl, q0, q1, m0, bq⟩ := hrel
    by_cases hlt : k < s.size + 1
    · have g1 : decide ((k : Int) < ((s.size + 1 : Nat) : Int)) = true := decide_eq_true (by omega)
      have t0 := tal_range (p := k) (by omega) hs q0
      have hi4 : (Try.prog.info? 51).map (·.size) = some (iv (sumL s k)).length := info51
      have h5i := info51_iv (x := sumL s k) rfl
      have p6 : Row (wr.alloc (.cells Z4.toArray 51)) wr.heap.size 51 Z4 := row_new rfl
      have hbz := bq.size
      have hl0 := q0.lt
      have hl1 := q1.lt
      have hl2 := m0.lt
      have hkey := key_sm (sumL_sm s (p := k) (by omega))
      have z1 := z51
      have hval : plainElem (H := Unit) Try.prog 3 (.int .i64 (k : Int)) = some (.lit (.int .i64 k), []) := plainElem_int Try.underlying3 (wf_sm ⟨by omega, by omega⟩)
      have hD : (DM (H := Unit) s k).put (KL (sumL s k)) (.lit (.int .i64 (k : Int))) = DM s (k + 1) := rfl
      go_wp2_with (first
        | ((with_reducible refine (?_ : wpList _ _ _ (Oper.mk (some 24) _ _ _ _ _ :: _) _ _)); refine wpList_load_mid rfl 51 (.tmp 23) rfl w.heap.size (1 + k * 4) rfl (iv (sumL s k)) _ t0 Try.underlying51 rfl hi4 ?_)
        | ((with_reducible refine (?_ : wpList _ _ _ (Oper.mk none _ _ _ _ _ :: _) _ _)); with_reducible refine (?_ : wpList _ _ _ (Oper.mk _ (Op.store 51 (.tmp 6) _) _ _ _ _ :: _) _ _); refine wpList_store_row rfl 51 (.tmp 6) (.tmp 24) rfl wr.heap.size (iv (sumL s k)).toArray rfl rfl 51 Z4.toArray (row_heap p6) h5i (size51_iv rfl) (iv_all _) ?_; go_loud (have p7 := p6.row (iv (sumL s k)); have n0 := (q0.alloc (.cells Z4.toArray 51)).row_far (k := wr.heap.size) (by omega) (iv (sumL s k)).toArray; have n1 := (q1.alloc (.cells Z4.toArray 51)).row_far (k := wr.heap.size) (by omega) (iv (sumL s k)).toArray; have mm := map_block (m0.alloc (.cells Z4.toArray 51)) (w' := (wr.alloc (.cells Z4.toArray 51)).setRow wr.heap.size (iv (sumL s k)).toArray) (by rw [setRow_other _ _ _ _ (by omega)]); have bn := below_row (g := wr.heap.size) (bq.alloc hbz (.cells Z4.toArray 51)) hbz (iv (sumL s k)).toArray; generalize hg6 : wr.heap.size = g6 at *; clear p6 q0 q1 m0 bq t0; generalize World.setRow _ _ _ = wr2 at *))
        | ((with_reducible refine (?_ : wpList _ _ _ (Oper.mk (some 26) _ _ _ _ _ :: _) _ _)); refine wpList_load_row rfl 51 (.tmp 6) rfl g6 rfl 51 (iv (sumL s k)).toArray (0, 0) _ (row_heap p7) Try.underlying51 rfl h5i ?_)
        | (at_mapUpdate; refine wpList_mapUpdate_own _ rfl (.tmp 25) (.tmp 26) (.tmp 27) 74 rfl 51 3 K51 Try.underlying74 (plainElem (H := Unit) Try.prog 3) (w.heap.size + 1 + 1) k (DM s k) rfl mm (by unfold maxLen; omega) (.agg (iv (sumL s k)).toArray) (.int .i64 (k : Int)) (KL (sumL s k)) rfl rfl hkey (.lit (.int .i64 k)) [] hval ?_; intro w3 m3 hg3))
      have n0' := n0.grown hg3 (by intro e; injection e with e; omega)
      have n1' := n1.grown hg3 (by intro e; injection e with e; omega)
      have hg6l := p7.lt
      have p7' := p7.grown hg3 (by intro e; injection e with e; omega)
      have b3 := below_map bn hg3 (by omega)
      have m4 : w3.ownsMap (H := Unit) Try.prog 51 (plainElem Try.prog 3) (w.heap.size + 1 + 1) (k + 1) (DM s (k + 1)) := m3
      clear n0 n1 p7 bn mm m3 hg3 hD hval hkey z1 h5i
      have hsx : Sm (subL (sumL s k) (halfL (sumL s s.size))) := ⟨subL_len rfl rfl, fun i hi => by
        rw [subL_at (by exact hi) (by exact hi), sumL_at s k hi, halfS_at s s.size hi]
        have h1 := cnt_rng s i k
        have h2 := cnt_rng s i s.size
        omega⟩
      have HM := Lib.hid (fun w => minus_any (sumL s k) (halfL (sumL s s.size)) w (sumL_sm s (by omega)) (halfS_sm s (by omega)))
      have HLK := Lib.hid (fun (u : After w3) => look51 hs ho (map_block m4 (u.h.block _ m4.lt)) (by omega) hsx)
      have HST := Lib.hid (show hlvL s (k + 1) = match findP s (k + 1) (subL (sumL s k) (halfL (sumL s s.size))) with | some j => (hlvL s k).set (k - j) (geti (hlvL s k) (k - j) + 1) | none => hlvL s k from rfl)
      have hi54 : (Try.prog.info? 54).map (·.size) = some (iv (tal s)).length := by rw [iv_len, hT]; exact info54
      cases hf : findP s (k + 1) (subL (sumL s k) (halfL (sumL s s.size)))
      · rw [hf] at HLK HST
        go_wp2
        refine wp_region_class_all (C := fun w' => ∃ u : After _, w' = u.v) (by kernel_rfl) (by kernel_rfl) (isAfter_start _) ?_
        try simp only [Act.put]
        repeat (first | ((with_reducible refine (?_ : wpQuiet _ _ _ _ (Oper.mk (some 30) _ _ _ _ _ :: _) _); go_big_quiet_want); refine quiet_load_row 51 (.tmp 6) rfl g6 rfl 51 (iv (sumL s k)) _ (fun _ hc => after_row p7' hc) Try.underlying51 rfl hi4 ?_; simp only [Act.put, List.setIfInBounds_toArray, List.set_cons_zero, List.set_cons_succ]; go_big_quiet_on) | ((with_reducible refine (?_ : wpQuiet _ _ _ _ (Oper.mk (some 31) _ _ _ _ _ :: _) _); go_big_quiet_want); refine quiet_load_row 54 (.tmp 1) rfl w.heap.size rfl 54 (iv (tal s)) _ (fun _ hc => after_row n0' hc) Try.underlying54 rfl hi54 ?_; simp only [Act.put, List.setIfInBounds_toArray, List.set_cons_zero, List.set_cons_succ]; go_big_quiet_on) | ((with_reducible refine (?_ : wpQuiet _ _ _ _ (Oper.mk (some 35) _ _ _ _ _ :: _) _); go_big_quiet_want); refine quiet_lookup 74 (.tmp 29) (.tmp 34) rfl (.map (some (w.heap.size + 1 + 1))) (.agg (iv (subL (sumL s k) (halfL (sumL s s.size)))).toArray) _ rfl rfl (fun _ hc => by obtain ⟨u, rfl⟩ := hc; exact HLK.out u) ?_; simp only [Act.put, List.setIfInBounds_toArray, List.set_cons_zero, List.set_cons_succ]; go_big_quiet_on) | go_big_quiet_step ((first | (with_reducible refine (HA.out _).mono ?_; rintro e w8 ⟨rfl, b8⟩; exact ⟨rfl, After.done _ b8⟩) | (with_reducible refine (HH.out _).mono ?_; rintro e w8 ⟨rfl, b8⟩; exact ⟨rfl, After.done _ b8⟩) | (with_reducible refine (HM.out _).mono ?_; rintro e w8 ⟨rfl, b8⟩; exact ⟨rfl, After.done _ b8⟩))))
        refine wpQuiet_nil ?_
        rintro _ ⟨ua, rfl⟩
        go_wp2
        go_roundw
        case rel => exact ⟨k + 1, by omega, by go_num, n0'.below ua.h, by rw [HST.out]; exact n1'.below ua.h, map_block m4 (ua.h.block _ m4.lt), b3.trans (ua.h.mono b3.size)⟩
        case measure => simp [intOf]; omega
      · rename_i j
        obtain ⟨hj, -⟩ := findP_some hf
        rw [hf] at HLK HST
        have HST2 := Lib.hid (show hlvL s (k + 1) = (hlvL s k).set (k - j) (geti (hlvL s k) (k - j) + 1) from HST.out)
        have hlen := hlvL_len s k
        have hrg := hlvL_rng s k (k - j)
        generalize hlvL s k = L at *
        go_wp2
        refine wp_region_class_all (C := fun w' => ∃ u : After _, w' = u.v) (by kernel_rfl) (by kernel_rfl) (isAfter_start _) ?_
        try simp only [Act.put]
        repeat (first | ((with_reducible refine (?_ : wpQuiet _ _ _ _ (Oper.mk (some 30) _ _ _ _ _ :: _) _); go_big_quiet_want); refine quiet_load_row 51 (.tmp 6) rfl g6 rfl 51 (iv (sumL s k)) _ (fun _ hc => after_row p7' hc) Try.underlying51 rfl hi4 ?_; simp only [Act.put, List.setIfInBounds_toArray, List.set_cons_zero, List.set_cons_succ]; go_big_quiet_on) | ((with_reducible refine (?_ : wpQuiet _ _ _ _ (Oper.mk (some 31) _ _ _ _ _ :: _) _); go_big_quiet_want); refine quiet_load_row 54 (.tmp 1) rfl w.heap.size rfl 54 (iv (tal s)) _ (fun _ hc => after_row n0' hc) Try.underlying54 rfl hi54 ?_; simp only [Act.put, List.setIfInBounds_toArray, List.set_cons_zero, List.set_cons_succ]; go_big_quiet_on) | ((with_reducible refine (?_ : wpQuiet _ _ _ _ (Oper.mk (some 35) _ _ _ _ _ :: _) _); go_big_quiet_want); refine quiet_lookup 74 (.tmp 29) (.tmp 34) rfl (.map (some (w.heap.size + 1 + 1))) (.agg (iv (subL (sumL s k) (halfL (sumL s s.size)))).toArray) _ rfl rfl (fun _ hc => by obtain ⟨u, rfl⟩ := hc; exact HLK.out u) ?_; simp only [Act.put, List.setIfInBounds_toArray, List.set_cons_zero, List.set_cons_succ]; go_big_quiet_on) | go_big_quiet_step ((first | (with_reducible refine (HA.out _).mono ?_; rintro e w8 ⟨rfl, b8⟩; exact ⟨rfl, After.done _ b8⟩) | (with_reducible refine (HH.out _).mono ?_; rintro e w8 ⟨rfl, b8⟩; exact ⟨rfl, After.done _ b8⟩) | (with_reducible refine (HM.out _).mono ?_; rintro e w8 ⟨rfl, b8⟩; exact ⟨rfl, After.done _ b8⟩))))
        refine wpQuiet_nil ?_
        rintro _ ⟨ua, rfl⟩
        have n0'' := n0'.below ua.h
        have n1'' := n1'.below ua.h
        have m4' := map_block m4 (ua.h.block _ m4.lt)
        have b3' := b3.trans (ua.h.mono b3.size)
        clear n0' n1' m4 b3 p7' HLK HST hf
        generalize ua.v = w4 at *
        have cd := ivR n1'' (i := k - j) (by omega)
        have fd : w4.frozen? ⟨w.heap.size + 1, k - j, none⟩ = false := n1''.free _
        have HX := Lib.hid (show geti L (k - j) = geti L (k - j) from rfl)
        generalize hx : geti L (k - j) = x at *
        have n1f := n1''.set (k - j) (.int .i64 (x + 1))
        rw [iv_set, ← HST2.out] at n1f
        have n0f := n0''.far (p := ⟨w.heap.size + 1, k - j, none⟩) (by dsimp only; omega) (.int .i64 (x + 1))
        have m4f := map_block m4' (w' := w4.setCell ⟨w.heap.size + 1, k - j, none⟩ (.int .i64 (x + 1))) (Below.heap_setCell _ _ _ _ (by dsimp only; omega))
        have bf := b3'.setCell (p := ⟨w.heap.size + 1, k - j, none⟩) (by dsimp only; omega) (.int .i64 (x + 1))
        go_wp2
        go_roundw
        case rel => exact ⟨k + 1, by omega, by go_num, n0f, n1f, m4f, bf⟩
        case measure => simp [intOf]; omega
    · obtain rfl : k = s.size + 1 := by omega
      go_wp2
      exact bodyPost_ret (v := .slice (some ⟨w.heap.size + 1, 0, none⟩) (s.size + 1) (s.size + 1)) (by simp [results, Try.results50]) rfl ⟨w.heap.size + 1, rfl, by omega, q1, bq⟩
end Go.Proofs.Ytopeppnajbnfgaa
