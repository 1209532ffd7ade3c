/- The search for a shortest part. -/
import Derived.Test.YtokjdadgdfmffaaKI
import Derived.Lib.SliceRun
namespace Go.Proofs.Ytokjdadgdfmffaa
open Go.RowKit
set_option maxHeartbeats 1000000
set_option maxRecDepth 100000
/-- A world behind w, in which all that lay there lies as it lay. -/
structure After (w : World) where
  v : World
  h : Below w.heap.size w v
instance (w : World) : Nonempty (After w) := ⟨⟨w, Below.refl _ _⟩⟩
def isAfter (w : World) : World → Prop := fun w' => ∃ u : After w, w' = u.v
theorem after_row {w w' : World} {g : Nat} {t : TypeId} {cs : List Value} (h : Row w g t cs) (hc : ∃ u : After w, w' = u.v) : Row w' g t cs := by obtain ⟨u, rfl⟩ := hc; exact h.below u.h
theorem After.cell {w : World} {p : Addr} {v : Value} (h : w.cell? p = some v) (u : After w) : u.v.cell? p = some v := by
  have hb := block_lt_of_cell h
  rw [World.cell?_of_block (u.h.block _ hb)]; exact h
theorem After.done {w w2 : World} (u : After w) (h : Below u.v.heap.size u.v w2) : ∃ u2 : After w, w2 = u2.v := ⟨⟨w2, u.h.trans (h.mono u.h.size)⟩, rfl⟩
theorem isAfter_start (w : World) : isAfter w { w with drawn := w.drawn + 1 } := ⟨⟨{ w with drawn := w.drawn + 1 }, (Below.refl _ w).drew⟩, rfl⟩
section
variable {P : Program}
theorem wp_region_class_tail {C : World → Prop} {id : Nat} {R : Exit → Act → World → Prop} {a : Act} {w : World} {l : List Oper} (n : Nat) (hm : P.follows .mixedOrders = true) (hB : Region.lexTailB .any l.toArray n = true)
    (hC : C { w with drawn := w.drawn + 1 })
    (h : wpQuiet P l.toArray C (fun a' => ∀ w', C w' → wpList P l.toArray R (l.drop n) a' w') (l.take n) a) : (Code.region id l.toArray true).wp P R a w := by
  simp only [Region.lexTailB, Bool.and_eq_true, decide_eq_true_eq] at hB
  obtain ⟨⟨⟨⟨hsel, hn⟩, hs⟩, hc⟩, hlex⟩ := hB
  have hn' : n < l.length := by simpa using hn
  have htl : (l.take n).length = n := by simp; omega
  have hdl : (l.drop n).length = l.toArray.size - n := by simp
  have inv0 : HeadInv .any l.toArray n (Array.replicate l.toArray.size false) :=
    ⟨by simp, fun j oj _ hl => (by rw [getD_replicate_false] at hl; cases hl), fun t _ ht => getD_in (by simpa using ht) (getD_replicate_false _ _)⟩
  have H := headQ_lex (md := .any) (g := l.toArray.size - n) hsel hs hc hn (l.take n) 0 _ a (fun j hj => by rw [htl] at hj; simp [hj]) (by simpa using htl) inv0 (by rw [htl]; exact hlex) h
  refine wp_region_any hm ?_
  have h2 := wpAny_of_headQ (C := C) (R := R) (g := l.toArray.size - n) (fun d a' w' hw' hL => by
    have h3 := wpAny_of_seq (md := .any) (Q' := R) (l.drop n) n d a' w' (fun j => by simp [List.getElem?_drop]) (by rw [hdl]; exact hL.1) (hL.2 w' hw')
    rwa [hdl] at h3) _ _ _ { w with drawn := w.drawn + 1 } hC H
  rw [htl, show n + (l.toArray.size - n) = l.toArray.size by omega] at h2
  exact h2
theorem quiet_lookup {C : World → Prop} {K : Act → Prop} {o : Oper} {a : Act} (t : TypeId) (m x : Operand) (ho : o.op = .lookup t m x true) (vm vx r : Value) (hm : a.eval m = vm) (hx : a.eval x = vx)
    (hS : ∀ w, C w → (Instr.lookup t vm vx true).run P w = .ok r w) (hk : K (a.put o.dst r)) : o.quiet P a C K :=
  ⟨_, fun w hw => by
    unfold Oper.quietAt execOp
    simp only [ho, hm, hx, Sem.run_bind, hS w hw, Sem.run_pure, Result.andThen_ok]
    exact ⟨rfl, rfl⟩, hk⟩
end
theorem slR_inj {v v' : Value} {d : DataW Unit} {ps ps' : List MemPlace} (h : slR v = some (d, ps)) (h' : slR v' = some (d, ps')) : v = v' := by
  unfold slR at h'
  split at h'
  · injection h' with h'
    injection h' with h' _
    subst h'
    exact slR_nil_inv h
  · injection h' with h'
    injection h' with h' _
    subst h'
    exact slR_some_inv h
  · cases h'
theorem part_read {w : World} {v : Value} {xs : List Int} (h : PartV w v xs) : ∃ d, slR v = some (d, []) := by
  rcases h with ⟨_, rfl⟩ | ⟨_, b, o, c, rfl, _⟩
  · exact ⟨_, rfl⟩
  · exact ⟨_, rfl⟩
theorem part_own {w : World} {B : Nat} {v : Value} {x : Int} {xs : List Int} (h : w.ownsRow B 3 1 v ([x] ++ xs).length (iv ([x] ++ xs))) : PartV w v (x :: xs) := by
  rcases h.2 with ⟨_, h0⟩ | ⟨g, cap, cur, rfl, hb, hg, hc, _, hs, ht⟩
  · simp at h0
  · obtain ⟨A, c, e, _, _, hi⟩ := own_intsI h
    injection e with e1 _ e3
    subst e1
    exact .inr ⟨by simp, g, 0, cap, rfl, hi⟩
def FindR (X : Cx) (i : Nat) (a b : Int) (cn : Nat → Nat) (W : World) (e : Ending) (W' : World) : Prop :=
  ∃ v cn', e = .returned v ∧ PartV W' v (X.sh i a b) ∧ Env X cn' W' ∧ FrM X.B W W' ∧ (∀ j, j < i → cn' j = cn j) ∧ ∀ j, i ≤ j → cn' j ≤ cn j + 2 ^ (j - i)
theorem find_any (X : Cx) (hg : Gr X.m X.n) (hes : ∀ i (h : i < X.es.length), El X.m X.n X.es[i].1 X.es[i].2) (hN : X.es.length ≤ 60) :
    ∀ (f i : Nat), i + f = X.es.length → ∀ (a b : Int) (cn : Nat → Nat) (W : World), El X.m X.n a b → Env X cn W → (∀ j, i ≤ j → j < X.es.length → cn j + 2 ^ (j - i) ≤ 2 ^ 61) →
      Calls Try.prog 65 #[.int .i64 i, pv a b, .pointer (some ⟨X.L, 0, none⟩), .pointer (some ⟨X.K, 0, none⟩), .pointer (some ⟨X.F, 0, none⟩), .pointer (some ⟨X.G, 0, none⟩)] W (FindR X i a b cn W) := by
  intro f
  induction f with
  | zero =>
    intro i hi a b cn W he hE hc
    obtain rfl : i = X.es.length := by omega
    have b0 : Below W.heap.size W (W.alloc (.cells #[.int .i64 a, .int .i64 b] 69)) := by (repeat (first | exact Below.refl _ _ | assumption | (refine Below.setCell ?_ (by first | exact Nat.le_refl _ | omega | (simp; done) | (simp; omega)) _) | (refine Below.trans ?_ (below_drewN _)) | (refine Below.drew ?_) | (refine Below.alloc ?_ (by first | exact Nat.le_refl _ | omega | (simp; done) | (simp; omega)) _) | (refine below_row ?_ (by first | exact Nat.le_refl _ | omega | (simp; done) | (simp; omega)) _)))
    have E0 := hE.below b0
    obtain ⟨c0, -⟩ := E0.rl.cells1
    have hs : X.sh X.es.length a b = [] := by unfold Cx.sh; rw [List.drop_length]; rfl
    clear hc he hE
    go_enter Try.func65, Try.ntmps65
    go_wp2
    go_ret
    exact ⟨_, cn, rfl, .inl ⟨hs, rfl⟩, E0, FrM.of_below b0, fun _ _ => rfl, fun j _ => Nat.le_add_right _ _⟩
  | succ f ih =>
    intro i hi a b cn W he hE hc
    have hlt : i < X.es.length := by omega
    have b0 : Below W.heap.size W (W.alloc (.cells #[.int .i64 a, .int .i64 b] 69)) := by (repeat (first | exact Below.refl _ _ | assumption | (refine Below.setCell ?_ (by first | exact Nat.le_refl _ | omega | (simp; done) | (simp; omega)) _) | (refine Below.trans ?_ (below_drewN _)) | (refine Below.drew ?_) | (refine Below.alloc ?_ (by first | exact Nat.le_refl _ | omega | (simp; done) | (simp; omega)) _) | (refine below_row ?_ (by first | exact Nat.le_refl _ | omega | (simp; done) | (simp; omega)) _)))
    have E0 := hE.below b0
    have q0 : Row (W.alloc (.cells #[.int .i64 a, .int .i64 b] 69)) W.heap.size 69 [.int .i64 a, .int .i64 b] := row_new rfl
    have hel := hes i hlt
    have hp := pcs_at X.es i hlt
    have hsh : X.sh i a b = if X.es[i].1 = a ∧ X.es[i].2 = b then [(i : Int)] else if 0 < (X.sh (i + 1) ((a - X.es[i].1) % X.m) ((b - X.es[i].2) % X.n)).length ∧ ((X.sh (i + 1) a b).length = 0 ∨ (X.sh (i + 1) ((a - X.es[i].1) % X.m) ((b - X.es[i].2) % X.n)).length < (X.sh (i + 1) a b).length) then (i : Int) :: X.sh (i + 1) ((a - X.es[i].1) % X.m) ((b - X.es[i].2) % X.n) else X.sh (i + 1) a b := by
      unfold Cx.sh
      rw [List.drop_eq_getElem_cons hlt]; rfl
    generalize X.es[i] = p at *
    obtain ⟨x, y⟩ := p
    dsimp only at hel hp hsh
    have HSH := Lib.hid hsh
    have HP := Lib.hid hp
    have HE := Lib.hid E0
    have HC := Lib.hid hc
    have ih1 := ih (i + 1) (by omega)
    rw [show ((i + 1 : Nat) : Int) = (i : Int) + 1 by omega] at ih1
    have HI := Lib.hid ih1
    have HHE := Lib.hid he
    have HEL := Lib.hid hel
    have HHG := Lib.hid hg
    obtain ⟨c0, -⟩ := E0.rl.cells1
    obtain ⟨c1, -⟩ := E0.rk.cells1
    have c2 : (W.alloc (.cells #[.int .i64 a, .int .i64 b] 69)).cell? ⟨X.F, 0, none⟩ = some (.func (.func 65) #[] #[.pointer (some ⟨X.L, 0, none⟩), .pointer (some ⟨X.K, 0, none⟩), .pointer (some ⟨X.F, 0, none⟩), .pointer (some ⟨X.G, 0, none⟩)]) := E0.rf.cells1.1
    obtain ⟨⟨c3, c4⟩, -⟩ := E0.rg.cells2
    obtain ⟨⟨c5, c6⟩, -⟩ := q0.cells2
    have c7 := E0.re.cell (i * 2)
    have c8 := E0.re.cell (i * 2 + 1)
    rw [hp.1] at c7
    rw [hp.2] at c8
    have c9 : (W.alloc (.cells #[.int .i64 a, .int .i64 b] 69)).cell? ⟨X.k, i, none⟩ = some (.map (some (X.mb i))) := by
      rw [E0.rm.cell, List.getElem?_map, List.getElem?_range hlt]; rfl
    have g0 : ((i : Int) == X.es.length) = false := by simp; omega
    clear hsh hc ih ih1 hE hp he hel E0 hes hg
    by_cases hxy : x = a ∧ y = b
    · have h1 := eq69_yes (a := x) (b := y) (a' := a) (b' := b) hxy
      have HXY := Lib.hid hxy
      clear hxy
      go_enter Try.func65, Try.ntmps65
      go_wp2
      refine wp_region_quiet_lit (by kernel_rfl) (by kernel_rfl) ?_
      repeat go_big_quiet_step ((fail))
      refine wpQuiet_nil ?_
      rintro _ ⟨nq, rfl⟩
      go_wp2
      go_ret
      have hB : Below W.heap.size W (((W.alloc (.cells #[.int .i64 a, .int .i64 b] 69)).drewN nq).alloc (.cells #[.int .i64 i] 3)) := (b0.trans (below_drewN nq)).alloc (by simp) _
      have HPV : PartV (((W.alloc (.cells #[.int .i64 a, .int .i64 b] 69)).drewN nq).alloc (.cells #[.int .i64 i] 3)) (.slice (some ⟨((W.alloc (.cells #[.int .i64 a, .int .i64 b] 69)).drewN nq).heap.size, 0, none⟩) 1 1) (X.sh i a b) := by
        rw [HSH.out, if_pos HXY.out]
        refine .inr ⟨by simp, _, 0, 1, rfl, fun _ => ⟨_, 0, rfl, by simp, fun j hj => ?_⟩⟩
        obtain rfl : j = 0 := by simpa using hj
        rw [Nat.zero_add, (row_new (W := (W.alloc (.cells #[.int .i64 a, .int .i64 b] 69)).drewN nq) (cs := [.int .i64 i]) (t := 3) rfl).cell 0]
        rfl
      exact ⟨_, cn, rfl, by simpa using HPV, HE.out.below (((below_drewN nq).alloc (by simp) _)), FrM.of_below hB, fun _ _ => rfl, fun j _ => Nat.le_add_right _ _⟩
    · have h1 := eq69_no (a := x) (b := y) (a' := a) (b' := b) hxy
      have HXY := Lib.hid hxy
      clear hxy
      obtain ⟨D, hD, hM⟩ := HE.out.mp i hlt
      have hz : ∀ W : World, (zeroValue 22).run Try.prog W = .ok (.slice none 0 0) W := fun W => by kernel_rfl
      have hkey := key_el HHG.out HHE.out
      have HLK : Hid (∀ n, ∃ v, (Instr.lookup 88 (.map (some (X.mb i))) (pv a b) true).run Try.prog ((W.alloc (.cells #[.int .i64 a, .int .i64 b] 69)).drewN n) = .ok (.tuple #[v, .bool (Maps.has D (KE a b))]) ((W.alloc (.cells #[.int .i64 a, .int .i64 b] 69)).drewN n) ∧ ∃ ps, slR v = some (D.atKey (KE a b) (.agg []), ps)) := Lib.hid fun n => by
        obtain ⟨v, ps, h2, h3⟩ := World.ownsMap.look_ok (w := (W.alloc (.cells #[.int .i64 a, .int .i64 b] 69)).drewN n) hD K69 Try.underlying88 (hz _) (zd := .agg []) (zp := []) rfl hkey
        exact ⟨v, h2, ps, h3⟩
      have HDD := Lib.hid hD
      have HMM := Lib.hid hM
      clear hD hM hz
      cases hh : Maps.has D (KE a b)
      · have HL2 : Hid (∀ w', (∃ n, w' = (W.alloc (.cells #[.int .i64 a, .int .i64 b] 69)).drewN n) → (Instr.lookup 88 (.map (some (X.mb i))) (pv a b) true).run Try.prog w' = .ok (.tuple #[.slice none 0 0, .bool false]) w') := Lib.hid (by
          rintro w' ⟨n, rfl⟩
          obtain ⟨v, h2, ps, h3⟩ := HLK.out n
          rw [Maps.atKey_of_not_has hh] at h3
          rw [h2, hh, slR_nil_inv h3])
        clear hh HLK hkey
        go_enter Try.func65, Try.ntmps65
        go_wp2
        refine wp_region_quiet_lit (by kernel_rfl) (by kernel_rfl) ?_
        repeat go_big_quiet_step ((fail))
        refine wpQuiet_nil ?_
        rintro _ ⟨nq, rfl⟩
        go_wp2
        refine wp_region_quiet_lit (by kernel_rfl) (by kernel_rfl) ?_
        repeat (first | ((with_reducible refine (?_ : wpQuiet _ _ _ _ (Oper.mk (some 30) _ _ _ _ _ :: _) _); go_big_quiet_want); refine quiet_lookup 88 (.tmp 28) (.tmp 29) rfl (.map (some (X.mb i))) (pv a b) (.tuple #[.slice none 0 0, .bool false]) rfl rfl (fun w' hc => by obtain ⟨k, rfl⟩ := hc; exact HL2.out _ ⟨_, World.drewN_drewN _ _ _⟩) ?_; simp only [Act.put, List.setIfInBounds_toArray, List.set_cons_zero, List.set_cons_succ]; go_big_quiet_on) | go_big_quiet_step ((fail)))
        refine wpQuiet_nil ?_
        rintro _ ⟨nq2, rfl⟩
        have HC1 : ∀ j, i + 1 ≤ j → j < X.es.length → cn j + 2 ^ (j - (i + 1)) ≤ 2 ^ 61 := fun j hj hj2 => by
          have h := HC.out j (by omega) hj2
          rw [show j - i = (j - (i + 1)) + 1 by omega, Nat.pow_succ] at h
          omega
        have HCC := Lib.hid HC1
        clear HC1
        go_wp2_with (go_at_call 65; fail)
        refine (HI.out a b cn _ HHE.out (HE.out.below (below_drewN (nq + nq2))) HCC.out).mono ?_
        rintro e W1 ⟨v1, cn1, rfl, p1, E1, F1, k1, k1'⟩
        have q1 : Row W1 W.heap.size 69 [.int .i64 a, .int .i64 b] := (q0.drewN (nq + nq2)).frm F1
        have F1' : FrM X.B W W1 := (FrM.of_below (b0.trans (below_drewN (nq + nq2)))).trans F1
        clear c0 c1 c2 c3 c4 c5 c6 c7 c8 c9 h1 q0 F1 HL2 HDD HMM HE b0
        have hp := HP.out
        have c0 := E1.rl.cells1.1
        have c1 := E1.rk.cells1.1
        have c2 : W1.cell? ⟨X.F, 0, none⟩ = some (.func (.func 65) #[] #[.pointer (some ⟨X.L, 0, none⟩), .pointer (some ⟨X.K, 0, none⟩), .pointer (some ⟨X.F, 0, none⟩), .pointer (some ⟨X.G, 0, none⟩)]) := E1.rf.cells1.1
        obtain ⟨⟨c3, c4⟩, -⟩ := E1.rg.cells2
        obtain ⟨⟨c5, c6⟩, -⟩ := q1.cells2
        have c7 := E1.re.cell (i * 2)
        have c8 := E1.re.cell (i * 2 + 1)
        rw [hp.1] at c7
        rw [hp.2] at c8
        have d0 := fun u : After W1 => After.cell c0 u
        have d2 := fun u : After W1 => After.cell c2 u
        have d3 := fun u : After W1 => After.cell c3 u
        have d4 := fun u : After W1 => After.cell c4 u
        have d5 := fun u : After W1 => After.cell c5 u
        have d6 := fun u : After W1 => After.cell c6 u
        have d7 := fun u : After W1 => After.cell c7 u
        have d8 := fun u : After W1 => After.cell c8 u
        have HM := Lib.hid (fun w => minus_any X.m X.n a b x y w HHG.out HHE.out HEL.out)
        have HE1 := Lib.hid E1
        have HP1 := Lib.hid p1
        have HK1 := Lib.hid k1
        have HK1' := Lib.hid k1'
        clear hp E1 p1 k1 k1' c0 c1 c2 c3 c4 c5 c6 c7 c8
        go_wp2
        refine wp_region_class_tail (C := fun w' => ∃ u : After _, w' = u.v) 10 (by kernel_rfl) (by kernel_rfl) (isAfter_start _) ?_
        simp only [List.take_succ_cons, List.take_zero, List.drop_succ_cons, List.drop_zero]
        try simp only [Act.put]
        repeat (first | go_big_quiet_step ((with_reducible refine (HM.out _).mono ?_; rintro e w8 ⟨rfl, b8⟩; exact ⟨rfl, After.done _ b8⟩)))
        refine wpQuiet_nil ?_
        rintro _ ⟨ua, rfl⟩
        have HC2 : ∀ j, i + 1 ≤ j → j < X.es.length → cn1 j + 2 ^ (j - (i + 1)) ≤ 2 ^ 61 := fun j hj hj2 => by
          have h := HC.out j (by omega) hj2
          have h2 := HK1'.out j hj
          rw [show j - i = (j - (i + 1)) + 1 by omega, Nat.pow_succ] at h
          omega
        have HCD := Lib.hid HC2
        have el2 := Lib.hid (el_mod HHG.out (a - x) (b - y))
        clear HC2 d0 d2 d3 d4 d5 d6 d7 d8
        go_wp2_with (go_at_call 65; fail)
        refine (HI.out _ _ cn1 _ el2.out (HE1.out.below ua.h) HCD.out).mono ?_
        rintro e W2 ⟨v2, cn2, rfl, p2, E2, F2, k2, k2'⟩
        have F12 : FrM X.B W1 W2 := (FrM.of_below ua.h).trans F2
        have q2 := q1.frm F12
        have F3 := F1'.trans F12
        have p1' := HP1.out.frm F12
        have l1 := shF_len X.m X.n (X.es.drop (i + 1)) (i + 1) a b
        have l2 := shF_len X.m X.n (X.es.drop (i + 1)) (i + 1) ((a - x) % X.m) ((b - y) % X.n)
        change (X.sh (i + 1) a b).length ≤ _ at l1
        change (X.sh (i + 1) ((a - x) % X.m) ((b - y) % X.n)).length ≤ _ at l2
        rw [List.length_drop] at l1 l2
        have HS2 : Hid (X.sh i a b = if 0 < (X.sh (i + 1) ((a - x) % X.m) ((b - y) % X.n)).length ∧ ((X.sh (i + 1) a b).length = 0 ∨ (X.sh (i + 1) ((a - x) % X.m) ((b - y) % X.n)).length < (X.sh (i + 1) a b).length) then (i : Int) :: X.sh (i + 1) ((a - x) % X.m) ((b - y) % X.n) else X.sh (i + 1) a b) := Lib.hid (by rw [HSH.out, if_neg HXY.out])
        have HKB : Hid (cn2 i = cn i ∧ (∀ j, j < i → cn2 j = cn j) ∧ ∀ j, i < j → cn2 j ≤ cn j + 2 ^ (j - i)) := Lib.hid ⟨by rw [k2 i (by omega), HK1.out i (by omega)], fun j hj => by rw [k2 j (by omega), HK1.out j (by omega)], fun j hj => by
          have h1 := k2' j (by omega)
          have h2 := HK1'.out j (by omega)
          rw [show j - i = (j - (i + 1)) + 1 by omega, Nat.pow_succ]
          omega⟩
        have HE2 := Lib.hid E2
        clear HP1 HK1 HK1' HE1 HM F1' F12 F2 k2 k2' q1 HSH el2 HCD HCC E2
        generalize X.sh (i + 1) a b = P at *
        generalize X.sh (i + 1) ((a - x) % X.m) ((b - y) % X.n) = R at *
        have hnn : ∀ (w : World) (a : Option Addr) (n c n' c' : Nat), (binOp .neq 22 (.slice a n c) (.slice none n' c')).run Try.prog w = .ok (.bool (!a.isNone)) w := fun w a n c n' c' => run_neq_slice_nil_any w 22 3 a n c n' c' Try.underlying22
        have hne : ∀ (w : World) (a : Option Addr) (n c n' c' : Nat), (binOp .eql 22 (.slice a n c) (.slice none n' c')).run Try.prog w = .ok (.bool a.isNone) w := fun w a n c n' c' => Lib.run_eql_slice_nil w 22 3 a n c n' c' Try.underlying22
        rcases p2 with ⟨rfl, rfl⟩ | ⟨hr, b2, o2, c2, rfl, i2⟩
        · have p3 : PartV W2 v1 (X.sh i a b) := by
            rw [HS2.out, if_neg (fun h => absurd h.1 (by simp))]; exact p1'
          clear HS2
          go_wp2
          have E3 := HE2.out
          have q3 := q2
          clear HE2 q2 hnn hne p1' l1 l2
          obtain ⟨D3, hD3, hM3⟩ := E3.mp i hlt
          obtain ⟨d, hd⟩ := part_read p3
          have c1 := E3.rk.cells1.1
          have c9 : W2.cell? ⟨X.k, i, none⟩ = some (.map (some (X.mb i))) := by
            rw [E3.rm.cell, List.getElem?_map, List.getElem?_range hlt]; rfl
          obtain ⟨⟨c5, c6⟩, -⟩ := q3.cells2
          have hcn : cn2 i < maxLen := by
            have h1 := HC.out i (Nat.le_refl _) hlt
            have h2 := HKB.out.1
            rw [Nat.sub_self] at h1
            unfold maxLen
            omega
          have HY := Lib.hid (fun (w5 : World) (n : Nat) h5 h6 => (E3.below (below_drewN n)).store (w' := w5) HHG.out hlt HHE.out (show (W2.drewN n).ownsMap Try.prog 69 slR (X.mb i) (cn2 i) D3 from hD3) (hM3.frm (FrM.of_below (B := 0) (below_drewN n))) hd (p3.frm (FrM.of_below (B := 0) (below_drewN n))) h5 h6)
          have HP3 := Lib.hid p3
          have hkey := key_el HHG.out HHE.out
          clear E3 hM3 p3 q3
          refine wp_region_quiet_tail 6 (by kernel_rfl) (by kernel_rfl) ?_
          simp only [List.take_succ_cons, List.take_zero, List.drop_succ_cons, List.drop_zero]
          repeat go_big_quiet_step ((fail))
          refine wpQuiet_nil ?_
          rintro _ ⟨nq, rfl⟩
          go_wp2_with (at_mapUpdate; refine wpList_mapUpdate_own _ rfl (.tmp 72) (.tmp 73) (.tmp 74) 88 rfl 69 22 K69 Try.underlying88 slR (X.mb i) (cn2 i) D3 rfl (show (W2.drewN nq).ownsMap Try.prog 69 slR (X.mb i) (cn2 i) D3 from hD3) hcn (pv a b) v1 (KE a b) rfl rfl hkey d [] hd ?_; intro w5 m5 g5)
          obtain ⟨E5, F5⟩ := HY.out w5 nq m5 g5
          have F6 := (F3.trans (FrM.of_below (below_drewN nq))).trans F5
          go_ret
          exact ⟨v1, _, rfl, (HP3.out.frm (FrM.of_below (B := 0) (below_drewN nq))).frm F5, E5, F6, fun j hj => by rw [if_neg (by omega)]; exact HKB.out.2.1 j hj, fun j hj => by
            split
            · rename_i e; subst e; rw [HKB.out.1, Nat.sub_self]; omega
            · exact HKB.out.2.2 j (by omega)⟩
        · rcases p1' with ⟨rfl, rfl⟩ | ⟨hp0, b1, o1, cq, rfl, i1⟩
          · skip
            have r1 : Row (W2.alloc (.cells #[.int .i64 i] 3)) W2.heap.size 3 (iv [(i : Int)]) := row_new rfl
            have r2 : Row ((W2.alloc (.cells #[.int .i64 i] 3)).alloc (.cells #[.slice (some ⟨W2.heap.size, 0, none⟩) 1 1, .slice (some ⟨b2, o2, none⟩) R.length c2] 22)) (W2.heap.size + 1) 22 [.slice (some ⟨W2.heap.size, 0, none⟩) 1 1, .slice (some ⟨b2, o2, none⟩) R.length c2] := row_new (by simp)
            have i1 : IntsAt ((W2.alloc (.cells #[.int .i64 i] 3)).alloc (.cells #[.slice (some ⟨W2.heap.size, 0, none⟩) 1 1, .slice (some ⟨b2, o2, none⟩) R.length c2] 22)) (some ⟨W2.heap.size, 0, none⟩) [(i : Int)] := fun _ => ⟨_, 0, rfl, by simp; omega, fun j hj => by
              obtain rfl : j = 0 := by simpa using hj
              rw [Nat.zero_add, (r1.alloc _).cell 0]; rfl⟩
            have i3 := (i2.alloc (.cells #[.int .i64 i] 3)).alloc (.cells #[.slice (some ⟨W2.heap.size, 0, none⟩) 1 1, .slice (some ⟨b2, o2, none⟩) R.length c2] 22)
            have b3 : Below W2.heap.size W2 ((W2.alloc (.cells #[.int .i64 i] 3)).alloc (.cells #[.slice (some ⟨W2.heap.size, 0, none⟩) 1 1, .slice (some ⟨b2, o2, none⟩) R.length c2] 22)) := by (repeat (first | exact Below.refl _ _ | assumption | (refine Below.setCell ?_ (by first | exact Nat.le_refl _ | omega | (simp; done) | (simp; omega)) _) | (refine Below.trans ?_ (below_drewN _)) | (refine Below.drew ?_) | (refine Below.alloc ?_ (by first | exact Nat.le_refl _ | omega | (simp; done) | (simp; omega)) _) | (refine below_row ?_ (by first | exact Nat.le_refl _ | omega | (simp; done) | (simp; omega)) _)))
            have HCT := Lib.hid (Concat2_any (W2.heap.size + 1) W2.heap.size 0 1 b2 o2 c2 [(i : Int)] R _ (by simp) (by omega) r2 i1 i3)
            clear r1 r2 i1 i3 i2
            go_wp2_with (go_at_call 67; fail)
            refine HCT.out.mono ?_
            rintro e W3 ⟨v3, rfl, o3, b4⟩
            have b5 := b3.trans (b4.mono (by simp; omega))
            have E3 := HE2.out.below b5
            have q3 := q2.below b5
            replace F3 := F3.trans (FrM.of_below b5)
            have p3 : PartV W3 v3 (X.sh i a b) := by
              rw [HS2.out, if_pos (⟨hr, .inl rfl⟩)]
              exact part_own o3
            clear HE2 q2 HS2 HCT o3 b4 b5 b3
            go_wp2
            obtain ⟨D3, hD3, hM3⟩ := E3.mp i hlt
            obtain ⟨d, hd⟩ := part_read p3
            have c1 := E3.rk.cells1.1
            have c9 : W3.cell? ⟨X.k, i, none⟩ = some (.map (some (X.mb i))) := by
              rw [E3.rm.cell, List.getElem?_map, List.getElem?_range hlt]; rfl
            obtain ⟨⟨c5, c6⟩, -⟩ := q3.cells2
            have hcn : cn2 i < maxLen := by
              have h1 := HC.out i (Nat.le_refl _) hlt
              have h2 := HKB.out.1
              rw [Nat.sub_self] at h1
              unfold maxLen
              omega
            have HY := Lib.hid (fun (w5 : World) (n : Nat) h5 h6 => (E3.below (below_drewN n)).store (w' := w5) HHG.out hlt HHE.out (show (W3.drewN n).ownsMap Try.prog 69 slR (X.mb i) (cn2 i) D3 from hD3) (hM3.frm (FrM.of_below (B := 0) (below_drewN n))) hd (p3.frm (FrM.of_below (B := 0) (below_drewN n))) h5 h6)
            have HP3 := Lib.hid p3
            have hkey := key_el HHG.out HHE.out
            clear E3 hM3 p3 q3
            refine wp_region_quiet_tail 6 (by kernel_rfl) (by kernel_rfl) ?_
            simp only [List.take_succ_cons, List.take_zero, List.drop_succ_cons, List.drop_zero]
            repeat go_big_quiet_step ((fail))
            refine wpQuiet_nil ?_
            rintro _ ⟨nq, rfl⟩
            go_wp2_with (at_mapUpdate; refine wpList_mapUpdate_own _ rfl (.tmp 72) (.tmp 73) (.tmp 74) 88 rfl 69 22 K69 Try.underlying88 slR (X.mb i) (cn2 i) D3 rfl (show (W3.drewN nq).ownsMap Try.prog 69 slR (X.mb i) (cn2 i) D3 from hD3) hcn (pv a b) v3 (KE a b) rfl rfl hkey d [] hd ?_; intro w5 m5 g5)
            obtain ⟨E5, F5⟩ := HY.out w5 nq m5 g5
            have F6 := (F3.trans (FrM.of_below (below_drewN nq))).trans F5
            go_ret
            exact ⟨v3, _, rfl, (HP3.out.frm (FrM.of_below (B := 0) (below_drewN nq))).frm F5, E5, F6, fun j hj => by rw [if_neg (by omega)]; exact HKB.out.2.1 j hj, fun j hj => by
              split
              · rename_i e; subst e; rw [HKB.out.1, Nat.sub_self]; omega
              · exact HKB.out.2.2 j (by omega)⟩
          · by_cases hlr : R.length < P.length
            · have gl : decide (R.length < P.length) = true := decide_eq_true hlr
              have r1 : Row (W2.alloc (.cells #[.int .i64 i] 3)) W2.heap.size 3 (iv [(i : Int)]) := row_new rfl
              have r2 : Row ((W2.alloc (.cells #[.int .i64 i] 3)).alloc (.cells #[.slice (some ⟨W2.heap.size, 0, none⟩) 1 1, .slice (some ⟨b2, o2, none⟩) R.length c2] 22)) (W2.heap.size + 1) 22 [.slice (some ⟨W2.heap.size, 0, none⟩) 1 1, .slice (some ⟨b2, o2, none⟩) R.length c2] := row_new (by simp)
              have i1' : IntsAt ((W2.alloc (.cells #[.int .i64 i] 3)).alloc (.cells #[.slice (some ⟨W2.heap.size, 0, none⟩) 1 1, .slice (some ⟨b2, o2, none⟩) R.length c2] 22)) (some ⟨W2.heap.size, 0, none⟩) [(i : Int)] := fun _ => ⟨_, 0, rfl, by simp; omega, fun j hj => by
                obtain rfl : j = 0 := by simpa using hj
                rw [Nat.zero_add, (r1.alloc _).cell 0]; rfl⟩
              have i3 := (i2.alloc (.cells #[.int .i64 i] 3)).alloc (.cells #[.slice (some ⟨W2.heap.size, 0, none⟩) 1 1, .slice (some ⟨b2, o2, none⟩) R.length c2] 22)
              have b3 : Below W2.heap.size W2 ((W2.alloc (.cells #[.int .i64 i] 3)).alloc (.cells #[.slice (some ⟨W2.heap.size, 0, none⟩) 1 1, .slice (some ⟨b2, o2, none⟩) R.length c2] 22)) := by (repeat (first | exact Below.refl _ _ | assumption | (refine Below.setCell ?_ (by first | exact Nat.le_refl _ | omega | (simp; done) | (simp; omega)) _) | (refine Below.trans ?_ (below_drewN _)) | (refine Below.drew ?_) | (refine Below.alloc ?_ (by first | exact Nat.le_refl _ | omega | (simp; done) | (simp; omega)) _) | (refine below_row ?_ (by first | exact Nat.le_refl _ | omega | (simp; done) | (simp; omega)) _)))
              have HCT := Lib.hid (Concat2_any (W2.heap.size + 1) W2.heap.size 0 1 b2 o2 c2 [(i : Int)] R _ (by simp) (by omega) r2 i1' i3)
              clear r1 r2 i1' i3 i2
              go_wp2_with (go_at_call 67; fail)
              refine HCT.out.mono ?_
              rintro e W3 ⟨v3, rfl, o3, b4⟩
              have b5 := b3.trans (b4.mono (by simp; omega))
              have E3 := HE2.out.below b5
              have q3 := q2.below b5
              replace F3 := F3.trans (FrM.of_below b5)
              have p3 : PartV W3 v3 (X.sh i a b) := by
                rw [HS2.out, if_pos (⟨hr, .inr hlr⟩)]
                exact part_own o3
              clear HE2 q2 HS2 HCT o3 b4 b5 b3
              go_wp2
              obtain ⟨D3, hD3, hM3⟩ := E3.mp i hlt
              obtain ⟨d, hd⟩ := part_read p3
              have c1 := E3.rk.cells1.1
              have c9 : W3.cell? ⟨X.k, i, none⟩ = some (.map (some (X.mb i))) := by
                rw [E3.rm.cell, List.getElem?_map, List.getElem?_range hlt]; rfl
              obtain ⟨⟨c5, c6⟩, -⟩ := q3.cells2
              have hcn : cn2 i < maxLen := by
                have h1 := HC.out i (Nat.le_refl _) hlt
                have h2 := HKB.out.1
                rw [Nat.sub_self] at h1
                unfold maxLen
                omega
              have HY := Lib.hid (fun (w5 : World) (n : Nat) h5 h6 => (E3.below (below_drewN n)).store (w' := w5) HHG.out hlt HHE.out (show (W3.drewN n).ownsMap Try.prog 69 slR (X.mb i) (cn2 i) D3 from hD3) (hM3.frm (FrM.of_below (B := 0) (below_drewN n))) hd (p3.frm (FrM.of_below (B := 0) (below_drewN n))) h5 h6)
              have HP3 := Lib.hid p3
              have hkey := key_el HHG.out HHE.out
              clear E3 hM3 p3 q3
              refine wp_region_quiet_tail 6 (by kernel_rfl) (by kernel_rfl) ?_
              simp only [List.take_succ_cons, List.take_zero, List.drop_succ_cons, List.drop_zero]
              repeat go_big_quiet_step ((fail))
              refine wpQuiet_nil ?_
              rintro _ ⟨nq, rfl⟩
              go_wp2_with (at_mapUpdate; refine wpList_mapUpdate_own _ rfl (.tmp 72) (.tmp 73) (.tmp 74) 88 rfl 69 22 K69 Try.underlying88 slR (X.mb i) (cn2 i) D3 rfl (show (W3.drewN nq).ownsMap Try.prog 69 slR (X.mb i) (cn2 i) D3 from hD3) hcn (pv a b) v3 (KE a b) rfl rfl hkey d [] hd ?_; intro w5 m5 g5)
              obtain ⟨E5, F5⟩ := HY.out w5 nq m5 g5
              have F6 := (F3.trans (FrM.of_below (below_drewN nq))).trans F5
              go_ret
              exact ⟨v3, _, rfl, (HP3.out.frm (FrM.of_below (B := 0) (below_drewN nq))).frm F5, E5, F6, fun j hj => by rw [if_neg (by omega)]; exact HKB.out.2.1 j hj, fun j hj => by
                split
                · rename_i e; subst e; rw [HKB.out.1, Nat.sub_self]; omega
                · exact HKB.out.2.2 j (by omega)⟩
            · have gl : decide (R.length < P.length) = false := decide_eq_false hlr
              have p3 : PartV W2 (.slice (some ⟨b1, o1, none⟩) P.length cq) (X.sh i a b) := by
                rw [HS2.out, if_neg (fun h => by rcases h.2 with h | h; omega; exact hlr h)]
                exact .inr ⟨hp0, b1, o1, cq, rfl, i1⟩
              clear HS2 hlr
              go_wp2
              clear gl
              have E3 := HE2.out
              have q3 := q2
              clear HE2 q2 hnn hne l1 l2
              obtain ⟨D3, hD3, hM3⟩ := E3.mp i hlt
              obtain ⟨d, hd⟩ := part_read p3
              have c1 := E3.rk.cells1.1
              have c9 : W2.cell? ⟨X.k, i, none⟩ = some (.map (some (X.mb i))) := by
                rw [E3.rm.cell, List.getElem?_map, List.getElem?_range hlt]; rfl
              obtain ⟨⟨c5, c6⟩, -⟩ := q3.cells2
              have hcn : cn2 i < maxLen := by
                have h1 := HC.out i (Nat.le_refl _) hlt
                have h2 := HKB.out.1
                rw [Nat.sub_self] at h1
                unfold maxLen
                omega
              have HY := Lib.hid (fun (w5 : World) (n : Nat) h5 h6 => (E3.below (below_drewN n)).store (w' := w5) HHG.out hlt HHE.out (show (W2.drewN n).ownsMap Try.prog 69 slR (X.mb i) (cn2 i) D3 from hD3) (hM3.frm (FrM.of_below (B := 0) (below_drewN n))) hd (p3.frm (FrM.of_below (B := 0) (below_drewN n))) h5 h6)
              have HP3 := Lib.hid p3
              have hkey := key_el HHG.out HHE.out
              clear E3 hM3 p3 q3
              refine wp_region_quiet_tail 6 (by kernel_rfl) (by kernel_rfl) ?_
              simp only [List.take_succ_cons, List.take_zero, List.drop_succ_cons, List.drop_zero]
              repeat go_big_quiet_step ((fail))
              refine wpQuiet_nil ?_
              rintro _ ⟨nq, rfl⟩
              go_wp2_with (at_mapUpdate; go_loud (refine wpList_mapUpdate_own _ rfl (.tmp 72) (.tmp 73) (.tmp 74) 88 rfl 69 22 K69 Try.underlying88 slR (X.mb i) (cn2 i) D3 rfl (show (W2.drewN nq).ownsMap Try.prog 69 slR (X.mb i) (cn2 i) D3 from hD3) hcn (pv a b) (.slice (some ⟨b1, o1, none⟩) P.length cq) (KE a b) rfl rfl hkey d [] hd ?_; intro w5 m5 g5))
              obtain ⟨E5, F5⟩ := HY.out w5 nq m5 g5
              have F6 := (F3.trans (FrM.of_below (below_drewN nq))).trans F5
              go_ret
              exact ⟨(.slice (some ⟨b1, o1, none⟩) P.length cq), _, rfl, (HP3.out.frm (FrM.of_below (B := 0) (below_drewN nq))).frm F5, E5, F6, fun j hj => by rw [if_neg (by omega)]; exact HKB.out.2.1 j hj, fun j hj => by
                split
                · rename_i e; subst e; rw [HKB.out.1, Nat.sub_self]; omega
                · exact HKB.out.2.2 j (by omega)⟩
      · have HL2 : Hid (∃ v, PartV (W.alloc (.cells #[.int .i64 a, .int .i64 b] 69)) v (X.sh i a b) ∧ ∀ w', (∃ n, w' = (W.alloc (.cells #[.int .i64 a, .int .i64 b] 69)).drewN n) → (Instr.lookup 88 (.map (some (X.mb i))) (pv a b) true).run Try.prog w' = .ok (.tuple #[v, .bool true]) w') := Lib.hid (by
          obtain ⟨v, d, h2, h3, h4⟩ := HMM.out a b HHE.out hh
          refine ⟨v, h2, ?_⟩
          rintro w' ⟨n, rfl⟩
          obtain ⟨v', h5, ps, h6⟩ := HLK.out n
          rw [h4] at h6
          rw [h5, hh, slR_inj h6 h3])
        obtain ⟨v, hv, hl⟩ := HL2.out
        have HL3 := Lib.hid hl
        clear hh HLK hkey HL2 hl
        go_enter Try.func65, Try.ntmps65
        go_wp2
        refine wp_region_quiet_lit (by kernel_rfl) (by kernel_rfl) ?_
        repeat go_big_quiet_step ((fail))
        refine wpQuiet_nil ?_
        rintro _ ⟨nq, rfl⟩
        go_wp2
        refine wp_region_quiet_lit (by kernel_rfl) (by kernel_rfl) ?_
        repeat (first | ((with_reducible refine (?_ : wpQuiet _ _ _ _ (Oper.mk (some 30) _ _ _ _ _ :: _) _); go_big_quiet_want); refine quiet_lookup 88 (.tmp 28) (.tmp 29) rfl (.map (some (X.mb i))) (pv a b) (.tuple #[v, .bool true]) rfl rfl (fun w' hc => by obtain ⟨k, rfl⟩ := hc; exact HL3.out _ ⟨_, World.drewN_drewN _ _ _⟩) ?_; simp only [Act.put, List.setIfInBounds_toArray, List.set_cons_zero, List.set_cons_succ]; go_big_quiet_on) | go_big_quiet_step ((fail)))
        refine wpQuiet_nil ?_
        rintro _ ⟨nq2, rfl⟩
        go_wp2
        go_ret
        exact ⟨v, cn, rfl, hv.frm (FrM.of_below (B := 0) ((below_drewN nq).trans (below_drewN nq2))), HE.out.below ((below_drewN nq).trans (below_drewN nq2)), FrM.of_below ((b0.trans (below_drewN nq)).trans (below_drewN nq2)), fun _ _ => rfl, fun j _ => Nat.le_add_right _ _⟩
end Go.Proofs.Ytokjdadgdfmffaa
