/- PostsExchanges, walked. -/
import Derived.Test.YtnnaaoobdofooaaUF
import Derived.Deep.DeepCutAuto
namespace Go.Proofs.Ytnnaaoobdofooaa
open Go.RowKit
set_option maxHeartbeats 1000000
set_option maxRecDepth 100000
theorem Tab.cell {V : World} {g c n B : Nat} {cs : List Value} {K : List (List Int)} (h : Tab V g c n B cs K) {j : Nat} (hj : j < n) : ∃ u, cs[j]? = some u ∧ V.cell? ⟨g, j, none⟩ = some u ∧ V.frozen? ⟨g, j, none⟩ = false := by
  obtain ⟨g', d, e, -, -, hc⟩ := own_frm h.own (by omega)
  injection e with e _ _
  injection e with e
  injection e with e
  subst e
  have hl : cs.length = n := by have := h.own.1; omega
  obtain ⟨u, hu⟩ : ∃ u, cs[j]? = some u := ⟨cs[j]'(by omega), List.getElem?_eq_getElem _⟩
  exact ⟨u, hu, hc j u hu, h.heap.2.2.2 j⟩
theorem PostsExchanges_any (n0 : Int) (A : Option Addr) (c : Nat) (L : List (List Int)) (p1 p2 : Int) (w : World) (_hx : L.length ≤ c) (_hc : c ≤ maxLen) (ha : RowsIn w A L) :
    Calls Try.prog 12 #[.int .i64 n0, .slice A L.length c, .agg #[.int .i64 p1, .int .i64 p2]] w fun e w' => e = .returned (.bool true) ∧ Below w.heap.size w w' := by
  have hmm := modI_lt n0 (n := 6) (by omega)
  have HM1 : Hid (∀ W : World, Calls Try.prog 43 #[.int .i64 n0, .int .i64 6] W fun e w' => e = .returned (.int .i64 (modI n0 6)) ∧ W = w') := Lib.hid (fun W => mod_any n0 6 W (by omega) (by omega))
  generalize modI n0 6 = m at *
  obtain ⟨n, hn⟩ : ∃ n, n = m + 2 := ⟨_, rfl⟩
  have hT := tmL_isT L (n := n) (mo := 4) (by omega) (by omega)
  have HTM : Hid (∀ (V : World) (z : Int), z = n → Below w.heap.size w V → Calls Try.prog 44 #[.slice A L.length c, .int .i64 z, .int .i64 4] V fun e w' => ∃ A' c' cs, e = .returned (.slice A' n c') ∧ w'.ownsRow V.heap.size 27 1 (.slice A' n c') n cs ∧ RowsOwn w' V.heap.size cs (tmL L n 4) ∧ Below V.heap.size V w') := Lib.hid (fun V z hz hV => by subst hz; exact tame_any A c L n 4 V (by omega) (by omega) (ha.below hV))
  have hTl : (tmL L n 4).length = n := tmP_len L n 4 n
  have hbd := tm4_bd L n
  generalize tmL L n 4 = T at *
  have hrow : ∀ i, i < n → (getl T i).length = n := fun i hi => by have := hT.row i (by omega); rwa [hTl] at this
  have h1 := modI_lt p1 (n := n) (by omega)
  have h2 := modI_lt p2 (n := n) (by omega)
  have HMA : Hid (∀ (W : World) (z : Int), z = n → Calls Try.prog 43 #[.int .i64 p1, .int .i64 z] W fun e w' => e = .returned (.int .i64 (modI p1 n)) ∧ W = w') := Lib.hid (fun W z hz => by subst hz; exact mod_any p1 n W (by omega) (by omega))
  have HMB : Hid (∀ (W : World) (z : Int), z = n → Calls Try.prog 43 #[.int .i64 p2, .int .i64 z] W fun e w' => e = .returned (.int .i64 (modI p2 n)) ∧ W = w') := Lib.hid (fun W z hz => by subst hz; exact mod_any p2 n W (by omega) (by omega))
  generalize modI p1 n = i at *
  generalize modI p2 n = k0 at *
  have HTB : Hid (∀ (V : World) A c, RowsIn V A T → Calls Try.prog 17 #[.slice A n c] V fun e w' => ∃ A' c' cs, e = .returned (.slice A' n c') ∧ w'.ownsRow V.heap.size 27 1 (.slice A' n c') n cs ∧ RowsOwn w' V.heap.size cs T ∧ Apt cs ∧ Below V.heap.size V w') := Lib.hid (fun V A c hV => by
    have := table_apt A c T V (by unfold maxLen; omega) hV
    rw [tbR_all hT, hTl, show min n 11 = n by omega] at this
    exact this)
  have HTU : Hid (∀ (V : World) A c, RowsAt V A T → Calls Try.prog 45 #[.slice A n c] V fun e w' => ∃ A' c' cs, e = .returned (.slice A' n c') ∧ w'.ownsRow V.heap.size 27 1 (.slice A' n c') n cs ∧ RowsOwn w' V.heap.size cs (trL T) ∧ Below V.heap.size V w') := Lib.hid (fun V A c hV => by
    have := turned_any A c T V hT hV
    rw [hTl] at this
    exact this)
  have HPM : Hid (∀ (V : World) A c (K : List (List Int)), IsT K → K.length = n → RowsAt V A K → Calls Try.prog 18 #[.slice A n c] V fun e w' => e = .returned (.tuple #[.int .i64 (perm K), .int .i64 0]) ∧ Below V.heap.size V w') := Lib.hid (fun V A c K hK hl hV => by
    have := Permanent_yes A c K V hK hV
    rwa [hl] at this)
  have b0 : Below w.heap.size w (w.alloc (.cells #[.int .i64 p1, .int .i64 p2] 36)) := (Below.refl _ _).alloc (Nat.le_refl _) _
  have q0 : Row (w.alloc (.cells #[.int .i64 p1, .int .i64 p2] 36)) w.heap.size 36 [.int .i64 p1, .int .i64 p2] := row_new rfl
  have HN := Lib.hid hn
  have hn7 : 2 ≤ n ∧ n ≤ 7 := by omega
  have HT := Lib.hid hT
  have HTL := Lib.hid hTl
  have HRO := Lib.hid hrow
  have HBD := Lib.hid hbd
  clear hn ha hT hTl hrow hbd
  go_enter Try.func12, Try.ntmps12
  go_wp2_with (first | (go_at_call 43; refine (HM1.out _).mono ?_; rintro e w1 ⟨rfl, rfl⟩) | (go_at_call 44; fail))
  refine (HTM.out _ _ (by have := HN.out; omega) b0).mono ?_
  rintro e w2 ⟨A2, c2, cs2, rfl, o2, R2, b2⟩
  have I2 := Lib.hid (rows_in R2 o2)
  obtain ⟨bA, oA, hA2, hbA, -⟩ := I2.out (by have := HTL.out; omega)
  subst hA2
  have C2 := Lib.hid (rows_at R2 o2)
  have HX : Hid (∀ V : World, Below w2.heap.size w2 V → ∀ q, q < n → ∃ B c, V.cell? ⟨bA, oA + q, none⟩ = some (.slice B n c) ∧ n ≤ c ∧ c ≤ maxLen ∧ IntsAt V B (getl T q)) := Lib.hid (fun V hV q hq => by
    obtain ⟨b, o, e, -, hcs⟩ := (I2.out.below hV) (by have := HTL.out; omega)
    injection e with e
    injection e with e1 e2
    subst e1 e2
    obtain ⟨B, c, h1, h2, h3, h4⟩ := hcs q (by have := HTL.out; omega)
    rw [HRO.out q hq] at h1 h2
    exact ⟨B, c, h1, h2, h3, h4⟩)
  have HLI : Hid (∀ (V : World) B c q, q < n → n ≤ c → c ≤ maxLen → IntsAt V B (getl T q) → Calls Try.prog 34 #[.slice B n c] V fun e w' => ∃ A' c', e = .returned (.slice A' n c') ∧ w'.ownsRow V.heap.size 3 1 (.slice A' n c') (getl T q).length (iv (getl T q)) ∧ Below V.heap.size V w') := Lib.hid (fun V B c q hq h1 h2 h3 => by
    have hl := HRO.out q hq
    have := list_copy_any B c (getl T q) V (by omega) h2 h3
    rw [hl] at this
    refine this.mono ?_
    rintro e w' ⟨v, n', rfl, o, b⟩
    rw [List.take_of_length_le (by omega)] at o
    obtain ⟨A', c', rfl, hn', -, -⟩ := own_intsI o
    subst hn'
    exact ⟨A', c', by rw [hl], by rw [hl] at o ⊢; exact o, b⟩)
  have z2 := Below.refl w2.heap.size w2
  obtain ⟨⟨cA0, cA1⟩, -⟩ := (q0.below b2).cells2
  replace b2 := b0.trans (b2.mono b0.size)
  clear HTM R2 o2 HM1 q0 b0
  have HQA : Hid (∀ nq : Nat, Calls Try.prog 43 #[.int .i64 p1, .int .i64 (2 + (m : Int))] (w2.drewN nq) fun e w' => e = .returned (.int .i64 i) ∧ ∃ n2, w' = (w2.drewN nq).drewN n2) := Lib.hid (fun nq => (HMA.out _ _ (by have := HN.out; omega)).mono (by rintro e w8 ⟨rfl, rfl⟩; exact ⟨rfl, 0, rfl⟩))
  have HQB : Hid (∀ nq : Nat, Calls Try.prog 43 #[.int .i64 p2, .int .i64 (2 + (m : Int))] (w2.drewN nq) fun e w' => e = .returned (.int .i64 k0) ∧ ∃ n2, w' = (w2.drewN nq).drewN n2) := Lib.hid (fun nq => (HMB.out _ _ (by have := HN.out; omega)).mono (by rintro e w8 ⟨rfl, rfl⟩; exact ⟨rfl, 0, rfl⟩))
  go_wp2_with (go_at_call 43; fail)
  refine wp_region_quiet_lit (by kernel_rfl) (by kernel_rfl) ?_
  repeat go_big_quiet_step (((first | with_reducible exact Calls.quiet_of (HQA.out _) | with_reducible exact Calls.quiet_of (HQB.out _))))
  refine wpQuiet_nil ?_
  rintro _ ⟨nq, rfl⟩
  clear HQA HQB HMA HMB cA0 cA1
  have z3 : Below w2.heap.size w2 (w2.drewN nq) := below_drewN nq
  generalize w2.drewN nq = W3 at *
  simp only [Exit.then]
  rename_i hKK
  refine hKK _ _ ?_
  clear hKK
  refine wp_seq_k (fun K9 hK9 => ?_)
  go_cut [9] (fun kv W => ∃ k : Nat, k < n ∧ i ≠ k ∧ kv = .int .i64 k ∧ W = W3)
  case first =>
    by_cases e : i = k0
    · have g1 : ((i : Int) == (k0 : Int)) = true := by rw [beq_iff_eq]; omega
      have hnm : (n : Int) = 2 + (m : Int) := by have := HN.out; omega
      go_wp2
      go_meet
      case rel =>
        refine ⟨(k0 + 1) % n, Nat.mod_lt _ (by omega), ?_, by rw [← hnm]; rfl, rfl⟩
        by_cases hlt : k0 + 1 < n
        · rw [Nat.mod_eq_of_lt hlt]; omega
        · rw [show k0 + 1 = n by omega, Nat.mod_self]; omega
    · have g1 : ((i : Int) == (k0 : Int)) = false := by rw [beq_eq_false_iff_ne]; omega
      go_wp2
      go_meet
      case rel => exact ⟨k0, h2, e, rfl, rfl⟩
  obtain ⟨k, hk, hik, rfl, rfl⟩ := hcut
  clear h2
  go_wp2_with (go_at_call 17; fail)
  refine (HTB.out _ (some ⟨bA, oA, none⟩) c2 (I2.out.below z3)).mono ?_
  rintro e w4 ⟨A4, c4, cs4, rfl, o4, R4, P4, b4⟩
  have z4 := z3.trans (b4.mono z3.size)
  obtain ⟨g4, d4, hA4, -, -, -⟩ := own_frm o4 (by omega)
  injection hA4 with hA4 _ hd4
  subst hA4 hd4
  have T4 : Tab w4 g4 c4 n wc.heap.size cs4 T := ⟨o4, R4⟩
  have K4 : ∀ (j : Nat) (v : Value) (g : Nat), cs4[j]? = some v → v.ownBlock = some g → g < w4.heap.size := fun j v g h1 h2 => (rows_blk R4 h1 h2).2
  go_wp2_with (go_at_call 17; fail)
  refine (HTB.out _ (some ⟨bA, oA, none⟩) c2 (I2.out.below z4)).mono ?_
  rintro e w5 ⟨A5, c5, cs5, rfl, o5, R5, P5, b5⟩
  have z5 := z4.trans (b5.mono z4.size)
  obtain ⟨g5, d5, hA5, -, -, -⟩ := own_frm o5 (by omega)
  injection hA5 with hA5 _ hd5
  subst hA5 hd5
  have T5 : Tab w5 g5 c5 n w4.heap.size cs5 T := ⟨o5, R5⟩
  have K5 : ∀ (j : Nat) (v : Value) (g : Nat), cs5[j]? = some v → v.ownBlock = some g → g < w5.heap.size := fun j v g h1 h2 => (rows_blk R5 h1 h2).2
  go_wp2_with (go_at_call 17; fail)
  refine (HTB.out _ (some ⟨bA, oA, none⟩) c2 (I2.out.below z5)).mono ?_
  rintro e w6 ⟨A6, c6, cs6, rfl, o6, R6, P6, b6⟩
  have z6 := z5.trans (b6.mono z5.size)
  obtain ⟨g6, d6, hA6, -, -, -⟩ := own_frm o6 (by omega)
  injection hA6 with hA6 _ hd6
  subst hA6 hd6
  have T6 : Tab w6 g6 c6 n w5.heap.size cs6 T := ⟨o6, R6⟩
  have hs0 := z3.size
  have hs1 := b4.size
  have hs2 := b5.size
  have hs3 := b6.size
  have hg4a := T4.heap.1
  have hg4b := T4.heap.2.1
  have hg5a := T5.heap.1
  have hg5b := T5.heap.2.1
  have hg6a := T6.heap.1
  replace T4 := (T4.below b5).below b6
  replace T5 := T5.below b6
  have HP5 := Lib.hid P5
  have HK4 := Lib.hid K4
  have HK5 := Lib.hid K5
  clear o4 R4 P4 b4 o5 R5 P5 b5 o6 R6 P6 b6 K4 K5 HTB z3 z4 z5 I2
  -- y[i] = list(x[k])
  obtain ⟨B1, f1, e1, l1, m1, i1⟩ := HX.out _ z6 k hk
  have HL1 := Lib.hid (HLI.out _ B1 f1 k hk l1 m1 i1)
  clear i1
  go_wp2_with (go_at_call 34; fail)
  refine HL1.out.mono ?_
  rintro e w7 ⟨A7, c7, rfl, o7, b7⟩
  have hs4 := b7.size
  replace T4 := T4.below b7
  replace T5 := T5.below b7
  replace T6 := T6.below b7
  obtain ⟨u4, -, hc4, hf4⟩ := T4.cell h1
  have N4 := T4.setRow (j := i) (own_mono o7 (show wc.heap.size ≤ w6.heap.size by omega))
  have N5 := T5.farRow (j := i) (v := .slice A7 n c7) T4 (by omega)
  have N6 := T6.farRow (j := i) (v := .slice A7 n c7) T4 (by omega)
  have y7 : Below w2.heap.size w2 (w7.setCell ⟨g4, i, none⟩ (.slice A7 n c7)) := (z6.trans (b7.mono z6.size)).setCell (by dsimp only; omega) _
  have L4 : Hid (∀ (j : Nat) (v : Value) (g : Nat), (cs4.set i (.slice A7 n c7))[j]? = some v → v.ownBlock = some g → g < w4.heap.size ∨ w6.heap.size ≤ g) := Lib.hid (fun j v g hj hg => by
    rw [List.getElem?_set] at hj
    by_cases e : i = j
    · rw [if_pos e] at hj
      split at hj
      · injection hj with hj
        subst hj
        exact Or.inr (own_ge o7 hg).1
      · cases hj
    · rw [if_neg e] at hj
      exact Or.inl (HK4.out j v g hj hg))
  have hsz7 : (w7.setCell ⟨g4, i, none⟩ (.slice A7 n c7)).heap.size = w7.heap.size := by simp [World.setCell]
  obtain ⟨V7, hV7⟩ : ∃ V7, w7.setCell ⟨g4, i, none⟩ (.slice A7 n c7) = V7 := ⟨_, rfl⟩
  rw [hV7] at N4 N5 N6 y7 hsz7
  have HV7 := Lib.hid hV7
  clear hV7 T4 T5 T6 HK4 o7 b7 z6 HL1 e1
  -- y[k] = list(x[i])
  obtain ⟨B2, f2, e2, l2, m2, i2⟩ := HX.out _ y7 i h1
  have HL2 := Lib.hid (HLI.out _ B2 f2 i h1 l2 m2 i2)
  rw [← HV7.out] at e2
  clear i2
  go_wp2_with (go_at_call 34; fail)
  rw [HV7.out]
  refine HL2.out.mono ?_
  rintro e w8 ⟨A8, c8, rfl, o8, b8⟩
  have hs5 := b8.size
  clear e2 HL2 hc4 hf4 HV7
  replace N4 := N4.below b8
  replace N5 := N5.below b8
  replace N6 := N6.below b8
  obtain ⟨u8, -, hc8, hf8⟩ := N4.cell hk
  have P4 : Tab (w8.setCell ⟨g4, k, none⟩ (.slice A8 n c8)) g4 c4 n wc.heap.size ((cs4.set i (.slice A7 n c7)).set k (.slice A8 n c8)) (exY T i k) := N4.setRow (j := k) (own_mono o8 (show wc.heap.size ≤ V7.heap.size by omega))
  have P5 := N5.farRow (j := k) (v := .slice A8 n c8) N4 (by omega)
  have P6 := N6.farRow (j := k) (v := .slice A8 n c8) N4 (by omega)
  have y8 : Below w2.heap.size w2 (w8.setCell ⟨g4, k, none⟩ (.slice A8 n c8)) := (y7.trans (b8.mono y7.size)).setCell (by dsimp only; omega) _
  have M4 : Hid (∀ (j : Nat) (v : Value) (g : Nat), ((cs4.set i (.slice A7 n c7)).set k (.slice A8 n c8))[j]? = some v → v.ownBlock = some g → g < w4.heap.size ∨ w6.heap.size ≤ g) := Lib.hid (fun j v g hj hg => by
    rw [List.getElem?_set] at hj
    by_cases e : k = j
    · rw [if_pos e] at hj
      split at hj
      · injection hj with hj
        subst hj
        have := (own_ge o8 hg).1
        omega
      · cases hj
    · rw [if_neg e] at hj
      exact L4.out j v g hj hg)
  obtain ⟨gr, cr, cur, hcs, hgB, hgh, -, -, -⟩ := P5.rows.put HP5.out (r := i) (k := 0) (by have := HTL.out; omega) (by rw [HRO.out i h1]; omega)
  rw [HRO.out i h1] at hcs
  have hgr := HK5.out i _ gr hcs rfl
  obtain ⟨u5, hu5, hc5, -⟩ := P5.cell h1
  rw [hcs] at hu5
  injection hu5 with hu5
  subst hu5
  have HCS := Lib.hid hcs
  have HP4 := Lib.hid P4
  have HP6 := Lib.hid P6
  have HQ5 := Lib.hid P5
  have HA0 : Hid (AdAt T T n i k 0) := Lib.hid (AdAt.start HTL.out HRO.out)
  generalize (cs4.set i (.slice A7 n c7)).set k (.slice A8 n c8) = csY at *
  clear N4 N5 N6 L4 P4 P5 P6 hcs hgh cur o8 b8 y7 HK5 hsz7
  have HL9 := HLI
  clear HLI
  go_wp2
  go_loopw [14] (fun v wr => ∃ (q : Nat) (K : List (List Int)), q ≤ n ∧ v = .int .i64 q ∧ Hid (AdAt T K n i k q) ∧ Hid (Tab wr g5 c5 n w4.heap.size cs5 K) ∧ Hid (Tab wr g4 c4 n wc.heap.size csY (exY T i k)) ∧ Hid (Tab wr g6 c6 n w5.heap.size cs6 T) ∧ Below w2.heap.size w2 wr) (fun v _ => n - (intOf v).toNat)
  case atStart => exact ⟨0, T, by omega, rfl, HA0, HQ5, HP4, HP6, y8⟩
  case round =>
    clear HA0 HQ5 HP4 HP6 y8 hc8 hf8 hc5
    obtain ⟨q, K, hq, rfl, HA, HQ5, HP4, HP6, y8⟩ := hrel
    have hnm : (n : Int) = 2 + (m : Int) := by have := HN.out; omega
    by_cases hqn : q < n
    · have g1 : decide ((q : Int) < 2 + (m : Int)) = true := decide_eq_true (by omega)
      obtain ⟨g', c', cur, hcs', -, hgh, hcell, hfz, -⟩ := HQ5.out.rows.put HP5.out (r := i) (k := q) (by have := HA.out.len; omega) (by rw [HA.out.row i h1]; exact hqn)
      rw [HA.out.row i h1] at hcs'
      have hee := HCS.out.symm.trans hcs'
      injection hee with e1
      injection e1 with e1 e2 e3
      injection e1 with e1
      injection e1 with e1
      subst e1
      obtain ⟨Bi, fi, ei, -, -, ii⟩ := HX.out wr y8 i h1
      obtain ⟨bi, oi, rfl, -, ci⟩ := ii (by rw [HRO.out i h1]; omega)
      have vi := ci q (by rw [HRO.out i h1]; exact hqn)
      obtain ⟨Bk, fk, ek, -, -, ik⟩ := HX.out wr y8 k hk
      obtain ⟨bk, ok, rfl, -, ck⟩ := ik (by rw [HRO.out k hk]; omega)
      have vk := ck q (by rw [HRO.out k hk]; exact hqn)
      rw [show geti (getl T i) q = gat T i q from rfl] at vi
      rw [show geti (getl T k) q = gat T k q from rfl] at vk
      obtain ⟨xi0, xi4⟩ := HBD.out i q
      obtain ⟨xk0, xk4⟩ := HBD.out k q
      have HNX := Lib.hid (HA.out.next h1 hqn)
      clear ii ik ci ck hcs' e2 e3 hgh
      generalize gat T i q = xi at *
      generalize gat T k q = xk at *
      generalize geti (getl K i) q = x0 at *
      go_wp2
      refine wp_region_quiet_tail 18 (by kernel_rfl) (by kernel_rfl) ?_
      simp only [List.take_succ_cons, List.take_zero, List.drop_succ_cons, List.drop_zero]
      repeat go_big_quiet_step ((fail))
      refine wpQuiet_nil ?_
      rintro _ ⟨nq, rfl⟩
      go_wp2
      replace HQ5 := Lib.hid (HQ5.out.below (below_drewN nq))
      replace HP4 := Lib.hid (HP4.out.below (below_drewN nq))
      replace HP6 := Lib.hid (HP6.out.below (below_drewN nq))
      replace y8 := y8.trans (below_drewN nq)
      obtain ⟨g', c', cur, hcs', hgB', hgh, -, -, HPUT⟩ := HQ5.out.rows.put HP5.out (r := i) (k := q) (by have := HA.out.len; omega) (by rw [HA.out.row i h1]; exact hqn)
      rw [HA.out.row i h1] at hcs'
      have hee := HCS.out.symm.trans hcs'
      injection hee with e1
      injection e1 with e1 e2 e3
      injection e1 with e1
      injection e1 with e1
      subst e1
      exact ⟨⟨q + 1, setT K i q (xi + xk), by omega, by go_num, HNX, Lib.hid ⟨own_far_t HQ5.out.own (by decide) hgh, HPUT _⟩, Lib.hid (HP4.out.farNum hgh (fun j v h e => by
          have := M4.out j v gr h e
          omega)), Lib.hid (HP6.out.farNum hgh (fun j v h e => by
          have := (rows_blk HP6.out.rows h e).1
          omega)), y8.setCell (by dsimp only; omega) _⟩, by simp [intOf]; omega⟩
    · have hqq : q = n := by omega
      subst hqq
      have g1 : decide ((q : Int) < 2 + (m : Int)) = false := decide_eq_false (by omega)
      have hKT := HA.out.isT (by omega) HBD.out
      have hpK := ad_perm HT.out HTL.out h1 hk HA.out hKT
      have hKl := HA.out.len
      obtain ⟨hE1, hE2, -⟩ := exE_isT HT.out (i := i) (k := k) (by have := HTL.out; omega) (by have := HTL.out; omega)
      obtain ⟨hY1, hY2, -⟩ := exY_isT HT.out (i := i) (k := k) (by have := HTL.out; omega) (by have := HTL.out; omega)
      have hpY := exY_perm HT.out (i := i) (k := k) (by have := HTL.out; omega) (by have := HTL.out; omega) hik
      have hpT := perm_turn q T HT.out HTL.out
      obtain ⟨bt0, bt1⟩ := perm_bdd HT.out
      obtain ⟨be0, be1⟩ := perm_bdd hE1
      have HQT := Lib.hid (fun (V : World) A c hV => HPM.out V A c T HT.out HTL.out hV)
      have HQR := Lib.hid (fun (V : World) A c hV => HPM.out V A c (trL T) (trL_isT HT.out) (by rw [trP_len]; exact HTL.out) hV)
      have HQY := Lib.hid (fun (V : World) A c hV => HPM.out V A c (exY T i k) hY1 (by rw [hY2]; exact HTL.out) hV)
      have HQK := Lib.hid (fun (V : World) A c hV => HPM.out V A c K hKT hKl hV)
      have HQE := Lib.hid (fun (V : World) A c hV => HPM.out V A c (exE T i k) hE1 (by rw [hE2]; exact HTL.out) hV)
      rw [hpT] at HQR
      rw [hpY] at HQY
      rw [hpK] at HQK
      obtain ⟨B3, f3, e3, l3, m3, i3⟩ := HX.out _ y8 k hk
      obtain ⟨u6, -, hc6, hf6⟩ := HP6.out.cell h1
      have HLL : Hid (Calls Try.prog 34 #[.slice B3 q f3] wr fun e w' => ∃ A' c', e = .returned (.slice A' q c') ∧ w'.ownsRow wr.heap.size 3 1 (.slice A' q c') (getl T k).length (iv (getl T k)) ∧ Below wr.heap.size wr w') := Lib.hid (HL9.out wr B3 f3 k hk l3 m3 i3)
      clear hKT hpK hKl hE1 hE2 hY1 hY2 hpY hpT HPM i3 HCS HP5 M4 HA
      generalize perm T = pt at *
      generalize perm (exE T i k) = pe at *
      go_wp2_with (go_at_call 34; fail)
      refine HLL.out.mono ?_
      rintro e w9 ⟨A9, c9, rfl, o9, b9⟩
      have hs9 := b9.size
      have hg6w := HP6.out.heap.2.1
      have D5 := HQ5.out.below b9
      have D4 := HP4.out.below b9
      have D6 := HP6.out.below b9
      clear hc6 hf6 e3 HLL
      obtain ⟨u6, -, hc6, hf6⟩ := D6.cell h1
      have Z6 : Tab (w9.setCell ⟨g6, i, none⟩ (.slice A9 q c9)) g6 c6 q w5.heap.size (cs6.set i (.slice A9 q c9)) (exE T i k) := D6.setRow (j := i) (own_mono o9 (show w5.heap.size ≤ wr.heap.size by omega))
      have Z5 := D5.farRow (j := i) (v := .slice A9 q c9) D6 (by omega)
      have Z4 := D4.farRow (j := i) (v := .slice A9 q c9) D6 (by omega)
      have y9 : Below w2.heap.size w2 (w9.setCell ⟨g6, i, none⟩ (.slice A9 q c9)) := (y8.trans (b9.mono y8.size)).setCell (by dsimp only; omega) _
      have HZ6 := Lib.hid Z6.at
      have HZ5 := Lib.hid Z5.at
      have HZ4 := Lib.hid Z4.at
      have hkq : i < q := h1
      clear D4 D5 D6 Z4 Z5 Z6 HQ5 HP4 HP6 y8 b9 o9
      go_wp2_with (go_at_call 18; fail)
      obtain ⟨V9, hV9⟩ : ∃ V9, w9.setCell ⟨g6, i, none⟩ (.slice A9 q c9) = V9 := ⟨_, rfl⟩
      rw [hV9] at y9 HZ4 HZ5 HZ6 ⊢
      clear hV9 hc6 hf6
      have t0 := Below.refl V9.heap.size V9
      have HC9 := Lib.hid (C2.out.below y9)
      refine (HQT.out _ _ _ HC9.out).mono ?_
      rintro e x1 ⟨rfl, t1⟩
      go_wp2_with (go_at_call 45; fail)
      refine (HTU.out _ _ _ (HC9.out.below t1)).mono ?_
      rintro e x2 ⟨A10, c10, cs10, rfl, o10, R10, t2⟩
      have C10 := rows_at R10 o10
      replace t2 := t1.trans (t2.mono t1.size)
      clear o10 R10
      go_wp2_with (go_at_call 18; fail)
      refine (HQR.out _ _ _ C10).mono ?_
      rintro e x3 ⟨rfl, t3⟩
      replace t3 := t2.trans (t3.mono t2.size)
      clear C10
      go_wp2_with (go_at_call 18; fail)
      refine (HQY.out _ _ _ (HZ4.out.below t3)).mono ?_
      rintro e x4 ⟨rfl, t4⟩
      replace t4 := t3.trans (t4.mono t3.size)
      go_wp2_with (go_at_call 18; fail)
      refine (HQK.out _ _ _ (HZ5.out.below t4)).mono ?_
      rintro e x5 ⟨rfl, t5⟩
      replace t5 := t4.trans (t5.mono t4.size)
      go_wp2_with (go_at_call 18; fail)
      refine (HQE.out _ _ _ (HZ6.out.below t5)).mono ?_
      rintro e x6 ⟨rfl, t6⟩
      replace t6 := t5.trans (t6.mono t5.size)
      have gx : (pt == pt) = true := by simp
      have gy : (pt + pe == pt + pe) = true := by simp
      have hsum0 : 0 ≤ pt + pe := by omega
      have hsum1 : pt + pe ≤ 25305686468697600 := by omega
      replace t6 := b2.trans ((y9.trans (t6.mono y9.size)).mono b2.size)
      clear t0 t1 t2 t3 t4 t5 y9 HC9 HQT HQR HQY HQK HQE HZ4 HZ5 HZ6 HTU C2 HX b2 z2 HL9
      go_wp2_with (go_at_call 21; refine (awake_any _).mono ?_; rintro e w5 ⟨rfl, b5⟩; replace t6 := t6.trans (b5.mono t6.size); clear b5)
      go_ret
      exact ⟨rfl, t6⟩
end Go.Proofs.Ytnnaaoobdofooaa
