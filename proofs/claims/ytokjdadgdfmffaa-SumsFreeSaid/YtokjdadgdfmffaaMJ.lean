/- The reference's First, walked. -/
import Derived.Test.YtokjdadgdfmffaaMH
namespace Go.Proofs.Ytokjdadgdfmffaa
open Go.RowKit
set_option maxHeartbeats 4000000
set_option maxRecDepth 100000
section
variable {P : Program}
theorem wp_region_class_all {C : World → Prop} {id : Nat} {R : Exit → Act → World → Prop} {a : Act} {w : World} {l : List Oper} (hm : P.follows .mixedOrders = true) (hB : Region.lexB .any l.toArray = true)
    (hC : C { w with drawn := w.drawn + 1 })
    (h : wpQuiet P l.toArray C (fun a' => ∀ w', C w' → R .normal a' w') l a) : (Code.region id l.toArray true).wp P R a w := by
  simp only [Region.lexB, Bool.and_eq_true] at hB
  refine wp_region_any hm (wpAny_of_quiet (C := C) (Q := fun a' => ∀ w', C w' → R .normal a' w') (fun _ w' hw' h => h w' hw') _ _ _ _ hC ?_)
  have := wpAnyQ_lex (C := C) (md := .any) hB.1 l 0 (Array.replicate l.toArray.size false) a (by simp) (by simpa using hB.2) h
  simpa using this
end
/-- What First hands back: best is farN for none. -/
def FirR (best : Nat) (G : List Int) (w : World) (e : Ending) (w' : World) : Prop :=
  (farN ≤ best → e = .returned (.tuple #[.slice none 0 0, .bool false]) ∧ Below w.heap.size w w') ∧ (best < farN → ∃ v, e = .returned (.tuple #[v, .bool true]) ∧ w'.ownsRow w.heap.size 3 1 v G.length (iv G) ∧ Below w.heap.size w w')
theorem RefFirst_walk (A B C : Option Addr) (cg cl cx S m n q0 ls N X gl : Nat) (es : List (Int × Int)) (best : Nat) (R : List Int) (w : World) (hm : 1 ≤ m) (hn : 1 ≤ n) (hS : S ≤ 144) (hS1 : 1 ≤ S) (hq0 : q0 < S) (hN : es.length = N) (hN60 : N ≤ 60) (hls : ls ≤ 1) (HBE : Hid ((ls = 0 → best = szN m n es q0) ∧ (ls = 1 → best = nzN m n es q0))) (HRE : Hid (R = gdN m n 0 es q0 best))
    (HLT : Hid (∀ q i, i < N → lsN m n q (es.getD i (0, 0)) < S))
    (HSZ : Hid (∀ V, Below w.heap.size w V → Calls Try.prog 42 #[.slice A gl cg] V fun e w' => e = .returned (.int .i64 (S : Nat)) ∧ V = w'))
    (HCD : Hid (∀ V, Below w.heap.size w V → Calls Try.prog 52 #[.slice A gl cg, .slice C X cx] V fun e w' => e = .returned (.int .i64 (q0 : Nat)) ∧ Below V.heap.size V w'))
    (HLR : Hid (∀ i, i < N → ∃ bB oB Bx lx cx, B = some ⟨bB, oB, none⟩ ∧ (∀ V, Below w.heap.size w V → V.cell? ⟨bB, oB + i, none⟩ = some (.slice Bx lx cx)) ∧ ∀ V q, Below w.heap.size w V → q < S → Calls Try.prog 51 #[.slice A gl cg, .int .i64 (q : Nat), .slice Bx lx cx] V fun e w' => e = .returned (.int .i64 (lsN m n q (es.getD i (0, 0)) : Nat)) ∧ Below V.heap.size V w')) :
    Calls Try.prog 21 #[.slice A gl cg, .slice B N cl, .slice C X cx, .int .i64 ls] w (FirR best R w) := by
  obtain ⟨j0, ji, jz0, jz1, jz2⟩ := info_parts info3
  have hmt := make_tabI (N + 1) (by omega) w
  rw [Int.natCast_add, Int.natCast_one] at hmt
  have t0 := TabI.new (W := w) S m n es rfl
  rw [hN] at t0
  have b0 : Below w.heap.size w (w.alloc (.cells (List.replicate (N + 1) (Value.slice none 0 0)).toArray 22)) := (Below.refl _ w).alloc (Nat.le_refl _) _
  have HMI := Lib.hid (fun W => make_intI S (by omega) W)
  have HDR : Hid (∀ i, i < N → es.drop i = es.getD i (0, 0) :: es.drop (i + 1)) := Lib.hid (fun i hi => by rw [List.drop_eq_getElem_cons (by omega), List.getD_eq_getElem?_getD, List.getElem?_eq_getElem (by omega)]; rfl)
  have HDN : Hid (es.drop N = []) := Lib.hid (by rw [← hN]; exact List.drop_length)
  have HSC : Hid (∀ i c, i < N → szN m n (es.drop i) c = min (szN m n (es.drop (i + 1)) c) (1 + szN m n (es.drop (i + 1)) (lsN m n c (es.getD i (0, 0))))) := Lib.hid (fun i c hi => by rw [HDR.out i hi, szN_cons hm hn])
  have HSN : Hid (∀ c, szN m n (es.drop N) c = if c = 0 then 0 else farN) := Lib.hid (fun c => by rw [HDN.out, szN_nil hn])
  have HNC : Hid (∀ i c, i < N → nzN m n (es.drop i) c = min (nzN m n (es.drop (i + 1)) c) (1 + szN m n (es.drop (i + 1)) (lsN m n c (es.getD i (0, 0))))) := Lib.hid (fun i c hi => by rw [HDR.out i hi, nzN_cons hm hn])
  have HNN : Hid (∀ c, nzN m n (es.drop N) c = farN) := Lib.hid (fun c => by rw [HDN.out]; rfl)
  have HGC : Hid (∀ i c r, i < N → r ≠ 0 → gdN m n i (es.drop i) c r = if 1 + szN m n (es.drop (i + 1)) (lsN m n c (es.getD i (0, 0))) = r then (i : Int) :: gdN m n (i + 1) (es.drop (i + 1)) (lsN m n c (es.getD i (0, 0))) (r - 1) else gdN m n (i + 1) (es.drop (i + 1)) c r) := Lib.hid (fun i c r hi hr => by rw [HDR.out i hi, gdN_cons hm hn _ _ _ _ _ hr])
  have HGN : Hid (∀ c r, gdN m n N (es.drop N) c r = []) := Lib.hid (fun c r => by rw [HDN.out]; rfl)
  have HGZ : Hid (∀ i c, gdN m n i (es.drop i) c 0 = []) := Lib.hid (fun i c => gdN_zero i _ c)
  have HLE := Lib.hid (fun i c => szN_le (m := m) (n := n) (es.drop i) c)
  have HNL := Lib.hid (fun i c => nzN_le (m := m) (n := n) (es.drop i) c)
  have HEN := Lib.hid hN
  have hf : farN = 1099511627776 := rfl
  rw [hf] at HLE HNL HNN HSN
  clear hf hN
  go_enter Try.func21, Try.ntmps21
  go_wp2
  clear hmt
  go_loopw [12] (fun i wr => ∃ (j B : Nat) (x : Int), x + 1 = (j : Int) ∧ j ≤ N + 1 ∧ i = .int .i64 x ∧ TabI wr w.heap.size B S m n es j ∧ Below w.heap.size w wr) (fun i _ => (intOf i + 1).toNat)
  case atStart => exact ⟨N + 1, _, N, by omega, by omega, rfl, t0, b0⟩
  case round =>
    clear t0 b0
    obtain ⟨j, Bk, x, hx, hj, rfl, t0, b0⟩ := hrel
    by_cases hlt : 0 ≤ x
    · obtain ⟨i, rfl⟩ := Int.eq_ofNat_of_zero_le hlt
      obtain rfl : j = i + 1 := by omega
      clear hx hlt
      have hmi := HMI.out wr
      have hB : Bk ≤ wr.heap.size := by obtain ⟨_, _, _, _, h, _⟩ := t0; exact h
      have hG : w.heap.size ≤ Bk := by obtain ⟨_, _, _, h, _, _⟩ := t0; omega
      have t1 := t0.below (((Below.refl Bk wr).alloc hB (.cells (iv (List.replicate S 0)).toArray 3)))
      have b1 := b0.alloc (Nat.le_trans hG hB) (.cells (iv (List.replicate S 0)).toArray 3)
      have r1 : Row (wr.alloc (.cells (iv (List.replicate S 0)).toArray 3)) wr.heap.size 3 (iv (pwN m n S es i 0)) := by rw [pwN_zero]; exact row_new rfl
      have HSZ1 := Lib.hid (HSZ.out wr b0)
      have HPS := Lib.hid (fun c (hc : c < S) => pwN_set (m := m) (n := n) es i hc)
      have HPL := Lib.hid (fun c => pwN_len m n S es i c)
      have HPA := Lib.hid (pwN_all m n S es i)
      go_wp2_with (go_at_call 42; (with_reducible refine HSZ1.out.mono ?_); rintro e w2 ⟨rfl, rfl⟩)
      clear hmi t0 b0 HSZ1
      generalize hW1 : World.alloc _ _ = W1 at *
      clear hW1
      have hg0 : Bk ≤ (wr.heap.size) := hB
      generalize wr.heap.size = g0 at *
      go_loopw [14] (fun v wr => ∃ c : Nat, c ≤ S ∧ v = .int .i64 c ∧ Row wr g0 3 (iv (pwN m n S es i c)) ∧ TabI wr w.heap.size Bk S m n es (i + 1) ∧ Below w.heap.size w wr) (fun v _ => S - (intOf v).toNat)
      case atStart => exact ⟨0, by omega, rfl, r1, t1, b1⟩
      case round =>
        clear r1 t1 b1
        obtain ⟨c, hc, rfl, r1, t1, b1⟩ := hrel
        by_cases hcS : c < S
        · have g1 : decide ((c : Int) < (S : Int)) = true := decide_eq_true (by omega)
          have e1 := ivC r1 (i := c) (by rw [HPL.out]; exact hcS)
          have f1 := r1.free c
          have HPS1 := Lib.hid (HPS.out c hcS)
          have r2 := r1.set c (.int .i64 1099511627776)
          have t2 := t1.far (p := ⟨g0, c, none⟩) hg0 (.int .i64 1099511627776)
          have b2 := b1.setCell (p := ⟨g0, c, none⟩) (Nat.le_trans hG hg0) (.int .i64 1099511627776)
          have HSET : Hid (∀ v : Int, ((iv (pwN m n S es i c)).set c (.int .i64 1099511627776)).set c (.int .i64 v) = iv ((pwN m n S es i c).set c v)) := Lib.hid (fun v => by rw [List.set_set, iv_setL])
          by_cases hiN : i < N
          · have g2 : decide ((i : Int) < (N : Int)) = true := decide_eq_true (by omega)
            obtain ⟨bB, oB, Bx, lx, cx2, hBe, HRC, HLS⟩ := HLR.out i hiN
            subst hBe
            have hnx := HLT.out c i hiN
            have HSC1 := Lib.hid (HSC.out i c hiN)
            go_wp2
            generalize hW2 : World.setCell wr ⟨g0, c, none⟩ (.int .i64 1099511627776) = W2 at *
            clear hW2 r1 t1 b1 e1 f1
            obtain ⟨g, k1, k2, k3, k4⟩ := t2.get (j := i + 1) (Nat.le_refl _) (by rw [HEN.out]; omega)
            have x1 := ivC k4 (i := c) (by rw [rwN_len]; exact hcS)
            rw [rwN_get _ _ hcS] at x1
            have x2 := ivC k4 (i := lsN m n c (es.getD i (0, 0))) (by rw [rwN_len]; exact hnx)
            rw [rwN_get _ _ hnx] at x2
            have x3 := HRC W2 b2
            have HC1 := Lib.hid (fun u : After W2 => HLS u.v c (b2.trans (u.h.mono b2.size)) hcS)
            have l1 := HLE.out (i + 1) c
            have l2 := HLE.out (i + 1) (lsN m n c (es.getD i (0, 0)))
            generalize lsN m n c (es.getD i (0, 0)) = nx at *
            generalize szN m n (es.drop (i + 1)) c = y1 at *
            generalize szN m n (es.drop (i + 1)) nx = y2 at *
            have hmn : (if 1 + (y2 : Int) < (y1 : Int) then 1 + (y2 : Int) else (y1 : Int)) = ((min y1 (1 + y2) : Nat) : Int) := by split <;> omega
            have hmn2 : min y1 (1 + y2) ≤ 1099511627776 := by omega
            rw [← HSC1.out] at hmn hmn2
            generalize hsz : szN m n (es.drop i) c = z at *
            clear hsz
            have d1 := fun u : After W2 => After.cell x1 u
            have d2 := fun u : After W2 => After.cell x2 u
            have d3 := fun u : After W2 => After.cell x3 u
            have d4 := fun u : After W2 => After.cell k3 u
            have hB2 : Bk ≤ W2.heap.size := by obtain ⟨_, _, _, _, h, _⟩ := t2; exact h
            have HR2 := Lib.hid r2
            have HT2 := Lib.hid t2
            clear x1 x2 x3 k3 k4 HRC HLS HPS r2 t2 HSC1
            refine wp_region_class_tail (C := fun w' => ∃ u : After _, w' = u.v) 27 (by kernel_rfl) (by kernel_rfl) (isAfter_start _) ?_
            simp only [List.take_succ_cons, List.take_zero, List.drop_succ_cons, List.drop_zero]
            try simp only [Act.put]
            repeat (first | go_big_quiet_step ((with_reducible refine (HC1.out _).mono ?_; rintro e w8 ⟨rfl, b8⟩; exact ⟨rfl, After.done _ b8⟩)))
            refine wpQuiet_nil ?_
            rintro _ ⟨ua, rfl⟩
            have r3 := after_row HR2.out ⟨ua, rfl⟩
            have e3 := r3.cell c
            rw [List.getElem?_set, if_pos rfl, if_pos (by rw [iv_len, HPL.out]; exact hcS)] at e3
            have f3 := r3.free c
            have t3 := HT2.out.below (ua.h.mono hB2)
            have b3 := b2.trans (ua.h.mono b2.size)
            clear d1 d2 d3 d4
            generalize ua.v = W3 at *
            go_wp2
            go_roundw
            case rel =>
              refine ⟨c + 1, by omega, by go_num, ?_, t3.far hg0 _, b3.setCell (p := ⟨g0, c, none⟩) (Nat.le_trans hG hg0) _⟩
              have h := r3.set c (.int .i64 (z : Nat))
              rw [HSET.out, HPS1.out] at h
              exact h
            case measure => simp [intOf]; omega
          · obtain rfl : i = N := by omega
            have g2 : decide ((i : Int) < (i : Int)) = false := decide_eq_false (by omega)
            have hsn := HSN.out c
            by_cases hc0 : c = 0
            · subst hc0
              rw [if_pos rfl] at hsn
              rw [hsn] at HPS1
              have e2 := r2.cell 0
              rw [List.getElem?_set, if_pos rfl, if_pos (by rw [iv_len, HPL.out]; exact hcS)] at e2
              have f2 := r2.free 0
              clear hsn
              go_wp2
              go_roundw
              case rel =>
                refine ⟨0 + 1, by omega, by go_num, ?_, t2.far hg0 _, b2.setCell (p := ⟨g0, 0, none⟩) (Nat.le_trans hG hg0) _⟩
                have h := r2.set 0 (.int .i64 0)
                have h2 := HSET.out 0
                rw [h2] at h
                rw [← HPS1.out]
                exact h
              case measure => simp [intOf]; omega
            · rw [if_neg hc0] at hsn
              have g3 : ((c : Int) == 0) = false := by rw [beq_eq_false_iff_ne]; omega
              rw [hsn] at HPS1
              clear hsn hc0
              go_wp2
              go_roundw
              case rel => exact ⟨c + 1, by omega, by go_num, by rw [← HPS1.out, ← iv_setL]; exact r2, t2, b2⟩
              case measure => simp [intOf]; omega
        · obtain rfl : c = S := by omega
          have g1 : decide ((c : Int) < (c : Int)) = false := decide_eq_false (by omega)
          rw [HPA.out] at r1
          obtain ⟨u, hu⟩ := t1.was (j := i) (by rw [HEN.out]; omega)
          have hfu := t1.free i
          go_wp2
          go_roundw
          case rel => exact ⟨i, _, (i : Int) - 1, by omega, by omega, by go_num, t1.put (by rw [HEN.out]; omega) hg0 r1, b1.setCell (Nat.le_refl _) _⟩
          case measure => first | (simp [intOf]; done) | (simp [intOf]; omega)
    · obtain rfl : j = 0 := by omega
      obtain rfl : x = -1 := by omega
      clear hx hj hlt HMI HSC HSN
      have hB : Bk ≤ wr.heap.size := by obtain ⟨_, _, _, _, h, _⟩ := t0; exact h
      have HCD1 := Lib.hid (HCD.out wr b0)
      obtain ⟨g, k1, k2, k3, k4⟩ := t0.get (j := 0) (Nat.le_refl _) (by omega)
      have x1 := fun (V : World) (hV : Below wr.heap.size wr V) => ivC (k4.below hV) (i := q0) (by rw [rwN_len]; exact hq0)
      rw [rwN_get _ _ hq0, List.drop_zero] at x1
      have HX1 := Lib.hid x1
      have HX3 := Lib.hid (fun (V : World) (hV : Below wr.heap.size wr V) => (hV.cell (p := ⟨w.heap.size, 0, none⟩) (block_lt_of_cell k3)).trans k3)
      clear x1 k4
      obtain rfl | rfl : ls = 0 ∨ ls = 1 := by omega
      · have HB0 := Lib.hid (HBE.out.1 rfl)
        rw [← HB0.out] at HX1
        go_wp2_with (go_at_call 52; (with_reducible refine HCD1.out.mono ?_); rintro e W4 ⟨rfl, b4⟩; have c1 := HX1.out _ b4; have c3 := HX3.out _ b4; have t4 := t0.below (b4.mono hB); replace b4 := b0.trans (b4.mono b0.size))
        go_loopw [16, 17] (fun b i wr => b = .int .i64 best ∧ i = .int .i64 0 ∧ TabI wr w.heap.size Bk S m n es 0 ∧ Below w.heap.size w wr) (fun _ _ _ => 0)
        case atStart => exact ⟨rfl, rfl, t4, b4⟩
        case round =>
          clear t4 b4 c1 c3
          obtain ⟨rfl, rfl, t4, b4⟩ := hrel
          have g4 : (decide ((0 : Int) < 0)) = false := decide_eq_false (by omega)
          obtain ⟨W4', hW4⟩ : ∃ W, W = wr := ⟨_, rfl⟩
          subst hW4
          by_cases hN0 : 0 < N
          · have g3 : decide ((0 : Int) < (N : Int)) = true := decide_eq_true (by omega)
            have HG0 : Hid (([] : List Int) ++ gdN m n 0 (es.drop 0) q0 (best - ([] : List Int).length) = R) := Lib.hid (by rw [HRE.out, List.drop_zero, List.nil_append, List.length_nil, Nat.sub_zero])
            have o0 : W4'.ownsRow Bk 3 1 (.slice none 0 0) ([] : List Int).length (iv []) := ⟨by simp [iv], .inl ⟨rfl, by simp⟩⟩
            by_cases hbf : 1099511627776 ≤ best
            · have g5 : decide ((1099511627776 : Int) ≤ (best : Int)) = true := decide_eq_true (by omega)
              go_wp2
              exact bodyPost_ret (v := .tuple #[.slice none 0 0, .bool false]) (by simp [results, Try.results21, go_sem]) rfl ⟨fun _ => ⟨rfl, b4⟩, fun h => absurd h (by unfold farN; omega)⟩
            · have g5 : decide ((1099511627776 : Int) ≤ (best : Int)) = false := decide_eq_false (by omega)
              go_wp2
              go_loopw [15, 18, 19] (fun q v i wr => ∃ (k q' : Nat) (o : List Int), k ≤ N ∧ q' < S ∧ o.length ≤ best ∧ q = .int .i64 q' ∧ i = .int .i64 k ∧ Hid (o ++ gdN m n k (es.drop k) q' (best - o.length) = R) ∧ wr.ownsRow Bk 3 1 v o.length (iv o) ∧ TabI wr w.heap.size Bk S m n es 0 ∧ Below w.heap.size w wr) (fun _ _ i _ => N - (intOf i).toNat)
              case atStart => exact ⟨0, q0, [], by omega, hq0, by simp, rfl, rfl, HG0, o0, t4, b4⟩
              case round =>
                clear o0 t4 b4 HG0
                obtain ⟨k, q', o, hk, hq', hol, rfl, rfl, HGR, o0, t4, b4⟩ := hrel
                obtain ⟨A5, c5, hA5, -, -, -⟩ := own_intsI o0
                subst hA5
                have hB4 : Bk ≤ wr.heap.size := by obtain ⟨_, _, _, _, h, _⟩ := t4; exact h
                by_cases hkN : k < N
                · have g6 : decide ((k : Int) < (N : Int)) = true := decide_eq_true (by omega)
                  by_cases hob : o.length < best
                  · have g7 : decide ((o.length : Int) < (best : Int)) = true := decide_eq_true (by omega)
                    obtain ⟨bB, oB, Bx, lx, cx2, hBe, HRC, HLS⟩ := HLR.out k hkN
                    subst hBe
                    have hnx := HLT.out q' k hkN
                    have HGC1 := Lib.hid (HGC.out k q' (best - o.length) hkN (by omega))
                    obtain ⟨g, k1, k2, k3, k4⟩ := t4.get (j := k + 1) (Nat.zero_le _) (by rw [HEN.out]; omega)
                    have x3 := HRC wr b4
                    have HC1 := Lib.hid (HLS wr q' b4 hq')
                    have l2 := HLE.out (k + 1) (lsN m n q' (es.getD k (0, 0)))
                    have x2 := fun (V : World) (hV : Below wr.heap.size wr V) => ivC (k4.below hV) (i := lsN m n q' (es.getD k (0, 0))) (by rw [rwN_len]; exact hnx)
                    have hx2 := rwN_get (m := m) (n := n) es (k + 1) hnx
                    rw [hx2] at x2
                    have HX2 := Lib.hid x2
                    have HX4 := Lib.hid (fun (V : World) (hV : Below wr.heap.size wr V) => (hV.cell (p := ⟨w.heap.size, k + 1, none⟩) (block_lt_of_cell k3)).trans k3)
                    clear x2 hx2
                    generalize lsN m n q' (es.getD k (0, 0)) = nx at *
                    generalize szN m n (es.drop (k + 1)) nx = y2 at *
                    by_cases ht : 1 + y2 = best - o.length
                    · have g8 : (((1 : Int) + (y2 : Int)) == ((best : Int) - (o.length : Int))) = true := by rw [beq_iff_eq]; omega
                      have HG2 : Hid ((o ++ [(k : Int)]) ++ gdN m n (k + 1) (es.drop (k + 1)) nx (best - (o ++ [(k : Int)]).length) = R) := Lib.hid (by
                        rw [← HGR.out, HGC1.out, if_pos ht, List.append_assoc, List.length_append, List.length_singleton, Nat.sub_add_eq]; rfl)
                      have HOL : Hid ((o ++ [(k : Int)]).length = o.length + 1) := Lib.hid (by rw [List.length_append, List.length_singleton])
                      have HO := Lib.hid o0
                      clear HGR HGC1 k4 HRC HLS ht o0
                      go_wp2_with (first
                        | (go_at_call 51; (with_reducible refine HC1.out.mono ?_); rintro e w5 ⟨rfl, b5⟩; have c2 := HX2.out _ b5; have c4 := HX4.out _ b5; have O5 := Lib.hid (HO.out.kept' b5); have t5 := t4.below (b5.mono hB4); replace b5 := b4.trans (b5.mono b4.size); have hB5 : Bk ≤ w5.heap.size := (by obtain ⟨_, _, _, _, h, _⟩ := t5; exact h); have hnr : Row (w5.alloc (.cells #[.int .i64 k] 3)) w5.heap.size 3 [.int .i64 k] := row_new rfl)
                        | (at_builtin; refine wpList_append_own_at _ rfl _ _ 22 rfl Bk 3 j0 (.int .i64 0) 1 8 Try.underlying22 ji jz0 jz1 jz2 rfl (by decide) _ _ _ rfl (O5.out.alloc _) ⟨w5.heap.size, 0, none⟩ 1 1 [.int .i64 (k : Int)] rfl rfl (news_one hnr) (by simp [Value.oneCell']) (by unfold maxLen; omega) (by omega) (by simp; omega) ?_; intro v6 w6 o6 hg6 _ _))
                      have b6 := app1' O5.out hB5 hg6
                      have t6 := t5.below b6
                      have hGB : w.heap.size ≤ Bk := by obtain ⟨_, _, _, h, _, _⟩ := t6; omega
                      have b7 := b5.trans (b6.mono hGB)
                      go_roundw
                      case rel => exact ⟨k + 1, nx, o ++ [(k : Int)], by omega, hnx, by rw [HOL.out]; omega, rfl, by go_num, HG2, by rw [HOL.out, iv_snoc]; exact o6, t6, b7⟩
                      case measure => simp [intOf]; omega
                    · have g8 : (((1 : Int) + (y2 : Int)) == ((best : Int) - (o.length : Int))) = false := by rw [beq_eq_false_iff_ne]; omega
                      have HG2 : Hid (o ++ gdN m n (k + 1) (es.drop (k + 1)) q' (best - o.length) = R) := Lib.hid (by rw [← HGR.out, HGC1.out, if_neg ht])
                      have HO := Lib.hid o0
                      clear HGR HGC1 k4 HRC HLS ht o0
                      go_wp2_with (go_at_call 51; (with_reducible refine HC1.out.mono ?_); rintro e w5 ⟨rfl, b5⟩; have c2 := HX2.out _ b5; have c4 := HX4.out _ b5; have O5 := Lib.hid (HO.out.kept' b5); have t5 := t4.below (b5.mono hB4); replace b5 := b4.trans (b5.mono b4.size))
                      go_roundw
                      case rel => exact ⟨k + 1, q', o, by omega, hq', hol, rfl, by go_num, HG2, O5.out, t5, b5⟩
                      case measure => simp [intOf]; omega
                  · have g7 : decide ((o.length : Int) < (best : Int)) = false := decide_eq_false (by omega)
                    have HE : Hid (o = R) := Lib.hid (by rw [← HGR.out, show best - o.length = 0 by omega, HGZ.out, List.append_nil])
                    have hGB : w.heap.size ≤ Bk := by obtain ⟨_, _, _, h, _, _⟩ := t4; omega
                    go_wp2
                    exact bodyPost_ret (v := .tuple #[.slice A5 o.length c5, .bool true]) (by simp [results, Try.results21, go_sem]) rfl ⟨fun h => absurd h (by unfold farN; omega), fun _ => ⟨_, rfl, by rw [← HE.out]; exact own_mono o0 hGB, b4⟩⟩
                · obtain rfl : k = N := by omega
                  have g6 : decide ((k : Int) < (k : Int)) = false := decide_eq_false (by omega)
                  have HE : Hid (o = R) := Lib.hid (by rw [← HGR.out, HGN.out, List.append_nil])
                  have hGB : w.heap.size ≤ Bk := by obtain ⟨_, _, _, h, _, _⟩ := t4; omega
                  go_wp2
                  exact bodyPost_ret (v := .tuple #[.slice A5 o.length c5, .bool true]) (by simp [results, Try.results21, go_sem]) rfl ⟨fun h => absurd h (by unfold farN; omega), fun _ => ⟨_, rfl, by rw [← HE.out]; exact own_mono o0 hGB, b4⟩⟩
          · have g3 : decide ((0 : Int) < (N : Int)) = false := decide_eq_false (by omega)
            have HG0 : Hid (([] : List Int) ++ gdN m n 0 (es.drop 0) q0 (best - ([] : List Int).length) = R) := Lib.hid (by rw [HRE.out, List.drop_zero, List.nil_append, List.length_nil, Nat.sub_zero])
            have o0 : W4'.ownsRow Bk 3 1 (.slice none 0 0) ([] : List Int).length (iv []) := ⟨by simp [iv], .inl ⟨rfl, by simp⟩⟩
            by_cases hbf : 1099511627776 ≤ best
            · have g5 : decide ((1099511627776 : Int) ≤ (best : Int)) = true := decide_eq_true (by omega)
              go_wp2
              exact bodyPost_ret (v := .tuple #[.slice none 0 0, .bool false]) (by simp [results, Try.results21, go_sem]) rfl ⟨fun _ => ⟨rfl, b4⟩, fun h => absurd h (by unfold farN; omega)⟩
            · have g5 : decide ((1099511627776 : Int) ≤ (best : Int)) = false := decide_eq_false (by omega)
              go_wp2
              go_loopw [15, 18, 19] (fun q v i wr => ∃ (k q' : Nat) (o : List Int), k ≤ N ∧ q' < S ∧ o.length ≤ best ∧ q = .int .i64 q' ∧ i = .int .i64 k ∧ Hid (o ++ gdN m n k (es.drop k) q' (best - o.length) = R) ∧ wr.ownsRow Bk 3 1 v o.length (iv o) ∧ TabI wr w.heap.size Bk S m n es 0 ∧ Below w.heap.size w wr) (fun _ _ i _ => N - (intOf i).toNat)
              case atStart => exact ⟨0, q0, [], by omega, hq0, by simp, rfl, rfl, HG0, o0, t4, b4⟩
              case round =>
                clear o0 t4 b4 HG0
                obtain ⟨k, q', o, hk, hq', hol, rfl, rfl, HGR, o0, t4, b4⟩ := hrel
                obtain ⟨A5, c5, hA5, -, -, -⟩ := own_intsI o0
                subst hA5
                have hB4 : Bk ≤ wr.heap.size := by obtain ⟨_, _, _, _, h, _⟩ := t4; exact h
                by_cases hkN : k < N
                · exact absurd hkN (by omega)
                · obtain rfl : k = N := by omega
                  have g6 : decide ((k : Int) < (k : Int)) = false := decide_eq_false (by omega)
                  have HE : Hid (o = R) := Lib.hid (by rw [← HGR.out, HGN.out, List.append_nil])
                  have hGB : w.heap.size ≤ Bk := by obtain ⟨_, _, _, h, _, _⟩ := t4; omega
                  go_wp2
                  exact bodyPost_ret (v := .tuple #[.slice A5 o.length c5, .bool true]) (by simp [results, Try.results21, go_sem]) rfl ⟨fun h => absurd h (by unfold farN; omega), fun _ => ⟨_, rfl, by rw [← HE.out]; exact own_mono o0 hGB, b4⟩⟩
      · have HB1 := Lib.hid (HBE.out.2 rfl)
        have HBS : Hid (min 1099511627776 (nzN m n (es.drop 0) q0) = best) := Lib.hid (by have := HNL.out 0 q0; rw [List.drop_zero] at this ⊢; rw [HB1.out]; omega)
        go_wp2_with (go_at_call 52; (with_reducible refine HCD1.out.mono ?_); rintro e W4 ⟨rfl, b4⟩; have t4 := t0.below (b4.mono hB); replace b4 := b0.trans (b4.mono b0.size))
        go_loopw [16, 17] (fun b i wr => ∃ (bb k : Nat), k ≤ N ∧ bb ≤ 1099511627776 ∧ b = .int .i64 bb ∧ i = .int .i64 k ∧ Hid (min bb (nzN m n (es.drop k) q0) = best) ∧ TabI wr w.heap.size Bk S m n es 0 ∧ Below w.heap.size w wr) (fun _ i _ => N - (intOf i).toNat)
        case atStart => exact ⟨1099511627776, 0, by omega, by omega, rfl, rfl, HBS, t4, b4⟩
        case round =>
          clear t4 b4 HBS
          obtain ⟨bb, k, hk, hbb, rfl, rfl, HBS, t4, b4⟩ := hrel
          obtain ⟨W4, hW4⟩ : ∃ W, W = wr := ⟨_, rfl⟩
          subst hW4
          by_cases hkN : k < N
          · have g3 : decide ((k : Int) < (N : Int)) = true := decide_eq_true (by omega)
            obtain ⟨bB, oB, Bx, lx, cx2, hBe, HRC, HLS⟩ := HLR.out k hkN
            subst hBe
            have hnx := HLT.out q0 k hkN
            have HNC1 := Lib.hid (HNC.out k q0 hkN)
            obtain ⟨g', k1', k2', k3', k4'⟩ := t4.get (j := k + 1) (Nat.zero_le _) (by rw [HEN.out]; omega)
            have x2 := ivC k4' (i := lsN m n q0 (es.getD k (0, 0))) (by rw [rwN_len]; exact hnx)
            rw [rwN_get _ _ hnx] at x2
            have x3 := HRC W4 b4
            have HC1 := Lib.hid (fun u : After W4 => HLS u.v q0 (b4.trans (u.h.mono b4.size)) hq0)
            have l2 := HLE.out (k + 1) (lsN m n q0 (es.getD k (0, 0)))
            generalize lsN m n q0 (es.getD k (0, 0)) = nx at *
            generalize szN m n (es.drop (k + 1)) nx = y2 at *
            have hmn : (if 1 + (y2 : Int) < (bb : Int) then 1 + (y2 : Int) else (bb : Int)) = ((min bb (1 + y2) : Nat) : Int) := by split <;> omega
            have HB2 : Hid (min (min bb (1 + y2)) (nzN m n (es.drop (k + 1)) q0) = best) := Lib.hid (by rw [← HBS.out, HNC1.out]; omega)
            have hmn2 : min bb (1 + y2) ≤ 1099511627776 := by omega
            generalize min bb (1 + y2) = z at *
            have d2 := fun u : After W4 => After.cell x2 u
            have d3 := fun u : After W4 => After.cell x3 u
            have d4 := fun u : After W4 => After.cell k3' u
            have hB4 : Bk ≤ W4.heap.size := by obtain ⟨_, _, _, _, h, _⟩ := t4; exact h
            clear x2 x3 k3' k4' HRC HLS HBS HNC1
            go_wp2
            refine wp_region_class_all (C := fun w' => ∃ u : After _, w' = u.v) (by kernel_rfl) (by kernel_rfl) (isAfter_start _) ?_
            try simp only [Act.put]
            repeat (first | go_big_quiet_step ((with_reducible refine (HC1.out _).mono ?_; rintro e w8 ⟨rfl, b8⟩; exact ⟨rfl, After.done _ b8⟩)))
            refine wpQuiet_nil ?_
            rintro _ ⟨ua, rfl⟩
            have t5 := t4.below (ua.h.mono hB4)
            have b5 := b4.trans (ua.h.mono b4.size)
            clear d2 d3 d4
            generalize ua.v = W5 at *
            go_wp2
            go_roundw
            case rel => exact ⟨z, k + 1, by omega, hmn2, rfl, by go_num, HB2, t5, b5⟩
            case measure => simp [intOf]; omega
          · obtain rfl : N = k := by omega
            have g3 : decide ((N : Int) < (N : Int)) = false := decide_eq_false (by omega)
            have hbe : bb = best := by have := HBS.out; rw [HNN.out] at this; omega
            subst hbe
            have HG0 : Hid (([] : List Int) ++ gdN m n 0 (es.drop 0) q0 (bb - ([] : List Int).length) = R) := Lib.hid (by rw [HRE.out, List.drop_zero, List.nil_append, List.length_nil, Nat.sub_zero])
            have o0 : W4.ownsRow Bk 3 1 (.slice none 0 0) ([] : List Int).length (iv []) := ⟨by simp [iv], .inl ⟨rfl, by simp⟩⟩
            by_cases hbf : 1099511627776 ≤ bb
            · have g5 : decide ((1099511627776 : Int) ≤ (bb : Int)) = true := decide_eq_true (by omega)
              go_wp2
              exact bodyPost_ret (v := .tuple #[.slice none 0 0, .bool false]) (by simp [results, Try.results21, go_sem]) rfl ⟨fun _ => ⟨rfl, b4⟩, fun h => absurd h (by unfold farN; omega)⟩
            · have g5 : decide ((1099511627776 : Int) ≤ (bb : Int)) = false := decide_eq_false (by omega)
              go_wp2
              go_loopw [15, 18, 19] (fun q v i wr => ∃ (k q' : Nat) (o : List Int), k ≤ N ∧ q' < S ∧ o.length ≤ bb ∧ q = .int .i64 q' ∧ i = .int .i64 k ∧ Hid (o ++ gdN m n k (es.drop k) q' (bb - o.length) = R) ∧ wr.ownsRow Bk 3 1 v o.length (iv o) ∧ TabI wr w.heap.size Bk S m n es 0 ∧ Below w.heap.size w wr) (fun _ _ i _ => N - (intOf i).toNat)
              case atStart => exact ⟨0, q0, [], by omega, hq0, by simp, rfl, rfl, HG0, o0, t4, b4⟩
              case round =>
                clear o0 t4 b4 HG0
                obtain ⟨k, q', o, hk, hq', hol, rfl, rfl, HGR, o0, t4, b4⟩ := hrel
                obtain ⟨A5, c5, hA5, -, -, -⟩ := own_intsI o0
                subst hA5
                have hB4 : Bk ≤ wr.heap.size := by obtain ⟨_, _, _, _, h, _⟩ := t4; exact h
                by_cases hkN : k < N
                · have g6 : decide ((k : Int) < (N : Int)) = true := decide_eq_true (by omega)
                  by_cases hob : o.length < bb
                  · have g7 : decide ((o.length : Int) < (bb : Int)) = true := decide_eq_true (by omega)
                    obtain ⟨bB, oB, Bx, lx, cx2, hBe, HRC, HLS⟩ := HLR.out k hkN
                    subst hBe
                    have hnx := HLT.out q' k hkN
                    have HGC1 := Lib.hid (HGC.out k q' (bb - o.length) hkN (by omega))
                    obtain ⟨g, k1, k2, k3, k4⟩ := t4.get (j := k + 1) (Nat.zero_le _) (by rw [HEN.out]; omega)
                    have x3 := HRC wr b4
                    have HC1 := Lib.hid (HLS wr q' b4 hq')
                    have l2 := HLE.out (k + 1) (lsN m n q' (es.getD k (0, 0)))
                    have x2 := fun (V : World) (hV : Below wr.heap.size wr V) => ivC (k4.below hV) (i := lsN m n q' (es.getD k (0, 0))) (by rw [rwN_len]; exact hnx)
                    have hx2 := rwN_get (m := m) (n := n) es (k + 1) hnx
                    rw [hx2] at x2
                    have HX2 := Lib.hid x2
                    have HX4 := Lib.hid (fun (V : World) (hV : Below wr.heap.size wr V) => (hV.cell (p := ⟨w.heap.size, k + 1, none⟩) (block_lt_of_cell k3)).trans k3)
                    clear x2 hx2
                    generalize lsN m n q' (es.getD k (0, 0)) = nx at *
                    generalize szN m n (es.drop (k + 1)) nx = y2 at *
                    by_cases ht : 1 + y2 = bb - o.length
                    · have g8 : (((1 : Int) + (y2 : Int)) == ((bb : Int) - (o.length : Int))) = true := by rw [beq_iff_eq]; omega
                      have HG2 : Hid ((o ++ [(k : Int)]) ++ gdN m n (k + 1) (es.drop (k + 1)) nx (bb - (o ++ [(k : Int)]).length) = R) := Lib.hid (by
                        rw [← HGR.out, HGC1.out, if_pos ht, List.append_assoc, List.length_append, List.length_singleton, Nat.sub_add_eq]; rfl)
                      have HOL : Hid ((o ++ [(k : Int)]).length = o.length + 1) := Lib.hid (by rw [List.length_append, List.length_singleton])
                      have HO := Lib.hid o0
                      clear HGR HGC1 k4 HRC HLS ht o0
                      go_wp2_with (first
                        | (go_at_call 51; (with_reducible refine HC1.out.mono ?_); rintro e w5 ⟨rfl, b5⟩; have c2 := HX2.out _ b5; have c4 := HX4.out _ b5; have O5 := Lib.hid (HO.out.kept' b5); have t5 := t4.below (b5.mono hB4); replace b5 := b4.trans (b5.mono b4.size); have hB5 : Bk ≤ w5.heap.size := (by obtain ⟨_, _, _, _, h, _⟩ := t5; exact h); have hnr : Row (w5.alloc (.cells #[.int .i64 k] 3)) w5.heap.size 3 [.int .i64 k] := row_new rfl)
                        | (at_builtin; refine wpList_append_own_at _ rfl _ _ 22 rfl Bk 3 j0 (.int .i64 0) 1 8 Try.underlying22 ji jz0 jz1 jz2 rfl (by decide) _ _ _ rfl (O5.out.alloc _) ⟨w5.heap.size, 0, none⟩ 1 1 [.int .i64 (k : Int)] rfl rfl (news_one hnr) (by simp [Value.oneCell']) (by unfold maxLen; omega) (by omega) (by simp; omega) ?_; intro v6 w6 o6 hg6 _ _))
                      have b6 := app1' O5.out hB5 hg6
                      have t6 := t5.below b6
                      have hGB : w.heap.size ≤ Bk := by obtain ⟨_, _, _, h, _, _⟩ := t6; omega
                      have b7 := b5.trans (b6.mono hGB)
                      go_roundw
                      case rel => exact ⟨k + 1, nx, o ++ [(k : Int)], by omega, hnx, by rw [HOL.out]; omega, rfl, by go_num, HG2, by rw [HOL.out, iv_snoc]; exact o6, t6, b7⟩
                      case measure => simp [intOf]; omega
                    · have g8 : (((1 : Int) + (y2 : Int)) == ((bb : Int) - (o.length : Int))) = false := by rw [beq_eq_false_iff_ne]; omega
                      have HG2 : Hid (o ++ gdN m n (k + 1) (es.drop (k + 1)) q' (bb - o.length) = R) := Lib.hid (by rw [← HGR.out, HGC1.out, if_neg ht])
                      have HO := Lib.hid o0
                      clear HGR HGC1 k4 HRC HLS ht o0
                      go_wp2_with (go_at_call 51; (with_reducible refine HC1.out.mono ?_); rintro e w5 ⟨rfl, b5⟩; have c2 := HX2.out _ b5; have c4 := HX4.out _ b5; have O5 := Lib.hid (HO.out.kept' b5); have t5 := t4.below (b5.mono hB4); replace b5 := b4.trans (b5.mono b4.size))
                      go_roundw
                      case rel => exact ⟨k + 1, q', o, by omega, hq', hol, rfl, by go_num, HG2, O5.out, t5, b5⟩
                      case measure => simp [intOf]; omega
                  · have g7 : decide ((o.length : Int) < (bb : Int)) = false := decide_eq_false (by omega)
                    have HE : Hid (o = R) := Lib.hid (by rw [← HGR.out, show bb - o.length = 0 by omega, HGZ.out, List.append_nil])
                    have hGB : w.heap.size ≤ Bk := by obtain ⟨_, _, _, h, _, _⟩ := t4; omega
                    go_wp2
                    exact bodyPost_ret (v := .tuple #[.slice A5 o.length c5, .bool true]) (by simp [results, Try.results21, go_sem]) rfl ⟨fun h => absurd h (by unfold farN; omega), fun _ => ⟨_, rfl, by rw [← HE.out]; exact own_mono o0 hGB, b4⟩⟩
                · obtain rfl : k = N := by omega
                  have g6 : decide ((k : Int) < (k : Int)) = false := decide_eq_false (by omega)
                  have HE : Hid (o = R) := Lib.hid (by rw [← HGR.out, HGN.out, List.append_nil])
                  have hGB : w.heap.size ≤ Bk := by obtain ⟨_, _, _, h, _, _⟩ := t4; omega
                  go_wp2
                  exact bodyPost_ret (v := .tuple #[.slice A5 o.length c5, .bool true]) (by simp [results, Try.results21, go_sem]) rfl ⟨fun h => absurd h (by unfold farN; omega), fun _ => ⟨_, rfl, by rw [← HE.out]; exact own_mono o0 hGB, b4⟩⟩
end Go.Proofs.Ytokjdadgdfmffaa
