/- Shares. -/
import Derived.Test.YtopeppnajbnfgaaFK
namespace Go.Proofs.Ytopeppnajbnfgaa
open Go.RowKit
set_option maxHeartbeats 1000000
set_option maxRecDepth 100000
/-- Where piece k begins. -/
def frm (ts : List Int) (k : Nat) : Nat := if k = 0 then 0 else (geti ts (k - 1)).toNat
/-- What a carrier has of the first pieces. -/
def shr (s : ByteArray) (ts : List Int) (h : Nat) : Nat → ByteArray
  | 0 => ByteArray.empty
  | k + 1 => if k % 2 = h then shr s ts h k ++ s.extract (frm ts k) (frm ts (k + 1)) else shr s ts h k
theorem shr_size (s : ByteArray) (ts : List Int) (h : Nat) : ∀ k, (shr s ts h k).size ≤ s.size * k
  | 0 => by simp [shr]
  | k + 1 => by
    have ih := shr_size s ts h k
    have h1 : (s.extract (frm ts k) (frm ts (k + 1))).size ≤ s.size := by rw [ByteArray.size_extract]; omega
    have h2 : s.size * (k + 1) = s.size * k + s.size := Nat.mul_succ _ _
    unfold shr
    split
    · rw [ByteArray.size_append]; omega
    · omega
def shareV (s : ByteArray) (xs : List Int) (h : Nat) : ByteArray := shr s (xs ++ [(s.size : Int)]) h (xs.length + 1)
theorem geti_app_left {xs ys : List Int} {i : Nat} (h : i < xs.length) : geti (xs ++ ys) i = geti xs i := by
  unfold geti; rw [List.getD_eq_getElem?_getD, List.getD_eq_getElem?_getD, List.getElem?_append_left h]
theorem geti_app_last {xs : List Int} {y : Int} : geti (xs ++ [y]) xs.length = y := by
  unfold geti; rw [List.getD_eq_getElem?_getD, List.getElem?_append_right (Nat.le_refl _), Nat.sub_self]; rfl
/-- The ends of the pieces ascend. -/
theorem ends_ok {s : ByteArray} {xs : List Int} (h : cutV 1 s.size xs = true) : ∀ k, k < xs.length + 1 → 0 ≤ geti (xs ++ [(s.size : Int)]) k ∧ geti (xs ++ [(s.size : Int)]) k ≤ s.size ∧ (frm (xs ++ [(s.size : Int)]) k : Int) ≤ geti (xs ++ [(s.size : Int)]) k := fun k hk => by
  have hin := cutV_in (first := 1) (by omega) h
  have hh := of_decide_eq_true h
  have hf : ∀ j, j < xs.length → 0 ≤ geti xs j ∧ geti xs j < s.size := fun j hj => by have := hin j hj; omega
  rcases Nat.lt_or_ge k xs.length with h1 | h1
  · rw [geti_app_left h1]
    have h2 := hf k h1
    refine ⟨h2.1, by omega, ?_⟩
    unfold frm
    split
    · omega
    · rw [geti_app_left (by omega)]
      have h3 := hh k h1
      unfold okCut fromC at h3
      rw [if_neg (by omega)] at h3
      have := hf (k - 1) (by omega)
      omega
  · obtain rfl : k = xs.length := by omega
    rw [geti_app_last]
    refine ⟨by omega, by omega, ?_⟩
    unfold frm
    split
    · omega
    · rw [geti_app_left (by omega)]
      have := hf (xs.length - 1) (by omega)
      omega
/-- A list as it is passed: nil, or somewhere. -/
def SlAt (A : Option Addr) (c : Nat) (xs : List Int) : Prop := (∃ b o, A = some ⟨b, o, none⟩) ∨ (A = none ∧ c = 0 ∧ xs = [])
def sharesV (s : ByteArray) (xs : List Int) : Value := if chV s && cutV 1 s.size xs then .tuple #[.string (shareV s xs 0), .string (shareV s xs 1), .int .i64 0] else .tuple #[.string ByteArray.empty, .string ByteArray.empty, .int .i64 2]
theorem iv_ints {w : World} {g : Nat} {t : TypeId} {xs : List Int} (h : Row w g t (iv xs)) : IntsAt w (some ⟨g, 0, none⟩) xs := fun hp => ⟨g, 0, rfl, h.lt, fun i hi => by rw [Nat.zero_add]; exact ivR h hi⟩
theorem ints_far {w : World} {b o : Nat} {xs : List Int} (h : IntsAt w (some ⟨b, o, none⟩) xs) {p : Addr} (hp : b ≠ p.block) (u : Value) : IntsAt (w.setCell p u) (some ⟨b, o, none⟩) xs := fun h0 => by
  obtain ⟨b', o', e, hb, hc⟩ := h h0
  injection e with e
  injection e with e1 e2
  subst e1 e2
  exact ⟨b, o, rfl, by simpa [World.setCell] using hb, fun i hi => (World.cell?_of_block (Below.heap_setCell w p u b hp)).trans (hc i hi)⟩
theorem z62 : ∀ w, (zeroValue 62).run Try.prog w = .ok (.agg #[.string ⟨#[]⟩, .string ⟨#[]⟩]) w := (zero_of_info (n := 2) (by kernel_rfl)).1
theorem Shares_any (s : ByteArray) (A : Option Addr) (c : Nat) (xs : List Int) (w : World) (hl : xs.length ≤ 1000000) (hc : xs.length ≤ c) (hA : SlAt A c xs) (hx : IntsAt w A xs) :
    Calls Try.prog 27 #[.string s, .slice A xs.length c] w fun e w' => e = .returned (sharesV s xs) ∧ Below w.heap.size w w' := by
  have z4 := z54
  have z6 := z62
  have HR := Lib.hid (fun w => readChain_any s w)
  cases hch : chV s
  · have HCV := Lib.hid (show sharesV s xs = .tuple #[.string ByteArray.empty, .string ByteArray.empty, .int .i64 2] by unfold sharesV; rw [hch]; rfl)
    have hi := info54_iv Z101_len
    have hre := rcV_no hch
    clear hx hA
    generalize Z101 = X at *
    go_enter Try.func27, Try.ntmps27
    go_wp2_with (first
      | (go_at_call 47; with_reducible refine (HR.out _).mono ?_; rintro e w1 ⟨rfl, b1⟩; rw [hre]; have q1 : Row (w1.alloc (.cells (iv X).toArray 54)) w1.heap.size 54 (iv X) := row_new rfl)
      | ((with_reducible refine (?_ : wpList _ _ _ (Oper.mk none _ _ _ _ _ :: _) _ _)); with_reducible refine (?_ : wpList _ _ _ (Oper.mk _ (Op.store 54 _ _) _ _ _ _ :: _) _ _); refine wpList_store_row rfl 54 (.tmp 7) (.tmp 16) rfl w1.heap.size (iv X).toArray rfl rfl 54 (iv X).toArray (row_heap q1) hi rfl (iv_all _) ?_))
    exact bodyPost_ret (v := sharesV s xs) (by rw [HCV.out]; simp [results, Try.results27]; rfl) rfl ⟨rfl, below_row (b1.alloc b1.size _) b1.size _⟩
  · have hs := chV_size hch
    have hre := rcV_yes hch
    have HAC := Lib.hid (fun (w' : World) (h : IntsAt w' A xs) => areCuts_any A c xs 1 s.size w' hl (by omega) (by omega) h)
    have hT : (tal s).length = 101 := talL_len _ _
    have hi := info54_iv hT
    cases hcut : cutV 1 s.size xs
    · have HCV := Lib.hid (show sharesV s xs = .tuple #[.string ByteArray.empty, .string ByteArray.empty, .int .i64 2] by unfold sharesV; rw [hcut, Bool.and_false]; rfl)
      go_enter Try.func27, Try.ntmps27
      go_wp2_with (first
        | (go_at_call 47; with_reducible refine (HR.out _).mono ?_; rintro e w1 ⟨rfl, b1⟩; rw [hre]; have q1 : Row (w1.alloc (.cells (iv Z101).toArray 54)) w1.heap.size 54 (iv Z101) := row_new rfl)
        | ((with_reducible refine (?_ : wpList _ _ _ (Oper.mk none _ _ _ _ _ :: _) _ _)); with_reducible refine (?_ : wpList _ _ _ (Oper.mk _ (Op.store 54 _ _) _ _ _ _ :: _) _ _); refine wpList_store_row rfl 54 (.tmp 7) (.tmp 16) rfl w1.heap.size (iv (tal s)).toArray rfl rfl 54 (iv Z101).toArray (row_heap q1) hi (size54_iv Z101_len hT) (iv_all _) ?_; have q2 := q1.row (iv (tal s)); have b2 := below_row (b1.alloc b1.size (.cells (iv Z101).toArray 54)) b1.size (iv (tal s)).toArray; have c0 : World.cell? _ ⟨w1.heap.size, 0, none⟩ = some (.int .i64 (s.size : Int)) := ivR q2 (by rw [hT]; omega); generalize w1.heap.size = g1 at *; generalize World.setRow _ _ _ = W2 at *; clear q1)
        | (go_at_call 44; with_reducible refine (HAC.out _ (hx.below b2)).mono ?_; rintro e w3 ⟨rfl, nq, rfl⟩; rw [hcut]))
      exact bodyPost_ret (v := sharesV s xs) (by rw [HCV.out]; simp [results, Try.results27]; rfl) rfl ⟨rfl, b2.trans (below_drewN nq)⟩
    · have HCV := Lib.hid (show sharesV s xs = .tuple #[.string (shareV s xs 0), .string (shareV s xs 1), .int .i64 0] by unfold sharesV; rw [hch, hcut]; rfl)
      have HE := Lib.hid (ends_ok hcut)
      have hln := cutV_len (by omega) hcut
      have E2 : Hid (∀ (g g2 : Nat) (w' : World), Row w' g 23 [.slice A xs.length c, .slice (some ⟨g2, 0, none⟩) 1 1] → Row w' g2 3 (iv [(s.size : Int)]) → IntsAt w' A xs → Calls Try.prog 48 #[.slice (some ⟨g, 0, none⟩) 2 2] w' fun e w2 => ∃ v, e = .returned v ∧ w2.ownsRow w'.heap.size 3 1 v (xs ++ [(s.size : Int)]).length (iv (xs ++ [(s.size : Int)])) ∧ Below w'.heap.size w' w2) := by
        refine Lib.hid ?_
        rcases hA with ⟨b, o, rfl⟩ | ⟨rfl, rfl, rfl⟩
        · exact fun g g2 w' h1 h2 h3 => Concat2_any g b o c g2 0 1 xs [(s.size : Int)] w' hl (by simp) h1 h3 (iv_ints h2)
        · exact fun g g2 w' h1 h2 _ => Concat2_nil g g2 0 1 [(s.size : Int)] w' (by simp) h1 (iv_ints h2)
      go_enter Try.func27, Try.ntmps27
      go_wp2_with (first
        | (go_at_call 47; with_reducible refine (HR.out _).mono ?_; rintro e w1 ⟨rfl, b1⟩; rw [hre]; have q1 : Row (w1.alloc (.cells (iv Z101).toArray 54)) w1.heap.size 54 (iv Z101) := row_new rfl)
        | ((with_reducible refine (?_ : wpList _ _ _ (Oper.mk none _ _ _ _ _ :: _) _ _)); with_reducible refine (?_ : wpList _ _ _ (Oper.mk _ (Op.store 54 _ _) _ _ _ _ :: _) _ _); refine wpList_store_row rfl 54 (.tmp 7) (.tmp 16) rfl w1.heap.size (iv (tal s)).toArray rfl rfl 54 (iv Z101).toArray (row_heap q1) hi (size54_iv Z101_len hT) (iv_all _) ?_; have q2 := q1.row (iv (tal s)); have b2 := below_row (b1.alloc b1.size (.cells (iv Z101).toArray 54)) b1.size (iv (tal s)).toArray; have c0 : World.cell? _ ⟨w1.heap.size, 0, none⟩ = some (.int .i64 (s.size : Int)) := ivR q2 (by rw [hT]; omega); generalize w1.heap.size = g1 at *; generalize World.setRow _ _ _ = W2 at *; clear q1)
        | (go_at_call 44; with_reducible refine (HAC.out _ (hx.below b2)).mono ?_; rintro e w3 ⟨rfl, nq, rfl⟩; rw [hcut]; have b3 := b2.trans (below_drewN nq); replace q2 := q2.drewN nq; generalize World.drewN W2 nq = W3 at *; have c3 : World.cell? _ ⟨g1, 0, none⟩ = some (.int .i64 (s.size : Int)) := ivR (i := 0) (q2.alloc (.cells #[.string ⟨#[]⟩, .string ⟨#[]⟩] 62)) (by rw [hT]; omega)))
      have b4 := ((b3.alloc b3.size (.cells #[.string ⟨#[]⟩, .string ⟨#[]⟩] 62)).alloc (by have := b3.size; simp; omega) (.cells #[.int .i64 (s.size : Int)] 3)).alloc (by have := b3.size; simp; omega) (.cells #[.slice A xs.length c, .slice (some ⟨W3.heap.size + 1, 0, none⟩) 1 1] 23)
      have hb3 := b3.size
      have t0 : Row (((W3.alloc (.cells #[.string ⟨#[]⟩, .string ⟨#[]⟩] 62)).alloc (.cells #[.int .i64 (s.size : Int)] 3)).alloc (.cells #[.slice A xs.length c, .slice (some ⟨W3.heap.size + 1, 0, none⟩) 1 1] 23)) W3.heap.size 62 [.string ⟨#[]⟩, .string ⟨#[]⟩] := ((row_new rfl).alloc _).alloc _
      have t1 : Row (((W3.alloc (.cells #[.string ⟨#[]⟩, .string ⟨#[]⟩] 62)).alloc (.cells #[.int .i64 (s.size : Int)] 3)).alloc (.cells #[.slice A xs.length c, .slice (some ⟨W3.heap.size + 1, 0, none⟩) 1 1] 23)) (W3.heap.size + 1) 3 (iv [(s.size : Int)]) := (row_new (by simp)).alloc _
      have t2 : Row (((W3.alloc (.cells #[.string ⟨#[]⟩, .string ⟨#[]⟩] 62)).alloc (.cells #[.int .i64 (s.size : Int)] 3)).alloc (.cells #[.slice A xs.length c, .slice (some ⟨W3.heap.size + 1, 0, none⟩) 1 1] 23)) (W3.heap.size + 1 + 1) 23 [.slice A xs.length c, .slice (some ⟨W3.heap.size + 1, 0, none⟩) 1 1] := row_new (by simp)
      have CC := E2.out _ _ _ t2 t1 (hx.below b4)
      clear t1 t2 c3 q2 E2 hx
      generalize World.alloc _ _ = W6 at *
      generalize W3.heap.size = g3 at *
      refine CC.mono ?_
      rintro e w5 ⟨v5, rfl, o5, b5⟩
      obtain ⟨A5, c5, rfl, -, -, i5⟩ := own_intsI o5
      have HNE : ∀ b o, A5 = some ⟨b, o, none⟩ → b ≠ g3 := fun b o e => by
        have h1 := (own_ge o5 (g := b) (by rw [e]; rfl)).1
        have h2 := t0.lt
        omega
      replace t0 := t0.below b5
      replace b4 := b4.trans (b5.mono b4.size)
      have hts : (xs ++ [(s.size : Int)]).length = xs.length + 1 := by simp
      have HE' := HE.out
      generalize hT2 : xs ++ [(s.size : Int)] = ts at *
      rw [hts]
      have HT2 := Lib.hid hT2
      clear o5 b5 CC hT2 hi hT
      go_wp2
      go_loopw [10, 34] (fun f i wr => ∃ k : Nat, k ≤ xs.length + 1 ∧ i = .int .i64 k ∧ f = .int .i64 (frm ts k) ∧ Row wr g3 62 [.string (shr s ts 0 k), .string (shr s ts 1 k)] ∧ IntsAt wr A5 ts ∧ Below w.heap.size w wr) (fun _ i _ => xs.length + 1 - (intOf i).toNat)
      case atStart => exact ⟨0, by omega, rfl, rfl, t0, i5, b4⟩
      case round =>
        clear t0 i5 b4 HE
        obtain ⟨k, hk, rfl, rfl, t0, i5, b4⟩ := hrel
        have c0 : wr.cell? ⟨g3, 0, none⟩ = some (.string (shr s ts 0 k)) := t0.cell 0
        have c1 : wr.cell? ⟨g3, 1, none⟩ = some (.string (shr s ts 1 k)) := t0.cell 1
        by_cases hlt : k < xs.length + 1
        · obtain ⟨b, o, rfl, hb, hcs⟩ := i5 (by omega)
          have d0 := hcs k (by omega)
          have hbg := HNE b o rfl
          obtain ⟨h1, h2, h3⟩ := HE' k hlt
          obtain ⟨e, he⟩ : ∃ e : Nat, geti ts k = e := ⟨(geti ts k).toNat, by omega⟩
          have hfe : frm ts (k + 1) = e := by unfold frm; rw [if_neg (by omega), Nat.add_sub_cancel, he]; rfl
          rw [he] at h1 h2 h3 d0
          have HS0 := Lib.hid (show shr s ts 0 (k + 1) = if k % 2 = 0 then shr s ts 0 k ++ s.extract (frm ts k) e else shr s ts 0 k by rw [← hfe]; rfl)
          have HS1 := Lib.hid (show shr s ts 1 (k + 1) = if k % 2 = 1 then shr s ts 1 k ++ s.extract (frm ts k) e else shr s ts 1 k by rw [← hfe]; rfl)
          have HFE := Lib.hid hfe
          have I5 := Lib.hid i5
          have hfl : frm ts k ≤ e := by omega
          have hel : e ≤ s.size := by omega
          have hz0 := shr_size s ts 0 k
          have hz1 := shr_size s ts 1 k
          have hz2 : s.size * k ≤ 24 * 100 := Nat.mul_le_mul hs (by omega)
          clear hfe he h1 h2 h3 hcs i5
          generalize frm ts k = f at *
          generalize shr s ts 0 k = a0 at *
          generalize shr s ts 1 k = a1 at *
          have f0 := t0.free 0
          have f1 := t0.free 1
          rcases Nat.mod_two_eq_zero_or_one k with hk2 | hk2
          · have hadd : ∀ w, (Op.stringOp .add a0 (s.extract f e)).run Try.prog w = .ok (.string (a0 ++ s.extract f e)) w := fun w => run_string_add_sum w _ _ (by rw [ByteArray.size_extract]; omega)
            have hk3 : ((k : Int) % 2) = 0 := by omega
            go_wp2
            refine wp_region_quiet_tail 10 (by kernel_rfl) (by kernel_rfl) ?_
            simp only [List.take_succ_cons, List.take_zero, List.drop_succ_cons, List.drop_zero]
            repeat go_big_quiet_step ((fail))
            refine wpQuiet_nil ?_
            rintro _ ⟨nq, rfl⟩
            go_wp2
            go_roundw
            case rel =>
              refine ⟨k + 1, by omega, by go_num, by rw [HFE.out], ?_, ints_far (I5.out.drewN nq) hbg _, (b4.trans (below_drewN nq)).setCell (by dsimp only; omega) _⟩
              have h := (t0.drewN nq).set 0 (.string (a0 ++ s.extract f e))
              rw [HS0.out, HS1.out, if_pos (by omega), if_neg (by omega)]
              exact h
            case measure => simp [intOf]; omega
          · have hadd : ∀ w, (Op.stringOp .add a1 (s.extract f e)).run Try.prog w = .ok (.string (a1 ++ s.extract f e)) w := fun w => run_string_add_sum w _ _ (by rw [ByteArray.size_extract]; omega)
            have hk3 : ((k : Int) % 2) = 1 := by omega
            go_wp2
            refine wp_region_quiet_tail 10 (by kernel_rfl) (by kernel_rfl) ?_
            simp only [List.take_succ_cons, List.take_zero, List.drop_succ_cons, List.drop_zero]
            repeat go_big_quiet_step ((fail))
            refine wpQuiet_nil ?_
            rintro _ ⟨nq, rfl⟩
            go_wp2
            go_roundw
            case rel =>
              refine ⟨k + 1, by omega, by go_num, by rw [HFE.out], ?_, ints_far (I5.out.drewN nq) hbg _, (b4.trans (below_drewN nq)).setCell (by dsimp only; omega) _⟩
              have h := (t0.drewN nq).set 1 (.string (a1 ++ s.extract f e))
              rw [HS0.out, HS1.out, if_neg (by omega), if_pos (by omega)]
              exact h
            case measure => simp [intOf]; omega
        · obtain rfl : k = xs.length + 1 := by omega
          have HR0 := Lib.hid (show shareV s xs 0 = shr s ts 0 (xs.length + 1) by unfold shareV; rw [HT2.out])
          have HR1 := Lib.hid (show shareV s xs 1 = shr s ts 1 (xs.length + 1) by unfold shareV; rw [HT2.out])
          generalize shr s ts 0 (xs.length + 1) = a0 at *
          generalize shr s ts 1 (xs.length + 1) = a1 at *
          go_wp2
          go_quiet (fail)
          go_wp2
          exact bodyPost_ret (v := sharesV s xs) (by rw [HCV.out, HR0.out, HR1.out]; simp [results, Try.results27]) rfl ⟨rfl, b4.trans (below_drewN nq)⟩
end Go.Proofs.Ytopeppnajbnfgaa
