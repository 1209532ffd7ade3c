/- The reference's halves: the walk. -/
import Derived.Test.YtopeppnajbnfgaaHL
namespace Go.Proofs.Ytopeppnajbnfgaa
open Go.RowKit
set_option maxHeartbeats 1000000
set_option maxRecDepth 100000
theorem quiet_eql46 {C : World → Prop} {K : Act → Prop} {o : Oper} {a : Act} (x y : Operand) (ho : o.op = .binOp .eql 46 x y 46) (cx cy : Array Value) (b : Bool) (hx : a.eval x = .agg cx) (hy : a.eval y = .agg cy)
    (hS : ∀ w, (Op.equalIn 10000 46 (.agg cx) (.agg cy)).run Try.prog w = .ok b w) (hk : K (a.put o.dst (.bool b))) : o.quiet Try.prog a C K :=
  ⟨_, fun w hw => by
    have h := hS w
    have h2 : Try.prog.eqGuardType Try.prog.depth 46 = false := by kernel_rfl
    unfold Oper.quietAt execOp
    simp only [ho, hx, hy]
    simp [eqGuard, go_sem, h, h2], hk⟩
theorem RefHalves_any (s : ByteArray) (w : World) (hc : chV s = true) : Calls Try.prog 31 #[.string s] w fun e w' => ∃ A c, e = .returned (.slice A (hlvL s (s.size + 1)).length c) ∧ Below w.heap.size w w' ∧ IntsAt w' A (hlvL s (s.size + 1)) := by
  have hs := chV_size hc
  have ho := (of_decide_eq_true hc).2
  obtain ⟨j0, ji, jz0, jz1, jz2⟩ := info_parts info3
  have z46' := z46
  have HL0 := Lib.hid (fun w => Letters_any s w (by omega) ho)
  have hi46 := info46_iv (x := sumL s s.size) rfl
  have hi46h := info46_iv (x := halfL (sumL s s.size)) rfl
  go_enter Try.func31, Try.ntmps31
  go_wp2_with (first
    | (go_at_call 41; with_reducible refine (HL0.out _).mono ?_; rintro e w1 ⟨rfl, b1⟩; have q1 : Row (w1.alloc (.cells Z4.toArray 46)) w1.heap.size 46 Z4 := row_new rfl)
    | ((with_reducible refine (?_ : wpList _ _ _ (Oper.mk none _ _ _ _ _ :: _) _ _)); refine wpList_store_row rfl 46 (.tmp 3) (.tmp 10) rfl w1.heap.size (iv (sumL s s.size)).toArray rfl rfl 46 Z4.toArray (row_heap q1) hi46 (size51_iv rfl) (iv_all _) ?_; go_loud (have q2 := q1.row (iv (sumL s s.size)); have b2 := below_row (g := w1.heap.size) (b1.alloc b1.size (.cells Z4.toArray 46)) b1.size (iv (sumL s s.size)).toArray; have hg1 := b1.size; generalize w1.heap.size = g3 at *; clear q1 b1; generalize World.setRow _ _ _ = w2 at *; have e0 : w2.cell? ⟨g3, 0, none⟩ = some (.int .i64 (cnt s s.size 0)) := q2.cell 0; have e1 : w2.cell? ⟨g3, 1, none⟩ = some (.int .i64 (cnt s s.size 1)) := q2.cell 1; have e2 : w2.cell? ⟨g3, 2, none⟩ = some (.int .i64 (cnt s s.size 2)) := q2.cell 2; have e3 : w2.cell? ⟨g3, 3, none⟩ = some (.int .i64 (cnt s s.size 3)) := q2.cell 3)))
  have hw : ∀ c, wrap64 ((cnt s s.size c).tdiv 2) = (cnt s s.size c).tdiv 2 := fun c => by
    have h := cnt_rng s c s.size
    rw [Int.tdiv_eq_ediv_of_nonneg h.1]
    unfold wrap64; omega
  rw [hw 0, hw 1, hw 2, hw 3]
  have rH : Row (w2.alloc (.cells #[.int .i64 ((cnt s s.size 0).tdiv 2), .int .i64 ((cnt s s.size 1).tdiv 2), .int .i64 ((cnt s s.size 2).tdiv 2), .int .i64 ((cnt s s.size 3).tdiv 2)] 46)) w2.heap.size 46 (iv (halfL (sumL s s.size))) := row_new rfl
  have bH := b2.alloc b2.size (.cells #[.int .i64 ((cnt s s.size 0).tdiv 2), .int .i64 ((cnt s s.size 1).tdiv 2), .int .i64 ((cnt s s.size 2).tdiv 2), .int .i64 ((cnt s s.size 3).tdiv 2)] 46)
  have hH := b2.size
  generalize w2.heap.size = H at *
  generalize World.alloc w2 _ = w3 at *
  generalize (cnt s s.size 0).tdiv 2 = c0 at *
  generalize (cnt s s.size 1).tdiv 2 = c1 at *
  generalize (cnt s s.size 2).tdiv 2 = c2 at *
  generalize (cnt s s.size 3).tdiv 2 = c3 at *
  clear e0 e1 e2 e3 q2 b2 hw
  have h4 : (Try.prog.info? 46).map (·.size) = some (iv (halfL (sumL s s.size))).length := info46
  go_loopw [5, 6] (fun v i wr => ∃ (n : Nat) (xs : List Int), i = .int .i64 n ∧ n ≤ s.size + 1 ∧ xs.length = n ∧ Hid (∀ m, m < n → geti xs m = (cntA s m (s.size + 1 - m) : Nat)) ∧ wr.ownsRow w.heap.size 3 1 v n (iv xs) ∧ Row wr H 46 (iv (halfL (sumL s s.size))) ∧ Below w.heap.size w wr) (fun _ i _ => 100 - (intOf i).toNat)
  case atStart => exact ⟨0, [], rfl, by omega, rfl, Lib.hid (fun m hm => absurd hm (by omega)), ⟨rfl, .inl ⟨rfl, rfl⟩⟩, rH, bH⟩
  case round =>
    clear rH bH
    obtain ⟨n, xs, rfl, hn, hxl, HX, o1, rH, b1⟩ := hrel
    have HXL := Lib.hid hxl
    by_cases hns : n ≤ s.size
    · have g1 : decide ((n : Int) ≤ s.size) = true := decide_eq_true (by omega)
      clear hxl
      go_wp2
      go_loopw [7, 8] (fun cv av wr => ∃ a : Nat, cv = .int .i64 (cntA s n a : Nat) ∧ av = .int .i64 a ∧ a ≤ s.size + 1 - n ∧ wr.ownsRow w.heap.size 3 1 u5 n (iv xs) ∧ Row wr H 46 (iv (halfL (sumL s s.size))) ∧ Below w.heap.size w wr) (fun _ a _ => 100 - (intOf a).toNat)
      case atStart => exact ⟨0, rfl, rfl, by omega, o1, rH, b1⟩
      case round =>
        clear o1 rH b1
        obtain ⟨a, rfl, rfl, ha, o1, rH, b1⟩ := hrel
        by_cases han : a + n ≤ s.size
        · have g2 : decide ((a : Int) + n ≤ s.size) = true := decide_eq_true (by omega)
          have hcl := cntA_le s n a
          have HP := Lib.hid (pr_iff han)
          have HLE := Lib.hid (fun w => Letters_any (s.extract a (a + n)) w (by rw [ByteArray.size_extract]; omega) (okC_ext ho han))
          have E46 := eq46 (x := sumL (s.extract a (a + n)) (s.extract a (a + n)).size) (y := halfL (sumL s s.size)) rfl rfl
          have E46' := fun w => (E46 w).trans (by rw [HP.out])
          go_wp2
          refine wp_region_class_all (C := fun w' => ∃ u : After _, w' = u.v) (by kernel_rfl) (by kernel_rfl) (isAfter_start _) ?_
          try simp only [Act.put]
          repeat (first | ((with_reducible refine (?_ : wpQuiet _ _ _ _ (Oper.mk (some 45) _ _ _ _ _ :: _) _); go_big_quiet_want); refine quiet_load_row 46 (.tmp 4) rfl H rfl 46 (iv (halfL (sumL s s.size))) _ (fun _ hc => after_row rH hc) Try.underlying46 rfl h4 ?_; simp only [Act.put, List.setIfInBounds_toArray, List.set_cons_zero, List.set_cons_succ]; go_big_quiet_on) | ((with_reducible refine (?_ : wpQuiet _ _ _ _ (Oper.mk (some 46) _ _ _ _ _ :: _) _); go_big_quiet_want); refine quiet_eql46 (.tmp 44) (.tmp 45) rfl _ _ (pr s n a) rfl rfl E46' ?_; simp only [Act.put, List.setIfInBounds_toArray, List.set_cons_zero, List.set_cons_succ]; go_big_quiet_on) | go_big_quiet_step ((with_reducible refine (HLE.out _).mono ?_; rintro e w8 ⟨rfl, b8⟩; exact ⟨rfl, After.done _ b8⟩)))
          refine wpQuiet_nil ?_
          rintro _ ⟨ua, rfl⟩
          have o1' := o1.kept' ua.h
          have rH' := rH.below ua.h
          have b1' := b1.trans (ua.h.mono b1.size)
          clear o1 rH b1 E46 E46'
          generalize ua.v = w4 at *
          have HC := Lib.hid (show cntA s n (a + 1) = cntA s n a + if pr s n a then 1 else 0 from rfl)
          cases hp : pr s n a
          · rw [hp] at HC
            go_wp2
            go_roundw
            case rel => exact ⟨a + 1, by rw [HC.out]; rfl, by go_num, by omega, o1', rH', b1'⟩
            case measure => simp [intOf]; omega
          · rw [hp] at HC
            have HC2 := Lib.hid (show cntA s n (a + 1) = cntA s n a + 1 from HC.out)
            generalize cntA s n a = y at *
            go_wp2
            go_roundw
            case rel => exact ⟨a + 1, by rw [HC2.out]; go_num, by go_num, by omega, o1', rH', b1'⟩
            case measure => simp [intOf]; omega
        · have g2 : decide ((a : Int) + n ≤ s.size) = false := decide_eq_false (by omega)
          obtain rfl : a = s.size + 1 - n := by omega
          have hcl := cntA_le s n (s.size + 1 - n)
          generalize hy : cntA s n (s.size + 1 - n) = y at *
          have HY := Lib.hid hy
          clear hy
          have hnr : Row (wr.alloc (.cells #[.int .i64 (y : Int)] 3)) wr.heap.size 3 [.int .i64 (y : Int)] := row_new rfl
          have hbz := b1.size
          go_wp2_with (at_builtin; refine wpList_append_own_at _ rfl (.tmp 49) (.tmp 51) 23 rfl w.heap.size 3 j0 (.int .i64 0) 1 8 Try.underlying23 ji jz0 jz1 jz2 rfl (by decide) _ _ _ rfl (o1.alloc _) ⟨wr.heap.size, 0, none⟩ 1 1 [.int .i64 (y : Int)] rfl rfl (news_one hnr) (by simp [Value.oneCell']) (by unfold maxLen; omega) (by omega) (by simp; omega) ?_; intro v2 w2 o2 hg2 _ _)
          have b2 := b1.trans (app1' o1 hbz hg2)
          have r2 := (rH.alloc (.cells #[.int .i64 (y : Int)] 3)).grown hg2 (rH.not_own o1 (by decide))
          go_roundw
          case rel =>
            refine ⟨n + 1, xs ++ [(y : Int)], by go_num, by omega, by simp [HXL.out], Lib.hid (fun m hm => ?_), by rw [iv_snoc]; exact o2, r2, b2⟩
            rcases Nat.lt_or_ge m n with h | h
            · rw [geti_app_left (by rw [HXL.out]; exact h)]; exact HX.out m h
            · obtain rfl : m = n := by omega
              have := geti_app_last (xs := xs) (y := (y : Int))
              rw [HXL.out] at this
              rw [this, HY.out]
          case measure => simp [intOf]; omega
    · obtain rfl : n = s.size + 1 := by omega
      have g1 : decide (((s.size + 1 : Nat) : Int) ≤ s.size) = false := decide_eq_false (by omega)
      have HE := Lib.hid (hlvL_all hs ho hxl (fun m hm => HX.out m (by omega)))
      clear hxl
      go_wp2
      obtain ⟨A, c, rfl, -, hi, -⟩ := own_sl o1
      go_ret
      exact ⟨A, c, by rw [← HE.out]; rfl, b1, by rw [← HE.out]; exact hi⟩
end Go.Proofs.Ytopeppnajbnfgaa
