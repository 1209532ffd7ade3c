/- Square-free words, visited in their order: the closure. -/
import Derived.Test.YtoklnpiehbnalaaAP
import Derived.Test.YtoklnpiehbnalaaAC
import Derived.Lib.OthersKept
import Derived.Laws.EntriesVeiled
namespace Go.Proofs.Ytoklnpiehbnalaa
open Go.RowKit Go.Shelf Go.PlainAid
attribute [local go_sem] Oper.semAt_some
set_option maxHeartbeats 2000000
set_option maxRecDepth 100000
/-- The words of the first c choices of a further letter. -/
def extsTo (k r : Nat) (x : List Nat) (c : Nat) : List (List Nat) := (((List.range c).map fun c => x ++ [c]).filter fun y => !endS y).flatMap (exts k r)
theorem exts_succ (k r : Nat) (x : List Nat) : exts k (r + 1) x = extsTo k r x k := rfl
theorem extsTo_zero (k r : Nat) (x : List Nat) : extsTo k r x 0 = [] := rfl
theorem extsTo_no {k r c : Nat} {x : List Nat} (h : endS (x ++ [c]) = true) : extsTo k r x (c + 1) = extsTo k r x c := by
  unfold extsTo; rw [List.range_succ, List.map_append, List.filter_append]; simp [h]
theorem extsTo_yes {k r c : Nat} {x : List Nat} (h : endS (x ++ [c]) = false) : extsTo k r x (c + 1) = extsTo k r x c ++ exts k r (x ++ [c]) := by
  unfold extsTo; rw [List.range_succ, List.map_append, List.filter_append, List.flatMap_append]; simp [h]
theorem extsTo_step (k r c : Nat) (x : List Nat) : extsTo k r x c <+: extsTo k r x (c + 1) := by
  cases h : endS (x ++ [c])
  · rw [extsTo_yes h]; exact List.prefix_append _ _
  · rw [extsTo_no h]; exact List.prefix_refl _
theorem extsTo_pre (k r : Nat) (x : List Nat) {i j : Nat} (h : i ≤ j) : extsTo k r x i <+: extsTo k r x j := by
  induction j with
  | zero => obtain rfl : i = 0 := by omega
            exact List.prefix_refl _
  | succ j ih =>
    rcases Nat.lt_or_ge i (j + 1) with h1 | h1
    · exact (ih (by omega)).trans (extsTo_step k r j x)
    · obtain rfl : i = j + 1 := by omega
      exact List.prefix_refl _
/-- The first letters. -/
def abc : ByteArray := ⟨#[97, 98, 99, 100]⟩
theorem abc_next {W : World} {I c k : Nat} {ty : TypeId} (hk : k ≤ 4) (h : W.heap[I]? = some (.stringIter (abc.extract 0 k) c)) (hc : c < k) :
    (Instr.next (.pointer (some ⟨I, 0, none⟩)) true ty).run Try.prog W = .ok (.tuple #[.bool true, .int .i64 c, .int .i32 (97 + (c : Int))]) (W.putObj I (.stringIter (abc.extract 0 k) (c + 1))) := by
  have hs : c < (abc.extract 0 k).size := by rw [ByteArray.size_extract]; show c < min k 4 - 0; omega
  have hb : ((abc.extract 0 k)[c]'hs).toNat = 97 + c := by
    have : k = 1 ∨ k = 2 ∨ k = 3 ∨ k = 4 := by omega
    rcases this with rfl | rfl | rfl | rfl
    · obtain rfl : c = 0 := by omega
      rfl
    · obtain rfl | rfl : c = 0 ∨ c = 1 := by omega
      · rfl
      · rfl
    · obtain rfl | rfl | rfl : c = 0 ∨ c = 1 ∨ c = 2 := by omega
      · rfl
      · rfl
      · rfl
    · obtain rfl | rfl | rfl | rfl : c = 0 ∨ c = 1 ∨ c = 2 ∨ c = 3 := by omega
      · rfl
      · rfl
      · rfl
      · rfl
  rw [Go.Lib.run_next_ascii_at (P := Try.prog) W I _ c ty h hs (by omega), hb]
  rfl
theorem abc_end {W : World} {I k : Nat} {ty : TypeId} (hk : k ≤ 4) (h : W.heap[I]? = some (.stringIter (abc.extract 0 k) k)) :
    (Instr.next (.pointer (some ⟨I, 0, none⟩)) true ty).run Try.prog W = .ok (.tuple #[.bool false]) W :=
  Go.Lib.run_next_end_at (P := Try.prog) W I _ k ty h (by rw [ByteArray.size_extract]; show ¬ k < min k 4 - 0; omega)
theorem enc_one {c : Nat} (h : c < 4) : Utf8.encode (97 + (c : Int)) = wS [c] := by
  obtain rfl | rfl | rfl | rfl : c = 0 ∨ c = 1 ∨ c = 2 ∨ c = 3 := by omega
  · rfl
  · rfl
  · rfl
  · rfl
/-- What the closure has captured: the length, the function that is called, the letters, the closure itself. -/
structure Env (l gn gy gq gx n k : Nat) (W : World) : Prop where
  rn : Row W gn 3 [.int .i64 n]
  ry : Row W gy 29 [.func (.yield l) #[] #[]]
  rk : Row W gq 3 [.int .i64 k]
  rx : Row W gx 29 [.func (.func 74) #[] #[.pointer (some ⟨gn, 0, none⟩), .pointer (some ⟨gy, 0, none⟩), .pointer (some ⟨gq, 0, none⟩), .pointer (some ⟨gx, 0, none⟩)]]
theorem Env.keep {l gn gy gq gx n k B : Nat} {X : Nat → Prop} {W W' : World} (h : Env l gn gy gq gx n k W) (hk : KeepA B X W W') (h1 : B ≤ gn ∨ X gn) (h2 : B ≤ gy ∨ X gy) (h3 : B ≤ gq ∨ X gq) (h4 : B ≤ gx ∨ X gx) : Env l gn gy gq gx n k W' :=
  ⟨hk.row h.rn h1, hk.row h.ry h2, hk.row h.rk h3, hk.row h.rx h4⟩
/-- A word of the first k letters. -/
def letW (k : Nat) (x : List Nat) : Prop := ∀ b, b ∈ x → b < k
theorem letW_ok {k : Nat} (hk : k ≤ 4) {x : List Nat} (h : letW k x) : okW x := fun b hb => by have := h b hb; omega
theorem letW_snoc {k c : Nat} {x : List Nat} (h : letW k x) (hc : c < k) : letW k (x ++ [c]) := fun b hb => by
  rcases List.mem_append.1 hb with hb | hb
  · exact h b hb
  · have : b = c := by simpa using hb
    omega
theorem extend_any (F : Fence) (hO : Open F) (hro : F.round = none) (l n k gn gy gq gx n0 m : Nat) (X : Nat → Prop) (hn : n ≤ 1000) (hk : k ≤ 4) (hX1 : n0 ≤ gn ∨ X gn) (hX2 : n0 ≤ gy ∨ X gy) (hX3 : n0 ≤ gq ∨ X gq) (hX4 : n0 ≤ gx ∨ X gx) (J Jx : List (List Nat) → World → Prop) (hJ : AbAll n0 J)
    (hY : ∀ pre x W1, J pre W1 → (x.length = n ∧ letW k x) → YieldAt F m Try.prog l #[.string (wS x)] W1 fun e W' => (e = .returned (.bool true) ∧ J (pre ++ [x]) W' ∧ KeepA n0 X W1 W') ∨ (e = .returned (.bool false) ∧ Jx (pre ++ [x]) W' ∧ KeepA n0 X W1 W')) :
    ∀ (r mm : Nat) (x : List Nat) (pre : List (List Nat)) (W : World), x.length + r = n → letW k x → J pre W → Env l gn gy gq gx n k W → n0 ≤ W.heap.size → (∀ i, X i → i < n0) →
      CallsIn F mm Try.prog 74 #[.string (wS x), .pointer (some ⟨gn, 0, none⟩), .pointer (some ⟨gy, 0, none⟩), .pointer (some ⟨gq, 0, none⟩), .pointer (some ⟨gx, 0, none⟩)] W fun e W' =>
        KeepA n0 X W W' ∧ ((e = .returned (.bool true) ∧ J (pre ++ exts k r x) W') ∨ (e = .returned (.bool false) ∧ ∃ ys, ys <+: exts k r x ∧ Jx (pre ++ ys) W')) := by
  intro r
  induction r with
  | zero =>
    intro mm x pre W hl hx hj hE hn0 hXn
    have hF := hO.fn
    have hd := hO.depth
    have F74 := hF 74
    obtain ⟨fn, tmps, assign, body, hy, hR⟩ := hY pre x W hj ⟨by omega, hx⟩
    have c1 : W.cell? ⟨gn, 0, none⟩ = some (.int .i64 n) := hE.rn.cell 0
    have c2 : W.cell? ⟨gy, 0, none⟩ = some (.func (.yield l) #[] #[]) := hE.ry.cell 0
    have g1 : (((wS x).size : Int) == (n : Int)) = true := by rw [beq_iff_eq, wS_len]; omega
    have hsz : (wS x).size ≤ 1000 := by rw [wS_len]; omega
    generalize wS x = s at *
    refine callsIn_of_wp Try.func74 rfl F74 ?_ hro
    simp only [Try.ntmps74, List.size_toArray, List.length_cons, List.length_nil, Nat.reduceAdd, Nat.reduceSub, Array.replicate_succ, Array.replicate_zero, List.push_toArray, List.append_toArray, List.nil_append, List.cons_append]
    gi_wp2
    refine round_depth hO (hR.mono ?_)
    rintro e W3 (⟨rfl, hJ3, hk3⟩ | ⟨rfl, hJx3, hk3⟩)
    · gi_wp2
      go_ret
      exact ⟨hk3, .inl ⟨rfl, hJ3⟩⟩
    · gi_wp2
      go_ret
      exact ⟨hk3, .inr ⟨rfl, [x], List.prefix_refl _, hJx3⟩⟩
  | succ r ih =>
    intro mm x pre W hl hx hj hE hn0 hXn
    have hF := hO.fn
    have hd := hO.depth
    have F74 := hF 74
    have c1 : W.cell? ⟨gn, 0, none⟩ = some (.int .i64 n) := hE.rn.cell 0
    have c3 : W.cell? ⟨gq, 0, none⟩ = some (.int .i64 k) := hE.rk.cell 0
    have g1 : (((wS x).size : Int) == (n : Int)) = false := by rw [beq_eq_false_iff_ne, wS_len]; omega
    have hsz : (wS x).size ≤ 1000 := by rw [wS_len]; omega
    generalize hs : wS x = s at *
    have HS := Lib.hid hs
    clear hs
    refine callsIn_of_wp Try.func74 rfl F74 ?_ hro
    simp only [Try.ntmps74, List.size_toArray, List.length_cons, List.length_nil, Nat.reduceAdd, Nat.reduceSub, Array.replicate_succ, Array.replicate_zero, List.push_toArray, List.append_toArray, List.nil_append, List.cons_append]
    gi_wp2
    have hj0 : J (pre ++ extsTo k r x 0) (W.iter (abc.extract 0 k) 0) := by rw [extsTo_zero, List.append_nil]; exact hJ.alloc _ hj
    have hi0 : (W.iter (abc.extract 0 k) 0).heap[W.heap.size]? = some (.stringIter (abc.extract 0 k) 0) := World.iter_heap W _ 0
    have hk0 : KeepA n0 X W (W.iter (abc.extract 0 k) 0) := KeepA.of_below ((Below.refl _ W).alloc (Nat.le_refl _) _)
    have HEN := Lib.hid (fun c (hc : c < 4) => enc_one hc)
    have HAD : Hid (∀ c, c < k → ∀ w, (Op.stringOp .add s (wS [c])).run Try.prog w = .ok (.string (wS (x ++ [c]))) w) := Lib.hid (fun c hc w => by
      rw [← wS_app, HS.out]
      exact run_string_add_sum w _ _ (by rw [wS_len]; simp; omega))
    have HES : Hid (∀ c V, c < k → Calls Try.prog 72 #[.string (wS (x ++ [c]))] V fun e w' => e = .returned (.bool (endS (x ++ [c]))) ∧ ∃ n, w' = V.drewN n) := Lib.hid (fun c V hc => endsInSquare_any (x ++ [c]) V (letW_ok hk (letW_snoc hx hc)) (by simp; omega))
    have HE := Lib.hid hE
    have HJ : Hid (∀ ys V i o, J ys V → n0 ≤ i → J ys (V.putObj i o)) := Lib.hid (fun ys V i o h1 h2 => hJ.putObj o h1 h2)
    have HJD : Hid (∀ ys V m, J ys V → J ys (V.drewN m)) := Lib.hid (fun ys V m h => hJ ys V _ none h ⟨rfl, rfl, rfl, Nat.le_refl _, fun _ _ _ => rfl⟩ (fun r e => by cases e))
    have HIH := Lib.hid ih
    have HNO := Lib.hid (fun c h => @extsTo_no k r c x h)
    have HYES := Lib.hid (fun c h => @extsTo_yes k r c x h)
    have HPRE := Lib.hid (fun c (h : c ≤ k) => extsTo_pre k r x h)
    have HXS : Hid (exts k (r + 1) x = extsTo k r x k) := Lib.hid (exts_succ k r x)
    have HOK : Hid (∀ c, c < k → letW k (x ++ [c])) := Lib.hid (fun c hc => letW_snoc hx hc)
    have hxl : x.length + r + 1 = n := by omega
    have HXL := Lib.hid hxl
    have HY := Lib.hid hY
    clear hj hE c1 c3 hJ ih hx hl hY hxl
    change Code.wpIn _ _ _ _ _ _ (W.iter (abc.extract 0 k) 0)
    generalize W.iter (abc.extract 0 k) 0 = W1 at *
    gi_loopg [] k (fun d wr => ∃ c : Nat, d = k - c ∧ c ≤ k ∧ wr.heap[W.heap.size]? = some (.stringIter (abc.extract 0 k) c) ∧ J (pre ++ extsTo k r x c) wr ∧ KeepA n0 X W wr)
    case atStart => exact ⟨0, rfl, by omega, hi0, hj0, hk0⟩
    case round =>
      clear hi0 hj0 hk0
      obtain ⟨c, hd, hc, hi, hj, hkp⟩ := hrel
      by_cases hlt : c < k
      · have hnx := fun ty => abc_next (ty := ty) hk hi hlt
        have henc := HEN.out c (by omega)
        have hadd := HAD.out c hlt
        have HES1 := Lib.hid (fun V => HES.out c V hlt)
        have hn0' : n0 ≤ W.heap.size := hn0
        have hIlt : W.heap.size < wr.heap.size := (Array.getElem?_eq_some_iff.1 hi).1
        have hj2 := HJ.out _ _ W.heap.size (.stringIter (abc.extract 0 k) (c + 1)) hj hn0
        have hi2 : (wr.putObj W.heap.size (.stringIter (abc.extract 0 k) (c + 1))).heap[W.heap.size]? = some (.stringIter (abc.extract 0 k) (c + 1)) := World.putObj_heap_same hIlt
        have hk2 : KeepA n0 X W (wr.putObj W.heap.size (.stringIter (abc.extract 0 k) (c + 1))) := ⟨by have := hkp.size; simp; omega, fun j h1 h2 => (World.putObj_heap_other (by omega)).trans (hkp.same j h1 h2)⟩
        clear hi hj hkp
        generalize hV : wr.putObj W.heap.size (.stringIter (abc.extract 0 k) (c + 1)) = V at *
        clear hV
        have HNO1 := Lib.hid (HNO.out c)
        have HYES1 := Lib.hid (HYES.out c)
        have HOK1 := Lib.hid (HOK.out c hlt)
        have HPR1 := Lib.hid (HPRE.out (c + 1) (by omega))
        have HIH1 := Lib.hid (fun mm pre W h1 h2 => HIH.out mm (x ++ [c]) pre W h1 HOK1.out h2)
        have HXL1 : Hid ((x ++ [c]).length + r = n) := Lib.hid (by have := HXL.out; simp; omega)
        have hk1000 : (wS (x ++ [c])).size ≤ 2000 := by rw [wS_len]; have := HXL.out; simp; omega
        clear HEN HAD HES HNO HYES HOK HPRE HIH
        obtain ⟨u, hu⟩ : ∃ u, wS (x ++ [c]) = u := ⟨_, rfl⟩
        rw [hu] at hadd HES1 HIH1 hk1000
        generalize wS [c] = t at *
        cases hb : endS (x ++ [c])
        · have HX1 := Lib.hid (HYES1.out hb)
          rw [hb] at HES1
          clear hb hu HNO1 HYES1
          have hE2 : Env l gn gy gq gx n k V := HE.out.keep hk2 hX1 hX2 hX3 hX4
          have c4 : V.cell? ⟨gx, 0, none⟩ = some (.func (.func 74) #[] #[.pointer (some ⟨gn, 0, none⟩), .pointer (some ⟨gy, 0, none⟩), .pointer (some ⟨gq, 0, none⟩), .pointer (some ⟨gx, 0, none⟩)]) := hE2.rx.cell 0
          have HE2 : Hid (∀ m, Env l gn gy gq gx n k (V.drewN m)) := Lib.hid (fun m => ⟨hE2.rn, hE2.ry, hE2.rk, hE2.rx⟩)
          have HJ2 := Lib.hid (fun m => HJD.out _ _ m hj2)
          have HSZ : Hid (∀ m, n0 ≤ (V.drewN m).heap.size) := Lib.hid (fun m => by have := (Array.getElem?_eq_some_iff.1 hi2).1; show n0 ≤ V.heap.size; omega)
          have HIH2 := Lib.hid (fun mm m => HIH1.out mm (pre ++ extsTo k r x c) (V.drewN m) HXL1.out (HJ2.out m) (HE2.out m) (HSZ.out m) hXn)
          clear hE2 hj2 HIH1
          gi_wp2_with (first
            | (gi_at_call 72; refine (hO.lift _ (HES1.out _)).mono ?_; rintro e W3 ⟨rfl, m3, rfl⟩)
            | (gi_at_call 74; refine (HIH2.out _ _).mono ?_; rintro e W4 ⟨hk4, (⟨rfl, hj4⟩ | ⟨rfl, ys, hys, hjx⟩)⟩))
          · gi_roundg (k - (c + 1))
            case measure => omega
            case rel =>
              refine ⟨c + 1, rfl, by omega, ?_, ?_, ?_⟩
              · exact (hk4.same W.heap.size (.inl hn0') (Array.getElem?_eq_some_iff.1 hi2).1).trans hi2
              · rw [HX1.out, ← List.append_assoc]; exact hj4
              · exact hk2.trans ⟨hk4.size, hk4.same⟩
          · go_ret
            refine ⟨hk2.trans ⟨hk4.size, hk4.same⟩, .inr ⟨rfl, extsTo k r x c ++ ys, ?_, by rw [← List.append_assoc]; exact hjx⟩⟩
            rw [HXS.out]
            refine List.IsPrefix.trans ?_ HPR1.out
            rw [HX1.out]
            exact (List.prefix_append_right_inj _).2 hys
        · have HX1 := Lib.hid (HNO1.out hb)
          rw [hb] at HES1
          clear hb hu HNO1 HYES1 HIH1
          gi_wp2_with (gi_at_call 72; refine (hO.lift _ (HES1.out _)).mono ?_; rintro e W3 ⟨rfl, m3, rfl⟩)
          gi_roundg (k - (c + 1))
          case measure => omega
          case rel => exact ⟨c + 1, rfl, by omega, hi2, by rw [HX1.out]; exact HJD.out _ _ _ hj2, ⟨hk2.size, hk2.same⟩⟩
      · obtain rfl : c = k := by omega
        have hnx := fun ty => abc_end (ty := ty) hk hi
        clear HEN HAD HES HNO HYES HOK HPRE HIH
        gi_wp2
        go_ret
        exact ⟨hkp, .inl ⟨rfl, by rw [HXS.out]; exact hj⟩⟩
end Go.Proofs.Ytoklnpiehbnalaa
