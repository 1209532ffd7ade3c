/- The lists of positions. -/
import Derived.Test.YtopeppnajbnfgaaFM
namespace Go.Proofs.Ytopeppnajbnfgaa
open Go.RowKit Go.Shelf
attribute [local go_sem] Oper.semAt_some
set_option maxHeartbeats 1000000
set_option maxRecDepth 100000
/-- The lists that begin with p and have k more positions from f to n - 1, in their order. -/
def exts (n : Nat) : Nat → List Int → Nat → List (List Int)
  | 0, p, _ => [p]
  | k + 1, p, f => (List.range (n - f)).flatMap fun i => exts n k (p ++ [((f + i : Nat) : Int)]) (f + i + 1)
def extsTo (n k : Nat) (p : List Int) (f i : Nat) : List (List Int) := (List.range i).flatMap fun i => exts n k (p ++ [((f + i : Nat) : Int)]) (f + i + 1)
theorem extsTo_succ (n k : Nat) (p : List Int) (f i : Nat) : extsTo n k p f (i + 1) = extsTo n k p f i ++ exts n k (p ++ [((f + i : Nat) : Int)]) (f + i + 1) := by
  unfold extsTo; rw [List.range_succ, List.flatMap_append]; simp
theorem extsTo_pre (n k : Nat) (p : List Int) (f : Nat) {i j : Nat} (h : i ≤ j) : extsTo n k p f i <+: extsTo n k p f j := by
  induction j with
  | zero => obtain rfl : i = 0 := by omega
            exact List.prefix_refl _
  | succ j ih =>
    rcases Nat.lt_or_ge i (j + 1) with h1 | h1
    · rw [extsTo_succ]; exact (ih (by omega)).trans (List.prefix_append _ _)
    · obtain rfl : i = j + 1 := by omega
      exact List.prefix_refl _
theorem exts_eq (n k : Nat) (p : List Int) (f : Nat) : exts n (k + 1) p f = extsTo n k p f (n - f) := rfl
theorem room_open {F : Fence} (hO : Open F) (k : Nat) : F.room k := by
  unfold Fence.room
  rw [hO.depth]
  intro d h; cases h
theorem calls_depth {F : Fence} (hO : Open F) {a b : Nat} {P : Program} {f : FuncId} {args : Array Value} {w : World} {R : Ending → World → Prop} (h : CallsIn F a P f args w R) : CallsIn F b P f args w R := ⟨h.1, fun cs _ => h.2 cs (room_open hO _)⟩
theorem round_depth {F : Fence} (hO : Open F) {a b : Nat} {P : Program} {l : Nat} {f : FuncId} {tmps : Array Value} {assign body : Code} {w : World} {R : Ending → World → Prop} (h : RoundIn F a P l f tmps assign body w R) : RoundIn F b P l f tmps assign body w R := ⟨h.1, fun c cs _ => h.2 c cs (room_open hO _)⟩
theorem grown_set {w : World} {p : Addr} (u : Value) : w.grownBy (w.setCell p u) (some p.block) := ⟨rfl, rfl, rfl, by simp [World.setCell], fun k _ hne => Below.heap_setCell w p u k (fun e => hne (by rw [e]))⟩
theorem extend_any (F : Fence) (hO : Open F) (hro : F.round = none) (l M n B n0 m : Nat) (X : Nat → Prop) (hM : M ≤ 1000) (hn : n ≤ 1000) (hB : n0 ≤ B) (J Jx : List (List Int) → World → Prop) (hJ : AbAll n0 J)
    (hY : ∀ pre x W1, J pre W1 → (x.length = M ∧ Row W1 B 3 (iv x) ∧ ∀ y ∈ x, 0 ≤ y ∧ y < (n : Int)) → YieldAt F m Try.prog l #[.slice (some ⟨B, 0, none⟩) M M] W1 fun e W' => (e = .returned (.bool true) ∧ J (pre ++ [x]) W' ∧ KeepA n0 X W1 W') ∨ (e = .returned (.bool false) ∧ Jx (pre ++ [x]) W' ∧ KeepA n0 X W1 W')) :
    ∀ (k mm : Nat) (p cs : List Int) (f : Nat) (pre : List (List Int)) (W : World), p.length + k = M → cs.length = M → cs.take p.length = p → f ≤ 1000 → (∀ y ∈ p, 0 ≤ y ∧ y < (n : Int)) → J pre W → Row W B 3 (iv cs) →
      CallsIn F mm Try.prog 58 #[.slice (some ⟨B, 0, none⟩) p.length M, .int .i64 f, .int .i64 n, .int .i64 k, .func (.yield l) #[] #[]] W fun e W' =>
        (e = .returned (.bool true) ∧ J (pre ++ exts n k p f) W' ∧ ∃ cs', cs'.length = M ∧ cs'.take p.length = p ∧ Row W' B 3 (iv cs')) ∨ (e = .returned (.bool false) ∧ ∃ ys, ys <+: exts n k p f ∧ Jx (pre ++ ys) W') := by
  intro k
  induction k with
  | zero =>
    intro mm p cs f pre W hp hc ht hf hpy hj hr
    have hcp : cs = p := by rw [← ht, List.take_of_length_le (by omega)]
    subst hcp
    have hF := hO.fn
    have hd := hO.depth
    have F58 := hF 58
    obtain ⟨fn, tmps, assign, body, hy, hR⟩ := hY pre cs W hj ⟨hc, hr, hpy⟩
    have hpM : cs.length = M := hc
    rw [hc]
    refine callsIn_of_wp Try.func58 rfl F58 ?_ hro
    simp only [Try.ntmps58, List.size_toArray, List.length_cons, List.length_nil, Nat.reduceAdd, Nat.reduceSub, Array.replicate_succ, Array.replicate_zero, List.push_toArray, List.append_toArray, List.nil_append, List.cons_append]
    gi_wp2
    refine round_depth hO (hR.mono ?_)
    rintro e W3 (⟨rfl, hJ3, hk3⟩ | ⟨rfl, hJx3, -⟩)
    · gi_wp2
      go_ret
      exact .inl ⟨rfl, hJ3, cs, hc, by rw [List.take_of_length_le (by omega)], hk3.row hr (.inl (by omega))⟩
    · gi_wp2
      go_ret
      exact .inr ⟨rfl, [cs], List.prefix_refl _, hJx3⟩
  | succ k ih =>
    intro mm p cs f pre W hp hc ht hf hpy hj hr
    have hF := hO.fn
    have hd := hO.depth
    have F58 := hF 58
    obtain ⟨K, hK⟩ : ∃ K, K = k + 1 := ⟨_, rfl⟩
    have g0 : ((K : Int) == 0) = false := by simp; omega
    have hKk : (k : Int) = (K : Int) - 1 := by omega
    rw [← hK] at hp ⊢
    have HK := Lib.hid hK
    have HKP := Lib.hid hp
    have hpM : p.length < M := by omega
    have hK1 : 1 ≤ K := by omega
    have hK2 : K ≤ 1000 := by omega
    clear hK hp
    refine callsIn_of_wp Try.func58 rfl F58 ?_ hro
    simp only [Try.ntmps58, List.size_toArray, List.length_cons, List.length_nil, Nat.reduceAdd, Nat.reduceSub, Array.replicate_succ, Array.replicate_zero, List.push_toArray, List.append_toArray, List.nil_append, List.cons_append]
    gi_wp2
    gi_loopw [11] (fun a wr => ∃ (i : Nat) (cs : List Int), i ≤ n - f ∧ a = .int .i64 ((f + i : Nat) : Int) ∧ cs.length = M ∧ cs.take p.length = p ∧ J (pre ++ extsTo n k p f i) wr ∧ Row wr B 3 (iv cs)) (fun a _ => 3000 - (intOf a).toNat)
    case atStart => exact ⟨0, cs, by omega, by simp, hc, ht, by simpa [extsTo] using hj, hr⟩
    case round =>
      clear hr hj ht hc
      obtain ⟨i, cs, hi, rfl, hc, ht, hj, hr⟩ := hrel
      by_cases hlt : f + i < n
      · have q2 := hr.alloc (.cells #[.int .i64 ((f : Int) + i)] 3)
        have c0 := ivR q2 (i := p.length) (by omega)
        have f0 := q2.free p.length
        have q3 := (hr.set p.length (.int .i64 ((f : Int) + i))).alloc (.cells #[.int .i64 ((f : Int) + i)] 3)
        rw [iv_set] at q3
        have hBl := hr.lt
        have hj3 := hJ.alloc (.cells #[.int .i64 ((f : Int) + i)] 3) (hJ _ _ _ (some B) hj (grown_set (p := ⟨B, p.length, none⟩) (.int .i64 ((f : Int) + i))) (fun r e => by cases e; exact hB))
        have hn1 : ¬ M < p.length + 1 := by omega
        have hc3 : (cs.set p.length ((f : Int) + i)).length = M := by simpa using hc
        have ht3 : (cs.set p.length ((f : Int) + i)).take (p ++ [((f + i : Nat) : Int)]).length = p ++ [((f + i : Nat) : Int)] := by
          rw [List.length_append, List.length_singleton, List.take_succ_eq_append_getElem (by simp; omega), List.take_set_of_le (Nat.le_refl _), ht]
          simp
        have IH := ih (mm - 1) (p ++ [((f + i : Nat) : Int)]) _ (f + i + 1) _ _ (by have := HK.out; have := HKP.out; simp; omega) hc3 ht3 (by omega) (fun y hy => by
          rcases List.mem_append.1 hy with h | h
          · exact hpy y h
          · have : y = ((f + i : Nat) : Int) := by simpa using h
            omega) hj3 q3
        rw [List.length_append, List.length_singleton] at IH
        have hpf : ((f + i + 1 : Nat) : Int) = (f : Int) + i + 1 := by omega
        rw [hpf, hKk] at IH
        have HIH := Lib.hid IH
        clear IH hj3 q3 q2 hr hj ht hpf hKk
        generalize geti cs p.length = z at *
        have HES := Lib.hid (extsTo_succ n k p f i)
        have HEP := Lib.hid (extsTo_pre n k p f (i := i + 1) (j := n - f) (by omega))
        gi_wp2_with (gi_at_call 58; refine HIH.out.mono ?_; rintro e W3 (⟨rfl, hj4, cs', hc4, ht4, hr4⟩ | ⟨rfl, ys, hys, hjx⟩))
        · go_roundw
          case rel =>
            refine ⟨i + 1, cs', by omega, by go_num, hc4, ?_, by rw [HES.out, ← List.append_assoc]; exact hj4, hr4⟩
            have h := congrArg (List.take p.length) ht4
            rw [List.take_take, Nat.min_eq_left (by simp), List.take_left] at h
            exact h
          case measure => simp [intOf]; omega
        · go_ret
          refine .inr ⟨rfl, extsTo n k p f i ++ ys, ?_, by rw [← List.append_assoc]; exact hjx⟩
          rw [HK.out, exts_eq]
          refine List.IsPrefix.trans ?_ HEP.out
          rw [HES.out]
          exact List.prefix_append_right_inj _ |>.2 hys
      · gi_wp2
        go_ret
        obtain rfl : i = n - f := by omega
        exact .inl ⟨rfl, by rw [HK.out]; exact hj, cs, hc, ht, hr⟩
end Go.Proofs.Ytopeppnajbnfgaa
