/- Free. -/
import Derived.Test.YtokjdadgdfmffaaPB
import Derived.Laws.CopyOwn
import Derived.Deep.RegionLaw
import Derived.Test.YtokjdadgdfmffaaMK
/- slices.Repeat of one element. -/
namespace Go.Proofs.Ytokjdadgdfmffaa
open Go.RowKit
set_option maxHeartbeats 1000000
set_option maxRecDepth 100000
theorem run_copy2 {P : Program} (w : World) (dT sT ty elem : TypeId) (g o dLen dCap : Nat) (a : Addr) (sLen sCap N : Nat) (cur : Array Value) (t : TypeId) (cs : List Value)
    (hu : P.underlying dT = some (.slice elem)) (hs : (P.info? elem).map (·.size) = some 2)
    (hg : w.heap[g]? = some (.cells cur t (0, 0))) (hN : N = Nat.min sLen dLen) (hn : cs.length = N * 2)
    (hsrc : ∀ j v, cs[j]? = some v → w.cell? (a.add j) = some v) (hfit : o + cs.length ≤ cur.size) (h1 : ∀ v ∈ cs, v.oneCell' = true) :
    (Builtin.copy_ #[dT, sT] ty #[.slice (some ⟨g, o, none⟩) dLen dCap, .slice (some a) sLen sCap]).run P w =
      .ok (goInt N) (w.setRow g (cur.toList.take o ++ cs ++ cur.toList.drop (o + cs.length)).toArray) := by
  have hl := run_loadCells_list (P := P) w a cs hsrc
  have hst := run_storeCells_at P g o t cs 0 cur w hg (by simpa using hfit) h1
  cases hq : P.info? elem with
  | none => simp [hq] at hs
  | some i =>
    have hi : i.size = 2 := by simpa [hq] using hs
    simp [Builtin.copy_, run_underlying hu, Builtin.lenOf, Builtin.firstCells, sizeOf, typeInfo, hq, hi, ← hN, ← hn, hl, hst]
theorem step_copy2 {P : Program} {ops : Array Oper} {o : Oper} {a : Act} {w : World} {K : Act → World → Prop} {Q : Exit → Act → World → Prop} {E : Prop} (hgd : o.guard = none) (d s : Operand) (dT sT : TypeId)
    (ho : o.op = .call { callee := .builtin .copy, args := #[d, s], argTypes := #[dT, sT] }) {v : Value} {w2 : World} (vd vs : Value) (hd : a.eval d = vd) (hs : a.eval s = vs)
    (hr : (Builtin.copy_ #[dT, sT] o.type #[vd, vs]).run P w = .ok v w2) (h : K (a.put o.dst v) w2) :
    if Region.wanted o (yielded ops a.tmps) = true then Oper.wp P o a w K Q else E := by
  have hw : Region.wanted o (yielded ops a.tmps) = true := by simp [Region.wanted, hgd]
  rw [if_pos hw]
  unfold Oper.wp
  simp [execOp, ho, resolve, invoke, builtin, hd, hs, hr, Result.andThen]
  exact h
def rpL (k n : Nat) (e : Int × Int) : List (Int × Int) := List.replicate n e ++ List.replicate (k - n) (0, 0)
theorem mul_lit : ∀ k : Nat, k ≤ 23 → ∀ w : World, Calls Try.prog 80 #[.int .u64 1, .int .u64 k] w fun e w' => e = .returned (.tuple #[.int .u64 0, .int .u64 k]) ∧ w = w' := by
  intro k hk w
  have h86 : ∀ W, Calls Try.prog 86 #[.int .u64 1, .int .u64 k] W fun e w' => e = .returned (.tuple #[.int .u64 0, .int .u64 k]) ∧ W = w' := fun W => by
    match k, hk with
    | 0, _ =>
      go_enter Try.func86, Try.ntmps86
      go_wp2
      go_ret2
      exact ⟨rfl, rfl⟩
    | 1, _ =>
      go_enter Try.func86, Try.ntmps86
      go_wp2
      go_ret2
      exact ⟨rfl, rfl⟩
    | 2, _ =>
      go_enter Try.func86, Try.ntmps86
      go_wp2
      go_ret2
      exact ⟨rfl, rfl⟩
    | 3, _ =>
      go_enter Try.func86, Try.ntmps86
      go_wp2
      go_ret2
      exact ⟨rfl, rfl⟩
    | 4, _ =>
      go_enter Try.func86, Try.ntmps86
      go_wp2
      go_ret2
      exact ⟨rfl, rfl⟩
    | 5, _ =>
      go_enter Try.func86, Try.ntmps86
      go_wp2
      go_ret2
      exact ⟨rfl, rfl⟩
    | 6, _ =>
      go_enter Try.func86, Try.ntmps86
      go_wp2
      go_ret2
      exact ⟨rfl, rfl⟩
    | 7, _ =>
      go_enter Try.func86, Try.ntmps86
      go_wp2
      go_ret2
      exact ⟨rfl, rfl⟩
    | 8, _ =>
      go_enter Try.func86, Try.ntmps86
      go_wp2
      go_ret2
      exact ⟨rfl, rfl⟩
    | 9, _ =>
      go_enter Try.func86, Try.ntmps86
      go_wp2
      go_ret2
      exact ⟨rfl, rfl⟩
    | 10, _ =>
      go_enter Try.func86, Try.ntmps86
      go_wp2
      go_ret2
      exact ⟨rfl, rfl⟩
    | 11, _ =>
      go_enter Try.func86, Try.ntmps86
      go_wp2
      go_ret2
      exact ⟨rfl, rfl⟩
    | 12, _ =>
      go_enter Try.func86, Try.ntmps86
      go_wp2
      go_ret2
      exact ⟨rfl, rfl⟩
    | 13, _ =>
      go_enter Try.func86, Try.ntmps86
      go_wp2
      go_ret2
      exact ⟨rfl, rfl⟩
    | 14, _ =>
      go_enter Try.func86, Try.ntmps86
      go_wp2
      go_ret2
      exact ⟨rfl, rfl⟩
    | 15, _ =>
      go_enter Try.func86, Try.ntmps86
      go_wp2
      go_ret2
      exact ⟨rfl, rfl⟩
    | 16, _ =>
      go_enter Try.func86, Try.ntmps86
      go_wp2
      go_ret2
      exact ⟨rfl, rfl⟩
    | 17, _ =>
      go_enter Try.func86, Try.ntmps86
      go_wp2
      go_ret2
      exact ⟨rfl, rfl⟩
    | 18, _ =>
      go_enter Try.func86, Try.ntmps86
      go_wp2
      go_ret2
      exact ⟨rfl, rfl⟩
    | 19, _ =>
      go_enter Try.func86, Try.ntmps86
      go_wp2
      go_ret2
      exact ⟨rfl, rfl⟩
    | 20, _ =>
      go_enter Try.func86, Try.ntmps86
      go_wp2
      go_ret2
      exact ⟨rfl, rfl⟩
    | 21, _ =>
      go_enter Try.func86, Try.ntmps86
      go_wp2
      go_ret2
      exact ⟨rfl, rfl⟩
    | 22, _ =>
      go_enter Try.func86, Try.ntmps86
      go_wp2
      go_ret2
      exact ⟨rfl, rfl⟩
    | 23, _ =>
      go_enter Try.func86, Try.ntmps86
      go_wp2
      go_ret2
      exact ⟨rfl, rfl⟩
    | k + 24, h => omega
  go_enter Try.func80, Try.ntmps80
  go_wp2_with (go_at_call 86; refine (h86 _).mono ?_; rintro e w' ⟨rfl, rfl⟩)
  go_ret2
  exact ⟨rfl, rfl⟩
theorem wrap_small {x : Int} (h0 : 0 ≤ x) (h1 : x < 1000) : IntKind.i64.wrap x = x := by
  have e : x % (2 ^ 64 : Int) = x := Int.emod_eq_of_lt h0 (by omega)
  show (if (true && decide (x % (2 ^ 64 : Int) ≥ (2 ^ (64 - 1) : Int))) = true then x % (2 ^ 64 : Int) - (2 ^ 64 : Int) else x % (2 ^ 64 : Int)) = x
  rw [e, if_neg (by simp; omega)]
theorem rp_len (n : Nat) (e : Int × Int) : (pcs (List.replicate n e)).length = n * 2 := by rw [pcs_len, List.length_replicate]; omega
theorem one_pcs (es : List (Int × Int)) : ∀ v ∈ pcs es, v.oneCell' = true := fun v hv => by
  unfold pcs at hv
  obtain ⟨x, -, hx⟩ := List.mem_flatMap.1 hv
  simp at hx
  rcases hx with rfl | rfl <;> rfl
theorem copy_rep {W : World} {G k n N L cap sc : Nat} {ad : Addr} (e : Int × Int) (hn : n ≤ k) (hN : N = Nat.min L (k - n)) (hr : Row W G 69 (pcs (rpL k n e)))
    (hsrc : ∀ j v, (pcs (List.replicate N e))[j]? = some v → W.cell? (ad.add j) = some v) :
    ∃ W2, (Builtin.copy_ #[64, 64] 3 #[.slice (some ⟨G, n * 2, none⟩) (k - n) cap, .slice (some ad) L sc]).run Try.prog W = .ok (.int .i64 N) W2 ∧ Row W2 G 69 (pcs (rpL k (n + N) e)) ∧ ∀ B w0, Below B w0 W → B ≤ G → Below B w0 W2 := by
  have hNk : N ≤ k - n := by rw [hN]; exact Nat.min_le_right _ _
  have hs : (Try.prog.info? 69).map (·.size) = some 2 := by kernel_rfl
  have h := run_copy2 (P := Try.prog) W 64 64 3 69 G (n * 2) (k - n) cap ad L sc N (pcs (rpL k n e)).toArray 69 (pcs (List.replicate N e)) Try.underlying64 hs hr hN (rp_len N e) hsrc (by rw [rp_len]; simp [rpL, pcs_len]; omega) (one_pcs _)
  have e1 : (pcs (rpL k n e)).take (n * 2) ++ pcs (List.replicate N e) ++ (pcs (rpL k n e)).drop (n * 2 + (pcs (List.replicate N e)).length) = pcs (rpL k (n + N) e) := by
    have h0 : rpL k n e = List.replicate n e ++ (List.replicate N (0, 0) ++ List.replicate (k - (n + N)) (0, 0)) := by
      unfold rpL
      rw [List.replicate_append_replicate, show N + (k - (n + N)) = k - n by omega]
    have h1 : rpL k (n + N) e = List.replicate n e ++ (List.replicate N e ++ List.replicate (k - (n + N)) (0, 0)) := by
      unfold rpL
      rw [← List.replicate_append_replicate, List.append_assoc]
    rw [h0, h1, rp_len, pcs_app, pcs_app, pcs_app, pcs_app, List.take_append_of_le_length (by rw [rp_len]; omega), List.take_of_length_le (by rw [rp_len]; omega), ← List.append_assoc (pcs (List.replicate n e)), List.drop_append_of_le_length (by rw [List.length_append, rp_len, rp_len]; omega),
      List.drop_of_length_le (by rw [List.length_append, rp_len, rp_len]; omega), List.nil_append, ← List.append_assoc]
  refine ⟨_, h, ?_, fun B w0 hb hB => ?_⟩
  · rw [← e1]
    show (W.setRow G _).heap[G]? = _
    exact setRow_heap W G _ _ 69 _ hr
  · exact below_setRow hb hB _
theorem Repeat_any (b c : Nat) (e1 e2 : Int) (k : Nat) (w : World) (hk : k ≤ 23) (hr : Row w b 69 [.int .i64 e1, .int .i64 e2]) :
    Calls Try.prog 71 #[.slice (some ⟨b, 0, none⟩) 1 c, .int .i64 k] w fun e' w' => ∃ G, e' = .returned (.slice (some ⟨G, 0, none⟩) k k) ∧ w.heap.size ≤ G ∧ Row w' G 69 (pcs (List.replicate k (e1, e2))) ∧ Below w.heap.size w w' := by
  have hml := mul_lit k hk
  have hmk := make_el k (by omega)
  have r0 : Row (w.alloc (.cells (pcs (List.replicate k (0, 0))).toArray 69)) w.heap.size 69 (pcs (rpL k 0 (e1, e2))) := by
    rw [show rpL k 0 (e1, e2) = List.replicate k (0, 0) by simp [rpL]]; exact row_new rfl
  have b0 : Below w.heap.size w (w.alloc (.cells (pcs (List.replicate k (0, 0))).toArray 69)) := by (repeat (first | exact Below.refl _ _ | assumption | (refine Below.setCell ?_ (by first | exact Nat.le_refl _ | omega | (simp; done) | (simp; omega)) _) | (refine Below.trans ?_ (below_drewN _)) | (refine Below.drew ?_) | (refine Below.alloc ?_ (by first | exact Nat.le_refl _ | omega | (simp; done) | (simp; omega)) _) | (refine below_row ?_ (by first | exact Nat.le_refl _ | omega | (simp; done) | (simp; omega)) _)))
  have hbr := hr.alloc (.cells (pcs (List.replicate k (0, 0))).toArray 69)
  obtain ⟨W2, hcp, r2, hbb⟩ := copy_rep (W := w.alloc (.cells (pcs (List.replicate k (0, 0))).toArray 69)) (G := w.heap.size) (k := k) (n := 0) (N := Nat.min 1 k) (L := 1) (cap := k) (sc := c) (ad := ⟨b, 0, none⟩) (e1, e2) (by omega) rfl r0 (fun j v hj => by
    have h1 : Nat.min 1 k = 0 ∨ Nat.min 1 k = 1 := by have : Nat.min 1 k ≤ 1 := Nat.min_le_left _ _; omega
    rcases h1 with h1 | h1
    · rw [h1] at hj; simp [pcs] at hj
    · rw [h1] at hj
      rw [WideShapes.add_plain, Nat.zero_add, hbr.cell]
      exact hj)
  have b2 := hbb _ _ b0 (Nat.le_refl _)
  rw [Nat.zero_add] at r2
  have hm1 : (k = 0 ∧ Nat.min 1 k = 0) ∨ (1 ≤ k ∧ Nat.min 1 k = 1) := by
    rcases Nat.eq_zero_or_pos k with h | h
    · exact .inl ⟨h, by rw [h]; rfl⟩
    · exact .inr ⟨h, Nat.min_eq_left h⟩
  generalize Nat.min 1 k = n0 at *
  simp only [Nat.zero_mul, Nat.sub_zero] at hcp
  have g1 : decide ((k : Int) < 0) = false := decide_eq_false (by omega)
  have g2 : decide ((9223372036854775807 : Int) < (k : Int)) = false := decide_eq_false (by omega)
  go_enter Try.func71, Try.ntmps71
  go_wp2_with (first | (go_at_call 80; refine (hml _).mono ?_; rintro e w' ⟨rfl, rfl⟩) | (at_builtin; refine wpList_copy_run _ rfl (.tmp 31) (.tmp 32) 64 64 rfl _ _ rfl rfl hcp ?_))
  clear hcp r0 hbr
  go_loopw [8] (fun i wr => ∃ n : Nat, n ≤ k ∧ (k = 0 ∨ 1 ≤ n) ∧ i = .int .i64 n ∧ Row wr w.heap.size 69 (pcs (rpL k n (e1, e2))) ∧ Below w.heap.size w wr) (fun i _ => k - (intOf i).toNat)
  case atStart => exact ⟨n0, by omega, by omega, rfl, r2, b2⟩
  case round =>
    obtain ⟨n, hn, hn1, rfl, q, bb⟩ := hrel
    by_cases hlt : n < k
    · have g3 : decide ((n : Int) < (k : Int)) = true := decide_eq_true (by omega)
      have hkn : ¬ k = n := by omega
      obtain ⟨W3, hcp, r3, hbb3⟩ := copy_rep (W := wr.drew) (G := w.heap.size) (k := k) (n := n) (N := Nat.min n (k - n)) (L := n) (cap := k - n) (sc := k) (ad := ⟨w.heap.size, 0, none⟩) (e1, e2) hn rfl q (fun j v hj => by
        have hjl : j < Nat.min n (k - n) * 2 := by have := (List.getElem?_eq_some_iff.1 hj).1; rwa [rp_len] at this
        have hmn : Nat.min n (k - n) ≤ n := Nat.min_le_left _ _
        rw [WideShapes.add_plain, Nat.zero_add]
        have e3 : (pcs (rpL k n (e1, e2)))[j]? = some v := by
          unfold rpL
          rw [pcs_app, List.getElem?_append_left (by rw [rp_len]; omega)]
          have h5 : List.replicate n (e1, e2) = List.replicate (Nat.min n (k - n)) (e1, e2) ++ List.replicate (n - Nat.min n (k - n)) (e1, e2) := by rw [List.replicate_append_replicate, show Nat.min n (k - n) + (n - Nat.min n (k - n)) = n by omega]
          rw [h5, pcs_app, List.getElem?_append_left (by rw [rp_len]; omega)]
          exact hj
        exact ((show Row wr.drew w.heap.size 69 (pcs (rpL k n (e1, e2))) from q).cell j).trans e3)
      have b3 := hbb3 _ _ (show Below w.heap.size w wr.drew from bb.drew) (Nat.le_refl _)
      have hN1 : 1 ≤ Nat.min n (k - n) := by
        have : Nat.min n (k - n) = n ∨ Nat.min n (k - n) = k - n := by rcases Nat.le_total n (k - n) with h | h; exact .inl (Nat.min_eq_left h); exact .inr (Nat.min_eq_right h)
        omega
      have hN2 : Nat.min n (k - n) ≤ k - n := Nat.min_le_right _ _
      generalize Nat.min n (k - n) = N at *
      go_wp2
      go_region_law (fail)
      simp only [List.getElem_toArray, List.getElem_cons_zero, List.getElem_cons_succ, Act.put, List.setIfInBounds_toArray, List.set_cons_succ, List.set_cons_zero]
      have hw : Value.int .i64 (IntKind.i64.wrap ((n : Int) + (N : Int))) = .int .i64 ((n + N : Nat) : Int) := by
        rw [wrap_small (by omega) (by omega)]; rfl
      rw [hw]
      go_roundw
      case rel => exact ⟨_, _, _, _, _, _, _, _, _, _, _, _, _, _, ⟨n + N, by omega, by omega, rfl, r3, b3⟩, rfl⟩
      case measure => simp [intOf]; omega
    · obtain rfl : n = k := by omega
      have g3 : decide ((n : Int) < (n : Int)) = false := decide_eq_false (by omega)
      go_wp2
      go_ret
      exact ⟨_, rfl, Nat.le_refl _, by rw [show rpL n n (e1, e2) = List.replicate n (e1, e2) by simp [rpL]] at q; exact q, bb⟩
end Go.Proofs.Ytokjdadgdfmffaa
/- slices.Concat of two lists of elements. -/
namespace Go.Proofs.Ytokjdadgdfmffaa
open Go.RowKit
set_option maxHeartbeats 1000000
set_option maxRecDepth 100000
theorem GrowE_nil (w : World) (n : Nat) (hn : n ≤ 10000000) : Calls Try.prog 79 #[.slice none 0 0, .int .i64 n] w fun e w' => ∃ v, e = .returned v ∧ w'.ownsRow w.heap.size 69 2 v 0 [] ∧ Below w.heap.size w w' := by
  obtain ⟨j0, ji, jz0, jz1, jz2⟩ := info_parts info69p
  rcases Nat.eq_zero_or_pos n with rfl | h0
  · go_enter Try.func79, Try.ntmps79
    go_wp2
    go_ret
    exact ⟨_, rfl, ⟨rfl, .inl ⟨rfl, rfl⟩⟩, Below.refl _ _⟩
  · have hr := Lib.run_append_nil_zeros (P := Try.prog) w 64 3 64 69 j0 (pv 0 0) .i64 .i64 Try.underlying64 Try.underlying3 ji jz0 n h0 (by rw [jz1]; omega) (by omega) (by rw [jz2]; omega)
    go_enter Try.func79, Try.ntmps79
    go_wp2_with (at_builtin; refine Lib.wpList_append_run _ rfl _ _ _ _ rfl _ _ rfl rfl _ _ hr ?_)
    have hc := grownCap_le_maxLen w n 0 69 (by unfold maxLen; omega)
    have hg := grownCap_ge w n 0 69
    go_ret
    refine ⟨_, rfl, ⟨rfl, .inr ⟨w.heap.size, grownCap w n 0 69, _, rfl, Nat.le_refl _, heap_alloc_new _ _, by omega, hc, ?_, by simp⟩⟩, ((Below.refl _ w).alloc (Nat.le_refl _) _).drew⟩
    rw [Array.size_append, size_zeroCells, size_zeroCells]
    simp
    omega
theorem own_el {w : World} {B n : Nat} {v : Value} {xs : List Value} (h : w.ownsRow B 69 2 v n xs) : ∃ A c, v = .slice A n c := by
  rcases h.2 with ⟨rfl, rfl⟩ | ⟨g, cap, cur, rfl, _⟩
  · exact ⟨none, 0, rfl⟩
  · exact ⟨_, _, rfl⟩
theorem newsR {w : World} {b : Nat} {t : TypeId} {cs : List Value} (h : Row w b t cs) : ∀ j u, cs[j]? = some u → w.cell? ((⟨b, 0, none⟩ : Addr).add j) = some u := fun j u hj => by
  rw [WideShapes.add_plain, Nat.zero_add, h.cell]; exact hj
theorem Concat2E_any (g b1 c1 b2 c2 : Nat) (xs ys : List (Int × Int)) (w : World) (hx : xs.length ≤ 1000000) (hy : ys.length ≤ 1000000) (hr : Row w g 64 [.slice (some ⟨b1, 0, none⟩) xs.length c1, .slice (some ⟨b2, 0, none⟩) ys.length c2])
    (h1 : Row w b1 69 (pcs xs)) (h2 : Row w b2 69 (pcs ys)) :
    Calls Try.prog 70 #[.slice (some ⟨g, 0, none⟩) 2 2] w fun e w' => ∃ v, e = .returned v ∧ w'.ownsRow w.heap.size 69 2 v (xs ++ ys).length (pcs (xs ++ ys)) ∧ Below w.heap.size w w' := by
  obtain ⟨j0, ji, jz0, jz1, jz2⟩ := info_parts info69p
  obtain ⟨⟨k0, k1⟩, -⟩ := hr.cells2
  go_enter Try.func70, Try.ntmps70
  go_wp2
  go_loopw [3, 11] (fun s i wr => ∃ k n : Nat, ((k = 0 ∧ n = 0) ∨ (k = 1 ∧ n = xs.length) ∨ (k = 2 ∧ n = xs.length + ys.length)) ∧ i = .int .i64 k ∧ s = .int .i64 n ∧ w = wr) (fun _ i _ => 2 - (intOf i).toNat)
  case atStart => exact ⟨0, 0, .inl ⟨rfl, rfl⟩, rfl, rfl, rfl⟩
  case round =>
    obtain ⟨k, n, hk, rfl, rfl, rfl⟩ := hrel
    rcases hk with ⟨rfl, rfl⟩ | ⟨rfl, rfl⟩ | ⟨rfl, rfl⟩
    · go_wp2
      go_roundw
      case rel => exact ⟨1, xs.length, .inr (.inl ⟨rfl, rfl⟩), by go_num, by go_num, trivial⟩
      case measure => simp [intOf]
    · go_wp2
      go_roundw
      case rel => exact ⟨2, xs.length + ys.length, .inr (.inr ⟨rfl, rfl⟩), by go_num, by go_num, trivial⟩
      case measure => simp [intOf]
    · go_wp2_with (go_at_call 79; refine (GrowE_nil _ (xs.length + ys.length) (by omega)).mono ?_; rintro e w2 ⟨v2, rfl, o2, b2⟩)
      have hb2 := b2.size
      go_loopw [6, 27] (fun v i wr => ∃ (k : Nat) (zs : List (Int × Int)), ((k = 0 ∧ zs = []) ∨ (k = 1 ∧ zs = xs) ∨ (k = 2 ∧ zs = xs ++ ys)) ∧ i = .int .i64 k ∧ wr.ownsRow w.heap.size 69 2 v zs.length (pcs zs) ∧ Below w.heap.size w wr) (fun _ i _ => 2 - (intOf i).toNat)
      case atStart => exact ⟨0, [], .inl ⟨rfl, rfl⟩, rfl, o2, b2⟩
      case round =>
        clear o2 b2 hb2
        obtain ⟨k, zs, hk, rfl, o2, b2⟩ := hrel
        obtain ⟨A2, c2', e2⟩ := own_el o2
        subst e2
        have hb2 := b2.size
        replace hr := hr.below b2
        replace h1 := h1.below b2
        replace h2 := h2.below b2
        obtain ⟨⟨k0, k1⟩, -⟩ := hr.cells2
        rcases hk with ⟨rfl, rfl⟩ | ⟨rfl, rfl⟩ | ⟨rfl, rfl⟩
        · go_wp2_with (at_builtin; refine wpList_append_own_at _ rfl (.tmp 31) (.tmp 32) 64 rfl w.heap.size 69 j0 (pv 0 0) 2 16 Try.underlying64 ji jz0 jz1 jz2 rfl (by decide) _ _ _ rfl o2 ⟨b1, 0, none⟩ xs.length c1 (pcs xs) rfl (by rw [pcs_len]; omega) (newsR h1) (one_pcs _) (by unfold maxLen; simp; omega) (by simp; omega) hb2 ?_; intro v3 w3 o3 hg3 _ _)
          have b3 := (Below.refl w.heap.size _).grown hg3 hb2 (fun g hg => (own_ge o2 hg).1)
          have o4 : w3.ownsRow w.heap.size 69 2 v3 xs.length (pcs xs) := by simpa [pcs_app, show pcs [] = ([] : List Value) from rfl] using o3
          go_roundw
          case rel => exact ⟨1, xs, .inr (.inl ⟨rfl, rfl⟩), by go_num, o4, b2.trans b3⟩
          case measure => simp [intOf]
        · go_wp2_with (at_builtin; refine wpList_append_own_at _ rfl (.tmp 31) (.tmp 32) 64 rfl w.heap.size 69 j0 (pv 0 0) 2 16 Try.underlying64 ji jz0 jz1 jz2 rfl (by decide) _ _ _ rfl o2 _ ys.length _ (pcs ys) rfl (by rw [pcs_len]; omega) (newsR h2) (one_pcs _) (by unfold maxLen; omega) (by omega) hb2 ?_; intro v3 w3 o3 hg3 _ _)
          have b3 := (Below.refl w.heap.size _).grown hg3 hb2 (fun g hg => (own_ge o2 hg).1)
          have o4 : w3.ownsRow w.heap.size 69 2 v3 (zs ++ ys).length (pcs (zs ++ ys)) := by simpa [pcs_app, show pcs [] = ([] : List Value) from rfl] using o3
          go_roundw
          case rel => exact ⟨2, zs ++ ys, .inr (.inr ⟨rfl, rfl⟩), by go_num, o4, b2.trans b3⟩
          case measure => simp [intOf]
        · go_wp2
          go_ret
          exact ⟨_, rfl, o2, b2⟩
end Go.Proofs.Ytokjdadgdfmffaa
/- Free lists. -/
namespace Go.Proofs.Ytokjdadgdfmffaa
open Go.RowKit
set_option maxHeartbeats 1000000
set_option maxRecDepth 100000
def Nx (a b : World) : Prop := Below a.heap.size a b
theorem row_nx {a b : World} {g : Nat} {t : TypeId} {cs : List Value} (h : Row a g t cs) (k : Nx a b) : Row b g t cs := h.below k
theorem below_nx {v a b : World} (h : Below v.heap.size v a) (k : Nx a b) : Below v.heap.size v b := h.trans (Below.mono k h.size)
theorem below_al {v a : World} (h : Below v.heap.size v a) (o : Obj) : Below v.heap.size v (a.alloc o) := h.alloc h.size o
def freeL (m n : Nat) : List (Int × Int) := List.replicate (n - 1) (0, 1) ++ List.replicate (m - 1) (1, 0)
theorem freeG_any (m n : Nat) (w : World) (hg : Gr m n) :
    Calls Try.prog 56 #[pv m n] w fun e w' => ∃ v, e = .returned v ∧ w'.ownsRow w.heap.size 69 2 v (freeL m n).length (pcs (freeL m n)) ∧ Below w.heap.size w w' := by
  obtain ⟨m1, m2, n1, n2⟩ := hg
  have R1 : Hid (∀ b c w, Row w b 69 [.int .i64 0, .int .i64 1] → Calls Try.prog 71 #[.slice (some ⟨b, 0, none⟩) 1 c, .int .i64 (IntKind.i64.wrap ((n : Int) - 1))] w fun e' w' => ∃ G, e' = .returned (.slice (some ⟨G, 0, none⟩) (n - 1) (n - 1)) ∧ w.heap.size ≤ G ∧ Row w' G 69 (pcs (List.replicate (n - 1) (0, 1))) ∧ Nx w w') := Lib.hid fun b c w h => by
    have := Repeat_any b c 0 1 (n - 1) w (by omega) h
    rwa [show (((n - 1 : Nat) : Int)) = IntKind.i64.wrap ((n : Int) - 1) by rw [wrap_small (by omega) (by omega)]; omega] at this
  have R2 : Hid (∀ b c w, Row w b 69 [.int .i64 1, .int .i64 0] → Calls Try.prog 71 #[.slice (some ⟨b, 0, none⟩) 1 c, .int .i64 (IntKind.i64.wrap ((m : Int) - 1))] w fun e' w' => ∃ G, e' = .returned (.slice (some ⟨G, 0, none⟩) (m - 1) (m - 1)) ∧ w.heap.size ≤ G ∧ Row w' G 69 (pcs (List.replicate (m - 1) (1, 0))) ∧ Nx w w') := Lib.hid fun b c w h => by
    have := Repeat_any b c 1 0 (m - 1) w (by omega) h
    rwa [show (((m - 1 : Nat) : Int)) = IntKind.i64.wrap ((m : Int) - 1) by rw [wrap_small (by omega) (by omega)]; omega] at this
  have RC : Hid (∀ g b1 b2 w, Row w g 64 [.slice (some ⟨b1, 0, none⟩) (n - 1) (n - 1), .slice (some ⟨b2, 0, none⟩) (m - 1) (m - 1)] → Row w b1 69 (pcs (List.replicate (n - 1) (0, 1))) → Row w b2 69 (pcs (List.replicate (m - 1) (1, 0))) →
      Calls Try.prog 70 #[.slice (some ⟨g, 0, none⟩) 2 2] w fun e w' => ∃ v, e = .returned v ∧ w'.ownsRow w.heap.size 69 2 v (freeL m n).length (pcs (freeL m n)) ∧ Nx w w') := Lib.hid fun g b1 b2 w h1 h2 h3 => by
    have := Concat2E_any g b1 (n - 1) b2 (m - 1) (List.replicate (n - 1) (0, 1)) (List.replicate (m - 1) (1, 0)) w (by simp; omega) (by simp; omega) (by rw [List.length_replicate, List.length_replicate]; exact h1) h2 h3
    exact this
  generalize freeL m n = FL at *
  go_enter Try.func56, Try.ntmps56
  go_wp2
  obtain ⟨q, hq⟩ : ∃ q, w.heap.size = q := ⟨_, rfl⟩
  have r9 : Row (w.alloc (.cells #[.int .i64 m, .int .i64 n] 63)) w.heap.size 63 [.int .i64 m, .int .i64 n] := row_new rfl
  have b9 : Below w.heap.size w (w.alloc (.cells #[.int .i64 m, .int .i64 n] 63)) := by (repeat (first | exact Below.refl _ _ | assumption | (refine Below.setCell ?_ (by first | exact Nat.le_refl _ | omega | (simp; done) | (simp; omega)) _) | (refine Below.trans ?_ (below_drewN _)) | (refine Below.drew ?_) | (refine Below.alloc ?_ (by first | exact Nat.le_refl _ | omega | (simp; done) | (simp; omega)) _) | (refine below_row ?_ (by first | exact Nat.le_refl _ | omega | (simp; done) | (simp; omega)) _)))
  obtain ⟨V, hV⟩ : ∃ V, w.alloc (.cells #[.int .i64 m, .int .i64 n] 63) = V := ⟨_, rfl⟩
  rw [hV] at b9 r9
  rw [hV, hq]
  rw [hq] at r9
  have HS : Hid (∀ W, Below V.heap.size V W → W.cell? ⟨q, 0, none⟩ = some (.int .i64 m) ∧ W.cell? ⟨q, 1, none⟩ = some (.int .i64 n)) :=
    Lib.hid fun W h => ⟨(r9.below h).cells2.1.1, (r9.below h).cells2.1.2⟩
  have HB9 := Lib.hid b9
  have HQ := Lib.hid hq
  clear hV hq b9 r9
  have gm : (m : Int) - 1 ≤ 100 := by omega
  have gn : (n : Int) - 1 ≤ 100 := by omega
  go_region_held3 (fun w' => w'.cell? ⟨q, 0, none⟩ = some (.int .i64 m) ∧ w'.cell? ⟨q, 1, none⟩ = some (.int .i64 n)) (first | assumption | exact HS.out _ (by (repeat (first | exact Below.refl _ _ | refine Below.drew ?_ | refine below_al ?_ _ | refine below_nx ?_ (by assumption)))))
    ((first
      | (go_at_call 71; (with_reducible refine (R1.out _ _ _ (by (repeat (first | assumption | exact row_new (by first | rfl | (simp; done)) | refine Row.drew ?_ | refine Row.alloc ?_ _ | refine row_nx ?_ (by assumption))))).mono ?_); rintro e w5 ⟨G1, rfl, hG1, hrow1, hnx⟩)
      | (go_at_call 71; (with_reducible refine (R2.out _ _ _ (by (repeat (first | assumption | exact row_new (by first | rfl | (simp; done)) | refine Row.drew ?_ | refine Row.alloc ?_ _ | refine row_nx ?_ (by assumption))))).mono ?_); rintro e w5 ⟨G2, rfl, hG2, hrow2, hnx⟩)
      | (go_at_call 70; (with_reducible refine (RC.out _ _ _ _ (by (repeat (first | assumption | exact row_new (by first | rfl | (simp; done)) | refine Row.drew ?_ | refine Row.alloc ?_ _ | refine row_nx ?_ (by assumption)))) (by (repeat (first | assumption | exact row_new (by first | rfl | (simp; done)) | refine Row.drew ?_ | refine Row.alloc ?_ _ | refine row_nx ?_ (by assumption)))) (by (repeat (first | assumption | exact row_new (by first | rfl | (simp; done)) | refine Row.drew ?_ | refine Row.alloc ?_ _ | refine row_nx ?_ (by assumption))))).mono ?_); rintro e w6 ⟨v6, rfl, o6, hnx⟩)))
  all_goals go_wp2
  all_goals go_ret
  all_goals refine ⟨v6, rfl, ownsRow_base_a o6 (Nat.le_trans HB9.out.size (Below.size (B := V.heap.size) ?_)), HB9.out.trans (Below.mono (B := V.heap.size) ?_ HB9.out.size)⟩
  all_goals (repeat (first | exact Below.refl _ _ | refine Below.drew ?_ | refine below_al ?_ _ | refine below_nx ?_ (by assumption)))
end Go.Proofs.Ytokjdadgdfmffaa
/- Elements written as lists, with their capacities. -/
namespace Go.Proofs.Ytokjdadgdfmffaa
open Go.RowKit
set_option maxHeartbeats 1000000
set_option maxRecDepth 100000
/-- New rows. -/
def RowsM (B : Nat) (w : World) (G : Nat) (L : List (List Int)) : Prop := ∃ cs : List Value, cs.length = L.length ∧ Row w G 22 cs ∧ ∀ j (h : j < L.length), ∃ b c, B ≤ b ∧ cs[j]? = some (.slice (some ⟨b, 0, none⟩) L[j].length c) ∧ (L[j].length ≤ c ∧ c ≤ maxLen) ∧ Row0 w b L[j]
theorem CloneM_any (b o c : Nat) (xs : List Int) (w : World) (hx : xs.length ≤ 1000000) (h1 : IntsAt w (some ⟨b, o, none⟩) xs) :
    Calls Try.prog 69 #[.slice (some ⟨b, o, none⟩) xs.length c] w fun e w' => ∃ g' c', e = .returned (.slice (some ⟨g', 0, none⟩) xs.length c') ∧ w.heap.size ≤ g' ∧ (xs.length ≤ c' ∧ c' ≤ maxLen) ∧ Row0 w' g' xs ∧ Below w.heap.size w w' := by
  obtain ⟨j0, ji, jz0, jz1, jz2⟩ := info_parts info3
  have o2 : (w.alloc (.cells #[] 3)).ownsRow w.heap.size 3 1 (.slice (some ⟨w.heap.size, 0, none⟩) 0 0) 0 [] := ⟨rfl, .inr ⟨w.heap.size, 0, #[], rfl, Nat.le_refl _, heap_alloc_new _ _, Nat.le_refl _, by unfold maxLen; omega, rfl, rfl⟩⟩
  have b2 : Below w.heap.size w (w.alloc (.cells #[] 3)) := (Below.refl _ w).alloc (Nat.le_refl _) _
  replace h1 := h1.below b2
  have hb2 := b2.size
  have q24 : ∀ (w : World) (a : Option Addr) (n c n' c' : Nat), (binOp .eql 22 (.slice a n c) (.slice none n' c')).run Try.prog w = .ok (.bool a.isNone) w := fun w a n c n' c' => Lib.run_eql_slice_nil w _ _ a n c n' c' Try.underlying22
  go_enter Try.func69, Try.ntmps69
  go_wp2_with (at_builtin; refine wpList_append_own_at _ rfl (.tmp 5) (.tmp 6) 22 rfl w.heap.size 3 j0 (.int .i64 0) 1 8 Try.underlying22 ji jz0 jz1 jz2 rfl (by decide) _ _ _ rfl o2 ⟨b, o, none⟩ xs.length c (iv xs) rfl (by simp [iv]) (news_ints h1) (iv_one _) (by unfold maxLen; omega) (by omega) hb2 ?_; intro v3 w3 o3 hg3 hnil _)
  go_ret
  have o4 : w3.ownsRow w.heap.size 3 1 v3 xs.length (iv xs) := by simpa using o3
  have hbb := b2.trans ((Below.refl w.heap.size _).grown hg3 hb2 (fun g hg => (own_ge o2 hg).1))
  rcases o4.2 with ⟨rfl, h0⟩ | ⟨g', c', cur, rfl, hg, hh, k1, k2, k3, k4⟩
  · exact absurd ((hnil.1 rfl).1) (by simp [Act.eval, go_sem])
  · exact ⟨g', c', rfl, hg, ⟨k1, k2⟩, ⟨c', cur, hh, k1, by simpa using k3, by simpa using k4⟩, hbb⟩

theorem writeAllM_one (A : Option Addr) (c m n : Nat) (ds : List (Int × Int)) (w : World) (hl : ds.length ≤ 1000) (hm : m = 1) (hp : PairsAt w A ds) :
    Calls Try.prog 55 #[pv m n, .slice A ds.length c] w fun e w' => ∃ G, e = .returned (.slice (some ⟨G, 0, none⟩) ds.length ds.length) ∧ w.heap.size ≤ G ∧ RowsM w.heap.size w' G (ds.map (dec m)) ∧ Below w.heap.size w w' := by
  obtain ⟨Z, hZ, hZ0⟩ : ∃ Z : List Value, Z = List.replicate ds.length (Value.slice none 0 0) ∧ Z.length = ds.length := ⟨_, rfl, by simp⟩
  have hmk := make_tabI ds.length (by omega)
  rw [← hZ] at hmk
  clear hZ
  have HH := Lib.hid (fun W => hidden_one m n W hm)
  have HCL := Lib.hid CloneM_any
  have HD : Hid (∀ x, dec m x = [x.2]) := Lib.hid (fun x => by unfold dec; rw [if_pos hm])
  clear hm
  go_enter Try.func55, Try.ntmps55
  go_wp2
  have r0 : Row ((w.alloc (.cells #[.int .i64 m, .int .i64 n] 63)).alloc (.cells Z.toArray 22)) w.heap.size 63 [.int .i64 m, .int .i64 n] := Row.alloc (row_new rfl) _
  have r1 : Row ((w.alloc (.cells #[.int .i64 m, .int .i64 n] 63)).alloc (.cells Z.toArray 22)) (w.heap.size + 1) 22 Z := row_new (by simp)
  have b0 : Below w.heap.size w ((w.alloc (.cells #[.int .i64 m, .int .i64 n] 63)).alloc (.cells Z.toArray 22)) := by (repeat (first | exact Below.refl _ _ | assumption | (refine Below.setCell ?_ (by first | exact Nat.le_refl _ | omega | (simp; done) | (simp; omega)) _) | (refine Below.trans ?_ (below_drewN _)) | (refine Below.drew ?_) | (refine Below.alloc ?_ (by first | exact Nat.le_refl _ | omega | (simp; done) | (simp; omega)) _) | (refine below_row ?_ (by first | exact Nat.le_refl _ | omega | (simp; done) | (simp; omega)) _)))
  have z0 : ((w.alloc (.cells #[.int .i64 m, .int .i64 n] 63)).alloc (.cells Z.toArray 22)).heap.size = w.heap.size + 2 := by simp
  generalize ((w.alloc (.cells #[.int .i64 m, .int .i64 n] 63)).alloc (.cells Z.toArray 22)) = w1 at *
  have HP := Lib.hid hp
  clear hp
  go_loopw [13] (fun i wr => ∃ (k : Nat) (cs : List Value), k ≤ ds.length ∧ i = .int .i64 k ∧ Row wr w.heap.size 63 [.int .i64 m, .int .i64 n] ∧ Row wr (w.heap.size + 1) 22 cs ∧ cs.length = ds.length ∧ w.heap.size + 2 ≤ wr.heap.size ∧
      Hid (∀ j, j < k → ∃ (h : j < ds.length) (b c : Nat), w.heap.size + 2 ≤ b ∧ cs[j]? = some (.slice (some ⟨b, 0, none⟩) (dec m ds[j]).length c) ∧ ((dec m ds[j]).length ≤ c ∧ c ≤ maxLen) ∧ Row0 wr b (dec m ds[j])) ∧ Below w.heap.size w wr) (fun i _ => ds.length - (intOf i).toNat)
  case atStart => exact ⟨0, _, by omega, rfl, r0, r1, hZ0, by omega, Lib.hid fun j hj => absurd hj (by omega), b0⟩
  case round =>
    obtain ⟨k, cs, hk, rfl, q0, q1, hcl, hsz, HR, b1⟩ := hrel
    by_cases hlt : k < ds.length
    · obtain ⟨b, o, rfl, hb, hc⟩ := HP.out (by omega)
      obtain ⟨p1, p2⟩ := hc k hlt
      rw [← b1.cell hb] at p1 p2
      have HDK := Lib.hid (HD.out ds[k])
      have HX : Hid (∃ x, ds[k] = x) := Lib.hid ⟨_, rfl⟩
      obtain ⟨x, hx⟩ := HX.out
      obtain ⟨x1, x2⟩ := x
      rw [hx] at p1 p2 HDK
      have HXK := Lib.hid hx
      simp only at p1 p2
      have q2 : Row (wr.alloc (.cells #[.int .i64 x1, .int .i64 x2] 69)) wr.heap.size 69 [.int .i64 x1, .int .i64 x2] := row_new rfl
      have q3 := q0.alloc (.cells #[.int .i64 x1, .int .i64 x2] 69)
      have q4 := q1.alloc (.cells #[.int .i64 x1, .int .i64 x2] 69)
      have b2 : Below w.heap.size w (wr.alloc (.cells #[.int .i64 x1, .int .i64 x2] 69)) := by (repeat (first | exact Below.refl _ _ | assumption | (refine Below.setCell ?_ (by first | exact Nat.le_refl _ | omega | (simp; done) | (simp; omega)) _) | (refine Below.trans ?_ (below_drewN _)) | (refine Below.drew ?_) | (refine Below.alloc ?_ (by first | exact Nat.le_refl _ | omega | (simp; done) | (simp; omega)) _) | (refine below_row ?_ (by first | exact Nat.le_refl _ | omega | (simp; done) | (simp; omega)) _)))
      obtain ⟨⟨c0, c1⟩, -⟩ := q3.cells2
      clear hx hc HX
      obtain ⟨vk, hvk⟩ : ∃ v, cs[k]? = some v := ⟨_, List.getElem?_eq_getElem (by omega)⟩
      have hbk := hsz
      go_wp2_with (first
        | (go_at_call 68; (refine (HH.out _).mono ?_; rintro e w2 ⟨rfl, b3⟩; have q5 := q2.below b3; have q6 := q3.below b3; have q7 := q4.below b3; have b4 := b2.trans (b3.mono b2.size); obtain ⟨⟨d0, d1⟩, -⟩ := q5.cells2; have hia : IntsAt w2 (some ⟨wr.heap.size, 1, none⟩) [x2] := ia_one q5))
        | (go_at_call 69; refine (HCL.out wr.heap.size 1 1 [x2] _ (by simp) hia).mono ?_; rintro e w3 ⟨g3, c3, rfl, hg3, hcap, r3, b5⟩; have q8 := q7.below b5; have q9 := q6.below b5; have b6 := b4.trans (b5.mono b4.size); have hs5 := b3.size; have hs6 := b5.size; have fc := q8.free k; have fv : w3.cell? ⟨w.heap.size + 1, k, none⟩ = some vk := (q8.cell k).trans hvk; have hs : w.heap.size + 1 < w3.heap.size := q8.lt))
      have q10 := q8.set k (.slice (some ⟨g3, 0, none⟩) 1 c3)
      have hs5' : wr.heap.size + 1 ≤ w2.heap.size := by simpa using hs5
      have hg3' : w.heap.size + 2 ≤ g3 := by omega
      go_roundw
      case rel =>
        refine ⟨k + 1, _, by omega, by go_num, q9.far (by dsimp only; omega) _, q10, by simpa using hcl, by simp [World.setCell]; omega, Lib.hid fun j hj => ?_, b6.setCell (by dsimp only; omega) _⟩
        by_cases e : j = k
        · subst e
          refine ⟨hlt, g3, c3, hg3', ?_, ?_, ?_⟩
          · rw [List.getElem?_set_self (by omega), HXK.out, HDK.out]; rfl
          · rw [HXK.out, HDK.out]; exact hcap
          · rw [HXK.out, HDK.out]
            exact r3.of (Below.heap_setCell _ _ _ _ (by dsimp only; omega))
        · obtain ⟨h, b', c', h1, h2, h4, h3⟩ := HR.out j (by omega)
          refine ⟨h, b', c', h1, by rw [List.getElem?_set_ne (Ne.symm e)]; exact h2, h4, ?_⟩
          have hl3 := h3.lt
          exact h3.of (((Below.heap_setCell _ _ _ _ (by dsimp only; omega)).trans (b5.block b' (by omega))).trans ((b3.block b' (by simp; omega)).trans (Below.heap_alloc _ _ _ hl3)))
      case measure => simp [intOf]; omega
    · obtain rfl : k = ds.length := by omega
      go_wp2
      go_ret
      refine ⟨_, rfl, by omega, ⟨cs, by rw [List.length_map]; exact hcl, q1, fun j hj => ?_⟩, b1⟩
      obtain ⟨h, b', c', h1, h2, h4, h3⟩ := HR.out j (by simpa using hj)
      exact ⟨b', c', by omega, by rw [List.getElem_map]; exact h2, by rw [List.getElem_map]; exact h4, by rw [List.getElem_map]; exact h3⟩

theorem writeAllM_two (A : Option Addr) (c m n : Nat) (ds : List (Int × Int)) (w : World) (hl : ds.length ≤ 1000) (hm : m ≠ 1) (hp : PairsAt w A ds) :
    Calls Try.prog 55 #[pv m n, .slice A ds.length c] w fun e w' => ∃ G, e = .returned (.slice (some ⟨G, 0, none⟩) ds.length ds.length) ∧ w.heap.size ≤ G ∧ RowsM w.heap.size w' G (ds.map (dec m)) ∧ Below w.heap.size w w' := by
  obtain ⟨Z, hZ, hZ0⟩ : ∃ Z : List Value, Z = List.replicate ds.length (Value.slice none 0 0) ∧ Z.length = ds.length := ⟨_, rfl, by simp⟩
  have hmk := make_tabI ds.length (by omega)
  rw [← hZ] at hmk
  clear hZ
  have HH := Lib.hid (fun W => hidden_no m n W hm)
  have HCL := Lib.hid CloneM_any
  have HD : Hid (∀ x, dec m x = [x.1, x.2]) := Lib.hid (fun x => by unfold dec; rw [if_neg hm])
  clear hm
  go_enter Try.func55, Try.ntmps55
  go_wp2
  have r0 : Row ((w.alloc (.cells #[.int .i64 m, .int .i64 n] 63)).alloc (.cells Z.toArray 22)) w.heap.size 63 [.int .i64 m, .int .i64 n] := Row.alloc (row_new rfl) _
  have r1 : Row ((w.alloc (.cells #[.int .i64 m, .int .i64 n] 63)).alloc (.cells Z.toArray 22)) (w.heap.size + 1) 22 Z := row_new (by simp)
  have b0 : Below w.heap.size w ((w.alloc (.cells #[.int .i64 m, .int .i64 n] 63)).alloc (.cells Z.toArray 22)) := by (repeat (first | exact Below.refl _ _ | assumption | (refine Below.setCell ?_ (by first | exact Nat.le_refl _ | omega | (simp; done) | (simp; omega)) _) | (refine Below.trans ?_ (below_drewN _)) | (refine Below.drew ?_) | (refine Below.alloc ?_ (by first | exact Nat.le_refl _ | omega | (simp; done) | (simp; omega)) _) | (refine below_row ?_ (by first | exact Nat.le_refl _ | omega | (simp; done) | (simp; omega)) _)))
  have z0 : ((w.alloc (.cells #[.int .i64 m, .int .i64 n] 63)).alloc (.cells Z.toArray 22)).heap.size = w.heap.size + 2 := by simp
  generalize ((w.alloc (.cells #[.int .i64 m, .int .i64 n] 63)).alloc (.cells Z.toArray 22)) = w1 at *
  have HP := Lib.hid hp
  clear hp
  go_loopw [13] (fun i wr => ∃ (k : Nat) (cs : List Value), k ≤ ds.length ∧ i = .int .i64 k ∧ Row wr w.heap.size 63 [.int .i64 m, .int .i64 n] ∧ Row wr (w.heap.size + 1) 22 cs ∧ cs.length = ds.length ∧ w.heap.size + 2 ≤ wr.heap.size ∧
      Hid (∀ j, j < k → ∃ (h : j < ds.length) (b c : Nat), w.heap.size + 2 ≤ b ∧ cs[j]? = some (.slice (some ⟨b, 0, none⟩) (dec m ds[j]).length c) ∧ ((dec m ds[j]).length ≤ c ∧ c ≤ maxLen) ∧ Row0 wr b (dec m ds[j])) ∧ Below w.heap.size w wr) (fun i _ => ds.length - (intOf i).toNat)
  case atStart => exact ⟨0, _, by omega, rfl, r0, r1, hZ0, by omega, Lib.hid fun j hj => absurd hj (by omega), b0⟩
  case round =>
    obtain ⟨k, cs, hk, rfl, q0, q1, hcl, hsz, HR, b1⟩ := hrel
    by_cases hlt : k < ds.length
    · obtain ⟨b, o, rfl, hb, hc⟩ := HP.out (by omega)
      obtain ⟨p1, p2⟩ := hc k hlt
      rw [← b1.cell hb] at p1 p2
      have HDK := Lib.hid (HD.out ds[k])
      have HX : Hid (∃ x, ds[k] = x) := Lib.hid ⟨_, rfl⟩
      obtain ⟨x, hx⟩ := HX.out
      obtain ⟨x1, x2⟩ := x
      rw [hx] at p1 p2 HDK
      have HXK := Lib.hid hx
      simp only at p1 p2
      have q2 : Row (wr.alloc (.cells #[.int .i64 x1, .int .i64 x2] 69)) wr.heap.size 69 [.int .i64 x1, .int .i64 x2] := row_new rfl
      have q3 := q0.alloc (.cells #[.int .i64 x1, .int .i64 x2] 69)
      have q4 := q1.alloc (.cells #[.int .i64 x1, .int .i64 x2] 69)
      have b2 : Below w.heap.size w (wr.alloc (.cells #[.int .i64 x1, .int .i64 x2] 69)) := by (repeat (first | exact Below.refl _ _ | assumption | (refine Below.setCell ?_ (by first | exact Nat.le_refl _ | omega | (simp; done) | (simp; omega)) _) | (refine Below.trans ?_ (below_drewN _)) | (refine Below.drew ?_) | (refine Below.alloc ?_ (by first | exact Nat.le_refl _ | omega | (simp; done) | (simp; omega)) _) | (refine below_row ?_ (by first | exact Nat.le_refl _ | omega | (simp; done) | (simp; omega)) _)))
      obtain ⟨⟨c0, c1⟩, -⟩ := q3.cells2
      clear hx hc HX
      obtain ⟨vk, hvk⟩ : ∃ v, cs[k]? = some v := ⟨_, List.getElem?_eq_getElem (by omega)⟩
      have hbk := hsz
      go_wp2_with (first
        | (go_at_call 68; (refine (HH.out _).mono ?_; rintro e w2 ⟨rfl, b3⟩; have q5 := q2.below b3; have q6 := q3.below b3; have q7 := q4.below b3; have b4 := b2.trans (b3.mono b2.size); obtain ⟨⟨d0, d1⟩, -⟩ := q5.cells2; have hia : IntsAt w2 (some ⟨wr.heap.size, 0, none⟩) [x1, x2] := ia_two q5))
        | (go_at_call 69; refine (HCL.out wr.heap.size 0 2 [x1, x2] _ (by simp) hia).mono ?_; rintro e w3 ⟨g3, c3, rfl, hg3, hcap, r3, b5⟩; have q8 := q7.below b5; have q9 := q6.below b5; have b6 := b4.trans (b5.mono b4.size); have hs5 := b3.size; have hs6 := b5.size; have fc := q8.free k; have fv : w3.cell? ⟨w.heap.size + 1, k, none⟩ = some vk := (q8.cell k).trans hvk; have hs : w.heap.size + 1 < w3.heap.size := q8.lt))
      have q10 := q8.set k (.slice (some ⟨g3, 0, none⟩) 2 c3)
      have hs5' : wr.heap.size + 1 ≤ w2.heap.size := by simpa using hs5
      have hg3' : w.heap.size + 2 ≤ g3 := by omega
      go_roundw
      case rel =>
        refine ⟨k + 1, _, by omega, by go_num, q9.far (by dsimp only; omega) _, q10, by simpa using hcl, by simp [World.setCell]; omega, Lib.hid fun j hj => ?_, b6.setCell (by dsimp only; omega) _⟩
        by_cases e : j = k
        · subst e
          refine ⟨hlt, g3, c3, hg3', ?_, ?_, ?_⟩
          · rw [List.getElem?_set_self (by omega), HXK.out, HDK.out]; rfl
          · rw [HXK.out, HDK.out]; exact hcap
          · rw [HXK.out, HDK.out]
            exact r3.of (Below.heap_setCell _ _ _ _ (by dsimp only; omega))
        · obtain ⟨h, b', c', h1, h2, h4, h3⟩ := HR.out j (by omega)
          refine ⟨h, b', c', h1, by rw [List.getElem?_set_ne (Ne.symm e)]; exact h2, h4, ?_⟩
          have hl3 := h3.lt
          exact h3.of (((Below.heap_setCell _ _ _ _ (by dsimp only; omega)).trans (b5.block b' (by omega))).trans ((b3.block b' (by simp; omega)).trans (Below.heap_alloc _ _ _ hl3)))
      case measure => simp [intOf]; omega
    · obtain rfl : k = ds.length := by omega
      go_wp2
      go_ret
      refine ⟨_, rfl, by omega, ⟨cs, by rw [List.length_map]; exact hcl, q1, fun j hj => ?_⟩, b1⟩
      obtain ⟨h, b', c', h1, h2, h4, h3⟩ := HR.out j (by simpa using hj)
      exact ⟨b', c', by omega, by rw [List.getElem_map]; exact h2, by rw [List.getElem_map]; exact h4, by rw [List.getElem_map]; exact h3⟩
theorem writeAllM_any (A : Option Addr) (c m n : Nat) (ds : List (Int × Int)) (w : World) (hl : ds.length ≤ 1000) (hp : PairsAt w A ds) :
    Calls Try.prog 55 #[pv m n, .slice A ds.length c] w fun e w' => ∃ G, e = .returned (.slice (some ⟨G, 0, none⟩) ds.length ds.length) ∧ w.heap.size ≤ G ∧ RowsM w.heap.size w' G (ds.map (dec m)) ∧ Below w.heap.size w w' := by
  by_cases hm : m = 1
  · exact writeAllM_one A c m n ds w hl hm hp
  · exact writeAllM_two A c m n ds w hl hm hp
theorem RowsM.mono {B B' : Nat} {w : World} {G : Nat} {L : List (List Int)} (h : RowsM B w G L) (hb : B' ≤ B) : RowsM B' w G L := by
  obtain ⟨cs, h1, h2, h3⟩ := h
  exact ⟨cs, h1, h2, fun j hj => by obtain ⟨b, c, k1, k2⟩ := h3 j hj; exact ⟨b, c, by omega, k2⟩⟩
end Go.Proofs.Ytokjdadgdfmffaa
/- Free. -/
namespace Go.Proofs.Ytokjdadgdfmffaa
open Go.RowKit
set_option maxHeartbeats 1000000
set_option maxRecDepth 100000
theorem own_pairsAt {w : World} {B : Nat} {v : Value} {ds : List (Int × Int)} (h : w.ownsRow B 69 2 v ds.length (pcs ds)) : ∃ A c, v = .slice A ds.length c ∧ PairsAt w A ds := by
  rcases h.2 with ⟨rfl, h0⟩ | ⟨g, cap, cur, rfl, hb, hg, hc1, hc2, hc3, hc4⟩
  · exact ⟨none, 0, by rw [h0], fun hp => absurd hp (by omega)⟩
  · refine ⟨_, _, rfl, fun hp => ⟨g, 0, rfl, (Array.getElem?_eq_some_iff.1 hg).1, fun i hi => ?_⟩⟩
    have e1 : ∀ j, j < ds.length * 2 → cur[j]? = (pcs ds)[j]? := fun j hj => by
      have := congrArg (fun l => l[j]?) hc4
      simp only [List.getElem?_take] at this
      rw [if_pos hj] at this
      rw [← this]; simp
    obtain ⟨p1, p2⟩ := pcs_at ds i hi
    rw [Nat.zero_add]
    simp only [World.cell?, hg]
    exact ⟨(e1 (i * 2) (by omega)).trans p1, (e1 (i * 2 + 1) (by omega)).trans p2⟩
theorem RowsM.in {B : Nat} {w : World} {G : Nat} {L : List (List Int)} (h : RowsM B w G L) : RowsIn w (some ⟨G, 0, none⟩) L := fun hp => by
  obtain ⟨cs, h1, h2, h3⟩ := h
  refine ⟨G, 0, rfl, h2.lt, fun i hi => ?_⟩
  obtain ⟨b, c, k1, k2, ⟨k4, k5⟩, k3⟩ := h3 i hi
  have e : getl L i = L[i] := by unfold getl; rw [List.getD_eq_getElem?_getD, List.getElem?_eq_getElem hi]; rfl
  rw [e]
  exact ⟨_, c, by rw [Nat.zero_add, h2.cell]; exact k2, k4, k5, k3.ints⟩
def FreeQ (m n : Nat) (w : World) (e : Ending) (w' : World) : Prop := ∃ G, e = .returned (.tuple #[.slice (some ⟨G, 0, none⟩) (freeL m n).length (freeL m n).length, .int .i64 0]) ∧ w.heap.size ≤ G ∧ RowsM w.heap.size w' G ((freeL m n).map (dec m)) ∧ Below w.heap.size w w'
theorem freeL_len {m n : Nat} (hg : Gr m n) : (freeL m n).length + 2 = m + n := by
  obtain ⟨m1, m2, n1, n2⟩ := hg
  unfold freeL
  simp; omega
theorem Free_yes (A : Option Addr) (c m n : Nat) (g : List Int) (w : World) (hg : IsG g m n) (ha : IntsAt w A g) :
    Calls Try.prog 26 #[.slice A g.length c] w (FreeQ m n w) := by
  have HH := Lib.hid (readGroup_any A c g w (by have := isG_len hg; omega) ha)
  rw [(isG_R hg).1] at HH
  have HG := Lib.hid hg.1
  have hfl := freeL_len hg.1
  have hmn : m ≤ 24 ∧ n ≤ 24 := ⟨hg.1.2.1, hg.1.2.2.2⟩
  have HFG := Lib.hid (fun W => freeG_any m n W HG.out)
  clear hg ha
  unfold FreeQ
  generalize freeL m n = FL at *
  go_enter Try.func26, Try.ntmps26
  go_wp2_with (go_at_call 53; fail)
  refine HH.out.mono ?_
  rintro e w1 ⟨rfl, hb⟩
  have b9 := hb.alloc hb.size (.cells #[.int .i64 m, .int .i64 n] 63)
  have r9 : Row (w1.alloc (.cells #[.int .i64 m, .int .i64 n] 63)) w1.heap.size 63 [.int .i64 m, .int .i64 n] := row_new rfl
  clear hb HH
  go_wp2
  obtain ⟨q, hq⟩ : ∃ q, w1.heap.size = q := ⟨_, rfl⟩
  obtain ⟨V, hV⟩ : ∃ V, w1.alloc (.cells #[.int .i64 m, .int .i64 n] 63) = V := ⟨_, rfl⟩
  rw [hV] at b9 r9
  rw [hV, hq]
  rw [hq] at r9
  have HS : Hid (∀ W, Below V.heap.size V W → W.cell? ⟨q, 0, none⟩ = some (.int .i64 m) ∧ W.cell? ⟨q, 1, none⟩ = some (.int .i64 n)) :=
    Lib.hid fun W h => ⟨(r9.below h).cells2.1.1, (r9.below h).cells2.1.2⟩
  have HB9 := Lib.hid b9
  clear hV hq b9 r9
  go_region_held3 (fun w' => w'.cell? ⟨q, 0, none⟩ = some (.int .i64 m) ∧ w'.cell? ⟨q, 1, none⟩ = some (.int .i64 n)) (first | assumption | exact HS.out _ (by (repeat (first | exact Below.refl _ _ | refine Below.drew ?_ | refine below_al ?_ _ | refine below_nx ?_ (by assumption)))))
    ((first
      | (go_at_call 56; (with_reducible refine (HFG.out _).mono ?_); rintro e w5 ⟨v5, rfl, o5, hb5⟩; have hnx : Nx _ w5 := hb5; obtain ⟨A7, c7, rfl, hP7⟩ := own_pairsAt o5)
      | (go_at_call 55; (with_reducible refine (writeAllM_any A7 c7 m n FL _ (by omega) (by first | exact hP7 | exact hP7.below ((Below.refl _ _).drew))).mono ?_); rintro e w6 ⟨G, rfl, hG, hR6, hb6⟩; have hnx : Nx _ w6 := hb6)))
  all_goals go_wp2
  all_goals go_ret2
  all_goals have h2 := HB9.out.size
  all_goals have h3 := (show Below V.heap.size V w5 by (repeat (first | exact Below.refl _ _ | refine Below.drew ?_ | refine below_al ?_ _ | refine below_nx ?_ (by assumption)))).size
  all_goals refine ⟨G, rfl, Nat.le_trans (Nat.le_trans h2 h3) hG, hR6.mono (Nat.le_trans h2 h3), HB9.out.trans (Below.mono (B := V.heap.size) ?_ h2)⟩
  all_goals (repeat (first | exact Below.refl _ _ | refine Below.drew ?_ | refine below_al ?_ _ | refine below_nx ?_ (by assumption)))
theorem Free_bad (A : Option Addr) (c : Nat) (g : List Int) (w : World) (hl : g.length ≤ 1000000) (ha : IntsAt w A g) (hv : grV g = false) :
    Calls Try.prog 26 #[.slice A g.length c] w (NoneR w 2) := by
  have HH := Lib.hid (readGroup_no A c g w hl hv ha)
  clear hv ha
  go_enter Try.func26, Try.ntmps26
  go_wp2_with (go_at_call 53; refine HH.out.mono ?_; rintro e w1 ⟨rfl, hb⟩)
  go_ret2
  exact ⟨rfl, hb.alloc hb.size _⟩
end Go.Proofs.Ytokjdadgdfmffaa
