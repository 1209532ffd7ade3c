/- The way back. -/
import Derived.Test.YtmfpegadcecknaaN
namespace Go.Proofs.Ytmfpegadcecknaa
open Go.RowKit
set_option maxHeartbeats 1000000
set_option maxRecDepth 100000
/-- The way back from v, by the numbers before. -/
def wbF (bs : List Nat) (first : Nat) : Nat → Nat → List Nat
  | 0, v => [v]
  | k + 1, v => if v = first then [v] else v :: wbF bs first k (getn bs v)
def wbOK (bs : List Nat) (first : Nat) : Nat → Nat → Prop
  | 0, v => v = first
  | k + 1, v => v = first ∨ wbOK bs first k (getn bs v)
theorem wbF_end (bs : List Nat) (first k : Nat) : wbF bs first k first = [first] := by cases k <;> simp [wbF]
/-- An append to a row of the call's own. -/
theorem app1 {W w5 : World} {n₀ : Nat} {e : TypeId} {z k : Nat} {v1 : Value} {xs : List Value} (h1 : W.ownsRow n₀ e z v1 k xs) (hn : n₀ ≤ W.heap.size) {o : Obj}
    (hgr : (W.alloc o).grownBy w5 v1.ownBlock) : Below n₀ W w5 ∧ (∀ g t cs, t ≠ e → Row W g t cs → Row w5 g t cs) :=
  ⟨((Below.refl n₀ W).alloc hn o).grown hgr (by simp; omega) (fun g hg => (own_ge h1 hg).1), fun _ _ _ ht hr => (hr.alloc o).grown hgr (hr.not_own h1 ht)⟩
def slen : Value → Nat
  | .slice _ n _ => n
  | _ => 0
theorem own_slen {w : World} {b n : Nat} {e : TypeId} {z : Nat} {v : Value} {xs : List Value} (h : w.ownsRow b e z v n xs) : slen v = n := by
  rcases h.2 with ⟨rfl, h0⟩ | ⟨g, cap, cur, rfl, _⟩
  · exact h0.symm
  · rfl
theorem own_one (w : World) (x : Value) (t : TypeId) {base : Nat} (hb : base ≤ w.heap.size) : (w.alloc (.cells #[x] t)).ownsRow base t 1 (.slice (some ⟨w.heap.size, 0, none⟩) 1 1) 1 [x] :=
  ⟨rfl, .inr ⟨w.heap.size, 1, #[x], rfl, hb, heap_alloc_new w _, Nat.le_refl _, by unfold maxLen; omega, rfl, rfl⟩⟩
theorem intv_row {w : World} {g : Nat} {t : TypeId} {xs : List Nat} (h : Row w g t (intv xs)) {i : Nat} (hi : i < xs.length) : w.cell? ⟨g, i, none⟩ = some (.int .i64 (getn xs i)) := by
  rw [h.cell]; unfold intv; rw [List.getElem?_map, List.getElem?_eq_getElem hi, getn_eq hi]; rfl
theorem wayBack_any (bs : List Nat) (first last K : Nat) (w : World) (hl : bs.length = 16) (hb : ∀ v, v < 16 → getn bs v < 16) (h1 : first < 16) (h2 : last < 16) (hK : K ≤ 16) (hok : wbOK bs first K last) :
    Calls Try.prog 71 #[.agg (intv bs).toArray, .int .i64 first, .int .i64 last] w fun e w' => ∃ v, e = .returned v ∧ w'.ownsRow w.heap.size 3 1 v (wbF bs first K last).length (intv (wbF bs first K last)) ∧ Below w.heap.size w w' := by
  obtain ⟨i0, hi, hz0, hz1, hz2⟩ := info_parts info3
  have hlen : (intv bs).length = 16 := by simp [intv, hl]
  have HLN := Lib.hid hlen
  have HBL := Lib.hid hl
  have HB := Lib.hid hb
  have tok1 : True := trivial
  clear hb hl hlen
  go_enter Try.func71, Try.ntmps71
  go_wp2
  have r0 : Row ((w.alloc (.cells (intv bs).toArray 93)).alloc (.cells #[.int .i64 last] 3)) w.heap.size 93 (intv bs) := (Row.new _ _ _).alloc _
  have o0 := own_one (w.alloc (.cells (intv bs).toArray 93)) (.int .i64 last) 3 (base := w.heap.size) (by simp)
  rw [World.size_alloc] at o0
  have hb0 : Below w.heap.size w ((w.alloc (.cells (intv bs).toArray 93)).alloc (.cells #[.int .i64 last] 3)) := by (repeat (first | exact Below.refl _ _ | assumption | (refine Below.setCell ?_ (by first | exact Nat.le_refl _ | omega | (simp; done) | (simp; omega)) _) | (refine Below.trans ?_ (below_drewN _)) | (refine Below.drew ?_) | (refine Below.alloc ?_ (by first | exact Nat.le_refl _ | omega | (simp; done) | (simp; omega)) _) | (refine below_row ?_ (by first | exact Nat.le_refl _ | omega | (simp; done) | (simp; omega)) _)))
  have HOK := Lib.hid hok
  clear hok
  go_loopw [7, 8] (fun a b wr => ∃ (k v : Nat) (pre : List Nat) (sl : Value), a = sl ∧ b = .int .i64 v ∧ v < 16 ∧ pre.length + k ≤ K ∧ wbOK bs first k v ∧ pre ++ wbF bs first k v = wbF bs first K last ∧
    wr.ownsRow w.heap.size 3 1 sl (pre.length + 1) (intv (pre ++ [v])) ∧ Row wr w.heap.size 93 (intv bs) ∧ Below w.heap.size w wr) (fun a _ _ => 17 - slen a)
  case atStart => exact ⟨K, last, [], _, rfl, rfl, h2, by simp, HOK.out, rfl, o0, r0, hb0⟩
  case round =>
    obtain ⟨k, v, pre, sl, rfl, rfl, hv, hpk, hk, heq, p, rr, hB⟩ := hrel
    have HE := Lib.hid heq
    have HKK := Lib.hid hk
    have hle := hB.size
    clear heq hk
    by_cases hvf : v = first
    · subst hvf
      have hne : ((v:Int) != v) = false := by simp
      go_wp2
      go_ret
      have h3 := HE.out
      rw [wbF_end] at h3
      rw [← h3]
      exact ⟨_, rfl, by simpa using p, hB⟩
    · have hne : ((v:Int) != first) = true := by simp; omega
      obtain ⟨k', rfl⟩ : ∃ k', k = k' + 1 := by
        cases k with
        | zero => exact absurd HKK.out hvf
        | succ k => exact ⟨k, rfl⟩
      have c1 := intv_row rr (i := v) (by rw [HBL.out]; exact hv)
      have hy := HB.out v hv
      have HY := Lib.hid (show wbF bs first (k' + 1) v = v :: wbF bs first k' (getn bs v) by rw [wbF, if_neg hvf])
      have hk2 : wbOK bs first k' (getn bs v) := by
        rcases HKK.out with h | h
        · exact absurd h hvf
        · exact h
      have HK2 := Lib.hid hk2
      clear hk2
      generalize getn bs v = y at *
      go_wp2_with (at_builtin; have _t := tok1; refine wpList_append_own_at _ rfl (.tmp 18) (.tmp 20) 24 rfl w.heap.size 3 i0 (.int .i64 0) 1 8 Try.underlying24 hi hz0 hz1 hz2 rfl (by decide) _ _ _ rfl (p.alloc _) ⟨wr.heap.size, 0, none⟩ 1 1 [.int .i64 y] rfl rfl (cell_one_new _ _ _) (by simp [Value.oneCell']) (by unfold maxLen; omega) (by omega) (by simp; omega) ?_; intro v1c w5 hn1 hgr1 _ hat1; clear tok1; obtain ⟨hB5, hrow5⟩ := app1 p (by omega) hgr1; have rr5 := hrow5 _ _ _ (by decide) rr)
      go_roundw
      case rel =>
        refine ⟨k', y, pre ++ [v], v1c, rfl, rfl, hy, by simp; omega, HK2.out, by rw [← HE.out, HY.out]; simp, ?_, rr5, hB.trans hB5⟩
        have e1 : (pre ++ [v]).length + 1 = pre.length + 1 + 1 := by simp
        have e2 : intv (pre ++ [v] ++ [y]) = intv (pre ++ [v]) ++ [.int .i64 y] := by simp [intv]
        rw [e1, e2]; exact hn1
      case measure =>
        rw [own_slen hn1, own_slen p]; omega
end Go.Proofs.Ytmfpegadcecknaa
