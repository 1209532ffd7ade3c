/- A queue: a slice of the call's own that is cut at its front and grows at its end. -/
import Derived.ArgAppend
import Derived.OwnWalkIn
import Derived.Test.YtmfpegadcecknaaT
namespace Go.Proofs.Ytmfpegadcecknaa
open Go.RowKit
set_option maxHeartbeats 400000
def Que (w : World) (B : Nat) (v : Value) (xs : List Nat) : Prop :=
  ∃ b off cap cur, v = .slice (some ⟨b, off, none⟩) xs.length cap ∧ xs.length ≤ cap ∧ cap ≤ maxLen ∧ B ≤ b ∧ w.heap[b]? = some (.cells cur 3 (0, 0)) ∧ off + cap ≤ cur.size ∧ ∀ j, j < xs.length → cur[off + j]? = some (.int .i64 (getn xs j))
theorem Que.of_own {w : World} {B n : Nat} {v : Value} {xs : List Nat} (h : w.ownsRow B 3 1 v n (intv xs)) (hn : 0 < n) : Que w B v xs := by
  have hl : xs.length = n := by have := h.1; simpa [intv] using this
  rcases h.2 with ⟨_, h0⟩ | ⟨g, cap, cur, rfl, hb, hg, hc, hm, hs, ht⟩
  · omega
  · refine ⟨g, 0, cap, cur, by rw [hl], by omega, hm, hb, hg, by omega, fun j hj => ?_⟩
    have e1 : cur.toList[0 + j]? = (intv xs)[j]? := by rw [← ht, List.getElem?_take, if_pos (by omega), Nat.zero_add]
    rw [← Array.getElem?_toList, e1]
    unfold intv; rw [List.getElem?_map, List.getElem?_eq_getElem hj, getn_eq hj]; rfl
theorem getn_app {xs : List Nat} {x j : Nat} (hj : j < xs.length + 1) : getn (xs ++ [x]) j = if j < xs.length then getn xs j else x := by
  unfold getn
  rw [List.getD_eq_getElem?_getD, List.getD_eq_getElem?_getD]
  split
  · rename_i h; rw [List.getElem?_append_left h]
  · rename_i h
    have : j = xs.length := by omega
    subst this; simp
def qblk : Value → Option Nat
  | .slice (some a) _ _ => some a.block
  | _ => none
/-- What an append to a queue does. -/
structure QG (B : Nat) (v : Value) (w : World) (v' : Value) (w' : World) : Prop where
  row : ∃ r, w.grownBy w' r ∧ ∀ k, r = some k → B ≤ k ∧ qblk v = some k ∧ ∃ cs, w.heap[k]? = some (.cells cs 3 (0, 0))
  blk : qblk v' = qblk v ∨ ∀ k, qblk v' = some k → w.heap.size ≤ k
theorem que_append {P : Program} {w : World} {B : Nat} {v : Value} {xs : List Nat} (h : Que w B v xs) (hB : B ≤ w.heap.size) (t ty : TypeId) (ht : P.underlying t = some (.slice 3)) (i : TypeInfo) (hi : P.info? 3 = some i)
    (hz : i.zero = some (.int .i64 0)) (hs : i.size = 1) (hby : i.bytes = 8) (a : Addr) (c x : Nat) (hx : w.cell? a = some (.int .i64 x)) (hlen : xs.length ≤ 1000) :
    ∃ v' w', (Builtin.append_ #[t, t] ty #[v, .slice (some a) 1 c]).run P w = .ok v' w' ∧ Que w' B v' (xs ++ [x]) ∧ QG B v w v' w' := by
  obtain ⟨b, off, cap, cur, rfl, hle, hcm, hBb, hg, hsz, hcur⟩ := h
  have hnews : ∀ (j : Nat) (u : Value), ([.int .i64 x] : List Value)[j]? = some u → w.cell? (a.add j) = some u := by
    intro j u hj
    match j, hj with
    | 0, hj => simp at hj; subst hj; simpa [Addr.add] using hx
  have h1 : ∀ u ∈ ([.int .i64 x] : List Value), u.oneCell' = true := by intro u hu; simp at hu; subst hu; rfl
  by_cases hr : xs.length + 1 ≤ cap
  · have hlt : off + xs.length < cur.size := by omega
    have hc : ∀ j, j < ([.int .i64 x] : List Value).length → (w.cell? ⟨b, off + xs.length * i.size + j, none⟩).isSome = true := by
      intro j hj
      simp at hj; subst hj
      rw [cell_of_row w b _ _ _ _ hg, hs]
      simp [hlt]
    have hf : ∀ j, j < ([.int .i64 x] : List Value).length → w.frozen? ⟨b, off + xs.length * i.size + j, none⟩ = false := by
      intro j _; exact frozen_of_row w b _ _ _ hg
    have := run_append_room_cells (P := P) w t ty 3 i ht hi b off xs.length cap a 1 c [.int .i64 x] (by rw [hs]; rfl) hnews h1 hr hc hf
    refine ⟨_, _, this, ?_, ⟨some b, ?_, ?_⟩, .inl rfl⟩
    · rw [hs, Nat.mul_one]
      refine ⟨b, off, cap, cur.setIfInBounds (off + xs.length) (.int .i64 x), by simp, by simp; omega, hcm, hBb, ?_, by simpa using hsz, fun j hj => ?_⟩
      · show (World.setCell w ⟨b, off + xs.length, none⟩ (.int .i64 x)).heap[b]? = _
        simp [World.setCell, Array.getElem?_modify, hg]
      · simp only [List.length_append, List.length_singleton] at hj
        rw [getn_app hj]
        by_cases hj2 : j < xs.length
        · rw [if_pos hj2, Array.getElem?_setIfInBounds, if_neg (by omega)]; exact hcur j hj2
        · have : j = xs.length := by omega
          subst this
          rw [if_neg hj2]; simp [hlt]
    · rw [hs, Nat.mul_one]
      show w.grownBy (World.setCell w ⟨b, off + xs.length, none⟩ (.int .i64 x)) (some b)
      exact ⟨rfl, rfl, rfl, by simp [World.setCell], fun k _ hk => Below.heap_setCell _ _ _ k (fun e => hk (by rw [e]))⟩
    · intro k hk; cases hk; exact ⟨hBb, rfl, cur, hg⟩
  · have holds : ∀ (j : Nat) (u : Value), (intv xs)[j]? = some u → w.cell? ((⟨b, off, none⟩ : Addr).add j) = some u := by
      intro j u hu
      have hj : j < xs.length := by have := (List.getElem?_eq_some_iff.1 hu).1; simpa [intv] using this
      have e : (⟨b, off, none⟩ : Addr).add j = ⟨b, off + j, none⟩ := by unfold Addr.add; split <;> simp_all
      rw [e, cell_of_row w b _ _ _ _ hg, hcur j hj, ← hu]
      unfold intv; rw [List.getElem?_map, List.getElem?_eq_getElem hj, getn_eq hj]; rfl
    obtain ⟨v', w', hrun, hown, hgr⟩ := run_append_arg_grows (P := P) w t ty 3 i (.int .i64 0) 1 8 ht hi hz hs hby rfl (by decide) ⟨b, off, none⟩ xs.length cap (intv xs) (by simp [intv]) holds a 1 c [.int .i64 x] rfl hnews (by omega) (by unfold maxLen; omega) (by omega)
    refine ⟨v', w', hrun, Que.of_own (n := xs.length + 1) ?_ (by omega), ⟨none, hgr, fun k hk => by cases hk⟩, .inr fun k hk => ?_⟩
    rotate_left
    · rcases hown.2 with ⟨rfl, _⟩ | ⟨g, cap', cur', rfl, hb, _⟩
      · cases hk
      · cases hk; exact hb
    have e2 : intv (xs ++ [x]) = intv xs ++ [.int .i64 x] := by simp [intv]
    rw [e2]; exact own_mono hown hB
theorem wpListIn_append_que {F : Fence} {n : Nat} {P : Program} (w : World) {ops : Array Oper} {rest : List Oper} {o : Oper} {a : Act} {Q : Exit → Act → World → Prop}
    (hg : o.guard = none) (s x : Operand) (t : TypeId) (hop : o.op = Op.call { callee := Callee.builtin Builtin.append, args := #[s, x], argTypes := #[t, t] })
    (B : Nat) (i : TypeInfo) (ht : P.underlying t = some (.slice 3)) (hi : P.info? 3 = some i) (hz : i.zero = some (.int .i64 0)) (hsz : i.size = 1) (hby : i.bytes = 8)
    (v : Value) (xs : List Nat) (hs : a.eval s = v) (hq : Que w B v xs) (hB : B ≤ w.heap.size) (ad : Addr) (c y : Nat) (hx : a.eval x = .slice (some ad) 1 c) (hc : w.cell? ad = some (.int .i64 y)) (hlen : xs.length ≤ 1000)
    (hK : ∀ v' w', Que w' B v' (xs ++ [y]) → QG B v w v' w' → wpListIn F n P ops Q rest (a.put o.dst v') w') :
    wpListIn F n P ops Q (o :: rest) a w := by
  refine wpListIn_plain hg fun K hK' => ?_
  obtain ⟨v', w', hrun, r1, r2⟩ := que_append (P := P) hq hB t o.type ht i hi hz hsz hby ad c y hc hlen
  unfold Oper.wpIn
  refine ⟨?_, ?_⟩
  · simp [Oper.about, hop, resolve, Target.leads, Sem.run_pure]
  · rw [Oper.semAt_plain F _ _ (by rw [hop]; intro c hc'; cases hc')]
    simp [execOp, hop, resolve, invoke, builtin, hs, hx, hrun, Result.andThen]
    exact hK' _ _ (hK v' w' r1 r2)
end Go.Proofs.Ytmfpegadcecknaa
