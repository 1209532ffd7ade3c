/- The reference's own look at graphs. -/
import Derived.Test.YtmfpegadcecknaaAR
namespace Go.Proofs.Ytmfpegadcecknaa
open Go.RowKit
set_option maxHeartbeats 1000000
set_option maxRecDepth 100000
def bcells (n : Nat) (f : Nat → Bool) : List Value := (List.range n).map fun j => Value.bool (f j)
theorem bcells_at {n : Nat} (f : Nat → Bool) {j : Nat} (h : j < n) : (bcells n f)[j]? = some (.bool (f j)) := by
  unfold bcells; rw [List.getElem?_map, List.getElem?_range h]; rfl
theorem bcells_set {n : Nat} {f : Nat → Bool} {v : Nat} (x : Bool) : (bcells n f).set v (.bool x) = bcells n (fun j => if j = v then x else f j) := by
  unfold bcells
  apply List.ext_getElem?
  intro i
  rw [List.getElem?_set, List.getElem?_map, List.getElem?_map]
  by_cases hi : i < n
  · rw [List.getElem?_range hi]
    by_cases e : v = i
    · subst e; simp [hi]
    · simp [e, Ne.symm e]
  · rw [List.getElem?_eq_none (by simpa using hi)]
    by_cases e : v = i
    · subst e; simp [hi]
    · simp [e]
theorem zero83 : Try.zeroCells83 = (bcells 256 fun _ => false).toArray := by kernel_rfl
/-- The table of edges seen is that of the graph read. -/
structure SeenI (m : Nat) (es : List (Int × Int)) (k : Nat) (gs : List Nat) (f : Nat → Bool) : Prop where
  rows : Rows16 gs
  rest : rd m es Z16 = rd m (es.drop k) gs
  at_ : ∀ a b, a < b → b < 16 → f (16 * a + b) = sHas (near gs a) b
theorem SeenI.start (m : Nat) (es : List (Int × Int)) : SeenI m es 0 Z16 fun _ => false :=
  ⟨rows_zero, by simp, fun a b _ _ => by unfold near sHas; rw [List.getElem?_replicate]; split <;> simp⟩
theorem SeenI.bad {m : Nat} {es : List (Int × Int)} {k : Nat} {gs : List Nat} {f : Nat → Bool} (s : SeenI m es k gs f) (hk : k < es.length) (hm : 1 ≤ m ∧ m ≤ 16) (h : okE m gs (pA es k, pB es k) = false) : (readF m es).isSome = false := by
  unfold readF
  rw [if_pos (by omega), s.rest, rd_step hk, if_neg (by simp [h])]; rfl
theorem SeenI.done {m : Nat} {es : List (Int × Int)} {gs : List Nat} {f : Nat → Bool} (s : SeenI m es es.length gs f) (hm : 1 ≤ m ∧ m ≤ 16) : (readF m es).isSome = true := by
  unfold readF
  rw [if_pos (by omega), s.rest, List.drop_length, rd]; rfl
theorem SeenI.step {m : Nat} {es : List (Int × Int)} {k : Nat} {gs : List Nat} {f : Nat → Bool} (s : SeenI m es k gs f) (hk : k < es.length) (hm : m ≤ 16) {a b : Nat} (ha : pA es k = a) (hb : pB es k = b) (hab : a < b) (hbm : b < m) (hf : f (16 * a + b) = false) :
    SeenI m es (k + 1) (addE gs a b) (fun j => if j = 16 * a + b then true else f j) := by
  have hok : okE m gs (pA es k, pB es k) = true := by
    unfold okE
    rw [ha, hb]
    have := s.at_ a b hab (by omega)
    rw [hf] at this
    simp only [Int.toNat_natCast, ← this]
    simp; omega
  refine ⟨s.rows.addE (by omega) (by omega), ?_, fun u v huv hv => ?_⟩
  · rw [s.rest, rd_step hk, if_pos hok, ha, hb]; rfl
  · have h1 := add_has s.rows (a := a) (b := b) (by omega) (by omega) (by omega) u v
    have h2 := s.at_ u v huv hv
    by_cases e : u = a ∧ v = b
    · obtain ⟨rfl, rfl⟩ := e
      rw [if_pos rfl]
      exact (h1.2 (.inr (.inl ⟨rfl, rfl⟩))).symm
    · rw [if_neg (by omega), h2, Bool.eq_iff_iff, h1]
      constructor
      · exact .inl
      · rintro (h | h | h)
        · exact h
        · exact absurd h e
        · omega
theorem Graph_any (n : Int) (A : Option Addr) (c : Nat) (es : List (Int × Int)) (w : World) (hx : es.length ≤ 1000000) (ha : PairsAt w A es) :
    Calls Try.prog 16 #[.int .i64 n, .slice A es.length c] w fun e w' => e = .returned (.bool (readF n es).isSome) ∧ Below w.heap.size w w' := by
  by_cases hn : 1 ≤ n ∧ n ≤ 16
  · obtain ⟨m, rfl⟩ : ∃ m : Nat, n = m := ⟨n.toNat, by omega⟩
    have hm : 1 ≤ m ∧ m ≤ 16 := by omega
    have g1 : decide ((m : Int) < 1) = false := decide_eq_false (by omega)
    have g2 : decide (16 < (m : Int)) = false := decide_eq_false (by omega)
    have hz := Lib.hid zero83
    go_enter Try.func16, Try.ntmps16
    go_wp2
    have r0 : Row (w.alloc (.cells Try.zeroCells83 83)) w.heap.size 83 (bcells 256 fun _ => false) := by rw [hz.out]; exact row_new rfl
    have hb0 : Below w.heap.size w (w.alloc (.cells Try.zeroCells83 83)) := (Below.refl _ w).alloc (Nat.le_refl _) _
    generalize World.alloc w _ = w1 at *
    go_loopw [6] (fun i wr => ∃ k gs f, k ≤ es.length ∧ i = .int .i64 (k : Nat) ∧ SeenI m es k gs f ∧ Row wr w.heap.size 83 (bcells 256 f) ∧ Below w.heap.size w wr) (fun i _ => es.length - (intOf i).toNat)
    case atStart => exact ⟨0, Z16, fun _ => false, by omega, rfl, SeenI.start m es, r0, hb0⟩
    case round =>
      obtain ⟨k, gs, f, hk, rfl, hs, hr, hb⟩ := hrel
      have HS := Lib.hid hs
      clear hs
      by_cases hlt : k < es.length
      · obtain ⟨B, o, rfl, hB, hc⟩ := (ha.below hb) (by omega)
        obtain ⟨c0, c1⟩ := hc k hlt
        clear hc
        have HBAD := Lib.hid (HS.out.bad hlt hm)
        generalize hpA : pA es k = x at *
        generalize hpB : pB es k = y at *
        have HA := Lib.hid hpA
        have HB := Lib.hid hpB
        clear hpA hpB
        cases q1 : decide (x < 0)
        · cases q2 : decide (y ≤ x)
          · cases q3 : decide ((m : Int) ≤ y)
            · have := of_decide_eq_false q1
              have := of_decide_eq_false q2
              have := of_decide_eq_false q3
              obtain ⟨a, rfl⟩ : ∃ a : Nat, x = a := ⟨x.toNat, by omega⟩
              obtain ⟨b, rfl⟩ : ∃ b : Nat, y = b := ⟨y.toNat, by omega⟩
              have hab : a < b := by omega
              have hbm : b < m := by omega
              have hcell : wr.cell? ⟨w.heap.size, 16 * a + b, none⟩ = some (.bool (f (16 * a + b))) := by rw [hr.cell, bcells_at f (by omega)]
              have hfree := hr.free (16 * a + b)
              cases q4 : f (16 * a + b)
              · rw [q4] at hcell
                go_wp2
                go_quiet (fail)
                go_wp2
                go_roundw
                case rel =>
                  refine ⟨k + 1, addE gs a b, fun j => if j = 16 * a + b then true else f j, by omega, by go_num, HS.out.step hlt hm.2 HA.out HB.out hab hbm q4, ?_, (hb.trans (below_drewN nq)).setCell (by simp) _⟩
                  have := (hr.drewN nq).set (16 * a + b) (.bool true)
                  rw [bcells_set] at this; exact this
                case measure => simp [intOf]; omega
              · rw [q4] at hcell
                go_wp2
                go_quiet (fail)
                go_wp2
                go_ret
                refine ⟨ret_bool (HBAD.out ?_).symm, hb.trans (below_drewN nq)⟩
                have := HS.out.at_ a b hab (by omega)
                unfold okE
                simp only [Int.toNat_natCast, ← this, q4]
                simp
            · go_wp2
              go_quiet (fail)
              go_wp2
              go_ret
              exact ⟨ret_bool (HBAD.out (by have := of_decide_eq_true q3; unfold okE; simp; omega)).symm, hb.trans (below_drewN nq)⟩
          · go_wp2
            go_quiet (fail)
            go_wp2
            go_ret
            exact ⟨ret_bool (HBAD.out (by have := of_decide_eq_true q2; unfold okE; simp; omega)).symm, hb.trans (below_drewN nq)⟩
        · go_wp2
          go_quiet (fail)
          go_wp2
          go_ret
          exact ⟨ret_bool (HBAD.out (by have := of_decide_eq_true q1; unfold okE; simp; omega)).symm, hb.trans (below_drewN nq)⟩
      · obtain rfl : k = es.length := by omega
        go_wp2
        go_ret
        exact ⟨ret_bool (HS.out.done hm).symm, hb⟩
  · have hno : (readF n es).isSome = false := by unfold readF; rw [if_neg hn]; rfl
    cases q1 : decide (n < 1)
    · have := of_decide_eq_false q1
      have q2 : decide (16 < n) = true := decide_eq_true (by omega)
      have HN := Lib.hid hno
      clear hno
      go_enter Try.func16, Try.ntmps16
      go_wp2
      go_ret
      exact ⟨ret_bool HN.out.symm, Below.refl _ _⟩
    · have HN := Lib.hid hno
      clear hno
      go_enter Try.func16, Try.ntmps16
      go_wp2
      go_ret
      exact ⟨ret_bool HN.out.symm, Below.refl _ _⟩
end Go.Proofs.Ytmfpegadcecknaa
