/- The reference counts neighbors. -/
import Derived.Test.YtmfpegadcecknaaAY
import Derived.Test.YtmfpegadcecknaaAS
namespace Go.Proofs.Ytmfpegadcecknaa
open Go.RowKit
set_option maxHeartbeats 1000000
set_option maxRecDepth 100000
/-- After k edges the count is that of the graph of the first k edges. -/
structure NbI (m : Nat) (es : List (Int × Int)) (gs : List Nat) (S v k cnt : Nat) (g : List Nat) : Prop where
  pre : PreI m es gs k g
  cnt : cnt = nb g S v
  sym : ∀ x y, sHas (near g x) y = sHas (near g y) x
theorem nb_zero (S v : Nat) : nb Z16 S v = 0 := by
  unfold nb near sAnd
  rw [List.getElem?_replicate]
  have : pc 16 0 = 0 := by decide
  split <;> simp [this]
theorem NbI.start {m : Nat} {es : List (Int × Int)} {gs : List Nat} (h : readF m es = some gs) (S v : Nat) : NbI m es gs S v 0 0 Z16 :=
  ⟨PreI.start h, (nb_zero S v).symm, fun x y => by unfold near sHas; rw [List.getElem?_replicate, List.getElem?_replicate]; split <;> split <;> simp⟩
theorem NbI.step {m : Nat} {es : List (Int × Int)} {gs : List Nat} {S v k cnt : Nat} {g : List Nat} (h : NbI m es gs S v k cnt g) (hk : k < es.length) (hm : m ≤ 16) :
    ∃ (a b : Nat) (g' : List Nat), pA es k = a ∧ pB es k = b ∧ a < b ∧ b < m ∧ NbI m es gs S v (k + 1) (cnt + if (a = v ∧ sHas S b = true) ∨ (b = v ∧ sHas S a = true) then 1 else 0) g' := by
  obtain ⟨a, b, h1, h2, h3, h4, h5, h6⟩ := h.pre.edge hk hm
  refine ⟨a, b, addE g a b, h1, h2, h3, h4, h6, ?_, fun x y => ?_⟩
  · rw [nb_add h.pre.rows (by omega) (by omega) (by omega) h5 (by rw [← h.sym]; exact h5), h.cnt]
  · rw [Bool.eq_iff_iff, add_has h.pre.rows (by omega) (by omega) (by omega), add_has h.pre.rows (by omega) (by omega) (by omega), h.sym]
    constructor
    · rintro (h | ⟨h, h'⟩ | ⟨h, h'⟩)
      · exact .inl h
      · exact .inr (.inr ⟨h', h⟩)
      · exact .inr (.inl ⟨h', h⟩)
    · rintro (h | ⟨h, h'⟩ | ⟨h, h'⟩)
      · exact .inl h
      · exact .inr (.inr ⟨h', h⟩)
      · exact .inr (.inl ⟨h', h⟩)
theorem neighbors_any (m : Nat) (A : Option Addr) (c : Nat) (es : List (Int × Int)) (gs : List Nat) (g S v : Nat) (w : World) (hx : es.length ≤ 1000000) (ha : PairsAt w A es) (h : readF m es = some gs) (hr : Row w g 4 (bcells m (sHas S))) :
    Calls Try.prog 55 #[.slice A es.length c, .slice (some ⟨g, 0, none⟩) m m, .int .i64 v] w fun e w' => e = .returned (.int .i64 (nb gs S v)) ∧ w = w' := by
  have hm : m ≤ 16 := by have := readF_ok h; omega
  have H0 := Lib.hid (NbI.start h S v)
  have HST := Lib.hid (fun k cnt g (hn : NbI m es gs S v k cnt g) (hk : k < es.length) => hn.step hk hm)
  clear h
  go_enter Try.func55, Try.ntmps55
  go_wp2
  go_loop [7, 8] (fun n i => ∃ (k cnt : Nat) (g' : List Nat), k ≤ es.length ∧ i = .int .i64 k ∧ n = .int .i64 cnt ∧ NbI m es gs S v k cnt g' ∧ cnt ≤ k) (fun _ i => es.length - (intOf i).toNat)
  case atStart => exact ⟨0, 0, Z16, by omega, rfl, rfl, H0.out, by omega⟩
  case round =>
    obtain ⟨k, cnt, g', hk, rfl, rfl, hn, hck⟩ := hrel
    have HN := Lib.hid hn
    clear hn
    by_cases hlt : k < es.length
    · obtain ⟨B, o, rfl, hB, hc⟩ := ha (by omega)
      obtain ⟨c0, c1⟩ := hc k hlt
      obtain ⟨a, b, g2, e1, e2, hab, hbm, hs⟩ := HST.out _ _ _ HN.out hlt
      rw [e1] at c0
      rw [e2] at c1
      have HS := Lib.hid hs
      have ca : w.cell? ⟨g, a, none⟩ = some (.bool (sHas S a)) := by rw [hr.cell, bcells_at _ (by omega)]
      have cb : w.cell? ⟨g, b, none⟩ = some (.bool (sHas S b)) := by rw [hr.cell, bcells_at _ (by omega)]
      clear hc e1 e2 hs HST H0
      cases ga : ((a : Int) == v) <;> cases gb : ((b : Int) == v) <;> cases la : sHas S a <;> cases lb : sHas S b
      all_goals
        rw [la] at ca
        rw [lb] at cb
        have hif : Hid ((a = v ∧ sHas S b = true) ∨ (b = v ∧ sHas S a = true) ↔ (((a : Int) == v) && sHas S b || ((b : Int) == v) && sHas S a) = true) := by
          rw [Bool.or_eq_true, Bool.and_eq_true, Bool.and_eq_true, beq_iff_eq, beq_iff_eq]
          exact ⟨fun h => h.imp (fun h => ⟨by omega, h.2⟩) (fun h => ⟨by omega, h.2⟩), fun h => h.imp (fun h => ⟨by omega, h.2⟩) (fun h => ⟨by omega, h.2⟩)⟩
        have HG := Lib.hid (show (((a : Int) == v) = ((a : Int) == v)) from rfl)
        have GA := Lib.hid ga
        have GB := Lib.hid gb
        have LA := Lib.hid la
        have LB := Lib.hid lb
        clear la lb HG
        go_wp2
        go_round
        case measure => simp [intOf]; omega
        case rel =>
          first
            | exact ⟨k + 1, cnt + 1, g2, by omega, by go_num, by go_num, by have := HS.out; rwa [if_pos (hif.out.2 (by rw [GA.out, GB.out, LA.out, LB.out]; rfl))] at this, by omega⟩
            | exact ⟨k + 1, cnt, g2, by omega, by go_num, rfl, by have := HS.out; rwa [if_neg (fun hh => by have := hif.out.1 hh; rw [GA.out, GB.out, LA.out, LB.out] at this; cases this)] at this, by omega⟩
    · obtain rfl : k = es.length := by omega
      have hfin : cnt = nb gs S v := by rw [HN.out.cnt, HN.out.pre.done]
      have HF := Lib.hid hfin
      clear hfin
      go_wp2
      go_ret
      exact ⟨ret_int (by rw [HF.out]), rfl⟩
end Go.Proofs.Ytmfpegadcecknaa
