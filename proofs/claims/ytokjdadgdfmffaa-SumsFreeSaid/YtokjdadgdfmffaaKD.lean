/- A group is read. -/
import Derived.Test.YtokjdadgdfmffaaKC
import Derived.Laws.CopyRow
namespace Go.Proofs.Ytokjdadgdfmffaa
open Go.RowKit
set_option maxHeartbeats 1000000
set_option maxRecDepth 100000
theorem wpList_copy_run {P : Program} (w : World) {ops : Array Oper} {rest : List Oper} {o : Oper} {a : Act} {Q : Exit → Act → World → Prop} (hgd : o.guard = none) (d s : Operand) (t t' : TypeId)
    (ho : o.op = .call { callee := .builtin .copy, args := #[d, s], argTypes := #[t, t'] }) (v u : Value) (hd : a.eval d = v) (hs : a.eval s = u) {v' : Value} {w' : World}
    (hr : (Builtin.copy_ #[t, t'] o.type #[v, u]).run P w = .ok v' w') (h : wpList P ops Q rest (a.put o.dst v') w') : wpList P ops Q (o :: rest) a w :=
  wpList_plain hgd fun _ hK => by
    unfold Oper.wp execOp
    simp only [ho, resolve, invoke, builtin, Sem.run_bind, Sem.run_pure, Result.andThen_ok, List.map_toArray, List.map_cons, List.map_nil, hd, hs, hr]
    exact hK _ _ h
theorem cell_up {w W : World} {b o : Nat} {v : Value} (hB : Below w.heap.size w W) (hb : b < w.heap.size) (h : w.cell? ⟨b, o, none⟩ = some v) : W.cell? ⟨b, o, none⟩ = some v := (hB.cell (p := ⟨b, o, none⟩) hb).trans h
/-- What is read as a group, and whether it is one. -/
def grA : List Int → Int
  | [x] => if 2 ≤ x ∧ x ≤ 24 then 1 else 0
  | [x, y] => if (2 ≤ x ∧ x ≤ 24) ∧ 2 ≤ y ∧ y ≤ 24 then x else 0
  | _ => 0
def grB : List Int → Int
  | [x] => if 2 ≤ x ∧ x ≤ 24 then x else 0
  | [x, y] => if (2 ≤ x ∧ x ≤ 24) ∧ 2 ≤ y ∧ y ≤ 24 then y else 0
  | _ => 0
def grV : List Int → Bool
  | [x] => decide (2 ≤ x ∧ x ≤ 24)
  | [x, y] => decide (((2 ≤ x ∧ x ≤ 24) ∧ 2 ≤ y ∧ y ≤ 24) ∧ y % x = 0 ∧ x * y ≤ 144)
  | _ => false
def grR (g : List Int) : Value := .tuple #[pv (grA g) (grB g), .bool (grV g)]
theorem load63 {W : World} {k : Nat} {x y : Int} (h : Row W k 63 [.int .i64 x, .int .i64 y]) : (loadVar 63 ⟨k, 0, none⟩).run Try.prog W = .ok (pv x y) W :=
  run_loadVar_row (P := Try.prog) W k 63 63 #[.int .i64 x, .int .i64 y] (0, 0) _ (row_heap h) Try.underlying63 rfl info63
theorem load69 {W : World} {k : Nat} {x y : Int} (h : Row W k 69 [.int .i64 x, .int .i64 y]) : (loadVar 69 ⟨k, 0, none⟩).run Try.prog W = .ok (pv x y) W :=
  run_loadVar_row (P := Try.prog) W k 69 69 #[.int .i64 x, .int .i64 y] (0, 0) _ (row_heap h) Try.underlying69 rfl info69
theorem readGroup_len (A : Option Addr) (c : Nat) (g : List Int) (w : World) (hl : g.length ≤ 1000000) (h1 : g.length ≠ 1) (h2 : g.length ≠ 2) :
    Calls Try.prog 53 #[.slice A g.length c] w fun e w' => e = .returned (grR g) ∧ Below w.heap.size w w' := by
  have hv : grR g = .tuple #[pv 0 0, .bool false] := by
    match g, h1, h2 with
    | [], _, _ => rfl
    | [_], h, _ => exact absurd rfl h
    | [_, _], _, h => exact absurd rfl h
    | _ :: _ :: _ :: _, _, _ => rfl
  rw [hv]
  have g1 : ((g.length : Int) != 1) = true := by simp; omega
  have g2 : ((g.length : Int) != 2) = true := by simp; omega
  clear h1 h2 hv
  go_enter Try.func53, Try.ntmps53
  go_wp2
  exact bodyPost_ret (v := .tuple #[pv 0 0, .bool false]) (res2 Try.results53 rfl rfl (load63 (row_new rfl))) rfl ⟨rfl, by (repeat (first | exact Below.refl _ _ | assumption | (refine Below.setCell ?_ (by first | exact Nat.le_refl _ | omega | (simp; done) | (simp; omega)) _) | (refine Below.trans ?_ (below_drewN _)) | (refine Below.drew ?_) | (refine Below.alloc ?_ (by first | exact Nat.le_refl _ | omega | (simp; done) | (simp; omega)) _) | (refine below_row ?_ (by first | exact Nat.le_refl _ | omega | (simp; done) | (simp; omega)) _)))⟩
theorem pv_mul {x y : Int} (hx : 2 ≤ x ∧ x ≤ 24) (hy : 2 ≤ y ∧ y ≤ 24) : 0 ≤ x * y ∧ x * y ≤ 1000 := by
  obtain ⟨h1, h2⟩ := hx
  obtain ⟨h3, h4⟩ := hy
  refine ⟨Int.mul_nonneg (by omega) (by omega), ?_⟩
  have := Int.mul_le_mul h2 h4 (by omega) (by omega : (0:Int) ≤ 24)
  omega
theorem readGroup_one (A : Option Addr) (c : Nat) (x : Int) (w : World) (ha : IntsAt w A [x]) :
    Calls Try.prog 53 #[.slice A 1 c] w fun e w' => e = .returned (grR [x]) ∧ Below w.heap.size w w' := by
  obtain ⟨b, o, rfl, hb, hc⟩ := ha (by simp)
  have c0 := hc 0 (by simp)
  rw [show geti [x] 0 = x from rfl, Nat.add_zero] at c0
  clear hc ha
  have HC : (Builtin.copy_ #[22, 22] 3 #[.slice (some ⟨w.heap.size + 1, 1, none⟩) 1 1, .slice (some ⟨b, o, none⟩) 1 c]).run Try.prog ((w.alloc (.cells #[.int .i64 0, .int .i64 0] 63)).alloc (.cells #[.int .i64 1, .int .i64 1] 63)) =
      .ok (goInt 1) ((w.alloc (.cells #[.int .i64 0, .int .i64 0] 63)).alloc (.cells #[.int .i64 1, .int .i64 x] 63)) := by
    have h := run_copy_row (P := Try.prog) ((w.alloc (.cells #[.int .i64 0, .int .i64 0] 63)).alloc (.cells #[.int .i64 1, .int .i64 1] 63)) 22 22 3 3 (w.heap.size + 1) 1 1 1 ⟨b, o, none⟩ 1 c #[.int .i64 1, .int .i64 1] 63 [.int .i64 x] Try.underlying22 (by kernel_rfl) (row_new (cs := [.int .i64 1, .int .i64 1]) (by simp)) rfl
      (fun j v hj => by
        match j, hj with
        | 0, hj => injection hj with hj; subst hj; rw [WideShapes.add_plain, Nat.add_zero]; exact cell_up (by (repeat (first | exact Below.refl _ _ | assumption | (refine Below.setCell ?_ (by first | exact Nat.le_refl _ | omega | (simp; done) | (simp; omega)) _) | (refine Below.trans ?_ (below_drewN _)) | (refine Below.drew ?_) | (refine Below.alloc ?_ (by first | exact Nat.le_refl _ | omega | (simp; done) | (simp; omega)) _) | (refine below_row ?_ (by first | exact Nat.le_refl _ | omega | (simp; done) | (simp; omega)) _)))) hb c0) (by simp) (fun v hv => by rcases List.mem_singleton.1 hv; rfl)
    rw [h]
    have e := setRow_alloc (w.alloc (.cells #[.int .i64 0, .int .i64 0] 63)) #[.int .i64 1, .int .i64 1] #[.int .i64 1, .int .i64 x] 63
    rw [World.size_alloc] at e
    rw [← e]; rfl
  go_enter Try.func53, Try.ntmps53
  go_wp2
  go_loop [18] (fun i => i = .int .i64 0 ∨ (i = .int .i64 1 ∧ 2 ≤ x ∧ x ≤ 24)) (fun i => 2 - (intOf i).toNat)
  case atStart => exact .inl rfl
  case round =>
    rcases hrel with rfl | ⟨rfl, hx1, hx2⟩
    · by_cases hx : 2 ≤ x ∧ x ≤ 24
      · skip
        · obtain ⟨hx1, hx2⟩ := hx
          have g2 : decide (x < 2) = false := decide_eq_false (by omega)
          have g3 : decide (24 < x) = false := decide_eq_false (by omega)
          go_wp2
          go_round
          case rel => exact .inr ⟨rfl, hx1, hx2⟩
          case measure => simp [intOf]
      · have hv : Hid (grR [x] = .tuple #[pv 0 0, .bool false]) := Lib.hid (by simp only [grR, grA, grB, grV, if_neg hx, decide_eq_false hx])
        skip
        · by_cases h1 : x < 2
          · have g2 : decide (x < 2) = true := decide_eq_true h1
            clear h1
            go_wp2
            exact bodyPost_ret (v := .tuple #[pv 0 0, .bool false]) (res2 Try.results53 rfl rfl (load63 (row_new rfl))) rfl ⟨by rw [hv.out], by (repeat (first | exact Below.refl _ _ | assumption | (refine Below.setCell ?_ (by first | exact Nat.le_refl _ | omega | (simp; done) | (simp; omega)) _) | (refine Below.trans ?_ (below_drewN _)) | (refine Below.drew ?_) | (refine Below.alloc ?_ (by first | exact Nat.le_refl _ | omega | (simp; done) | (simp; omega)) _) | (refine below_row ?_ (by first | exact Nat.le_refl _ | omega | (simp; done) | (simp; omega)) _)))⟩
          · have g2 : decide (x < 2) = false := decide_eq_false h1
            have g3 : decide (24 < x) = true := decide_eq_true (by omega)
            clear h1
            go_wp2
            exact bodyPost_ret (v := .tuple #[pv 0 0, .bool false]) (res2 Try.results53 rfl rfl (load63 (row_new rfl))) rfl ⟨by rw [hv.out], by (repeat (first | exact Below.refl _ _ | assumption | (refine Below.setCell ?_ (by first | exact Nat.le_refl _ | omega | (simp; done) | (simp; omega)) _) | (refine Below.trans ?_ (below_drewN _)) | (refine Below.drew ?_) | (refine Below.alloc ?_ (by first | exact Nat.le_refl _ | omega | (simp; done) | (simp; omega)) _) | (refine below_row ?_ (by first | exact Nat.le_refl _ | omega | (simp; done) | (simp; omega)) _)))⟩
    · have hv : Hid (grR [x] = .tuple #[pv 1 x, .bool true]) := Lib.hid (by have hx : 2 ≤ x ∧ x ≤ 24 := ⟨hx1, hx2⟩; simp only [grR, grA, grB, grV, if_pos hx, decide_eq_true hx])
      have r1 : Row ((w.alloc (.cells #[.int .i64 0, .int .i64 0] 63)).alloc (.cells #[.int .i64 1, .int .i64 x] 63)) (w.heap.size + 1) 63 [.int .i64 1, .int .i64 x] := row_new (by simp)
      have r0 : Row ((w.alloc (.cells #[.int .i64 0, .int .i64 0] 63)).alloc (.cells #[.int .i64 1, .int .i64 x] 63)) w.heap.size 63 [.int .i64 0, .int .i64 0] := (row_new rfl).alloc _
      have b0 : Below w.heap.size w ((w.alloc (.cells #[.int .i64 0, .int .i64 0] 63)).alloc (.cells #[.int .i64 1, .int .i64 x] 63)) := by (repeat (first | exact Below.refl _ _ | assumption | (refine Below.setCell ?_ (by first | exact Nat.le_refl _ | omega | (simp; done) | (simp; omega)) _) | (refine Below.trans ?_ (below_drewN _)) | (refine Below.drew ?_) | (refine Below.alloc ?_ (by first | exact Nat.le_refl _ | omega | (simp; done) | (simp; omega)) _) | (refine below_row ?_ (by first | exact Nat.le_refl _ | omega | (simp; done) | (simp; omega)) _)))
      have ge : (x.tmod 1 == 0) = true := by simp
      have ge2 : (x % 1 == 0) = true := by simp
      have gl : decide (x ≤ 144) = true := decide_eq_true (by omega)
      go_wp2
      go_region
      go_wp2
      exact bodyPost_ret (v := .tuple #[pv 1 x, .bool true]) (res2 Try.results53 rfl rfl (load63 (((row_new (cs := [.int .i64 1, .int .i64 x]) rfl).alloc _).drew))) rfl ⟨by rw [hv.out], by (repeat (first | exact Below.refl _ _ | assumption | (refine Below.setCell ?_ (by first | exact Nat.le_refl _ | omega | (simp; done) | (simp; omega)) _) | (refine Below.trans ?_ (below_drewN _)) | (refine Below.drew ?_) | (refine Below.alloc ?_ (by first | exact Nat.le_refl _ | omega | (simp; done) | (simp; omega)) _) | (refine below_row ?_ (by first | exact Nat.le_refl _ | omega | (simp; done) | (simp; omega)) _)))⟩
theorem readGroup_two (A : Option Addr) (c : Nat) (x y : Int) (w : World) (ha : IntsAt w A [x, y]) :
    Calls Try.prog 53 #[.slice A 2 c] w fun e w' => e = .returned (grR [x, y]) ∧ Below w.heap.size w w' := by
  obtain ⟨b, o, rfl, hb, hc⟩ := ha (by simp)
  have c0 := hc 0 (by simp)
  have c1 := hc 1 (by simp)
  rw [show geti [x, y] 0 = x from rfl, Nat.add_zero] at c0
  rw [show geti [x, y] 1 = y from rfl] at c1
  clear hc ha
  have HC : (Builtin.copy_ #[22, 22] 3 #[.slice (some ⟨w.heap.size + 1, 0, none⟩) 2 2, .slice (some ⟨b, o, none⟩) 2 c]).run Try.prog ((w.alloc (.cells #[.int .i64 0, .int .i64 0] 63)).alloc (.cells #[.int .i64 1, .int .i64 1] 63)) =
      .ok (goInt 2) ((w.alloc (.cells #[.int .i64 0, .int .i64 0] 63)).alloc (.cells #[.int .i64 x, .int .i64 y] 63)) := by
    have h := run_copy_row (P := Try.prog) ((w.alloc (.cells #[.int .i64 0, .int .i64 0] 63)).alloc (.cells #[.int .i64 1, .int .i64 1] 63)) 22 22 3 3 (w.heap.size + 1) 0 2 2 ⟨b, o, none⟩ 2 c #[.int .i64 1, .int .i64 1] 63 [.int .i64 x, .int .i64 y] Try.underlying22 (by kernel_rfl) (row_new (cs := [.int .i64 1, .int .i64 1]) (by simp)) rfl
      (fun j v hj => by
        match j, hj with
        | 0, hj => injection hj with hj; subst hj; rw [WideShapes.add_plain, Nat.add_zero]; exact cell_up (by (repeat (first | exact Below.refl _ _ | assumption | (refine Below.setCell ?_ (by first | exact Nat.le_refl _ | omega | (simp; done) | (simp; omega)) _) | (refine Below.trans ?_ (below_drewN _)) | (refine Below.drew ?_) | (refine Below.alloc ?_ (by first | exact Nat.le_refl _ | omega | (simp; done) | (simp; omega)) _) | (refine below_row ?_ (by first | exact Nat.le_refl _ | omega | (simp; done) | (simp; omega)) _)))) hb c0
        | 1, hj => injection hj with hj; subst hj; rw [WideShapes.add_plain]; exact cell_up (by (repeat (first | exact Below.refl _ _ | assumption | (refine Below.setCell ?_ (by first | exact Nat.le_refl _ | omega | (simp; done) | (simp; omega)) _) | (refine Below.trans ?_ (below_drewN _)) | (refine Below.drew ?_) | (refine Below.alloc ?_ (by first | exact Nat.le_refl _ | omega | (simp; done) | (simp; omega)) _) | (refine below_row ?_ (by first | exact Nat.le_refl _ | omega | (simp; done) | (simp; omega)) _)))) hb c1) (by simp) (fun v hv => by simp only [List.mem_cons, List.not_mem_nil, or_false] at hv; rcases hv with rfl | rfl <;> rfl)
    rw [h]
    have e := setRow_alloc (w.alloc (.cells #[.int .i64 0, .int .i64 0] 63)) #[.int .i64 1, .int .i64 1] #[.int .i64 x, .int .i64 y] 63
    rw [World.size_alloc] at e
    rw [← e]; rfl
  go_enter Try.func53, Try.ntmps53
  go_wp2
  go_loop [18] (fun i => i = .int .i64 0 ∨ (i = .int .i64 1 ∧ 2 ≤ x ∧ x ≤ 24) ∨ (i = .int .i64 2 ∧ (2 ≤ x ∧ x ≤ 24) ∧ 2 ≤ y ∧ y ≤ 24)) (fun i => 3 - (intOf i).toNat)
  case atStart => exact .inl rfl
  case round =>
    rcases hrel with rfl | ⟨rfl, hx1, hx2⟩ | ⟨rfl, ⟨hx1, hx2⟩, hy1, hy2⟩
    · by_cases hx : 2 ≤ x ∧ x ≤ 24
      · skip
        · obtain ⟨hz1, hz2⟩ := hx
          have g2 : decide (x < 2) = false := decide_eq_false (by omega)
          have g3 : decide (24 < x) = false := decide_eq_false (by omega)
          go_wp2
          go_round
          case rel => exact .inr (.inl ⟨rfl, hz1, hz2⟩)
          case measure => simp [intOf]
      · have hv : Hid (grR [x, y] = .tuple #[pv 0 0, .bool false]) := Lib.hid (by have h1 : ¬ ((2 ≤ x ∧ x ≤ 24) ∧ 2 ≤ y ∧ y ≤ 24) := fun h => hx h.1; have h2 : ¬ (((2 ≤ x ∧ x ≤ 24) ∧ 2 ≤ y ∧ y ≤ 24) ∧ y % x = 0 ∧ x * y ≤ 144) := fun h => h1 h.1; simp only [grR, grA, grB, grV, if_neg h1, decide_eq_false h2])
        skip
        · by_cases h1 : x < 2
          · have g2 : decide (x < 2) = true := decide_eq_true h1
            clear h1
            go_wp2
            exact bodyPost_ret (v := .tuple #[pv 0 0, .bool false]) (res2 Try.results53 rfl rfl (load63 (row_new rfl))) rfl ⟨by rw [hv.out], by (repeat (first | exact Below.refl _ _ | assumption | (refine Below.setCell ?_ (by first | exact Nat.le_refl _ | omega | (simp; done) | (simp; omega)) _) | (refine Below.trans ?_ (below_drewN _)) | (refine Below.drew ?_) | (refine Below.alloc ?_ (by first | exact Nat.le_refl _ | omega | (simp; done) | (simp; omega)) _) | (refine below_row ?_ (by first | exact Nat.le_refl _ | omega | (simp; done) | (simp; omega)) _)))⟩
          · have g2 : decide (x < 2) = false := decide_eq_false h1
            have g3 : decide (24 < x) = true := decide_eq_true (by omega)
            clear h1
            go_wp2
            exact bodyPost_ret (v := .tuple #[pv 0 0, .bool false]) (res2 Try.results53 rfl rfl (load63 (row_new rfl))) rfl ⟨by rw [hv.out], by (repeat (first | exact Below.refl _ _ | assumption | (refine Below.setCell ?_ (by first | exact Nat.le_refl _ | omega | (simp; done) | (simp; omega)) _) | (refine Below.trans ?_ (below_drewN _)) | (refine Below.drew ?_) | (refine Below.alloc ?_ (by first | exact Nat.le_refl _ | omega | (simp; done) | (simp; omega)) _) | (refine below_row ?_ (by first | exact Nat.le_refl _ | omega | (simp; done) | (simp; omega)) _)))⟩
    · by_cases hy : 2 ≤ y ∧ y ≤ 24
      · skip
        · obtain ⟨hz1, hz2⟩ := hy
          have g2 : decide (y < 2) = false := decide_eq_false (by omega)
          have g3 : decide (24 < y) = false := decide_eq_false (by omega)
          go_wp2
          go_round
          case rel => exact .inr (.inr ⟨rfl, ⟨hx1, hx2⟩, hz1, hz2⟩)
          case measure => simp [intOf]
      · have hv : Hid (grR [x, y] = .tuple #[pv 0 0, .bool false]) := Lib.hid (by have h1 : ¬ ((2 ≤ x ∧ x ≤ 24) ∧ 2 ≤ y ∧ y ≤ 24) := fun h => hy h.2; have h2 : ¬ (((2 ≤ x ∧ x ≤ 24) ∧ 2 ≤ y ∧ y ≤ 24) ∧ y % x = 0 ∧ x * y ≤ 144) := fun h => h1 h.1; simp only [grR, grA, grB, grV, if_neg h1, decide_eq_false h2])
        skip
        · by_cases h1 : y < 2
          · have g2 : decide (y < 2) = true := decide_eq_true h1
            clear h1
            go_wp2
            exact bodyPost_ret (v := .tuple #[pv 0 0, .bool false]) (res2 Try.results53 rfl rfl (load63 (row_new rfl))) rfl ⟨by rw [hv.out], by (repeat (first | exact Below.refl _ _ | assumption | (refine Below.setCell ?_ (by first | exact Nat.le_refl _ | omega | (simp; done) | (simp; omega)) _) | (refine Below.trans ?_ (below_drewN _)) | (refine Below.drew ?_) | (refine Below.alloc ?_ (by first | exact Nat.le_refl _ | omega | (simp; done) | (simp; omega)) _) | (refine below_row ?_ (by first | exact Nat.le_refl _ | omega | (simp; done) | (simp; omega)) _)))⟩
          · have g2 : decide (y < 2) = false := decide_eq_false h1
            have g3 : decide (24 < y) = true := decide_eq_true (by omega)
            clear h1
            go_wp2
            exact bodyPost_ret (v := .tuple #[pv 0 0, .bool false]) (res2 Try.results53 rfl rfl (load63 (row_new rfl))) rfl ⟨by rw [hv.out], by (repeat (first | exact Below.refl _ _ | assumption | (refine Below.setCell ?_ (by first | exact Nat.le_refl _ | omega | (simp; done) | (simp; omega)) _) | (refine Below.trans ?_ (below_drewN _)) | (refine Below.drew ?_) | (refine Below.alloc ?_ (by first | exact Nat.le_refl _ | omega | (simp; done) | (simp; omega)) _) | (refine below_row ?_ (by first | exact Nat.le_refl _ | omega | (simp; done) | (simp; omega)) _)))⟩
    · have hp := pv_mul ⟨hx1, hx2⟩ ⟨hy1, hy2⟩
      obtain ⟨hp1, hp2⟩ := hp
      have hv : Hid (grR [x, y] = .tuple #[pv x y, .bool (decide (y % x = 0 ∧ x * y ≤ 144))]) := Lib.hid (by have h1 : (2 ≤ x ∧ x ≤ 24) ∧ 2 ≤ y ∧ y ≤ 24 := ⟨⟨hx1, hx2⟩, hy1, hy2⟩; simp only [grR, grA, grB, grV, eq_true h1, if_true, true_and])
      have r1 : Row ((w.alloc (.cells #[.int .i64 0, .int .i64 0] 63)).alloc (.cells #[.int .i64 x, .int .i64 y] 63)) (w.heap.size + 1) 63 [.int .i64 x, .int .i64 y] := row_new (by simp)
      have r0 : Row ((w.alloc (.cells #[.int .i64 0, .int .i64 0] 63)).alloc (.cells #[.int .i64 x, .int .i64 y] 63)) w.heap.size 63 [.int .i64 0, .int .i64 0] := (row_new rfl).alloc _
      have b0 : Below w.heap.size w ((w.alloc (.cells #[.int .i64 0, .int .i64 0] 63)).alloc (.cells #[.int .i64 x, .int .i64 y] 63)) := by (repeat (first | exact Below.refl _ _ | assumption | (refine Below.setCell ?_ (by first | exact Nat.le_refl _ | omega | (simp; done) | (simp; omega)) _) | (refine Below.trans ?_ (below_drewN _)) | (refine Below.drew ?_) | (refine Below.alloc ?_ (by first | exact Nat.le_refl _ | omega | (simp; done) | (simp; omega)) _) | (refine below_row ?_ (by first | exact Nat.le_refl _ | omega | (simp; done) | (simp; omega)) _)))
      have hw : IntKind.i64.wrap (x * y) = x * y := IntWalk.i64_in _ (by omega)
      have hw2 : wrap64 (x * y) = x * y := IntWalk.wrap64_in _ ⟨by omega, by omega⟩
      by_cases h1 : y % x = 0
      · by_cases h2 : x * y ≤ 144
        · have hv2 : Hid (grR [x, y] = .tuple #[pv x y, .bool true]) := Lib.hid (by rw [hv.out, decide_eq_true ⟨h1, h2⟩])
          have ge : (y % x == 0) = true := by simp [h1]
          have gl : decide (x * y ≤ 144) = true := decide_eq_true h2
          clear h1 h2 hv
          have hv := hv2
          clear hv2
          go_wp2
          go_region
          go_wp2
          exact bodyPost_ret (v := .tuple #[pv x y, .bool true]) (res2 Try.results53 rfl rfl (load63 (((row_new (cs := [.int .i64 x, .int .i64 y]) rfl).alloc _).drew))) rfl ⟨by rw [hv.out], by (repeat (first | exact Below.refl _ _ | assumption | (refine Below.setCell ?_ (by first | exact Nat.le_refl _ | omega | (simp; done) | (simp; omega)) _) | (refine Below.trans ?_ (below_drewN _)) | (refine Below.drew ?_) | (refine Below.alloc ?_ (by first | exact Nat.le_refl _ | omega | (simp; done) | (simp; omega)) _) | (refine below_row ?_ (by first | exact Nat.le_refl _ | omega | (simp; done) | (simp; omega)) _)))⟩
        · have hv2 : Hid (grR [x, y] = .tuple #[pv x y, .bool false]) := Lib.hid (by rw [hv.out, decide_eq_false (fun h => h2 h.2)])
          have ge : (y % x == 0) = true := by simp [h1]
          have gl : decide (x * y ≤ 144) = false := decide_eq_false h2
          clear h1 h2 hv
          have hv := hv2
          clear hv2
          go_wp2
          go_region
          go_wp2
          exact bodyPost_ret (v := .tuple #[pv x y, .bool false]) (res2 Try.results53 rfl rfl (load63 (((row_new (cs := [.int .i64 x, .int .i64 y]) rfl).alloc _).drew))) rfl ⟨by rw [hv.out], by (repeat (first | exact Below.refl _ _ | assumption | (refine Below.setCell ?_ (by first | exact Nat.le_refl _ | omega | (simp; done) | (simp; omega)) _) | (refine Below.trans ?_ (below_drewN _)) | (refine Below.drew ?_) | (refine Below.alloc ?_ (by first | exact Nat.le_refl _ | omega | (simp; done) | (simp; omega)) _) | (refine below_row ?_ (by first | exact Nat.le_refl _ | omega | (simp; done) | (simp; omega)) _)))⟩
      · have hv2 : Hid (grR [x, y] = .tuple #[pv x y, .bool false]) := Lib.hid (by rw [hv.out, decide_eq_false (fun h => h1 h.1)])
        have ge : (y % x == 0) = false := by simp [h1]
        clear h1 hv
        have hv := hv2
        clear hv2
        go_wp2
        go_region
        go_wp2
        exact bodyPost_ret (v := .tuple #[pv x y, .bool false]) (res2 Try.results53 rfl rfl (load63 (((row_new (cs := [.int .i64 x, .int .i64 y]) rfl).alloc _).drew))) rfl ⟨by rw [hv.out], by (repeat (first | exact Below.refl _ _ | assumption | (refine Below.setCell ?_ (by first | exact Nat.le_refl _ | omega | (simp; done) | (simp; omega)) _) | (refine Below.trans ?_ (below_drewN _)) | (refine Below.drew ?_) | (refine Below.alloc ?_ (by first | exact Nat.le_refl _ | omega | (simp; done) | (simp; omega)) _) | (refine below_row ?_ (by first | exact Nat.le_refl _ | omega | (simp; done) | (simp; omega)) _)))⟩
theorem readGroup_any (A : Option Addr) (c : Nat) (g : List Int) (w : World) (hl : g.length ≤ 1000000) (ha : IntsAt w A g) :
    Calls Try.prog 53 #[.slice A g.length c] w fun e w' => e = .returned (grR g) ∧ Below w.heap.size w w' := by
  match g, ha, hl with
  | [], _, hl => exact readGroup_len A c [] w hl (by simp) (by simp)
  | [x], ha, _ => exact readGroup_one A c x w ha
  | [x, y], ha, _ => exact readGroup_two A c x y w ha
  | x :: y :: z :: l, _, hl => exact readGroup_len A c (x :: y :: z :: l) w hl (by simp) (by simp)
end Go.Proofs.Ytokjdadgdfmffaa
