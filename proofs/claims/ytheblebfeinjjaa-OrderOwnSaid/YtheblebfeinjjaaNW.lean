/- The numbers of an order; an order is turned. -/
import Derived.Test.YtheblebfeinjjaaNQ
import Derived.Test.YtheblebfeinjjaaNS
namespace Go.Proofs.Ytheblebfeinjjaa
open Go.RowKit
set_option maxHeartbeats 1000000
set_option maxRecDepth 100000
theorem roR_yes {l : List Int} {e : Ending} (h : roR l e) (ho : okO l = true) : e = .returned (.tuple #[arr l, .bool true]) := by unfold roR at h; rwa [if_pos ho] at h
theorem roR_no {l : List Int} {e : Ending} (h : roR l e) (ho : okO l = false) : ∃ x : List Int, x.length = 12 ∧ e = .returned (.tuple #[.agg (iv x).toArray, .bool false]) := by unfold roR at h; rwa [if_neg (by rw [ho]; simp)] at h
theorem read_yes (A : Option Addr) (c : Nat) (l : List Int) (w : World) (h : IsO l) (ha : IntsAt w A l) :
    Calls Try.prog 49 #[.slice A l.length c] w fun e w' => e = .returned (.tuple #[arr l, .bool true]) ∧ Below w.heap.size w w' := by
  refine (readOrder_any A c l w (by have := h.le; omega) ha).mono ?_
  rintro e w' ⟨h1, h2⟩
  exact ⟨roR_yes h1 (okO_iff.2 h), h2⟩
theorem read_no (A : Option Addr) (c : Nat) (l : List Int) (w : World) (hx : l.length ≤ 1000000) (h : okO l = false) (ha : IntsAt w A l) :
    Calls Try.prog 49 #[.slice A l.length c] w fun e w' => ∃ x : List Int, x.length = 12 ∧ e = .returned (.tuple #[.agg (iv x).toArray, .bool false]) ∧ Below w.heap.size w w' := by
  refine (readOrder_any A c l w hx ha).mono ?_
  rintro e w' ⟨h1, h2⟩
  obtain ⟨x, h3, h4⟩ := roR_no h1 h
  exact ⟨x, h3, h4, h2⟩
theorem built25 : Try.prog.built 25 [] = some Z6.toArray := by kernel_rfl
theorem nmL_len (l : List Int) : (iv (nmL l)).length = 6 := rfl
theorem load25v {W : World} {k : Nat} {x : List Value} (h : x.length = 6) (hr : Row W k 25 x) : (loadVar 25 ⟨k, 0, none⟩).run Try.prog W = .ok (.agg x.toArray) W :=
  run_loadVar_row (P := Try.prog) W k 25 25 x.toArray (0, 0) _ hr Try.underlying25 rfl (by rw [List.size_toArray, h]; exact info25)
theorem Numbers_yes (A : Option Addr) (c : Nat) (l : List Int) (w : World) (h : IsO l) (ha : IntsAt w A l) :
    Calls Try.prog 16 #[.slice A l.length c] w fun e w' => e = .returned (.tuple #[.agg (iv (nmL l)).toArray, .int .i64 0]) ∧ Below w.heap.size w w' := by
  have hpl := pad_len h.le
  have hi := info50_iv hpl
  have q0 : Row (w.alloc (.cells Z6.toArray 25)) w.heap.size 25 Z6 := row_new rfl
  have b0 : Below w.heap.size w (w.alloc (.cells Z6.toArray 25)) := by (repeat (first | exact Below.refl _ _ | assumption | (refine Below.setCell ?_ (by first | exact Nat.le_refl _ | omega | (simp; done) | (simp; omega)) _) | (refine Below.trans ?_ (below_drewN _)) | (refine Below.drew ?_) | (refine Below.alloc ?_ (by first | exact Nat.le_refl _ | omega | (simp; done) | (simp; omega)) _) | (refine below_row ?_ (by first | exact Nat.le_refl _ | omega | (simp; done) | (simp; omega)) _)))
  have HR := Lib.hid (read_yes A c l _ h (ha.below b0))
  have HN := Lib.hid (fun w => numbers_any l w h)
  have hl6 := nmL_len l
  have hi6 : (Try.prog.info? 25).map (·.size) = some (iv (nmL l)).toArray.size := info25
  have hs6 : Z6.toArray.size = (iv (nmL l)).toArray.size := rfl
  unfold arr at HR HN
  clear h ha
  generalize nmL l = M at *
  generalize pad l = X at *
  go_enter Try.func16, Try.ntmps16
  go_wp2_with (first
    | (go_at_call 49; refine HR.out.mono ?_; rintro e w1 ⟨rfl, b1⟩; replace q0 := (q0.below b1).alloc (.cells Z12.toArray 50); replace b0 := b0.trans (b1.mono b0.size); have hz1 := b0.size; have hql := b1.size; have r1 : Row (w1.alloc (.cells Z12.toArray 50)) w1.heap.size 50 Z12 := row_new rfl; replace b0 := b0.alloc hz1 (.cells Z12.toArray 50))
    | (with_reducible refine (?_ : wpList _ _ _ (Oper.mk _ (Op.store 50 (.tmp 4) _) _ _ _ _ :: _) _ _); refine wpList_store_row rfl 50 (.tmp 4) (.tmp 9) rfl w1.heap.size (iv X).toArray rfl rfl 50 Z12.toArray (row_heap r1) hi (size50_Z hpl) (iv_all _) ?_; replace r1 := r1.row (iv X); replace q0 := q0.row_far (k := w1.heap.size) (by simp at hql; omega) (iv X).toArray; replace b0 := below_row (g := w1.heap.size) b0 hz1 (iv X).toArray; generalize World.setRow (w1.alloc _) _ _ = W at *)
    | ((with_reducible refine (?_ : wpList _ _ _ (Oper.mk (some 14) _ _ _ _ _ :: _) _ _)); refine wpList_load_row rfl 50 (.tmp 4) rfl w1.heap.size rfl 50 (iv X).toArray (0, 0) _ (row_heap r1) Try.underlying50 rfl hi ?_)
    | (go_at_call 50; refine (HN.out _).mono ?_; rintro e w5 ⟨rfl, b5⟩; replace q0 := q0.below b5; replace b0 := b0.trans (b5.mono b0.size))
    | (with_reducible refine (?_ : wpList _ _ _ (Oper.mk _ (Op.store 25 (.tmp 2) _) _ _ _ _ :: _) _ _); refine wpList_store_row rfl 25 (.tmp 2) (.tmp 15) rfl w.heap.size (iv M).toArray rfl rfl 25 Z6.toArray (row_heap q0) hi6 hs6 (iv_all _) ?_))
  exact bodyPost_ret (v := .tuple #[.agg (iv M).toArray, .int .i64 0]) (res2 Try.results16 rfl rfl (load25v hl6 (q0.row (iv M)))) rfl ⟨rfl, below_row b0 (Nat.le_refl _) _⟩
theorem Numbers_no (A : Option Addr) (c : Nat) (l : List Int) (w : World) (hx : l.length ≤ 1000000) (h : okO l = false) (ha : IntsAt w A l) :
    Calls Try.prog 16 #[.slice A l.length c] w fun e w' => e = .returned (.tuple #[.agg Z6.toArray, .int .i64 2]) ∧ Below w.heap.size w w' := by
  have q0 : Row (w.alloc (.cells Z6.toArray 25)) w.heap.size 25 Z6 := row_new rfl
  have b0 : Below w.heap.size w (w.alloc (.cells Z6.toArray 25)) := by (repeat (first | exact Below.refl _ _ | assumption | (refine Below.setCell ?_ (by first | exact Nat.le_refl _ | omega | (simp; done) | (simp; omega)) _) | (refine Below.trans ?_ (below_drewN _)) | (refine Below.drew ?_) | (refine Below.alloc ?_ (by first | exact Nat.le_refl _ | omega | (simp; done) | (simp; omega)) _) | (refine below_row ?_ (by first | exact Nat.le_refl _ | omega | (simp; done) | (simp; omega)) _)))
  have HR := Lib.hid (read_no A c l _ hx h (ha.below b0))
  have hbt := built25
  have hi6 : (Try.prog.info? 25).map (·.size) = some Z6.toArray.size := info25
  have ha6 : Z6.toArray.all (·.oneCell') = true := iv_all [0, 0, 0, 0, 0, 0]
  clear h ha
  go_enter Try.func16, Try.ntmps16
  go_wp2_with (go_at_call 49; fail)
  refine HR.out.mono ?_
  rintro e w1 ⟨X, hpl, rfl, b1⟩
  have hi := info50_iv hpl
  replace q0 := (q0.below b1).alloc (.cells Z12.toArray 50)
  replace b0 := b0.trans (b1.mono b0.size)
  have hz1 := b0.size
  have hql := b1.size
  have r1 : Row (w1.alloc (.cells Z12.toArray 50)) w1.heap.size 50 Z12 := row_new rfl
  replace b0 := b0.alloc hz1 (.cells Z12.toArray 50)
  go_wp2_with (first
    | (with_reducible refine (?_ : wpList _ _ _ (Oper.mk _ (Op.store 50 (.tmp 4) _) _ _ _ _ :: _) _ _); refine wpList_store_row rfl 50 (.tmp 4) (.tmp 9) rfl w1.heap.size (iv X).toArray rfl rfl 50 Z12.toArray (row_heap r1) hi (size50_Z hpl) (iv_all _) ?_; replace r1 := r1.row (iv X); replace q0 := q0.row_far (k := w1.heap.size) (by simp at hql; omega) (iv X).toArray; replace b0 := below_row (g := w1.heap.size) b0 hz1 (iv X).toArray; generalize World.setRow (w1.alloc _) _ _ = W at *)
    | (with_reducible refine (?_ : wpList _ _ _ (Oper.mk _ (Op.store 25 (.tmp 2) _) _ _ _ _ :: _) _ _); refine wpList_store_row rfl 25 (.tmp 2) (.tmp 13) rfl w.heap.size Z6.toArray rfl rfl 25 Z6.toArray (row_heap q0) hi6 rfl ha6 ?_))
  exact bodyPost_ret (v := .tuple #[.agg Z6.toArray, .int .i64 2]) (res2 Try.results16 rfl rfl (load25v rfl (q0.row Z6))) rfl ⟨rfl, below_row b0 (Nat.le_refl _) _⟩
end Go.Proofs.Ytheblebfeinjjaa
