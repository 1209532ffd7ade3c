/- Searches for smaller sets. -/
import Derived.Test.YtignbpipdfjkeaaDoorAM
namespace Go.Proofs.YtignbpipdfjkeaaDoor
open Go.RowKit
set_option maxHeartbeats 1000000
set_option maxRecDepth 100000
def few (many : Nat) : Nat → Bool := fun t => decide (szS t ≤ many)
def seekS : Option (Nat × List Nat) → ByteArray
  | none => ⟨#[]⟩
  | some (_, x) => wS x
def seekN : Option (Nat × List Nat) → Nat
  | none => 0
  | some (t, _) => t
theorem seekV_eq (X : Option (Nat × List Nat)) : seekV X = .tuple #[.string (seekS X), .int .u16 (seekN X : Nat), .bool X.isSome] := by
  cases X with
  | none => rfl
  | some q => rfl
theorem all_set {n : Nat} (hn : n ≤ 9) : IsS n (sAll n) ∧ (1 ≤ n → sAll n ≠ 0) ∧ sAll n < 512 := by
  have h1 := Nat.one_le_two_pow (n := n)
  have h2 : 2 ^ n ≤ 2 ^ 9 := Nat.pow_le_pow_right (by decide) hn
  unfold IsS sAll
  refine ⟨by omega, fun h => ?_, by omega⟩
  have h3 : 2 ^ 1 ≤ 2 ^ n := Nat.pow_le_pow_right (by decide) h
  omega
theorem all_any (L : List (List Int)) (w : World) (h : IsMI L) :
    Calls Tryd.prog 52 #[.agg (iv (mc L)).toArray] w fun e w' => e = .returned (.int .u16 (sAll (nS L))) ∧ Below w.heap.size w w' := by
  have r0 : Row (w.alloc (.cells (iv (mc L)).toArray 76)) w.heap.size 76 (iv (mc L)) := row_new rfl
  have c0 : (w.alloc (.cells (iv (mc L)).toArray 76)).cell? ⟨w.heap.size, 0, none⟩ = some (.int .i64 (nS L : Int)) := by have := ivR r0 (i := 0) (by unfold mc; rw [mcP_len]; omega); unfold mc at this; rwa [mcP_n] at this
  have b0 : Below w.heap.size w (w.alloc (.cells (iv (mc L)).toArray 76)) := (Below.refl _ w).alloc (Nat.le_refl _) _
  have HF := Lib.hid (fun w => first_any (nS L) w (by have := h.n9; omega))
  clear r0 h
  go_enter Tryd.func52, Tryd.ntmps52
  go_wp2_with (go_at_call 72; refine (HF.out _).mono ?_; rintro e w2 ⟨rfl, rfl⟩)
  go_ret
  exact ⟨rfl, b0⟩
theorem searchFewer_any (L : List (List Int)) (s many : Nat) (w : World) (h : IsMI L) (hs : IsS (nS L) s) (h0 : s ≠ 0) (hm : many < 100) (ht : TabW w) :
    Calls Tryd.prog 51 #[.agg (iv (mc L)).toArray, .int .u16 s, .int .i64 many] w fun e w' => e = .returned (seekV (seek (tabN L) L.length s (few many))) ∧ Below w.heap.size w w' := by
  have r0 : Row ((w.alloc (.cells (iv (mc L)).toArray 76)).alloc (.cells #[.int .i64 (many : Int)] 3)) w.heap.size 76 (iv (mc L)) := (row_new rfl).alloc _
  have q0 : Row ((w.alloc (.cells (iv (mc L)).toArray 76)).alloc (.cells #[.int .i64 (many : Int)] 3)) (w.heap.size + 1) 3 [.int .i64 (many : Int)] := row_new (by simp)
  have b0 : Below w.heap.size w ((w.alloc (.cells (iv (mc L)).toArray 76)).alloc (.cells #[.int .i64 (many : Int)] 3)) := by (repeat (first | exact Below.refl _ _ | assumption | (refine Below.setCell ?_ (by first | exact Nat.le_refl _ | omega | (simp; done) | (simp; omega)) _) | (refine Below.trans ?_ (below_drewN _)) | (refine Below.drew ?_) | (refine Below.alloc ?_ (by first | exact Nat.le_refl _ | omega | (simp; done) | (simp; omega)) _) | (refine below_row ?_ (by first | exact Nat.le_refl _ | omega | (simp; done) | (simp; omega)) _)))
  have hi := info76_iv (x := mc L) (mcP_len L 36)
  have HS := Lib.hid (search70 L s (w.heap.size + 1) (few many) ((w.alloc (.cells (iv (mc L)).toArray 76)).alloc (.cells #[.int .i64 (many : Int)] 3)) h hs h0 (ht.below b0 ht.lt) (fun t V ht hV => fewer_any t many (w.heap.size + 1) V ht hm (q0.below hV).cells1.1))
  rw [seekV_eq] at HS ⊢
  obtain ⟨X, hX⟩ : ∃ X, seek (tabN L) L.length s (few many) = X := ⟨_, rfl⟩
  rw [hX] at HS ⊢
  clear hX q0 h hs h0 ht
  generalize seekS X = a1 at *
  generalize seekN X = a2 at *
  generalize X.isSome = a3 at *
  go_enter Tryd.func51, Tryd.ntmps51
  go_wp2_with (first
    | ((with_reducible refine (?_ : wpList _ _ _ (Oper.mk (some 9) _ _ _ _ _ :: _) _ _)); refine wpList_load_row rfl 76 (.tmp 3) rfl w.heap.size rfl 76 (iv (mc L)).toArray (0, 0) _ (row_heap r0) Tryd.underlying76 rfl hi ?_)
    | (go_at_call 66; refine HS.out.mono ?_; rintro e w2 ⟨rfl, b2⟩; replace b0 := b0.trans (b2.mono b0.size)))
  exact bodyPost_ret (results_tmp3 rfl _ _ _) rfl ⟨rfl, b0⟩
end Go.Proofs.YtignbpipdfjkeaaDoor
