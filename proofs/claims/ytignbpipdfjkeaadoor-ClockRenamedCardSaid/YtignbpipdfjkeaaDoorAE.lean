/- Reading a machine. Condition: the lists are one. -/
import Derived.Test.YtignbpipdfjkeaaDoorAD
import Derived.Great.BuildSlice
namespace Go.Proofs.YtignbpipdfjkeaaDoor
open Go.RowKit
set_option maxHeartbeats 1000000
set_option maxRecDepth 100000
def Z38 : List Value := [.int .i64 0, .int .i64 0, .int .i64 0, .int .i64 0, .int .i64 0, .int .i64 0, .int .i64 0, .int .i64 0, .int .i64 0, .int .i64 0, .int .i64 0, .int .i64 0, .int .i64 0, .int .i64 0, .int .i64 0, .int .i64 0, .int .i64 0, .int .i64 0, .int .i64 0, .int .i64 0, .int .i64 0, .int .i64 0, .int .i64 0, .int .i64 0, .int .i64 0, .int .i64 0, .int .i64 0, .int .i64 0, .int .i64 0, .int .i64 0, .int .i64 0, .int .i64 0, .int .i64 0, .int .i64 0, .int .i64 0, .int .i64 0, .int .i64 0, .int .i64 0]
theorem z38_eq : Z38 = iv (List.replicate 38 0) := rfl
theorem z38_set (L : List (List Int)) : (Z38.toArray.setIfInBounds 0 (.int .i64 (nS L : Int))).setIfInBounds 1 (.int .i64 (L.length : Int)) = (iv (mcP L 0)).toArray := by
  rw [mcP_zero]; rfl
theorem built76 (a b : Int) : Tryd.prog.built 76 [(0, .int .i64 a), (1, .int .i64 b)] = some (iv (a :: b :: List.replicate 36 0)).toArray := by kernel_rfl
theorem rm_yes (A : Option Addr) (c : Nat) (L : List (List Int)) (w : World) (h : IsMI L) (ha : RowsAt w A L) :
    Calls Tryd.prog 50 #[.slice A L.length c] w fun e w' => e = .returned (.tuple #[.agg (iv (mc L)).toArray, .bool true]) ∧ Below w.heap.size w w' := by
  have HA := Lib.hid ha
  obtain ⟨b, o, rfl, hb, hc⟩ := ha h.k1
  obtain ⟨B, c2, h1, h2⟩ := hc 0 h.k1
  have g1 : decide (L.length < 1) = false := decide_eq_false (by have := h.k1; omega)
  have g2 : decide ((4 : Int) < (L.length : Int)) = false := decide_eq_false (by have := h.k4; omega)
  have g3 : decide (nS L < 1) = false := decide_eq_false (by have := h.n1; omega)
  have g4 : decide ((9 : Int) < (nS L : Int)) = false := decide_eq_false (by have := h.n9; omega)
  have hk1 := h.k1
  have hk4 := h.k4
  have hn1 := h.n1
  have hn9 := h.n9
  have h3 : (getl L 0).length = nS L := rfl
  rw [h3, Nat.add_zero] at h1
  have hz : Tryd.prog.built 76 [(0, .int .i64 (nS L : Int)), (1, .int .i64 (L.length : Int))] = some (iv (mcP L 0)).toArray := by rw [mcP_zero]; exact built76 _ _
  have r0 : Row ((w.alloc (.cells #[.int .i64 0, .int .i64 0, .int .i64 0, .int .i64 0, .int .i64 0, .int .i64 0, .int .i64 0, .int .i64 0, .int .i64 0, .int .i64 0, .int .i64 0, .int .i64 0, .int .i64 0, .int .i64 0, .int .i64 0, .int .i64 0, .int .i64 0, .int .i64 0, .int .i64 0, .int .i64 0, .int .i64 0, .int .i64 0, .int .i64 0, .int .i64 0, .int .i64 0, .int .i64 0, .int .i64 0, .int .i64 0, .int .i64 0, .int .i64 0, .int .i64 0, .int .i64 0, .int .i64 0, .int .i64 0, .int .i64 0, .int .i64 0, .int .i64 0, .int .i64 0] 76)).alloc (.cells #[.int .i64 0, .int .i64 0, .int .i64 0, .int .i64 0, .int .i64 0, .int .i64 0, .int .i64 0, .int .i64 0, .int .i64 0, .int .i64 0, .int .i64 0, .int .i64 0, .int .i64 0, .int .i64 0, .int .i64 0, .int .i64 0, .int .i64 0, .int .i64 0, .int .i64 0, .int .i64 0, .int .i64 0, .int .i64 0, .int .i64 0, .int .i64 0, .int .i64 0, .int .i64 0, .int .i64 0, .int .i64 0, .int .i64 0, .int .i64 0, .int .i64 0, .int .i64 0, .int .i64 0, .int .i64 0, .int .i64 0, .int .i64 0, .int .i64 0, .int .i64 0] 76)) w.heap.size 76 Z38 := (row_new rfl).alloc _
  have q0 : Row ((w.alloc (.cells #[.int .i64 0, .int .i64 0, .int .i64 0, .int .i64 0, .int .i64 0, .int .i64 0, .int .i64 0, .int .i64 0, .int .i64 0, .int .i64 0, .int .i64 0, .int .i64 0, .int .i64 0, .int .i64 0, .int .i64 0, .int .i64 0, .int .i64 0, .int .i64 0, .int .i64 0, .int .i64 0, .int .i64 0, .int .i64 0, .int .i64 0, .int .i64 0, .int .i64 0, .int .i64 0, .int .i64 0, .int .i64 0, .int .i64 0, .int .i64 0, .int .i64 0, .int .i64 0, .int .i64 0, .int .i64 0, .int .i64 0, .int .i64 0, .int .i64 0, .int .i64 0] 76)).alloc (.cells #[.int .i64 0, .int .i64 0, .int .i64 0, .int .i64 0, .int .i64 0, .int .i64 0, .int .i64 0, .int .i64 0, .int .i64 0, .int .i64 0, .int .i64 0, .int .i64 0, .int .i64 0, .int .i64 0, .int .i64 0, .int .i64 0, .int .i64 0, .int .i64 0, .int .i64 0, .int .i64 0, .int .i64 0, .int .i64 0, .int .i64 0, .int .i64 0, .int .i64 0, .int .i64 0, .int .i64 0, .int .i64 0, .int .i64 0, .int .i64 0, .int .i64 0, .int .i64 0, .int .i64 0, .int .i64 0, .int .i64 0, .int .i64 0, .int .i64 0, .int .i64 0] 76)) (w.heap.size + 1) 76 Z38 := row_new (by simp)
  have b0 : Below w.heap.size w ((w.alloc (.cells #[.int .i64 0, .int .i64 0, .int .i64 0, .int .i64 0, .int .i64 0, .int .i64 0, .int .i64 0, .int .i64 0, .int .i64 0, .int .i64 0, .int .i64 0, .int .i64 0, .int .i64 0, .int .i64 0, .int .i64 0, .int .i64 0, .int .i64 0, .int .i64 0, .int .i64 0, .int .i64 0, .int .i64 0, .int .i64 0, .int .i64 0, .int .i64 0, .int .i64 0, .int .i64 0, .int .i64 0, .int .i64 0, .int .i64 0, .int .i64 0, .int .i64 0, .int .i64 0, .int .i64 0, .int .i64 0, .int .i64 0, .int .i64 0, .int .i64 0, .int .i64 0] 76)).alloc (.cells #[.int .i64 0, .int .i64 0, .int .i64 0, .int .i64 0, .int .i64 0, .int .i64 0, .int .i64 0, .int .i64 0, .int .i64 0, .int .i64 0, .int .i64 0, .int .i64 0, .int .i64 0, .int .i64 0, .int .i64 0, .int .i64 0, .int .i64 0, .int .i64 0, .int .i64 0, .int .i64 0, .int .i64 0, .int .i64 0, .int .i64 0, .int .i64 0, .int .i64 0, .int .i64 0, .int .i64 0, .int .i64 0, .int .i64 0, .int .i64 0, .int .i64 0, .int .i64 0, .int .i64 0, .int .i64 0, .int .i64 0, .int .i64 0, .int .i64 0, .int .i64 0] 76)) := by (repeat (first | exact Below.refl _ _ | assumption | (refine Below.setCell ?_ (by first | exact Nat.le_refl _ | omega | (simp; done) | (simp; omega)) _) | (refine Below.trans ?_ (below_drewN _)) | (refine Below.drew ?_) | (refine Below.alloc ?_ (by first | exact Nat.le_refl _ | omega | (simp; done) | (simp; omega)) _) | (refine below_row ?_ (by first | exact Nat.le_refl _ | omega | (simp; done) | (simp; omega)) _)))
  have hi := info76_iv (mcP_len L 0)
  have hsz : Z38.toArray.size = (iv (mcP L 0)).toArray.size := by rw [z38_eq]; exact size76_iv (by simp) (mcP_len L 0)
  have HR := Lib.hid (fun r (hr : r < L.length) => mcP_rowEnd (h.row r hr) h.n9)
  have HE := Lib.hid (mcP_end h.k4)
  have HS := Lib.hid (fun m (hm : m < 36) => mcP_step L hm)
  have HB := Lib.hid (fun r c hr hc => And.intro (h.lo r c hr hc) (h.hi r c hr hc))
  have HW := Lib.hid (fun r hr => h.row r hr)
  have HC0 : Hid (∀ (W : World) (m : Nat), Row W (w.heap.size + 1) 76 (iv (mcP L m)) → W.cell? ⟨w.heap.size + 1, 0, none⟩ = some (.int .i64 (nS L : Int))) := Lib.hid (fun W m h => by have := ivR h (i := 0) (by rw [mcP_len]; omega); rwa [mcP_n] at this)
  have HGL := Lib.hid (fun m => mcP_len L m)
  have HGN := Lib.hid (fun m => mcP_n L m)
  obtain ⟨n, hn⟩ : ∃ n, nS L = n := ⟨_, rfl⟩
  clear ha h hc h2 h3
  rw [hn] at h1 g3 g4 hn1 hn9 hz HR HB HW HC0 HGN
  have HN := Lib.hid hn
  clear hn
  go_enter Tryd.func50, Tryd.ntmps50
  go_wp2_with (first
    | ((with_reducible refine (?_ : wpList _ _ _ (Oper.mk (some 24) _ _ _ _ _ :: _) _ _)); refine wpList_buildTo rfl 76 _ rfl _ rfl (iv (mcP L 0)).toArray (by simp only [List.map_toArray, List.map_cons, List.map_nil]; exact hz) ?_)
    | ((with_reducible refine (?_ : wpList _ _ _ (Oper.mk none _ _ _ _ _ :: _) _ _)); refine wpList_store_row rfl 76 (.tmp 4) (.tmp 24) rfl (w.heap.size + 1) (iv (mcP L 0)).toArray rfl rfl 76 Z38.toArray (row_heap q0) hi hsz (iv_all _) ?_; replace q0 := q0.row (iv (mcP L 0)); replace b0 := below_row (g := w.heap.size + 1) b0 (by omega) (iv (mcP L 0)).toArray; replace r0 := r0.row_far (k := w.heap.size + 1) (by omega) (iv (mcP L 0)).toArray; generalize World.setRow (World.alloc _ _) _ _ = W at *; have c0 := HC0.out W 0 q0))
  clear hz hsz hi c0 h1
  go_loopw [36] (fun i wr => ∃ r : Nat, r ≤ L.length ∧ i = .int .i64 r ∧ Row wr (w.heap.size + 1) 76 (iv (mcP L (r * 9))) ∧ Row wr w.heap.size 76 Z38 ∧ Below w.heap.size w wr) (fun i _ => L.length - (intOf i).toNat)
  case atStart => exact ⟨0, by omega, rfl, q0, r0, b0⟩
  case round =>
    clear q0 r0 b0
    obtain ⟨r, hr, rfl, q0, r0, b0⟩ := hrel
    by_cases hlt : r < L.length
    · obtain ⟨bA, oA, hAe, hbA, hcA⟩ := HA.out (by omega)
      injection hAe with hAe
      injection hAe with hAe hAo
      subst hAe hAo
      obtain ⟨B1, cB, hcell, hrow⟩ := hcA r hlt
      have hw := HW.out r hlt
      rw [hw] at hcell
      replace hcell := (b0.cell (p := ⟨b, _, none⟩) hbA).trans hcell
      have c0 := HC0.out wr _ q0
      have HI := Lib.hid hrow
      have HWW := Lib.hid hw
      have HRE := Lib.hid (HR.out r hlt)
      have HGA : Hid (∀ k, gat L r k = geti (getl L r) k) := Lib.hid (fun k => rfl)
      have HBR := Lib.hid (fun c hc => HB.out r c hlt hc)
      clear hcA hrow hw
      generalize getl L r = X at *
      go_wp2
      go_loopw [49] (fun i wr2 => ∃ k : Nat, k ≤ n ∧ i = .int .i64 k ∧ Row wr2 (w.heap.size + 1) 76 (iv (mcP L (r * 9 + k))) ∧ Row wr2 w.heap.size 76 Z38 ∧ Below w.heap.size w wr2) (fun i _ => n - (intOf i).toNat)
      case atStart => exact ⟨0, by omega, rfl, q0, r0, b0⟩
      case round =>
        clear q0 r0 b0 hcell c0 hbA
        obtain ⟨k, hk, rfl, q0, r0, b0⟩ := hrel
        by_cases hlk : k < n
        · obtain ⟨bX, oX, rfl, hbX, hcX⟩ := (HI.out.below b0) (by rw [HWW.out]; omega)
          have hx := hcX k (by rw [HWW.out]; exact hlk)
          have hst := HS.out (r * 9 + k) (by omega)
          have hbd := HBR.out k hlk
          rw [show (r * 9 + k) / 9 = r by omega, show (r * 9 + k) % 9 = k by omega, HGA.out, ← Nat.add_assoc, Nat.add_assoc (r * 9) k 1] at hst
          rw [HGA.out] at hbd
          have HST := Lib.hid hst
          clear hst
          have hb2 := b0.size
          clear hcX
          generalize geti X k = x at *
          obtain ⟨hx0, hx9⟩ := hbd
          have hi := info76_iv (mcP_len L (r * 9 + k))
          have hq : isQ n x = true := by unfold isQ; rw [decide_eq_true hx0, decide_eq_true hx9]; rfl
          have HIS := Lib.hid (fun V => isState_any (mcP L (r * 9 + k)) n x V (HGL.out _) (HGN.out _))
          rw [hq] at HIS
          clear hq
          go_wp2_with (first
            | ((with_reducible refine (?_ : wpList _ _ _ (Oper.mk (some 54) _ _ _ _ _ :: _) _ _)); refine wpList_load_row rfl 76 (.tmp 4) rfl (w.heap.size + 1) rfl 76 (iv (mcP L (r * 9 + k))).toArray (0, 0) _ (row_heap q0) Tryd.underlying76 rfl hi ?_)
            | (go_at_call 59; refine (HIS.out _).mono ?_; rintro e w2 ⟨rfl, kk, rfl⟩; replace q0 := (q0.alloc (.cells (iv (mcP L (r * 9 + k))).toArray 76)).drewN kk; replace r0 := (r0.alloc (.cells (iv (mcP L (r * 9 + k))).toArray 76)).drewN kk; replace b0 := (b0.alloc (by omega) (.cells (iv (mcP L (r * 9 + k))).toArray 76)).trans (below_drewN kk); replace hb2 := b0.size; generalize World.drewN _ _ = W2 at *; have f0 := q0.free (2 + r * 9 + k); have e0 := ivR q0 (i := 2 + r * 9 + k) (by rw [HGL.out]; omega)))
          go_roundw
          case rel =>
            refine ⟨k + 1, by omega, by go_num, ?_, r0.far (by dsimp only; omega) _, b0.setCell (by dsimp only; omega) _⟩
            have h := q0.set (2 + r * 9 + k) (.int .i64 x)
            rw [iv_set, HST.out] at h
            exact h
          case measure => simp [intOf]; omega
        · obtain rfl : k = n := by omega
          rw [HRE.out] at q0
          go_wp2
          go_roundw
          case rel => exact ⟨r + 1, by omega, by go_num, q0, r0, b0⟩
          case measure => simp [intOf]; omega
    · obtain rfl : r = L.length := by omega
      rw [HE.out] at q0
      have hi := info76_iv (x := mc L) (mcP_len L 36)
      have hsz : Z38.toArray.size = (iv (mc L)).toArray.size := by rw [z38_eq]; exact size76_iv (by simp) (mcP_len L 36)
      go_wp2_with (first
        | ((with_reducible refine (?_ : wpList _ _ _ (Oper.mk (some 67) _ _ _ _ _ :: _) _ _)); refine wpList_load_row rfl 76 (.tmp 4) rfl (w.heap.size + 1) rfl 76 (iv (mc L)).toArray (0, 0) _ (row_heap q0) Tryd.underlying76 rfl hi ?_)
        | ((with_reducible refine (?_ : wpList _ _ _ (Oper.mk none _ _ _ _ _ :: _) _ _)); refine wpList_store_row rfl 76 (.tmp 2) (.tmp 67) rfl w.heap.size (iv (mc L)).toArray rfl rfl 76 Z38.toArray (row_heap r0) hi hsz (iv_all _) ?_))
      exact bodyPost_ret (v := .tuple #[.agg (iv (mc L)).toArray, .bool true]) (res2 Tryd.results50 rfl rfl (cell_res76 (mcP_len L 36) (r0.row _))) rfl ⟨rfl, below_row b0 (by omega) _⟩
end Go.Proofs.YtignbpipdfjkeaaDoor
