/- Lists that are no machine. -/
import Derived.Test.YtignbpipdfjkeaaDoorAE
namespace Go.Proofs.YtignbpipdfjkeaaDoor
open Go.RowKit
set_option maxHeartbeats 1000000
set_option maxRecDepth 100000
def rowOk (L : List (List Int)) (r : Nat) : Prop := (getl L r).length = nS L ∧ ∀ k, k < nS L → isQ (nS L) (gat L r k) = true
theorem isQ_iff {n : Nat} {x : Int} : isQ n x = true ↔ 0 ≤ x ∧ x < n := by unfold isQ; simp
theorem okM_rows {L : List (List Int)} (h : okM L = false) (h1 : 1 ≤ L.length) (h2 : L.length ≤ 4) (h3 : 1 ≤ nS L) (h4 : nS L ≤ 9) (hr : ∀ r, r < L.length → rowOk L r) : False := by
  have : okM L = true := okM_iff.2 ⟨h1, h2, h3, h4, fun i hi => (hr i hi).1, fun i k hi hk => (isQ_iff.1 ((hr i hi).2 k hk)).1, fun i k hi hk => (isQ_iff.1 ((hr i hi).2 k hk)).2⟩
  rw [h] at this; cases this
theorem mcP_rowOk {L : List (List Int)} {r : Nat} (h : rowOk L r) (hl : nS L ≤ 9) : mcP L (r * 9 + nS L) = mcP L ((r + 1) * 9) := mcP_rowEnd h.1 hl
theorem info76_z : (Tryd.prog.info? 76).map (·.size) = some Z38.toArray.size := by kernel_rfl
theorem z38_all : Z38.toArray.all (·.oneCell') = true := by rw [z38_eq]; exact iv_all _
theorem built76z : Tryd.prog.built 76 [] = some Z38.toArray := by kernel_rfl
theorem rm_no0 (A : Option Addr) (c : Nat) (L : List (List Int)) (w : World) (h : L.length < 1 ∨ 4 < L.length) :
    Calls Tryd.prog 50 #[.slice A L.length c] w fun e w' => e = .returned (.tuple #[.agg Z38.toArray, .bool false]) ∧ Below w.heap.size w w' := by
  have r0 : Row (w.alloc (.cells #[.int .i64 0, .int .i64 0, .int .i64 0, .int .i64 0, .int .i64 0, .int .i64 0, .int .i64 0, .int .i64 0, .int .i64 0, .int .i64 0, .int .i64 0, .int .i64 0, .int .i64 0, .int .i64 0, .int .i64 0, .int .i64 0, .int .i64 0, .int .i64 0, .int .i64 0, .int .i64 0, .int .i64 0, .int .i64 0, .int .i64 0, .int .i64 0, .int .i64 0, .int .i64 0, .int .i64 0, .int .i64 0, .int .i64 0, .int .i64 0, .int .i64 0, .int .i64 0, .int .i64 0, .int .i64 0, .int .i64 0, .int .i64 0, .int .i64 0, .int .i64 0] 76)) w.heap.size 76 Z38 := row_new rfl
  have b0 : Below w.heap.size w (w.alloc (.cells #[.int .i64 0, .int .i64 0, .int .i64 0, .int .i64 0, .int .i64 0, .int .i64 0, .int .i64 0, .int .i64 0, .int .i64 0, .int .i64 0, .int .i64 0, .int .i64 0, .int .i64 0, .int .i64 0, .int .i64 0, .int .i64 0, .int .i64 0, .int .i64 0, .int .i64 0, .int .i64 0, .int .i64 0, .int .i64 0, .int .i64 0, .int .i64 0, .int .i64 0, .int .i64 0, .int .i64 0, .int .i64 0, .int .i64 0, .int .i64 0, .int .i64 0, .int .i64 0, .int .i64 0, .int .i64 0, .int .i64 0, .int .i64 0, .int .i64 0, .int .i64 0] 76)) := by (repeat (first | exact Below.refl _ _ | assumption | (refine Below.setCell ?_ (by first | exact Nat.le_refl _ | omega | (simp; done) | (simp; omega)) _) | (refine Below.trans ?_ (below_drewN _)) | (refine Below.drew ?_) | (refine Below.alloc ?_ (by first | exact Nat.le_refl _ | omega | (simp; done) | (simp; omega)) _) | (refine below_row ?_ (by first | exact Nat.le_refl _ | omega | (simp; done) | (simp; omega)) _)))
  have hiz := info76_z
  have hz := built76z
  have HZ : Hid (∀ (W : World), Row W w.heap.size 76 Z38 → (loadVar 76 ⟨w.heap.size, 0, none⟩).run Tryd.prog W = .ok (.agg Z38.toArray) W) := Lib.hid (fun W h => run_loadVar_row (P := Tryd.prog) W w.heap.size 76 76 Z38.toArray (0, 0) _ h Tryd.underlying76 rfl info76_z)
  by_cases h1 : L.length < 1
  · have g1 : decide ((L.length : Int) < 1) = true := decide_eq_true (by omega)
    clear h1 h
    go_enter Tryd.func50, Tryd.ntmps50
    go_wp2_with (first
      | ((with_reducible refine (?_ : wpList _ _ _ (Oper.mk (some 17) _ _ _ _ _ :: _) _ _)); refine wpList_buildTo rfl 76 _ rfl _ rfl Z38.toArray (by simp only [List.map_toArray, List.map_nil]; exact hz) ?_)
      | ((with_reducible refine (?_ : wpList _ _ _ (Oper.mk none _ _ _ _ _ :: _) _ _)); refine wpList_store_row rfl 76 (.tmp 2) (.tmp 17) rfl w.heap.size Z38.toArray rfl rfl 76 Z38.toArray (row_heap r0) hiz rfl z38_all ?_))
    exact bodyPost_ret (v := .tuple #[.agg Z38.toArray, .bool false]) (res2 Tryd.results50 rfl rfl (HZ.out _ (r0.row _))) rfl ⟨rfl, below_row b0 (by omega) _⟩
  · have g1 : decide ((L.length : Int) < 1) = false := decide_eq_false (by omega)
    have g2 : decide ((4 : Int) < (L.length : Int)) = true := decide_eq_true (by omega)
    clear h1 h
    go_enter Tryd.func50, Tryd.ntmps50
    go_wp2_with (first
      | ((with_reducible refine (?_ : wpList _ _ _ (Oper.mk (some 17) _ _ _ _ _ :: _) _ _)); refine wpList_buildTo rfl 76 _ rfl _ rfl Z38.toArray (by simp only [List.map_toArray, List.map_nil]; exact hz) ?_)
      | ((with_reducible refine (?_ : wpList _ _ _ (Oper.mk none _ _ _ _ _ :: _) _ _)); refine wpList_store_row rfl 76 (.tmp 2) (.tmp 17) rfl w.heap.size Z38.toArray rfl rfl 76 Z38.toArray (row_heap r0) hiz rfl z38_all ?_))
    exact bodyPost_ret (v := .tuple #[.agg Z38.toArray, .bool false]) (res2 Tryd.results50 rfl rfl (HZ.out _ (r0.row _))) rfl ⟨rfl, below_row b0 (by omega) _⟩
theorem rm_no (A : Option Addr) (c : Nat) (L : List (List Int)) (w : World) (hv : okM L = false) (ha : RowsAt w A L) :
    Calls Tryd.prog 50 #[.slice A L.length c] w fun e w' => e = .returned (.tuple #[.agg Z38.toArray, .bool false]) ∧ Below w.heap.size w w' := by
  by_cases h14 : L.length < 1 ∨ 4 < L.length
  · exact rm_no0 A c L w h14
  have hk1 : 1 ≤ L.length := by omega
  have hk4 : L.length ≤ 4 := by omega
  clear h14
  have HA := Lib.hid ha
  obtain ⟨b, o, rfl, hb, hc⟩ := ha hk1
  obtain ⟨B, c2, h1, h2⟩ := hc 0 hk1
  have g1 : decide (L.length < 1) = false := decide_eq_false (by omega)
  have g2 : decide ((4 : Int) < (L.length : Int)) = false := decide_eq_false (by omega)
  have h3 : (getl L 0).length = nS L := rfl
  rw [h3, Nat.add_zero] at h1
  have hz : Tryd.prog.built 76 [(0, .int .i64 (nS L : Int)), (1, .int .i64 (L.length : Int))] = some (iv (mcP L 0)).toArray := by rw [mcP_zero]; exact built76 _ _
  have r0 : Row ((w.alloc (.cells #[.int .i64 0, .int .i64 0, .int .i64 0, .int .i64 0, .int .i64 0, .int .i64 0, .int .i64 0, .int .i64 0, .int .i64 0, .int .i64 0, .int .i64 0, .int .i64 0, .int .i64 0, .int .i64 0, .int .i64 0, .int .i64 0, .int .i64 0, .int .i64 0, .int .i64 0, .int .i64 0, .int .i64 0, .int .i64 0, .int .i64 0, .int .i64 0, .int .i64 0, .int .i64 0, .int .i64 0, .int .i64 0, .int .i64 0, .int .i64 0, .int .i64 0, .int .i64 0, .int .i64 0, .int .i64 0, .int .i64 0, .int .i64 0, .int .i64 0, .int .i64 0] 76)).alloc (.cells #[.int .i64 0, .int .i64 0, .int .i64 0, .int .i64 0, .int .i64 0, .int .i64 0, .int .i64 0, .int .i64 0, .int .i64 0, .int .i64 0, .int .i64 0, .int .i64 0, .int .i64 0, .int .i64 0, .int .i64 0, .int .i64 0, .int .i64 0, .int .i64 0, .int .i64 0, .int .i64 0, .int .i64 0, .int .i64 0, .int .i64 0, .int .i64 0, .int .i64 0, .int .i64 0, .int .i64 0, .int .i64 0, .int .i64 0, .int .i64 0, .int .i64 0, .int .i64 0, .int .i64 0, .int .i64 0, .int .i64 0, .int .i64 0, .int .i64 0, .int .i64 0] 76)) w.heap.size 76 Z38 := (row_new rfl).alloc _
  have q0 : Row ((w.alloc (.cells #[.int .i64 0, .int .i64 0, .int .i64 0, .int .i64 0, .int .i64 0, .int .i64 0, .int .i64 0, .int .i64 0, .int .i64 0, .int .i64 0, .int .i64 0, .int .i64 0, .int .i64 0, .int .i64 0, .int .i64 0, .int .i64 0, .int .i64 0, .int .i64 0, .int .i64 0, .int .i64 0, .int .i64 0, .int .i64 0, .int .i64 0, .int .i64 0, .int .i64 0, .int .i64 0, .int .i64 0, .int .i64 0, .int .i64 0, .int .i64 0, .int .i64 0, .int .i64 0, .int .i64 0, .int .i64 0, .int .i64 0, .int .i64 0, .int .i64 0, .int .i64 0] 76)).alloc (.cells #[.int .i64 0, .int .i64 0, .int .i64 0, .int .i64 0, .int .i64 0, .int .i64 0, .int .i64 0, .int .i64 0, .int .i64 0, .int .i64 0, .int .i64 0, .int .i64 0, .int .i64 0, .int .i64 0, .int .i64 0, .int .i64 0, .int .i64 0, .int .i64 0, .int .i64 0, .int .i64 0, .int .i64 0, .int .i64 0, .int .i64 0, .int .i64 0, .int .i64 0, .int .i64 0, .int .i64 0, .int .i64 0, .int .i64 0, .int .i64 0, .int .i64 0, .int .i64 0, .int .i64 0, .int .i64 0, .int .i64 0, .int .i64 0, .int .i64 0, .int .i64 0] 76)) (w.heap.size + 1) 76 Z38 := row_new (by simp)
  have b0 : Below w.heap.size w ((w.alloc (.cells #[.int .i64 0, .int .i64 0, .int .i64 0, .int .i64 0, .int .i64 0, .int .i64 0, .int .i64 0, .int .i64 0, .int .i64 0, .int .i64 0, .int .i64 0, .int .i64 0, .int .i64 0, .int .i64 0, .int .i64 0, .int .i64 0, .int .i64 0, .int .i64 0, .int .i64 0, .int .i64 0, .int .i64 0, .int .i64 0, .int .i64 0, .int .i64 0, .int .i64 0, .int .i64 0, .int .i64 0, .int .i64 0, .int .i64 0, .int .i64 0, .int .i64 0, .int .i64 0, .int .i64 0, .int .i64 0, .int .i64 0, .int .i64 0, .int .i64 0, .int .i64 0] 76)).alloc (.cells #[.int .i64 0, .int .i64 0, .int .i64 0, .int .i64 0, .int .i64 0, .int .i64 0, .int .i64 0, .int .i64 0, .int .i64 0, .int .i64 0, .int .i64 0, .int .i64 0, .int .i64 0, .int .i64 0, .int .i64 0, .int .i64 0, .int .i64 0, .int .i64 0, .int .i64 0, .int .i64 0, .int .i64 0, .int .i64 0, .int .i64 0, .int .i64 0, .int .i64 0, .int .i64 0, .int .i64 0, .int .i64 0, .int .i64 0, .int .i64 0, .int .i64 0, .int .i64 0, .int .i64 0, .int .i64 0, .int .i64 0, .int .i64 0, .int .i64 0, .int .i64 0] 76)) := by (repeat (first | exact Below.refl _ _ | assumption | (refine Below.setCell ?_ (by first | exact Nat.le_refl _ | omega | (simp; done) | (simp; omega)) _) | (refine Below.trans ?_ (below_drewN _)) | (refine Below.drew ?_) | (refine Below.alloc ?_ (by first | exact Nat.le_refl _ | omega | (simp; done) | (simp; omega)) _) | (refine below_row ?_ (by first | exact Nat.le_refl _ | omega | (simp; done) | (simp; omega)) _)))
  have hi := info76_iv (mcP_len L 0)
  have hsz : Z38.toArray.size = (iv (mcP L 0)).toArray.size := by rw [z38_eq]; exact size76_iv (by simp) (mcP_len L 0)
  have HS := Lib.hid (fun m (hm : m < 36) => mcP_step L hm)
  have HC0 : Hid (∀ (W : World) (m : Nat), Row W (w.heap.size + 1) 76 (iv (mcP L m)) → W.cell? ⟨w.heap.size + 1, 0, none⟩ = some (.int .i64 (nS L : Int))) := Lib.hid (fun W m h => by have := ivR h (i := 0) (by rw [mcP_len]; omega); rwa [mcP_n] at this)
  have HGL := Lib.hid (fun m => mcP_len L m)
  have HGN := Lib.hid (fun m => mcP_n L m)
  have hiz := info76_z
  have hzz := built76z
  have HZ : Hid (∀ (W : World), Row W w.heap.size 76 Z38 → (loadVar 76 ⟨w.heap.size, 0, none⟩).run Tryd.prog W = .ok (.agg Z38.toArray) W) := Lib.hid (fun W h => run_loadVar_row (P := Tryd.prog) W w.heap.size 76 76 Z38.toArray (0, 0) _ h Tryd.underlying76 rfl info76_z)
  have HN := Lib.hid (okM_rows hv hk1 hk4)
  have HRE := Lib.hid (fun r (h : rowOk L r) => mcP_rowOk h)
  have HOK : Hid (∀ r, rowOk L r ↔ (getl L r).length = nS L ∧ ∀ k, k < nS L → isQ (nS L) (geti (getl L r) k) = true) := Lib.hid (fun r => Iff.rfl)
  have HK0 : Hid (∀ r, r < 0 → rowOk L r) := Lib.hid (fun r h => absurd h (Nat.not_lt_zero r))
  clear ha hc h2 h3 hv
  obtain ⟨n, hn⟩ : ∃ n, nS L = n := ⟨_, rfl⟩
  rw [hn] at h1 hz HC0 HGN HN HRE HOK
  clear hn
  by_cases hn1 : n < 1
  · have g3 : decide ((n : Int) < 1) = true := decide_eq_true (by omega)
    go_enter Tryd.func50, Tryd.ntmps50
    go_wp2_with (first
      | ((with_reducible refine (?_ : wpList _ _ _ (Oper.mk (some 24) _ _ _ _ _ :: _) _ _)); refine wpList_buildTo rfl 76 _ rfl _ rfl (iv (mcP L 0)).toArray (by simp only [List.map_toArray, List.map_cons, List.map_nil]; exact hz) ?_)
      | ((with_reducible refine (?_ : wpList _ _ _ (Oper.mk (some 33) _ _ _ _ _ :: _) _ _)); refine wpList_buildTo rfl 76 _ rfl _ rfl Z38.toArray (by simp only [List.map_toArray, List.map_nil]; exact hzz) ?_)
      | ((with_reducible refine (?_ : wpList _ _ _ (Oper.mk none _ _ _ _ _ :: _) _ _)); refine wpList_store_row rfl 76 (.tmp 4) (.tmp 24) rfl (w.heap.size + 1) (iv (mcP L 0)).toArray rfl rfl 76 Z38.toArray (row_heap q0) hi hsz (iv_all _) ?_; replace q0 := q0.row (iv (mcP L 0)); replace b0 := below_row (g := w.heap.size + 1) b0 (by omega) (iv (mcP L 0)).toArray; replace r0 := r0.row_far (k := w.heap.size + 1) (by omega) (iv (mcP L 0)).toArray; generalize World.setRow (World.alloc _ _) _ _ = W at *; have c0 := HC0.out W 0 q0)
      | ((with_reducible refine (?_ : wpList _ _ _ (Oper.mk none _ _ _ _ _ :: _) _ _)); refine wpList_store_row rfl 76 (.tmp 2) (.tmp 33) rfl w.heap.size Z38.toArray rfl rfl 76 Z38.toArray (row_heap r0) hiz rfl z38_all ?_))
    exact bodyPost_ret (v := .tuple #[.agg Z38.toArray, .bool false]) (res2 Tryd.results50 rfl rfl (HZ.out _ (r0.row _))) rfl ⟨rfl, below_row b0 (by omega) _⟩
  have g3 : decide (n < 1) = false := decide_eq_false (by omega)
  by_cases hn9 : 9 < n
  · have g4 : decide ((9 : Int) < (n : Int)) = true := decide_eq_true (by omega)
    go_enter Tryd.func50, Tryd.ntmps50
    go_wp2_with (first
      | ((with_reducible refine (?_ : wpList _ _ _ (Oper.mk (some 24) _ _ _ _ _ :: _) _ _)); refine wpList_buildTo rfl 76 _ rfl _ rfl (iv (mcP L 0)).toArray (by simp only [List.map_toArray, List.map_cons, List.map_nil]; exact hz) ?_)
      | ((with_reducible refine (?_ : wpList _ _ _ (Oper.mk (some 33) _ _ _ _ _ :: _) _ _)); refine wpList_buildTo rfl 76 _ rfl _ rfl Z38.toArray (by simp only [List.map_toArray, List.map_nil]; exact hzz) ?_)
      | ((with_reducible refine (?_ : wpList _ _ _ (Oper.mk none _ _ _ _ _ :: _) _ _)); refine wpList_store_row rfl 76 (.tmp 4) (.tmp 24) rfl (w.heap.size + 1) (iv (mcP L 0)).toArray rfl rfl 76 Z38.toArray (row_heap q0) hi hsz (iv_all _) ?_; replace q0 := q0.row (iv (mcP L 0)); replace b0 := below_row (g := w.heap.size + 1) b0 (by omega) (iv (mcP L 0)).toArray; replace r0 := r0.row_far (k := w.heap.size + 1) (by omega) (iv (mcP L 0)).toArray; generalize World.setRow (World.alloc _ _) _ _ = W at *; have c0 := HC0.out W 0 q0)
      | ((with_reducible refine (?_ : wpList _ _ _ (Oper.mk none _ _ _ _ _ :: _) _ _)); refine wpList_store_row rfl 76 (.tmp 2) (.tmp 33) rfl w.heap.size Z38.toArray rfl rfl 76 Z38.toArray (row_heap r0) hiz rfl z38_all ?_))
    exact bodyPost_ret (v := .tuple #[.agg Z38.toArray, .bool false]) (res2 Tryd.results50 rfl rfl (HZ.out _ (r0.row _))) rfl ⟨rfl, below_row b0 (by omega) _⟩
  have g4 : decide ((9 : Int) < (n : Int)) = false := decide_eq_false (by omega)
  go_enter Tryd.func50, Tryd.ntmps50
  go_wp2_with (first
    | ((with_reducible refine (?_ : wpList _ _ _ (Oper.mk (some 24) _ _ _ _ _ :: _) _ _)); refine wpList_buildTo rfl 76 _ rfl _ rfl (iv (mcP L 0)).toArray (by simp only [List.map_toArray, List.map_cons, List.map_nil]; exact hz) ?_)
    | ((with_reducible refine (?_ : wpList _ _ _ (Oper.mk none _ _ _ _ _ :: _) _ _)); refine wpList_store_row rfl 76 (.tmp 4) (.tmp 24) rfl (w.heap.size + 1) (iv (mcP L 0)).toArray rfl rfl 76 Z38.toArray (row_heap q0) hi hsz (iv_all _) ?_; replace q0 := q0.row (iv (mcP L 0)); replace b0 := below_row (g := w.heap.size + 1) b0 (by omega) (iv (mcP L 0)).toArray; replace r0 := r0.row_far (k := w.heap.size + 1) (by omega) (iv (mcP L 0)).toArray; generalize World.setRow (World.alloc _ _) _ _ = W at *; have c0 := HC0.out W 0 q0))
  clear hz hsz hi c0 h1
  go_loopw [36] (fun i wr => ∃ r : Nat, r ≤ L.length ∧ i = .int .i64 r ∧ Row wr (w.heap.size + 1) 76 (iv (mcP L (r * 9))) ∧ Row wr w.heap.size 76 Z38 ∧ Below w.heap.size w wr ∧ Hid (∀ r', r' < r → rowOk L r')) (fun i _ => L.length - (intOf i).toNat)
  case atStart => exact ⟨0, by omega, rfl, q0, r0, b0, HK0⟩
  case round =>
    clear q0 r0 b0 HK0
    obtain ⟨r, hr, rfl, q0, r0, b0, HK⟩ := hrel
    by_cases hlt : r < L.length
    · obtain ⟨bA, oA, hAe, hbA, hcA⟩ := HA.out (by omega)
      injection hAe with hAe
      injection hAe with hAe hAo
      subst hAe hAo
      obtain ⟨B1, cB, hcell, hrow⟩ := hcA r hlt
      replace hcell := (b0.cell (p := ⟨b, _, none⟩) hbA).trans hcell
      have c0 := HC0.out wr _ q0
      have HI := Lib.hid hrow
      have HGA : Hid (∀ k, gat L r k = geti (getl L r) k) := Lib.hid (fun k => rfl)
      have HOKr := Lib.hid (HOK.out r)
      have HRR := Lib.hid (HRE.out r)
      clear hcA hrow
      generalize getl L r = X at *
      by_cases hw : X.length = n
      · rw [hw] at hcell
        have HWW := Lib.hid hw
        have HJ0 : Hid (∀ k, k < 0 → isQ n (geti X k) = true) := Lib.hid (fun r h => absurd h (Nat.not_lt_zero r))
        clear hw
        go_wp2
        go_loopw [49] (fun i wr2 => ∃ k : Nat, k ≤ n ∧ i = .int .i64 k ∧ Row wr2 (w.heap.size + 1) 76 (iv (mcP L (r * 9 + k))) ∧ Row wr2 w.heap.size 76 Z38 ∧ Below w.heap.size w wr2 ∧ Hid (∀ k', k' < k → isQ n (geti X k') = true)) (fun i _ => n - (intOf i).toNat)
        case atStart => exact ⟨0, by omega, rfl, q0, r0, b0, HJ0⟩
        case round =>
          clear q0 r0 b0 hcell c0 hbA HJ0
          obtain ⟨k, hk, rfl, q0, r0, b0, HJ⟩ := hrel
          by_cases hlk : k < n
          · obtain ⟨bX, oX, rfl, hbX, hcX⟩ := (HI.out.below b0) (by rw [HWW.out]; omega)
            have hx := hcX k (by rw [HWW.out]; exact hlk)
            have hst := HS.out (r * 9 + k) (by omega)
            rw [show (r * 9 + k) / 9 = r by omega, show (r * 9 + k) % 9 = k by omega, HGA.out, ← Nat.add_assoc, Nat.add_assoc (r * 9) k 1] at hst
            have HST := Lib.hid hst
            have HJ2 : Hid (isQ n (geti X k) = true → ∀ k', k' < k + 1 → isQ n (geti X k') = true) := Lib.hid (fun h0 k' hk' => by
              by_cases e : k' = k
              · subst e; exact h0
              · exact HJ.out k' (by omega))
            clear hst
            have hb2 := b0.size
            clear hcX
            generalize geti X k = x at *
            have hi := info76_iv (mcP_len L (r * 9 + k))
            have HIS := Lib.hid (fun V => isState_any (mcP L (r * 9 + k)) n x V (HGL.out _) (HGN.out _))
            by_cases hq : isQ n x = true
            · rw [hq] at HIS
              replace HJ2 := Lib.hid (HJ2.out hq)
              clear hq
              go_wp2_with (first
                | ((with_reducible refine (?_ : wpList _ _ _ (Oper.mk (some 54) _ _ _ _ _ :: _) _ _)); refine wpList_load_row rfl 76 (.tmp 4) rfl (w.heap.size + 1) rfl 76 (iv (mcP L (r * 9 + k))).toArray (0, 0) _ (row_heap q0) Tryd.underlying76 rfl hi ?_)
                | (go_at_call 59; refine (HIS.out _).mono ?_; rintro e w2 ⟨rfl, kk, rfl⟩; replace q0 := (q0.alloc (.cells (iv (mcP L (r * 9 + k))).toArray 76)).drewN kk; replace r0 := (r0.alloc (.cells (iv (mcP L (r * 9 + k))).toArray 76)).drewN kk; replace b0 := (b0.alloc (by omega) (.cells (iv (mcP L (r * 9 + k))).toArray 76)).trans (below_drewN kk); replace hb2 := b0.size; generalize World.drewN _ _ = W2 at *; have f0 := q0.free (2 + r * 9 + k); have e0 := ivR q0 (i := 2 + r * 9 + k) (by rw [HGL.out]; omega)))
              go_roundw
              case rel =>
                refine ⟨k + 1, by omega, by go_num, ?_, r0.far (by dsimp only; omega) _, b0.setCell (by dsimp only; omega) _, HJ2⟩
                have h := q0.set (2 + r * 9 + k) (.int .i64 x)
                rw [iv_set, HST.out] at h
                exact h
              case measure => simp [intOf]; omega
            · rw [Bool.eq_false_iff.2 hq] at HIS
              clear hq HJ2 HST
              go_wp2_with (first
                | ((with_reducible refine (?_ : wpList _ _ _ (Oper.mk (some 54) _ _ _ _ _ :: _) _ _)); refine wpList_load_row rfl 76 (.tmp 4) rfl (w.heap.size + 1) rfl 76 (iv (mcP L (r * 9 + k))).toArray (0, 0) _ (row_heap q0) Tryd.underlying76 rfl hi ?_)
                | (go_at_call 59; refine (HIS.out _).mono ?_; rintro e w2 ⟨rfl, kk, rfl⟩; replace r0 := (r0.alloc (.cells (iv (mcP L (r * 9 + k))).toArray 76)).drewN kk; replace b0 := (b0.alloc (by omega) (.cells (iv (mcP L (r * 9 + k))).toArray 76)).trans (below_drewN kk); generalize World.drewN _ _ = W2 at *)
                | ((with_reducible refine (?_ : wpList _ _ _ (Oper.mk (some 58) _ _ _ _ _ :: _) _ _)); refine wpList_buildTo rfl 76 _ rfl _ rfl Z38.toArray (by simp only [List.map_toArray, List.map_nil]; exact hzz) ?_)
                | ((with_reducible refine (?_ : wpList _ _ _ (Oper.mk none _ _ _ _ _ :: _) _ _)); refine wpList_store_row rfl 76 (.tmp 2) (.tmp 58) rfl w.heap.size Z38.toArray rfl rfl 76 Z38.toArray (row_heap r0) hiz rfl z38_all ?_))
              exact bodyPost_ret (v := .tuple #[.agg Z38.toArray, .bool false]) (res2 Tryd.results50 rfl rfl (HZ.out _ (r0.row _))) rfl ⟨rfl, below_row b0 (by omega) _⟩
          · obtain rfl : k = n := by omega
            have hro := HOKr.out.2 ⟨HWW.out, HJ.out⟩
            rw [HRR.out hro (by omega)] at q0
            have HK2 : Hid (∀ r', r' < r + 1 → rowOk L r') := Lib.hid (fun r' h => by
              by_cases e : r' = r
              · subst e; exact hro
              · exact HK.out r' (by omega))
            clear hro
            go_wp2
            go_roundw
            case rel => exact ⟨r + 1, by omega, by go_num, q0, r0, b0, HK2⟩
            case measure => simp [intOf]; omega
      · have g5 : ((X.length : Int) != (n : Int)) = true := by simp; omega
        clear HOKr HRR
        go_wp2_with (first
          | ((with_reducible refine (?_ : wpList _ _ _ (Oper.mk (some 46) _ _ _ _ _ :: _) _ _)); refine wpList_buildTo rfl 76 _ rfl _ rfl Z38.toArray (by simp only [List.map_toArray, List.map_nil]; exact hzz) ?_)
          | ((with_reducible refine (?_ : wpList _ _ _ (Oper.mk none _ _ _ _ _ :: _) _ _)); refine wpList_store_row rfl 76 (.tmp 2) (.tmp 46) rfl w.heap.size Z38.toArray rfl rfl 76 Z38.toArray (row_heap r0) hiz rfl z38_all ?_))
        exact bodyPost_ret (v := .tuple #[.agg Z38.toArray, .bool false]) (res2 Tryd.results50 rfl rfl (HZ.out _ (r0.row _))) rfl ⟨rfl, below_row b0 (by omega) _⟩
    · exact absurd (fun i hi => HK.out i (by omega)) (HN.out (by omega) (by omega))
end Go.Proofs.YtignbpipdfjkeaaDoor
