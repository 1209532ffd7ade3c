/- Peel. -/
import Derived.Test.YtmfpegadcecknaaJ
import Derived.Test.YtmfpegadcecknaaK
namespace Go.Proofs.Ytmfpegadcecknaa
open Go.RowKit
set_option maxHeartbeats 1000000
set_option maxRecDepth 100000
theorem own_mono {w : World} {b b' n : Nat} {e : TypeId} {z : Nat} {v : Value} {xs : List Value} (h : w.ownsRow b e z v n xs) (hb : b' ≤ b) : w.ownsRow b' e z v n xs := by
  refine ⟨h.1, ?_⟩
  rcases h.2 with h | ⟨g, cap, cur, h1, h2, h3⟩
  · exact .inl h
  · exact .inr ⟨g, cap, cur, h1, Nat.le_trans hb h2, h3⟩
theorem Peel_none (n : Int) (A : Option Addr) (c : Nat) (es : List (Int × Int)) (w : World) (hx : es.length ≤ 1000000) (ha : PairsAt w A es) (h : readF n es = none) :
    Calls Try.prog 33 #[.int .i64 n, .slice A es.length c] w fun e w' => e = .returned (.tuple #[.slice none 0 0, .int .i64 0, .int .i64 2]) ∧ Below w.heap.size w w' := by
  have HC := Lib.hid (rg_none (c := c) hx ha h)
  clear h
  go_enter Try.func33, Try.ntmps33
  go_wp2_with (first
    | (go_at_call 41; refine HC.out.mono ?_; rintro e w2 ⟨rfl, hb2⟩; have hs2 := hb2.size)
    | (refine wpList_store_row rfl 75 (.tmp 7) (.tmp 15) rfl w2.heap.size (gcells 0 Z16).toArray rfl rfl 75 #[.int .i64 0, .int .u32 0, .int .u32 0, .int .u32 0, .int .u32 0, .int .u32 0, .int .u32 0, .int .u32 0, .int .u32 0, .int .u32 0, .int .u32 0, .int .u32 0, .int .u32 0, .int .u32 0, .int .u32 0, .int .u32 0, .int .u32 0] (heap_alloc_new _ _) info75 rfl (gcells_one _ _) ?_; rw [setRow_alloc]))
  go_ret3
  refine ⟨rfl, ?_⟩
  (repeat (first | exact Below.refl _ _ | assumption | (refine Below.setCell ?_ (by first | exact Nat.le_refl _ | omega | (simp; done) | (simp; omega)) _) | (refine Below.trans ?_ (below_drewN _)) | (refine Below.drew ?_) | (refine Below.alloc ?_ (by first | exact Nat.le_refl _ | omega | (simp; done) | (simp; omega)) _) | (refine below_row ?_ (by first | exact Nat.le_refl _ | omega | (simp; done) | (simp; omega)) _)))
/-- The order of removing, and the numbers of neighbors. -/
def ordF (m : Nat) (gs : List Nat) : List Nat := (peelL gs m (sAll m)).map (·.1)
def lftF (m : Nat) (gs : List Nat) : List Nat := (peelL gs m (sAll m)).map (·.2)
theorem peel_some (m : Nat) (gs : List Nat) (hg : Rows16 gs) (hI : Irr gs) (hm : m ≤ 16) (w : World) : Calls Try.prog 54 #[.agg (gcells m gs).toArray] w fun e w' => ∃ v1 v2, e = .returned (.tuple #[v1, v2]) ∧ w'.ownsRow w.heap.size 3 1 v1 m (intv (ordF m gs)) ∧ w'.ownsRow w.heap.size 3 1 v2 m (intv (lftF m gs)) ∧ Below w.heap.size w w' := by
  have := peel_any m gs hg hI hm w
  rw [pc_all hm] at this
  exact this
theorem max_nat (A : Option Addr) (c : Nat) (xs : List Nat) (w : World) (hx0 : 0 < xs.length) (hx : xs.length ≤ 1000000) (ha : IntsAt w A (natI xs)) :
    Calls Try.prog 53 #[.slice A xs.length c] w fun e w' => e = .returned (.int .i64 (maxTo (natI xs) xs.length)) ∧ w = w' := by
  have h := max_any A c (natI xs) w (by rw [natI_len]; exact hx0) (by rw [natI_len]; exact hx) ha
  rw [natI_len] at h
  exact h
theorem Peel_some (m : Nat) (A : Option Addr) (c : Nat) (es : List (Int × Int)) (gs : List Nat) (w : World) (hx : es.length ≤ 1000000) (ha : PairsAt w A es) (h : readF m es = some gs) :
    Calls Try.prog 33 #[.int .i64 m, .slice A es.length c] w fun e w' => ∃ v, e = .returned (.tuple #[v, .int .i64 (maxTo (natI (lftF m gs)) m), .int .i64 0]) ∧ w'.ownsRow w.heap.size 3 1 v m (intv (ordF m gs)) ∧ Below w.heap.size w w' := by
  obtain ⟨hm1, hm2, hg, hI⟩ := readF_ok h
  have hm1' : 1 ≤ m := by omega
  have hm2' : m ≤ 16 := by omega
  have HC := Lib.hid (rg_some (c := c) hx ha h)
  have HP := Lib.hid (fun w => peel_some m gs hg hI hm2' w)
  have hll : (lftF m gs).length = m := by unfold lftF; rw [List.length_map, peelL_len]
  have HLL := Lib.hid hll
  clear h hm1 hm2 hll
  go_enter Try.func33, Try.ntmps33
  go_wp2_with (first
    | (go_at_call 41; refine HC.out.mono ?_; rintro e w2 ⟨rfl, hb2⟩; have hs2 := hb2.size)
    | (refine wpList_store_row rfl 75 (.tmp 7) (.tmp 15) rfl w2.heap.size (gcells m gs).toArray rfl rfl 75 #[.int .i64 0, .int .u32 0, .int .u32 0, .int .u32 0, .int .u32 0, .int .u32 0, .int .u32 0, .int .u32 0, .int .u32 0, .int .u32 0, .int .u32 0, .int .u32 0, .int .u32 0, .int .u32 0, .int .u32 0, .int .u32 0, .int .u32 0] (heap_alloc_new _ _) (info75g hg) (size75g hg) (gcells_one _ _) ?_; rw [setRow_alloc])
    | (refine wpList_load_row rfl 75 (.tmp 7) rfl w2.heap.size rfl 75 (gcells m gs).toArray (0, 0) _ (heap_alloc_new _ _) Try.underlying75 rfl (info75g hg) ?_)
    | (go_at_call 54; refine (HP.out _).mono ?_; rintro e w3 ⟨v1, v2, rfl, o1, o2, hb3⟩; have hs3 := hb3.size; obtain ⟨A2, c2, rfl, hq, hin⟩ := own_ints o2; clear hq)
    | (go_at_call 53; refine (max_nat A2 c2 (lftF m gs) _ (by rw [HLL.out]; omega) (by rw [HLL.out]; omega) hin).mono ?_; rintro e w' ⟨rfl, rfl⟩))
  go_ret3
  refine ⟨v1, ?_, own_mono o1 (by simp; omega), (((hb2.alloc hs2 _).trans (hb3.mono (by simp; omega))))⟩
  show Ending.returned (.tuple #[v1, .int .i64 (maxTo (natI (lftF m gs)) (lftF m gs).length), .int .i64 0]) = _
  rw [HLL.out]
end Go.Proofs.Ytmfpegadcecknaa
