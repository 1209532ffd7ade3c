/- What a search asks of a set; the word by which it has come to one. -/
import Derived.Test.YtignbpipdfjkeaaDoorAH
import Derived.Laws.BytesArg
import Derived.BigQuiet
namespace Go.Proofs.YtignbpipdfjkeaaDoor
open Go.RowKit
set_option maxHeartbeats 1000000
set_option maxRecDepth 100000
theorem size71_any (s : Nat) (w : World) (hs : s < 512) :
    Calls Tryd.prog 71 #[.int .u16 s] w fun e w' => e = .returned (.int .i64 (szS s)) ∧ ∃ n, w' = w.drewN n := by
  rw [← pc_sz hs]; exact size_any s w (by omega)
theorem fewer_any (s many P : Nat) (w : World) (hs : s < 512) (_hm : many < 100) (hc : w.cell? ⟨P, 0, none⟩ = some (.int .i64 many)) :
    Calls Tryd.prog 70 #[.int .u16 s, .pointer (some ⟨P, 0, none⟩)] w fun e w' => e = .returned (.bool (decide (szS s ≤ many))) ∧ ∃ n, w' = w.drewN n := by
  have HSZ := Lib.hid (fun n => size71_any s (w.drewN n) hs)
  have hz := sz_le s
  go_enter Tryd.func70, Tryd.ntmps70
  go_wp2
  refine wp_region_quiet_lit (by kernel_rfl) (by kernel_rfl) ?_
  repeat go_big_quiet_step (((go_at_call 71; exact Calls.quiet_of (HSZ.out _))))
  refine wpQuiet_nil ?_
  rintro _ ⟨nq, rfl⟩
  go_wp2
  go_ret
  exact ⟨ret_bool (by simp), nq, rfl⟩
theorem leadIs_any (s other P : Nat) (w : World) (_hs : s < 512) (_ho : other < 512) (hc : w.cell? ⟨P, 0, none⟩ = some (.int .u16 other)) :
    Calls Tryd.prog 67 #[.int .u16 s, .pointer (some ⟨P, 0, none⟩)] w fun e w' => e = .returned (.bool (decide (s = other))) ∧ ∃ n, w' = w.drewN n := by
  go_enter Tryd.func67, Tryd.ntmps67
  go_wp2
  go_ret
  exact ⟨ret_bool (by rw [Bool.eq_iff_iff]; simp; omega), 0, rfl⟩
end Go.Proofs.YtignbpipdfjkeaaDoor
