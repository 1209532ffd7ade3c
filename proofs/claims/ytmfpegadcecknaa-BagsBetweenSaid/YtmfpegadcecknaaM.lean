/- Visiting the members of a set: the iterator's contract. -/
import Derived.RangeFuncNested
import Derived.RangeFuncBound
import Derived.RangeFuncCalls
import Derived.RangeFuncLeaves
import Derived.Shelf.Abstract
import Derived.Shelf.RegionOpen
import Derived.OwnWalkIn
import Derived.TacticsInMore
import Derived.LoopNIn
import Derived.LoopIn
import Derived.Test.YtmfpegadcecknaaC
namespace Go.Proofs.Ytmfpegadcecknaa
open Go.RowKit Go.Shelf
attribute [local go_sem] Oper.semAt_some
set_option maxHeartbeats 400000
theorem members_any (s : Nat) (w : World) :
    Calls Try.prog 61 #[.int .u32 s] w fun e w' => e = .returned (.func (.func 70) #[] #[.pointer (some ⟨w.heap.size, 0, none⟩)]) ∧ w.alloc (.cells #[.int .u32 s] 72) = w' := by
  go_enter Try.func61, Try.ntmps61
  go_wp2
  go_ret
  exact ⟨rfl, rfl⟩
/-- A vertex of the set s. -/
abbrev Mem (s : Nat) := { v : Nat // v < 16 ∧ sHas s v = true }
def ms (s : Nat) : List Nat := (List.range 16).filter (sHas s)
/-- Block B lies as it lay. -/
def KeepB (B : Nat) (W W' : World) : Prop := W'.heap[B]? = W.heap[B]?
def upTo (s k : Nat) : List Nat := (List.range k).filter (sHas s)
theorem upTo_yes {s k : Nat} (h : sHas s k = true) : upTo s (k + 1) = upTo s k ++ [k] := by simp [upTo, List.range_succ, List.filter_append, h]
theorem upTo_no {s k : Nat} (h : sHas s k = false) : upTo s (k + 1) = upTo s k := by simp [upTo, List.range_succ, List.filter_append, h]
theorem members_stops (F : Fence) (hO : Open F) (hro : F.round = none) (n : Nat) (B s : Nat) (hs : s < 65536) (w : World) (hB : w.heap[B]? = some (.cells #[.int .u32 s] 72 (0, 0))) :
    SeqStopsK (α := Mem s) F n Try.prog 70 #[.pointer (some ⟨B, 0, none⟩)] (fun x => #[.int .i64 x.1]) (KeepB B) (fun xs => xs.map (·.1) = ms s) (fun _ => True) 16 w := by
  intro l J Jx W hW hJ hJx hY h0
  have hF := hO.fn
  have hd := hO.depth
  have F70 := hF 70
  refine callsIn_of_wp Try.func70 rfl F70 ?_ hro
  simp only [Try.ntmps70, List.size_toArray, List.length_cons, List.length_nil, Nat.reduceAdd, Nat.reduceSub, Array.replicate_succ, Array.replicate_zero, List.push_toArray, List.append_toArray, List.nil_append, List.cons_append]
  gi_wp2
  gi_loopw [4, 3] (fun i _ wr => ∃ (k : Nat) (pre : List (Mem s)), k ≤ 16 ∧ i = .int .i64 k ∧ pre.map (·.1) = upTo s k ∧ J pre wr ∧ KeepB B w wr) (fun i _ _ => 16 - (intOf i).toNat)
  case atStart => exact ⟨0, [], by omega, rfl, rfl, h0, hW.block B (Array.getElem?_eq_some_iff.1 hB).1⟩
  case round =>
    obtain ⟨k, pre, hk, rfl, hp, hj, hkb⟩ := hrel
    have hc : wr.cell? ⟨B, 0, none⟩ = some (.int .u32 s) := by
      have : wr.heap[B]? = some (.cells #[.int .u32 s] 72 (0, 0)) := hkb.trans hB
      exact cell_of_row wr B 0 _ _ _ this
    have hp' := Lib.hid hp
    clear hp hB
    by_cases hlt : k < 16
    · cases hb : sHas s k
      · have hb' := Lib.hid hb
        clear hb hY
        have HC := Lib.hid ((has_any s k wr (by omega) (by omega)).mono (R' := fun e w' => e = .returned (.bool false) ∧ wr = w') (fun e w' ⟨h1, h2⟩ => ⟨by rw [h1, hb'.out], h2⟩))
        gi_wp2_with (gi_at_call 56; refine (hO.lift _ HC.out).mono ?_; rintro e w' ⟨rfl, rfl⟩)
        go_roundw
        case rel => exact ⟨k + 1, pre, by omega, by go_num, by rw [upTo_no hb'.out]; exact hp'.out, hj, hkb⟩
        case measure => simp [intOf]; omega
      · have hb' := Lib.hid hb
        have HC := Lib.hid ((has_any s k wr (by omega) (by omega)).mono (R' := fun e w' => e = .returned (.bool true) ∧ wr = w') (fun e w' ⟨h1, h2⟩ => ⟨by rw [h1, hb'.out], h2⟩))
        have hlen : pre.length < 16 := by
          have : (pre.map (·.1)).length = (upTo s k).length := by rw [hp'.out]
          rw [List.length_map] at this
          have h2 := List.length_filter_le (sHas s) (List.range k)
          unfold upTo at this
          simp only [List.length_range] at h2
          omega
        obtain ⟨x, hx⟩ : ∃ x : Mem s, x.1 = k := ⟨⟨k, hlt, hb⟩, rfl⟩
        obtain ⟨fn, tmps, assign, body, hy, hR⟩ := hY pre x wr hj hlen
        rw [hx] at hy
        have HX := Lib.hid hx
        clear hb hY hx
        gi_wp2_with (gi_at_call 56; refine (hO.lift _ HC.out).mono ?_; rintro e w' ⟨rfl, rfl⟩)
        refine hR.mono ?_
        rintro e W3 (⟨rfl, hJ3, hk3⟩ | ⟨rfl, hJx3⟩)
        · gi_wp2
          go_roundw
          case rel => exact ⟨k + 1, pre ++ [x], by omega, by go_num, by rw [upTo_yes hb'.out, List.map_append, hp'.out]; simp [HX.out], hJ3, hk3.trans hkb⟩
          case measure => simp [intOf]; omega
        · gi_wp2
          refine bodyPost_ret (results_none rfl _ _ _) rfl ?_
          exact ⟨⟨_, rfl⟩, .inr ⟨pre ++ [x], trivial, hJx3⟩⟩
    · obtain rfl : k = 16 := by omega
      gi_wp2
      go_end0
      exact ⟨⟨_, rfl⟩, .inl ⟨pre, hp'.out, hj⟩⟩
end Go.Proofs.Ytmfpegadcecknaa
