/- The smallest state of a set. Condition: the table of the library is as its text lays it. -/
import Derived.Test.YtignbpipdfjkeaaDoorAB
namespace Go.Proofs.YtignbpipdfjkeaaDoor
open Go.RowKit
set_option maxHeartbeats 1000000
set_option maxRecDepth 100000
def dbL : List Nat := [0, 1, 28, 2, 29, 14, 24, 3, 30, 22, 20, 15, 25, 17, 4, 8, 31, 27, 13, 23, 21, 19, 16, 7, 26, 12, 18, 6, 11, 5, 10, 9]
/-- The table of the library, where the program keeps it. -/
structure TabW (w : World) : Prop where
  lt : 0 < w.heap.size
  at' : ∀ i, i < 32 → w.cell? ⟨0, i, none⟩ = some (.int .u8 (dbL.getD i 0 : Nat))
theorem TabW.below {w w' : World} {B : Nat} (h : TabW w) (hb : Below B w w') (hB : 0 < B) : TabW w' := ⟨Nat.lt_of_lt_of_le h.lt hb.size, fun i hi => (hb.cell (p := ⟨0, i, none⟩) hB).trans (h.at' i hi)⟩
theorem TabW.drewN {w : World} (h : TabW w) (n : Nat) : TabW (w.drewN n) := ⟨h.lt, h.at'⟩
theorem TabW.alloc {w : World} (h : TabW w) (o : Obj) : TabW (w.alloc o) := h.below ((Below.refl w.heap.size w).alloc (Nat.le_refl _) o) h.lt
/-- The smallest number of a set (16: none). -/
def tzS (s : Nat) : Nat := ((List.range 16).find? fun q => s.testBit q).getD 16
def tzI (s : Nat) : Nat := (s &&& (65536 - s)) * 125613361 % 4294967296 / 134217728
def tzOk (s : Nat) : Bool := decide (tzI s < 32) && (dbL.getD (tzI s) 0 == tzS s)
theorem tz_low : ((List.range 511).all fun s => tzOk (s + 1)) = true := by decide +kernel
theorem tz_high : ((List.range 512).all fun m => tzOk (65535 - m)) = true := by decide +kernel
/-- The sets whose smallest number is asked for. -/
def TzG (s : Nat) : Prop := (0 < s ∧ s < 512) ∨ ∃ m, m < 512 ∧ s = 65535 - m
theorem tz_ok {s : Nat} (h : TzG s) : tzI s < 32 ∧ dbL.getD (tzI s) 0 = tzS s := by
  have h2 : tzOk s = true := by
    rcases h with ⟨h1, h2⟩ | ⟨m, hm, rfl⟩
    · have := List.all_eq_true.1 tz_low (s - 1) (List.mem_range.2 (by omega))
      rwa [show s - 1 + 1 = s by omega] at this
    · exact List.all_eq_true.1 tz_high m (List.mem_range.2 hm)
  unfold tzOk at h2
  simp only [Bool.and_eq_true, decide_eq_true_eq, beq_iff_eq] at h2
  exact h2
theorem TzG.pos {s : Nat} (h : TzG s) : 0 < s ∧ s < 65536 := by rcases h with ⟨h1, h2⟩ | ⟨m, hm, rfl⟩ <;> omega
theorem tz_bits {s : Nat} (h : TzG s) : bits BinOp.and IntKind.u16 (s : Int) (IntKind.u16.wrap (-(s : Int))) % 4294967296 * 125613361 % 4294967296 / 134217728 = ((tzI s : Nat) : Int) := by
  have hp := h.pos
  have e : IntKind.u16.wrap (-(s : Int)) = ((65536 - s : Nat) : Int) := by
    simp [IntKind.wrap, IntKind.bits, IntKind.signed]; omega
  rw [e, u16_and_nat _ _ hp.2 (by omega)]
  have h2 : (s &&& (65536 - s)) ≤ s := Nat.and_le_left
  unfold tzI
  generalize (s &&& (65536 - s)) = x at *
  omega
theorem tz_any (s : Nat) (w : World) (h : TzG s) (ht : TabW w) :
    Calls Tryd.prog 73 #[.int .u16 s] w fun e w' => e = .returned (.int .i64 (tzS s)) ∧ w = w' := by
  obtain ⟨h1, h2⟩ := tz_ok h
  have c := ht.at' _ h1
  rw [h2] at c
  have E := tz_bits h
  have h0 : ((s : Int) == 0) = false := by have := h.pos; simp; omega
  clear h ht h2
  have hle : tzS s ≤ 16 := by
    unfold tzS
    rcases e : (List.range 16).find? fun q => s.testBit q with _ | q
    · simp
    · have := List.mem_range.1 (List.mem_of_find?_eq_some e); simp; omega
  obtain ⟨t, ht⟩ : ∃ t, tzS s = t := ⟨_, rfl⟩
  rw [ht] at c hle ⊢
  have c2 : w.cell? ⟨0, (bits BinOp.and IntKind.u16 (s : Int) (IntKind.u16.wrap (-(s : Int))) % 4294967296 * 125613361 % 4294967296 / 134217728).toNat, none⟩ = some (.int .u8 (t : Nat)) := by rw [E, Int.toNat_natCast]; exact c
  clear ht c E h1
  go_enter Tryd.func73, Tryd.ntmps73
  go_wp2
  go_ret
  exact ⟨rfl, rfl⟩
theorem smallest_any (s : Nat) (w : World) (h : TzG s) (ht : TabW w) :
    Calls Tryd.prog 53 #[.int .u16 s] w fun e w' => e = .returned (.int .i64 (tzS s)) ∧ ∃ n, w' = w.drewN n := by
  have HT := Lib.hid (fun n => tz_any s (w.drewN n) h (ht.drewN n))
  go_enter Tryd.func53, Tryd.ntmps53
  go_wp2_with (go_at_call 73; refine (HT.out 0).mono ?_; rintro e w' ⟨rfl, rfl⟩)
  go_ret
  exact ⟨rfl, 0, rfl⟩
end Go.Proofs.YtignbpipdfjkeaaDoor
