/- Sets of rows or columns as bits. Conditions: sets below 2^16, members below 16. -/
import Derived.Test.YtnnaaoobdofooaaRA
import Derived.Laws.BitsAllLaws
namespace Go.Proofs.Ytnnaaoobdofooaa
open Go.RowKit
set_option maxHeartbeats 400000
set_option maxRecDepth 100000
def sHas (s v : Nat) : Bool := s.testBit v
def sWith (s v : Nat) : Nat := s ||| 2^v
def sWithout (s v : Nat) : Nat := s &&& (65535 - 2^v)
def sAndNot (s t : Nat) : Nat := s &&& (65535 - t)
def sAll (n : Nat) : Nat := 2^n - 1
theorem pow_lt16 {v : Nat} (h : v < 16) : 2^v < 65536 := by
  have : 2^v ≤ 2^15 := Nat.pow_le_pow_right (by omega) (by omega)
  omega
theorem pow_mod16 {v : Nat} (h : v < 16) : ((2:Int)^v % 65536) = ((2^v : Nat) : Int) := by
  have h1 := pow_lt16 h
  rw [pow_cast]; generalize 2^v = x at *; omega
theorem has_bits (s v : Nat) (hs : s < 65536) : (bits BinOp.and IntKind.u16 ((s:Int) / 2 ^ v) 1 == 1) = sHas s v := by
  have h1 : ((s:Int) / 2^v) = ((s / 2^v : Nat) : Int) := by rw [pow_cast]; rfl
  rw [h1, show (1:Int) = ((1:Nat):Int) from rfl, u16_and_nat _ _ (Nat.lt_of_le_of_lt (Nat.div_le_self _ _) hs) (by omega)]
  unfold sHas
  rw [Nat.testBit_eq_decide_div_mod_eq, Nat.and_one_is_mod]
  rw [Bool.eq_iff_iff]; simp; omega
theorem with_bits (s v : Nat) (hs : s < 65536) (hv : v < 16) : bits BinOp.or IntKind.u16 (s:Int) (2 ^ v % 65536) = (sWith s v : Int) := by
  rw [pow_mod16 hv, u16_or_nat s (2^v) hs (pow_lt16 hv)]; rfl
theorem without_bits (s v : Nat) (hs : s < 65536) (hv : v < 16) : bits BinOp.andNot IntKind.u16 (s:Int) (2 ^ v % 65536) = (sWithout s v : Int) := by
  rw [pow_mod16 hv, u16_andNot_nat s (2^v) hs (pow_lt16 hv)]; rfl
theorem or_bits (s t : Nat) (hs : s < 65536) (ht : t < 65536) : bits BinOp.or IntKind.u16 (s:Int) (t : Int) = ((s ||| t : Nat) : Int) := u16_or_nat s t hs ht
theorem andNot_bits (s t : Nat) (hs : s < 65536) (ht : t < 65536) : bits BinOp.andNot IntKind.u16 (s:Int) (t : Int) = (sAndNot s t : Int) := u16_andNot_nat s t hs ht
theorem has_any (s v : Nat) (w : World) (hs : s < 65536) (hv : v < 16) :
    Calls Try.prog 66 #[.int .u16 s, .int .i64 v] w fun e w' => e = .returned (.bool (sHas s v)) ∧ w = w' := by
  have H := Lib.hid (has_bits s v hs)
  go_enter Try.func66, Try.ntmps66
  go_wp2
  go_ret
  exact ⟨ret_bool H.out, rfl⟩
theorem with_any (s v : Nat) (w : World) (hs : s < 65536) (hv : v < 16) :
    Calls Try.prog 71 #[.int .u16 s, .int .i64 v] w fun e w' => e = .returned (.int .u16 (sWith s v)) ∧ w = w' := by
  have H := Lib.hid (with_bits s v hs hv)
  go_enter Try.func71, Try.ntmps71
  go_wp2
  go_ret
  exact ⟨ret_int H.out, rfl⟩
theorem without_any (s v : Nat) (w : World) (hs : s < 65536) (hv : v < 16) :
    Calls Try.prog 67 #[.int .u16 s, .int .i64 v] w fun e w' => e = .returned (.int .u16 (sWithout s v)) ∧ w = w' := by
  have H := Lib.hid (without_bits s v hs hv)
  go_enter Try.func67, Try.ntmps67
  go_wp2
  go_ret
  exact ⟨ret_int H.out, rfl⟩
theorem first_any (n : Nat) (w : World) (hn : n < 16) :
    Calls Try.prog 50 #[.int .i64 n] w fun e w' => e = .returned (.int .u16 (sAll n)) ∧ w = w' := by
  have h0 : ((2:Int)^n % 65536 - 1) % 65536 = (sAll n : Int) := by
    rw [pow_mod16 (by omega)]
    have := pow_lt16 (v := n) (by omega); unfold sAll; have := Nat.one_le_two_pow (n := n)
    generalize 2^n = x at *; omega
  have H := Lib.hid h0; clear h0
  go_enter Try.func50, Try.ntmps50
  go_wp2
  go_ret
  exact ⟨ret_int H.out, rfl⟩
def pc (n s : Nat) : Nat := ((List.range n).filter fun v => s.testBit v).length
def tabOK (T : ByteArray) : Bool := T.size == 256 && (List.range 256).all fun i => (T[i]!).toNat == pc 8 i
theorem tab_size {T : ByteArray} (h : tabOK T = true) : T.size = 256 := by
  unfold tabOK at h; simp at h; exact h.1
theorem tab_at {T : ByteArray} (h : tabOK T = true) (i : Nat) (hi : i < T.size) : (T[i]).toNat = pc 8 i := by
  have hs := tab_size h
  unfold tabOK at h
  simp only [Bool.and_eq_true, List.all_eq_true, List.mem_range, beq_iff_eq] at h
  have := h.2 i (by omega)
  rwa [getElem!_pos T i hi] at this
theorem quiet_table {P : Program} {o : Oper} {a : Act} {C : World → Prop} {K : Act → Prop} (t : TypeId) (T : ByteArray) (x : Operand) (kd : IntKind) (i : Nat)
    (ho : o.op = .index t (.const (.string T)) x) (hu : P.underlying t = some .string) (hT : tabOK T = true) (hx : a.eval x = .int kd i) (hi : i < 256)
    (hk : K (a.put o.dst (.int .u8 (pc 8 i)))) : o.quiet P a C K := by
  refine ⟨_, fun w _ => ?_, hk⟩
  unfold Oper.quietAt execOp
  have hs := tab_size hT
  have h1 : 0 ≤ (i:Int) ∧ (i:Int) < T.size := by omega
  have h2 := tab_at hT i (by omega)
  simp only [ho, hx]
  have h3 : ((i:Int) < 256) := by omega
  simp [go_sem, run_index_string (P := P) w t T kd i hu, hs, h2, h3]
theorem pc_le (n s : Nat) : pc n s ≤ n := by
  unfold pc; have := List.length_filter_le (fun v => s.testBit v) (List.range n); simpa using this
theorem pc_hi (s : Nat) : pc 16 s = pc 8 (s / 256 % 256) + pc 8 (s % 256) := by
  have h1 : ∀ v, v < 8 → (s % 256).testBit v = s.testBit v := fun v hv => by
    rw [show (256:Nat) = 2^8 from rfl, Nat.testBit_mod_two_pow]; simp [hv]
  have h2 : ∀ v, v < 8 → (s / 256 % 256).testBit v = s.testBit (8 + v) := fun v hv => by
    rw [show s / 256 % 256 = (s / 2^8) % 2^8 from rfl, Nat.testBit_mod_two_pow, Nat.testBit_div_two_pow]; simp [hv, Nat.add_comm]
  have e : List.range 16 = List.range 8 ++ (List.range 8).map (8 + ·) := by decide
  unfold pc
  rw [e, List.filter_append, List.length_append, List.filter_map, List.length_map, Nat.add_comm]
  congr 1
  · congr 1; apply List.filter_congr; intro v hv; simp only [List.mem_range] at hv; simp [Function.comp, h2 v hv]
  · congr 1; apply List.filter_congr; intro v hv; simp only [List.mem_range] at hv; simp [h1 v hv]
theorem mask255 (k : Nat) (hk : k < 65536) : bits BinOp.and IntKind.u16 (k:Int) 255 = ((k % 256 : Nat) : Int) := by
  rw [show (255:Int) = ((255:Nat):Int) from rfl, u16_and_nat _ _ hk (by omega)]
  congr 1
  exact Nat.and_two_pow_sub_one_eq_mod k 8
theorem ones_any (s : Nat) (w : World) (hs : s < 65536) :
    Calls Try.prog 78 #[.int .u16 s] w fun e w' => e = .returned (.int .i64 (pc 16 s)) ∧ ∃ n, w' = w.drewN n := by
  have H := Lib.hid (pc_hi s)
  have m4 := Lib.hid (mask255 s (by omega))
  have b4 : s % 256 < 256 := by omega
  have q1 : s / 256 < 256 := by omega
  have e1 : s / 256 % 256 = s / 256 := by omega
  have E1 := Lib.hid e1
  have p3 := pc_le 8 (s / 256)
  have p4 := pc_le 8 (s % 256)
  clear e1
  go_enter Try.func78, Try.ntmps78
  go_wp2
  refine wp_region_quiet_lit (by kernel_rfl) (by kernel_rfl) ?_
  iterate 2 go_big_quiet_step (fail)
  go_big_quiet_want
  refine quiet_table _ _ _ .u16 (s / 256) rfl (by kernel_rfl) (by kernel_rfl) rfl q1 ?_
  simp only [Act.put, List.setIfInBounds_toArray, List.set_cons_succ, List.set_cons_zero]
  go_big_quiet_on
  iterate 2 go_big_quiet_step (fail)
  go_big_quiet_want
  refine quiet_table _ _ _ .u16 (s % 256) rfl (by kernel_rfl) (by kernel_rfl) (congrArg (Value.int .u16) m4.out) b4 ?_
  simp only [Act.put, List.setIfInBounds_toArray, List.set_cons_succ, List.set_cons_zero]
  go_big_quiet_on
  repeat go_big_quiet_step (fail)
  refine wpQuiet_nil ?_
  intro _ hw'
  obtain ⟨nq, hw''⟩ := hw'
  subst hw''
  go_wp2
  go_ret
  refine ⟨ret_int ?_, nq, rfl⟩
  rw [H.out, E1.out]
  omega
theorem size_any (s : Nat) (w : World) (hs : s < 65536) :
    Calls Try.prog 65 #[.int .u16 s] w fun e w' => e = .returned (.int .i64 (pc 16 s)) ∧ ∃ n, w' = w.drewN n := by
  go_enter Try.func65, Try.ntmps65
  go_wp2_with (go_at_call 78; refine (ones_any _ _ hs).mono ?_; rintro e w' ⟨rfl, n, rfl⟩)
  go_ret
  exact ⟨rfl, n, rfl⟩
end Go.Proofs.Ytnnaaoobdofooaa
