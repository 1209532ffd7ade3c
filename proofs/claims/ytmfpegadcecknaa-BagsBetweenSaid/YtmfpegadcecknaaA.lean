/- The leaf functions of package bags: sets of vertices as bits, fractions, greatest common divisors. Conditions: sets below 2^32, vertices below 32. -/
import Derived.Test.YtmfpegadcecknaaRows
import Derived.WalkKit
import Derived.WalkSpells
import Derived.WalkLawsBesides
import Derived.Lib.Hide
import Derived.Deep.QuietTactic
import Derived.BigQuiet
import Derived.KernelRfl
import Derived.Test.YtmfpegadcecknaaQ
namespace Go.Proofs.Ytmfpegadcecknaa
open Go.RowKit
theorem ret_int {k : IntKind} {a b : Int} (h : a = b) : Ending.returned (.int k a) = .returned (.int k b) := by rw [h]
theorem ret_bool {a b : Bool} (h : a = b) : Ending.returned (.bool a) = .returned (.bool b) := by rw [h]
def sHas (s v : Nat) : Bool := s.testBit v
def sWith (s v : Nat) : Nat := s ||| 2^v
def sWithout (s v : Nat) : Nat := s &&& (4294967295 - 2^v)
def sAnd (s t : Nat) : Nat := s &&& t
def sAndNot (s t : Nat) : Nat := s &&& (4294967295 - t)
def sAll (n : Nat) : Nat := 2^n - 1
theorem pow_lt32 {v : Nat} (h : v < 32) : 2^v < 4294967296 := by
  have : 2^v ≤ 2^31 := Nat.pow_le_pow_right (by omega) (by omega)
  omega
theorem pow_cast (v : Nat) : ((2:Int)^v) = ((2^v : Nat) : Int) := by simp
theorem pow_mod32 {v : Nat} (h : v < 32) : ((2:Int)^v % 4294967296) = ((2^v : Nat) : Int) := by
  have h1 := pow_lt32 h
  rw [pow_cast]; generalize 2^v = x at *; omega
theorem has_bits (s v : Nat) (hs : s < 4294967296) : (bits BinOp.and IntKind.u32 ((s:Int) / 2 ^ v) 1 == 1) = sHas s v := by
  have h1 : ((s:Int) / 2^v) = ((s / 2^v : Nat) : Int) := by rw [pow_cast]; rfl
  rw [h1, show (1:Int) = ((1:Nat):Int) from rfl, u32_and_nat _ _ (Nat.lt_of_le_of_lt (Nat.div_le_self _ _) hs) (by omega)]
  unfold sHas
  rw [Nat.testBit_eq_decide_div_mod_eq, Nat.and_one_is_mod]
  rw [Bool.eq_iff_iff]; simp; omega
theorem with_bits (s v : Nat) (hs : s < 4294967296) (hv : v < 32) : bits BinOp.or IntKind.u32 (s:Int) (2 ^ v % 4294967296) = (sWith s v : Int) := by
  rw [pow_mod32 hv, u32_or_nat s (2^v) hs (pow_lt32 hv)]; rfl
theorem without_bits (s v : Nat) (hs : s < 4294967296) (hv : v < 32) : bits BinOp.andNot IntKind.u32 (s:Int) (2 ^ v % 4294967296) = (sWithout s v : Int) := by
  rw [pow_mod32 hv, u32_andNot_nat s (2^v) hs (pow_lt32 hv)]; rfl
theorem and_bits (s t : Nat) (hs : s < 4294967296) (ht : t < 4294967296) : bits BinOp.and IntKind.u32 (s:Int) (t : Int) = (sAnd s t : Int) := u32_and_nat s t hs ht
theorem andNot_bits (s t : Nat) (hs : s < 4294967296) (ht : t < 4294967296) : bits BinOp.andNot IntKind.u32 (s:Int) (t : Int) = (sAndNot s t : Int) := u32_andNot_nat s t hs ht

set_option maxHeartbeats 400000
theorem has_any (s v : Nat) (w : World) (hs : s < 4294967296) (hv : v < 32) :
    Calls Try.prog 56 #[.int .u32 s, .int .i64 v] w fun e w' => e = .returned (.bool (sHas s v)) ∧ w = w' := by
  have H := Lib.hid (has_bits s v hs)
  go_enter Try.func56, Try.ntmps56
  go_wp2
  go_ret
  exact ⟨ret_bool H.out, rfl⟩
theorem with_any (s v : Nat) (w : World) (hs : s < 4294967296) (hv : v < 32) :
    Calls Try.prog 57 #[.int .u32 s, .int .i64 v] w fun e w' => e = .returned (.int .u32 (sWith s v)) ∧ w = w' := by
  have H := Lib.hid (with_bits s v hs hv)
  go_enter Try.func57, Try.ntmps57
  go_wp2
  go_ret
  exact ⟨ret_int H.out, rfl⟩
theorem without_any (s v : Nat) (w : World) (hs : s < 4294967296) (hv : v < 32) :
    Calls Try.prog 67 #[.int .u32 s, .int .i64 v] w fun e w' => e = .returned (.int .u32 (sWithout s v)) ∧ w = w' := by
  have H := Lib.hid (without_bits s v hs hv)
  go_enter Try.func67, Try.ntmps67
  go_wp2
  go_ret
  exact ⟨ret_int H.out, rfl⟩
theorem first_any (n : Nat) (w : World) (hn : n ≤ 16) :
    Calls Try.prog 68 #[.int .i64 n] w fun e w' => e = .returned (.int .u32 (sAll n)) ∧ w = w' := by
  have h0 : ((2:Int)^n % 4294967296 - 1) % 4294967296 = (sAll n : Int) := by
    rw [pow_mod32 (by omega)]
    have := pow_lt32 (v := n) (by omega); unfold sAll; have := Nat.one_le_two_pow (n := n)
    generalize 2^n = x at *; omega
  have H := Lib.hid h0; clear h0
  go_enter Try.func68, Try.ntmps68
  go_wp2
  go_ret
  exact ⟨ret_int H.out, rfl⟩



set_option maxRecDepth 100000
def pc (n s : Nat) : Nat := ((List.range n).filter fun v => s.testBit v).length
def tabOK (T : ByteArray) : Bool := T.size == 256 && (List.range 256).all fun i => (T[i]!).toNat == pc 8 i
theorem tab_size {T : ByteArray} (h : tabOK T = true) : T.size = 256 := by
  unfold tabOK at h; simp at h; exact h.1
theorem tab_at {T : ByteArray} (h : tabOK T = true) (i : Nat) (hi : i < T.size) : (T[i]).toNat = pc 8 i := by
  have hs := tab_size h
  unfold tabOK at h
  simp only [Bool.and_eq_true, List.all_eq_true, List.mem_range, beq_iff_eq] at h
  have := h.2 i (by omega)
  rwa [getElem!_pos T i hi] at this
theorem quiet_table {P : Program} {o : Oper} {a : Act} {C : World → Prop} {K : Act → Prop} (t : TypeId) (T : ByteArray) (x : Operand) (kd : IntKind) (i : Nat)
    (ho : o.op = .index t (.const (.string T)) x) (hu : P.underlying t = some .string) (hT : tabOK T = true) (hx : a.eval x = .int kd i) (hi : i < 256)
    (hk : K (a.put o.dst (.int .u8 (pc 8 i)))) : o.quiet P a C K := by
  refine ⟨_, fun w _ => ?_, hk⟩
  unfold Oper.quietAt execOp
  have hs := tab_size hT
  have h1 : 0 ≤ (i:Int) ∧ (i:Int) < T.size := by omega
  have h2 := tab_at hT i (by omega)
  simp only [ho, hx]
  have h3 : ((i:Int) < 256) := by omega
  simp [go_sem, run_index_string (P := P) w t T kd i hu, hs, h2, h3]
theorem pc_le (n s : Nat) : pc n s ≤ n := by
  unfold pc; have := List.length_filter_le (fun v => s.testBit v) (List.range n); simpa using this
theorem pc_hi (s : Nat) : pc 16 s = pc 8 (s / 256 % 256) + pc 8 (s % 256) := by
  have h1 : ∀ v, v < 8 → (s % 256).testBit v = s.testBit v := fun v hv => by
    rw [show (256:Nat) = 2^8 from rfl, Nat.testBit_mod_two_pow]; simp [hv]
  have h2 : ∀ v, v < 8 → (s / 256 % 256).testBit v = s.testBit (8 + v) := fun v hv => by
    rw [show s / 256 % 256 = (s / 2^8) % 2^8 from rfl, Nat.testBit_mod_two_pow, Nat.testBit_div_two_pow]; simp [hv, Nat.add_comm]
  have e : List.range 16 = List.range 8 ++ (List.range 8).map (8 + ·) := by decide
  unfold pc
  rw [e, List.filter_append, List.length_append, List.filter_map, List.length_map, Nat.add_comm]
  congr 1
  · congr 1; apply List.filter_congr; intro v hv; simp only [List.mem_range] at hv; simp [Function.comp, h2 v hv]
  · congr 1; apply List.filter_congr; intro v hv; simp only [List.mem_range] at hv; simp [h1 v hv]
theorem mask255 (k : Nat) (hk : k < 4294967296) : bits BinOp.and IntKind.u32 (k:Int) 255 = ((k % 256 : Nat) : Int) := by
  rw [show (255:Int) = ((255:Nat):Int) from rfl, u32_and_nat _ _ hk (by omega)]
  congr 1
  exact Nat.and_two_pow_sub_one_eq_mod k 8
theorem ones_any (s : Nat) (w : World) (hs : s < 65536) :
    Calls Try.prog 69 #[.int .u32 s] w fun e w' => e = .returned (.int .i64 (pc 16 s)) ∧ ∃ n, w' = w.drewN n := by
  have H := Lib.hid (pc_hi s)
  have m2 := Lib.hid (mask255 (s / 65536) (by omega))
  have m3 := Lib.hid (mask255 (s / 256) (by omega))
  have m4 := Lib.hid (mask255 s (by omega))
  have b3 : s / 256 % 256 < 256 := by omega
  have b4 : s % 256 < 256 := by omega
  have e1 : s / 16777216 = 0 := by omega
  have e2 : s / 65536 % 256 = 0 := by omega
  have q1 : s / 16777216 < 256 := by omega
  have q2 : s / 65536 % 256 < 256 := by omega
  have E1 := Lib.hid e1
  have E2 := Lib.hid e2
  have p1 := pc_le 8 (s / 16777216)
  have p2 := pc_le 8 (s / 65536 % 256)
  have p3 := pc_le 8 (s / 256 % 256)
  have p4 := pc_le 8 (s % 256)
  clear e1 e2
  go_enter Try.func69, Try.ntmps69
  go_wp2
  refine wp_region_quiet_lit (by kernel_rfl) (by kernel_rfl) ?_
  iterate 2 go_big_quiet_step (fail)
  go_big_quiet_want
  refine quiet_table _ _ _ .u32 (s / 16777216) rfl (by kernel_rfl) (by kernel_rfl) rfl q1 ?_
  simp only [Act.put, List.setIfInBounds_toArray, List.set_cons_succ, List.set_cons_zero]
  go_big_quiet_on
  iterate 3 go_big_quiet_step (fail)
  go_big_quiet_want
  refine quiet_table _ _ _ .u32 (s / 65536 % 256) rfl (by kernel_rfl) (by kernel_rfl) (congrArg (Value.int .u32) m2.out) q2 ?_
  simp only [Act.put, List.setIfInBounds_toArray, List.set_cons_succ, List.set_cons_zero]
  go_big_quiet_on
  iterate 4 go_big_quiet_step (fail)
  go_big_quiet_want
  refine quiet_table _ _ _ .u32 (s / 256 % 256) rfl (by kernel_rfl) (by kernel_rfl) (congrArg (Value.int .u32) m3.out) b3 ?_
  simp only [Act.put, List.setIfInBounds_toArray, List.set_cons_succ, List.set_cons_zero]
  go_big_quiet_on
  iterate 3 go_big_quiet_step (fail)
  go_big_quiet_want
  refine quiet_table _ _ _ .u32 (s % 256) rfl (by kernel_rfl) (by kernel_rfl) (congrArg (Value.int .u32) m4.out) b4 ?_
  simp only [Act.put, List.setIfInBounds_toArray, List.set_cons_succ, List.set_cons_zero]
  go_big_quiet_on
  repeat go_big_quiet_step (fail)
  refine wpQuiet_nil ?_
  intro _ hw'
  obtain ⟨nq, hw''⟩ := hw'
  subst hw''
  go_wp2
  go_ret
  refine ⟨ret_int ?_, nq, rfl⟩
  rw [H.out, E1.out, E2.out]
  have : pc 8 0 = 0 := by decide
  simp only [this]
  omega

def geti (xs : List Int) (i : Nat) : Int := xs.getD i 0
def IntsAt (w : World) (A : Option Addr) (xs : List Int) : Prop :=
  0 < xs.length → ∃ b o, A = some ⟨b, o, none⟩ ∧ b < w.heap.size ∧ ∀ i, i < xs.length → w.cell? ⟨b, o + i, none⟩ = some (.int .i64 (geti xs i))
theorem geti_eq {xs : List Int} {i : Nat} (h : i < xs.length) : geti xs i = xs[i] := by unfold geti; simp [h]
theorem ext_geti {xs ys : List Int} (h : xs.length = ys.length) (h2 : ∀ i, i < xs.length → geti xs i = geti ys i) : xs = ys := by
  apply List.ext_getElem h; intro i h1 h3; have := h2 i h1; rwa [geti_eq h1, geti_eq h3] at this

theorem size_any (s : Nat) (w : World) (hs : s < 65536) :
    Calls Try.prog 60 #[.int .u32 s] w fun e w' => e = .returned (.int .i64 (pc 16 s)) ∧ ∃ n, w' = w.drewN n := by
  go_enter Try.func60, Try.ntmps60
  go_wp2_with (go_at_call 69; refine (ones_any _ _ hs).mono ?_; rintro e w' ⟨rfl, n, rfl⟩)
  go_ret
  exact ⟨rfl, n, rfl⟩

theorem ints_any (A B : Option Addr) (c d : Nat) (xs ys : List Int) (w : World) (hx : xs.length ≤ 1000000) (hy : ys.length ≤ 1000000) (ha : IntsAt w A xs) (hb : IntsAt w B ys) :
    Calls Try.prog 21 #[.slice A xs.length c, .slice B ys.length d] w fun e w' => e = .returned (.bool (decide (xs = ys))) ∧ ∃ n, w' = w.drewN n := by
  by_cases hl : xs.length = ys.length
  · have hl2 : ((xs.length : Int) != ys.length) = false := by simp [hl]
    go_enter Try.func21, Try.ntmps21
    go_wp2
    go_loopw [5] (fun i wr => ∃ k n : Nat, k ≤ xs.length ∧ i = .int .i64 k ∧ wr = w.drewN n ∧ ∀ j, j < k → geti xs j = geti ys j) (fun i _ => xs.length - (intOf i).toNat)
    case atStart => exact ⟨0, 0, by omega, rfl, rfl, by intro j hj; omega⟩
    case round =>
      obtain ⟨k, n, hk, rfl, rfl, hj⟩ := hrel
      by_cases hlt : k < xs.length
      · obtain ⟨b, o, rfl, hb1, hc⟩ := ha (by omega)
        obtain ⟨b', o', rfl, hb1', hc'⟩ := hb (by omega)
        have h1 := hc k hlt
        have h2 := hc' k (by omega)
        have h3 : k < ys.length := by omega
        clear hc hc'
        go_wp2
        go_quiet (fail)
        go_wp2
        · go_ret
          refine ⟨ret_bool ?_, n + nq, World.drewN_drewN _ _ _⟩
          have hne : (geti xs k != geti ys k) = true := by assumption
          symm; apply decide_eq_false; rintro rfl; simp at hne
        · go_roundw
          case rel =>
            refine ⟨k + 1, n + nq, by omega, by go_num, by first | rfl | exact World.drewN_drewN _ _ _, fun j hj2 => ?_⟩
            have hne : (geti xs k != geti ys k) = false := by assumption
            by_cases h : j = k
            · subst h; simpa using hne
            · exact hj j (by omega)
          case measure => simp [intOf]; omega
      · go_wp2
        go_ret
        refine ⟨ret_bool ?_, n, rfl⟩
        symm; apply decide_eq_true; exact ext_geti hl (fun i hi => hj i (by omega))
  · have hl2 : ((xs.length : Int) != ys.length) = true := by simp; omega
    go_enter Try.func21, Try.ntmps21
    go_wp2
    go_ret
    refine ⟨ret_bool ?_, 0, rfl⟩
    symm; apply decide_eq_false; rintro rfl; exact hl rfl
end Go.Proofs.Ytmfpegadcecknaa
