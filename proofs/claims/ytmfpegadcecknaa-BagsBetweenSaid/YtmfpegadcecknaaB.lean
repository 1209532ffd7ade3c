/- Fractions, remainders, and functions that only read one list. -/
import Derived.Test.YtmfpegadcecknaaA
namespace Go.Proofs.Ytmfpegadcecknaa
open Go.RowKit
set_option maxHeartbeats 400000
def fN (a b : Nat) : Nat := a / Nat.gcd a b
def fD (a b : Nat) : Nat := b / Nat.gcd a b
/-- A fraction's value. -/
abbrev frac (p q : Nat) : Value := .agg #[.int .i64 p, .int .i64 q]
theorem div_rng (a c : Nat) {m : Nat} (h : a ≤ m) : 0 ≤ (a:Int) / (c:Int) ∧ (a:Int) / (c:Int) ≤ m := by
  have h1 : ((a / c : Nat) : Int) = (a:Int) / (c:Int) := rfl
  have h2 := Nat.div_le_self a c
  rw [← h1]; generalize a / c = q at *; omega
theorem below_drewN {w : World} {B : Nat} (n : Nat) : Below B w (w.drewN n) := ⟨rfl, rfl, rfl, Nat.le_refl _, fun _ _ => rfl⟩
theorem quiet_same {P : Program} {f : FuncId} {args : Array Value} {w : World} {n : Nat} {v : Value}
    (h : Calls P f args (w.drewN n) fun e w' => e = .returned v ∧ w.drewN n = w') : Calls P f args (w.drewN n) fun e w'' => e = .returned v ∧ ∃ m, w'' = w.drewN m :=
  h.mono fun _ _ ⟨he, hm⟩ => ⟨he, n, hm.symm⟩
theorem quiet_same2 {P : Program} {f : FuncId} {args : Array Value} {w : World} {a n : Nat} {v : Value}
    (h : Calls P f args (w.drewN (a + n)) fun e w' => e = .returned v ∧ w.drewN (a + n) = w') : Calls P f args (w.drewN (a + n)) fun e w'' => e = .returned v ∧ ∃ m, w'' = w.drewN (a + m) :=
  h.mono fun _ _ ⟨he, hm⟩ => ⟨he, n, hm.symm⟩
theorem quiet_of2 {P : Program} {f : FuncId} {args : Array Value} {w : World} {a n : Nat} {v : Value}
    (h : Calls P f args (w.drewN (a + n)) fun e w' => e = .returned v ∧ ∃ m, w' = (w.drewN (a + n)).drewN m) : Calls P f args (w.drewN (a + n)) fun e w'' => e = .returned v ∧ ∃ m, w'' = w.drewN (a + m) :=
  h.mono fun _ _ ⟨he, m, hm⟩ => ⟨he, n + m, by rw [hm, World.drewN_drewN, Nat.add_assoc]⟩
theorem below_row {B : Nat} {a w : World} (h : Below B a w) {g : Nat} (hg : B ≤ g) (cs : Array Value) : Below B a (w.setRow g cs) :=
  h.trans ⟨rfl, rfl, rfl, by simp [World.setRow], fun k hk => by
    unfold World.setRow
    simp only [Array.getElem?_modify]
    rw [if_neg (by omega)]⟩
theorem reduced_any (a b : Nat) (w : World) (ha : a ≤ 1000000000) (hb : b ≤ 1000000000) (hb0 : 0 < b) :
    Calls Try.prog 62 #[.int .i64 a, .int .i64 b] w fun e w' => e = .returned (frac (fN a b) (fD a b)) ∧ Below w.heap.size w w' := by
  go_enter Try.func62, Try.ntmps62
  go_wp2
  go_loopw [5, 6] (fun x y wr => ∃ c d n : Nat, x = .int .i64 c ∧ y = .int .i64 d ∧ c ≤ 1000000000 ∧ d ≤ 1000000000 ∧ Nat.gcd c d = Nat.gcd a b ∧ wr = (w.alloc (.cells #[.int .i64 0, .int .i64 0] 26)).drewN n) (fun _ y _ => (intOf y).toNat)
  case atStart => exact ⟨a, b, 0, rfl, rfl, ha, hb, rfl, rfl⟩
  case round =>
    obtain ⟨c, d, n, rfl, rfl, hc, hd, hg, rfl⟩ := hrel
    have G := Lib.hid hg; clear hg
    by_cases h0 : 0 < d
    · have hm : c % d < d := Nat.mod_lt _ h0
      have hz : ((d:Int) != 0) = true := by simp; omega
      go_wp2
      go_quiet (fail)
      go_wp2
      go_roundw
      case rel => exact ⟨d, c % d, n + nq, rfl, by simp, by omega, by omega, by rw [← G.out, Nat.gcd_comm c d, Nat.gcd_rec d c, Nat.gcd_comm], by simp [World.drewN_drewN]⟩
      case measure => simp [intOf]; omega
    · obtain rfl : d = 0 := by omega
      have hcg : c = Nat.gcd a b := by rw [← G.out]; simp
      have hcp : 0 < c := by rw [hcg]; exact Nat.gcd_pos_of_pos_right _ hb0
      have HG := Lib.hid hcg; clear hcg
      obtain ⟨q1, q2⟩ := div_rng a c ha
      obtain ⟨q3, q4⟩ := div_rng b c hb
      go_wp2
      refine wp_region_quiet_tail 7 (by kernel_rfl) (by kernel_rfl) ?_
      simp only [List.take_succ_cons, List.take_zero, List.drop_succ_cons, List.drop_zero]
      repeat go_big_quiet_step ((fail))
      refine wpQuiet_nil ?_
      rintro _ ⟨nq, rfl⟩
      go_wp2
      refine bodyPost_ret (v := .agg #[.int .i64 (a / c : Nat), .int .i64 (b / c : Nat)]) (by simp [results, Try.results62, go_sem]) rfl ⟨by rw [HG.out]; rfl, ?_⟩
      (repeat (first | exact Below.refl _ _ | assumption | (refine Below.setCell ?_ (by first | exact Nat.le_refl _ | omega | (simp; done) | (simp; omega)) _) | (refine Below.trans ?_ (below_drewN _)) | (refine Below.drew ?_) | (refine Below.alloc ?_ (by first | exact Nat.le_refl _ | omega | (simp; done) | (simp; omega)) _) | (refine below_row ?_ (by first | exact Nat.le_refl _ | omega | (simp; done) | (simp; omega)) _)))
theorem gcd_any (a b : Nat) (w : World) (ha : a ≤ 1000000000) (hb : b ≤ 1000000000) :
    Calls Try.prog 63 #[.int .i64 a, .int .i64 b] w fun e w' => e = .returned (.int .i64 (Nat.gcd a b)) ∧ w = w' := by
  go_enter Try.func63, Try.ntmps63
  go_wp2
  go_loop [0, 1, 5] (fun x y _ => ∃ c d : Nat, x = .int .i64 c ∧ y = .int .i64 d ∧ c ≤ 1000000000 ∧ d ≤ 1000000000 ∧ Nat.gcd c d = Nat.gcd a b) (fun _ y _ => (intOf y).toNat)
  case atStart => exact ⟨a, b, rfl, rfl, ha, hb, rfl⟩
  case round =>
    obtain ⟨c, d, rfl, rfl, hc, hd, hg⟩ := hrel
    have G := Lib.hid hg; clear hg
    by_cases h0 : 0 < d
    · have hm : c % d < d := Nat.mod_lt _ h0
      go_wp2
      go_round
      case rel => exact ⟨d, c % d, rfl, by simp, by omega, by omega, by rw [← G.out, Nat.gcd_comm c d, Nat.gcd_rec d c, Nat.gcd_comm]⟩
      case measure => simp [intOf]; omega
    · go_wp2
      go_ret
      exact ⟨ret_int (by rw [← G.out, show d = 0 by omega]; simp), rfl⟩
theorem Reduced_any (a b : Nat) (w : World) (ha : a ≤ 1000000000) (hb : b ≤ 1000000000) (hb0 : 0 < b) :
    Calls Try.prog 48 #[.int .i64 a, .int .i64 b] w fun e w' => e = .returned (frac (fN a b) (fD a b)) ∧ Below w.heap.size w w' := by
  have hcp : 0 < Nat.gcd a b := Nat.gcd_pos_of_pos_right _ hb0
  have hcl : Nat.gcd a b ≤ 1000000000 := Nat.le_trans (Nat.gcd_le_right _ hb0) hb
  obtain ⟨q1, q2⟩ := div_rng a (Nat.gcd a b) ha
  obtain ⟨q3, q4⟩ := div_rng b (Nat.gcd a b) hb
  go_enter Try.func48, Try.ntmps48
  go_wp2_with (go_at_call 63; refine (gcd_any a b _ ha hb).mono ?_; rintro e w' ⟨rfl, rfl⟩)
  refine wp_region_quiet_tail 7 (by kernel_rfl) (by kernel_rfl) ?_
  simp only [List.take_succ_cons, List.take_zero, List.drop_succ_cons, List.drop_zero]
  repeat go_big_quiet_step ((fail))
  refine wpQuiet_nil ?_
  rintro _ ⟨nq, rfl⟩
  go_wp2
  refine bodyPost_ret (v := .agg #[.int .i64 (a / Nat.gcd a b : Nat), .int .i64 (b / Nat.gcd a b : Nat)]) (by simp [results, Try.results48, go_sem]) rfl ⟨rfl, ?_⟩
  (repeat (first | exact Below.refl _ _ | assumption | (refine Below.setCell ?_ (by first | exact Nat.le_refl _ | omega | (simp; done) | (simp; omega)) _) | (refine Below.trans ?_ (below_drewN _)) | (refine Below.drew ?_) | (refine Below.alloc ?_ (by first | exact Nat.le_refl _ | omega | (simp; done) | (simp; omega)) _) | (refine below_row ?_ (by first | exact Nat.le_refl _ | omega | (simp; done) | (simp; omega)) _)))
def modI (x : Int) (n : Nat) : Nat := (x % 18446744073709551616).toNat % n
theorem mod_wrap (x : Int) (n : Nat) (hn : 0 < n) (hn2 : n ≤ 1000000) : wrap64 ((IntKind.u64.wrap x).tmod ↑n) = (modI x n : Int) := by
  have e : IntKind.u64.wrap x = x % 18446744073709551616 := by simp [IntKind.wrap, IntKind.bits, IntKind.signed]
  rw [e]
  unfold modI
  have h0 : 0 ≤ x % 18446744073709551616 := by omega
  generalize x % 18446744073709551616 = r at *
  obtain ⟨m, rfl⟩ := Int.eq_ofNat_of_zero_le h0
  have e2 : Int.tmod (m:Int) (n:Int) = ((m % n : Nat) : Int) := rfl
  have h3 : m % n < n := Nat.mod_lt _ hn
  rw [e2, Int.toNat_natCast, IntWalk.wrap64_in _ ⟨by omega, by omega⟩]
theorem mod_any (x : Int) (n : Nat) (w : World) (hn : 0 < n) (hn2 : n ≤ 1000000) :
    Calls Try.prog 36 #[.int .i64 x, .int .i64 n] w fun e w' => e = .returned (.int .i64 (modI x n)) ∧ w = w' := by
  have H := Lib.hid (mod_wrap x n hn hn2)
  go_enter Try.func36, Try.ntmps36
  go_wp2
  go_ret
  exact ⟨ret_int H.out, rfl⟩
def gcells (n : Nat) (gs : List Nat) : List Value := .int .i64 n :: gs.map (fun g : Nat => Value.int .u32 g)
theorem gcells_0 (n : Nat) (gs : List Nat) : (gcells n gs)[0]? = some (.int .i64 n) := rfl
theorem gcells_s (n : Nat) (gs : List Nat) (i : Nat) (h : i < gs.length) : (gcells n gs)[1 + i]? = some (.int .u32 (gs[i]?.getD 0)) := by
  unfold gcells; rw [Nat.add_comm]; simp [h]
theorem gcells_len (n : Nat) (gs : List Nat) : (gcells n gs).length = gs.length + 1 := by simp [gcells]
theorem all_any (n : Nat) (gs : List Nat) (w : World) (hn : n ≤ 16) (hg : gs.length = 16) :
    Calls Try.prog 58 #[.agg (gcells n gs).toArray] w fun e w' => e = .returned (.int .u32 (sAll n)) ∧ Below w.heap.size w w' := by
  have h0 := gcells_0 n gs
  have hl : (gcells n gs).length = 17 := by rw [gcells_len, hg]
  go_enter Try.func58, Try.ntmps58
  go_wp2_with (go_at_call 68; refine (first_any _ _ hn).mono ?_; rintro e w' ⟨rfl, rfl⟩)
  go_ret
  refine ⟨rfl, ?_⟩
  (repeat (first | exact Below.refl _ _ | assumption | (refine Below.setCell ?_ (by first | exact Nat.le_refl _ | omega | (simp; done) | (simp; omega)) _) | (refine Below.trans ?_ (below_drewN _)) | (refine Below.drew ?_) | (refine Below.alloc ?_ (by first | exact Nat.le_refl _ | omega | (simp; done) | (simp; omega)) _) | (refine below_row ?_ (by first | exact Nat.le_refl _ | omega | (simp; done) | (simp; omega)) _)))
theorem has_list (A : Option Addr) (c : Nat) (xs : List Int) (v : Int) (w : World) (hx : xs.length ≤ 1000000) (ha : IntsAt w A xs) :
    Calls Try.prog 52 #[.slice A xs.length c, .int .i64 v] w fun e w' => e = .returned (.bool (decide (v ∈ xs))) ∧ w = w' := by
  go_enter Try.func52, Try.ntmps52
  go_wp2
  go_loop [5] (fun i => ∃ k : Nat, k ≤ xs.length ∧ i = .int .i64 k ∧ ∀ j, j < k → geti xs j ≠ v) (fun i => xs.length - (intOf i).toNat)
  case atStart => exact ⟨0, by omega, rfl, by intro j hj; omega⟩
  case round =>
    obtain ⟨k, hk, rfl, hj⟩ := hrel
    by_cases hlt : k < xs.length
    · obtain ⟨b, o, rfl, hb1, hc⟩ := ha (by omega)
      have h1 := hc k hlt
      clear hc
      have HJ := Lib.hid hj; clear hj
      cases g1 : (geti xs k == v)
      · go_wp2
        go_round
        case rel =>
          refine ⟨k + 1, by omega, by go_num, fun j hj2 => ?_⟩
          by_cases h : j = k
          · subst h; simpa using g1
          · exact HJ.out j (by omega)
        case measure => simp [intOf]; omega
      · go_wp2
        go_ret
        refine ⟨ret_bool ?_, rfl⟩
        symm; apply decide_eq_true
        have : geti xs k = v := by simpa using g1
        rw [← this, geti_eq hlt]; exact List.getElem_mem hlt
    · have HJ := Lib.hid hj; clear hj
      go_wp2
      go_ret
      refine ⟨ret_bool ?_, rfl⟩
      symm; apply decide_eq_false; intro hm
      obtain ⟨i, hi, he⟩ := List.getElem_of_mem hm
      exact HJ.out i (by omega) (by rw [geti_eq hi]; exact he)
def maxTo (xs : List Int) : Nat → Int
  | 0 => geti xs 0
  | k + 1 => if maxTo xs k < geti xs k then geti xs k else maxTo xs k
theorem maxTo_one (xs : List Int) : maxTo xs 1 = geti xs 0 := by simp [maxTo]
theorem max_any (A : Option Addr) (c : Nat) (xs : List Int) (w : World) (hx0 : 0 < xs.length) (hx : xs.length ≤ 1000000) (ha : IntsAt w A xs) :
    Calls Try.prog 53 #[.slice A xs.length c] w fun e w' => e = .returned (.int .i64 (maxTo xs xs.length)) ∧ w = w' := by
  obtain ⟨b, o, rfl, hb1, hc⟩ := ha hx0
  have h0 : w.cell? ⟨b, o, none⟩ = some (.int .i64 (geti xs 0)) := by simpa using hc 0 hx0
  have h1 : ¬ ((xs.length : Int) < 1) := by omega
  go_enter Try.func53, Try.ntmps53
  go_wp2
  go_loop [3, 4] (fun m i => ∃ k : Nat, 1 ≤ k ∧ k ≤ xs.length ∧ i = .int .i64 k ∧ m = .int .i64 (maxTo xs k)) (fun _ i => xs.length - (intOf i).toNat)
  case atStart => exact ⟨1, by omega, by omega, rfl, by rw [maxTo_one]⟩
  case round =>
    obtain ⟨k, hk0, hk, rfl, rfl⟩ := hrel
    by_cases hlt : k < xs.length
    · have h2 := hc k hlt
      clear hc h0
      go_wp2
      go_round
      case rel => exact ⟨k + 1, by omega, by omega, by go_num, rfl⟩
      case measure => simp [intOf]; omega
    · clear hc h0
      obtain rfl : k = xs.length := by omega
      go_wp2
      go_ret
      exact ⟨rfl, rfl⟩
end Go.Proofs.Ytmfpegadcecknaa
