/- Helpers of the statements. -/
import Derived.Test.YtokjdadgdfmffaaLB
namespace Go.Proofs.Ytokjdadgdfmffaa
open Go.RowKit
set_option maxHeartbeats 1000000
set_option maxRecDepth 100000
theorem at_any (A : Option Addr) (c : Nat) (xs : List Int) (i : Nat) (w : World) (hl : xs.length ≤ 9223372036854775807) (hi : i ≤ 1000000) (ha : IntsAt w A xs) :
    Calls Try.prog 45 #[.slice A xs.length c, .int .i64 i] w fun e w' => e = .returned (.int .i64 (geti xs i)) ∧ w = w' := by
  by_cases h : i < xs.length
  · obtain ⟨b, o, rfl, hb, hc⟩ := ha (by omega)
    have c0 := hc i h
    clear hc ha
    go_enter Try.func45, Try.ntmps45
    go_wp2
    go_ret
    exact ⟨rfl, rfl⟩
  · have e : geti xs i = 0 := by unfold geti; rw [List.getD_eq_getElem?_getD, List.getElem?_eq_none (by omega)]; rfl
    have HE := Lib.hid e
    clear e ha
    go_enter Try.func45, Try.ntmps45
    go_wp2
    go_ret
    exact ⟨by rw [HE.out]; rfl, rfl⟩
theorem mod_wrap2 (x : Int) (n : Nat) (hn : 0 < n) (hn2 : n ≤ 1099511627776) : wrap64 ((IntKind.u64.wrap x).tmod ↑n) = (modI x n : Int) := by
  have e : IntKind.u64.wrap x = x % 18446744073709551616 := by simp [IntKind.wrap, IntKind.bits, IntKind.signed]
  rw [e]
  unfold modI
  have h0 : 0 ≤ x % 18446744073709551616 := by omega
  generalize x % 18446744073709551616 = r at *
  obtain ⟨m, rfl⟩ := Int.eq_ofNat_of_zero_le h0
  have e2 : Int.tmod (m:Int) (n:Int) = ((m % n : Nat) : Int) := rfl
  have h3 : m % n < n := Nat.mod_lt _ hn
  rw [e2, Int.toNat_natCast, IntWalk.wrap64_in _ ⟨by omega, by omega⟩]
theorem mod_any2 (x : Int) (n : Nat) (w : World) (hn : 0 < n) (hn2 : n ≤ 1099511627776) :
    Calls Try.prog 44 #[.int .i64 x, .int .i64 n] w fun e w' => e = .returned (.int .i64 (modI x n)) ∧ w = w' := by
  have H := Lib.hid (mod_wrap2 x n hn hn2)
  go_enter Try.func44, Try.ntmps44
  go_wp2
  go_ret
  exact ⟨ret_int H.out, rfl⟩
/-- A number that is not too large. -/
def numV (x : Int) : Int := if 1099511627776 < x ∨ x < -1099511627776 then (modI x 1099511627776 : Int) else x
theorem numV_rng (x : Int) : -1099511627776 ≤ numV x ∧ numV x ≤ 1099511627776 := by
  unfold numV
  split
  · have := modI_lt x (n := 1099511627776) (by omega)
    omega
  · omega
def numP (xs : List Int) (k : Nat) : List Int := (List.range k).map fun i => numV (geti xs i)
theorem numP_len (xs : List Int) (k : Nat) : (numP xs k).length = k := by simp [numP]
theorem numP_succ (xs : List Int) (k : Nat) : numP xs (k + 1) = numP xs k ++ [numV (geti xs k)] := by
  unfold numP
  rw [List.range_succ, List.map_append]; rfl
theorem geti_mem {xs : List Int} {i : Nat} (h : i < xs.length) : geti xs i ∈ xs := by rw [geti_eq h]; exact List.getElem_mem h
theorem numP_rng (xs : List Int) (k : Nat) : ∀ y ∈ numP xs k, -1099511627776 ≤ y ∧ y ≤ 1099511627776 := fun y hy => by
  unfold numP at hy
  obtain ⟨i, _, rfl⟩ := List.mem_map.1 hy
  exact numV_rng _
/-- Two lists of the call's own lie apart. -/
def Apart (v u : Value) : Prop := ∀ g, v.ownBlock = some g → u.ownBlock = some g → False
theorem Apart.symm {v u : Value} (h : Apart v u) : Apart u v := fun g h1 h2 => h g h2 h1
/-- The other list is kept, and both still lie apart. -/
theorem apart_keep {W w5 : World} {B : Nat} {o : Obj} {n k : Nat} {v u v' : Value} {xs ys : List Value} (_hv : W.ownsRow B 3 1 v n xs) (hu : W.ownsRow B 3 1 u k ys) (hd : Apart v u) (hgr : (W.alloc o).grownBy w5 v.ownBlock)
    (h5 : v'.ownBlock = v.ownBlock ∨ v'.ownBlock = some (W.alloc o).heap.size) : w5.ownsRow B 3 1 u k ys ∧ Apart v' u := by
  constructor
  · refine (hu.alloc o).kept hgr ?_
    cases hub : u.ownBlock with
    | none => simp
    | some g =>
      exact .inr (fun e => hd g e.symm hub)
  · intro g h1 h2
    rcases h5 with h | h
    · exact hd g (by rw [← h]; exact h1) h2
    · have h3 := own_ge hu h2
      rw [h] at h1
      injection h1 with h1
      simp at h1
      omega
end Go.Proofs.Ytokjdadgdfmffaa
