/- The reference's slow machine. -/
import Derived.Test.YtignbpipdfjkeaaDoorBF
import Derived.Test.YtignbpipdfjkeaaDoorAX
namespace Go.Proofs.YtignbpipdfjkeaaDoor
open Go.RowKit
set_option maxHeartbeats 2000000
set_option maxRecDepth 100000
def rA (n q : Nat) : List Int := (List.range q).map fun i => (((i + 1) % n : Nat) : Int)
def rB (n q : Nat) : List Int := (List.range q).map fun i => ((i % max (n - 1) 1 : Nat) : Int)
theorem rA_len (n q : Nat) : (rA n q).length = q := by simp [rA]
theorem rB_len (n q : Nat) : (rB n q).length = q := by simp [rB]
theorem rA_snoc (n q : Nat) : rA n (q + 1) = rA n q ++ [(((q + 1) % n : Nat) : Int)] := by simp [rA, List.range_succ]
theorem rB_snoc (n q : Nat) : rB n (q + 1) = rB n q ++ [((q % max (n - 1) 1 : Nat) : Int)] := by simp [rB, List.range_succ]
theorem rA_eq : ∀ n, 1 ≤ n → n ≤ 9 → rA n n = slA n ∧ rB n n = slB n := by
  intro n h1 h9
  have : n = 1 ∨ n = 2 ∨ n = 3 ∨ n = 4 ∨ n = 5 ∨ n = 6 ∨ n = 7 ∨ n = 8 ∨ n = 9 := by omega
  rcases this with rfl | rfl | rfl | rfl | rfl | rfl | rfl | rfl | rfl <;> exact ⟨by decide +kernel, by decide +kernel⟩
/-- Two blocks of the call's own that are not one. -/
def AP2 (a b : Option Nat) : Prop := a = none ∨ a ≠ b
theorem AP2.symm {a b : Option Nat} (h : AP2 a b) : AP2 b a := by
  unfold AP2 at *
  cases a <;> cases b <;> simp_all
  exact fun e => h e.symm
theorem AP2.step {a a' b : Option Nat} {n : Nat} (h : AP2 a b) (k : a' = a ∨ a' = some n) (hb : ∀ g, b = some g → g < n) : AP2 a' b := by
  rcases k with rfl | rfl
  · exact h
  · refine .inr (fun e => ?_)
    have := hb n e.symm
    omega
theorem own_lt {w : World} {B n : Nat} {t : TypeId} {v : Value} {cs : List Value} {z : Nat} (h : w.ownsRow B t z v n cs) : ∀ g, v.ownBlock = some g → g < w.heap.size := fun g hg => by
  obtain ⟨_, _, _, h3⟩ := own_ge h hg
  exact (Array.getElem?_eq_some_iff.1 h3).1
theorem own_one2 (w : World) (b : Nat) (t : TypeId) (u v : Value) (hb : b ≤ w.heap.size) : (w.alloc (.cells #[u, v] t)).ownsRow b t 1 (.slice (some ⟨w.heap.size, 0, none⟩) 2 2) 2 [u, v] :=
  ⟨rfl, .inr ⟨w.heap.size, 2, _, rfl, hb, heap_alloc_new _ _, by omega, by unfold maxLen; omega, rfl, rfl⟩⟩
theorem refSlow_any (n : Nat) (w : World) (h1 : 1 ≤ n) (h9 : n ≤ 9) :
    Calls Tryd.prog 41 #[.int .i64 n] w fun e w' => ∃ g, e = .returned (.slice (some ⟨g, 0, none⟩) 2 2) ∧ RowsAt w' (some ⟨g, 0, none⟩) (slN n) ∧ Below w.heap.size w w' := by
  obtain ⟨j0, ji, jz0, jz1, jz2⟩ := info_parts info3
  have HE := Lib.hid (rA_eq n h1 h9)
  have o0 : w.ownsRow w.heap.size 3 1 (.slice none 0 0) 0 (iv (rA n 0)) := ⟨rfl, .inl ⟨rfl, rfl⟩⟩
  have p0 : w.ownsRow w.heap.size 3 1 (.slice none 0 0) 0 (iv (rB n 0)) := ⟨rfl, .inl ⟨rfl, rfl⟩⟩
  have b0 := Below.refl w.heap.size w
  have HA := Lib.hid (rA_snoc n)
  have HB := Lib.hid (rB_snoc n)
  have g0 : ((n : Int) == 0) = false := by rw [beq_eq_false_iff_ne]; omega
  go_enter Tryd.func41, Tryd.ntmps41
  go_wp2
  go_loopw [3, 4, 5] (fun v u i wr => ∃ q : Nat, i = .int .i64 q ∧ q ≤ n ∧ wr.ownsRow w.heap.size 3 1 v q (iv (rA n q)) ∧ wr.ownsRow w.heap.size 3 1 u q (iv (rB n q)) ∧ AP2 v.ownBlock u.ownBlock ∧ Below w.heap.size w wr) (fun _ _ i _ => n - (intOf i).toNat)
  case atStart => exact ⟨0, rfl, by omega, o0, p0, .inl rfl, b0⟩
  case round =>
    clear o0 p0 b0
    obtain ⟨q, rfl, hq, o0, p0, hap, b0⟩ := hrel
    by_cases hlt : q < n
    · have g1 : decide (q < n) = true := decide_eq_true hlt
      have hbs := b0.size
      have HA1 := Lib.hid (HA.out q)
      have HB1 := Lib.hid (HB.out q)
      have e1 : Int.tmod ((q : Int) + 1) (n : Int) = (((q + 1) % n : Nat) : Int) := by
        rw [show (q : Int) + 1 = ((q + 1 : Nat) : Int) by omega]; rfl
      obtain ⟨x, hx⟩ : ∃ x, (q + 1) % n = x := ⟨_, rfl⟩
      rw [hx] at HA1 e1
      have m1 : max ((n : Int) - 1) 1 = ((max (n - 1) 1 : Nat) : Int) := by omega
      have m2 : max (n - 1) 1 ≠ 0 := by omega
      obtain ⟨m, hm⟩ : ∃ m, max (n - 1) 1 = m := ⟨_, rfl⟩
      rw [hm] at m1 m2 HB1
      have e2 : Int.tmod (q : Int) (m : Int) = ((q % m : Nat) : Int) := rfl
      have g2 : ((m : Int) == 0) = false := by rw [beq_eq_false_iff_ne]; omega
      obtain ⟨y, hy⟩ : ∃ y, q % m = y := ⟨_, rfl⟩
      rw [hy] at HB1 e2
      clear hx hm hy
      have hlo := own_lt o0
      have hlp := own_lt p0
      obtain ⟨A2, c2, hA2, -, -, -⟩ := own_intsI o0
      obtain ⟨A3, c3, hA3, -, -, -⟩ := own_intsI p0
      rw [rA_len] at hA2
      rw [rB_len] at hA3
      subst hA2 hA3
      have n1 : Row (wr.alloc (.cells #[.int .i64 (x : Int)] 3)) wr.heap.size 3 [.int .i64 (x : Int)] := row_new rfl
      go_wp2_with (first
        | ((with_reducible refine (?_ : wpList _ _ _ (Oper.mk (some 17) _ _ _ _ _ :: _) _ _)); refine wpList_append_own_at _ rfl _ _ 29 rfl w.heap.size 3 j0 (.int .i64 0) 1 8 Tryd.underlying29 ji jz0 jz1 jz2 rfl (by decide) _ _ _ rfl (o0.alloc _) ⟨wr.heap.size, 0, none⟩ 1 1 [.int .i64 (x : Int)] rfl rfl (news_one n1) (by simp [Value.oneCell']) (by unfold maxLen; omega) (by omega) (by simp; omega) ?_; intro v2 w2 o2 hg2 _ hv2; have b2 := b0.trans (app1' o0 hbs hg2); have p2 := (p0.alloc (.cells #[.int .i64 (x : Int)] 3)).kept hg2 hap.symm; have hap2 := hap.step hv2 (fun g hg => by have := hlp g hg; simp; omega); have hlo2 := own_lt o2; have n2 : Row (w2.alloc (.cells #[.int .i64 (y : Int)] 3)) w2.heap.size 3 [.int .i64 (y : Int)] := row_new rfl; have hb2 := b2.size)
        | ((with_reducible refine (?_ : wpList _ _ _ (Oper.mk (some 25) _ _ _ _ _ :: _) _ _)); refine wpList_append_own_at _ rfl _ _ 29 rfl w.heap.size 3 j0 (.int .i64 0) 1 8 Tryd.underlying29 ji jz0 jz1 jz2 rfl (by decide) _ _ _ rfl (p2.alloc _) ⟨w2.heap.size, 0, none⟩ 1 1 [.int .i64 (y : Int)] rfl rfl (news_one n2) (by simp [Value.oneCell']) (by unfold maxLen; omega) (by omega) (by simp; omega) ?_; intro v3 w3 p3 hg3 _ hv3; have b3 := b2.trans (app1' p2 hb2 hg3); have o3 := (o2.alloc (.cells #[.int .i64 (y : Int)] 3)).kept hg3 hap2; have hap3 := hap2.symm.step hv3 (fun g hg => by have := hlo2 g hg; simp; omega)))
      go_roundw
      case rel => exact ⟨q + 1, by go_num, by omega, by rw [HA1.out, iv_snoc]; exact o3, by rw [HB1.out, iv_snoc]; exact p3, hap3.symm, b3⟩
      case measure => simp [intOf]; omega
    · obtain rfl : q = n := by omega
      have g1 : decide (q < q) = false := decide_eq_false hlt
      obtain ⟨ea, eb⟩ := HE.out
      obtain ⟨A2, c2, hA2, -, -, -⟩ := own_intsI o0
      obtain ⟨A3, c3, hA3, -, -, -⟩ := own_intsI p0
      rw [rA_len] at hA2
      rw [rB_len] at hA3
      subst hA2 hA3
      have o4 : wr.ownsRow w.heap.size 3 1 (.slice A2 q c2) (slA q).length (iv (slA q)) := by rw [slA_len, ← ea]; exact o0
      have p4 : wr.ownsRow w.heap.size 3 1 (.slice A3 q c3) (slB q).length (iv (slB q)) := by rw [slB_len, ← eb]; exact p0
      clear ea eb o0 p0
      have hbs := b0.size
      have b5 := b0.alloc hbs (.cells #[.slice A2 q c2, .slice A3 q c3] 29)
      have o5 := own_one2 wr w.heap.size 29 (.slice A2 q c2) (.slice A3 q c3) hbs
      have R5 : RowsAt (wr.alloc (.cells #[.slice A2 q c2, .slice A3 q c3] 29)) (some ⟨wr.heap.size, 0, none⟩) (slN q) := rows_at (⟨rfl, fun j hj => by
        have hj2 : j < 2 := hj
        rcases j with _ | _ | j
        · exact ⟨_, rfl, o4.alloc _⟩
        · exact ⟨_, rfl, p4.alloc _⟩
        · omega⟩ : RowsOwn _ w.heap.size [.slice A2 q c2, .slice A3 q c3] (slN q)) o5
      clear o5 o4 p4 HE
      go_wp2
      go_ret
      exact ⟨_, rfl, R5, b5⟩
end Go.Proofs.YtignbpipdfjkeaaDoor
