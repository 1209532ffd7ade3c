/- The reference's order at a place. -/
import Derived.Test.YtheblebfeinjjaaOQD
import Derived.Test.YtheblebfeinjjaaOQC
import Derived.Test.YtheblebfeinjjaaOK
import Derived.Test.YtheblebfeinjjaaOF
namespace Go.Proofs.Ytheblebfeinjjaa
open Go.RowKit
set_option maxHeartbeats 1000000
set_option maxRecDepth 100000
theorem facN_pos : ∀ n, 0 < facN n
  | 0 => by decide
  | n + 1 => Nat.mul_pos (by omega) (facN_pos n)
theorem dgQ_eq (k : Nat) : ∀ a, dgQ k a = k / facN a
  | 0 => by simp [dgQ, facN]
  | a + 1 => by
    have e : dgQ k (a + 1) = dgQ k a / (a + 1) := rfl
    have e2 : facN (a + 1) = (a + 1) * facN a := rfl
    rw [e, e2, dgQ_eq k a, Nat.div_div_eq_div_mul, Nat.mul_comm]
theorem facN_dvd {b : Nat} : ∀ {a : Nat}, b ≤ a → ∃ c, facN a = facN b * c
  | 0, h => ⟨1, by rw [show b = 0 by omega, Nat.mul_one]⟩
  | a + 1, h => by
    by_cases e : b = a + 1
    · exact ⟨1, by rw [e, Nat.mul_one]⟩
    · obtain ⟨c, hc⟩ := facN_dvd (a := a) (by omega : b ≤ a)
      exact ⟨(a + 1) * c, by show (a + 1) * facN a = _; rw [hc]; exact Nat.mul_left_comm _ _ _⟩
theorem dgL_mod (k a : Nat) : ∀ b, b ≤ a → dgL (k % facN a) b = dgL k b
  | 0, _ => rfl
  | b + 1, h => by
    have e1 : dgL (k % facN a) (b + 1) = ((dgQ (k % facN a) b % (b + 1) : Nat) : Int) :: dgL (k % facN a) b := rfl
    have e2 : dgL k (b + 1) = ((dgQ k b % (b + 1) : Nat) : Int) :: dgL k b := rfl
    rw [e1, e2, dgL_mod k a b (by omega), dgQ_eq, dgQ_eq]
    congr 2
    obtain ⟨c, hc⟩ := facN_dvd (b := b + 1) (a := a) h
    have hk : k = k % facN a + facN b * ((b + 1) * (c * (k / facN a))) := by
      have h1 := Nat.mod_add_div k (facN a)
      have h2 : facN a * (k / facN a) = facN b * ((b + 1) * (c * (k / facN a))) := by
        have hcc : facN a = (b + 1) * facN b * c := hc
        generalize k / facN a = X at *
        rw [hcc]
        simp only [Nat.mul_assoc]
        exact Nat.mul_left_comm _ _ _
      omega
    have h3 : k / facN b = (k % facN a) / facN b + (b + 1) * (c * (k / facN a)) := by
      conv => lhs; rw [hk]
      exact Nat.add_mul_div_left _ _ (facN_pos b)
    rw [h3, Nat.add_mul_mod_self_left]
/-- The reference's table: the digits from the front. -/
def rfD : Nat → Nat → List Int
  | 0, _ => []
  | i + 1, k => ((k / facN i : Nat) : Int) :: rfD i (k % facN i)
theorem rfD_eq : ∀ (n k : Nat), k < facN n → rfD n k = dgL k n
  | 0, _, _ => rfl
  | n + 1, k, h => by
    have e : dgL k (n + 1) = ((dgQ k n % (n + 1) : Nat) : Int) :: dgL k n := rfl
    have e2 : facN (n + 1) = (n + 1) * facN n := rfl
    have hp := facN_pos n
    have h1 : k / facN n < n + 1 := by
      rw [Nat.div_lt_iff_lt_mul hp, ← e2]; exact h
    unfold rfD
    rw [rfD_eq n (k % facN n) (Nat.mod_lt _ hp), e, dgL_mod k n n (Nat.le_refl _), dgQ_eq, Nat.mod_eq_of_lt h1]
theorem RefItem_any (n k : Nat) (w : World) (hn : n ≤ 12) (hk : k < facN n) :
    Calls Try.prog 45 #[.int .i64 n, .int .i64 k] w fun e w' => ∃ A c, e = .returned (.slice A n c) ∧ w'.ownsRow w.heap.size 3 1 (.slice A n c) n (iv (mdL (dgL k n))) ∧ Below w.heap.size w w' := by
  obtain ⟨j0, ji, jz0, jz1, jz2⟩ := info_parts info3
  have HRD := Lib.hid (rfD_eq n k hk)
  have hk2 : k ≤ 6402373705728000 := by have := facN_le (n := n) (by omega); omega
  have HFA := Lib.hid (fun i (hi : i ≤ 18) w => Factorial_any i w hi)
  have HFP := Lib.hid facN_pos
  have HFL := Lib.hid (fun i (hi : i ≤ 18) => facN_le hi)
  have o0 : w.ownsRow w.heap.size 3 1 (.slice none 0 0) ([] : List Int).length (iv []) := own_nil w w.heap.size
  have b0 : Below w.heap.size w w := Below.refl _ _
  have hok := dgL_ok k n
  have hdl := dgL_len k n
  have HMD := Lib.hid (fun (A : Option Addr) c (w : World) (ha : IntsAt w A (dgL k n)) => Made_any A c (dgL k n) w (by omega) ha)
  have HIT : Hid (isT (dgL k n) = true) := Lib.hid (by unfold isT; rw [hok, hdl, decide_eq_true (by omega)]; rfl)
  have HDL := Lib.hid hdl
  clear hk hok hdl
  go_enter Try.func45, Try.ntmps45
  go_wp2
  go_loopw [1, 5, 6] (fun q v i wr => ∃ (j kk : Nat) (D : List Int), j ≤ n ∧ i = .int .i64 ((j : Int) - 1) ∧ q = .int .i64 kk ∧ kk ≤ 6402373705728000 ∧ Hid (D ++ rfD j kk = rfD n k) ∧ D.length ≤ 12 ∧ Hid (D.length + j = n) ∧ wr.ownsRow w.heap.size 3 1 v D.length (iv D) ∧ Below w.heap.size w wr) (fun _ _ i _ => (intOf i + 1).toNat)
  case atStart => exact ⟨n, k, [], by omega, rfl, rfl, hk2, Lib.hid rfl, by simp, Lib.hid (by simp), o0, b0⟩
  case round =>
    clear o0 b0
    obtain ⟨j, kk, D, hj, rfl, rfl, hkk, HD, hDl, HDj, o0, b0⟩ := hrel
    obtain ⟨A2, c2, e2, -, -, -⟩ := own_intsI o0
    subst e2
    by_cases hj0 : 0 < j
    · obtain ⟨i, rfl⟩ : ∃ i, j = i + 1 := ⟨j - 1, by omega⟩
      have hii : (((i + 1 : Nat) : Int) - 1) = (i : Int) := by omega
      rw [hii]
      have hfp := HFP.out i
      have hfl := HFL.out i (by omega)
      have HF := Lib.hid (fun w => HFA.out i (by omega) w)
      have HR := Lib.hid (show rfD (i + 1) kk = ((kk / facN i : Nat) : Int) :: rfD i (kk % facN i) from rfl)
      have hq : ((kk : Nat) : Int).tdiv ((facN i : Nat) : Int) = ((kk / facN i : Nat) : Int) := rfl
      have hm : ((kk : Nat) : Int).tmod ((facN i : Nat) : Int) = ((kk % facN i : Nat) : Int) := rfl
      have hql : kk / facN i ≤ kk := Nat.div_le_self _ _
      have hml : kk % facN i ≤ kk := Nat.mod_le _ _
      clear hii
      obtain ⟨Q, hQ⟩ : ∃ Q, kk / facN i = Q := ⟨_, rfl⟩
      obtain ⟨M, hM⟩ : ∃ M, kk % facN i = M := ⟨_, rfl⟩
      rw [hQ] at HR hq hql
      rw [hM] at HR hm hml
      clear hQ hM
      generalize facN i = F at *
      have hF0 : ¬ F = 0 := by omega
      have HD2 : Hid ((D ++ [(Q : Int)]) ++ rfD i M = rfD n k) := Lib.hid (by rw [← HD.out, HR.out, List.append_assoc]; rfl)
      have HD3 : Hid (iv (D ++ [(Q : Int)]) = iv D ++ [.int .i64 (Q : Int)]) := Lib.hid (iv_snoc _ _)
      have hdl2 : (D ++ [(Q : Int)]).length = D.length + 1 := by simp
      have HDj2 : Hid ((D ++ [(Q : Int)]).length + i = n) := Lib.hid (by rw [hdl2]; have := HDj.out; omega)
      have hl12 : (D ++ [(Q : Int)]).length ≤ 12 := by have := HDj2.out; omega
      have HLD := Lib.hid hdl2
      clear hdl2 HD HR
      have hnr : Row (wr.alloc (.cells #[.int .i64 (Q : Int)] 3)) wr.heap.size 3 [.int .i64 (Q : Int)] := row_new rfl
      have hbs := b0.size
      go_wp2_with (first
        | (go_at_call 44; refine (HF.out _).mono ?_; rintro e w1 ⟨rfl, rfl⟩)
        | (at_builtin; refine wpList_append_own_at _ rfl (.tmp 15) (.tmp 20) 22 rfl w.heap.size 3 j0 (.int .i64 0) 1 8 Try.underlying22 ji jz0 jz1 jz2 rfl (by decide) _ _ _ rfl (o0.alloc _) ⟨wr.heap.size, 0, none⟩ 1 1 [.int .i64 (Q : Int)] rfl rfl (news_one hnr) (by simp [Value.oneCell']) (by unfold maxLen; omega) (by omega) (by simp; omega) ?_; intro v2 w2 o2 hg2 _ _; rw [← HD3.out, ← HLD.out] at o2; have b3 := b0.trans (app1' o0 hbs hg2)))
      go_roundw
      case rel => exact ⟨i, M, _, by omega, by go_num, rfl, by omega, HD2, hl12, HDj2, o2, b3⟩
      case measure => first | (simp [intOf]; done) | (simp [intOf]; omega)
    · obtain rfl : j = 0 := by omega
      have HDE : Hid (D = dgL k n) := Lib.hid (by
        have h := HD.out
        rw [show rfD 0 kk = [] from rfl, List.append_nil, HRD.out] at h
        exact h)
      have HDN : Hid (D.length = n) := Lib.hid (by have := HDj.out; omega)
      obtain ⟨A3, c3, e3, -, -, i3⟩ := own_intsI o0
      injection e3 with e4 e5 e6
      subst e4 e6
      rw [HDE.out] at i3
      have hM := HMD.out A2 c2 wr i3
      rw [HDL.out] at hM
      have HM := Lib.hid hM
      have hs := HDN.out
      rw [hs, show (((0 : Nat) : Int) - 1) = -1 from rfl]
      clear HMD HFA HFP HFL HD HDj i3 o0 hM hDl e5 hs
      go_wp2_with (go_at_call 28; fail)
      refine HM.out.mono ?_
      rintro e w3 ⟨hm, b3⟩
      unfold madeR at hm
      rw [HIT.out, HDL.out] at hm
      obtain ⟨A4, c4, rfl, o4⟩ := hm
      have b4 := b0.trans (b3.mono b0.size)
      have o5 := own_mono o4 b0.size
      clear o4 b3 HM
      go_wp2
      go_ret
      exact ⟨A4, c4, rfl, o5, b4⟩
end Go.Proofs.Ytheblebfeinjjaa
