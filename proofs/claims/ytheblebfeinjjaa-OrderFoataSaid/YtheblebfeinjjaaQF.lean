/- The positions of the descents. -/
import Derived.Test.YtheblebfeinjjaaNY
import Derived.Test.YtheblebfeinjjaaPA
namespace Go.Proofs.Ytheblebfeinjjaa
open Go.RowKit
set_option maxHeartbeats 1000000
set_option maxRecDepth 100000
def desN (l : List Int) : Nat → List Int
  | 0 => []
  | k + 1 => desN l k ++ if isDb l k then [(k : Int)] else []
theorem desN_len (l : List Int) : ∀ k, (desN l k).length ≤ k
  | 0 => Nat.le_refl _
  | k + 1 => by
    have := desN_len l k
    unfold desN
    rw [List.length_append]
    split <;> simp <;> omega
theorem desN_one (l : List Int) : desN l 1 = [] := by simp [desN, isDb]
theorem desN_ext {l m : List Int} : ∀ {n : Nat}, (∀ i, i < n → isDb l i = isDb m i) → desN l n = desN m n
  | 0, _ => rfl
  | n + 1, h => by
    unfold desN
    rw [desN_ext (fun i hi => h i (by omega)), h n (by omega)]
theorem descents_pos (A : Option Addr) (c : Nat) (l : List Int) (w : World) (hx : l.length ≤ 1000000) (ha : IntsAt w A l) :
    Calls Try.prog 47 #[.slice A l.length c] w fun e w' => ∃ v, e = .returned v ∧ w'.ownsRow w.heap.size 3 1 v (desN l l.length).length (iv (desN l l.length)) ∧ Below w.heap.size w w' := by
  obtain ⟨j0, ji, jz0, jz1, jz2⟩ := info_parts info3
  have HA := Lib.hid ha
  have o0 : w.ownsRow w.heap.size 3 1 (.slice none 0 0) (desN l 1).length (iv (desN l 1)) := by rw [desN_one]; exact ⟨rfl, .inl ⟨rfl, rfl⟩⟩
  have b0 : Below w.heap.size w w := Below.refl _ _
  have HST : Hid (∀ k, desN l (k + 1) = desN l k ++ if isDb l k then [(k : Int)] else []) := Lib.hid (fun k => rfl)
  have HLE : Hid (∀ k, (desN l k).length ≤ k) := Lib.hid (desN_len l)
  have HDB : Hid (∀ k, 1 ≤ k → isDb l k = decide (geti l k < geti l (k - 1))) := Lib.hid (fun k hk => by unfold isDb; rw [decide_eq_true (show 0 < k by omega)]; simp)
  have HZ : Hid (l.length = 0 → desN l 1 = desN l l.length) := Lib.hid (fun e => by rw [e, desN_one]; rfl)
  clear ha
  go_enter Try.func47, Try.ntmps47
  go_wp2
  go_loopw [3, 4] (fun v i wr => ∃ k : Nat, 1 ≤ k ∧ (k ≤ l.length ∨ k = 1) ∧ i = .int .i64 k ∧ wr.ownsRow w.heap.size 3 1 v (desN l k).length (iv (desN l k)) ∧ Below w.heap.size w wr) (fun _ i _ => l.length - (intOf i).toNat)
  case atStart => exact ⟨1, by omega, .inr rfl, rfl, o0, b0⟩
  case round =>
    clear o0 b0
    obtain ⟨k, hk1, hk, rfl, o0, b0⟩ := hrel
    obtain ⟨A2, c2, rfl, -, -, -⟩ := own_intsI o0
    by_cases hlt : k < l.length
    · obtain ⟨bA, oA, rfl, -, f1⟩ := (HA.out.below b0) (by omega)
      have h1 := f1 (k - 1) (by omega)
      have h2 := f1 k hlt
      have HS := Lib.hid (HST.out k)
      have hdb := HDB.out k hk1
      have hml := HLE.out k
      generalize geti l (k - 1) = x at *
      generalize geti l k = y at *
      have hki : (k : Int) - 1 = ((k - 1 : Nat) : Int) := by omega
      generalize desN l k = D at *
      rw [hdb] at HS
      clear f1 hdb
      cases g1 : decide (y < x)
      · rw [g1] at HS
        go_wp2
        refine wp_region_quiet_lit (by kernel_rfl) (by kernel_rfl) ?_
        repeat go_big_quiet_step ((fail))
        refine wpQuiet_nil ?_
        rintro _ ⟨nq, rfl⟩
        go_wp2
        go_roundw
        case rel => exact ⟨k + 1, by omega, by omega, by go_num, by rw [HS.out]; simpa using o0.kept' (below_drewN nq), b0.trans (below_drewN nq)⟩
        case measure => simp [intOf]; omega
      · rw [g1] at HS
        go_wp2
        refine wp_region_quiet_lit (by kernel_rfl) (by kernel_rfl) ?_
        repeat go_big_quiet_step ((fail))
        refine wpQuiet_nil ?_
        rintro _ ⟨nq, rfl⟩
        have o1 := o0.kept' (below_drewN nq)
        have b1 := b0.trans (below_drewN nq)
        clear h1 h2 o0 b0
        generalize wr.drewN nq = W at *
        have hnr : Row (W.alloc (.cells #[.int .i64 (k : Int)] 3)) W.heap.size 3 [.int .i64 (k : Int)] := row_new rfl
        have hbs := b1.size
        have HSV : Hid (iv (desN l (k + 1)) = iv D ++ [.int .i64 (k : Int)]) := Lib.hid (by rw [HS.out, if_pos trivial, iv_snoc])
        have HSL : Hid ((desN l (k + 1)).length = D.length + 1) := Lib.hid (by rw [HS.out, if_pos trivial]; simp)
        go_wp2_with (at_builtin; refine wpList_append_own_at _ rfl (.tmp 21) (.tmp 23) 22 rfl w.heap.size 3 j0 (.int .i64 0) 1 8 Try.underlying22 ji jz0 jz1 jz2 rfl (by decide) _ _ _ rfl (o1.alloc _) ⟨W.heap.size, 0, none⟩ 1 1 [.int .i64 (k : Int)] rfl rfl (news_one hnr) (by simp [Value.oneCell']) (by unfold maxLen; omega) (by omega) (by simp; omega) ?_; intro v2 w2 o2 hg2 _ _; rw [← HSV.out] at o2; have b3 := b1.trans (app1' o1 hbs hg2))
        go_roundw
        case rel => exact ⟨k + 1, by omega, by omega, by go_num, by rw [HSL.out]; exact o2, b3⟩
        case measure => simp [intOf]; omega
    · have HE : Hid (desN l k = desN l l.length) := Lib.hid (by
        rcases hk with hk | hk
        · rw [show k = l.length by omega]
        · subst hk
          by_cases h0 : l.length = 0
          · exact HZ.out h0
          · rw [show l.length = 1 by omega])
      rw [HE.out] at o0
      go_wp2
      go_ret
      exact ⟨_, rfl, by rw [← HE.out] at o0 ⊢; exact o0, b0⟩
end Go.Proofs.Ytheblebfeinjjaa
