/- Strings whose letters are renamed in a cycle. -/
import Derived.Test.YtopeppnajbnfgaaJL
namespace Go.Proofs.Ytopeppnajbnfgaa
open Go.RowKit
set_option maxHeartbeats 1000000
set_option maxRecDepth 100000
theorem renamed_any (s : ByteArray) (by' : Int) (w : World) (hs : s.size ≤ 24) (ho : ∀ i, i < s.size → okC s i) : Calls Try.prog 39 #[.string s, .int .i64 by'] w fun e w' => ∃ u, e = .returned (.string u) ∧ (chV u = true ∧ Ren s u (modI by' 4)) ∧ Below w.heap.size w w' := by
  obtain ⟨i0, hi, hz0, hz1, hz2⟩ := info_parts info5
  have HMO : Hid (∀ w, Calls Try.prog 40 #[.int .i64 by', .int .i64 4] w fun e w' => e = .returned (.int .i64 (modI by' 4)) ∧ w = w') := Lib.hid (fun w => mod_any by' 4 w (by omega) (by omega))
  have hm4 : modI by' 4 < 4 := Nat.mod_lt _ (by omega)
  generalize modI by' 4 = m at *
  have HO := Lib.hid (fun i (hi : i < s.size) => ho i hi)
  clear ho
  go_enter Try.func39, Try.ntmps39
  go_wp2
  go_loopw [5, 6] (fun v i wr => ∃ (k : Nat) (l : List UInt8), i = .int .i64 k ∧ k ≤ s.size ∧ l.length = k ∧ Hid (Let l ∧ ∀ i, (h : i < l.length) → (l[i]).toNat = 97 + (sb s i - 97 + m) % 4) ∧ wr.ownsRow w.heap.size 5 1 v k (bv l) ∧ Below w.heap.size w wr) (fun _ i _ => s.size - (intOf i).toNat)
  case atStart => exact ⟨0, [], rfl, by omega, rfl, Lib.hid ⟨let_nil, fun i h => absurd h (by simp)⟩, ⟨rfl, .inl ⟨rfl, rfl⟩⟩, Below.refl _ _⟩
  case round =>
    obtain ⟨k, l, rfl, hks, hll, HP, hown, hb⟩ := hrel
    by_cases h1 : k < s.size
    · have g1 : decide (k < s.size) = true := decide_eq_true h1
      have hok := HO.out k h1
      unfold okC at hok
      have hsb := sb_eq h1
      rw [hsb] at hok
      obtain ⟨c, hc4, hcc⟩ : ∃ c : Nat, c < 4 ∧ s[k].toNat = 97 + c := ⟨s[k].toNat - 97, by omega, by omega⟩
      have hsk : (s[k].toNat : Int) = 97 + (c : Int) := by omega
      have hw1 : IntKind.u8.wrap (97 + (c : Int) - 97) = c := by simp [IntKind.wrap, IntKind.bits, IntKind.signed]; omega
      have hw2 : IntKind.u8.wrap (97 + (((c + m) % 4 : Nat) : Int)) = 97 + (((c + m) % 4 : Nat) : Int) := by simp [IntKind.wrap, IntKind.bits, IntKind.signed]; omega
      have hm2 : Int.tmod ((c : Int) + m) 4 = (((c + m) % 4 : Nat) : Int) := rfl
      have hb3 : (0 : Int) ≤ (((c + m) % 4 : Nat) : Int) ∧ (((c + m) % 4 : Nat) : Int) ≤ 3 := by omega
      obtain ⟨b, hbb⟩ : ∃ b : UInt8, b.toNat = 97 + (c + m) % 4 := ⟨UInt8.ofNat (97 + (c + m) % 4), ofNat_toNat (by omega)⟩
      have HBB := Lib.hid (show b.toNat = 97 + (sb s k - 97 + m) % 4 by rw [hsb, hcc, hbb, Nat.add_sub_cancel_left])
      have HBI := Lib.hid (show (97 : Int) + (((c + m) % 4 : Nat) : Int) = (b.toNat : Int) by omega)
      have hbs := hb.size
      clear hbb hok hsb hcc
      generalize (((c + m) % 4 : Nat) : Int) = d at *
      have hw3 : IntKind.i64.wrap (c : Int) = c := IntWalk.i64_in _ (by omega)
      have hw4 : IntKind.i64.wrap ((c : Int) + m) = c + m := IntWalk.i64_in _ (by omega)
      have hw5 : IntKind.i64.wrap d = d := IntWalk.i64_in _ (by omega)
      have hw6 : IntKind.i64.wrap (97 + d) = 97 + d := IntWalk.i64_in _ (by omega)
      have OW := Lib.hid hown
      have HB := Lib.hid hb
      clear hown hb
      go_wp2
      go_region_held3 (fun _ => True) (trivial) ((first
        | (go_at_call 40; refine (HMO.out _).mono ?_; rintro e w7 ⟨rfl, rfl⟩)
        | (refine step_append_own_at rfl (.tmp 13) (.tmp 25) 48 rfl w.heap.size 5 i0 (.int .u8 0) 1 1 Try.underlying48 hi hz0 hz1 hz2 rfl Nat.zero_lt_one _ k _ rfl ((OW.out.alloc _).kept' ((Below.refl _ _).drew)) ⟨wr.heap.size, 0, none⟩ 1 1 [.int .u8 (97 + d)] rfl rfl ?_ ?_ ?_ ?_ ?_ ?_; exact news_one ((row_new rfl).drew); simp [Value.oneCell']; (unfold maxLen; omega); omega; exact (HB.out.alloc HB.out.size _).drew.size; intro v9 w9 o9 hg9; have b9 := (HB.out.alloc HB.out.size _).drew.grown hg9 (HB.out.alloc HB.out.size _).drew.size (fun g hg => (own_ge OW.out hg).1))))
      · go_wp2
        go_roundw
        case rel =>
          refine ⟨k + 1, l ++ [b], by go_num, by omega, by simp [hll], Lib.hid ⟨let_snoc HP.out.1 (by have := HBB.out; omega), fun i hi => ?_⟩, ?_, b9⟩
          · by_cases e : i < l.length
            · rw [List.getElem_append_left e]; exact HP.out.2 i e
            · have e2 : i = l.length := by simp at hi; omega
              subst e2
              rw [List.getElem_append_right (Nat.le_refl _)]
              simp only [Nat.sub_self, List.getElem_cons_zero]
              rw [hll]; exact HBB.out
          · have e : bv (l ++ [b]) = bv l ++ [.int .u8 (97 + d)] := by rw [HBI.out]; simp [bv]
            rw [e]; exact o9
        case measure => simp [intOf]; omega
      · go_wp2
        go_roundw
        case rel =>
          refine ⟨k + 1, l ++ [b], by go_num, by omega, by simp [hll], Lib.hid ⟨let_snoc HP.out.1 (by have := HBB.out; omega), fun i hi => ?_⟩, ?_, b9⟩
          · by_cases e : i < l.length
            · rw [List.getElem_append_left e]; exact HP.out.2 i e
            · have e2 : i = l.length := by simp at hi; omega
              subst e2
              rw [List.getElem_append_right (Nat.le_refl _)]
              simp only [Nat.sub_self, List.getElem_cons_zero]
              rw [hll]; exact HBB.out
          · have e : bv (l ++ [b]) = bv l ++ [.int .u8 (97 + d)] := by rw [HBI.out]; simp [bv]
            rw [e]; exact o9
        case measure => simp [intOf]; omega
    · have g1 : decide (k < s.size) = false := decide_eq_false h1
      have hcv := own_conv hown
      have HF := Lib.hid (show chV (bs l) = true ∧ Ren s (bs l) m from ⟨decide_eq_true ⟨by rw [bs_size]; omega, let_ok HP.out.1⟩,
        ren_of hm4 HO.out (by rw [bs_size]; omega) (fun i hi => by rw [sb_bs (by omega)]; exact HP.out.2 i (by omega))⟩)
      go_wp2
      go_ret
      exact ⟨bs l, rfl, HF.out, hb⟩
end Go.Proofs.Ytopeppnajbnfgaa
