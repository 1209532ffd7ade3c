/- images, Image. -/
import Derived.Test.YtoklnpiehbnalaaBW
import Derived.Test.YtoklnpiehbnalaaPL
namespace Go.Proofs.Ytoklnpiehbnalaa
open Go.RowKit Go.PlainAid Go.Shelf
attribute [local go_sem] Oper.semAt_some
set_option maxHeartbeats 2000000
set_option maxRecDepth 100000
/-- Four strings at most, each cut to 13 letters. -/
def iM (s : ByteArray) : ByteArray := s.extract 0 (min s.size 13)
theorem iM_int (s : ByteArray) : s.extract 0 (min (s.size : Int) 13).toNat = iM s := by unfold iM; congr 1; omega
def iP (ss : List ByteArray) (j : Nat) : List ByteArray := (List.range j).map fun i => iM (gets ss i)
theorem iP_succ (ss : List ByteArray) (j : Nat) : iP ss (j + 1) = iP ss j ++ [iM (gets ss j)] := by simp [iP, List.range_succ]
theorem iP_len (ss : List ByteArray) (j : Nat) : (iP ss j).length = j := by simp [iP]
def iMs (ss : List ByteArray) : List ByteArray := iP ss (min ss.length 4)
theorem images_any (A : Option Addr) (c : Nat) (ss : List ByteArray) (w : World) (hl : ss.length ≤ 9223372036854775807) (hs : ∀ i, (gets ss i).size ≤ 9223372036854775807) (ha : StrsAt w A ss) :
    Calls Try.prog 39 #[.slice A ss.length c] w fun e w' => ∃ v, e = .returned v ∧ w'.ownsRow w.heap.size 9 1 v (iMs ss).length (strv (iMs ss)) ∧ Below w.heap.size w w' := by
  obtain ⟨j0, ji, jz0, jz1, jz2⟩ := info_parts info9
  have o0 : w.ownsRow w.heap.size 9 1 (.slice none 0 0) 0 (strv (iP ss 0)) := ⟨rfl, .inl ⟨rfl, rfl⟩⟩
  have b0 := Below.refl w.heap.size w
  have HPS := Lib.hid (iP_succ ss)
  have HIM := Lib.hid iM_int
  have HA : Hid (∀ V, Below w.heap.size w V → StrsAt V A ss) := Lib.hid (fun V hV => ha.below hV)
  have HEND : Hid (iP ss (min ss.length 4) = iMs ss) := Lib.hid rfl
  have HLN : (iMs ss).length = min ss.length 4 := iP_len ss _
  have HSZ := Lib.hid hs
  clear hs ha
  rw [HLN]
  clear HLN
  generalize iMs ss = R at *
  generalize hn : ss.length = n at *
  obtain ⟨N, hN⟩ : ∃ N, min n 4 = N := ⟨_, rfl⟩
  rw [hN] at HEND ⊢
  have h1 : N ≤ n := by omega
  have h2 : N ≤ 4 := by omega
  have h3 : N < n → N < 4 → False := by omega
  have H3 := Lib.hid h3
  clear hN h3
  go_enter Try.func39, Try.ntmps39
  go_wp2
  go_loopw [3, 4] (fun v i wr => ∃ j : Nat, i = .int .i64 j ∧ j ≤ N ∧ wr.ownsRow w.heap.size 9 1 v j (strv (iP ss j)) ∧ Below w.heap.size w wr) (fun _ i _ => N - (intOf i).toNat)
  case atStart => exact ⟨0, rfl, by omega, o0, b0⟩
  case round =>
    clear o0 b0
    obtain ⟨j, rfl, hj, o0, b0⟩ := hrel
    by_cases hlt : j < N
    · have g1 : decide (j < n) = true := decide_eq_true (by omega)
      have g2 : decide ((j : Int) < 4) = true := decide_eq_true (by omega)
      have g3 : decide (j < 4) = true := decide_eq_true (by omega)
      have HPS1 := Lib.hid (HPS.out j)
      obtain ⟨A2, c2, rfl⟩ := own_shape1 o0
      have hbs := b0.size
      obtain ⟨bA, oA, hAe, hbA, hcA⟩ := (HA.out wr b0) (by omega)
      have hc1 := hcA j (by omega)
      have hsz := HSZ.out j
      have HIM1 := Lib.hid (HIM.out (gets ss j))
      have KS : Hid (∀ w', Below w.heap.size w w' → (w'.cell? ⟨bA, oA + j, none⟩ = some (.string (gets ss j)) ∧ Hid (Below w.heap.size w w'))) := Lib.hid fun w' h => by
        obtain ⟨bA', oA', e, _, hc⟩ := (HA.out w' h) (by omega)
        rw [hAe] at e
        cases e
        exact ⟨hc j (by omega), Lib.hid h⟩
      have OT := Lib.hid o0
      have hS := KS.out _ b0
      clear hcA HPS HA HSZ H3 hc1 o0 HIM
      subst hAe
      generalize gets ss j = s at *
      generalize iM s = u at *
      have hjn : j < n := by omega
      have hm1 : (0 : Int) ≤ min (s.size : Int) 13 := by omega
      have hm2 : min (s.size : Int) 13 ≤ (s.size : Int) := by omega
      go_wp2
      go_region_held3 (fun w' => w'.cell? ⟨bA, oA + j, none⟩ = some (.string s) ∧ Hid (Below w.heap.size w w')) (first | assumption | exact KS.out _ b0.drew | exact KS.out _ (b0.alloc b0.size _) | exact KS.out _ ((b0.alloc b0.size _).drew) | exact KS.out _ b9) ((first
        | (refine step_append_own_at rfl (.tmp 15) (.tmp 27) 55 rfl w.heap.size 9 j0 (.string ⟨#[]⟩) 1 16 Try.underlying55 ji jz0 jz1 jz2 rfl Nat.zero_lt_one _ j _ rfl ((OT.out.alloc _).kept' ((Below.refl _ _).drew)) ⟨wr.heap.size, 0, none⟩ 1 1 [.string (s.extract 0 (min (s.size : Int) 13).toNat)] rfl rfl ?_ ?_ ?_ ?_ ?_ ?_; exact news_one ((row_new rfl).drew); simp [Value.oneCell']; (unfold maxLen; omega); omega; exact (b0.alloc b0.size _).drew.size; intro v9 w9 o9 hg9; have b9 := (b0.alloc b0.size _).drew.grown hg9 (b0.alloc b0.size _).drew.size (fun g hg => (own_ge OT.out hg).1))))
      go_wp2
      go_roundw
      case rel => exact ⟨j + 1, by go_num, by omega, by rw [HPS1.out, strv_snoc, ← HIM1.out]; exact o9, b9⟩
      case measure => simp [intOf]; omega
    · obtain rfl : j = N := by omega
      obtain ⟨A2, c2, rfl⟩ := own_shape1 o0
      clear HPS HA HSZ
      by_cases h3 : j < n
      · have g1 : decide (j < n) = true := decide_eq_true h3
        have g2 : decide ((j : Int) < 4) = false := decide_eq_false (fun h => H3.out h3 (by omega))
        have g3 : decide (j < 4) = false := decide_eq_false (fun h => H3.out h3 h)
        clear H3
        go_wp2
        go_ret
        exact ⟨_, rfl, by rw [← HEND.out]; exact o0, b0⟩
      · have g1 : decide (j < n) = false := decide_eq_false h3
        clear H3
        go_wp2
        go_ret
        exact ⟨_, rfl, by rw [← HEND.out]; exact o0, b0⟩
end Go.Proofs.Ytoklnpiehbnalaa
