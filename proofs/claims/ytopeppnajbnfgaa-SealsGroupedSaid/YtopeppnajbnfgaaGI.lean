/- SealsGrouped: the walk. -/
import Derived.Test.YtopeppnajbnfgaaGH
namespace Go.Proofs.Ytopeppnajbnfgaa
open Go.RowKit
set_option maxHeartbeats 1000000
set_option maxRecDepth 100000
theorem grp_let (nn : Nat → Nat) : ∀ c, c ≤ 4 → Let (grp nn c)
  | 0, _ => let_nil
  | c + 1, h => fun b hb => by
    rcases List.mem_append.1 hb with h1 | h1
    · exact grp_let nn c (by omega) b h1
    · rw [(List.mem_replicate.1 h1).2, ofNat_toNat (by omega)]; omega
theorem pos_le (nn : Nat → Nat) (h : ∀ c, nn c ≤ 3) : ∀ c, pos nn c ≤ 6 * c
  | 0 => Nat.le_refl _
  | c + 1 => by have := pos_le nn h c; have := h c; simp only [pos]; omega
theorem grp_ok (nn : Nat → Nat) (h : ∀ c, nn c ≤ 3) : (chV (bs (grp nn 4)) && evV (bs (grp nn 4))) = true := by
  have h1 : chV (bs (grp nn 4)) = true := decide_eq_true ⟨by rw [grp_size]; have := pos_le nn h 4; omega, let_ok (grp_let nn 4 (by omega))⟩
  have h2 : evV (bs (grp nn 4)) = true := (evV_iff _).2 fun c hc => by
    rw [grp_size, cnt_grp nn hc _ (Nat.le_refl _)]
    have h5 := pos_mono nn (show c + 1 ≤ 4 by omega)
    have h6 : pos nn (c + 1) = pos nn c + 2 * nn c := rfl
    omega
  rw [h1, h2]; rfl
theorem wnt_len (nn : Nat → Nat) : ∀ c, (wnt nn c).length ≤ c
  | 0 => Nat.le_refl _
  | c + 1 => by
    have := wnt_len nn c
    simp only [wnt]
    split
    · omega
    · simp; omega
theorem bs_app (a b : List UInt8) : bs a ++ bs b = bs (a ++ b) := by
  apply ByteArray.ext
  rw [ByteArray.data_append]
  simp
theorem byte_conv (W : World) (b : UInt8) : (convert 48 9 (.slice (some ⟨W.heap.size, 0, none⟩) 1 1)).run Try.prog (W.alloc (.cells #[.int .u8 (b.toNat : Int)] 5)) = .ok (.string (bs [b])) (W.alloc (.cells #[.int .u8 (b.toNat : Int)] 5)) :=
  run_convert_bytes_back _ 48 9 5 ⟨W.heap.size, 0, none⟩ 1 [b] Try.underlying48 Try.underlying5 Try.underlying9 (fun j hj => by
    obtain rfl : j = 0 := by simpa using hj
    have hr : Row (W.alloc (.cells #[.int .u8 (b.toNat : Int)] 5)) W.heap.size 5 [.int .u8 (b.toNat : Int)] := row_new rfl
    exact hr.cell 0)
theorem SealsGrouped_any (vs : List Int) (w : World) (hv : vs.length = 4) :
    Calls Try.prog 10 #[.agg (iv vs).toArray] w fun e w' => e = .returned (.bool true) ∧ Below w.heap.size w w' := by
  obtain ⟨j0, ji, jz0, jz1, jz2⟩ := info_parts info3
  have HAW := Lib.hid awake_any
  obtain ⟨nn, hnn⟩ : ∃ nn : Nat → Nat, nn = fun c => modI (geti vs c) 4 := ⟨_, rfl⟩
  have hn3 : ∀ c, nn c ≤ 3 := fun c => by rw [hnn]; have := modI_lt (geti vs c) (n := 4) (by omega); dsimp only; omega
  have HM : Hid (∀ c w, Calls Try.prog 40 #[.int .i64 (geti vs c), .int .i64 4] w fun e w' => e = .returned (.int .i64 (modI (geti vs c) 4)) ∧ w = w') := Lib.hid (fun c w => mod_any (geti vs c) 4 w (by omega) (by omega))
  have HNN := Lib.hid (fun c => show modI (geti vs c) 4 = nn c by rw [hnn])
  clear hnn
  have HPL := Lib.hid (pos_le nn hn3)
  have hok := grp_ok nn hn3
  have HL := Lib.hid (fun w => (Least_any (bs (grp nn 4)) w hok).mono fun e w' h => cut_known (few_grp nn) h)
  have HF := Lib.hid (fun w => (Fair_any (bs (grp nn 4)) w hok).mono fun e w' h => cut_known (few_grp nn) h)
  have r0 : Row (w.alloc (.cells (iv vs).toArray 46)) w.heap.size 46 (iv vs) := row_new rfl
  have b0 : Below w.heap.size w (w.alloc (.cells (iv vs).toArray 46)) := (Below.refl _ w).alloc (Nat.le_refl _) _
  have hvs : (iv vs).toArray.size = 4 := by rw [List.size_toArray, iv_len, hv]
  go_enter Try.func10, Try.ntmps10
  go_wp2
  go_loopw [3, 4, 5] (fun sv v i wr => ∃ c : Nat, i = .int .i64 c ∧ c ≤ 4 ∧ sv = .string (bs (grp nn c)) ∧ wr.ownsRow w.heap.size 3 1 v (wnt nn c).length (iv (wnt nn c)) ∧ Row wr w.heap.size 46 (iv vs) ∧ Below w.heap.size w wr) (fun _ _ i _ => 100 - (intOf i).toNat)
  case atStart => exact ⟨0, rfl, by omega, rfl, ⟨rfl, .inl ⟨rfl, rfl⟩⟩, r0, b0⟩
  case round =>
    clear r0 b0
    obtain ⟨c, rfl, hc, rfl, o1, r1, b1⟩ := hrel
    by_cases hc4 : c < 4
    · have c0 : wr.cell? ⟨w.heap.size, c, none⟩ = some (.int .i64 (geti vs c)) := ivR r1 (by omega)
      have HMc := Lib.hid (HM.out c)
      have hbs := b1.size
      have hpl := HPL.out c
      have hgl := grp_len nn c
      have hw := wnt_len nn c
      obtain ⟨n, hn⟩ : ∃ n, n = nn c := ⟨_, rfl⟩
      have hn3c : n ≤ 3 := by rw [hn]; exact hn3 c
      rw [HNN.out] at HMc
      obtain ⟨b, hbb⟩ : ∃ b : UInt8, b = UInt8.ofNat (97 + c) := ⟨_, rfl⟩
      have hbn : (b.toNat : Int) = 97 + c := by rw [hbb, ofNat_toNat (by omega)]; omega
      have HG := Lib.hid (show grp nn (c + 1) = grp nn c ++ List.replicate (2 * n) b by rw [hn, hbb]; rfl)
      have HW0 := Lib.hid (show n = 0 → wnt nn (c + 1) = wnt nn c by intro h; rw [hn] at h; simp [wnt, h])
      have HW1 := Lib.hid (show n ≠ 0 → wnt nn (c + 1) = wnt nn c ++ [((pos nn c + n : Nat) : Int)] by intro h; rw [hn] at h; simp [wnt, h, hn])
      rw [← hn] at HMc
      clear hn hbb
      generalize geti vs c = x at *
      generalize wnt nn c = ws at *
      generalize pos nn c = p at *
      generalize hgr : grp nn c = gl at *
      by_cases hz : n = 0
      · have HZ := Lib.hid hz
        have g1 : decide ((n : Int) > 0) = false := decide_eq_false (by omega)
        go_wp2_with (go_at_call 40; with_reducible refine (HMc.out _).mono ?_; rintro e w3 ⟨rfl, rfl⟩)
        go_loopw [3, 7] (fun sv i wq => ∃ k : Nat, i = .int .i64 k ∧ k ≤ 2 * n ∧ sv = .string (bs (gl ++ List.replicate k b)) ∧ wq.ownsRow w.heap.size 3 1 u4 ws.length (iv ws) ∧ Row wq w.heap.size 46 (iv vs) ∧ Below w.heap.size w wq) (fun _ i _ => 100 - (intOf i).toNat)
        case atStart => exact ⟨0, rfl, by omega, by simp, o1, r1, b1⟩
        case round =>
          clear o1 r1 b1 hbs
          obtain ⟨k, rfl, hk, rfl, o1, r1, b1⟩ := hrel
          have hbs := b1.size
          by_cases hkn : k < 2 * n
          · omega
          · obtain rfl : k = 2 * n := by omega
            have g2 : decide (((2 * n : Nat) : Int) < 2 * n) = false := decide_eq_false (by omega)
            rw [← HG.out]
            go_wp2
            go_roundw
            case rel => exact ⟨c + 1, by go_num, by omega, rfl, by rw [HW0.out HZ.out]; exact o1, r1, b1⟩
            case measure => simp [intOf]; omega
      · have HZ := Lib.hid hz
        have g1 : decide ((n : Int) > 0) = true := decide_eq_true (by omega)
        have hnr : Row (wr.alloc (.cells #[.int .i64 ((p : Int) + n)] 3)) wr.heap.size 3 [.int .i64 ((p : Int) + n)] := row_new rfl
        go_wp2_with (first
          | (go_at_call 40; with_reducible refine (HMc.out _).mono ?_; rintro e w3 ⟨rfl, rfl⟩)
          | (at_builtin; refine wpList_append_own_at _ rfl (.tmp 22) (.tmp 27) 23 rfl w.heap.size 3 j0 (.int .i64 0) 1 8 Try.underlying23 ji jz0 jz1 jz2 rfl (by decide) _ _ _ rfl (o1.alloc _) ⟨wr.heap.size, 0, none⟩ 1 1 [.int .i64 ((p : Int) + n)] rfl rfl (news_one hnr) (by simp [Value.oneCell']) (by unfold maxLen; omega) (by omega) (by simp; omega) ?_; intro v2 w2 o2 hg2 _ _))
        have b2 := b1.trans (app1' o1 hbs hg2)
        have r2 : Row w2 w.heap.size 46 (iv vs) := (r1.alloc _).grown hg2 (r1.not_own o1 (by decide))
        go_loopw [3, 7] (fun sv i wq => ∃ k : Nat, i = .int .i64 k ∧ k ≤ 2 * n ∧ sv = .string (bs (gl ++ List.replicate k b)) ∧ wq.ownsRow w.heap.size 3 1 v2 (ws.length + 1) (iv ws ++ [.int .i64 ((p : Int) + n)]) ∧ Row wq w.heap.size 46 (iv vs) ∧ Below w.heap.size w wq) (fun _ i _ => 100 - (intOf i).toNat)
        case atStart => exact ⟨0, rfl, by omega, by simp, o2, r2, b2⟩
        case round =>
          clear o1 r1 b1 hbs o2 r2 b2
          obtain ⟨k, rfl, hk, rfl, o1, r1, b1⟩ := hrel
          have hbs := b1.size
          by_cases hkn : k < 2 * n
          · have g2 : decide ((k : Int) < 2 * n) = true := decide_eq_true (by omega)
            have hwr : IntKind.u8.wrap (97 + (c : Int)) = b.toNat := by
              have : IntKind.u8.wrap (97 + (c : Int)) = (97 + (c : Int)) % 256 := by simp [IntKind.wrap, IntKind.bits, IntKind.signed]
              rw [this, hbn]; omega
            have hcv := byte_conv wr b
            rw [hbn] at hcv
            have hadd : ∀ w, (Op.stringOp .add (bs (gl ++ List.replicate k b)) (bs [b])).run Try.prog w = .ok (.string (bs (gl ++ List.replicate k b) ++ bs [b])) w := fun w => run_string_add_sum w _ _ (by rw [bs_size, bs_size]; simp; omega)
            rw [bs_app, List.append_assoc, ← List.replicate_succ'] at hadd
            generalize bs (gl ++ List.replicate k b) = s1 at *
            go_wp2
            go_roundw
            case rel => exact ⟨k + 1, by go_num, by omega, rfl, o1.alloc _, r1.alloc _, b1.alloc hbs _⟩
            case measure => simp [intOf]; omega
          · obtain rfl : k = 2 * n := by omega
            have g2 : decide (((2 * n : Nat) : Int) < 2 * n) = false := decide_eq_false (by omega)
            rw [← HG.out]
            go_wp2
            go_roundw
            case rel => exact ⟨c + 1, by go_num, by omega, rfl, by rw [HW1.out HZ.out, iv_snoc, List.length_append]; exact o1, r1, b1⟩
            case measure => simp [intOf]; omega
    · obtain rfl : c = 4 := by omega
      obtain ⟨B, d, rfl, hld, i1, sl1⟩ := own_sl o1
      have hw := wnt_len nn 4
      have HIN := Lib.hid (fun A C c d w (h1 : IntsAt w A (wnt nn 4)) (h2 : IntsAt w C (wnt nn 4)) => ints_yes A C c d (wnt nn 4) _ w rfl (by omega) h1 h2)
      clear o1 r1 hw hld sl1
      generalize bs (grp nn 4) = s at *
      generalize wnt nn 4 = ws at *
      go_wp2_with (go_at_call 16; fail)
      refine (HL.out _).mono ?_
      rintro e w2 ⟨A2, c2, rfl, i2, b2⟩
      replace i1 := i1.below b2
      replace b1 := b1.trans (b2.mono b1.size)
      go_wp2_with (go_at_call 15; fail)
      refine (HF.out _).mono ?_
      rintro e w3 ⟨A3, c3, rfl, i3, b3⟩
      replace i1 := i1.below b3
      replace i2 := i2.below b3
      replace b1 := b1.trans (b3.mono b1.size)
      go_wp2_with (go_at_call 24; fail)
      refine (HIN.out _ _ _ _ _ i2 i1).mono ?_
      rintro e w4 ⟨rfl, n4, rfl⟩
      replace i1 := i1.drewN n4
      replace i3 := i3.drewN n4
      replace b1 := b1.trans (below_drewN n4)
      generalize World.drewN _ n4 = w4 at *
      go_wp2_with (go_at_call 24; fail)
      refine (HIN.out _ _ _ _ _ i3 i1).mono ?_
      rintro e w5 ⟨rfl, n5, rfl⟩
      replace b1 := b1.trans (below_drewN n5)
      generalize World.drewN _ n5 = w5 at *
      go_wp2_with (go_at_call 20; with_reducible refine (HAW.out _).mono ?_; rintro e w6 ⟨rfl, b6⟩; replace b1 := b1.trans (b6.mono b1.size))
      go_ret
      exact ⟨rfl, b1⟩
end Go.Proofs.Ytopeppnajbnfgaa
