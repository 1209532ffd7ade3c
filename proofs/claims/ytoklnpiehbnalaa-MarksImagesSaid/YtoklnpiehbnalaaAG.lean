/- Periods. -/
import Derived.Test.YtoklnpiehbnalaaAF
namespace Go.Proofs.Ytoklnpiehbnalaa
open Go.RowKit Go.PlainAid
set_option maxHeartbeats 1000000
set_option maxRecDepth 100000
/-- The periods up to k. -/
def perU (x : List Nat) (k : Nat) : List Int := (((List.range k).map (· + 1)).filter (perP x)).map fun p : Nat => (p : Int)
def perL (x : List Nat) : List Int := perU x x.length
theorem perU_zero (x : List Nat) : perU x 0 = [] := rfl
theorem perU_yes {x : List Nat} {k : Nat} (h : perP x (k + 1) = true) : perU x (k + 1) = perU x k ++ [((k + 1 : Nat) : Int)] := by
  unfold perU; rw [List.range_succ, List.map_append, List.filter_append, List.map_append]; simp [h]
theorem perU_no {x : List Nat} {k : Nat} (h : perP x (k + 1) = false) : perU x (k + 1) = perU x k := by
  unfold perU; rw [List.range_succ, List.map_append, List.filter_append, List.map_append]; simp [h]
/-- The periods below p. -/
def perW (x : List Nat) (p : Nat) : List Int := perU x (p - 1)
theorem perW_yes {x : List Nat} {p : Nat} (hp : 1 ≤ p) (h : perP x p = true) : perW x (p + 1) = perW x p ++ [(p : Int)] := by
  have := @perU_yes x (p - 1)
  rw [show p - 1 + 1 = p by omega] at this
  exact this h
theorem perW_no {x : List Nat} {p : Nat} (hp : 1 ≤ p) (h : perP x p = false) : perW x (p + 1) = perW x p := by
  have := @perU_no x (p - 1)
  rw [show p - 1 + 1 = p by omega] at this
  exact this h
theorem perU_len (x : List Nat) (k : Nat) : (perU x k).length ≤ k := by
  unfold perU
  rw [List.length_map]
  have := List.length_filter_le (perP x) ((List.range k).map (· + 1))
  simpa using this
theorem own_shape {w : World} {b n : Nat} {e : TypeId} {v : Value} {xs : List Value} (h : w.ownsRow b e 1 v n xs) : ∃ A c, v = .slice A n c := by
  rcases h.2 with ⟨rfl, h0⟩ | ⟨g, cap, cur, rfl, _⟩
  · exact ⟨none, 0, by rw [h0]⟩
  · exact ⟨_, cap, rfl⟩
/-- A list of numbers in new memory. -/
def NewL (w : World) (xs : List Int) (e : Ending) (w' : World) : Prop := ∃ v, e = .returned v ∧ w'.ownsRow w.heap.size 3 1 v xs.length (iv xs) ∧ Below w.heap.size w w'
def NewLE (w : World) (xs : List Int) (err : Int) (e : Ending) (w' : World) : Prop := ∃ v, e = .returned (.tuple #[v, .int .i64 err]) ∧ w'.ownsRow w.heap.size 3 1 v xs.length (iv xs) ∧ Below w.heap.size w w'
theorem Periods_no (s : ByteArray) (w : World) (hs : s.size ≤ 9223372036854775807) (h : okB s = false) :
    Calls Try.prog 22 #[.string s] w fun e w' => e = .returned (.tuple #[.slice none 0 0, .int .i64 2]) ∧ Below w.heap.size w w' := by
  have HW := Lib.hid (fun V => isWord_any s V hs)
  rw [h] at HW
  have b0 := Below.refl w.heap.size w
  clear h
  go_enter Try.func22, Try.ntmps22
  go_wp2_with (go_at_call 58; (with_reducible refine (HW.out _).mono ?_); rintro e w2 ⟨rfl, b2⟩)
  refine bodyPost_ret (v := .tuple #[.slice none 0 0, .int .i64 2]) (by simp [results, Try.results22, go_sem]) rfl ⟨rfl, b0.trans (b2.mono b0.size)⟩
theorem Periods_yes (x : List Nat) (w : World) (hx : okW x) (hl : x.length ≤ 120) :
    Calls Try.prog 22 #[.string (wS x)] w (NewLE w (perL x) 0) := by
  obtain ⟨j0, ji, jz0, jz1, jz2⟩ := info_parts info3
  have HW := Lib.hid (fun V => isWord_any (wS x) V (by rw [wS_len]; omega))
  rw [okB_wS hx hl] at HW
  have HP := Lib.hid (fun (p : Nat) (V : World) (h : p ≤ x.length) => hasPeriod_any x p V hx h (by omega))
  have HY := Lib.hid (fun k => @perW_yes x k)
  have HN := Lib.hid (fun k => @perW_no x k)
  have HL : Hid (∀ p, (perW x p).length ≤ p - 1) := Lib.hid (fun p => perU_len x (p - 1))
  have HR : Hid (perL x = perW x (x.length + 1)) := Lib.hid rfl
  have hz := wS_len x
  have b0 := Below.refl w.heap.size w
  have o0 : w.ownsRow w.heap.size 3 1 (.slice none 0 0) (perW x 1).length (iv (perW x 1)) := ⟨rfl, .inl ⟨rfl, rfl⟩⟩
  obtain ⟨N, hN⟩ : ∃ N, x.length = N := ⟨_, rfl⟩
  rw [hN] at hz hl HP HR
  generalize wS x = s at *
  subst hz
  clear hN hx
  go_enter Try.func22, Try.ntmps22
  go_wp2_with (go_at_call 58; (with_reducible refine (HW.out _).mono ?_); rintro e w2 ⟨rfl, b2⟩)
  replace o0 := o0.kept' b2
  replace b0 := b0.trans (b2.mono b0.size)
  clear b2 HW
  go_loopw [4, 5] (fun v i wr => ∃ k : Nat, i = .int .i64 k ∧ 1 ≤ k ∧ k ≤ s.size + 1 ∧ wr.ownsRow w.heap.size 3 1 v (perW x k).length (iv (perW x k)) ∧ Below w.heap.size w wr) (fun _ i _ => s.size + 1 - (intOf i).toNat)
  case atStart => exact ⟨1, rfl, by omega, by omega, o0, b0⟩
  case round =>
    clear o0 b0
    obtain ⟨k, rfl, hk1, hk, o0, b0⟩ := hrel
    by_cases hlt : k ≤ s.size
    · have g2 : decide (k ≤ s.size) = true := decide_eq_true (by omega)
      have HP1 := Lib.hid (fun V => HP.out k V hlt)
      have HY1 := Lib.hid (HY.out k hk1)
      have HN1 := Lib.hid (HN.out k hk1)
      have hpl := HL.out k
      cases hb : perP x k
      · have HE := Lib.hid (HN1.out hb)
        rw [hb] at HP1
        clear HP HY HN HL HY1 HN1 hb hpl
        go_wp2_with (go_at_call 59; (with_reducible refine (HP1.out _).mono ?_); rintro e w3 ⟨rfl, m, rfl⟩)
        go_roundw
        case rel => exact ⟨k + 1, by go_num, by omega, by omega, by rw [HE.out]; exact o0.kept' (below_drewN m), b0.trans (below_drewN m)⟩
        case measure => simp [intOf]; omega
      · have HE := Lib.hid (HY1.out hb)
        rw [hb] at HP1
        clear HP HY HN HL HY1 HN1 hb
        obtain ⟨A2, c2, rfl⟩ := own_shape o0
        generalize perW x k = X at *
        go_wp2_with (first
          | (go_at_call 59; (with_reducible refine (HP1.out _).mono ?_); rintro e w3 ⟨rfl, m, rfl⟩; replace o0 := o0.kept' (below_drewN m); replace b0 := b0.trans (below_drewN m); generalize World.drewN _ m = w3 at *; have hbs := b0.size; have hnr : Row (w3.alloc (.cells #[.int .i64 (k : Int)] 3)) w3.heap.size 3 [.int .i64 (k : Int)] := row_new rfl)
          | ((with_reducible refine (?_ : wpList _ _ _ (Oper.mk (some 21) _ _ _ _ _ :: _) _ _)); refine wpList_append_own_at _ rfl _ _ 26 rfl w.heap.size 3 j0 (.int .i64 0) 1 8 Try.underlying26 ji jz0 jz1 jz2 rfl (by decide) _ _ _ rfl (o0.alloc _) ⟨w3.heap.size, 0, none⟩ 1 1 [.int .i64 (k : Int)] rfl rfl (news_one hnr) (by simp [Value.oneCell']) (by unfold maxLen; omega) (by omega) (by simp; omega) ?_; intro v2 w4 o2 hg2 _ _; have b4 := app1' o0 hbs hg2))
        go_roundw
        case rel =>
          refine ⟨k + 1, by go_num, by omega, by omega, ?_, b0.trans b4⟩
          rw [HE.out, List.length_append, List.length_singleton, iv_snoc]
          exact o2
        case measure => simp [intOf]; omega
    · have HK : Hid (k = s.size + 1) := Lib.hid (by omega)
      have g2 : decide (k ≤ s.size) = false := decide_eq_false (by omega)
      obtain ⟨A2, c2, rfl⟩ := own_shape o0
      rw [HK.out, ← HR.out] at o0
      have HO := Lib.hid o0
      obtain ⟨l, hll⟩ : ∃ l, (perW x k).length = l := ⟨_, rfl⟩
      have HLL : Hid (l = (perL x).length) := Lib.hid (by rw [← hll, HR.out, HK.out])
      rw [hll]
      clear HP HY HN HL o0 hll hlt hk
      go_wp2
      refine bodyPost_ret (v := .tuple #[.slice A2 l c2, .int .i64 0]) (by simp [results, Try.results22, go_sem]) rfl ⟨_, rfl, ?_, b0⟩
      rw [HLL.out]
      exact HO.out
end Go.Proofs.Ytoklnpiehbnalaa
