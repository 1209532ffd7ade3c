/- Apart. -/
import Derived.Test.YtignbpipdfjkeaaDoorAP
namespace Go.Proofs.YtignbpipdfjkeaaDoor
open Go.RowKit
set_option maxHeartbeats 1000000
set_option maxRecDepth 100000
/-- Two states as a set. -/
def sg (p q : Nat) : Nat := sWith (sWith 0 p) q
def inR (T : Tab) (k p : Nat) : Nat → Nat → Option Nat
  | 0, _ => none
  | c + 1, q => if (seek T k (sg p q) (few 1)).isSome then inR T k p c (q + 1) else some q
def outR (T : Tab) (k n : Nat) : Nat → Nat → List Int
  | 0, _ => []
  | c + 1, p => match inR T k p (n - (p + 1)) (p + 1) with
    | some q => [(p : Int), (q : Int)]
    | none => outR T k n c (p + 1)
def apX (L : List (List Int)) : List Int := outR (tabN L) L.length (nS L) (nS L) 0
theorem sg_set {n p q : Nat} (hn : n ≤ 9) (hp : p < n) (hq : q < n) : IsS n (sg p q) ∧ sg p q ≠ 0 ∧ sg p q < 512 := by
  have h1 : sg p q < 2 ^ n := Nat.or_lt_two_pow (Nat.or_lt_two_pow (Nat.two_pow_pos n) (Nat.pow_lt_pow_right (by decide) hp)) (Nat.pow_lt_pow_right (by decide) hq)
  have h2 : (sg p q).testBit q = true := by unfold sg sWith; rw [Nat.testBit_or]; simp
  exact ⟨h1, fun e => by rw [e] at h2; simp at h2, set512 hn h1⟩
theorem own_pair (w : World) (b : Nat) (p q : Int) (hb : b ≤ w.heap.size) : (w.alloc (.cells #[.int .i64 p, .int .i64 q] 3)).ownsRow b 3 1 (.slice (some ⟨w.heap.size, 0, none⟩) 2 2) [p, q].length (iv [p, q]) :=
  ⟨rfl, .inr ⟨w.heap.size, 2, _, rfl, hb, heap_alloc_new _ _, by simp, by unfold maxLen; omega, rfl, rfl⟩⟩
/-- A list of the call's own. -/
def NewL (w : World) (l : List Int) (e : Ending) (w' : World) : Prop := ∃ v, e = .returned v ∧ w'.ownsRow w.heap.size 3 1 v l.length (iv l) ∧ Below w.heap.size w w'
theorem apart_any (L : List (List Int)) (w : World) (h : IsMI L) (ht : TabW w) : Calls Tryd.prog 55 #[.agg (iv (mc L)).toArray] w (NewL w (apX L)) := by
  have r0 : Row (w.alloc (.cells (iv (mc L)).toArray 76)) w.heap.size 76 (iv (mc L)) := row_new rfl
  have b0 : Below w.heap.size w (w.alloc (.cells (iv (mc L)).toArray 76)) := (Below.refl _ w).alloc (Nat.le_refl _) _
  have hi4 := hi76L L
  have HC : Hid (∀ W : World, Row W w.heap.size 76 (iv (mc L)) → W.cell? ⟨w.heap.size, 0, none⟩ = some (.int .i64 (nS L : Int))) := Lib.hid (fun W r => by have := ivR r (i := 0) (by unfold mc; rw [mcP_len]; omega); unfold mc at this; rwa [mcP_n] at this)
  have hn9 := h.n9
  have HF := Lib.hid (fun p q V (hp : p < nS L) (hq : q < nS L) (hV : Below w.heap.size w V) => searchFewer_any L (sg p q) 1 V h (sg_set hn9 hp hq).1 (sg_set hn9 hp hq).2.1 (by omega) (ht.below hV ht.lt))
  obtain ⟨Z, hZ⟩ : ∃ Z, apX L = Z := ⟨_, rfl⟩
  have HZ0 : Hid (outR (tabN L) L.length (nS L) (nS L - 0) 0 = Z) := Lib.hid hZ
  rw [hZ]
  have c0 := HC.out _ r0
  clear hZ h ht
  generalize nS L = n at *
  generalize tabN L = T at *
  go_enter Tryd.func55, Tryd.ntmps55
  go_wp2
  clear c0
  go_loopw [10] (fun i wr => ∃ p : Nat, i = .int .i64 p ∧ p ≤ n ∧ Row wr w.heap.size 76 (iv (mc L)) ∧ Below w.heap.size w wr ∧ Hid (outR T L.length n (n - p) p = Z)) (fun i _ => n - (intOf i).toNat)
  case atStart => exact ⟨0, rfl, by omega, r0, b0, HZ0⟩
  case round =>
    clear r0 b0 HZ0
    obtain ⟨p, rfl, hpn, r0, b0, HZ⟩ := hrel
    by_cases hlt : p < n
    · have g1 : decide (p < n) = true := decide_eq_true hlt
      have HZ2 : Hid ((match inR T L.length p (n - (p + 1)) (p + 1) with
        | some q => [(p : Int), (q : Int)]
        | none => outR T L.length n (n - (p + 1)) (p + 1)) = Z) := Lib.hid (by have := HZ.out; rw [show n - p = (n - (p + 1)) + 1 by omega] at this; exact this)
      obtain ⟨Y, hY⟩ : ∃ Y, inR T L.length p (n - (p + 1)) (p + 1) = Y := ⟨_, rfl⟩
      rw [hY] at HZ2
      have HY0 := Lib.hid hY
      clear HZ hY
      go_wp2
      go_loopw [4] (fun i wr => ∃ q : Nat, i = .int .i64 q ∧ p < q ∧ q ≤ n ∧ Row wr w.heap.size 76 (iv (mc L)) ∧ Below w.heap.size w wr ∧ Hid (inR T L.length p (n - q) q = Y)) (fun i _ => n - (intOf i).toNat)
      case atStart => exact ⟨p + 1, by go_num, by omega, by omega, r0, b0, HY0⟩
      case round =>
        clear r0 b0 HY0
        obtain ⟨q, rfl, hpq, hqn, r0, b0, HY⟩ := hrel
        have c0 := HC.out _ r0
        by_cases hlq : q < n
        · have g2 : decide (q < n) = true := decide_eq_true hlq
          have HY2 : Hid ((if (seek T L.length (sg p q) (few 1)).isSome then inR T L.length p (n - (q + 1)) (q + 1) else some q) = Y) := Lib.hid (by have := HY.out; rw [show n - q = (n - (q + 1)) + 1 by omega] at this; exact this)
          have HFM := Lib.hid (fun V => HF.out p q V hlt hlq)
          clear HY
          go_wp2
          clear c0
          have HWA := Lib.hid (fun (u : After wr) => with_any 0 p u.v (by omega) (by omega))
          have HWB := Lib.hid (fun (u : After wr) => with_any (sWith 0 p) q u.v (by have := or_lt (a := 0) (b := p) (by omega) (by omega); unfold sWith; omega) (by omega))
          have HW1 : Hid (∀ u : After wr, Calls Tryd.prog 60 #[.int .u16 0, .int .i64 p] u.v fun e w' => e = .returned (.int .u16 (sWith 0 p)) ∧ Below u.v.heap.size u.v w') := Lib.hid (fun u => (HWA.out u).mono (fun e w' ⟨a, b⟩ => ⟨a, b ▸ Below.refl _ _⟩))
          have HW2 : Hid (∀ u : After wr, Calls Tryd.prog 60 #[.int .u16 (sWith 0 p), .int .i64 q] u.v fun e w' => e = .returned (.int .u16 (sg p q)) ∧ Below u.v.heap.size u.v w') := Lib.hid (fun u => (HWB.out u).mono (fun e w' ⟨a, b⟩ => ⟨a, b ▸ Below.refl _ _⟩))
          clear HWA HWB
          cases hX : seek T L.length (sg p q) (few 1) with
          | none =>
            rw [hX] at HFM HY2
            have hy : some q = Y := HY2.out
            subst hy
            have hz : [(p : Int), (q : Int)] = Z := HZ2.out
            subst hz
            have HF3 : Hid (∀ u : After wr, Calls Tryd.prog 51 #[.agg (iv (mc L)).toArray, .int .u16 (sg p q), .int .i64 1] u.v fun e w' => e = .returned (.tuple #[.string ⟨#[]⟩, .int .u16 0, .bool false]) ∧ Below u.v.heap.size u.v w') := Lib.hid (fun u => HFM.out u.v (b0.trans (u.h.mono b0.size)))
            clear HZ2 HY2 HFM hX
            refine wp_region_class_all (C := fun w' => ∃ u : After _, w' = u.v) (by kernel_rfl) (by kernel_rfl) (isAfter_start _) ?_
            try simp only [Act.put]
            repeat (first | ((with_reducible refine (?_ : wpQuiet _ _ _ _ (Oper.mk (some 22) _ _ _ _ _ :: _) _); go_big_quiet_want); refine quiet_load_row 76 (.tmp 1) rfl w.heap.size rfl 76 (iv (mc L)) _ (fun _ hc => after_row r0 hc) Tryd.underlying76 rfl hi4 ?_; simp only [Act.put, List.setIfInBounds_toArray, List.set_cons_zero, List.set_cons_succ]; go_big_quiet_on) | go_big_quiet_step ((first | (with_reducible refine (HW1.out _).mono ?_; rintro e w8 ⟨rfl, b8⟩; exact ⟨rfl, After.done _ b8⟩) | (with_reducible refine (HW2.out _).mono ?_; rintro e w8 ⟨rfl, b8⟩; exact ⟨rfl, After.done _ b8⟩) | (with_reducible refine (HF3.out _).mono ?_; rintro e w8 ⟨rfl, b8⟩; exact ⟨rfl, After.done _ b8⟩))))
            refine wpQuiet_nil ?_
            rintro _ ⟨ua, rfl⟩
            have b9 := b0.trans (ua.h.mono b0.size)
            have o9 := own_pair ua.v w.heap.size (p : Int) (q : Int) b9.size
            go_wp2
            go_ret
            exact ⟨_, rfl, o9, b9.alloc b9.size _⟩
          | some z =>
            obtain ⟨t, x⟩ := z
            rw [hX] at HFM HY2
            have HF3 : Hid (∀ u : After wr, Calls Tryd.prog 51 #[.agg (iv (mc L)).toArray, .int .u16 (sg p q), .int .i64 1] u.v fun e w' => e = .returned (.tuple #[.string (wS x), .int .u16 t, .bool true]) ∧ Below u.v.heap.size u.v w') := Lib.hid (fun u => HFM.out u.v (b0.trans (u.h.mono b0.size)))
            have HY3 : Hid (inR T L.length p (n - (q + 1)) (q + 1) = Y) := HY2
            clear HY2 HFM hX
            refine wp_region_class_all (C := fun w' => ∃ u : After _, w' = u.v) (by kernel_rfl) (by kernel_rfl) (isAfter_start _) ?_
            try simp only [Act.put]
            repeat (first | ((with_reducible refine (?_ : wpQuiet _ _ _ _ (Oper.mk (some 22) _ _ _ _ _ :: _) _); go_big_quiet_want); refine quiet_load_row 76 (.tmp 1) rfl w.heap.size rfl 76 (iv (mc L)) _ (fun _ hc => after_row r0 hc) Tryd.underlying76 rfl hi4 ?_; simp only [Act.put, List.setIfInBounds_toArray, List.set_cons_zero, List.set_cons_succ]; go_big_quiet_on) | go_big_quiet_step ((first | (with_reducible refine (HW1.out _).mono ?_; rintro e w8 ⟨rfl, b8⟩; exact ⟨rfl, After.done _ b8⟩) | (with_reducible refine (HW2.out _).mono ?_; rintro e w8 ⟨rfl, b8⟩; exact ⟨rfl, After.done _ b8⟩) | (with_reducible refine (HF3.out _).mono ?_; rintro e w8 ⟨rfl, b8⟩; exact ⟨rfl, After.done _ b8⟩))))
            refine wpQuiet_nil ?_
            rintro _ ⟨ua, rfl⟩
            go_wp2
            go_roundw
            case rel => exact ⟨q + 1, by go_num, by omega, by omega, r0.below ua.h, b0.trans (ua.h.mono b0.size), HY3⟩
            case measure => simp [intOf]; omega
        · obtain rfl : q = n := by omega
          have hy : none = Y := by have := HY.out; rw [Nat.sub_self] at this; exact this
          subst hy
          have HZ3 : Hid (outR T L.length q (q - (p + 1)) (p + 1) = Z) := HZ2
          clear HZ2 HY
          go_wp2
          go_roundw
          case rel => exact ⟨p + 1, by go_num, by omega, r0, b0, HZ3⟩
          case measure => simp [intOf]; omega
    · obtain rfl : p = n := by omega
      have hz : [] = Z := by have := HZ.out; rw [Nat.sub_self] at this; exact this
      subst hz
      clear HZ
      go_wp2
      go_ret
      exact ⟨_, rfl, ⟨rfl, .inl ⟨rfl, rfl⟩⟩, b0⟩
theorem Apart_no (A : Option Addr) (c : Nat) (L : List (List Int)) (w : World) (hv : okM L = false) (ha : RowsAt w A L) :
    Calls Tryd.prog 19 #[.slice A L.length c] w fun e w' => e = .returned (.tuple #[.slice none 0 0, .int .i64 2]) ∧ Below w.heap.size w w' := by
  have HR := Lib.hid (rm_no A c L w hv ha)
  clear hv ha
  go_enter Tryd.func19, Tryd.ntmps19
  go_wp2_with (first
    | (go_at_call 50; refine HR.out.mono ?_; rintro e w2 ⟨rfl, b2⟩; have q0 : Row (w2.alloc (.cells #[.int .i64 0, .int .i64 0, .int .i64 0, .int .i64 0, .int .i64 0, .int .i64 0, .int .i64 0, .int .i64 0, .int .i64 0, .int .i64 0, .int .i64 0, .int .i64 0, .int .i64 0, .int .i64 0, .int .i64 0, .int .i64 0, .int .i64 0, .int .i64 0, .int .i64 0, .int .i64 0, .int .i64 0, .int .i64 0, .int .i64 0, .int .i64 0, .int .i64 0, .int .i64 0, .int .i64 0, .int .i64 0, .int .i64 0, .int .i64 0, .int .i64 0, .int .i64 0, .int .i64 0, .int .i64 0, .int .i64 0, .int .i64 0, .int .i64 0, .int .i64 0] 76)) w2.heap.size 76 Z38 := row_new rfl; have b0 := b2.alloc b2.size (.cells #[.int .i64 0, .int .i64 0, .int .i64 0, .int .i64 0, .int .i64 0, .int .i64 0, .int .i64 0, .int .i64 0, .int .i64 0, .int .i64 0, .int .i64 0, .int .i64 0, .int .i64 0, .int .i64 0, .int .i64 0, .int .i64 0, .int .i64 0, .int .i64 0, .int .i64 0, .int .i64 0, .int .i64 0, .int .i64 0, .int .i64 0, .int .i64 0, .int .i64 0, .int .i64 0, .int .i64 0, .int .i64 0, .int .i64 0, .int .i64 0, .int .i64 0, .int .i64 0, .int .i64 0, .int .i64 0, .int .i64 0, .int .i64 0, .int .i64 0, .int .i64 0] 76); have hbz := b2.size)
    | (with_reducible refine (?_ : wpList _ _ _ (Oper.mk _ (Op.store 76 (.tmp 4) _) _ _ _ _ :: _) _ _); refine wpList_store_row rfl 76 (.tmp 4) (.tmp 9) rfl w2.heap.size Z38.toArray rfl rfl 76 Z38.toArray (row_heap q0) info76_z rfl z38_all ?_; replace b0 := below_row (g := w2.heap.size) b0 hbz Z38.toArray; generalize World.setRow (w2.alloc _) _ _ = W at *))
  go_ret2
  exact ⟨rfl, b0⟩
/-- A list of the call's own, and an error. -/
def NewLE (w : World) (l : List Int) (x : Int) (e : Ending) (w' : World) : Prop := ∃ v, e = .returned (.tuple #[v, .int .i64 x]) ∧ w'.ownsRow w.heap.size 3 1 v l.length (iv l) ∧ Below w.heap.size w w'
theorem Apart_yes (A : Option Addr) (c : Nat) (L : List (List Int)) (w : World) (h : IsMI L) (ha : RowsAt w A L) (ht : TabW w) :
    Calls Tryd.prog 19 #[.slice A L.length c] w (NewLE w (apX L) 0) := by
  have HR := Lib.hid (rm_yes A c L w h ha)
  have hi := info76_iv (x := mc L) (mcP_len L 36)
  have hsz := hsz76 L
  have HK := Lib.hid (fun V (hV : Below w.heap.size w V) => apart_any L V h (ht.below hV ht.lt))
  clear ha ht h
  generalize apX L = Z at *
  go_enter Tryd.func19, Tryd.ntmps19
  go_wp2_with (first
    | (go_at_call 50; refine HR.out.mono ?_; rintro e w2 ⟨rfl, b2⟩; have q0 : Row (w2.alloc (.cells #[.int .i64 0, .int .i64 0, .int .i64 0, .int .i64 0, .int .i64 0, .int .i64 0, .int .i64 0, .int .i64 0, .int .i64 0, .int .i64 0, .int .i64 0, .int .i64 0, .int .i64 0, .int .i64 0, .int .i64 0, .int .i64 0, .int .i64 0, .int .i64 0, .int .i64 0, .int .i64 0, .int .i64 0, .int .i64 0, .int .i64 0, .int .i64 0, .int .i64 0, .int .i64 0, .int .i64 0, .int .i64 0, .int .i64 0, .int .i64 0, .int .i64 0, .int .i64 0, .int .i64 0, .int .i64 0, .int .i64 0, .int .i64 0, .int .i64 0, .int .i64 0] 76)) w2.heap.size 76 Z38 := row_new rfl; have b0 := b2.alloc b2.size (.cells #[.int .i64 0, .int .i64 0, .int .i64 0, .int .i64 0, .int .i64 0, .int .i64 0, .int .i64 0, .int .i64 0, .int .i64 0, .int .i64 0, .int .i64 0, .int .i64 0, .int .i64 0, .int .i64 0, .int .i64 0, .int .i64 0, .int .i64 0, .int .i64 0, .int .i64 0, .int .i64 0, .int .i64 0, .int .i64 0, .int .i64 0, .int .i64 0, .int .i64 0, .int .i64 0, .int .i64 0, .int .i64 0, .int .i64 0, .int .i64 0, .int .i64 0, .int .i64 0, .int .i64 0, .int .i64 0, .int .i64 0, .int .i64 0, .int .i64 0, .int .i64 0] 76); have hbz := b2.size)
    | (with_reducible refine (?_ : wpList _ _ _ (Oper.mk _ (Op.store 76 (.tmp 4) _) _ _ _ _ :: _) _ _); refine wpList_store_row rfl 76 (.tmp 4) (.tmp 9) rfl w2.heap.size (iv (mc L)).toArray rfl rfl 76 Z38.toArray (row_heap q0) hi hsz (iv_all _) ?_; replace q0 := q0.row (iv (mc L)); replace b0 := below_row (g := w2.heap.size) b0 hbz (iv (mc L)).toArray; generalize World.setRow (w2.alloc _) _ _ = W at *)
    | ((with_reducible refine (?_ : wpList _ _ _ (Oper.mk (some 13) _ _ _ _ _ :: _) _ _)); refine wpList_load_row rfl 76 (.tmp 4) rfl w2.heap.size rfl 76 (iv (mc L)).toArray (0, 0) _ (row_heap q0) Tryd.underlying76 rfl hi ?_)
    | (go_at_call 55; refine (HK.out _ b0).mono ?_; rintro e w3 ⟨v3, rfl, o3, b3⟩; replace o3 := own_mono o3 b0.size; replace b0 := b0.trans (b3.mono b0.size)))
  go_ret2
  exact ⟨_, rfl, o3, b0⟩
end Go.Proofs.YtignbpipdfjkeaaDoor
