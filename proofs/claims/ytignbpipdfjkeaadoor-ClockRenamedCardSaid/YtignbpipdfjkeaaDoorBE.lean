/- Merge, and the reference's. -/
import Derived.Test.YtignbpipdfjkeaaDoorBD
import Derived.Test.YtignbpipdfjkeaaDoorAR
namespace Go.Proofs.YtignbpipdfjkeaaDoor
open Go.RowKit
set_option maxHeartbeats 2000000
set_option maxRecDepth 100000
theorem or_pows {p q : Nat} (hp : p < 9) (hq : q < 9) : bits BinOp.or IntKind.i64 (wrap64 ((2 : Int) ^ p)) (wrap64 ((2 : Int) ^ q)) = (sg p q : Int) := by
  have h1 : 2 ^ p ≤ 2 ^ 8 := Nat.pow_le_pow_right (by decide) (by omega)
  rw [show wrap64 ((2 : Int) ^ p) = ((2 ^ p : Nat) : Int) by
    rw [pow_cast]
    generalize 2 ^ p = P at *
    exact IntWalk.wrap64_in _ ⟨by omega, by omega⟩, wrap_or (by omega) hq]
  unfold sg sWith
  rw [Nat.zero_or]
/-- A set of two states, smallest image. -/
def shP (L : List (List Int)) (p q : Nat) : Nat × List Nat := shE (tabN L) L.length (sg p q)
theorem refMerge_any (A : Option Addr) (c : Nat) (L : List (List Int)) (p q : Nat) (w : World) (h : IsMI L) (hp : p < nS L) (hq : q < nS L) (ha : RowsAt w A L) :
    Calls Tryd.prog 30 #[.slice A L.length c, .int .i64 p, .int .i64 q] w fun e w' => e = .returned (.tuple #[.string (wS (shP L p q).2), .bool ((szS (shP L p q).1 : Int) == 1)]) ∧ Below w.heap.size w w' := by
  have hn9 := h.n9
  obtain ⟨s1, s2, -⟩ := sg_set hn9 hp hq
  have HO := or_pows (p := p) (q := q) (by omega) (by omega)
  have HS : Hid (∀ u : After w, Calls Tryd.prog 23 #[.slice A L.length c, .int .i64 (bits BinOp.or IntKind.i64 (wrap64 ((2 : Int) ^ p)) (wrap64 ((2 : Int) ^ q)))] u.v fun e w' => e = .returned (.tuple #[.int .i64 (szS (shP L p q).1), .string (wS (shP L p q).2), .int .i64 (shP L p q).1]) ∧ Below u.v.heap.size u.v w') := Lib.hid (fun u => by
    rw [HO]
    exact Shrink_any A c L (sg p q) u.v h s1 s2 (ha.below u.h))
  clear HO s1 s2 h ha
  have hp9 : p < 9 := by omega
  have hq9 : q < 9 := by omega
  generalize shP L p q = Z at *
  obtain ⟨z, y⟩ := Z
  generalize szS z = zz at *
  generalize wS y = yy at *
  go_enter Tryd.func30, Tryd.ntmps30
  go_wp2
  refine wp_region_class_all (C := fun w' => ∃ u : After _, w' = u.v) (by kernel_rfl) (by kernel_rfl) (isAfter_start _) ?_
  try simp only [Act.put]
  repeat (go_big_quiet_step ((with_reducible refine (HS.out _).mono ?_; rintro e w8 ⟨rfl, b8⟩; exact ⟨rfl, After.done _ b8⟩)))
  refine wpQuiet_nil ?_
  rintro _ ⟨ua, rfl⟩
  go_wp2
  go_ret2
  exact ⟨rfl, ua.h⟩
theorem After.mono' {v w : World} (u : After w) (h : Below v.heap.size v w) : Below v.heap.size w u.v := u.h.mono h.size
theorem isState_b (M : List Int) (n : Nat) (q : Int) (w : World) (hl : M.length = 38) (hn : geti M 0 = n) :
    Calls Tryd.prog 59 #[.agg (iv M).toArray, .int .i64 q] w fun e w' => e = .returned (.bool (isQ n q)) ∧ Below w.heap.size w w' :=
  (isState_any M n q w hl hn).mono fun e w' ⟨h1, k, h2⟩ => ⟨h1, by rw [h2]; exact ((Below.refl _ w).alloc (Nat.le_refl _) _).trans (below_drewN k)⟩
theorem wpList_load_row_w {P : Program} {ops : Array Oper} {rest : List Oper} {o : Oper} {a : Act} {w : World} {Q : Exit → Act → World → Prop} (hw : Region.wanted o (yielded ops a.tmps) = true) (ty : TypeId) (x : Operand) (ho : o.op = .load ty x)
    (g : Nat) (hx : a.eval x = .pointer (some ⟨g, 0, none⟩)) (t : TypeId) (cs : Array Value) (fr : Nat × Nat) (d : TypeDesc) (hg : w.heap[g]? = some (.cells cs t fr))
    (hu : P.underlying ty = some d) (hd : (match d with | .struct _ | .array _ _ => true | _ => false) = true) (hi : (P.info? ty).map (·.size) = some cs.size)
    (h : wpList P ops Q rest (a.put o.dst (.agg cs)) w) : wpList P ops Q (o :: rest) a w := by
  unfold wpList
  rw [if_pos hw]
  exact .inl (wp_load_row ty x ho g hx t cs fr d hg hu hd hi h)
theorem Merge_no (A : Option Addr) (c : Nat) (L : List (List Int)) (p q : Int) (w : World) (hv : okM L = false) (ha : RowsAt w A L) :
    Calls Tryd.prog 29 #[.slice A L.length c, .int .i64 p, .int .i64 q] w fun e w' => e = .returned (.tuple #[.string ⟨#[]⟩, .int .i64 2]) ∧ Below w.heap.size w w' := by
  have HR := Lib.hid (rm_no A c L w hv ha)
  clear hv ha
  go_enter Tryd.func29, Tryd.ntmps29
  go_wp2_with (first
    | (go_at_call 50; refine HR.out.mono ?_; rintro e w2 ⟨rfl, b2⟩; have q0 : Row (w2.alloc (.cells #[.int .i64 0, .int .i64 0, .int .i64 0, .int .i64 0, .int .i64 0, .int .i64 0, .int .i64 0, .int .i64 0, .int .i64 0, .int .i64 0, .int .i64 0, .int .i64 0, .int .i64 0, .int .i64 0, .int .i64 0, .int .i64 0, .int .i64 0, .int .i64 0, .int .i64 0, .int .i64 0, .int .i64 0, .int .i64 0, .int .i64 0, .int .i64 0, .int .i64 0, .int .i64 0, .int .i64 0, .int .i64 0, .int .i64 0, .int .i64 0, .int .i64 0, .int .i64 0, .int .i64 0, .int .i64 0, .int .i64 0, .int .i64 0, .int .i64 0, .int .i64 0] 76)) w2.heap.size 76 Z38 := row_new rfl; have b0 := b2.alloc b2.size (.cells #[.int .i64 0, .int .i64 0, .int .i64 0, .int .i64 0, .int .i64 0, .int .i64 0, .int .i64 0, .int .i64 0, .int .i64 0, .int .i64 0, .int .i64 0, .int .i64 0, .int .i64 0, .int .i64 0, .int .i64 0, .int .i64 0, .int .i64 0, .int .i64 0, .int .i64 0, .int .i64 0, .int .i64 0, .int .i64 0, .int .i64 0, .int .i64 0, .int .i64 0, .int .i64 0, .int .i64 0, .int .i64 0, .int .i64 0, .int .i64 0, .int .i64 0, .int .i64 0, .int .i64 0, .int .i64 0, .int .i64 0, .int .i64 0, .int .i64 0, .int .i64 0] 76); have hbz := b2.size)
    | (with_reducible refine (?_ : wpList _ _ _ (Oper.mk _ (Op.store 76 (.tmp 8) _) _ _ _ _ :: _) _ _); refine wpList_store_row rfl 76 (.tmp 8) (.tmp 15) rfl w2.heap.size Z38.toArray rfl rfl 76 Z38.toArray (row_heap q0) info76_z rfl z38_all ?_; replace b0 := below_row (g := w2.heap.size) b0 hbz Z38.toArray; generalize World.setRow (w2.alloc _) _ _ = W at *))
  go_ret2
  exact ⟨rfl, b0⟩
theorem Merge_bad (A : Option Addr) (c : Nat) (L : List (List Int)) (p q : Int) (w : World) (h : IsMI L) (ha : RowsAt w A L) (hb : (isQ (nS L) p && isQ (nS L) q) = false) :
    Calls Tryd.prog 29 #[.slice A L.length c, .int .i64 p, .int .i64 q] w fun e w' => e = .returned (.tuple #[.string ⟨#[]⟩, .int .i64 2]) ∧ Below w.heap.size w w' := by
  have HR := Lib.hid (rm_yes A c L w h ha)
  have hi := info76_iv (x := mc L) (mcP_len L 36)
  have hsz := hsz76 L
  have HP := Lib.hid (fun V => isState_b (mc L) (nS L) p V (mcP_len L 36) (mcP_n L 36))
  have HQ := Lib.hid (fun V => isState_b (mc L) (nS L) q V (mcP_len L 36) (mcP_n L 36))
  clear h ha
  cases hP : isQ (nS L) p
  · rw [hP] at HP
    clear HQ hb hP
    go_enter Tryd.func29, Tryd.ntmps29
    go_wp2_with (first
      | (go_at_call 50; refine HR.out.mono ?_; rintro e w2 ⟨rfl, b2⟩; have q0 : Row (w2.alloc (.cells #[.int .i64 0, .int .i64 0, .int .i64 0, .int .i64 0, .int .i64 0, .int .i64 0, .int .i64 0, .int .i64 0, .int .i64 0, .int .i64 0, .int .i64 0, .int .i64 0, .int .i64 0, .int .i64 0, .int .i64 0, .int .i64 0, .int .i64 0, .int .i64 0, .int .i64 0, .int .i64 0, .int .i64 0, .int .i64 0, .int .i64 0, .int .i64 0, .int .i64 0, .int .i64 0, .int .i64 0, .int .i64 0, .int .i64 0, .int .i64 0, .int .i64 0, .int .i64 0, .int .i64 0, .int .i64 0, .int .i64 0, .int .i64 0, .int .i64 0, .int .i64 0] 76)) w2.heap.size 76 Z38 := row_new rfl; have b0 := b2.alloc b2.size (.cells #[.int .i64 0, .int .i64 0, .int .i64 0, .int .i64 0, .int .i64 0, .int .i64 0, .int .i64 0, .int .i64 0, .int .i64 0, .int .i64 0, .int .i64 0, .int .i64 0, .int .i64 0, .int .i64 0, .int .i64 0, .int .i64 0, .int .i64 0, .int .i64 0, .int .i64 0, .int .i64 0, .int .i64 0, .int .i64 0, .int .i64 0, .int .i64 0, .int .i64 0, .int .i64 0, .int .i64 0, .int .i64 0, .int .i64 0, .int .i64 0, .int .i64 0, .int .i64 0, .int .i64 0, .int .i64 0, .int .i64 0, .int .i64 0, .int .i64 0, .int .i64 0] 76); have hbz := b2.size)
      | (with_reducible refine (?_ : wpList _ _ _ (Oper.mk _ (Op.store 76 (.tmp 8) _) _ _ _ _ :: _) _ _); refine wpList_store_row rfl 76 (.tmp 8) (.tmp 15) rfl w2.heap.size (iv (mc L)).toArray rfl rfl 76 Z38.toArray (row_heap q0) hi hsz (iv_all _) ?_; replace q0 := q0.row (iv (mc L)); replace b0 := below_row (g := w2.heap.size) b0 hbz (iv (mc L)).toArray; generalize World.setRow (w2.alloc _) _ _ = W at *)
      | ((with_reducible refine (?_ : wpList _ _ _ (Oper.mk (some 20) _ _ _ _ _ :: _) _ _)); refine wpList_load_row_w rfl 76 (.tmp 8) rfl w2.heap.size rfl 76 (iv (mc L)).toArray (0, 0) _ (row_heap q0) Tryd.underlying76 rfl hi ?_)
      | (go_at_call 59; refine (HP.out _).mono ?_; rintro e w3 ⟨rfl, b3⟩; replace b0 := b0.trans (b3.mono b0.size)))
    go_ret2
    exact ⟨rfl, b0⟩
  · have hQ : isQ (nS L) q = false := by rw [hP] at hb; exact hb
    rw [hP] at HP
    rw [hQ] at HQ
    clear hb hP hQ
    go_enter Tryd.func29, Tryd.ntmps29
    go_wp2_with (first
      | (go_at_call 50; refine HR.out.mono ?_; rintro e w2 ⟨rfl, b2⟩; have q0 : Row (w2.alloc (.cells #[.int .i64 0, .int .i64 0, .int .i64 0, .int .i64 0, .int .i64 0, .int .i64 0, .int .i64 0, .int .i64 0, .int .i64 0, .int .i64 0, .int .i64 0, .int .i64 0, .int .i64 0, .int .i64 0, .int .i64 0, .int .i64 0, .int .i64 0, .int .i64 0, .int .i64 0, .int .i64 0, .int .i64 0, .int .i64 0, .int .i64 0, .int .i64 0, .int .i64 0, .int .i64 0, .int .i64 0, .int .i64 0, .int .i64 0, .int .i64 0, .int .i64 0, .int .i64 0, .int .i64 0, .int .i64 0, .int .i64 0, .int .i64 0, .int .i64 0, .int .i64 0] 76)) w2.heap.size 76 Z38 := row_new rfl; have b0 := b2.alloc b2.size (.cells #[.int .i64 0, .int .i64 0, .int .i64 0, .int .i64 0, .int .i64 0, .int .i64 0, .int .i64 0, .int .i64 0, .int .i64 0, .int .i64 0, .int .i64 0, .int .i64 0, .int .i64 0, .int .i64 0, .int .i64 0, .int .i64 0, .int .i64 0, .int .i64 0, .int .i64 0, .int .i64 0, .int .i64 0, .int .i64 0, .int .i64 0, .int .i64 0, .int .i64 0, .int .i64 0, .int .i64 0, .int .i64 0, .int .i64 0, .int .i64 0, .int .i64 0, .int .i64 0, .int .i64 0, .int .i64 0, .int .i64 0, .int .i64 0, .int .i64 0, .int .i64 0] 76); have hbz := b2.size)
      | (with_reducible refine (?_ : wpList _ _ _ (Oper.mk _ (Op.store 76 (.tmp 8) _) _ _ _ _ :: _) _ _); refine wpList_store_row rfl 76 (.tmp 8) (.tmp 15) rfl w2.heap.size (iv (mc L)).toArray rfl rfl 76 Z38.toArray (row_heap q0) hi hsz (iv_all _) ?_; replace q0 := q0.row (iv (mc L)); replace b0 := below_row (g := w2.heap.size) b0 hbz (iv (mc L)).toArray; generalize World.setRow (w2.alloc _) _ _ = W at *)
      | ((with_reducible refine (?_ : wpList _ _ _ (Oper.mk (some 20) _ _ _ _ _ :: _) _ _)); refine wpList_load_row_w rfl 76 (.tmp 8) rfl w2.heap.size rfl 76 (iv (mc L)).toArray (0, 0) _ (row_heap q0) Tryd.underlying76 rfl hi ?_)
      | (go_at_call 59; first | (with_reducible refine (HP.out _).mono ?_; rintro e w3 ⟨rfl, b3⟩; have q1 := q0.below b3; replace b0 := b0.trans (b3.mono b0.size)) | (with_reducible refine (HQ.out _).mono ?_; rintro e w4 ⟨rfl, b4⟩; replace b0 := b0.trans (b4.mono b0.size)))
      | ((with_reducible refine (?_ : wpList _ _ _ (Oper.mk (some 26) _ _ _ _ _ :: _) _ _)); refine wpList_load_row_w rfl 76 (.tmp 8) rfl w2.heap.size rfl 76 (iv (mc L)).toArray (0, 0) _ (row_heap q1) Tryd.underlying76 rfl hi ?_))
    go_ret2
    exact ⟨rfl, b0⟩
theorem Merge_yes (A : Option Addr) (c : Nat) (L : List (List Int)) (p q : Nat) (w : World) (h : IsMI L) (ha : RowsAt w A L) (ht : TabW w) (hp : p < nS L) (hq : q < nS L) :
    Calls Tryd.prog 29 #[.slice A L.length c, .int .i64 p, .int .i64 q] w fun e w' => e = .returned (.tuple #[.string (if szS (shP L p q).1 = 1 then wS (shP L p q).2 else ⟨#[]⟩), .int .i64 (if szS (shP L p q).1 = 1 then 0 else 6)]) ∧ Below w.heap.size w w' := by
  have HR := Lib.hid (rm_yes A c L w h ha)
  have hi := info76_iv (x := mc L) (mcP_len L 36)
  have hi4 := hi76L L
  have hsz := hsz76 L
  have hn9 := h.n9
  have HP : Hid (∀ V, Calls Tryd.prog 59 #[.agg (iv (mc L)).toArray, .int .i64 (p : Int)] V fun e w' => e = .returned (.bool true) ∧ Below V.heap.size V w') := Lib.hid (fun V => by
    have := isState_b (mc L) (nS L) p V (mcP_len L 36) (mcP_n L 36)
    rwa [show isQ (nS L) (p : Int) = true by simp [isQ, hp]] at this)
  have HQ : Hid (∀ V, Calls Tryd.prog 59 #[.agg (iv (mc L)).toArray, .int .i64 (q : Int)] V fun e w' => e = .returned (.bool true) ∧ Below V.heap.size V w') := Lib.hid (fun V => by
    have := isState_b (mc L) (nS L) q V (mcP_len L 36) (mcP_n L 36)
    rwa [show isQ (nS L) (q : Int) = true by simp [isQ, hq]] at this)
  obtain ⟨s1, s2, -⟩ := sg_set hn9 hp hq
  have hX := seek_one h.isM s1 s2
  have HFM := Lib.hid (fun (V : World) (hV : Below w.heap.size w V) => searchFewer_any L (sg p q) 1 V h s1 s2 (by omega) (ht.below hV ht.lt))
  have HW1 : Hid (∀ V, Calls Tryd.prog 60 #[.int .u16 0, .int .i64 p] V fun e w' => e = .returned (.int .u16 (sWith 0 p)) ∧ Below V.heap.size V w') := Lib.hid (fun V => (with_any 0 p V (by omega) (by omega)).mono (fun e w' ⟨a, b⟩ => ⟨a, b ▸ Below.refl _ _⟩))
  have HW2 : Hid (∀ V, Calls Tryd.prog 60 #[.int .u16 (sWith 0 p), .int .i64 q] V fun e w' => e = .returned (.int .u16 (sg p q)) ∧ Below V.heap.size V w') := Lib.hid (fun V => (with_any (sWith 0 p) q V (by have := or_lt (a := 0) (b := p) (by omega) (by omega); unfold sWith; omega) (by omega)).mono (fun e w' ⟨a, b⟩ => ⟨a, b ▸ Below.refl _ _⟩))
  have hZ : shE (tabN L) L.length (sg p q) = shP L p q := rfl
  rw [hZ] at hX
  clear hZ h ha ht hp hq hn9 s1 s2
  generalize shP L p q = Z at *
  obtain ⟨z, y⟩ := Z
  by_cases h1 : szS z = 1
  · rw [if_pos h1] at hX
    rw [hX] at HFM
    have HF3 : Hid (∀ V : World, Below w.heap.size w V → Calls Tryd.prog 51 #[.agg (iv (mc L)).toArray, .int .u16 (sg p q), .int .i64 1] V fun e w' => e = .returned (.tuple #[.string (wS y), .int .u16 (z : Nat), .bool true]) ∧ Below V.heap.size V w') := HFM
    show Calls _ _ _ _ fun e w' => e = .returned (.tuple #[.string (if szS z = 1 then wS y else ⟨#[]⟩), .int .i64 (if szS z = 1 then 0 else 6)]) ∧ _
    rw [if_pos h1, if_pos h1]
    clear HFM hX h1
    generalize sg p q = S at *
    generalize sWith 0 p = S1 at *
    generalize wS y = yy at *
    go_enter Tryd.func29, Tryd.ntmps29
    go_wp2_with (first
      | (go_at_call 50; refine HR.out.mono ?_; rintro e w2 ⟨rfl, b2⟩; have q0 : Row (w2.alloc (.cells #[.int .i64 0, .int .i64 0, .int .i64 0, .int .i64 0, .int .i64 0, .int .i64 0, .int .i64 0, .int .i64 0, .int .i64 0, .int .i64 0, .int .i64 0, .int .i64 0, .int .i64 0, .int .i64 0, .int .i64 0, .int .i64 0, .int .i64 0, .int .i64 0, .int .i64 0, .int .i64 0, .int .i64 0, .int .i64 0, .int .i64 0, .int .i64 0, .int .i64 0, .int .i64 0, .int .i64 0, .int .i64 0, .int .i64 0, .int .i64 0, .int .i64 0, .int .i64 0, .int .i64 0, .int .i64 0, .int .i64 0, .int .i64 0, .int .i64 0, .int .i64 0] 76)) w2.heap.size 76 Z38 := row_new rfl; have b0 := b2.alloc b2.size (.cells #[.int .i64 0, .int .i64 0, .int .i64 0, .int .i64 0, .int .i64 0, .int .i64 0, .int .i64 0, .int .i64 0, .int .i64 0, .int .i64 0, .int .i64 0, .int .i64 0, .int .i64 0, .int .i64 0, .int .i64 0, .int .i64 0, .int .i64 0, .int .i64 0, .int .i64 0, .int .i64 0, .int .i64 0, .int .i64 0, .int .i64 0, .int .i64 0, .int .i64 0, .int .i64 0, .int .i64 0, .int .i64 0, .int .i64 0, .int .i64 0, .int .i64 0, .int .i64 0, .int .i64 0, .int .i64 0, .int .i64 0, .int .i64 0, .int .i64 0, .int .i64 0] 76); have hbz := b2.size)
      | (with_reducible refine (?_ : wpList _ _ _ (Oper.mk _ (Op.store 76 (.tmp 8) _) _ _ _ _ :: _) _ _); refine wpList_store_row rfl 76 (.tmp 8) (.tmp 15) rfl w2.heap.size (iv (mc L)).toArray rfl rfl 76 Z38.toArray (row_heap q0) hi hsz (iv_all _) ?_; replace q0 := q0.row (iv (mc L)); replace b0 := below_row (g := w2.heap.size) b0 hbz (iv (mc L)).toArray; generalize World.setRow (w2.alloc _) _ _ = W at *)
      | ((with_reducible refine (?_ : wpList _ _ _ (Oper.mk (some 20) _ _ _ _ _ :: _) _ _)); refine wpList_load_row_w rfl 76 (.tmp 8) rfl w2.heap.size rfl 76 (iv (mc L)).toArray (0, 0) _ (row_heap q0) Tryd.underlying76 rfl hi ?_)
      | (go_at_call 59; first | (with_reducible refine (HP.out _).mono ?_; rintro e w3 ⟨rfl, b3⟩; have q1 := q0.below b3; replace b0 := b0.trans (b3.mono b0.size)) | (with_reducible refine (HQ.out _).mono ?_; rintro e w4 ⟨rfl, b4⟩; have q2 := q1.below b4; replace b0 := b0.trans (b4.mono b0.size)))
      | ((with_reducible refine (?_ : wpList _ _ _ (Oper.mk (some 26) _ _ _ _ _ :: _) _ _)); refine wpList_load_row_w rfl 76 (.tmp 8) rfl w2.heap.size rfl 76 (iv (mc L)).toArray (0, 0) _ (row_heap q1) Tryd.underlying76 rfl hi ?_))
    refine wp_region_class_all (C := fun w' => ∃ u : After _, w' = u.v) (by kernel_rfl) (by kernel_rfl) (isAfter_start _) ?_
    try simp only [Act.put]
    repeat (first | ((with_reducible refine (?_ : wpQuiet _ _ _ _ (Oper.mk (some 32) _ _ _ _ _ :: _) _); go_big_quiet_want); refine quiet_load_row 76 (.tmp 8) rfl w2.heap.size rfl 76 (iv (mc L)) _ (fun _ hc => after_row q2 hc) Tryd.underlying76 rfl hi4 ?_; simp only [Act.put, List.setIfInBounds_toArray, List.set_cons_zero, List.set_cons_succ]; go_big_quiet_on) | go_big_quiet_step ((first | (with_reducible refine (HW1.out _).mono ?_; rintro e w8 ⟨rfl, b8⟩; exact ⟨rfl, After.done _ b8⟩) | (with_reducible refine (HW2.out _).mono ?_; rintro e w8 ⟨rfl, b8⟩; exact ⟨rfl, After.done _ b8⟩) | (refine (HF3.out _ (b0.trans (After.mono' _ b0))).mono ?_; rintro e w8 ⟨rfl, b8⟩; exact ⟨rfl, After.done _ b8⟩))))
    refine wpQuiet_nil ?_
    rintro _ ⟨ua, rfl⟩
    go_wp2
    go_ret2
    exact ⟨rfl, b0.trans (ua.h.mono b0.size)⟩
  · rw [if_neg h1] at hX
    rw [hX] at HFM
    have HF3 : Hid (∀ V : World, Below w.heap.size w V → Calls Tryd.prog 51 #[.agg (iv (mc L)).toArray, .int .u16 (sg p q), .int .i64 1] V fun e w' => e = .returned (.tuple #[.string ⟨#[]⟩, .int .u16 0, .bool false]) ∧ Below V.heap.size V w') := HFM
    show Calls _ _ _ _ fun e w' => e = .returned (.tuple #[.string (if szS z = 1 then wS y else ⟨#[]⟩), .int .i64 (if szS z = 1 then 0 else 6)]) ∧ _
    rw [if_neg h1, if_neg h1]
    clear HFM hX h1
    generalize sg p q = S at *
    generalize sWith 0 p = S1 at *
    go_enter Tryd.func29, Tryd.ntmps29
    go_wp2_with (first
      | (go_at_call 50; refine HR.out.mono ?_; rintro e w2 ⟨rfl, b2⟩; have q0 : Row (w2.alloc (.cells #[.int .i64 0, .int .i64 0, .int .i64 0, .int .i64 0, .int .i64 0, .int .i64 0, .int .i64 0, .int .i64 0, .int .i64 0, .int .i64 0, .int .i64 0, .int .i64 0, .int .i64 0, .int .i64 0, .int .i64 0, .int .i64 0, .int .i64 0, .int .i64 0, .int .i64 0, .int .i64 0, .int .i64 0, .int .i64 0, .int .i64 0, .int .i64 0, .int .i64 0, .int .i64 0, .int .i64 0, .int .i64 0, .int .i64 0, .int .i64 0, .int .i64 0, .int .i64 0, .int .i64 0, .int .i64 0, .int .i64 0, .int .i64 0, .int .i64 0, .int .i64 0] 76)) w2.heap.size 76 Z38 := row_new rfl; have b0 := b2.alloc b2.size (.cells #[.int .i64 0, .int .i64 0, .int .i64 0, .int .i64 0, .int .i64 0, .int .i64 0, .int .i64 0, .int .i64 0, .int .i64 0, .int .i64 0, .int .i64 0, .int .i64 0, .int .i64 0, .int .i64 0, .int .i64 0, .int .i64 0, .int .i64 0, .int .i64 0, .int .i64 0, .int .i64 0, .int .i64 0, .int .i64 0, .int .i64 0, .int .i64 0, .int .i64 0, .int .i64 0, .int .i64 0, .int .i64 0, .int .i64 0, .int .i64 0, .int .i64 0, .int .i64 0, .int .i64 0, .int .i64 0, .int .i64 0, .int .i64 0, .int .i64 0, .int .i64 0] 76); have hbz := b2.size)
      | (with_reducible refine (?_ : wpList _ _ _ (Oper.mk _ (Op.store 76 (.tmp 8) _) _ _ _ _ :: _) _ _); refine wpList_store_row rfl 76 (.tmp 8) (.tmp 15) rfl w2.heap.size (iv (mc L)).toArray rfl rfl 76 Z38.toArray (row_heap q0) hi hsz (iv_all _) ?_; replace q0 := q0.row (iv (mc L)); replace b0 := below_row (g := w2.heap.size) b0 hbz (iv (mc L)).toArray; generalize World.setRow (w2.alloc _) _ _ = W at *)
      | ((with_reducible refine (?_ : wpList _ _ _ (Oper.mk (some 20) _ _ _ _ _ :: _) _ _)); refine wpList_load_row_w rfl 76 (.tmp 8) rfl w2.heap.size rfl 76 (iv (mc L)).toArray (0, 0) _ (row_heap q0) Tryd.underlying76 rfl hi ?_)
      | (go_at_call 59; first | (with_reducible refine (HP.out _).mono ?_; rintro e w3 ⟨rfl, b3⟩; have q1 := q0.below b3; replace b0 := b0.trans (b3.mono b0.size)) | (with_reducible refine (HQ.out _).mono ?_; rintro e w4 ⟨rfl, b4⟩; have q2 := q1.below b4; replace b0 := b0.trans (b4.mono b0.size)))
      | ((with_reducible refine (?_ : wpList _ _ _ (Oper.mk (some 26) _ _ _ _ _ :: _) _ _)); refine wpList_load_row_w rfl 76 (.tmp 8) rfl w2.heap.size rfl 76 (iv (mc L)).toArray (0, 0) _ (row_heap q1) Tryd.underlying76 rfl hi ?_))
    refine wp_region_class_all (C := fun w' => ∃ u : After _, w' = u.v) (by kernel_rfl) (by kernel_rfl) (isAfter_start _) ?_
    try simp only [Act.put]
    repeat (first | ((with_reducible refine (?_ : wpQuiet _ _ _ _ (Oper.mk (some 32) _ _ _ _ _ :: _) _); go_big_quiet_want); refine quiet_load_row 76 (.tmp 8) rfl w2.heap.size rfl 76 (iv (mc L)) _ (fun _ hc => after_row q2 hc) Tryd.underlying76 rfl hi4 ?_; simp only [Act.put, List.setIfInBounds_toArray, List.set_cons_zero, List.set_cons_succ]; go_big_quiet_on) | go_big_quiet_step ((first | (with_reducible refine (HW1.out _).mono ?_; rintro e w8 ⟨rfl, b8⟩; exact ⟨rfl, After.done _ b8⟩) | (with_reducible refine (HW2.out _).mono ?_; rintro e w8 ⟨rfl, b8⟩; exact ⟨rfl, After.done _ b8⟩) | (refine (HF3.out _ (b0.trans (After.mono' _ b0))).mono ?_; rintro e w8 ⟨rfl, b8⟩; exact ⟨rfl, After.done _ b8⟩))))
    refine wpQuiet_nil ?_
    rintro _ ⟨ua, rfl⟩
    go_wp2
    go_ret2
    exact ⟨rfl, b0.trans (ua.h.mono b0.size)⟩
end Go.Proofs.YtignbpipdfjkeaaDoor
