/- The states of a set, and Image. -/
import Derived.Test.YtignbpipdfjkeaaDoorBM
namespace Go.Proofs.YtignbpipdfjkeaaDoor
open Go.RowKit Go.PlainAid
set_option maxHeartbeats 2000000
set_option maxRecDepth 100000
theorem lsI_step {r : Nat} (h0 : r ≠ 0) (hr : r < 512) : lsI r = (tzS r : Int) :: lsI (r &&& (r - 1)) := by
  obtain ⟨hbs, -⟩ := bits_step h0 hr
  unfold lsI
  rw [hbs]; rfl
theorem lsI_zero : lsI 0 = [] := rfl
theorem list_any (s : Nat) (w : World) (hs : s < 512) (ht : TabW w) : Calls Tryd.prog 64 #[.int .u16 s] w (NewL w (lsI s)) := by
  obtain ⟨j0, ji, jz0, jz1, jz2⟩ := info_parts info3
  have HT := Lib.hid (fun V (hV : Below w.heap.size w V) => ht.below hV ht.lt)
  have o0 : w.ownsRow w.heap.size 3 1 (.slice none 0 0) ([] : List Int).length (iv []) := ⟨rfl, .inl ⟨rfl, rfl⟩⟩
  have b0 := Below.refl w.heap.size w
  have HL : Hid (∀ r, r < 512 → (lsI r).length ≤ 9) := Lib.hid (fun r _ => by rw [lsI_len]; exact sz_le r)
  have HLS := Lib.hid (HL.out s hs)
  obtain ⟨Z, hZ⟩ : ∃ Z, lsI s = Z := ⟨_, rfl⟩
  have HZ0 : Hid ([] ++ lsI s = Z) := Lib.hid hZ
  rw [hZ] at HLS ⊢
  clear ht hZ
  go_enter Tryd.func64, Tryd.ntmps64
  go_wp2
  go_loopw [3, 4] (fun v r wr => ∃ (acc : List Int) (q : Nat), r = .int .u16 q ∧ q < 512 ∧ wr.ownsRow w.heap.size 3 1 v acc.length (iv acc) ∧ Below w.heap.size w wr ∧ Hid (acc ++ lsI q = Z)) (fun _ r _ => (intOf r).toNat)
  case atStart => exact ⟨[], s, rfl, hs, o0, b0, HZ0⟩
  case round =>
    clear o0 b0 HZ0 hs
    obtain ⟨acc, r, rfl, hr, o0, b0, HZ⟩ := hrel
    obtain ⟨A2, c2, rfl, -, -, -⟩ := own_intsI o0
    by_cases h0 : r = 0
    · subst h0
      have hz : acc = Z := by rw [← HZ.out, lsI_zero, List.append_nil]
      subst hz
      go_wp2
      go_ret
      exact ⟨_, rfl, o0, b0⟩
    · have hne : ((r : Int) != 0) = true := by simp; omega
      have HST := Lib.hid (lsI_step h0 hr)
      have hal : acc.length ≤ 9 := by
        have h1 := congrArg List.length HZ.out
        rw [List.length_append] at h1
        have := HLS.out
        omega
      have HSM := Lib.hid (smallest_any r wr (.inl ⟨by omega, hr⟩) (HT.out wr b0))
      have HNB := Lib.hid (next_bits h0 hr)
      have hlt := and_pred h0
      obtain ⟨q, hq⟩ : ∃ q, tzS r = q := ⟨_, rfl⟩
      rw [hq] at HST HSM
      have hbs := b0.size
      clear hq
      go_wp2_with (first
        | (go_at_call 53; refine HSM.out.mono ?_; rintro e w2 ⟨rfl, n2, rfl⟩; have o2 := o0.kept' (below_drewN n2); have b2 := b0.trans (below_drewN n2); generalize World.drewN wr n2 = W2 at *; have hb2 := b2.size; have hnr : Row (W2.alloc (.cells #[.int .i64 (q : Int)] 3)) W2.heap.size 3 [.int .i64 (q : Int)] := row_new rfl)
        | ((with_reducible refine (?_ : wpList _ _ _ (Oper.mk (some 16) _ _ _ _ _ :: _) _ _)); refine wpList_append_own_at _ rfl _ _ 29 rfl w.heap.size 3 j0 (.int .i64 0) 1 8 Tryd.underlying29 ji jz0 jz1 jz2 rfl (by decide) _ _ _ rfl (o2.alloc _) ⟨W2.heap.size, 0, none⟩ 1 1 [.int .i64 (q : Int)] rfl rfl (news_one hnr) (by simp [Value.oneCell']) (by unfold maxLen; omega) (by omega) (by simp; omega) ?_; intro v3 w3 o3 hg3 _ _; have b3 := b2.trans (app1' o2 hb2 hg3)))
      have hs1 : ((r : Int) - 1) % 65536 = (r : Int) - 1 := by omega
      have HN2 := HNB.out
      go_wp2
      go_roundw
      case rel => exact ⟨acc ++ [(q : Int)], r &&& (r - 1), by rw [HN2], by omega, by rw [List.length_append, List.length_singleton, iv_snoc]; exact o3, b3, Lib.hid (by rw [List.append_assoc, List.singleton_append, ← HST.out, HZ.out])⟩
      case measure => simp [intOf]; omega
theorem Image_no (A B : Option Addr) (c d n : Nat) (L : List (List Int)) (s : ByteArray) (w : World) (hv : okM L = false) (ha : RowsAt w A L) :
    Calls Tryd.prog 32 #[.slice A L.length c, .slice B n d, .string s] w fun e w' => e = .returned (.tuple #[.slice none 0 0, .int .i64 2]) ∧ Below w.heap.size w w' := by
  have HR := Lib.hid (rm_no A c L w hv ha)
  clear hv ha
  go_enter Tryd.func32, Tryd.ntmps32
  go_wp2_with (first
    | (go_at_call 50; refine HR.out.mono ?_; rintro e w2 ⟨rfl, b2⟩; have q0 : Row (w2.alloc (.cells #[.int .i64 0, .int .i64 0, .int .i64 0, .int .i64 0, .int .i64 0, .int .i64 0, .int .i64 0, .int .i64 0, .int .i64 0, .int .i64 0, .int .i64 0, .int .i64 0, .int .i64 0, .int .i64 0, .int .i64 0, .int .i64 0, .int .i64 0, .int .i64 0, .int .i64 0, .int .i64 0, .int .i64 0, .int .i64 0, .int .i64 0, .int .i64 0, .int .i64 0, .int .i64 0, .int .i64 0, .int .i64 0, .int .i64 0, .int .i64 0, .int .i64 0, .int .i64 0, .int .i64 0, .int .i64 0, .int .i64 0, .int .i64 0, .int .i64 0, .int .i64 0] 76)) w2.heap.size 76 Z38 := row_new rfl; have b0 := b2.alloc b2.size (.cells #[.int .i64 0, .int .i64 0, .int .i64 0, .int .i64 0, .int .i64 0, .int .i64 0, .int .i64 0, .int .i64 0, .int .i64 0, .int .i64 0, .int .i64 0, .int .i64 0, .int .i64 0, .int .i64 0, .int .i64 0, .int .i64 0, .int .i64 0, .int .i64 0, .int .i64 0, .int .i64 0, .int .i64 0, .int .i64 0, .int .i64 0, .int .i64 0, .int .i64 0, .int .i64 0, .int .i64 0, .int .i64 0, .int .i64 0, .int .i64 0, .int .i64 0, .int .i64 0, .int .i64 0, .int .i64 0, .int .i64 0, .int .i64 0, .int .i64 0, .int .i64 0] 76); have hbz := b2.size)
    | (with_reducible refine (?_ : wpList _ _ _ (Oper.mk _ (Op.store 76 (.tmp 8) _) _ _ _ _ :: _) _ _); refine wpList_store_row rfl 76 (.tmp 8) (.tmp 14) rfl w2.heap.size Z38.toArray rfl rfl 76 Z38.toArray (row_heap q0) info76_z rfl z38_all ?_; replace b0 := below_row (g := w2.heap.size) b0 hbz Z38.toArray; generalize World.setRow (w2.alloc _) _ _ = W at *))
  go_ret2
  exact ⟨rfl, b0⟩
theorem Image_bad1 (A B : Option Addr) (c d : Nat) (L : List (List Int)) (l : List Int) (s : ByteArray) (w : World) (h : IsMI L) (hl : l.length ≤ 1000) (ha : RowsAt w A L) (hb : IntsAt w B l) (ho : okS (nS L) l = false) :
    Calls Tryd.prog 32 #[.slice A L.length c, .slice B l.length d, .string s] w fun e w' => e = .returned (.tuple #[.slice none 0 0, .int .i64 2]) ∧ Below w.heap.size w w' := by
  have HR := Lib.hid (rm_yes A c L w h ha)
  have hi := info76_iv (x := mc L) (mcP_len L 36)
  have hsz := hsz76 L
  have HS := Lib.hid (fun V (hV : Below w.heap.size w V) => readSet_any L B d l V h hl (hb.below hV))
  rw [ho, setR_no ho] at HS
  clear h ha hb ho
  go_enter Tryd.func32, Tryd.ntmps32
  go_wp2_with (first
    | (go_at_call 50; refine HR.out.mono ?_; rintro e w2 ⟨rfl, b2⟩; have q0 : Row (w2.alloc (.cells #[.int .i64 0, .int .i64 0, .int .i64 0, .int .i64 0, .int .i64 0, .int .i64 0, .int .i64 0, .int .i64 0, .int .i64 0, .int .i64 0, .int .i64 0, .int .i64 0, .int .i64 0, .int .i64 0, .int .i64 0, .int .i64 0, .int .i64 0, .int .i64 0, .int .i64 0, .int .i64 0, .int .i64 0, .int .i64 0, .int .i64 0, .int .i64 0, .int .i64 0, .int .i64 0, .int .i64 0, .int .i64 0, .int .i64 0, .int .i64 0, .int .i64 0, .int .i64 0, .int .i64 0, .int .i64 0, .int .i64 0, .int .i64 0, .int .i64 0, .int .i64 0] 76)) w2.heap.size 76 Z38 := row_new rfl; have b0 := b2.alloc b2.size (.cells #[.int .i64 0, .int .i64 0, .int .i64 0, .int .i64 0, .int .i64 0, .int .i64 0, .int .i64 0, .int .i64 0, .int .i64 0, .int .i64 0, .int .i64 0, .int .i64 0, .int .i64 0, .int .i64 0, .int .i64 0, .int .i64 0, .int .i64 0, .int .i64 0, .int .i64 0, .int .i64 0, .int .i64 0, .int .i64 0, .int .i64 0, .int .i64 0, .int .i64 0, .int .i64 0, .int .i64 0, .int .i64 0, .int .i64 0, .int .i64 0, .int .i64 0, .int .i64 0, .int .i64 0, .int .i64 0, .int .i64 0, .int .i64 0, .int .i64 0, .int .i64 0] 76); have hbz := b2.size)
    | (with_reducible refine (?_ : wpList _ _ _ (Oper.mk _ (Op.store 76 (.tmp 8) _) _ _ _ _ :: _) _ _); refine wpList_store_row rfl 76 (.tmp 8) (.tmp 14) rfl w2.heap.size (iv (mc L)).toArray rfl rfl 76 Z38.toArray (row_heap q0) hi hsz (iv_all _) ?_; replace q0 := q0.row (iv (mc L)); replace b0 := below_row (g := w2.heap.size) b0 hbz (iv (mc L)).toArray; generalize World.setRow (w2.alloc _) _ _ = W at *)
    | ((with_reducible refine (?_ : wpList _ _ _ (Oper.mk (some 19) _ _ _ _ _ :: _) _ _)); refine wpList_load_row rfl 76 (.tmp 8) rfl w2.heap.size rfl 76 (iv (mc L)).toArray (0, 0) _ (row_heap q0) Tryd.underlying76 rfl hi ?_)
    | (go_at_call 61; refine (HS.out _ b0).mono ?_; rintro e w3 ⟨rfl, b3⟩; have q1 := q0.below b3; replace b0 := b0.trans (b3.mono b0.size)))
  go_ret2
  exact ⟨rfl, b0⟩
theorem Image_bad2 (A B : Option Addr) (c d : Nat) (L : List (List Int)) (l : List Int) (s : ByteArray) (w : World) (h : IsMI L) (hl : l.length ≤ 1000) (ha : RowsAt w A L) (hb : IntsAt w B l) (ho : okS (nS L) l = true) (hs : okB L.length s = false) (hs1 : s.size ≤ 1000000) :
    Calls Tryd.prog 32 #[.slice A L.length c, .slice B l.length d, .string s] w fun e w' => e = .returned (.tuple #[.slice none 0 0, .int .i64 2]) ∧ Below w.heap.size w w' := by
  have HR := Lib.hid (rm_yes A c L w h ha)
  have hi := info76_iv (x := mc L) (mcP_len L 36)
  have hsz := hsz76 L
  have HS := Lib.hid (fun V (hV : Below w.heap.size w V) => readSet_any L B d l V h hl (hb.below hV))
  rw [ho, setR_yes ho] at HS
  have HW := Lib.hid (fun V => isWord_any L s V h hs1)
  rw [hs] at HW
  clear h ha hb ho hs
  generalize setL l = q at *
  go_enter Tryd.func32, Tryd.ntmps32
  go_wp2_with (first
    | (go_at_call 50; refine HR.out.mono ?_; rintro e w2 ⟨rfl, b2⟩; have q0 : Row (w2.alloc (.cells #[.int .i64 0, .int .i64 0, .int .i64 0, .int .i64 0, .int .i64 0, .int .i64 0, .int .i64 0, .int .i64 0, .int .i64 0, .int .i64 0, .int .i64 0, .int .i64 0, .int .i64 0, .int .i64 0, .int .i64 0, .int .i64 0, .int .i64 0, .int .i64 0, .int .i64 0, .int .i64 0, .int .i64 0, .int .i64 0, .int .i64 0, .int .i64 0, .int .i64 0, .int .i64 0, .int .i64 0, .int .i64 0, .int .i64 0, .int .i64 0, .int .i64 0, .int .i64 0, .int .i64 0, .int .i64 0, .int .i64 0, .int .i64 0, .int .i64 0, .int .i64 0] 76)) w2.heap.size 76 Z38 := row_new rfl; have b0 := b2.alloc b2.size (.cells #[.int .i64 0, .int .i64 0, .int .i64 0, .int .i64 0, .int .i64 0, .int .i64 0, .int .i64 0, .int .i64 0, .int .i64 0, .int .i64 0, .int .i64 0, .int .i64 0, .int .i64 0, .int .i64 0, .int .i64 0, .int .i64 0, .int .i64 0, .int .i64 0, .int .i64 0, .int .i64 0, .int .i64 0, .int .i64 0, .int .i64 0, .int .i64 0, .int .i64 0, .int .i64 0, .int .i64 0, .int .i64 0, .int .i64 0, .int .i64 0, .int .i64 0, .int .i64 0, .int .i64 0, .int .i64 0, .int .i64 0, .int .i64 0, .int .i64 0, .int .i64 0] 76); have hbz := b2.size)
    | (with_reducible refine (?_ : wpList _ _ _ (Oper.mk _ (Op.store 76 (.tmp 8) _) _ _ _ _ :: _) _ _); refine wpList_store_row rfl 76 (.tmp 8) (.tmp 14) rfl w2.heap.size (iv (mc L)).toArray rfl rfl 76 Z38.toArray (row_heap q0) hi hsz (iv_all _) ?_; replace q0 := q0.row (iv (mc L)); replace b0 := below_row (g := w2.heap.size) b0 hbz (iv (mc L)).toArray; generalize World.setRow (w2.alloc _) _ _ = W at *)
    | ((with_reducible refine (?_ : wpList _ _ _ (Oper.mk (some 19) _ _ _ _ _ :: _) _ _)); refine wpList_load_row rfl 76 (.tmp 8) rfl w2.heap.size rfl 76 (iv (mc L)).toArray (0, 0) _ (row_heap q0) Tryd.underlying76 rfl hi ?_)
    | (go_at_call 61; refine (HS.out _ b0).mono ?_; rintro e w3 ⟨rfl, b3⟩; have q1 := q0.below b3; replace b0 := b0.trans (b3.mono b0.size))
    | ((with_reducible refine (?_ : wpList _ _ _ (Oper.mk (some 27) _ _ _ _ _ :: _) _ _)); refine wpList_load_row_w rfl 76 (.tmp 8) rfl w2.heap.size rfl 76 (iv (mc L)).toArray (0, 0) _ (row_heap q1) Tryd.underlying76 rfl hi ?_)
    | (go_at_call 62; refine (HW.out _).mono ?_; rintro e w4 ⟨rfl, b4⟩; have q2 := q1.below b4; replace b0 := b0.trans (b4.mono b0.size)))
  go_ret2
  exact ⟨rfl, b0⟩
theorem Image_yes (A B : Option Addr) (c d : Nat) (L : List (List Int)) (l : List Int) (s : ByteArray) (w : World) (h : IsMI L) (hl : l.length ≤ 1000) (ha : RowsAt w A L) (hb : IntsAt w B l) (ho : okS (nS L) l = true) (hs : okB L.length s = true) (hs1 : s.size ≤ 1000000) (ht : TabW w) :
    Calls Tryd.prog 32 #[.slice A L.length c, .slice B l.length d, .string s] w (NewLE w (lsI (imP (tabN L) (setL l) s s.size)) 0) := by
  have HR := Lib.hid (rm_yes A c L w h ha)
  have hi := info76_iv (x := mc L) (mcP_len L 36)
  have hsz := hsz76 L
  have HS := Lib.hid (fun V (hV : Below w.heap.size w V) => readSet_any L B d l V h hl (hb.below hV))
  rw [ho, setR_yes ho] at HS
  have HW := Lib.hid (fun V => isWord_any L s V h hs1)
  rw [hs] at HW
  have HI := Lib.hid (fun V (hV : Below w.heap.size w V) => image_any L (setL l) s V h (setL_set ho) hs (ht.below hV ht.lt))
  have HL := Lib.hid (fun V (hV : Below w.heap.size w V) => list_any (imP (tabN L) (setL l) s s.size) V (set512 h.n9 (imP_set h.isM (setL_set ho) (okB_at hs).2)) (ht.below hV ht.lt))
  clear h ha hb ho hs ht
  generalize imP (tabN L) (setL l) s s.size = t at *
  generalize setL l = q at *
  go_enter Tryd.func32, Tryd.ntmps32
  go_wp2_with (first
    | (go_at_call 50; refine HR.out.mono ?_; rintro e w2 ⟨rfl, b2⟩; have q0 : Row (w2.alloc (.cells #[.int .i64 0, .int .i64 0, .int .i64 0, .int .i64 0, .int .i64 0, .int .i64 0, .int .i64 0, .int .i64 0, .int .i64 0, .int .i64 0, .int .i64 0, .int .i64 0, .int .i64 0, .int .i64 0, .int .i64 0, .int .i64 0, .int .i64 0, .int .i64 0, .int .i64 0, .int .i64 0, .int .i64 0, .int .i64 0, .int .i64 0, .int .i64 0, .int .i64 0, .int .i64 0, .int .i64 0, .int .i64 0, .int .i64 0, .int .i64 0, .int .i64 0, .int .i64 0, .int .i64 0, .int .i64 0, .int .i64 0, .int .i64 0, .int .i64 0, .int .i64 0] 76)) w2.heap.size 76 Z38 := row_new rfl; have b0 := b2.alloc b2.size (.cells #[.int .i64 0, .int .i64 0, .int .i64 0, .int .i64 0, .int .i64 0, .int .i64 0, .int .i64 0, .int .i64 0, .int .i64 0, .int .i64 0, .int .i64 0, .int .i64 0, .int .i64 0, .int .i64 0, .int .i64 0, .int .i64 0, .int .i64 0, .int .i64 0, .int .i64 0, .int .i64 0, .int .i64 0, .int .i64 0, .int .i64 0, .int .i64 0, .int .i64 0, .int .i64 0, .int .i64 0, .int .i64 0, .int .i64 0, .int .i64 0, .int .i64 0, .int .i64 0, .int .i64 0, .int .i64 0, .int .i64 0, .int .i64 0, .int .i64 0, .int .i64 0] 76); have hbz := b2.size)
    | (with_reducible refine (?_ : wpList _ _ _ (Oper.mk _ (Op.store 76 (.tmp 8) _) _ _ _ _ :: _) _ _); refine wpList_store_row rfl 76 (.tmp 8) (.tmp 14) rfl w2.heap.size (iv (mc L)).toArray rfl rfl 76 Z38.toArray (row_heap q0) hi hsz (iv_all _) ?_; replace q0 := q0.row (iv (mc L)); replace b0 := below_row (g := w2.heap.size) b0 hbz (iv (mc L)).toArray; generalize World.setRow (w2.alloc _) _ _ = W at *)
    | ((with_reducible refine (?_ : wpList _ _ _ (Oper.mk (some 19) _ _ _ _ _ :: _) _ _)); refine wpList_load_row rfl 76 (.tmp 8) rfl w2.heap.size rfl 76 (iv (mc L)).toArray (0, 0) _ (row_heap q0) Tryd.underlying76 rfl hi ?_)
    | (go_at_call 61; refine (HS.out _ b0).mono ?_; rintro e w3 ⟨rfl, b3⟩; have q1 := q0.below b3; replace b0 := b0.trans (b3.mono b0.size))
    | ((with_reducible refine (?_ : wpList _ _ _ (Oper.mk (some 27) _ _ _ _ _ :: _) _ _)); refine wpList_load_row_w rfl 76 (.tmp 8) rfl w2.heap.size rfl 76 (iv (mc L)).toArray (0, 0) _ (row_heap q1) Tryd.underlying76 rfl hi ?_)
    | (go_at_call 62; refine (HW.out _).mono ?_; rintro e w4 ⟨rfl, b4⟩; have q2 := q1.below b4; replace b0 := b0.trans (b4.mono b0.size))
    | ((with_reducible refine (?_ : wpList _ _ _ (Oper.mk (some 32) _ _ _ _ _ :: _) _ _)); refine wpList_load_row rfl 76 (.tmp 8) rfl w2.heap.size rfl 76 (iv (mc L)).toArray (0, 0) _ (row_heap q2) Tryd.underlying76 rfl hi ?_)
    | (go_at_call 63; refine (HI.out _ b0).mono ?_; rintro e w5 ⟨rfl, b5⟩; replace b0 := b0.trans (b5.mono b0.size))
    | (go_at_call 64; refine (HL.out _ b0).mono ?_; rintro e w6 ⟨v6, rfl, o6, b6⟩; replace o6 := own_mono o6 b0.size; replace b0 := b0.trans (b6.mono b0.size)))
  go_ret2
  exact ⟨_, rfl, o6, b0⟩
end Go.Proofs.YtignbpipdfjkeaaDoor
