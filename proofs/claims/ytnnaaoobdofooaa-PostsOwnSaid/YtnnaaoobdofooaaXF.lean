/- Split, PostsSplits walked (merged) -/
import Derived.Test.YtnnaaoobdofooaaXD
import Derived.Test.YtnnaaoobdofooaaXC
import Derived.Test.YtnnaaoobdofooaaXE
import Derived.Test.YtnnaaoobdofooaaRJ
/- Split. -/
namespace Go.Proofs.Ytnnaaoobdofooaa
open Go.RowKit
set_option maxHeartbeats 1000000
set_option maxRecDepth 100000
/-- What stands at the start of a round of split. -/
structure SpI (T : List (List Int)) (lv0 : Int) (g : Nat) (K : List (List Int)) (lv : Int) (ps : List (Int × Value)) (ds : List Lay) (w' : World) : Prop where
  isT : IsT K
  lev : Lev K lv
  nn : 0 ≤ lv
  len : K.length = T.length
  cnt : (ps.length : Int) + lv ≤ lv0
  sum : ds ++ spL K lv = spL T lv0
  dl : ds.length = ps.length
  wts : ps.map (·.1) = ds.map (·.1)
  rows : RowsOwn w' g (ps.map (·.2)) (ds.map (·.2))
theorem split_any (T : List (List Int)) (lv0 : Int) (w : World) (h : IsT T) (hl : Lev T lv0) (h0 : 0 ≤ lv0) (h90 : lv0 ≤ 90) (hn : 0 < T.length ∨ lv0 = 0) :
    Calls Try.prog 63 #[.agg (iv (grd T)).toArray, .int .i64 lv0] w fun e w' => ∃ v ps, e = .returned v ∧ w'.ownsRow w.heap.size 69 2 v (spL T lv0).length (lcs ps) ∧ ps.map (·.1) = (spL T lv0).map (·.1) ∧ RowsOwn w' w.heap.size (ps.map (·.2)) ((spL T lv0).map (·.2)) ∧ Below w.heap.size w w' := by
  have r0 : Row (w.alloc (.cells (iv (grd T)).toArray 73)) w.heap.size 73 (iv (grd T)) := row_new rfl
  have b0 : Below w.heap.size w (w.alloc (.cells (iv (grd T)).toArray 73)) := by (repeat (first | exact Below.refl _ _ | assumption | (refine Below.setCell ?_ (by first | exact Nat.le_refl _ | omega | (simp; done) | (simp; omega)) _) | (refine Below.trans ?_ (below_drewN _)) | (refine Below.drew ?_) | (refine Below.alloc ?_ (by first | exact Nat.le_refl _ | omega | (simp; done) | (simp; omega)) _) | (refine below_row ?_ (by first | exact Nat.le_refl _ | omega | (simp; done) | (simp; omega)) _)))
  have o0 : (w.alloc (.cells (iv (grd T)).toArray 73)).ownsRow w.heap.size 69 2 (.slice none 0 0) 0 (lcs []) := ⟨rfl, .inl ⟨rfl, rfl⟩⟩
  have S0 : Hid (SpI T lv0 w.heap.size T lv0 [] [] (w.alloc (.cells (iv (grd T)).toArray 73))) := Lib.hid ⟨h, hl, h0, rfl, by simp, rfl, rfl, rfl, ⟨rfl, fun j hj => absurd hj (by simp)⟩⟩
  obtain ⟨k0, ki, kz0, kz1, kz2⟩ := info_parts info69
  clear h hl
  go_enter Try.func63, Try.ntmps63
  go_wp2
  generalize World.alloc w _ = W0 at *
  go_loopw [1, 5] (fun lvv v wr => ∃ (K : List (List Int)) (lv : Int) (ps : List (Int × Value)) (ds : List Lay), lvv = .int .i64 lv ∧ 0 ≤ lv ∧ wr.ownsRow w.heap.size 69 2 v ps.length (lcs ps) ∧ Hid (SpI T lv0 w.heap.size K lv ps ds wr) ∧ Row wr w.heap.size 73 (iv (grd K)) ∧ Below w.heap.size w wr) (fun lvv _ _ => (intOf lvv).toNat)
  case atStart => exact ⟨T, lv0, [], [], rfl, h0, o0, S0, r0, b0⟩
  case round =>
    clear o0 S0 r0 b0
    obtain ⟨K, lv, ps, ds, rfl, hlv, o0, HS, r0, b0⟩ := hrel
    obtain ⟨A2, c2, rfl⟩ := own_head2 o0
    by_cases hp : 0 < lv
    · have g1 : decide ((0 : Int) < lv) = true := decide_eq_true hp
      have S := HS.out
      have hcnt := S.cnt
      have hK : 0 < K.length := by have := S.len; omega
      obtain ⟨hw1, hw2, hw9⟩ := lev_wt S.isT S.lev hp hK
      have ha := lev_all S.isT S.lev hp
      obtain ⟨t1, -, t3, t4⟩ := sp_step S.isT S.lev hp hK
      have hco := hv_cols S.isT ha
      have hbr := hv_brs S.isT ha K.length (Nat.le_refl _)
      have hi := info73_iv (x := grd K) (grdP_len _ 100)
      have HH : Hid (Calls Try.prog 75 #[.agg (iv (grd K)).toArray] wr fun e w' => ∃ A c, e = .returned (.agg #[.int .i64 (hvW K (hvN K)), .slice A (hvC K).length c]) ∧ w'.ownsRow wr.heap.size 3 1 (.slice A (hvC K).length c) (hvC K).length (iv (hvC K)) ∧ Below wr.heap.size wr w') := Lib.hid (heaviest_any K wr S.isT)
      have HT : Hid (∀ (V : World) (A : Option Addr) (c : Nat), IntsAt V A (hvC K) → Row V w.heap.size 73 (iv (grd K)) → (0 < (hvC K).length → ∀ b o, A = some ⟨b, o, none⟩ → b ≠ w.heap.size) → Calls Try.prog 76 #[.pointer (some ⟨w.heap.size, 0, none⟩), .agg #[.int .i64 (hvW K (hvN K)), .slice A (hvC K).length c]] V fun e w' => e = .returned (.tuple #[]) ∧ Row w' w.heap.size 73 (iv (grd (subP K (hvW K (hvN K)) (hvC K) K.length))) ∧ FrG w.heap.size V w') := Lib.hid (fun V A c h1 h2 h3 => take_fr K A c w.heap.size (hvW K (hvN K)) (hvC K) V S.isT hw1 (.inl hw9) hco hbr h1 h2 h3)
      have hsz := b0.size
      have hgl := r0.lt
      have HO := Lib.hid o0
      have hlen2 := subP_len K (hvW K (hvN K)) (hvC K) K.length
      have HD : Hid ((ds ++ [(hvW K (hvN K), hvC K)]) ++ spL (subP K (hvW K (hvN K)) (hvC K) K.length) (lv - hvW K (hvN K)) = spL T lv0) := Lib.hid (by rw [← S.sum, t1]; simp)
      have T3 := Lib.hid t3
      have T4 := Lib.hid t4
      have HLN : Hid ((subP K (hvW K (hvN K)) (hvC K) K.length).length = T.length) := Lib.hid (by rw [hlen2]; exact S.len)
      clear S ha t1 t3 t4 hco hbr o0 hlen2
      generalize subP K (hvW K (hvN K)) (hvC K) K.length = K2 at *
      generalize hvW K (hvN K) = wt at *
      generalize hvC K = xs at *
      have HPS := Lib.hid (fun v => lcs_snoc ps wt v)
      have HBK : Hid (∀ (V : World) (A : Option Addr) (c n : Nat) (l : List Value), V.ownsRow wr.heap.size 3 1 (.slice A n c) n l → ∀ b o, A = some ⟨b, o, none⟩ → b ≠ w.heap.size) := Lib.hid (fun V A c n l hV b o e => by
        rcases hV.2 with ⟨h1, _⟩ | ⟨g', cap, cur, h1, hb, _, _⟩
        · injection h1 with h1 _ _
          rw [h1] at e; exact absurd e (by simp)
        · injection h1 with h1 _ _
          rw [h1] at e
          injection e with e
          injection e with e _ _
          omega)
      have HNO : Hid (∀ k, wr.heap.size ≤ k → some k ≠ (Value.slice A2 ps.length c2).ownBlock) := Lib.hid (fun k hk => by
        rcases HO.out.2 with ⟨h1, _⟩ | ⟨g', cap, cur, h1, hb, hgg, hr⟩
        · rw [h1]; simp [Value.ownBlock]
        · rw [h1]
          have := (Array.getElem?_eq_some_iff.1 hgg).1
          simp [Value.ownBlock]; omega)
      go_wp2_with (first
        | (with_reducible refine (?_ : wpList _ _ _ (Oper.mk _ (Op.load 73 _) _ _ _ _ :: _) _ _); refine wpList_load_row rfl 73 (.tmp 2) rfl w.heap.size rfl 73 (iv (grd K)).toArray (0, 0) _ (row_heap r0) Try.underlying73 rfl hi ?_)
        | (go_at_call 75; fail))
      refine HH.out.mono ?_
      rintro e w5 ⟨A5, c5, rfl, o5, b5⟩
      have hs5 := b5.size
      have z5 := b0.trans (b5.mono hsz)
      have hz5 := z5.size
      have OA := Lib.hid ((HO.out.kept' b5).alloc (.cells #[.int .i64 wt, .slice A5 xs.length c5] 69))
      have O5 := Lib.hid (OA.out.alloc (.cells #[.int .i64 wt, .slice A5 xs.length c5] 69))
      have zA := z5.alloc hz5 (.cells #[.int .i64 wt, .slice A5 xs.length c5] 69)
      have hzA := zA.size
      have HX := Lib.hid ((o5.alloc (.cells #[.int .i64 wt, .slice A5 xs.length c5] 69)).alloc (.cells #[.int .i64 wt, .slice A5 xs.length c5] 69))
      have HR5 := Lib.hid ((((HS.out.rows.below b5).add (r := xs) (own_mono o5 hsz)).below ((Below.refl _ _).alloc (Nat.le_refl _) (.cells #[.int .i64 wt, .slice A5 xs.length c5] 69))).below ((Below.refl _ _).alloc (Nat.le_refl _) (.cells #[.int .i64 wt, .slice A5 xs.length c5] 69)))
      have R5 := ((r0.below b5).alloc (.cells #[.int .i64 wt, .slice A5 xs.length c5] 69)).alloc (.cells #[.int .i64 wt, .slice A5 xs.length c5] 69)
      have y5 : Row (w5.alloc (.cells #[.int .i64 wt, .slice A5 xs.length c5] 69)) w5.heap.size 69 [.int .i64 wt, .slice A5 xs.length c5] := row_new rfl
      have Y5 := y5.alloc (.cells #[.int .i64 wt, .slice A5 xs.length c5] 69)
      have hnr : Row ((w5.alloc (.cells #[.int .i64 wt, .slice A5 xs.length c5] 69)).alloc (.cells #[.int .i64 wt, .slice A5 xs.length c5] 69)) (w5.heap.size + 1) 69 [.int .i64 wt, .slice A5 xs.length c5] := row_new (by simp)
      have hno := HNO.out w5.heap.size hs5
      have hbk := Lib.hid (HBK.out w5 A5 c5 xs.length _ o5)
      have hgw : w5.heap.size ≠ w.heap.size := by omega
      clear r0 b0 o5 b5 HH HBK HNO
      go_wp2_with (at_builtin; refine wpList_append_own_at _ rfl _ _ 56 rfl w.heap.size 69 k0 (.agg #[.int .i64 0, .slice none 0 0]) 2 32 Try.underlying56 ki kz0 kz1 kz2 rfl (by decide) _ _ _ rfl O5.out ⟨w5.heap.size + 1, 0, none⟩ 1 1 [.int .i64 wt, .slice A5 xs.length c5] rfl rfl (news_two hnr) (by simp [Value.oneCell']) (by unfold maxLen; omega) (by omega) (by simp; omega) ?_; intro v9 w9 o9 hg9 _ _; have Y9 := Y5.grown hg9 hno; have R9 := R5.grown hg9 (R5.not_own O5.out (by decide)); have z9 := zA.trans (app1' OA.out hzA hg9); obtain ⟨⟨y0, y1⟩, -⟩ := Y9.cells2)
      obtain ⟨A9, c9, rfl⟩ := own_head2 o9
      have HX9 := Lib.hid (own_grown HX.out O5.out (by decide) hg9)
      have HR9 : Hid (RowsOwn w9 w.heap.size ((ps ++ [(wt, Value.slice A5 xs.length c5)]).map (·.2)) ((ds ++ [(wt, xs)]).map (·.2))) := Lib.hid (by
        rw [List.map_append, List.map_append]
        exact HR5.out.grown O5.out (by decide) hg9)
      have P9 : Hid (IntsAt w9 A5 xs) := Lib.hid (by
        obtain ⟨A', c', hA', -, -, P⟩ := own_intsI HX9.out
        injection hA' with e1 e2 e3
        rw [e1]; exact P)
      have HTT := Lib.hid (HT.out w9 A5 c5 P9.out R9 (fun _ => hbk.out))
      have O9 := Lib.hid o9
      rw [← HPS.out] at O9
      have hz9 := z9.size
      clear hnr hg9 Y5 R5 HX zA hzA OA O5 HR5 HX9 P9 o9 hbk HT hno HO z5
      refine HTT.out.mono ?_
      rintro e w10 ⟨rfl, r10, fr⟩
      have Y10 := fr.row Y9 hgw
      have o10 := fr.own O9.out R9 (by decide)
      have R10 := Lib.hid (fr.rows HR9.out R9 (by decide))
      have z10 : Below w.heap.size w w10 := z9.trans (fr.below (Nat.le_refl _) hz9)
      clear fr O9 HR9 R9 Y9 y0 y1 z9 HTT
      obtain ⟨⟨y0, y1⟩, -⟩ := Y10.cells2
      have e9 : lv0 - wt = lv0 - wt := rfl
      have HS2 : Hid (SpI T lv0 w.heap.size K2 (lv - wt) (ps ++ [(wt, Value.slice A5 xs.length c5)]) (ds ++ [(wt, xs)]) w10) := Lib.hid ⟨T3.out, T4.out, by omega, HLN.out, by rw [List.length_append]; simp; omega, HD.out, by rw [List.length_append, List.length_append, HS.out.dl]; rfl, by rw [List.map_append, List.map_append, HS.out.wts]; rfl, R10.out⟩
      have o11 : w10.ownsRow w.heap.size 69 2 (.slice A9 (ps.length + 1) c9) (ps ++ [(wt, Value.slice A5 xs.length c5)]).length (lcs (ps ++ [(wt, Value.slice A5 xs.length c5)])) := by rw [List.length_append]; exact o10
      clear HS HD T3 T4 HLN R10 o10 HPS e9
      go_wp2
      exact ⟨⟨K2, lv - wt, _, _, by go_num, by omega, o11, HS2, r10, z10⟩, by simp [intOf]; omega⟩
    · have g1 : decide ((0 : Int) < lv) = false := decide_eq_false hp
      have S := HS.out
      have hds : ds = spL T lv0 := by rw [← S.sum, sp_end hp, List.append_nil]
      have hpl : ps.length = (spL T lv0).length := by rw [← hds, S.dl]
      have hwt := S.wts
      have hro := S.rows
      rw [hds] at hwt hro
      rw [hpl] at o0
      clear S HS
      go_wp2
      go_ret
      exact ⟨_, rfl, ps, o0, hwt, hro, b0⟩
end Go.Proofs.Ytnnaaoobdofooaa
/- Split. -/
namespace Go.Proofs.Ytnnaaoobdofooaa
open Go.RowKit
set_option maxHeartbeats 1000000
set_option maxRecDepth 100000
theorem sumN_9 {g : Nat → Int} (h : ∀ c, 0 ≤ g c ∧ g c ≤ 9) : ∀ k, 0 ≤ sumN g k ∧ sumN g k ≤ 9 * k
  | 0 => ⟨Int.le_refl _, Int.le_refl _⟩
  | k + 1 => by
    have := sumN_9 h k
    have := h k
    show 0 ≤ sumN g k + g k ∧ sumN g k + g k ≤ 9 * ((k + 1 : Nat) : Int)
    omega
theorem lv_90 {K : List (List Int)} (h : IsT K) (hl : isLev K = true) : lvN K ≤ 90 := by
  have hv : lvN K = rsum K 0 10 := by unfold lvN; rw [hl]; rfl
  rw [hv, rsum_sumN]
  have := (sumN_9 (g := fun c => gat K 0 c) (fun c => h.bd 0 c) 10).2
  exact this
theorem Split_no (A : Option Addr) (c : Nat) (T : List (List Int)) (w : World) (hv : okT T = false) (ha : RowsAt w A T) :
    Calls Try.prog 39 #[.slice A T.length c] w fun e w' => e = .returned (.tuple #[.slice none 0 0, .int .i64 2]) ∧ Below w.heap.size w w' := by
  have HR := Lib.hid (readTable_no A c T w hv ha)
  clear hv ha
  go_enter Try.func39, Try.ntmps39
  go_wp2_with (first
    | (go_at_call 48; refine HR.out.mono ?_; rintro e w2 ⟨rfl, b2⟩; have q0 : Row (w2.alloc (.cells Try.zeroCells73 73)) w2.heap.size 73 Try.zeroCells73.toList := row_new (by simp); have b0 := b2.alloc b2.size (.cells Try.zeroCells73 73); have hbz := b2.size)
    | (with_reducible refine (?_ : wpList _ _ _ (Oper.mk _ (Op.store 73 (.tmp 4) _) _ _ _ _ :: _) _ _); refine wpList_store_row rfl 73 (.tmp 4) (.tmp 10) rfl w2.heap.size Try.zeroCells73 rfl rfl 73 Try.zeroCells73.toList.toArray (row_heap q0) info73_z rfl z73_all ?_; replace b0 := below_row (g := w2.heap.size) b0 hbz Try.zeroCells73; generalize World.setRow (w2.alloc _) _ _ = W at *))
  go_ret2
  exact ⟨rfl, b0⟩
theorem Split_flat (A : Option Addr) (c : Nat) (T : List (List Int)) (w : World) (h : IsT T) (hl : isLev T = false) (ha : RowsAt w A T) :
    Calls Try.prog 39 #[.slice A T.length c] w fun e w' => e = .returned (.tuple #[.slice none 0 0, .int .i64 2]) ∧ Below w.heap.size w w' := by
  have HR := Lib.hid (readTable_yes A c T w h ha)
  have HV := Lib.hid (fun w => level_any T w h)
  have hi := info73_iv (x := grd T) (grdP_len _ 100)
  have hsz : Try.zeroCells73.toList.toArray.size = (iv (grd T)).toArray.size := by rw [z73]; exact size73_iv (by simp) (grdP_len T 100)
  rw [hl] at HV
  clear h ha hl
  go_enter Try.func39, Try.ntmps39
  go_wp2_with (first
    | (go_at_call 48; refine HR.out.mono ?_; rintro e w2 ⟨rfl, b2⟩; have q0 : Row (w2.alloc (.cells Try.zeroCells73 73)) w2.heap.size 73 Try.zeroCells73.toList := row_new (by simp); have b0 := b2.alloc b2.size (.cells Try.zeroCells73 73); have hbz := b2.size)
    | (with_reducible refine (?_ : wpList _ _ _ (Oper.mk _ (Op.store 73 (.tmp 4) _) _ _ _ _ :: _) _ _); refine wpList_store_row rfl 73 (.tmp 4) (.tmp 10) rfl w2.heap.size (iv (grd T)).toArray rfl rfl 73 Try.zeroCells73.toList.toArray (row_heap q0) hi hsz (iv_all _) ?_; replace q0 := q0.row (iv (grd T)); replace b0 := below_row (g := w2.heap.size) b0 hbz (iv (grd T)).toArray; generalize World.setRow (w2.alloc _) _ _ = W at *)
    | (with_reducible refine (?_ : wpList _ _ _ (Oper.mk _ (Op.load 73 _) _ _ _ _ :: _) _ _); refine wpList_load_row rfl 73 (.tmp 4) rfl w2.heap.size rfl 73 (iv (grd T)).toArray (0, 0) _ (row_heap q0) Try.underlying73 rfl hi ?_)
    | (go_at_call 54; fail))
  refine (HV.out _).mono ?_
  rintro e w4 ⟨rfl, b4⟩
  replace b0 := b0.trans (b4.mono b0.size)
  clear b4 HV HR
  go_wp2
  go_ret2
  exact ⟨rfl, b0⟩
theorem Split_yes (A : Option Addr) (c : Nat) (T : List (List Int)) (w : World) (h : IsT T) (hl : isLev T = true) (ha : RowsAt w A T) :
    Calls Try.prog 39 #[.slice A T.length c] w fun e w' => ∃ v ps, e = .returned (.tuple #[v, .int .i64 0]) ∧ w'.ownsRow w.heap.size 69 2 v (spL T (lvN T)).length (lcs ps) ∧ ps.map (·.1) = (spL T (lvN T)).map (·.1) ∧ RowsOwn w' w.heap.size (ps.map (·.2)) ((spL T (lvN T)).map (·.2)) ∧ Below w.heap.size w w' := by
  have HR := Lib.hid (readTable_yes A c T w h ha)
  have HV := Lib.hid (fun w => level_any T w h)
  have hi := info73_iv (x := grd T) (grdP_len _ 100)
  have hsz : Try.zeroCells73.toList.toArray.size = (iv (grd T)).toArray.size := by rw [z73]; exact size73_iv (by simp) (grdP_len T 100)
  have HP : Hid (∀ V : World, _) := Lib.hid (fun V : World => by
    obtain ⟨h1, h2, h3⟩ := lev_of h hl
    exact split_any T (lvN T) V h h1 h2 (lv_90 h hl) (by by_cases e : 0 < T.length; exact .inl e; exact .inr (h3 (by omega))))
  rw [hl] at HV
  clear h ha hl
  generalize spL T (lvN T) = ls at *
  generalize lvN T = lv at *
  go_enter Try.func39, Try.ntmps39
  go_wp2_with (first
    | (go_at_call 48; refine HR.out.mono ?_; rintro e w2 ⟨rfl, b2⟩; have q0 : Row (w2.alloc (.cells Try.zeroCells73 73)) w2.heap.size 73 Try.zeroCells73.toList := row_new (by simp); have b0 := b2.alloc b2.size (.cells Try.zeroCells73 73); have hbz := b2.size)
    | (with_reducible refine (?_ : wpList _ _ _ (Oper.mk _ (Op.store 73 (.tmp 4) _) _ _ _ _ :: _) _ _); refine wpList_store_row rfl 73 (.tmp 4) (.tmp 10) rfl w2.heap.size (iv (grd T)).toArray rfl rfl 73 Try.zeroCells73.toList.toArray (row_heap q0) hi hsz (iv_all _) ?_; replace q0 := q0.row (iv (grd T)); replace b0 := below_row (g := w2.heap.size) b0 hbz (iv (grd T)).toArray; generalize World.setRow (w2.alloc _) _ _ = W at *)
    | (with_reducible refine (?_ : wpList _ _ _ (Oper.mk _ (Op.load 73 _) _ _ _ _ :: _) _ _); refine wpList_load_row rfl 73 (.tmp 4) rfl w2.heap.size rfl 73 (iv (grd T)).toArray (0, 0) _ (row_heap q0) Try.underlying73 rfl hi ?_)
    | (go_at_call 54; fail))
  refine (HV.out _).mono ?_
  rintro e w4 ⟨rfl, b4⟩
  replace q0 := q0.below b4
  replace b0 := b0.trans (b4.mono b0.size)
  clear b4 HV HR
  go_wp2_with (first
    | (with_reducible refine (?_ : wpList _ _ _ (Oper.mk _ (Op.load 73 _) _ _ _ _ :: _) _ _); refine wpList_load_row rfl 73 (.tmp 4) rfl w2.heap.size rfl 73 (iv (grd T)).toArray (0, 0) _ (row_heap q0) Try.underlying73 rfl hi ?_)
    | (go_at_call 63; fail))
  refine (HP.out _).mono ?_
  rintro e w5 ⟨v, ps, rfl, o5, hw5, R5, b5⟩
  have hbs := b0.size
  replace b0 := b0.trans (b5.mono hbs)
  replace R5 := R5.mono hbs
  replace o5 := own_mono o5 hbs
  clear b5 HP q0 
  go_wp2
  go_ret2
  exact ⟨_, ps, rfl, o5, hw5, R5, b0⟩
end Go.Proofs.Ytnnaaoobdofooaa
/- PostsSplits, walked. -/
namespace Go.Proofs.Ytnnaaoobdofooaa
open Go.RowKit
set_option maxHeartbeats 1000000
set_option maxRecDepth 100000
/-- The most layers that are wanted. -/
def mst (n : Nat) : Int := if n < 2 then 1 else (n : Int) * n - 2 * n + 2
structure SpF (T : List (List Int)) (ls : List Lay) : Prop where
  spl : splA T ls = true
  len : (ls.length : Int) ≤ mst T.length
  l90 : ls.length ≤ 90
  l12 : ∀ i, i < ls.length → (laC ls i).length ≤ 12
theorem spf {T : List (List Int)} (h : IsT T) (hl : isLev T = true) : SpF T (spL T (lvN T)) := by
  obtain ⟨h1, h2, h3⟩ := lev_of h hl
  have h90 := lv_90 h hl
  by_cases hn : 0 < T.length
  · obtain ⟨a1, a2⟩ := sp_ok (lvN T).toNat T (lvN T) h h1 hn h2 (by omega)
    have a3 := sp_few h h1 hn
    obtain ⟨r, r1, -⟩ := met_rows h (sp_met (lvN T).toNat T (lvN T) h h1 hn (by omega))
    refine ⟨?_, ?_, by omega, fun i hi => ?_⟩
    · unfold splA; rw [a1, decide_eq_true (by omega)]; rfl
    · unfold mst
      generalize (spL T (lvN T)).length = k at *
      generalize T.length = n at *
      split
      · obtain rfl : n = 1 := by omega
        omega
      · obtain ⟨m, rfl⟩ : ∃ m, n = m + 1 := ⟨n - 1, by omega⟩
        rw [Nat.add_sub_cancel] at a3
        have e : ((m + 1 : Nat) : Int) * ((m + 1 : Nat) : Int) = (m : Int) * m + 2 * m + 1 := by
          rw [Int.natCast_add, Int.add_mul, Int.mul_add]; omega
        have e2 : ((m * m : Nat) : Int) = (m : Int) * m := Int.natCast_mul m m
        omega
    · rw [cols_len (r1 i hi).2]; have := h.le; omega
  · have hz := h3 (by omega)
    have e : T.length = 0 := by omega
    rw [hz, sp_end (by omega)]
    refine ⟨?_, by unfold mst; rw [e]; decide, by simp, fun i hi => absurd hi (by simp)⟩
    unfold splA splB zerB
    rw [e]; rfl
theorem most_wrap : ∀ n : Nat, n < 11 → wrap64 (wrap64 (wrap64 ((n : Int) * (n : Int)) - 2 * (n : Int)) + 2) = (n : Int) * n - 2 * n + 2 := by decide +kernel
theorem PostsSplits_any (A : Option Addr) (c : Nat) (L : List (List Int)) (w : World) (hx : L.length ≤ c) (hc : c ≤ maxLen) (ha : RowsIn w A L) :
    Calls Try.prog 8 #[.slice A L.length c] w fun e w' => e = .returned (.bool true) ∧ Below w.heap.size w w' := by
  have HT := Lib.hid (table_any A c L w (by omega) ha)
  have hl : (tbR L (min L.length 11)).length = min L.length 11 := tbR_len (by omega)
  have hl2 : min L.length 11 ≤ 11 := by omega
  clear ha hx hc
  generalize min L.length 11 = m at *
  generalize tbR L m = T at *
  subst hl
  go_enter Try.func8, Try.ntmps8
  go_wp2_with (go_at_call 17; fail)
  refine HT.out.mono ?_
  rintro e w1 ⟨A1, c1, cs, rfl, o1, R1, b1⟩
  have C1 := Lib.hid (rows_c R1 o1)
  clear HT o1 R1
  have z1 := Below.refl w1.heap.size w1
  have HR := Lib.hid (fun (V : World) hV => refTable_any A1 c1 T V (by omega) (C1.out.at.below hV))
  have N0 : Hid (∀ V, LaysAt V none ([] : List Lay)) := Lib.hid (fun V hp => absurd hp (by simp))
  cases hok : okT T
  · have HS := Lib.hid (fun (V : World) hV => Split_no A1 c1 T V hok (C1.out.at.below hV))
    have HC := Lib.hid (fun (V : World) hV => CheckSplit_no A1 none c1 0 T [] V hok (C1.out.at.below hV))
    rw [hok] at HR
    clear hok
    go_wp2_with (go_at_call 39; fail)
    refine (HS.out _ z1).mono ?_
    rintro e w2 ⟨rfl, y2⟩
    go_wp2_with (go_at_call 20; fail)
    refine (HR.out _ y2).mono ?_
    rintro e w3 ⟨rfl, y3⟩
    replace y3 := y2.trans (y3.mono y2.size)
    clear HS HR y2 z1
    go_wp2_with (go_at_call 40; fail)
    refine (HC.out _ y3).mono ?_
    rintro e w4 ⟨rfl, y4⟩
    replace y4 := b1.trans ((y3.trans (y4.mono y3.size)).mono b1.size)
    clear HC C1 y3 b1
    go_wp2_with (go_at_call 21; refine (awake_any _).mono ?_; rintro e w5 ⟨rfl, b5⟩; replace y4 := y4.trans (b5.mono y4.size); clear b5)
    go_ret
    exact ⟨rfl, y4⟩
  · have hI := okT_iff.1 hok
    have HL := Lib.hid (fun (V : World) hV => refLevel_any A1 c1 T V hI (C1.out.at.below hV))
    rw [hok] at HR
    cases hlv : isLev T
    · have HS := Lib.hid (fun (V : World) hV => Split_flat A1 c1 T V hI hlv (C1.out.at.below hV))
      have HC := Lib.hid (fun (V : World) hV => CheckSplit_yes A1 none c1 0 T [] V hI (by simp) (C1.out.at.below hV) (N0.out V))
      rw [show csN T [] = 2 by unfold csN; rw [hlv]; rfl] at HC
      rw [hlv] at HL
      clear hok hlv hI
      go_wp2_with (go_at_call 39; fail)
      refine (HS.out _ z1).mono ?_
      rintro e w2 ⟨rfl, y2⟩
      go_wp2_with (go_at_call 20; fail)
      refine (HR.out _ y2).mono ?_
      rintro e w3 ⟨rfl, y3⟩
      replace y3 := y2.trans (y3.mono y2.size)
      go_wp2_with (go_at_call 28; fail)
      refine (HL.out _ y3).mono ?_
      rintro e w4 ⟨rfl, y4⟩
      replace y4 := y3.trans (y4.mono y3.size)
      clear HS HR HL y2 y3 z1
      go_wp2_with (go_at_call 40; fail)
      refine (HC.out _ y4).mono ?_
      rintro e w5 ⟨rfl, y5⟩
      replace y5 := b1.trans ((y4.trans (y5.mono y4.size)).mono b1.size)
      clear HC C1 y4 b1
      go_wp2_with (go_at_call 21; refine (awake_any _).mono ?_; rintro e w6 ⟨rfl, b6⟩; replace y5 := y5.trans (b6.mono y5.size); clear b6)
      go_ret
      exact ⟨rfl, y5⟩
    · have HS := Lib.hid (fun (V : World) hV => Split_yes A1 c1 T V hI hlv (C1.out.at.below hV))
      have F := spf hI hlv
      rw [hlv] at HL
      have HCN : Hid (csN T (spL T (lvN T)) = 0) := Lib.hid (by unfold csN; rw [hlv, F.spl]; rfl)
      have hI' := Lib.hid hI
      have hT10 := hI.le
      generalize spL T (lvN T) = ls at *
      clear hok hlv hI
      go_wp2_with (go_at_call 39; fail)
      refine (HS.out _ z1).mono ?_
      rintro e w2 ⟨v2, ps, rfl, o2, hw2, R2, y2⟩
      obtain ⟨A2, c2, rfl, Y2⟩ := lays_at o2 hw2 R2 rfl F.l12
      have b2 := b1.trans (y2.mono b1.size)
      have C2 := Lib.hid (C1.out.below y2)
      have HR2 := Lib.hid (fun (V : World) (hV : Below w2.heap.size w2 V) => HR.out V (y2.trans (hV.mono y2.size)))
      have HL2 := Lib.hid (fun (V : World) (hV : Below w2.heap.size w2 V) => HL.out V (y2.trans (hV.mono y2.size)))
      have HG := Lib.hid (fun (V : World) (hV : Below w2.heap.size w2 V) => refLayers_any A1 A2 c1 c2 T ls V hI'.out (by have := F.l90; omega) (C2.out.below hV) (Y2.below hV))
      have HC := Lib.hid (fun (V : World) (hV : Below w2.heap.size w2 V) => CheckSplit_yes A1 A2 c1 c2 T ls V hI'.out (by have := F.l90; omega) (C2.out.at.below hV) (Y2.below hV))
      rw [HCN.out] at HC
      rw [F.spl] at HG
      have hm := Lib.hid F.len
      have hk90 := F.l90
      have z2 := Below.refl w2.heap.size w2
      clear HS HR HL C1 b1 z1 y2 o2 hw2 R2 F HCN hI' C2 Y2 N0
      go_wp2_with (go_at_call 20; fail)
      refine (HR2.out _ z2).mono ?_
      rintro e w3 ⟨rfl, y3⟩
      go_wp2_with (go_at_call 28; fail)
      refine (HL2.out _ y3).mono ?_
      rintro e w4 ⟨rfl, y4⟩
      replace y4 := y3.trans (y4.mono y3.size)
      clear HR2 HL2 y3 z2
      generalize T.length = n at *
      generalize ls.length = k at *
      by_cases hn2 : n < 2
      · have hm1 : (k : Int) ≤ 1 := by have := hm.out; unfold mst at this; rwa [if_pos hn2] at this
        have g1 : decide ((n : Int) < 2) = true := decide_eq_true (by omega)
        have g2 : decide ((k : Int) ≤ 1) = true := decide_eq_true hm1
        go_wp2_with (go_at_call 41; fail)
        refine (HG.out _ y4).mono ?_
        rintro e w5 ⟨rfl, y5⟩
        replace y5 := y4.trans (y5.mono y4.size)
        clear HG y4
        go_wp2_with (go_at_call 40; fail)
        refine (HC.out _ y5).mono ?_
        rintro e w6 ⟨rfl, y6⟩
        replace y6 := b2.trans ((y5.trans (y6.mono y5.size)).mono b2.size)
        clear HC y5 b2
        go_wp2_with (go_at_call 21; refine (awake_any _).mono ?_; rintro e w9 ⟨rfl, b9⟩; replace y6 := y6.trans (b9.mono y6.size); clear b9)
        go_ret
        exact ⟨rfl, y6⟩
      · have hm1 : (k : Int) ≤ (n : Int) * n - 2 * n + 2 := by have := hm.out; unfold mst at this; rwa [if_neg hn2] at this
        have g1 : decide ((n : Int) < 2) = false := decide_eq_false (by omega)
        have g2 : decide ((k : Int) ≤ wrap64 (wrap64 (wrap64 ((n : Int) * (n : Int)) - 2 * (n : Int)) + 2)) = true := decide_eq_true (by rw [most_wrap n (by omega)]; exact hm1)
        clear hm1 hm
        go_wp2_with (go_at_call 41; fail)
        refine (HG.out _ y4).mono ?_
        rintro e w5 ⟨rfl, y5⟩
        replace y5 := y4.trans (y5.mono y4.size)
        clear HG y4
        go_wp2_with (go_at_call 40; fail)
        refine (HC.out _ y5).mono ?_
        rintro e w6 ⟨rfl, y6⟩
        replace y6 := b2.trans ((y5.trans (y6.mono y5.size)).mono b2.size)
        clear HC y5 b2
        go_wp2_with (go_at_call 21; refine (awake_any _).mono ?_; rintro e w9 ⟨rfl, b9⟩; replace y6 := y6.trans (b9.mono y6.size); clear b9)
        go_ret
        exact ⟨rfl, y6⟩
end Go.Proofs.Ytnnaaoobdofooaa
