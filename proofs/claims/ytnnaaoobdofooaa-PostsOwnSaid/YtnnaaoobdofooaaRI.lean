/- The possible choice with so many before it. -/
import Derived.Test.YtnnaaoobdofooaaRH
namespace Go.Proofs.Ytnnaaoobdofooaa
open Go.RowKit
set_option maxHeartbeats 1000000
set_option maxRecDepth 100000
/-- How many possible choices the last rows have in a set of columns. -/
abbrev chN (L : List (List Int)) (s : Nat) : Int := prm (onesL L) s
def okC (L : List (List Int)) (r s c : Nat) : Bool := s.testBit c && !decide (gat L r c = 0)
/-- The column that a row takes, and how many choices are left to skip. -/
def pk (L : List (List Int)) (r s : Nat) : List Nat → Int → Option (Nat × Int)
  | [], _ => none
  | c :: cs, k => if okC L r s c then (if k < chN L (sWithout s c) then some (c, k) else pk L r s cs (k - chN L (sWithout s c))) else pk L r s cs k
def itm (L : List (List Int)) : Nat → Nat → Int → List Int
  | 0, _, _ => []
  | m + 1, s, k => match pk L (L.length - (m + 1)) s (List.range L.length) k with
    | some (c, k') => (c : Int) :: itm L m (sWithout s c) k'
    | none => itm L m s k
theorem itm_some {L : List (List Int)} {m s c : Nat} {k k' : Int} (h : pk L (L.length - (m + 1)) s (List.range L.length) k = some (c, k')) : itm L (m + 1) s k = (c : Int) :: itm L m (sWithout s c) k' := by
  show (match pk L (L.length - (m + 1)) s (List.range L.length) k with | some (c, k') => (c : Int) :: itm L m (sWithout s c) k' | none => itm L m s k) = _
  rw [h]
theorem itm_none {L : List (List Int)} {m s : Nat} {k : Int} (h : pk L (L.length - (m + 1)) s (List.range L.length) k = none) : itm L (m + 1) s k = itm L m s k := by
  show (match pk L (L.length - (m + 1)) s (List.range L.length) k with | some (c, k') => (c : Int) :: itm L m (sWithout s c) k' | none => itm L m s k) = _
  rw [h]
theorem pk_skip {L : List (List Int)} {r s c : Nat} {cs : List Nat} {k : Int} (h : okC L r s c = false) : pk L r s (c :: cs) k = pk L r s cs k := by
  show (if okC L r s c then _ else _) = _
  rw [h]; rfl
theorem pk_take {L : List (List Int)} {r s c : Nat} {cs : List Nat} {k : Int} (h : okC L r s c = true) (hk : k < chN L (sWithout s c)) : pk L r s (c :: cs) k = some (c, k) := by
  show (if okC L r s c then _ else _) = _
  rw [h, if_pos rfl, if_pos hk]
theorem pk_next {L : List (List Int)} {r s c : Nat} {cs : List Nat} {k : Int} (h : okC L r s c = true) (hk : ¬ k < chN L (sWithout s c)) : pk L r s (c :: cs) k = pk L r s cs (k - chN L (sWithout s c)) := by
  show (if okC L r s c then _ else _) = _
  rw [h, if_pos rfl, if_neg hk]
theorem PrmAt.lt {W : World} {g n : Nat} {L : List (List Int)} (h : PrmAt W g n L) : g < W.heap.size := by
  obtain ⟨obj, ho, -⟩ := h
  exact (Array.getElem?_eq_some_iff.1 ho).1
theorem PrmAt.below {W V : World} {g n : Nat} {L : List (List Int)} (h : PrmAt W g n L) (hb : Below W.heap.size W V) : PrmAt V g n L := by
  have hl := h.lt
  obtain ⟨obj, ho, hf⟩ := h
  exact ⟨obj, (hb.block g hl).trans ho, hf⟩
theorem PrmAt.look {W : World} {g n s : Nat} {L : List (List Int)} (h : PrmAt W g n L) (hs : s < 2^n) : (Instr.lookup 76 (.map (some g)) (.int .u16 s) false).run Try.prog W = .ok (.int .i64 (prm L s)) W := by
  obtain ⟨obj, ho, hf⟩ := h
  exact hf W ho s hs
theorem item_no (L : List (List Int)) (k : Int) (w : World) (h : IsT L) (hk : chN L (sAll L.length) ≤ k) :
    Calls Try.prog 51 #[.agg (iv (grd L)).toArray, .int .i64 k] w fun e w' => e = .returned (.tuple #[.slice none 0 0, .bool false]) ∧ Below w.heap.size w w' := by
  have hle := h.le
  have r0 : Row (w.alloc (.cells (iv (grd L)).toArray 73)) w.heap.size 73 (iv (grd L)) := row_new rfl
  have b0 : Below w.heap.size w (w.alloc (.cells (iv (grd L)).toArray 73)) := by (repeat (first | exact Below.refl _ _ | assumption | (refine Below.setCell ?_ (by first | exact Nat.le_refl _ | omega | (simp; done) | (simp; omega)) _) | (refine Below.trans ?_ (below_drewN _)) | (refine Below.drew ?_) | (refine Below.alloc ?_ (by first | exact Nat.le_refl _ | omega | (simp; done) | (simp; omega)) _) | (refine below_row ?_ (by first | exact Nat.le_refl _ | omega | (simp; done) | (simp; omega)) _)))
  have hi := info73_iv (x := grd L) (grdP_len _ 100)
  have HO := Lib.hid (fun w => ones_grd L w h)
  have HP := Lib.hid (fun w => permanents_any (onesL L) w h.ones)
  have HF := Lib.hid (fun w => first_any L.length w (by omega))
  have HOL := Lib.hid (onesL_len L)
  have HC0 : Hid (∀ (W : World), Row W w.heap.size 73 (iv (grd L)) → W.cell? ⟨w.heap.size, 0, none⟩ = some (.int .i64 (L.length : Int))) := Lib.hid (fun W h => ivR h (i := 0) (by unfold grd; rw [grdP_len]; omega))
  have hAll : sAll L.length < 2^L.length := by unfold sAll; have := Nat.one_le_two_pow (n := L.length); omega
  clear h
  go_enter Try.func51, Try.ntmps51
  go_wp2
  apply wp_scope_straight
  go_wp2_with (first
    | (refine wpList_load_row rfl 73 (.tmp 2) rfl w.heap.size rfl 73 (iv (grd L)).toArray (0, 0) _ (row_heap r0) Try.underlying73 rfl hi ?_)
    | (go_at_call 68; refine (HO.out _).mono ?_; rintro e w2 ⟨rfl, b2⟩; replace r0 := r0.below b2; replace b0 := b0.trans (b2.mono b0.size))
    | (go_at_call 49; fail))
  refine (HP.out _).mono ?_
  rintro e w3 ⟨g, rfl, hg, hp, b3⟩
  rw [HOL.out] at hp
  replace r0 := r0.below b3
  replace b0 := b0.trans (b3.mono b0.size)
  have hlk := hp.look hAll
  have c0 := HC0.out _ r0
  unfold chN at hk
  generalize prm (onesL L) (sAll L.length) = q at *
  have g1 : decide (q ≤ k) = true := decide_eq_true hk
  go_wp2_with (go_at_call 50; refine (HF.out _).mono ?_; rintro e w4 ⟨rfl, rfl⟩)
  simp only [Exit.noGoto]
  go_ret2
  exact ⟨rfl, b0⟩
/-- How many choices take one of the first columns in a row. -/
abbrev bfN (L : List (List Int)) (r s c : Nat) : Int := prS (prm (onesL L)) (onesL L) r s c
theorem bfN_step {L : List (List Int)} (h : IsT L) (r s c : Nat) : bfN L r s (c + 1) = bfN L r s c + if okC L r s c then chN L (sWithout s c) else 0 := by
  show prS (prm (onesL L)) (onesL L) r s c + (if s.testBit c = true then gat (onesL L) r c * prm (onesL L) (sWithout s c) else 0) = _
  congr 1
  rw [onesL_at]
  have hb := h.bd r c
  unfold okC
  cases hbit : s.testBit c
  · simp
  · by_cases hx : gat L r c = 0
    · rw [hx, show min (0 : Int) 1 = 0 by omega]; simp
    · rw [show min (gat L r c) 1 = 1 by omega]; simp [hx]
theorem prS_top {f : Nat → Int} {L : List (List Int)} {r s n : Nat} (hs : s < 2^n) : ∀ d, prS f L r s (n + d) = prS f L r s n
  | 0 => rfl
  | d + 1 => by
    rw [← Nat.add_assoc]
    show prS f L r s (n + d) + (if s.testBit (n + d) = true then _ else _) = _
    rw [Nat.testBit_lt_two_pow (Nat.lt_of_lt_of_le hs (Nat.pow_le_pow_right (n := 2) (by omega) (by omega)))]
    simp [prS_top hs d]
theorem chN_sum {L : List (List Int)} (h : IsT L) {r s : Nat} (hr : r < L.length) (hs : s < 2^L.length) (hp : pc 16 s + r = L.length) : chN L s = bfN L r s L.length := by
  have hle := h.le
  have h2 : 2^L.length ≤ 2^10 := Nat.pow_le_pow_right (by omega) hle
  have h0 : s ≠ 0 := fun e => by subst e; rw [pc_zero] at hp; omega
  unfold chN
  rw [prm_step (onesL L) (by omega) h0, onesL_len, show L.length - pc 16 s = r by omega]
  have := prS_top (f := prm (onesL L)) (L := onesL L) (r := r) hs (10 - L.length)
  rw [show L.length + (10 - L.length) = 10 by omega] at this
  exact this
theorem range_drop {n c : Nat} (h : c < n) : (List.range n).drop c = c :: (List.range n).drop (c + 1) := by
  rw [List.drop_eq_getElem_cons (by rw [List.length_range]; exact h), List.getElem_range]
theorem item_yes (L : List (List Int)) (k : Int) (w : World) (h : IsT L) (hk0 : 0 ≤ k) (hk : k < chN L (sAll L.length)) :
    Calls Try.prog 51 #[.agg (iv (grd L)).toArray, .int .i64 k] w fun e w' => ∃ v, e = .returned (.tuple #[v, .bool true]) ∧ w'.ownsRow w.heap.size 3 1 v (itm L L.length (sAll L.length) k).length (iv (itm L L.length (sAll L.length) k)) ∧ Below w.heap.size w w' := by
  obtain ⟨j0, ji, jz0, jz1, jz2⟩ := info_parts info3
  have hle := h.le
  have r0 : Row (w.alloc (.cells (iv (grd L)).toArray 73)) w.heap.size 73 (iv (grd L)) := row_new rfl
  have b0 : Below w.heap.size w (w.alloc (.cells (iv (grd L)).toArray 73)) := by (repeat (first | exact Below.refl _ _ | assumption | (refine Below.setCell ?_ (by first | exact Nat.le_refl _ | omega | (simp; done) | (simp; omega)) _) | (refine Below.trans ?_ (below_drewN _)) | (refine Below.drew ?_) | (refine Below.alloc ?_ (by first | exact Nat.le_refl _ | omega | (simp; done) | (simp; omega)) _) | (refine below_row ?_ (by first | exact Nat.le_refl _ | omega | (simp; done) | (simp; omega)) _)))
  have hi := info73_iv (x := grd L) (grdP_len _ 100)
  have HO := Lib.hid (fun w => ones_grd L w h)
  have HP := Lib.hid (fun w => permanents_any (onesL L) w h.ones)
  have HF := Lib.hid (fun w => first_any L.length w (by omega))
  have HOL := Lib.hid (onesL_len L)
  have HC0 : Hid (∀ (W : World), Row W w.heap.size 73 (iv (grd L)) → W.cell? ⟨w.heap.size, 0, none⟩ = some (.int .i64 (L.length : Int))) := Lib.hid (fun W h => ivR h (i := 0) (by unfold grd; rw [grdP_len]; omega))
  have HCG : Hid (∀ (W : World) (r c : Nat), r < 10 → c < 10 → Row W w.heap.size 73 (iv (grd L)) → W.cell? ⟨w.heap.size, 1 + r * 10 + c, none⟩ = some (.int .i64 (gat L r c))) := Lib.hid (fun W r c hr hc h => by
    have := ivR h (i := 1 + r * 10 + c) (by unfold grd; rw [grdP_len]; omega)
    rwa [Nat.add_assoc, grd_at L hr hc, ← Nat.add_assoc] at this)
  have hAll : sAll L.length < 2^L.length := by unfold sAll; have := Nat.one_le_two_pow (n := L.length); omega
  have hP10 : 2^L.length ≤ 1024 := by have : 2^L.length ≤ 2^10 := Nat.pow_le_pow_right (by omega) hle; omega
  have HPI := Lib.hid (fun s (hs : s < 1024) => prm_bd h.ones hs)
  have hkb := (prm_bd h.ones (s := sAll L.length) (by omega)).2
  have HBS := Lib.hid (fun r s c => bfN_step h r s c)
  have HCS := Lib.hid (fun r s (hr : r < L.length) (hs : s < 2^L.length) (hp : pc 16 s + r = L.length) => chN_sum h hr hs hp)
  have hpa := pc_all (m := L.length) (by omega)
  have HK00 : Hid (k < chN L (sAll L.length)) := Lib.hid hk
  obtain ⟨T, HTT⟩ : ∃ T, Hid (itm L L.length (sAll L.length) k = T) := ⟨_, Lib.hid rfl⟩
  rw [HTT.out]
  clear h
  go_enter Try.func51, Try.ntmps51
  go_wp2
  apply wp_scope_straight
  go_wp2_with (first
    | (refine wpList_load_row rfl 73 (.tmp 2) rfl w.heap.size rfl 73 (iv (grd L)).toArray (0, 0) _ (row_heap r0) Try.underlying73 rfl hi ?_)
    | (go_at_call 68; refine (HO.out _).mono ?_; rintro e w2 ⟨rfl, b2⟩; replace r0 := r0.below b2; replace b0 := b0.trans (b2.mono b0.size))
    | (go_at_call 49; fail))
  refine (HP.out _).mono ?_
  rintro e w3 ⟨g, rfl, hg, hp, b3⟩
  rw [HOL.out] at hp
  replace r0 := r0.below b3
  replace b0 := b0.trans (b3.mono b0.size)
  have hlk := hp.look hAll
  have c0 := HC0.out _ r0
  have HPM := Lib.hid hp
  have HR0 := Lib.hid r0
  have hgl := hp.lt
  unfold chN at hk
  obtain ⟨q, hq⟩ : ∃ q, prm (onesL L) (sAll L.length) = q := ⟨_, rfl⟩
  rw [hq] at hlk hk hkb
  clear hq
  have g1 : decide (q ≤ k) = false := decide_eq_false (by omega)
  have HI0 : Hid ([] ++ itm L (L.length - 0) (sAll L.length) k = T) := HTT
  go_wp2_with (go_at_call 50; refine (HF.out _).mono ?_; rintro e w4 ⟨rfl, rfl⟩)
  apply wp_label
  go_wp2
  clear hlk c0 g1 hp r0 b3
  generalize sAll L.length = s0 at *
  have z0 : Below w3.heap.size w3 w3 := Below.refl _ _
  have o0 : w3.ownsRow w3.heap.size 3 1 (.slice none 0 0) 0 (iv []) := ⟨rfl, .inl ⟨rfl, rfl⟩⟩
  go_loopw [1, 7, 8, 25] (fun kv fv cv i wr => ∃ (r s : Nat) (k' : Int) (done : List Int), r ≤ L.length ∧ i = .int .i64 r ∧ fv = .int .u16 s ∧ s < 2^L.length ∧ kv = .int .i64 k' ∧ 0 ≤ k' ∧ k' ≤ k ∧ done.length ≤ r ∧ wr.ownsRow w3.heap.size 3 1 cv done.length (iv done) ∧ Hid (done ++ itm L (L.length - r) s k' = T) ∧ Below w3.heap.size w3 wr ∧ pc 16 s + r = L.length ∧ Hid (k' < chN L s)) (fun _ _ _ i _ => L.length - (intOf i).toNat)
  case atStart => exact ⟨0, s0, k, [], by omega, rfl, rfl, hAll, rfl, hk0, by omega, by simp, o0, HI0, z0, hpa, HK00⟩
  case round =>
    clear o0 z0 HI0 hpa HK00
    obtain ⟨r, s, k', done, hr, rfl, rfl, hs, rfl, hk1, hk2, hdl, o0, HT, z0, hpcs, HKC⟩ := hrel
    have r0 := HR0.out.below z0
    by_cases hlt : r < L.length
    · have c0 := HC0.out _ r0
      have HPM2 := Lib.hid (HPM.out.below z0)
      have hsz := z0.size
      have HPK0 : Hid (pk L r s ((List.range L.length).drop 0) k' = pk L r s (List.range L.length) k') := Lib.hid rfl
      have HBF0 : Hid (k' + bfN L r s 0 = k') := Lib.hid (by show k' + 0 = k'; omega)
      obtain ⟨A2, c2, rfl, -, -, -⟩ := own_intsI o0
      go_wp2
      clear c0
      go_loopw [1, 7, 8, 30] (fun kv fv cv i wr2 => ∃ (c : Nat) (k2 : Int), c ≤ L.length ∧ i = .int .i64 c ∧ kv = .int .i64 k2 ∧ fv = .int .u16 s ∧ cv = .slice A2 done.length c2 ∧ 0 ≤ k2 ∧ k2 ≤ k ∧ Hid (pk L r s ((List.range L.length).drop c) k2 = pk L r s (List.range L.length) k') ∧ Hid (k2 + bfN L r s c = k') ∧ wr = wr2) (fun _ _ _ i _ => L.length - (intOf i).toNat)
      case atStart => exact ⟨0, k', by omega, rfl, rfl, rfl, rfl, hk1, hk2, HPK0, HBF0, rfl⟩
      case round =>
        obtain ⟨c, k2, hc, rfl, rfl, rfl, rfl, hk3, hk4, HPK, HBF, rfl⟩ := hrel
        by_cases hlc : c < L.length
        · have d0 := HCG.out _ r c (by omega) (by omega) r0
          have hh := Lib.hid (has_any s c wr (by omega) (by omega))
          have hwt := Lib.hid (without_any s c wr (by omega) (by omega))
          have hls := without_le s c
          have hlk := HPM2.out.look (s := sWithout s c) (by omega)
          have hpb := HPI.out (sWithout s c) (by omega)
          have hpd := HPK.out
          rw [range_drop hlc] at hpd
          have HPD := Lib.hid hpd
          have HGA : Hid (gat L r c = gat L r c) := Lib.hid rfl
          clear hpd HPK
          cases hbit : s.testBit c
          · have HN : Hid (okC L r s c = false) := Lib.hid (by unfold okC; rw [hbit]; rfl)
            rw [show sHas s c = false from hbit] at hh
            have HP2 : Hid (pk L r s ((List.range L.length).drop (c + 1)) k2 = pk L r s (List.range L.length) k') := Lib.hid (by rw [← pk_skip HN.out]; exact HPD.out)
            clear hwt hlk hpb HPD hbit
            go_wp2_with (go_at_call 66; refine hh.out.mono ?_; rintro e w4 ⟨rfl, rfl⟩)
            go_roundw
            case rel => exact ⟨c + 1, k2, by omega, by go_num, rfl, rfl, rfl, hk3, hk4, HP2, Lib.hid (by rw [HBS.out, HN.out]; have := HBF.out; simp only [Bool.false_eq_true, if_false]; omega), by first | rfl | trivial⟩
            case measure => simp [intOf]; omega
          · rw [show sHas s c = true from hbit] at hh
            obtain ⟨x, hx⟩ : ∃ x, gat L r c = x := ⟨_, rfl⟩
            rw [hx] at d0
            by_cases hx0 : x = 0
            · have HN : Hid (okC L r s c = false) := Lib.hid (by unfold okC; rw [hx, hx0]; simp)
              have HP2 : Hid (pk L r s ((List.range L.length).drop (c + 1)) k2 = pk L r s (List.range L.length) k') := Lib.hid (by rw [← pk_skip HN.out]; exact HPD.out)
              have g2 : (x == 0) = true := by simp [hx0]
              clear hwt hlk hpb HPD hbit hx hx0
              go_wp2_with (go_at_call 66; refine hh.out.mono ?_; rintro e w4 ⟨rfl, rfl⟩)
              go_roundw
              case rel => exact ⟨c + 1, k2, by omega, by go_num, rfl, rfl, rfl, hk3, hk4, HP2, Lib.hid (by rw [HBS.out, HN.out]; have := HBF.out; simp only [Bool.false_eq_true, if_false]; omega), by first | rfl | trivial⟩
              case measure => simp [intOf]; omega
            · have HN : Hid (okC L r s c = true) := Lib.hid (by unfold okC; rw [hx, hbit]; simp [hx0])
              have g2 : (x == 0) = false := by simp [hx0]
              obtain ⟨y, hy⟩ : ∃ y, prm (onesL L) (sWithout s c) = y := ⟨_, rfl⟩
              rw [hy] at hlk hpb
              have HPW := Lib.hid (pc_without (s := s) (v := c) (by omega) (by omega) hbit)
              have HY : Hid (chN L (sWithout s c) = y) := Lib.hid hy
              obtain ⟨hp1, hp2⟩ := hpb
              clear hbit hx hx0 hy
              by_cases hky : k2 < y
              · have g3 : decide (k2 < y) = true := decide_eq_true hky
                have HP2 : Hid (pk L r s (List.range L.length) k' = some (c, k2)) := Lib.hid (by rw [← HPD.out]; exact pk_take HN.out (by rw [HY.out]; exact hky))
                have hnr : Row (wr.alloc (.cells #[.int .i64 (c : Int)] 3)) wr.heap.size 3 [.int .i64 (c : Int)] := row_new rfl
                have HSV : Hid (iv (done ++ [(c : Int)]) = iv done ++ [.int .i64 (c : Int)]) := Lib.hid (iv_snoc _ _)
                go_wp2_with (first
                  | (go_at_call 66; refine hh.out.mono ?_; rintro e w4 ⟨rfl, rfl⟩)
                  | (go_at_call 67; refine hwt.out.mono ?_; rintro e w4 ⟨rfl, rfl⟩)
                  | (at_builtin; refine wpList_append_own_at _ rfl (.tmp 54) (.tmp 56) 27 rfl w3.heap.size 3 j0 (.int .i64 0) 1 8 Try.underlying27 ji jz0 jz1 jz2 rfl (by decide) _ _ _ rfl (o0.alloc _) ⟨wr.heap.size, 0, none⟩ 1 1 [.int .i64 (c : Int)] rfl rfl (news_one hnr) (by simp [Value.oneCell']) (by unfold maxLen; omega) (by omega) (by simp; omega) ?_; intro v2 w2 o2 hg2 _ _; rw [← HSV.out] at o2; have b4 := z0.trans (app1' o0 hsz hg2)))
                have HKN : Hid (k2 < chN L (sWithout s c)) := Lib.hid (by rw [HY.out]; exact hky)
                have HT2 : Hid ((done ++ [(c : Int)]) ++ itm L (L.length - (r + 1)) (sWithout s c) k2 = T) := Lib.hid (by
                  rw [← HT.out, List.append_assoc, List.singleton_append]
                  congr 1
                  obtain ⟨m, hm⟩ : ∃ m, L.length - r = m + 1 := ⟨L.length - r - 1, by omega⟩
                  rw [hm, show L.length - (r + 1) = m by omega]
                  refine (itm_some ?_).symm
                  rw [show L.length - (m + 1) = r by omega]; exact HP2.out)
                go_roundw
                case rel => exact ⟨r + 1, sWithout s c, k2, done ++ [(c : Int)], by omega, by go_num, rfl, by omega, rfl, hk3, hk4, by simp; omega, by rw [List.length_append, List.length_singleton]; exact o2, HT2, b4, by have := HPW.out; omega, HKN⟩
                case measure => simp [intOf]; omega
              · have g3 : decide (k2 < y) = false := decide_eq_false hky
                have HP2 : Hid (pk L r s ((List.range L.length).drop (c + 1)) (k2 - y) = pk L r s (List.range L.length) k') := Lib.hid (by rw [← HPD.out, pk_next HN.out (by rw [HY.out]; exact hky), HY.out])
                go_wp2_with (first
                  | (go_at_call 66; refine hh.out.mono ?_; rintro e w4 ⟨rfl, rfl⟩)
                  | (go_at_call 67; refine hwt.out.mono ?_; rintro e w4 ⟨rfl, rfl⟩))
                go_roundw
                case rel => exact ⟨c + 1, k2 - y, by omega, by go_num, rfl, rfl, rfl, by omega, by omega, HP2, Lib.hid (by rw [HBS.out, HN.out, HY.out]; have := HBF.out; simp only [if_true]; omega), by first | rfl | trivial⟩
                case measure => simp [intOf]; omega
        · obtain rfl : c = L.length := by omega
          exact absurd HKC.out (by rw [HCS.out r s hlt hs hpcs]; have := HBF.out; omega)
    · obtain rfl : r = L.length := by omega
      have HT3 : Hid (done = T) := Lib.hid (by rw [← HT.out, Nat.sub_self]; simp [itm])
      rw [HT3.out] at o0
      obtain ⟨A2, c2, rfl, -, -, -⟩ := own_intsI o0
      go_wp2
      simp only [Exit.noGoto]
      go_ret2
      exact ⟨_, rfl, own_mono o0 b0.size, b0.trans (z0.mono b0.size)⟩
end Go.Proofs.Ytnnaaoobdofooaa
