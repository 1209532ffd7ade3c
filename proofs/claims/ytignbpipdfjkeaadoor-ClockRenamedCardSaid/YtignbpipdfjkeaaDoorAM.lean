/- A search. -/
import Derived.Test.YtignbpipdfjkeaaDoorAJ
namespace Go.Proofs.YtignbpipdfjkeaaDoor
open Go.RowKit
set_option maxHeartbeats 2000000
set_option maxRecDepth 100000
/-- What a search answers. -/
def seekV : Option (Nat × List Nat) → Value
  | none => .tuple #[.string ⟨#[]⟩, .int .u16 0, .bool false]
  | some (t, x) => .tuple #[.string (wS x), .int .u16 t, .bool true]
theorem wS_nil : wS [] = ⟨#[]⟩ := rfl
theorem info80 : (Tryd.prog.info? 80).map (fun i => (i.zero, i.size, i.bytes)) = some (some (.int .u16 0), 1, 2) := by kernel_rfl
theorem results_tmp3 {fn : Func} {t u v : Tmp} (h : fn.results = #[.tmp t, .tmp u, .tmp v]) (tmps : Array Value) (P : Program) (w : World) :
    (results fn tmps).run P w = .ok (.tuple #[tmps.getD t undef, tmps.getD u undef, tmps.getD v undef]) w := by
  simp [results, h]
/-- Sets as they are kept. -/
def mv (R : Met) : List Value := R.map fun e => .int .u16 (e.1 : Int)
theorem mv_snoc (R : Met) (t : Nat) (x : List Nat) : mv (R ++ [(t, x)]) = mv R ++ [.int .u16 (t : Int)] := by simp [mv]
theorem mv_at {R : Met} {i : Nat} (h : i < R.length) : (mv R)[i]? = some (.int .u16 ((elS R i).1 : Int)) := by
  unfold mv elS; rw [List.getElem?_map, List.getD_eq_getElem?_getD, List.getElem?_eq_getElem h]; rfl
/-- Sets that the call keeps, read. -/
theorem own_sets {w : World} {b n : Nat} {v : Value} {R : Met} (h : w.ownsRow b 80 1 v n (mv R)) (hn : 0 < n) : ∃ g c, v = .slice (some ⟨g, 0, none⟩) R.length c ∧ b ≤ g ∧ g < w.heap.size ∧ ∀ i, i < R.length → w.cell? ⟨g, i, none⟩ = some (.int .u16 ((elS R i).1 : Int)) := by
  have hl : R.length = n := by have := h.1; simp [mv] at this; omega
  rcases h.2 with ⟨rfl, h0⟩ | ⟨g, cap, cur, rfl, hb, hg, hc, _, hs, ht⟩
  · omega
  · refine ⟨g, cap, by rw [hl], hb, (Array.getElem?_eq_some_iff.1 hg).1, fun i hi => ?_⟩
    rw [cell_of_row w g _ _ _ _ hg]
    have e1 : cur.toList[i]? = (mv R)[i]? := by rw [← ht, List.getElem?_take, if_pos (by omega)]
    rw [← Array.getElem?_toList, e1, mv_at hi]
theorem own_shape {w : World} {b n z : Nat} {e : TypeId} {v : Value} {xs : List Value} (h : w.ownsRow b e z v n xs) : ∃ A c, v = .slice A n c := by
  rcases h.2 with ⟨rfl, h0⟩ | ⟨g, cap, cur, rfl, _⟩
  · exact ⟨none, 0, by rw [h0]⟩
  · exact ⟨_, cap, rfl⟩
theorem own_first (w : World) (b s : Nat) (hb : b ≤ w.heap.size) : (w.alloc (.cells #[.int .u16 (s : Int)] 80)).ownsRow b 80 1 (.slice (some ⟨w.heap.size, 0, none⟩) 1 1) 1 (mv [(s, [])]) :=
  ⟨rfl, .inr ⟨w.heap.size, 1, _, rfl, hb, heap_alloc_new _ _, by omega, by unfold maxLen; omega, rfl, rfl⟩⟩
theorem search70 (L : List (List Int)) (s P : Nat) (g : Nat → Bool) (w : World) (h : IsMI L) (hs : IsS (nS L) s) (h0 : s ≠ 0) (ht : TabW w)
    (hG : ∀ (t : Nat) (V : World), t < 512 → Below w.heap.size w V → Calls Tryd.prog 70 #[.int .u16 t, .pointer (some ⟨P, 0, none⟩)] V fun e w' => e = .returned (.bool (g t)) ∧ ∃ n, w' = V.drewN n) :
    Calls Tryd.prog 66 #[.agg (iv (mc L)).toArray, .int .u16 s, .func (.func 70) #[] #[.pointer (some ⟨P, 0, none⟩)]] w fun e w' => e = .returned (seekV (seek (tabN L) L.length s g)) ∧ Below w.heap.size w w' := by
  have hs512 := set512 h.n9 hs
  have hmm := @run_makeMap Tryd.prog
  obtain ⟨j0, ji, jz0, jz1, jz2⟩ := info_parts info80
  have HG := Lib.hid hG
  have hb0 : Below w.heap.size w (w.alloc (.cells (iv (mc L)).toArray 76)) := (Below.refl _ w).alloc (Nat.le_refl _) _
  have r0 : Row (w.alloc (.cells (iv (mc L)).toArray 76)) w.heap.size 76 (iv (mc L)) := row_new rfl
  have hM := h.isM
  have hk4 := h.k4
  have HPR := Lib.hid (fun (t b : Nat) (V : World) (ht5 : t < 512) (hb : b < L.length) (hV : Below w.heap.size w V) => press_any L t b V h ht5 hb (ht.below hV ht.lt))
  have HCK : Hid (∀ (W : World), Row W w.heap.size 76 (iv (mc L)) → W.cell? ⟨w.heap.size, 1, none⟩ = some (.int .i64 (L.length : Int))) := Lib.hid (fun W h => by have := ivR h (i := 1) (by unfold mc; rw [mcP_len]; omega); unfold mc at this; rwa [mcP_k] at this)
  have hi4 : (Tryd.prog.info? 76).map (·.size) = some (iv (mc L)).length := by rw [iv_len]; unfold mc; rw [mcP_len]; exact info76
  clear hG
  obtain ⟨X, hX⟩ : ∃ X, seek (tabN L) L.length s g = X := ⟨_, rfl⟩
  have HX := Lib.hid hX
  have HSS := Lib.hid (fun hg => (seek_start (T := tabN L) (k := L.length) (s := s) (g := g) hg).symm.trans hX)
  rw [hX]
  clear hX ht
  cases hgs : g s
  · have HG0 := Lib.hid (HG.out s _ hs512 hb0)
    rw [hgs] at HG0
    have HSI0 := Lib.hid (si_start (T := tabN L) (k := L.length) (n := nS L) hgs)
    clear hgs HSS
    have HM := Lib.hid hM
    have HS := Lib.hid hs
    clear hM hs h
    obtain ⟨k, hk⟩ : ∃ k, L.length = k := ⟨_, rfl⟩
    rw [hk] at hk4 HPR HCK HX HSI0 HM
    clear hk
    obtain ⟨n, hn⟩ : ∃ n, nS L = n := ⟨_, rfl⟩
    rw [hn] at HM HS HSI0
    have HRE0 : Hid (reach (tabN L) k s = bfs (tabN L) k 512 0 [(s, [])]) := Lib.hid rfl
    clear hn
    generalize tabN L = T at *
    go_enter Tryd.func66, Tryd.ntmps66
    go_wp2
    apply wp_scope_straight
    go_wp2_with (go_at_call 70; refine HG0.out.mono ?_; rintro e w1 ⟨rfl, n1, rfl⟩; have b1 := hb0.trans (below_drewN n1); have r1 := r0.drewN n1; clear r0 hb0; generalize World.drewN _ _ = W1 at *; have hlt1 := r1.lt; obtain ⟨wm, em, mm, gm⟩ := (mapAt_made W1).update (t := s) (by omega) (by decide) (0, 0); have em' : (Instr.mapUpdate 108 (.map (some W1.heap.size)) (.int .u16 s) (.agg #[.int .u16 0, .int .i64 0])).run Tryd.prog (W1.alloc (.map #[] 0)) = .ok () wm := em; clear em; have b2 := b1.alloc b1.size (.map #[] 0); have b3 := b2.grown gm b2.size (fun g h => by injection h with h; have := b1.size; omega); have r3 := (r1.alloc (.map #[] 0)).grown gm (by intro e; injection e with e; have := r1.lt; omega); have hb3 := b3.size)
    clear em' b1 b2 r1 gm HG0
    have b4 := b3.alloc b3.size (.cells #[.int .u16 (s : Int)] 80)
    have r4 := r3.alloc (.cells #[.int .u16 (s : Int)] 80)
    have m4 : MapAt (wm.alloc (.cells #[.int .u16 (s : Int)] 80)) W1.heap.size [(s, ([] : List Nat))].length (putF (fun _ => none) s (0, 0)) := mm.below ((Below.refl _ _).alloc (Nat.le_refl _) _)
    have o4 := own_first wm w.heap.size s hb3
    generalize World.alloc _ _ = W4 at *
    have hgmB : w.heap.size < W1.heap.size := hlt1
    generalize W1.heap.size = gm at *
    clear b3 r3 mm hb3 hmm
    apply wp_label
    go_wp2
    go_loopw [10, 11, 12] (fun v z q wr => ∃ (i f : Nat) (R : Met) (F : Nat → Option (Nat × Nat)), q = .int .i64 i ∧ z = .int .u16 0 ∧ i + f = 512 ∧ i ≤ R.length ∧ wr.ownsRow w.heap.size 80 1 v R.length (mv R) ∧ MapAt wr gm R.length F ∧ Row wr w.heap.size 76 (iv (mc L)) ∧ Below w.heap.size w wr ∧ Hid (SI T k n s g F R i 0 ∧ reach T k s = bfs T k f i R)) (fun _ _ q _ => 512 - (intOf q).toNat)
    case atStart => exact ⟨0, 512, [(s, [])], _, rfl, rfl, rfl, by simp, o4, m4, r4, b4, Lib.hid ⟨HSI0.out, HRE0.out⟩⟩
    case round =>
      clear b4 r4 m4 o4 HSI0 HRE0 W4
      obtain ⟨i, f, R, F, rfl, rfl, hif, hiR, o4, m4, r4, b4, HI⟩ := hrel
      have hRl := HI.out.1.len HM.out HS.out
      by_cases hlt : i < R.length
      · obtain ⟨gv, cv, rfl, hgv, hgv2, hcv⟩ := own_sets o4 (by omega)
        have g1 : decide (i < R.length) = true := decide_eq_true hlt
        obtain ⟨f, rfl⟩ : ∃ f', f = f' + 1 := ⟨f - 1, by omega⟩
        have HI2 : Hid (SI T k n s g F R i 0 ∧ reach T k s = bfs T k f (i + 1) (rowS T i k 0 R)) := Lib.hid ⟨HI.out.1, by rw [HI.out.2, bfs_go hlt]⟩
        have ck := HCK.out _ r4
        clear hcv HI hRl
        go_wp2
        clear ck
        go_loopw [10, 11, 35] (fun v z q wr => ∃ (c : Nat) (R : Met) (F : Nat → Option (Nat × Nat)), q = .int .i64 c ∧ z = .int .u16 0 ∧ c ≤ k ∧ i < R.length ∧ wr.ownsRow w.heap.size 80 1 v R.length (mv R) ∧ MapAt wr gm R.length F ∧ Row wr w.heap.size 76 (iv (mc L)) ∧ Below w.heap.size w wr ∧ Hid (SI T k n s g F R i c ∧ reach T k s = bfs T k f (i + 1) (rowS T i (k - c) c R))) (fun _ _ q _ => k - (intOf q).toNat)
        case atStart => exact ⟨0, R, F, rfl, rfl, by omega, hlt, o4, m4, r4, b4, HI2⟩
        case round =>
          clear o4 m4 r4 b4 HI2 hlt g1 hiR hgv hgv2
          obtain ⟨c, R, F, rfl, rfl, hck, hlt, o4, m4, r4, b4, HI⟩ := hrel
          have hRl := HI.out.1.len HM.out HS.out
          by_cases hc : c < k
          · obtain ⟨gv, cv, rfl, hgv, hgv2, hcv⟩ := own_sets o4 (by omega)
            have g1 : decide (c < k) = true := decide_eq_true hc
            have c0 := hcv i hlt
            have hel := HI.out.1.el_set HM.out HS.out h0 hlt
            have hel5 := set512 HM.out.n9 hel.1
            have ht5 := set512 HM.out.n9 (prs_set HM.out hel.1 hc)
            have ht0 := prs_ne (b := c) (L := T) HM.out.n9 hel.1 hel.2
            have HKN := Lib.hid (fun hF => HI.out.1.known hlt hc hF)
            have HNW := Lib.hid (fun hF hg => HI.out.1.new HM.out HS.out h0 hlt hc hF hg)
            have HHT := Lib.hid (fun hF hg c' f' hr => HI.out.1.hit HM.out HS.out h0 hlt hc hF hg (f := f') (c := c') hr)
            have HST := Lib.hid (fun hF => steps_add HM.out HS.out h0 HI.out.1 hlt hc hF)
            have HRM := Lib.hid (fun hF => HI.out.1.room HM.out HS.out h0 hlt hc hF)
            have HRR : Hid (reach T k s = bfs T k f (i + 1) (rowS T i (k - c) c R)) := Lib.hid HI.out.2
            obtain ⟨y, hy⟩ : ∃ y, (elS R i).2 = y := ⟨_, rfl⟩
            obtain ⟨p, hp⟩ : ∃ p, (elS R i).1 = p := ⟨_, rfl⟩
            have HAD : Hid (rowS T i (k - c) c R = rowS T i (k - (c + 1)) (c + 1) (addS T R i c)) := Lib.hid (by rw [show k - c = (k - (c + 1)) + 1 by omega]; rfl)
            rw [hp] at c0 hel5 ht5 ht0 HKN HNW HHT HST HRM
            rw [hy] at HNW HHT HST HRM
            have HPC := Lib.hid (fun V hV => HPR.out p c V hel5 hc hV)
            obtain ⟨t, ht⟩ : ∃ t, prs T p c = t := ⟨_, rfl⟩
            rw [ht] at ht5 ht0 HKN HNW HHT HST HRM HPC
            have HP : Hid (∀ u : After wr, Calls Tryd.prog 74 #[.agg (iv (mc L)).toArray, .int .u16 p, .int .i64 c] u.v fun e w' => e = .returned (.int .u16 t) ∧ Below u.v.heap.size u.v w') := Lib.hid (fun u => (HPC.out u.v (b4.trans (u.h.mono b4.size))).mono (fun e w' ⟨he, kk, hw⟩ => ⟨he, by rw [hw]; exact ((Below.refl _ _).alloc (Nat.le_refl _) _).trans (below_drewN _)⟩))
            have c9 : ∀ u : After wr, u.v.cell? ⟨gv, i, none⟩ = some (.int .u16 (p : Int)) := fun u => After.cell c0 u
            clear hcv c0 hel hp hy ht HI HPC
            have HO := Lib.hid o4
            go_wp2
            refine wp_region_class_all (C := fun w' => ∃ u : After _, w' = u.v) (by kernel_rfl) (by kernel_rfl) (isAfter_start _) ?_
            try simp only [Act.put]
            repeat (first | ((with_reducible refine (?_ : wpQuiet _ _ _ _ (Oper.mk (some 38) _ _ _ _ _ :: _) _); go_big_quiet_want); refine quiet_load_row 76 (.tmp 3) rfl w.heap.size rfl 76 (iv (mc L)) _ (fun _ hc => after_row r4 hc) Tryd.underlying76 rfl hi4 ?_; simp only [Act.put, List.setIfInBounds_toArray, List.set_cons_zero, List.set_cons_succ]; go_big_quiet_on) | go_big_quiet_step ((with_reducible refine (HP.out _).mono ?_; rintro e w8 ⟨rfl, b8⟩; exact ⟨rfl, After.done _ b8⟩)))
            refine wpQuiet_nil ?_
            rintro _ ⟨ua, rfl⟩
            have bU := b4.trans (ua.h.mono b4.size)
            have mU := m4.below ua.h
            have rU := r4.below ua.h
            have hVs := ua.h.size
            have oU := HO.out.kept' ua.h
            have cU : ua.v.cell? ⟨gv, i, none⟩ = some (.int .u16 (p : Int)) := c9 ua
            have hgU : gv < ua.v.heap.size := Nat.lt_of_lt_of_le hgv2 ua.h.size
            clear c9 HP b4 m4 r4 o4 HO hVs hgv2
            generalize ua.v = V at *
            cases hF : (F t).isSome
            · have hFn : F t = none := by cases e : F t with
                | none => rfl
                | some q => rw [e] at hF; cases hF
              have hl2 := mU.look2 (s := t) (by omega)
              rw [hFn] at hl2
              change (Instr.lookup 108 (.map (some gm)) (.int .u16 t) true).run Tryd.prog V = .ok (.tuple #[.agg #[.int .u16 0, .int .i64 0], .bool false]) V at hl2
              have bA := bU.alloc bU.size (.cells #[.int .u16 0, .int .i64 0] 107)
              have mA : MapAt (V.alloc (.cells #[.int .u16 0, .int .i64 0] 107)) gm R.length F := mU.below ((Below.refl _ _).alloc (Nat.le_refl _) _)
              have rA := rU.alloc (.cells #[.int .u16 0, .int .i64 0] 107)
              have oA := oU.alloc (.cells #[.int .u16 0, .int .i64 0] 107)
              have cA : (V.alloc (.cells #[.int .u16 0, .int .i64 0] 107)).cell? ⟨gv, i, none⟩ = some (.int .u16 (p : Int)) := by rw [World.cell?_alloc_lt _ _ ⟨gv, i, none⟩ hgU]; exact cU
              obtain ⟨hy5, hR5⟩ := HRM.out hF
              have HHT2 := Lib.hid (HHT.out hF)
              have HNW2 := Lib.hid (HNW.out hF)
              have HST2 := Lib.hid (HST.out hF)
              obtain ⟨wN, eN, mN, gN⟩ := mA.update (t := t) (by omega) (by omega) (p, c)
              unfold stepV at eN
              change (Instr.mapUpdate 108 (.map (some gm)) (.int .u16 t) (.agg #[.int .u16 (p : Int), .int .i64 (c : Int)])).run Tryd.prog (V.alloc (.cells #[.int .u16 0, .int .i64 0] 107)) = .ok () wN at eN
              have hgm := mU.lt
              have bN := bA.grown gN bA.size (fun g h => by injection h with h; omega)
              have rN := rA.grown gN (by intro e; injection e with e; omega)
              have oN := oA.kept gN (.inr (fun e => mA.not_row oA e.symm))
              have hNs := bN.size
              cases hg : g t
              · obtain ⟨hAdd, hSI⟩ := HNW2.out hg
                have HI3 : Hid (SI T k n s g (putF F t (p, c)) (R ++ [(t, y ++ [c])]) i (c + 1) ∧ reach T k s = bfs T k f (i + 1) (rowS T i (k - (c + 1)) (c + 1) (R ++ [(t, y ++ [c])]))) := Lib.hid ⟨hSI, by rw [HRR.out, HAD.out, hAdd]⟩
                have HGT := Lib.hid (HG.out t wN ht5 bN)
                rw [hg] at HGT
                have HMV : Hid (mv (R ++ [(t, y ++ [c])]) = mv R ++ [.int .u16 (t : Int)]) := Lib.hid (mv_snoc _ _ _)
                clear hAdd hSI HHT2 HNW2 HST2 HHT HNW HST HKN HRM hFn hF hg bA mA rA oA gN hgm hgU rU oU bU cU mU
                go_wp2_with (first
                  | (go_at_call 70; refine HGT.out.mono ?_; rintro e w6 ⟨rfl, n6, rfl⟩; replace bN := bN.trans (below_drewN n6); replace rN := rN.drewN n6; replace mN := mN.below (below_drewN n6); replace oN := oN.kept' (below_drewN n6); replace hNs := bN.size; generalize World.drewN _ _ = W6 at *)
                  | (at_builtin; refine wpList_append_own_at _ rfl _ _ 109 rfl w.heap.size 80 j0 (.int .u16 0) 1 2 Tryd.underlying109 ji jz0 jz1 jz2 rfl (by decide) _ _ _ rfl (oN.alloc _) ⟨W6.heap.size, 0, none⟩ 1 1 [.int .u16 (t : Int)] rfl rfl (news_one (row_new (t := 80) (cs := [.int .u16 (t : Int)]) rfl)) (by simp [Value.oneCell']) (by unfold maxLen; omega) (by omega) (by simp; omega) ?_; intro v2 w2 o2 hg2 _ _; have b2 := bN.trans (app1' oN hNs hg2); have m2 := (mN.below ((Below.refl _ _).alloc (Nat.le_refl _) _)).grown hg2 (mN.not_row oN); have r2 := (rN.alloc _).grown hg2 (rN.not_own oN (by decide))))
                go_roundw
                case rel => exact ⟨c + 1, R ++ [(t, y ++ [c])], putF F t (p, c), by go_num, rfl, by omega, by rw [List.length_append]; omega, by rw [List.length_append, HMV.out]; exact o2, by rw [List.length_append]; exact m2, r2, b2, HI3⟩
                case measure => simp [intOf]; omega
              · have hseek := HHT2.out hg (k - (c + 1)) f (by rw [HRR.out, show k - c = k - (c + 1) + 1 by omega])
                have hxx := hseek.symm.trans HX.out
                have HGT := Lib.hid (HG.out t wN ht5 bN)
                rw [hg] at HGT
                have HWT := Lib.hid (fun (W : World) (hW : MapAt W gm (R.length + 1) (putF F t (p, c))) => wordTo_any (putF F t (p, c)) (R ++ [(t, y ++ [c])]) gm (R.length + 1) t (y ++ [c]) W HST2.out (by simp) (by simp; omega) (by simp) ht5 hW)
                have gz : ((t : Int) == 0) = false := by simp; omega
                have HSV : Hid (seekV (some (t, y ++ [c])) = .tuple #[.string (wS (y ++ [c])), .int .u16 t, .bool true]) := Lib.hid rfl
                clear hseek HHT2 HNW2 HST2 HHT HNW HST HKN HRM hFn hF hg bA mA rA oA gN hgm hgU rU oU bU cU mU HX
                subst hxx
                go_wp2_with (first
                  | (go_at_call 70; refine HGT.out.mono ?_; rintro e w6 ⟨rfl, n6, rfl⟩; replace bN := bN.trans (below_drewN n6); replace mN := mN.below (below_drewN n6); have HW2 := Lib.hid (HWT.out _ mN); generalize World.drewN _ _ = W6 at *)
                  | (go_at_call 75; refine HW2.out.mono ?_; rintro e w7 ⟨rfl, b7⟩; replace bN := bN.trans (b7.mono bN.size)))
                simp only [Exit.noGoto]
                exact bodyPost_ret (results_tmp3 rfl _ _ _) rfl ⟨by rw [HSV.out]; rfl, bN⟩
            · obtain ⟨q, hq⟩ : ∃ q, F t = some q := by cases e : F t with
                | none => rw [e] at hF; cases hF
                | some q => exact ⟨q, rfl⟩
              have hl2 := mU.look2 (s := t) (by omega)
              rw [hq] at hl2
              change (Instr.lookup 108 (.map (some gm)) (.int .u16 t) true).run Tryd.prog V = .ok (.tuple #[.agg #[.int .u16 (q.1 : Int), .int .i64 (q.2 : Int)], .bool true]) V at hl2
              obtain ⟨hAdd, hSI⟩ := HKN.out hF
              have HI3 : Hid (SI T k n s g F R i (c + 1) ∧ reach T k s = bfs T k f (i + 1) (rowS T i (k - (c + 1)) (c + 1) R)) := Lib.hid ⟨hSI, by rw [HRR.out, HAD.out, hAdd]⟩
              have bA := bU.alloc bU.size (.cells #[.int .u16 (q.1 : Int), .int .i64 (q.2 : Int)] 107)
              have mA : MapAt (V.alloc (.cells #[.int .u16 (q.1 : Int), .int .i64 (q.2 : Int)] 107)) gm R.length F := mU.below ((Below.refl _ _).alloc (Nat.le_refl _) _)
              have rA := rU.alloc (.cells #[.int .u16 (q.1 : Int), .int .i64 (q.2 : Int)] 107)
              have oA := oU.alloc (.cells #[.int .u16 (q.1 : Int), .int .i64 (q.2 : Int)] 107)
              clear hAdd hSI HHT HNW HST HKN HRM hF hq bU mU rU oU cU hgU HRR HAD
              go_wp2
              go_roundw
              case rel => exact ⟨c + 1, R, F, by go_num, rfl, by omega, hlt, oA, mA, rA, bA, HI3⟩
              case measure => simp [intOf]; omega
          · obtain rfl : c = k := by omega
            have HI3 : Hid (SI T c n s g F R (i + 1) 0 ∧ reach T c s = bfs T c f (i + 1) R) := Lib.hid ⟨HI.out.1.next HM.out hlt, by have := HI.out.2; rw [Nat.sub_self] at this; exact this⟩
            clear HI
            go_wp2
            go_roundw
            case rel => exact ⟨i + 1, f, R, F, by go_num, rfl, by omega, by omega, o4, m4, r4, b4, HI3⟩
            case measure => simp [intOf]; omega
      · have hxx := (HI.out.1.miss (HI.out.2.trans (bfs_end (by omega)))).symm.trans HX.out
        subst hxx
        have g1 : decide (i < R.length) = false := decide_eq_false hlt
        obtain ⟨Rv, cv, rfl⟩ := own_shape o4
        clear HI HX
        go_wp2
        simp only [Exit.noGoto]
        exact bodyPost_ret (results_tmp3 rfl _ _ _) rfl ⟨rfl, b4⟩
  · have HG0 := Lib.hid (HG.out s _ hs512 hb0)
    have hx := HSS.out hgs
    rw [hgs] at HG0
    clear hgs HSS
    subst hx
    go_enter Tryd.func66, Tryd.ntmps66
    go_wp2
    apply wp_scope_straight
    go_wp2_with (go_at_call 70; refine HG0.out.mono ?_; rintro e w1 ⟨rfl, n1, rfl⟩; have b1 := hb0.trans (below_drewN n1); generalize World.drewN _ _ = W1 at *)
    simp only [Exit.noGoto]
    exact bodyPost_ret (results_tmp3 rfl _ _ _) rfl ⟨rfl, b1⟩
theorem search67 (L : List (List Int)) (s P : Nat) (g : Nat → Bool) (w : World) (h : IsMI L) (hs : IsS (nS L) s) (h0 : s ≠ 0) (ht : TabW w)
    (hG : ∀ (t : Nat) (V : World), t < 512 → Below w.heap.size w V → Calls Tryd.prog 67 #[.int .u16 t, .pointer (some ⟨P, 0, none⟩)] V fun e w' => e = .returned (.bool (g t)) ∧ ∃ n, w' = V.drewN n) :
    Calls Tryd.prog 66 #[.agg (iv (mc L)).toArray, .int .u16 s, .func (.func 67) #[] #[.pointer (some ⟨P, 0, none⟩)]] w fun e w' => e = .returned (seekV (seek (tabN L) L.length s g)) ∧ Below w.heap.size w w' := by
  have hs512 := set512 h.n9 hs
  have hmm := @run_makeMap Tryd.prog
  obtain ⟨j0, ji, jz0, jz1, jz2⟩ := info_parts info80
  have HG := Lib.hid hG
  have hb0 : Below w.heap.size w (w.alloc (.cells (iv (mc L)).toArray 76)) := (Below.refl _ w).alloc (Nat.le_refl _) _
  have r0 : Row (w.alloc (.cells (iv (mc L)).toArray 76)) w.heap.size 76 (iv (mc L)) := row_new rfl
  have hM := h.isM
  have hk4 := h.k4
  have HPR := Lib.hid (fun (t b : Nat) (V : World) (ht5 : t < 512) (hb : b < L.length) (hV : Below w.heap.size w V) => press_any L t b V h ht5 hb (ht.below hV ht.lt))
  have HCK : Hid (∀ (W : World), Row W w.heap.size 76 (iv (mc L)) → W.cell? ⟨w.heap.size, 1, none⟩ = some (.int .i64 (L.length : Int))) := Lib.hid (fun W h => by have := ivR h (i := 1) (by unfold mc; rw [mcP_len]; omega); unfold mc at this; rwa [mcP_k] at this)
  have hi4 : (Tryd.prog.info? 76).map (·.size) = some (iv (mc L)).length := by rw [iv_len]; unfold mc; rw [mcP_len]; exact info76
  clear hG
  obtain ⟨X, hX⟩ : ∃ X, seek (tabN L) L.length s g = X := ⟨_, rfl⟩
  have HX := Lib.hid hX
  have HSS := Lib.hid (fun hg => (seek_start (T := tabN L) (k := L.length) (s := s) (g := g) hg).symm.trans hX)
  rw [hX]
  clear hX ht
  cases hgs : g s
  · have HG0 := Lib.hid (HG.out s _ hs512 hb0)
    rw [hgs] at HG0
    have HSI0 := Lib.hid (si_start (T := tabN L) (k := L.length) (n := nS L) hgs)
    clear hgs HSS
    have HM := Lib.hid hM
    have HS := Lib.hid hs
    clear hM hs h
    obtain ⟨k, hk⟩ : ∃ k, L.length = k := ⟨_, rfl⟩
    rw [hk] at hk4 HPR HCK HX HSI0 HM
    clear hk
    obtain ⟨n, hn⟩ : ∃ n, nS L = n := ⟨_, rfl⟩
    rw [hn] at HM HS HSI0
    have HRE0 : Hid (reach (tabN L) k s = bfs (tabN L) k 512 0 [(s, [])]) := Lib.hid rfl
    clear hn
    generalize tabN L = T at *
    go_enter Tryd.func66, Tryd.ntmps66
    go_wp2
    apply wp_scope_straight
    go_wp2_with (go_at_call 67; refine HG0.out.mono ?_; rintro e w1 ⟨rfl, n1, rfl⟩; have b1 := hb0.trans (below_drewN n1); have r1 := r0.drewN n1; clear r0 hb0; generalize World.drewN _ _ = W1 at *; have hlt1 := r1.lt; obtain ⟨wm, em, mm, gm⟩ := (mapAt_made W1).update (t := s) (by omega) (by decide) (0, 0); have em' : (Instr.mapUpdate 108 (.map (some W1.heap.size)) (.int .u16 s) (.agg #[.int .u16 0, .int .i64 0])).run Tryd.prog (W1.alloc (.map #[] 0)) = .ok () wm := em; clear em; have b2 := b1.alloc b1.size (.map #[] 0); have b3 := b2.grown gm b2.size (fun g h => by injection h with h; have := b1.size; omega); have r3 := (r1.alloc (.map #[] 0)).grown gm (by intro e; injection e with e; have := r1.lt; omega); have hb3 := b3.size)
    clear em' b1 b2 r1 gm HG0
    have b4 := b3.alloc b3.size (.cells #[.int .u16 (s : Int)] 80)
    have r4 := r3.alloc (.cells #[.int .u16 (s : Int)] 80)
    have m4 : MapAt (wm.alloc (.cells #[.int .u16 (s : Int)] 80)) W1.heap.size [(s, ([] : List Nat))].length (putF (fun _ => none) s (0, 0)) := mm.below ((Below.refl _ _).alloc (Nat.le_refl _) _)
    have o4 := own_first wm w.heap.size s hb3
    generalize World.alloc _ _ = W4 at *
    have hgmB : w.heap.size < W1.heap.size := hlt1
    generalize W1.heap.size = gm at *
    clear b3 r3 mm hb3 hmm
    apply wp_label
    go_wp2
    go_loopw [10, 11, 12] (fun v z q wr => ∃ (i f : Nat) (R : Met) (F : Nat → Option (Nat × Nat)), q = .int .i64 i ∧ z = .int .u16 0 ∧ i + f = 512 ∧ i ≤ R.length ∧ wr.ownsRow w.heap.size 80 1 v R.length (mv R) ∧ MapAt wr gm R.length F ∧ Row wr w.heap.size 76 (iv (mc L)) ∧ Below w.heap.size w wr ∧ Hid (SI T k n s g F R i 0 ∧ reach T k s = bfs T k f i R)) (fun _ _ q _ => 512 - (intOf q).toNat)
    case atStart => exact ⟨0, 512, [(s, [])], _, rfl, rfl, rfl, by simp, o4, m4, r4, b4, Lib.hid ⟨HSI0.out, HRE0.out⟩⟩
    case round =>
      clear b4 r4 m4 o4 HSI0 HRE0 W4
      obtain ⟨i, f, R, F, rfl, rfl, hif, hiR, o4, m4, r4, b4, HI⟩ := hrel
      have hRl := HI.out.1.len HM.out HS.out
      by_cases hlt : i < R.length
      · obtain ⟨gv, cv, rfl, hgv, hgv2, hcv⟩ := own_sets o4 (by omega)
        have g1 : decide (i < R.length) = true := decide_eq_true hlt
        obtain ⟨f, rfl⟩ : ∃ f', f = f' + 1 := ⟨f - 1, by omega⟩
        have HI2 : Hid (SI T k n s g F R i 0 ∧ reach T k s = bfs T k f (i + 1) (rowS T i k 0 R)) := Lib.hid ⟨HI.out.1, by rw [HI.out.2, bfs_go hlt]⟩
        have ck := HCK.out _ r4
        clear hcv HI hRl
        go_wp2
        clear ck
        go_loopw [10, 11, 35] (fun v z q wr => ∃ (c : Nat) (R : Met) (F : Nat → Option (Nat × Nat)), q = .int .i64 c ∧ z = .int .u16 0 ∧ c ≤ k ∧ i < R.length ∧ wr.ownsRow w.heap.size 80 1 v R.length (mv R) ∧ MapAt wr gm R.length F ∧ Row wr w.heap.size 76 (iv (mc L)) ∧ Below w.heap.size w wr ∧ Hid (SI T k n s g F R i c ∧ reach T k s = bfs T k f (i + 1) (rowS T i (k - c) c R))) (fun _ _ q _ => k - (intOf q).toNat)
        case atStart => exact ⟨0, R, F, rfl, rfl, by omega, hlt, o4, m4, r4, b4, HI2⟩
        case round =>
          clear o4 m4 r4 b4 HI2 hlt g1 hiR hgv hgv2
          obtain ⟨c, R, F, rfl, rfl, hck, hlt, o4, m4, r4, b4, HI⟩ := hrel
          have hRl := HI.out.1.len HM.out HS.out
          by_cases hc : c < k
          · obtain ⟨gv, cv, rfl, hgv, hgv2, hcv⟩ := own_sets o4 (by omega)
            have g1 : decide (c < k) = true := decide_eq_true hc
            have c0 := hcv i hlt
            have hel := HI.out.1.el_set HM.out HS.out h0 hlt
            have hel5 := set512 HM.out.n9 hel.1
            have ht5 := set512 HM.out.n9 (prs_set HM.out hel.1 hc)
            have ht0 := prs_ne (b := c) (L := T) HM.out.n9 hel.1 hel.2
            have HKN := Lib.hid (fun hF => HI.out.1.known hlt hc hF)
            have HNW := Lib.hid (fun hF hg => HI.out.1.new HM.out HS.out h0 hlt hc hF hg)
            have HHT := Lib.hid (fun hF hg c' f' hr => HI.out.1.hit HM.out HS.out h0 hlt hc hF hg (f := f') (c := c') hr)
            have HST := Lib.hid (fun hF => steps_add HM.out HS.out h0 HI.out.1 hlt hc hF)
            have HRM := Lib.hid (fun hF => HI.out.1.room HM.out HS.out h0 hlt hc hF)
            have HRR : Hid (reach T k s = bfs T k f (i + 1) (rowS T i (k - c) c R)) := Lib.hid HI.out.2
            obtain ⟨y, hy⟩ : ∃ y, (elS R i).2 = y := ⟨_, rfl⟩
            obtain ⟨p, hp⟩ : ∃ p, (elS R i).1 = p := ⟨_, rfl⟩
            have HAD : Hid (rowS T i (k - c) c R = rowS T i (k - (c + 1)) (c + 1) (addS T R i c)) := Lib.hid (by rw [show k - c = (k - (c + 1)) + 1 by omega]; rfl)
            rw [hp] at c0 hel5 ht5 ht0 HKN HNW HHT HST HRM
            rw [hy] at HNW HHT HST HRM
            have HPC := Lib.hid (fun V hV => HPR.out p c V hel5 hc hV)
            obtain ⟨t, ht⟩ : ∃ t, prs T p c = t := ⟨_, rfl⟩
            rw [ht] at ht5 ht0 HKN HNW HHT HST HRM HPC
            have HP : Hid (∀ u : After wr, Calls Tryd.prog 74 #[.agg (iv (mc L)).toArray, .int .u16 p, .int .i64 c] u.v fun e w' => e = .returned (.int .u16 t) ∧ Below u.v.heap.size u.v w') := Lib.hid (fun u => (HPC.out u.v (b4.trans (u.h.mono b4.size))).mono (fun e w' ⟨he, kk, hw⟩ => ⟨he, by rw [hw]; exact ((Below.refl _ _).alloc (Nat.le_refl _) _).trans (below_drewN _)⟩))
            have c9 : ∀ u : After wr, u.v.cell? ⟨gv, i, none⟩ = some (.int .u16 (p : Int)) := fun u => After.cell c0 u
            clear hcv c0 hel hp hy ht HI HPC
            have HO := Lib.hid o4
            go_wp2
            refine wp_region_class_all (C := fun w' => ∃ u : After _, w' = u.v) (by kernel_rfl) (by kernel_rfl) (isAfter_start _) ?_
            try simp only [Act.put]
            repeat (first | ((with_reducible refine (?_ : wpQuiet _ _ _ _ (Oper.mk (some 38) _ _ _ _ _ :: _) _); go_big_quiet_want); refine quiet_load_row 76 (.tmp 3) rfl w.heap.size rfl 76 (iv (mc L)) _ (fun _ hc => after_row r4 hc) Tryd.underlying76 rfl hi4 ?_; simp only [Act.put, List.setIfInBounds_toArray, List.set_cons_zero, List.set_cons_succ]; go_big_quiet_on) | go_big_quiet_step ((with_reducible refine (HP.out _).mono ?_; rintro e w8 ⟨rfl, b8⟩; exact ⟨rfl, After.done _ b8⟩)))
            refine wpQuiet_nil ?_
            rintro _ ⟨ua, rfl⟩
            have bU := b4.trans (ua.h.mono b4.size)
            have mU := m4.below ua.h
            have rU := r4.below ua.h
            have hVs := ua.h.size
            have oU := HO.out.kept' ua.h
            have cU : ua.v.cell? ⟨gv, i, none⟩ = some (.int .u16 (p : Int)) := c9 ua
            have hgU : gv < ua.v.heap.size := Nat.lt_of_lt_of_le hgv2 ua.h.size
            clear c9 HP b4 m4 r4 o4 HO hVs hgv2
            generalize ua.v = V at *
            cases hF : (F t).isSome
            · have hFn : F t = none := by cases e : F t with
                | none => rfl
                | some q => rw [e] at hF; cases hF
              have hl2 := mU.look2 (s := t) (by omega)
              rw [hFn] at hl2
              change (Instr.lookup 108 (.map (some gm)) (.int .u16 t) true).run Tryd.prog V = .ok (.tuple #[.agg #[.int .u16 0, .int .i64 0], .bool false]) V at hl2
              have bA := bU.alloc bU.size (.cells #[.int .u16 0, .int .i64 0] 107)
              have mA : MapAt (V.alloc (.cells #[.int .u16 0, .int .i64 0] 107)) gm R.length F := mU.below ((Below.refl _ _).alloc (Nat.le_refl _) _)
              have rA := rU.alloc (.cells #[.int .u16 0, .int .i64 0] 107)
              have oA := oU.alloc (.cells #[.int .u16 0, .int .i64 0] 107)
              have cA : (V.alloc (.cells #[.int .u16 0, .int .i64 0] 107)).cell? ⟨gv, i, none⟩ = some (.int .u16 (p : Int)) := by rw [World.cell?_alloc_lt _ _ ⟨gv, i, none⟩ hgU]; exact cU
              obtain ⟨hy5, hR5⟩ := HRM.out hF
              have HHT2 := Lib.hid (HHT.out hF)
              have HNW2 := Lib.hid (HNW.out hF)
              have HST2 := Lib.hid (HST.out hF)
              obtain ⟨wN, eN, mN, gN⟩ := mA.update (t := t) (by omega) (by omega) (p, c)
              unfold stepV at eN
              change (Instr.mapUpdate 108 (.map (some gm)) (.int .u16 t) (.agg #[.int .u16 (p : Int), .int .i64 (c : Int)])).run Tryd.prog (V.alloc (.cells #[.int .u16 0, .int .i64 0] 107)) = .ok () wN at eN
              have hgm := mU.lt
              have bN := bA.grown gN bA.size (fun g h => by injection h with h; omega)
              have rN := rA.grown gN (by intro e; injection e with e; omega)
              have oN := oA.kept gN (.inr (fun e => mA.not_row oA e.symm))
              have hNs := bN.size
              cases hg : g t
              · obtain ⟨hAdd, hSI⟩ := HNW2.out hg
                have HI3 : Hid (SI T k n s g (putF F t (p, c)) (R ++ [(t, y ++ [c])]) i (c + 1) ∧ reach T k s = bfs T k f (i + 1) (rowS T i (k - (c + 1)) (c + 1) (R ++ [(t, y ++ [c])]))) := Lib.hid ⟨hSI, by rw [HRR.out, HAD.out, hAdd]⟩
                have HGT := Lib.hid (HG.out t wN ht5 bN)
                rw [hg] at HGT
                have HMV : Hid (mv (R ++ [(t, y ++ [c])]) = mv R ++ [.int .u16 (t : Int)]) := Lib.hid (mv_snoc _ _ _)
                clear hAdd hSI HHT2 HNW2 HST2 HHT HNW HST HKN HRM hFn hF hg bA mA rA oA gN hgm hgU rU oU bU cU mU
                go_wp2_with (first
                  | (go_at_call 67; refine HGT.out.mono ?_; rintro e w6 ⟨rfl, n6, rfl⟩; replace bN := bN.trans (below_drewN n6); replace rN := rN.drewN n6; replace mN := mN.below (below_drewN n6); replace oN := oN.kept' (below_drewN n6); replace hNs := bN.size; generalize World.drewN _ _ = W6 at *)
                  | (at_builtin; refine wpList_append_own_at _ rfl _ _ 109 rfl w.heap.size 80 j0 (.int .u16 0) 1 2 Tryd.underlying109 ji jz0 jz1 jz2 rfl (by decide) _ _ _ rfl (oN.alloc _) ⟨W6.heap.size, 0, none⟩ 1 1 [.int .u16 (t : Int)] rfl rfl (news_one (row_new (t := 80) (cs := [.int .u16 (t : Int)]) rfl)) (by simp [Value.oneCell']) (by unfold maxLen; omega) (by omega) (by simp; omega) ?_; intro v2 w2 o2 hg2 _ _; have b2 := bN.trans (app1' oN hNs hg2); have m2 := (mN.below ((Below.refl _ _).alloc (Nat.le_refl _) _)).grown hg2 (mN.not_row oN); have r2 := (rN.alloc _).grown hg2 (rN.not_own oN (by decide))))
                go_roundw
                case rel => exact ⟨c + 1, R ++ [(t, y ++ [c])], putF F t (p, c), by go_num, rfl, by omega, by rw [List.length_append]; omega, by rw [List.length_append, HMV.out]; exact o2, by rw [List.length_append]; exact m2, r2, b2, HI3⟩
                case measure => simp [intOf]; omega
              · have hseek := HHT2.out hg (k - (c + 1)) f (by rw [HRR.out, show k - c = k - (c + 1) + 1 by omega])
                have hxx := hseek.symm.trans HX.out
                have HGT := Lib.hid (HG.out t wN ht5 bN)
                rw [hg] at HGT
                have HWT := Lib.hid (fun (W : World) (hW : MapAt W gm (R.length + 1) (putF F t (p, c))) => wordTo_any (putF F t (p, c)) (R ++ [(t, y ++ [c])]) gm (R.length + 1) t (y ++ [c]) W HST2.out (by simp) (by simp; omega) (by simp) ht5 hW)
                have gz : ((t : Int) == 0) = false := by simp; omega
                have HSV : Hid (seekV (some (t, y ++ [c])) = .tuple #[.string (wS (y ++ [c])), .int .u16 t, .bool true]) := Lib.hid rfl
                clear hseek HHT2 HNW2 HST2 HHT HNW HST HKN HRM hFn hF hg bA mA rA oA gN hgm hgU rU oU bU cU mU HX
                subst hxx
                go_wp2_with (first
                  | (go_at_call 67; refine HGT.out.mono ?_; rintro e w6 ⟨rfl, n6, rfl⟩; replace bN := bN.trans (below_drewN n6); replace mN := mN.below (below_drewN n6); have HW2 := Lib.hid (HWT.out _ mN); generalize World.drewN _ _ = W6 at *)
                  | (go_at_call 75; refine HW2.out.mono ?_; rintro e w7 ⟨rfl, b7⟩; replace bN := bN.trans (b7.mono bN.size)))
                simp only [Exit.noGoto]
                exact bodyPost_ret (results_tmp3 rfl _ _ _) rfl ⟨by rw [HSV.out]; rfl, bN⟩
            · obtain ⟨q, hq⟩ : ∃ q, F t = some q := by cases e : F t with
                | none => rw [e] at hF; cases hF
                | some q => exact ⟨q, rfl⟩
              have hl2 := mU.look2 (s := t) (by omega)
              rw [hq] at hl2
              change (Instr.lookup 108 (.map (some gm)) (.int .u16 t) true).run Tryd.prog V = .ok (.tuple #[.agg #[.int .u16 (q.1 : Int), .int .i64 (q.2 : Int)], .bool true]) V at hl2
              obtain ⟨hAdd, hSI⟩ := HKN.out hF
              have HI3 : Hid (SI T k n s g F R i (c + 1) ∧ reach T k s = bfs T k f (i + 1) (rowS T i (k - (c + 1)) (c + 1) R)) := Lib.hid ⟨hSI, by rw [HRR.out, HAD.out, hAdd]⟩
              have bA := bU.alloc bU.size (.cells #[.int .u16 (q.1 : Int), .int .i64 (q.2 : Int)] 107)
              have mA : MapAt (V.alloc (.cells #[.int .u16 (q.1 : Int), .int .i64 (q.2 : Int)] 107)) gm R.length F := mU.below ((Below.refl _ _).alloc (Nat.le_refl _) _)
              have rA := rU.alloc (.cells #[.int .u16 (q.1 : Int), .int .i64 (q.2 : Int)] 107)
              have oA := oU.alloc (.cells #[.int .u16 (q.1 : Int), .int .i64 (q.2 : Int)] 107)
              clear hAdd hSI HHT HNW HST HKN HRM hF hq bU mU rU oU cU hgU HRR HAD
              go_wp2
              go_roundw
              case rel => exact ⟨c + 1, R, F, by go_num, rfl, by omega, hlt, oA, mA, rA, bA, HI3⟩
              case measure => simp [intOf]; omega
          · obtain rfl : c = k := by omega
            have HI3 : Hid (SI T c n s g F R (i + 1) 0 ∧ reach T c s = bfs T c f (i + 1) R) := Lib.hid ⟨HI.out.1.next HM.out hlt, by have := HI.out.2; rw [Nat.sub_self] at this; exact this⟩
            clear HI
            go_wp2
            go_roundw
            case rel => exact ⟨i + 1, f, R, F, by go_num, rfl, by omega, by omega, o4, m4, r4, b4, HI3⟩
            case measure => simp [intOf]; omega
      · have hxx := (HI.out.1.miss (HI.out.2.trans (bfs_end (by omega)))).symm.trans HX.out
        subst hxx
        have g1 : decide (i < R.length) = false := decide_eq_false hlt
        obtain ⟨Rv, cv, rfl⟩ := own_shape o4
        clear HI HX
        go_wp2
        simp only [Exit.noGoto]
        exact bodyPost_ret (results_tmp3 rfl _ _ _) rfl ⟨rfl, b4⟩
  · have HG0 := Lib.hid (HG.out s _ hs512 hb0)
    have hx := HSS.out hgs
    rw [hgs] at HG0
    clear hgs HSS
    subst hx
    go_enter Tryd.func66, Tryd.ntmps66
    go_wp2
    apply wp_scope_straight
    go_wp2_with (go_at_call 67; refine HG0.out.mono ?_; rintro e w1 ⟨rfl, n1, rfl⟩; have b1 := hb0.trans (below_drewN n1); generalize World.drewN _ _ = W1 at *)
    simp only [Exit.noGoto]
    exact bodyPost_ret (results_tmp3 rfl _ _ _) rfl ⟨rfl, b1⟩
end Go.Proofs.YtignbpipdfjkeaaDoor
