/- BagsBeside returns true: the walk. -/
import Derived.Test.YtpaeagkgmbhndaaCI
import Derived.Deep.RegionLaw

namespace Go.Proofs.Ytpaeagkgmbhndaa
open Go.RowKit
set_option maxHeartbeats 1000000
set_option maxRecDepth 100000
theorem step_append_own_at {P : Program} {ops : Array Oper} {o : Oper} {a : Act} {w : World} {K : Act → World → Prop} {Q : Exit → Act → World → Prop} {E : Prop}
    (hg : o.guard = none) (s x : Operand) (t : TypeId) (hop : o.op = Op.call { callee := Callee.builtin Builtin.append, args := #[s, x], argTypes := #[t, t] })
    (base : Nat) (e : TypeId) (i : TypeInfo) (z : Value) (size bytes : Nat) (ht : P.underlying t = some (.slice e)) (hi : P.info? e = some i) (hz : i.zero = some z)
    (hsize : i.size = size) (hby : i.bytes = bytes) (hzs : z.cells.size = size) (hsz : 0 < size)
    (v : Value) (n : Nat) (xs : List Value) (hs : a.eval s = v) (hown : w.ownsRow base e size v n xs)
    (ad : Addr) (m c : Nat) (news : List Value) (hx : a.eval x = .slice (some ad) m c) (hl : news.length = m * size) (hnews : ∀ j u, news[j]? = some u → w.cell? (ad.add j) = some u) (h1 : ∀ u ∈ news, u.oneCell' = true)
    (h63 : n + m ≤ maxLen) (hbytes : (n + m) * bytes ≤ 140737488355328) (hbase : base ≤ w.heap.size)
    (hK : ∀ v' w', w'.ownsRow base e size v' (n + m) (xs ++ news) → w.grownBy w' v.ownBlock → K (a.put o.dst v') w') :
    if Region.wanted o (yielded ops a.tmps) = true then Oper.wp P o a w K Q else E := by
  have hw : Region.wanted o (yielded ops a.tmps) = true := by simp [Region.wanted, hg]
  rw [if_pos hw]
  obtain ⟨v', w', hr, h2, h3, h4, h5⟩ := run_append_own_at (P := P) w base t o.type e i z size bytes ht hi hz hsize hby hzs hsz v n xs hown ad m c news hl hnews h1 h63 hbytes hbase
  unfold Oper.wp execOp
  simp only [hop, resolve, invoke, builtin, Sem.run_bind, Sem.run_pure, Result.andThen_ok, List.map_toArray, List.map_cons, List.map_nil, hs, hx, hr]
  exact hK v' w' h2 h3
theorem wp_append_own_at {P : Program} {o : Oper} {a : Act} {w : World} {K : Act → World → Prop} {Q : Exit → Act → World → Prop}
    (s x : Operand) (t : TypeId) (hop : o.op = Op.call { callee := Callee.builtin Builtin.append, args := #[s, x], argTypes := #[t, t] })
    (base : Nat) (e : TypeId) (i : TypeInfo) (z : Value) (size bytes : Nat) (ht : P.underlying t = some (.slice e)) (hi : P.info? e = some i) (hz : i.zero = some z)
    (hsize : i.size = size) (hby : i.bytes = bytes) (hzs : z.cells.size = size) (hsz : 0 < size)
    (v : Value) (n : Nat) (xs : List Value) (hs : a.eval s = v) (hown : w.ownsRow base e size v n xs)
    (ad : Addr) (m c : Nat) (news : List Value) (hx : a.eval x = .slice (some ad) m c) (hl : news.length = m * size) (hnews : ∀ j u, news[j]? = some u → w.cell? (ad.add j) = some u) (h1 : ∀ u ∈ news, u.oneCell' = true)
    (h63 : n + m ≤ maxLen) (hbytes : (n + m) * bytes ≤ 140737488355328) (hbase : base ≤ w.heap.size)
    (hK : ∀ v' w', w'.ownsRow base e size v' (n + m) (xs ++ news) → w.grownBy w' v.ownBlock → K (a.put o.dst v') w') :
    Oper.wp P o a w K Q := by
  obtain ⟨v', w', hr, h2, h3, h4, h5⟩ := run_append_own_at (P := P) w base t o.type e i z size bytes ht hi hz hsize hby hzs hsz v n xs hown ad m c news hl hnews h1 h63 hbytes hbase
  unfold Oper.wp execOp
  simp only [hop, resolve, invoke, builtin, Sem.run_bind, Sem.run_pure, Result.andThen_ok, List.map_toArray, List.map_cons, List.map_nil, hs, hx, hr]
  exact hK v' w' h2 h3
theorem list_core {A : Option Addr} {n : Nat} {xs : List Int} {N0 : Nat} {W0 w : World} (hl : xs.length = n) (hn : n ≤ 130) (hN : N0 ≤ W0.heap.size) (hb : Below N0 W0 w) (hi : ∀ V, Below N0 W0 V → IntsAt V A xs) :
    Calls Try.prog 23 #[.slice A n n] w fun e w' => ∃ v, e = .returned v ∧ w'.ownsRow N0 3 1 v n (iv xs) ∧ Below N0 W0 w' := by
  subst hl
  refine (list_copy_any A xs.length xs w (Nat.le_refl _) (by unfold maxLen; omega) (hi w hb)).mono ?_
  rintro e w' ⟨v, n', rfl, o, b⟩
  rw [List.take_of_length_le hn] at o
  have hn' : n' = xs.length := by have := o.1; rw [iv_len] at this; omega
  subst hn'
  exact ⟨v, rfl, own_mono o (Nat.le_trans hN hb.size), hb.trans (b.mono (Nat.le_trans hN hb.size))⟩
theorem iv_at {w : World} {A : Option Addr} {xs : List Int} {g : Nat} (h : IntsAt w A xs) (e : A = some ⟨g, 0, none⟩) : ∀ j u, (iv xs)[j]? = some u → w.cell? ((⟨g, 0, none⟩ : Addr).add j) = some u := by
  intro j u hj
  have hlt : j < xs.length := by
    have := (List.getElem?_eq_some_iff.1 hj).1
    rwa [iv_len] at this
  obtain ⟨b, o, e2, _, hc⟩ := h (by omega)
  rw [e] at e2
  injection e2 with e2
  injection e2 with e2 e3
  subst e2 e3
  have := hc j hlt
  rw [Nat.zero_add] at this
  rw [WideShapes.add_plain, Nat.zero_add, this]
  unfold iv at hj
  rw [List.getElem?_map, List.getElem?_eq_getElem hlt] at hj
  rw [geti_eq hlt]
  exact hj
theorem BagsBeside_any (x y : Int) (A : Option Addr) (c : Nat) (es : List (Int × Int)) (B : Option Addr) (d : Nat) (fs : List (Int × Int)) (w : World) (hx : es.length ≤ c) (hc : c ≤ maxLen) (ha : PairsAt w A es) (hx2 : fs.length ≤ d) (hd : d ≤ maxLen) (hb : PairsAt w B fs) :
    Calls Try.prog 11 #[.agg #[.int .i64 x, .int .i64 y], .slice A es.length c, .slice B fs.length d] w fun e w' => e = .returned (.bool true) ∧ Below w.heap.size w w' := by
  obtain ⟨i0, hi, hz0, hz1, hz2⟩ := info_parts info67k
  obtain ⟨j0, ji, jz0, jz1, jz2⟩ := info_parts info3
  have hml := modI_lt x (show 0 < 7 by omega)
  have hml2 := modI_lt y (show 0 < 7 by omega)
  have HX := Lib.hid (fun W => mod_any x 7 W (by omega) (by omega))
  have HY := Lib.hid (fun W => mod_any y 7 W (by omega) (by omega))
  generalize modI x 7 = a0 at *
  generalize modI y 7 = b0 at *
  obtain ⟨a, hav⟩ : ∃ a : Nat, a = 1 + a0 := ⟨_, rfl⟩
  obtain ⟨b, hbv⟩ : ∃ b : Nat, b = 1 + b0 := ⟨_, rfl⟩
  have HAA := Lib.hid (show (1 + (a0 : Int)) = (a : Int) by omega)
  have HBB := Lib.hid (show (1 + (b0 : Int)) = (b : Int) by omega)
  have ha1 : 1 ≤ a := by omega
  have hb1 : 1 ≤ b := by omega
  have ha7 : a ≤ 7 := by omega
  have hb7 : b ≤ 7 := by omega
  clear hav hbv
  have HT1 := Lib.hid (fun (V : World) (h : Below w.heap.size w V) => tame_any a A c es V hx hc (ha.below h) ha1 (by omega))
  have HT2 := Lib.hid (fun (V : World) (h : Below w.heap.size w V) => tame_any b B d fs V hx2 hd (hb.below h) hb1 (by omega))
  clear hx hc ha hx2 hd hb
  go_enter Try.func11, Try.ntmps11
  go_wp2
  have bb : Below w.heap.size w (w.alloc (.cells #[.int .i64 x, .int .i64 y] 65)) := (Below.refl _ w).alloc (Nat.le_refl _) _
  have y0 : Row (w.alloc (.cells #[.int .i64 x, .int .i64 y] 65)) w.heap.size 65 [.int .i64 x, .int .i64 y] := row_new rfl
  obtain ⟨⟨k0, k1⟩, -⟩ := y0.cells2
  have l0 := y0.lt
  go_quiet ((go_at_call 36; first | (with_reducible exact quiet_same (HX.out _)) | (with_reducible exact quiet_same (HY.out _))))
  replace bb := bb.trans ((below_drewN nq).mono bb.size)
  clear y0 k0 k1 l0
  generalize World.drewN _ nq = W1 at *
  rw [HAA.out, HBB.out]
  go_wp2_with (first
    | (go_at_call 37; (with_reducible refine (HT1.out _ bb).mono ?_); rintro e w1 ⟨v1, own, gs, rfl, hol, hgs, o1, b1⟩; obtain ⟨A1, c1, rfl, -, hc1, p1⟩ := own_pairs o1; have HG := Lib.hid hgs; have hc1m : c1 ≤ maxLen := (by rcases o1.2 with ⟨h, _⟩ | ⟨g, cap, cur, h, _, _, _, hcm, _⟩ <;> (injection h with _ _ h; first | omega | (unfold maxLen; omega))); have HTK := Lib.hid (List.take_of_length_le (show own.length ≤ 130 by omega)); replace bb := bb.trans (b1.mono bb.size); clear o1 hgs b1)
    | (go_at_call 37; (with_reducible refine (HT2.out _ bb).mono ?_); rintro e w2 ⟨v2, own2, gs2, rfl, hol2, hgs2, o2, b2⟩; obtain ⟨A2, c2, rfl, -, -, p2⟩ := own_pairs o2; have HG2 := Lib.hid hgs2; replace p1 := p1.below b2; replace bb := bb.trans (b2.mono bb.size); clear o2 hgs2 b2)
    | (go_at_call 14; refine (edges_any A1 c1 own w2 hc1 hc1m p1).mono ?_; rintro e w3 ⟨v3, n3, rfl, o3, b3⟩; rw [HTK.out] at o3; have HP1 := Lib.hid (fun (V : World) (h : Below w2.heap.size w2 V) => p1.below h); have HP2 := Lib.hid (fun (V : World) (h : Below w2.heap.size w2 V) => p2.below h); have hn3 : n3 = own.length := (by have := o3.1; rw [pv_len] at this; omega); subst hn3; clear hc1 hc1m p1 p2))
  obtain ⟨g3, hg3⟩ := side_ex HG.out HG2.out (by omega : a + b ≤ 16)
  have HSD := Lib.hid (show Side a b own own2 gs gs2 g3 from ⟨HG.out, HG2.out, hg3, by omega⟩)
  have HG3 := Lib.hid hg3
  clear hg3
  have hshl := shE_len a own2
  go_loopw [11, 12] (fun o i wr => ∃ k : Nat, k ≤ own2.length ∧ i = .int .i64 k ∧ wr.ownsRow w2.heap.size 67 2 o (own.length + k) (pv (own ++ (shE a own2).take k)) ∧ Below w2.heap.size w2 wr) (fun _ i _ => own2.length - (intOf i).toNat)
  case atStart => exact ⟨0, by omega, rfl, by rw [List.take_zero, List.append_nil]; exact o3, b3⟩
  case round =>
    clear o3 b3
    obtain ⟨k, hk, rfl, o3, b3⟩ := hrel
    by_cases hlt : k < own2.length
    · obtain ⟨A3, c3, rfl, -, -, -⟩ := own_pairs o3
      obtain ⟨P, Q, rfl, hPQ, hcc⟩ := HP2.out _ (Below.refl _ _) (by omega)
      have KS := Lib.hid (fun (V : World) (h : Below w2.heap.size w2 V) => (by
        obtain ⟨P', Q', e, _, hcc'⟩ := HP2.out _ h (by omega)
        injection e with e
        injection e with e e'
        subst e e'
        obtain ⟨x0, z0⟩ := hcc' k hlt
        exact ⟨x0, z0, Lib.hid h⟩ : V.cell? ⟨P, Q + k * 2, none⟩ = some (.int .i64 (pA own2 k)) ∧ V.cell? ⟨P, Q + k * 2 + 1, none⟩ = some (.int .i64 (pB own2 k)) ∧ Hid (Below w2.heap.size w2 V)))
      obtain ⟨s1, s2⟩ := shE_AB (a := a) hlt
      have he := readF_edges HG2.out hlt
      have hst : (shE a own2).take (k + 1) = (shE a own2).take k ++ [(pA own2 k + a, pB own2 k + a)] := by
        rw [List.take_succ_eq_append_getElem (by omega), pAB_get (by omega : k < (shE a own2).length), s1, s2]
      have hlen : (own ++ (shE a own2).take k).length = own.length + k := by rw [List.length_append, List.length_take]; omega
      have HST := Lib.hid hst
      have HLEN := Lib.hid hlen
      rw [hlen] at o3 ⊢
      clear hcc s1 s2 hst hlen
      generalize pA own2 k = u0 at *
      generalize pB own2 k = u1 at *
      go_wp2
      have HW0 := Lib.hid (show IntKind.i64.wrap (u0 + a) = u0 + a from IntWalk.i64_in _ (by omega))
      have HW1 := Lib.hid (show IntKind.i64.wrap (u1 + a) = u1 + a from IntWalk.i64_in _ (by omega))
      have hS := KS.out _ b3
      go_region_held3 (fun w' => w'.cell? ⟨P, Q + k * 2, none⟩ = some (.int .i64 u0) ∧ w'.cell? ⟨P, Q + k * 2 + 1, none⟩ = some (.int .i64 u1) ∧ Hid (Below w2.heap.size w2 w')) (first | assumption | exact KS.out _ b3.drew | exact KS.out _ (b3.alloc b3.size _) | exact KS.out _ ((b3.alloc b3.size _).drew) | exact KS.out _ (by assumption))
        ((refine step_append_own_at rfl (.tmp 54) (.tmp 70) 22 rfl w2.heap.size 67 i0 _ 2 16 Try.underlying22 hi hz0 hz1 hz2 rfl (by omega) (.slice A3 (own.length + k) c3) (own.length + k) _ rfl ((o3.alloc _).kept' ((Below.refl _ _).drew)) ⟨wr.heap.size, 0, none⟩ 1 1 [.int .i64 (IntKind.i64.wrap (u0 + a)), .int .i64 (IntKind.i64.wrap (u1 + a))] rfl rfl ?_ ?_ ?_ ?_ ?_ ?_; exact news_two ((row_new rfl).drew); simp [Value.oneCell']; (unfold maxLen; omega); omega; exact (b3.alloc b3.size _).drew.size; intro v5 w5 o5 hg5; have b5 := (b3.alloc b3.size _).drew.grown hg5 (b3.alloc b3.size _).drew.size (fun g hg => (own_ge o3 hg).1); rw [HW0.out, HW1.out, ← pv_snoc, List.append_assoc, ← HST.out] at o5; clear hg5))
      all_goals go_wp2
      go_roundw
      case rel => exact ⟨k + 1, by omega, by go_num, by assumption, by assumption⟩
      case measure => simp [intOf]; omega
    · obtain rfl : k = own2.length := by omega
      rw [List.take_of_length_le (by omega)] at o3
      obtain ⟨A3, c3, rfl, -, -, p3⟩ := own_pairs o3
      have hlen : (own ++ shE a own2).length = own.length + own2.length := by rw [List.length_append]; omega
      have hlen3 : (own ++ shE a own2).length ≤ 1000000 := by omega
      generalize own ++ shE a own2 = both at *
      have HCL1 := Lib.hid (show (natI (coreF a gs)).length = a by rw [natI_len]; exact coreL_len a _)
      have HCL2 := Lib.hid (show (natI (coreF b gs2)).length = b by rw [natI_len]; exact coreL_len b _)
      have HCL3 := Lib.hid (show (natI (coreF (a + b) g3)).length = a + b by rw [natI_len]; exact coreL_len _ _)
      have HCS := Lib.hid (show iv (natI (coreF a gs)) ++ iv (natI (coreF b gs2)) = iv (natI (coreF (a + b) g3)) by rw [HSD.out.cores]; simp [iv, natI])
      have HLEN := Lib.hid hlen
      clear hshl o3 hlen
      go_wp2_with (first
        | (go_at_call 15; (with_reducible refine (Densest_some a A1 c1 own gs _ (by omega) (HP1.out _ b3) HG.out).mono ?_); rintro e w6 ⟨v6, g6, s1, p1, q1, H1, L1, f1, rfl, hD, -, -, -, -, -, -, b6⟩; have HD1 := Lib.hid hD; have q10 := hD.q0; have q116 := hD.q16; have p1120 := den_small (by omega) hD.lt hD.ne hD.sub hD.den; replace p3 := (p3.below b6).alloc (.cells #[.int .i64 p1, .int .i64 q1] 26); replace b3 := (b3.trans (b6.mono b3.size)); replace b3 := b3.alloc b3.size (.cells #[.int .i64 p1, .int .i64 q1] 26); have y1 : Row (w6.alloc (.cells #[.int .i64 p1, .int .i64 q1] 26)) w6.heap.size 26 [.int .i64 p1, .int .i64 q1] := row_new rfl; clear b6 hD)
        | (go_at_call 15; (with_reducible refine (Densest_some b A2 c2 own2 gs2 _ (by omega) (HP2.out _ b3) HG2.out).mono ?_); rintro e w7 ⟨v7, g7, s2, p2, q2, H2, L2, f2, rfl, hD, -, -, -, -, -, -, b6⟩; have HD2 := Lib.hid hD; have q20 := hD.q0; have q216 := hD.q16; have p2120 := den_small (by omega) hD.lt hD.ne hD.sub hD.den; replace p3 := (p3.below b6).alloc (.cells #[.int .i64 p2, .int .i64 q2] 26); replace y1 := (y1.below b6).alloc (.cells #[.int .i64 p2, .int .i64 q2] 26); replace b3 := (b3.trans (b6.mono b3.size)); replace b3 := b3.alloc b3.size (.cells #[.int .i64 p2, .int .i64 q2] 26); have y2 : Row (w7.alloc (.cells #[.int .i64 p2, .int .i64 q2] 26)) w7.heap.size 26 [.int .i64 p2, .int .i64 q2] := row_new rfl; clear b6 hD)
        | (go_at_call 15; (refine (Densest_some (a + b) A3 c3 both g3 _ hlen3 p3 HG3.out).mono ?_); rintro e w8 ⟨v8, g8, s3, p4, q4, H3, L3, f3, rfl, hD, -, -, -, -, -, -, b6⟩; have HDN := Lib.hid (HSD.out.dens HD1.out HD2.out hD); replace p3 := (p3.below b6).alloc (.cells #[.int .i64 p4, .int .i64 q4] 26); replace y1 := (y1.below b6).alloc (.cells #[.int .i64 p4, .int .i64 q4] 26); replace y2 := (y2.below b6).alloc (.cells #[.int .i64 p4, .int .i64 q4] 26); replace b3 := (b3.trans (b6.mono b3.size)); replace b3 := b3.alloc b3.size (.cells #[.int .i64 p4, .int .i64 q4] 26); have y3 : Row (w8.alloc (.cells #[.int .i64 p4, .int .i64 q4] 26)) w8.heap.size 26 [.int .i64 p4, .int .i64 q4] := row_new rfl; clear b6 hD)
        | (go_at_call 32; (with_reducible refine (Cores_some a A1 c1 own gs _ (by omega) (HP1.out _ b3) HG.out).mono ?_); rintro e w9 ⟨g9, hg9, rfl, r9, b6⟩; have ic1 := row_ints r9; replace p3 := p3.below b6; replace y1 := y1.below b6; replace y2 := y2.below b6; replace y3 := y3.below b6; replace b3 := b3.trans (b6.mono b3.size); clear b6 r9 hg9)
        | (go_at_call 32; (with_reducible refine (Cores_some b A2 c2 own2 gs2 _ (by omega) (HP2.out _ b3) HG2.out).mono ?_); rintro e wa ⟨ga, hga, rfl, ra, b6⟩; have ic2 := row_ints ra; replace ic1 := ic1.below b6; replace p3 := p3.below b6; replace y1 := y1.below b6; replace y2 := y2.below b6; replace y3 := y3.below b6; replace b3 := b3.trans (b6.mono b3.size); clear b6 ra hga)
        | (go_at_call 32; (refine (Cores_some (a + b) A3 c3 both g3 _ hlen3 p3 HG3.out).mono ?_); rintro e wb ⟨gb, hgb, rfl, rb, b6⟩; have ic3 := row_ints rb; replace ic1 := ic1.below b6; replace ic2 := ic2.below b6; replace p3 := p3.below b6; replace y1 := y1.below b6; replace y2 := y2.below b6; replace y3 := y3.below b6; replace b3 := b3.trans (b6.mono b3.size); obtain ⟨⟨k0, k1⟩, -⟩ := y1.cells2; obtain ⟨⟨k2, k3⟩, -⟩ := y2.cells2; obtain ⟨⟨k4, k5⟩, -⟩ := y3.cells2; clear b6 rb hgb)
        | (go_at_call 39; (with_reducible refine (valid_any p1 q1 p1120 q116 q10 _).mono ?_); rintro e wc ⟨rfl, b6⟩; replace ic1 := ic1.below b6; replace ic2 := ic2.below b6; replace ic3 := ic3.below b6; replace p3 := p3.below b6; replace y1 := y1.below b6; replace y2 := y2.below b6; replace y3 := y3.below b6; replace b3 := b3.trans (b6.mono b3.size); clear k0 k1 k2 k3 k4 k5; obtain ⟨⟨k0, k1⟩, -⟩ := y1.cells2; obtain ⟨⟨k2, k3⟩, -⟩ := y2.cells2; obtain ⟨⟨k4, k5⟩, -⟩ := y3.cells2; clear b6)
        | (go_at_call 39; (with_reducible refine (valid_any p2 q2 p2120 q216 q20 _).mono ?_); rintro e wd ⟨rfl, b6⟩; replace ic1 := ic1.below b6; replace ic2 := ic2.below b6; replace ic3 := ic3.below b6; replace p3 := p3.below b6; replace y1 := y1.below b6; replace y2 := y2.below b6; replace y3 := y3.below b6; replace b3 := b3.trans (b6.mono b3.size); clear k0 k1 k2 k3 k4 k5; obtain ⟨⟨k0, k1⟩, -⟩ := y1.cells2; obtain ⟨⟨k2, k3⟩, -⟩ := y2.cells2; obtain ⟨⟨k4, k5⟩, -⟩ := y3.cells2; clear b6; have HI1 := Lib.hid (fun (V : World) (h : Below wd.heap.size wd V) => ic1.below h); have HI2 := Lib.hid (fun (V : World) (h : Below wd.heap.size wd V) => ic2.below h); have HI3 := Lib.hid (fun (V : World) (h : Below wd.heap.size wd V) => ic3.below h); have z3 := y3.lt; have u1 := y1.alloc (.cells #[.int .i64 p1, .int .i64 q1] 26); have u2 := y2.alloc (.cells #[.int .i64 p1, .int .i64 q1] 26); have u3 := y3.alloc (.cells #[.int .i64 p1, .int .i64 q1] 26); have yw : Row (wd.alloc (.cells #[.int .i64 p1, .int .i64 q1] 26)) wd.heap.size 26 [.int .i64 p1, .int .i64 q1] := row_new rfl; have bw : Below wd.heap.size wd (wd.alloc (.cells #[.int .i64 p1, .int .i64 q1] 26)) := (Below.refl _ wd).alloc (Nat.le_refl _) _; obtain ⟨⟨l0, l1⟩, -⟩ := u1.cells2; obtain ⟨⟨l2, l3⟩, -⟩ := u2.cells2; clear ic1 ic2 ic3 p3)
        | (go_at_call 40; refine (less_any p1 q1 p2 q2 (by omega) q116 (by omega) q216 _).mono ?_; rintro e we ⟨rfl, b6⟩; replace u2 := u2.below b6; replace u3 := u3.below b6; replace yw := yw.below b6; replace bw := bw.trans (b6.mono bw.size); clear l0 l1 l2 l3 k0 k1 k2 k3 k4 k5 y1 y2 y3 u1; obtain ⟨⟨l2, l3⟩, -⟩ := u2.cells2; obtain ⟨⟨l4, l5⟩, -⟩ := u3.cells2; obtain ⟨⟨l6, l7⟩, h6, h7⟩ := yw.cells2; have hne1 : w8.heap.size ≠ wd.heap.size := (by omega); have hne2 : wd.heap.size ≠ w8.heap.size := (by omega); clear b6; rcases Decidable.em (p1 * q2 < p2 * q1) with hl | hl <;> (first | (obtain ⟨e1, e2⟩ := HDN.out.1 hl; rw [decide_eq_true hl]; subst p4; subst q4) | (obtain ⟨e1, e2⟩ := HDN.out.2 hl; rw [decide_eq_false hl]; subst p4; subst q4)))
        | (go_at_call 23; refine (list_core (A := some ⟨g9, 0, none⟩) HCL1.out (by omega) (Nat.le_refl _) (by (repeat (first | exact Below.refl _ _ | assumption | (refine Below.setCell ?_ (by first | exact Nat.le_refl _ | omega | (simp; done) | (simp; omega)) _) | (refine Below.trans ?_ (below_drewN _)) | (refine Below.drew ?_) | (refine Below.alloc ?_ (by first | exact Nat.le_refl _ | omega | (simp; done) | (simp; omega)) _) | (refine below_row ?_ (by first | exact Nat.le_refl _ | omega | (simp; done) | (simp; omega)) _)))) HI1.out).mono ?_; rintro e wf ⟨vf, rfl, of, bf⟩; obtain ⟨Af, cf, rfl, -, -, -⟩ := own_intsI of; have ic2 := HI2.out _ bf; clear bw)
        | (go_big_want; refine wp_append_own_at (.tmp 161) (.tmp 162) 24 rfl wd.heap.size 3 j0 (.int .i64 0) 1 8 Try.underlying24 ji jz0 jz1 jz2 rfl (by decide) _ a _ rfl of ⟨ga, 0, none⟩ b b (iv (natI (coreF b gs2))) rfl (by rw [iv_len, HCL2.out]; omega) (iv_at ic2 rfl) (iv_one _) (by unfold maxLen; omega) (by omega) bf.size ?_; intro v9 w9 o9 hg9; have b9 := bf.grown hg9 bf.size (fun g hg => (own_ge of hg).1); rw [HCS.out] at o9; obtain ⟨A9, c9, e9, -, -, i9⟩ := own_intsI o9; rw [HCL3.out] at e9; subst e9; have i3 := HI3.out _ b9; clear o9 hg9 of)
        | (go_at_call 21; refine (ints_yes (some ⟨gb, 0, none⟩) A9 (a + b) c9 (natI (coreF (a + b) g3)) (a + b) _ HCL3.out (by omega) i3 i9).mono ?_; rintro e wg ⟨rfl, ng, rfl⟩; replace b9 := b9.trans (below_drewN ng); clear i3 i9)
        | (go_at_call 18; refine (awake_any _).mono ?_; rintro e wh ⟨rfl, bh⟩))
      all_goals
        go_ret
        exact ⟨rfl, bb.trans ((b3.trans ((b9.trans (bh.mono b9.size)).mono b3.size)).mono bb.size)⟩
end Go.Proofs.Ytpaeagkgmbhndaa
