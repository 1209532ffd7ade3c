/- ClockOwn walked. -/
import Derived.Test.YtignbpipdfjkeaaDoorCG
import Derived.Test.YtignbpipdfjkeaaDoorCC
import Derived.Test.YtignbpipdfjkeaaDoorBH
namespace Go.Proofs.YtignbpipdfjkeaaDoor
open Go.RowKit Go.PlainAid
set_option maxHeartbeats 2000000
set_option maxRecDepth 100000
/-- Numbers that may be written. -/
def RL (w : World) (g n : Nat) : Prop := ∃ cs : List Value, n ≤ cs.length ∧ Row w g 3 cs
theorem RL.set {w : World} {g n : Nat} (h : RL w g n) (b i : Nat) (u : Value) : RL (w.setCell ⟨b, i, none⟩ u) g n := by
  obtain ⟨cs, h1, h2⟩ := h
  by_cases e : g = b
  · subst e
    exact ⟨cs.set i u, by rw [List.length_set]; exact h1, h2.set i u⟩
  · exact ⟨cs, h1, h2.far e u⟩
theorem RL.cell {w : World} {g n : Nat} (h : RL w g n) {k : Nat} (hk : k < n) : (∃ u, w.cell? ⟨g, k, none⟩ = some u) ∧ w.frozen? ⟨g, k, none⟩ = false := by
  obtain ⟨cs, h1, h2⟩ := h
  exact ⟨⟨cs[k], by rw [h2.cell k, List.getElem?_eq_getElem (by omega)]⟩, h2.free k⟩
theorem own_RL {w : World} {B n c : Nat} {A : Option Addr} {xs : List Value} (h : w.ownsRow B 3 1 (.slice A n c) n xs) : 0 < n → ∃ g, A = some ⟨g, 0, none⟩ ∧ B ≤ g ∧ RL w g n := by
  intro hp
  rcases h.2 with ⟨e, h0⟩ | ⟨g, cap, cur, e, hb, hg, hc, _, hs, _⟩
  · omega
  · injection e with e1 e2 e3
    subst e1
    exact ⟨g, rfl, hb, cur.toList, by rw [Array.length_toList, hs]; omega, by unfold Row; simpa using hg⟩
theorem own_cap {w : World} {B n c : Nat} {A : Option Addr} {xs : List Value} (h : w.ownsRow B 3 1 (.slice A n c) n xs) : c ≤ maxLen := by
  rcases h.2 with ⟨e, h0⟩ | ⟨g, cap, cur, e, hb, hg, hc, hm, _⟩
  · injection e with e1 e2 e3
    unfold maxLen; omega
  · injection e with e1 e2 e3
    omega
/-- A list of four lists, each of which may be written. -/
def WrQ (w : World) (G N : Nat) (AA : Nat → Option Addr) (NN CC : Nat → Nat) : Prop :=
  (∃ cs, Row w G 29 cs) ∧ ∀ i, i < 4 → w.cell? ⟨G, i, none⟩ = some (.slice (AA i) (NN i) (CC i)) ∧ (0 < NN i → ∃ g, AA i = some ⟨g, 0, none⟩ ∧ N ≤ g ∧ RL w g (NN i))
theorem WrQ.set {w : World} {G N m : Nat} {AA : Nat → Option Addr} {NN CC : Nat → Nat} (h : WrQ w G N AA NN CC) {g : Nat} (hg : RL w g m) (i : Nat) (u : Value) : WrQ (w.setCell ⟨g, i, none⟩ u) G N AA NN CC := by
  obtain ⟨⟨cs, h2⟩, h3⟩ := h
  have hne : G ≠ g := by
    obtain ⟨ds, _, h4⟩ := hg
    exact h2.ne h4 (by decide)
  have h7 : Row (w.setCell ⟨g, i, none⟩ u) G 29 cs := h2.far hne u
  refine ⟨⟨cs, h7⟩, fun j hj => ?_⟩
  obtain ⟨h5, h6⟩ := h3 j hj
  refine ⟨?_, fun hp => ?_⟩
  · rw [h7.cell, ← h2.cell]; exact h5
  · obtain ⟨g2, e1, e2, e3⟩ := h6 hp
    exact ⟨g2, e1, e2, e3.set _ _ _⟩
theorem wrq_start {w : World} {N B n1 n2 c1 c2 a b : Nat} {A1 A2 : Option Addr} {x1 x2 : List Value} {v : Value} {ya yb : List Int} (h : w.ownsRow B 29 1 v 4 [.slice A1 n1 c1, .slice A2 n2 c2, .slice (some ⟨a, 0, none⟩) 4 4, .slice (some ⟨b, 0, none⟩) 4 4])
    (h1 : w.ownsRow N 3 1 (.slice A1 n1 c1) n1 x1) (h2 : w.ownsRow N 3 1 (.slice A2 n2 c2) n2 x2) (ha : Row w a 3 (iv ya)) (hb : Row w b 3 (iv yb)) (la : ya.length = 4) (lb : yb.length = 4) (na : N ≤ a) (nb : N ≤ b) :
    ∃ G c, v = .slice (some ⟨G, 0, none⟩) 4 c ∧ WrQ w G N (fun i => [A1, A2, some ⟨a, 0, none⟩, some ⟨b, 0, none⟩].getD i none) (fun i => [n1, n2, 4, 4].getD i 0) (fun i => [c1, c2, 4, 4].getD i 0) := by
  rcases h.2 with ⟨_, h0⟩ | ⟨g, cap, cur, rfl, hb0, hg, hc, _, hs, ht⟩
  · omega
  · refine ⟨g, cap, rfl, ⟨cur.toList, by unfold Row; simpa using hg⟩, fun i hi => ?_⟩
    have hcell : ∀ j u, [Value.slice A1 n1 c1, .slice A2 n2 c2, .slice (some ⟨a, 0, none⟩) 4 4, .slice (some ⟨b, 0, none⟩) 4 4][j]? = some u → w.cell? ⟨g, j, none⟩ = some u := fun j u hj => by
      have := h.cells (g := g) rfl j _ hj
      rw [WideShapes.add_plain, Nat.zero_add] at this
      exact this
    match i, hi with
    | 0, _ => exact ⟨hcell 0 _ rfl, own_RL h1⟩
    | 1, _ => exact ⟨hcell 1 _ rfl, own_RL h2⟩
    | 2, _ => exact ⟨hcell 2 _ rfl, fun _ => ⟨a, rfl, na, iv ya, by rw [iv_len, la]; exact Nat.le_refl _, ha⟩⟩
    | 3, _ => exact ⟨hcell 3 _ rfl, fun _ => ⟨b, rfl, nb, iv yb, by rw [iv_len, lb]; exact Nat.le_refl _, hb⟩⟩
def LstC (w : World) (l : List Int) (e : Ending) (w' : World) : Prop := ∃ A c, e = .returned (.slice A l.length c) ∧ IntsAt w' A l ∧ l.length ≤ c ∧ c ≤ maxLen ∧ Below w.heap.size w w'
theorem NewL.lstC {w w' : World} {l : List Int} {e : Ending} (h : NewL w l e w') : LstC w l e w' := by
  obtain ⟨v, rfl, o, b⟩ := h
  obtain ⟨A, c, rfl, -, hc, i⟩ := own_intsI o
  exact ⟨A, c, rfl, i, hc, own_cap o, b⟩
theorem news_two {W : World} {g : Nat} {t : TypeId} {x y : Value} (h : Row W g t [x, y]) : ∀ j u, [x, y][j]? = some u → W.cell? ((⟨g, 0, none⟩ : Addr).add j) = some u := by
  intro j u hj
  rw [WideShapes.add_plain, Nat.zero_add, h.cell, hj]
theorem cow_walk (A B : Option Addr) (m c n d I S : Nat) (w : World) (M N4 : List (List Int)) (P Q U : List Int) (_hn4 : N4.length = 2) (_hP : P.length ≤ 9) (hQ : Q.length ≤ 1000) (hU : U.length ≤ 1000)
    (HT : Hid (Calls Tryd.prog 44 #[.slice A m c] w (TabI w M)))
    (HTB : Hid (∀ V A c, RowsIn V A M → Calls Tryd.prog 16 #[.slice A M.length c] V (TabI V M)))
    (HS : Hid (∀ V A c, Below w.heap.size w V → RowsAt V A M → Calls Tryd.prog 47 #[.slice A M.length c, .slice B n d] V (LstC V P)))
    (HC : Hid (∀ V A c, IntsAt V A P → P.length ≤ c → c ≤ maxLen → Calls Tryd.prog 31 #[.slice A P.length c] V (LstR V P)))
    (HA : Hid (∀ V A c, Below w.heap.size w V → RowsAt V A M → Calls Tryd.prog 19 #[.slice A M.length c] V (NewLE V Q 0)))
    (HI : Hid (∀ V A c B d, Below w.heap.size w V → RowsAt V A M → IntsAt V B P → Calls Tryd.prog 32 #[.slice A M.length c, .slice B P.length d, .string ⟨#[97]⟩] V (NewLE V U 0)))
    (HSl : Hid (∀ V, Calls Tryd.prog 39 #[.int .i64 4] V (SlowR V 4)))
    (hN4 : N4 = slN 4)
    (HTX : Hid (∀ V A B c d, RowsAt V A M → RowsAt V B M → Calls Tryd.prog 40 #[.slice A M.length c, .slice B M.length d] V fun e w' => e = .returned (.bool true) ∧ ∃ n, w' = V.drewN n))
    (HTS : Hid (∀ V A B c d, RowsAt V A N4 → RowsAt V B N4 → Calls Tryd.prog 40 #[.slice A 2 c, .slice B 2 d] V fun e w' => e = .returned (.bool true) ∧ ∃ n, w' = V.drewN n))
    (HIN : Hid (∀ V A B c d, IntsAt V A P → IntsAt V B P → Calls Tryd.prog 25 #[.slice A P.length c, .slice B P.length d] V fun e w' => e = .returned (.bool true) ∧ ∃ n, w' = V.drewN n))
    (HIU : Hid (∀ V A B c d, IntsAt V A U → IntsAt V B U → Calls Tryd.prog 25 #[.slice A U.length c, .slice B U.length d] V fun e w' => e = .returned (.bool true) ∧ ∃ n, w' = V.drewN n))
    (HRS : Hid (∀ V, Calls Tryd.prog 41 #[.int .i64 4] V fun e w' => ∃ g, e = .returned (.slice (some ⟨g, 0, none⟩) 2 2) ∧ RowsAt w' (some ⟨g, 0, none⟩) N4 ∧ Below V.heap.size V w'))
    (HNu : Hid (∀ V B d, IntsAt V B P → Calls Tryd.prog 36 #[.slice B P.length d] V fun e w' => e = .returned (.int .i64 (S : Nat)) ∧ Below V.heap.size V w'))
    (HRI : Hid (∀ V A c, RowsAt V A M → Calls Tryd.prog 35 #[.slice A M.length c, .int .i64 (S : Nat), .string ⟨#[97]⟩] V fun e w' => e = .returned (.int .i64 (I : Nat)) ∧ Below V.heap.size V w'))
    (HRL : Hid (∀ V, Calls Tryd.prog 27 #[.int .i64 (I : Nat)] V (LstR V U)))
    (HAW : Hid (∀ V, Below w.heap.size w V → Calls Tryd.prog 22 #[] V fun e w' => e = .returned (.bool true) ∧ Below V.heap.size V w')) :
    Calls Tryd.prog 15 #[.slice A m c, .slice B n d] w fun e w' => e = .returned (.bool true) ∧ Below w.heap.size w w' := by
  obtain ⟨k0, ki, kz0, kz1, kz2⟩ := info_parts info29
  have b0 := Below.refl w.heap.size w
  go_enter Tryd.func15, Tryd.ntmps15
  go_wp2_with (first
    | (go_at_call 44; refine HT.out.mono ?_; rintro e w1 ⟨A1, c1, rfl, ra, b1⟩; replace b0 := b1)
    | (go_at_call 16; refine (HTB.out _ _ _ ra).mono ?_; rintro e w2 ⟨A2, c2, rfl, rc, b2⟩; replace b0 := b0.trans (b2.mono b0.size); replace ra := (ra.below b2).at; replace rc := rc.at)
    | (go_at_call 47; refine (HS.out _ _ _ b0 ra).mono ?_; rintro e w3 ⟨A3, c3, rfl, il, hl1, hl2, b3⟩; replace b0 := b0.trans (b3.mono b0.size); replace ra := ra.below b3; replace rc := rc.below b3)
    | (go_at_call 31; refine (HC.out _ _ _ il hl1 hl2).mono ?_; rintro e w4 ⟨A4, c4, rfl, iw, b4⟩; replace b0 := b0.trans (b4.mono b0.size); replace ra := ra.below b4; replace rc := rc.below b4; replace il := il.below b4)
    | (go_at_call 19; fail))
  have y0 := Below.refl w4.heap.size w4
  clear hl1 hl2
  go_wp2_with (first
    | (go_at_call 19; refine (HA.out _ _ _ (b0.trans (y0.mono b0.size)) (ra.below y0)).mono ?_; rintro e w5 ⟨v5, rfl, o5, b5⟩; obtain ⟨A5, c5, rfl, -, -, -⟩ := own_intsI o5; replace y0 := y0.trans (b5.mono y0.size))
    | (go_at_call 32; refine (HI.out _ _ _ _ _ (b0.trans (y0.mono b0.size)) (ra.below y0) (il.below y0)).mono ?_; rintro e w6 ⟨v6, rfl, o6, b6⟩; obtain ⟨A6, c6, rfl, -, -, -⟩ := own_intsI o6; replace o5 := o5.kept' b6; replace o6 := own_mono o6 y0.size; replace y0 := y0.trans (b6.mono y0.size))
    | (go_at_call 39; refine (HSl.out _).mono ?_; rintro e w7 ⟨g7, p7, q7, rfl, s1, s2, s3, na, nb, -, -, b7⟩; replace o5 := o5.kept' b7; replace o6 := o6.kept' b7; replace na := Nat.le_trans y0.size na; replace nb := Nat.le_trans y0.size nb; replace y0 := y0.trans (b7.mono y0.size))
    | ((with_reducible refine (?_ : wpList _ _ _ (Oper.mk (some 50) _ _ _ _ _ :: _) _ _)); have u5 := own_one2 w7 w7.heap.size 29 (.slice A5 Q.length c5) (.slice A6 U.length c6) (Nat.le_refl _); refine wpList_append_own_at _ rfl (.tmp 48) (.tmp 49) 22 rfl w7.heap.size 29 k0 (.slice none 0 0) 1 24 Tryd.underlying22 ki kz0 kz1 kz2 rfl (by decide) _ _ _ rfl u5 ⟨g7, 0, none⟩ 2 2 [.slice (some ⟨p7, 0, none⟩) 4 4, .slice (some ⟨q7, 0, none⟩) 4 4] rfl rfl (news_two (s1.alloc _)) (by simp [Value.oneCell']) (by unfold maxLen; omega) (by omega) (by simp) ?_; intro v8 w8 o8 hg8 _ _))
  have b8 : Below w7.heap.size w7 w8 := ((Below.refl w7.heap.size w7).alloc (Nat.le_refl _) _).grown hg8 (by simp) (fun g hg => (own_ge u5 hg).1)
  replace o5 := o5.kept' b8
  replace o6 := o6.kept' b8
  obtain ⟨G, c8, rfl, HQ0⟩ := wrq_start o8 o5 o6 (s2.below b8) (s3.below b8) (by rw [slA_len]) (by rw [slB_len]) na nb
  replace y0 := y0.trans (b8.mono y0.size)
  clear o5 o6 s1 s2 s3 na nb u5 o8 hg8 b8
  generalize (fun i => [A5, A6, some ⟨p7, 0, none⟩, some ⟨q7, 0, none⟩].getD i none) = AA at HQ0
  have HNN : Hid (∀ i, (fun i => [Q.length, U.length, 4, 4].getD i 0) i ≤ 1000) := Lib.hid (fun i => by
    match i with
    | 0 => exact hQ
    | 1 => exact hU
    | 2 => show 4 ≤ 1000; omega
    | 3 => show 4 ≤ 1000; omega
    | _ + 4 => exact Nat.zero_le _)
  generalize (fun i => [Q.length, U.length, 4, 4].getD i 0) = NN at HQ0 HNN
  generalize (fun i => [c5, c6, 4, 4].getD i 0) = CC at HQ0
  have RA := Lib.hid (fun V (hV : Below w4.heap.size w4 V) => ra.below hV)
  have RC := Lib.hid (fun V (hV : Below w4.heap.size w4 V) => rc.below hV)
  have IL := Lib.hid (fun V (hV : Below w4.heap.size w4 V) => il.below hV)
  have IW := Lib.hid (fun V (hV : Below w4.heap.size w4 V) => iw.below hV)
  clear ra rc il iw HA HC HT HTB HS
  go_wp2
  go_loopw [16] (fun i wr => ∃ k : Nat, k ≤ 4 ∧ i = .int .i64 k ∧ WrQ wr G w4.heap.size AA NN CC ∧ Below w4.heap.size w4 wr) (fun i _ => 4 - (intOf i).toNat)
  case atStart => exact ⟨0, by omega, rfl, HQ0, y0⟩
  case round =>
    clear HQ0 y0
    obtain ⟨k, hk, rfl, q0, y0⟩ := hrel
    by_cases hlt : k < 4
    · have g1 : decide ((k : Int) < 4) = true := decide_eq_true (by omega)
      go_wp2
      go_loopw [17] (fun j wr => ∃ q : Nat, q ≤ NN k ∧ j = .int .i64 q ∧ WrQ wr G w4.heap.size AA NN CC ∧ Below w4.heap.size w4 wr) (fun j _ => NN k - (intOf j).toNat)
      case atStart => exact ⟨0, by omega, rfl, q0, y0⟩
      case round =>
        clear q0 y0
        obtain ⟨q, hq, rfl, q0, y0⟩ := hrel
        obtain ⟨dV, hV⟩ := q0.2 k hlt
        have hnn := HNN.out k
        by_cases hql : q < NN k
        · have g2 : decide ((q : Int) < (NN k : Int)) = true := decide_eq_true (by omega)
          obtain ⟨g, hA, hgN, hrl⟩ := hV (by omega)
          rw [hA] at dV
          obtain ⟨⟨u, e0⟩, f0⟩ := hrl.cell hql
          go_wp2
          exact ⟨⟨q + 1, by omega, by go_num, q0.set hrl _ _, y0.setCell (p := ⟨g, q, none⟩) hgN _⟩, by simp [intOf]; omega⟩
        · have g2 : decide ((q : Int) < (NN k : Int)) = false := decide_eq_false (by omega)
          clear hV
          go_wp2
          exact ⟨⟨k + 1, by omega, rfl, q0, y0⟩, by simp [intOf]; omega⟩
    · obtain rfl : k = 4 := by omega
      have b9 := b0.trans (y0.mono b0.size)
      have ra := RA.out _ y0
      have rc := RC.out _ y0
      have il := IL.out _ y0
      have iw := IW.out _ y0
      clear q0 y0 RA RC IL IW b0
      go_wp2_with (first
        | (go_at_call 39; refine (HSl.out _).mono ?_; rintro e wa hs; obtain ⟨ga, rfl, sa, ba⟩ := hs.rows; rw [← hN4] at sa; replace b9 := b9.trans (ba.mono b9.size); replace ra := ra.below ba; replace rc := rc.below ba; replace il := il.below ba; replace iw := iw.below ba)
        | (go_at_call 32; refine (HI.out _ _ _ _ _ b9 ra il).mono ?_; rintro e wb hs; obtain ⟨Ab, cb, rfl, iu, bb⟩ := hs.lst; replace b9 := b9.trans (bb.mono b9.size); replace ra := ra.below bb; replace rc := rc.below bb; replace il := il.below bb; replace iw := iw.below bb; replace sa := sa.below bb)
        | (go_at_call 40; first
          | ((with_reducible refine (HTX.out _ _ _ _ _ ra rc).mono ?_); rintro e _ ⟨rfl, nc, rfl⟩; replace b9 := b9.trans (below_drewN nc); replace rc := rc.below (below_drewN nc); replace il := il.below (below_drewN nc); replace iw := iw.below (below_drewN nc); replace sa := sa.below (below_drewN nc); replace iu := iu.below (below_drewN nc); clear ra; generalize World.drewN _ nc = wc at *)
          | ((with_reducible refine (HTS.out _ _ _ _ _ sa se).mono ?_); rintro e _ ⟨rfl, nf, rfl⟩; replace b9 := b9.trans (below_drewN nf); replace rc := rc.below (below_drewN nf); replace iw := iw.below (below_drewN nf); replace iu := iu.below (below_drewN nf); clear sa se; generalize World.drewN _ nf = wf at *))
        | (go_at_call 25; first
          | ((with_reducible refine (HIN.out _ _ _ _ _ il iw).mono ?_); rintro e _ ⟨rfl, nd, rfl⟩; replace b9 := b9.trans (below_drewN nd); replace rc := rc.below (below_drewN nd); replace iw := iw.below (below_drewN nd); replace sa := sa.below (below_drewN nd); replace iu := iu.below (below_drewN nd); clear il; generalize World.drewN _ nd = wd at *)
          | ((with_reducible refine (HIU.out _ _ _ _ _ iu ix).mono ?_); rintro e _ ⟨rfl, ng, rfl⟩; replace b9 := b9.trans (below_drewN ng); generalize World.drewN _ ng = wg at *))
        | (go_at_call 41; refine (HRS.out _).mono ?_; rintro e we ⟨ge, rfl, se, be⟩; replace b9 := b9.trans (be.mono b9.size); replace rc := rc.below be; replace iw := iw.below be; replace iu := iu.below be; replace sa := sa.below be)
        | (go_at_call 36; refine (HNu.out _ _ _ iw).mono ?_; rintro e wh ⟨rfl, bh⟩; replace b9 := b9.trans (bh.mono b9.size); replace rc := rc.below bh; replace iu := iu.below bh)
        | (go_at_call 35; refine (HRI.out _ _ _ rc).mono ?_; rintro e wi ⟨rfl, bi⟩; replace b9 := b9.trans (bi.mono b9.size); replace iu := iu.below bi)
        | (go_at_call 27; refine (HRL.out _).mono ?_; rintro e wj ⟨Aj, cj, rfl, ix, bj⟩; replace b9 := b9.trans (bj.mono b9.size); replace iu := iu.below bj)
        | (go_at_call 22; refine (HAW.out _ b9).mono ?_; rintro e wk ⟨rfl, bk⟩; replace b9 := b9.trans (bk.mono b9.size)))
      go_ret
      exact ⟨rfl, b9⟩
end Go.Proofs.YtignbpipdfjkeaaDoor
