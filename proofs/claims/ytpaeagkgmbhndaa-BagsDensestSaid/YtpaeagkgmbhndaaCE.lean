/- BagsDensest returns true: the walk. -/
import Derived.Test.YtpaeagkgmbhndaaCC
import Derived.Test.YtpaeagkgmbhndaaCD
namespace Go.Proofs.Ytpaeagkgmbhndaa
open Go.RowKit
set_option maxHeartbeats 1000000
set_option maxRecDepth 100000
theorem RefProves_yes (m : Nat) (A B : Option Addr) (c d p q : Nat) (es ss : List (Int × Int)) (gs : List Nat) (w : World) (hx : es.length ≤ 1000000) (ha : PairsAt w A es) (hb : PairsAt w B ss) (hq : q ≤ 1000) (h : readF m es = some gs) (hl : ss.length = es.length) (hv : provV es ss p q = true) :
    Calls Try.prog 22 #[.int .i64 m, .slice A es.length c, .slice B es.length d, frac p q] w fun e w' => e = .returned (.bool true) ∧ Below w.heap.size w w' := by
  have := RefProves_any m A B c d p q es ss gs w hx ha hb hq h
  rw [hl, hv] at this
  exact this
theorem set_back {m : Nat} (hm : m ≤ 16) {gs : List Nat} {s p q : Nat} (D : Dens m gs s p q) : setV m (natI (ms s)) = s := by
  obtain ⟨h1, h2, h3, h4, h5⟩ := setV_yes hm (ms_set D.lt D.ne D.sub)
  refine Nat.eq_of_testBit_eq fun v => ?_
  rw [Bool.eq_iff_iff]
  exact (h5 v).symm.trans (ms_has D.lt)
theorem Check_yes (m : Nat) (A B C : Option Addr) (c d e0 : Nat) (es ss : List (Int × Int)) (gs : List Nat) (s p q : Nat) (w : World) (hx : es.length ≤ 1000000) (ha : PairsAt w A es) (hb : IntsAt w B (natI (ms s))) (hc : PairsAt w C ss) (h : readF m es = some gs) (D : Dens m gs s p q) (hl : ss.length = es.length) (hv : provV es ss p q = true) :
    Calls Try.prog 17 #[.int .i64 m, .slice A es.length c, .slice B (natI (ms s)).length d, .slice C es.length e0] w fun e w' => e = .returned (.int .i64 0) ∧ Below w.heap.size w w' := by
  have hm : m ≤ 16 := by have := readF_ok h; omega
  have e := set_back hm D
  have hlen : (natI (ms s)).length ≤ 16 := by rw [natI_len]; exact ms_len s
  have := Check_good m A B C c d e0 es ss gs (natI (ms s)) w hx (by omega) ha hb hc h (by rw [e]; exact D.ne) (by rw [e, D.den]; have := D.q16; show q ≤ _; omega)
  rw [e, D.den, hl] at this
  dsimp only at this
  rw [hv] at this
  exact this
theorem RefDens_yes (m : Nat) (A B : Option Addr) (c d : Nat) (es : List (Int × Int)) (gs : List Nat) (s p q : Nat) (w : World) (hx : es.length ≤ 1000000) (ha : PairsAt w A es) (hb : IntsAt w B (natI (ms s))) (h : readF m es = some gs) (D : Dens m gs s p q) :
    Calls Try.prog 20 #[.slice A es.length c, .slice B (natI (ms s)).length d] w fun e w' => e = .returned (frac p q) ∧ Below w.heap.size w w' := by
  have hlen : (natI (ms s)).length ≤ 16 := by rw [natI_len]; exact ms_len s
  have hl : (natI (ms s)).length = pc 16 s := by rw [natI_len]; rfl
  have hp := pc_pos D.lt D.ne
  have := RefDensity_any A B c d es (natI (ms s)) w hx (by omega) (by omega) ha hb
  have hd := D.den
  unfold denV at hd
  injection hd with d1 d2
  rw [← ends_ins h (fun v => ms_has D.lt)] at this
  rw [show fN (endsOf gs s (ms s) / 2) (natI (ms s)).length = p by rw [hl]; exact d1, show fD (endsOf gs s (ms s) / 2) (natI (ms s)).length = q by rw [hl]; exact d2] at this
  exact this
theorem BagsDensest_any (n : Int) (A : Option Addr) (c : Nat) (es : List (Int × Int)) (w : World) (hx : es.length ≤ c) (hc : c ≤ maxLen) (ha : PairsAt w A es) :
    Calls Try.prog 3 #[.int .i64 n, .slice A es.length c] w fun e w' => e = .returned (.bool true) ∧ Below w.heap.size w w' := by
  have HE := Lib.hid (edges_any A c es w hx hc ha)
  have hl1 : (es.take 130).length ≤ 130 := by rw [List.length_take]; omega
  clear hx hc ha
  generalize es.take 130 = own at *
  rcases hr : readF n own with _ | gs
  · have HR := Lib.hid hr
    clear hr
    go_enter Try.func3, Try.ntmps3
    go_wp2_with (first
      | (go_at_call 14; refine HE.out.mono ?_; rintro e w1 ⟨v1, n1, rfl, o1, b1⟩; obtain ⟨A1, c1, rfl, -, -, p1⟩ := own_pairs o1; clear o1)
      | (go_at_call 15; refine (Densest_none n A1 c1 own _ (by omega) p1 HR.out).mono ?_; rintro e w2 ⟨rfl, b2⟩; have p2 := (p1.below b2).alloc (.cells #[.int .i64 (0 : Nat), .int .i64 (0 : Nat)] 26); have bb := (b1.trans (b2.mono b1.size)).alloc (b1.trans (b2.mono b1.size)).size (.cells #[.int .i64 (0 : Nat), .int .i64 (0 : Nat)] 26); have y : Row (w2.alloc (.cells #[.int .i64 (0 : Nat), .int .i64 (0 : Nat)] 26)) w2.heap.size 26 [.int .i64 (0 : Nat), .int .i64 (0 : Nat)] := row_new rfl; clear p1 b1 b2)
      | (go_at_call 16; refine (Graph_no (by omega) p2 HR.out).mono ?_; rintro e w4 ⟨rfl, b6⟩; replace p2 := p2.below b6; replace y := y.below b6; replace bb := bb.trans (b6.mono bb.size); obtain ⟨⟨k0, k1⟩, -⟩ := y.cells2; clear b6)
      | (go_at_call 17; refine (Check_none n A1 none none c1 0 0 own [] [] _ (by omega) p2 HR.out).mono ?_; rintro e w5 ⟨rfl, b6⟩; replace bb := bb.trans (b6.mono bb.size); clear b6 k0 k1 y p2)
      | (go_at_call 18; refine (awake_any _).mono ?_; rintro e w6 ⟨rfl, b8⟩))
    go_ret
    exact ⟨rfl, bb.trans (b8.mono bb.size)⟩
  · obtain ⟨m, rfl⟩ := readF_nat hr
    have hm16 : m ≤ 16 := by have := readF_ok hr; omega
    have HR := Lib.hid hr
    clear hr
    go_enter Try.func3, Try.ntmps3
    go_wp2_with (first
      | (go_at_call 14; refine HE.out.mono ?_; rintro e w1 ⟨v1, n1, rfl, o1, b1⟩; obtain ⟨A1, c1, rfl, -, -, p1⟩ := own_pairs o1; clear o1)
      | (go_at_call 15; refine (Densest_some m A1 c1 own gs _ (by omega) p1 HR.out).mono ?_; rintro e w2 ⟨v2, g2, s, p, q, H, L, f, rfl, hD, hsp, hL, hf, o2, -, hr2, b2⟩; have HPV := Lib.hid (share_proves HR.out hsp hL hf); have hsl : (ssF own.length f).length = own.length := ssF_len _ _; have HSL := Lib.hid hsl; have sp := share_pairs hr2; generalize ssF own.length f = ss at *; obtain ⟨A2, c2, e2, -, i2⟩ := own_ints o2; rw [← natI_len] at e2; subst e2; have HD := Lib.hid hD; have q16 := hD.q16; have hsl16 : (natI (ms s)).length ≤ 16 := (by rw [natI_len]; exact ms_len s); replace p1 := (p1.below b2).alloc (.cells #[.int .i64 p, .int .i64 q] 26); replace sp := sp.alloc (.cells #[.int .i64 p, .int .i64 q] 26); replace i2 := i2.alloc (.cells #[.int .i64 p, .int .i64 q] 26); have bb := (b1.trans (b2.mono b1.size)).alloc (b1.trans (b2.mono b1.size)).size (.cells #[.int .i64 p, .int .i64 q] 26); have y : Row (w2.alloc (.cells #[.int .i64 p, .int .i64 q] 26)) w2.heap.size 26 [.int .i64 p, .int .i64 q] := row_new rfl; clear b1 b2 o2 hD hsp hL hf hr2 hsl)
      | (go_at_call 16; refine (Graph_yes (by omega) p1 HR.out).mono ?_; rintro e w4 ⟨rfl, b6⟩; replace p1 := p1.below b6; replace sp := sp.below b6; replace i2 := i2.below b6; replace y := y.below b6; replace bb := bb.trans (b6.mono bb.size); clear b6)
      | (go_at_call 19; refine (RefDensest_any m A1 c1 own gs s p q _ (by omega) p1 HR.out HD.out).mono ?_; rintro e w5 ⟨v5, rfl, o5, b6⟩; obtain ⟨A5, c5, e5, -, i5⟩ := own_ints o5; rw [← natI_len] at e5; subst e5; replace p1 := p1.below b6; replace sp := sp.below b6; replace i2 := i2.below b6; replace y := y.below b6; replace bb := bb.trans (b6.mono bb.size); clear b6 o5)
      | (go_at_call 20; refine (RefDens_yes m A1 A5 c1 c5 own gs s p q _ (by omega) p1 i5 HR.out HD.out).mono ?_; rintro e w6 ⟨rfl, b6⟩; replace p1 := (p1.below b6).alloc (.cells #[.int .i64 p, .int .i64 q] 26); replace sp := (sp.below b6).alloc (.cells #[.int .i64 p, .int .i64 q] 26); replace i2 := (i2.below b6).alloc (.cells #[.int .i64 p, .int .i64 q] 26); replace i5 := (i5.below b6).alloc (.cells #[.int .i64 p, .int .i64 q] 26); replace y := (y.below b6).alloc (.cells #[.int .i64 p, .int .i64 q] 26); have z : Row (w6.alloc (.cells #[.int .i64 p, .int .i64 q] 26)) w6.heap.size 26 [.int .i64 p, .int .i64 q] := row_new rfl; replace bb := bb.trans (b6.mono bb.size); replace bb := bb.alloc bb.size (.cells #[.int .i64 p, .int .i64 q] 26); clear b6)
      | (go_at_call 21; refine (ints_yes A2 A5 c2 c5 (natI (ms s)) _ _ rfl (by omega) i2 i5).mono ?_; rintro e w7 ⟨rfl, n7, rfl⟩; replace p1 := p1.below (below_drewN n7); replace sp := sp.below (below_drewN n7); replace i2 := i2.below (below_drewN n7); replace y := y.below (below_drewN n7); replace z := z.below (below_drewN n7); replace bb := bb.trans (below_drewN n7); obtain ⟨⟨k0, k1⟩, -⟩ := y.cells2; obtain ⟨⟨l0, l1⟩, -⟩ := z.cells2; clear i5)
      | (go_at_call 22; refine (RefProves_yes m A1 (some ⟨g2, 0, none⟩) c1 own.length p q own ss gs _ (by omega) p1 sp (by omega) HR.out HSL.out HPV.out).mono ?_; rintro e w8 ⟨rfl, b6⟩; replace p1 := p1.below b6; replace sp := sp.below b6; replace i2 := i2.below b6; replace bb := bb.trans (b6.mono bb.size); clear b6 y z k0 k1 l0 l1)
      | (go_at_call 17; refine (Check_yes m A1 A2 (some ⟨g2, 0, none⟩) c1 c2 own.length own ss gs s p q _ (by omega) p1 i2 sp HR.out HD.out HSL.out HPV.out).mono ?_; rintro e w9 ⟨rfl, b6⟩; replace bb := bb.trans (b6.mono bb.size); clear b6 p1 sp i2)
      | (go_at_call 18; refine (awake_any _).mono ?_; rintro e w10 ⟨rfl, b8⟩))
    go_ret
    exact ⟨rfl, bb.trans (b8.mono bb.size)⟩
end Go.Proofs.Ytpaeagkgmbhndaa
