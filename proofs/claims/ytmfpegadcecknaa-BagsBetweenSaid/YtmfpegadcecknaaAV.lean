/- BagsHeights returns true: the walk. -/
import Derived.Test.YtmfpegadcecknaaAU
namespace Go.Proofs.Ytmfpegadcecknaa
open Go.RowKit
set_option maxHeartbeats 1000000
set_option maxRecDepth 100000
/-- A list of the ends of edges, one for each. -/
def HeadsP (es : List (Int × Int)) (hs : List Int) : Prop := hs.length = es.length ∧ ∀ i, i < es.length → geti hs i = pA es i ∨ geti hs i = pB es i
theorem heads_yes {A B : Option Addr} {c d : Nat} {ps : List (Int × Int)} {ys : List Int} {w : World} (hx : ps.length ≤ 1000000) (ha : PairsAt w A ps) (hb : IntsAt w B ys) (h : HeadsP ps ys) :
    Calls Try.prog 28 #[.slice A ps.length c, .slice B ys.length d] w fun e w' => e = .returned (.bool true) ∧ ∃ n, w' = w.drewN n :=
  (heads_any A B c d ps ys w hx ha hb).mono fun _ _ ⟨h1, h2⟩ => ⟨by rw [h1]; exact ret_bool (decide_eq_true h), h2⟩
theorem heads_no {A B : Option Addr} {c d : Nat} {ps : List (Int × Int)} {ys : List Int} {w : World} (hx : ps.length ≤ 1000000) (ha : PairsAt w A ps) (hb : IntsAt w B ys) (h : ¬ HeadsP ps ys) :
    Calls Try.prog 28 #[.slice A ps.length c, .slice B ys.length d] w fun e w' => e = .returned (.bool false) ∧ ∃ n, w' = w.drewN n :=
  (heads_any A B c d ps ys w hx ha hb).mono fun _ _ ⟨h1, h2⟩ => ⟨by rw [h1]; exact ret_bool (decide_eq_false h), h2⟩
theorem Height_no {m : Nat} {A B : Option Addr} {c d : Nat} {es : List (Int × Int)} {gs : List Nat} {hs : List Int} {w : World} (hx : es.length ≤ 1000000) (ha : PairsAt w A es) (hbs : IntsAt w B hs) (h : readF m es = some gs) (hn : ¬ HeadsP es hs) :
    Calls Try.prog 31 #[.int .i64 m, .slice A es.length c, .slice B hs.length d] w fun e w' => e = .returned (.tuple #[.int .i64 0, .int .i64 2]) ∧ Below w.heap.size w w' := by
  by_cases hl : hs.length = es.length
  · refine (Height_some m A B c d es gs hs w hx ha hbs h hl).mono fun e w' ⟨h1, h2⟩ => ⟨?_, h2⟩
    rw [h1]; unfold heightV; rw [if_neg (fun hh => hn ⟨hl, hh⟩)]
  · exact Height_len m A B c d es gs hs w hx ha h hl
theorem Height_yes {m : Nat} {A B : Option Addr} {c d : Nat} {es : List (Int × Int)} {gs : List Nat} {hs : List Int} {w : World} (hx : es.length ≤ 1000000) (ha : PairsAt w A es) (hbs : IntsAt w B hs) (h : readF m es = some gs) (hn : HeadsP es hs) :
    Calls Try.prog 31 #[.int .i64 m, .slice A es.length c, .slice B hs.length d] w fun e w' => e = .returned (.tuple #[.int .i64 (maxTo (natI (cntT hs hs.length)) 16), .int .i64 0]) ∧ Below w.heap.size w w' := by
  refine (Height_some m A B c d es gs hs w hx ha hbs h hn.1).mono fun e w' ⟨h1, h2⟩ => ⟨?_, h2⟩
  rw [h1, heightV_yes hn.2]
theorem HeadsP.bound {m : Nat} {es : List (Int × Int)} {gs : List Nat} {hs : List Int} (h : readF m es = some gs) (hn : HeadsP es hs) : ∀ i, i < hs.length → 0 ≤ geti hs i ∧ geti hs i < m := fun i hi => by
  have h1 := readF_edges h (k := i) (by rw [← hn.1]; exact hi)
  rcases hn.2 i (by rw [← hn.1]; exact hi) with e | e <;> omega
theorem Graph_no {n : Int} {A : Option Addr} {c : Nat} {es : List (Int × Int)} {w : World} (hx : es.length ≤ 1000000) (ha : PairsAt w A es) (h : readF n es = none) :
    Calls Try.prog 16 #[.int .i64 n, .slice A es.length c] w fun e w' => e = .returned (.bool false) ∧ Below w.heap.size w w' :=
  (Graph_any n A c es w hx ha).mono fun _ _ ⟨h1, h2⟩ => ⟨by rw [h1, h]; rfl, h2⟩
theorem Graph_yes {n : Int} {A : Option Addr} {c : Nat} {es : List (Int × Int)} {w : World} {gs : List Nat} (hx : es.length ≤ 1000000) (ha : PairsAt w A es) (h : readF n es = some gs) :
    Calls Try.prog 16 #[.int .i64 n, .slice A es.length c] w fun e w' => e = .returned (.bool true) ∧ Below w.heap.size w w' :=
  (Graph_any n A c es w hx ha).mono fun _ _ ⟨h1, h2⟩ => ⟨by rw [h1, h]; rfl, h2⟩
theorem readF_nat {n : Int} {es : List (Int × Int)} {gs : List Nat} (h : readF n es = some gs) : ∃ m : Nat, n = m := ⟨n.toNat, by have := readF_ok h; omega⟩
theorem BagsHeights_any (n : Int) (A B : Option Addr) (c d : Nat) (es : List (Int × Int)) (hs : List Int) (w : World) (hx : es.length ≤ c) (hc : c ≤ maxLen) (hx2 : hs.length ≤ d) (hd : d ≤ maxLen) (ha : PairsAt w A es) (hb : IntsAt w B hs) :
    Calls Try.prog 6 #[.int .i64 n, .slice A es.length c, .slice B hs.length d] w fun e w' => e = .returned (.bool true) ∧ Below w.heap.size w w' := by
  have HE := Lib.hid (edges_any A c es w hx hc ha)
  have HL := Lib.hid (fun (W : World) (h : Below w.heap.size w W) => list_copy_any B d hs W hx2 hd (hb.below h))
  have hl1 : (es.take 130).length ≤ 130 := by rw [List.length_take]; omega
  have hl2 : (hs.take 130).length ≤ 130 := by rw [List.length_take]; omega
  clear hx hc hx2 hd ha hb
  generalize es.take 130 = own at *
  generalize hs.take 130 = h at *
  rcases hr : readF n own with _ | gs
  · have HR := Lib.hid hr
    clear hr
    go_enter Try.func6, Try.ntmps6
    go_wp2_with (first
      | (go_at_call 14; refine HE.out.mono ?_; rintro e w1 ⟨v1, n1, rfl, o1, b1⟩; obtain ⟨A1, c1, rfl, -, -, p1⟩ := own_pairs o1; clear o1)
      | (go_at_call 23; refine (HL.out _ b1).mono ?_; rintro e w2 ⟨v2, n2, rfl, o2, b2⟩; obtain ⟨A2, c2, rfl, -, -, i2⟩ := own_intsI o2; have p2 := p1.below b2; have b3 := b1.trans (b2.mono b1.size); clear o2 p1 b1 b2)
      | (go_at_call 31; refine (Height_none n A1 A2 c1 c2 own h _ (by omega) p2 HR.out).mono ?_; rintro e w3 ⟨rfl, b4⟩; have p3 := p2.below b4; have b5 := b3.trans (b4.mono b3.size); clear p2 b3 b4)
      | (go_at_call 16; refine (Graph_no (by omega) p3 HR.out).mono ?_; rintro e w4 ⟨rfl, b6⟩; have b7 := b5.trans (b6.mono b5.size); clear p3 b5 b6)
      | (go_at_call 18; refine (awake_any _).mono ?_; rintro e w5 ⟨rfl, b8⟩))
    go_ret
    exact ⟨rfl, b7.trans (b8.mono b7.size)⟩
  · obtain ⟨m, rfl⟩ := readF_nat hr
    have hm16 : m ≤ 16 := by have := readF_ok hr; omega
    have HR := Lib.hid hr
    clear hr
    by_cases hh : HeadsP own h
    · have HH := Lib.hid hh
      clear hh
      have HB := Lib.hid (HH.out.bound HR.out)
      go_enter Try.func6, Try.ntmps6
      go_wp2_with (first
        | (go_at_call 14; refine HE.out.mono ?_; rintro e w1 ⟨v1, n1, rfl, o1, b1⟩; obtain ⟨A1, c1, rfl, -, -, p1⟩ := own_pairs o1; clear o1)
        | (go_at_call 23; refine (HL.out _ b1).mono ?_; rintro e w2 ⟨v2, n2, rfl, o2, b2⟩; obtain ⟨A2, c2, rfl, -, -, i2⟩ := own_intsI o2; have p2 := p1.below b2; have b3 := b1.trans (b2.mono b1.size); clear o2 p1 b1 b2)
        | (go_at_call 31; refine (Height_yes (c := c1) (d := c2) (by omega) p2 i2 HR.out HH.out).mono ?_; rintro e w3 ⟨rfl, b4⟩; have p3 := p2.below b4; have i3 := i2.below b4; have b5 := b3.trans (b4.mono b3.size); clear p2 i2 b3 b4)
        | (go_at_call 16; refine (Graph_yes (by omega) p3 HR.out).mono ?_; rintro e w4 ⟨rfl, b6⟩; have p4 := p3.below b6; have i4 := i3.below b6; have b7 := b5.trans (b6.mono b5.size); clear p3 i3 b5 b6)
        | (go_at_call 28; refine (heads_yes (by omega) p4 i4 HH.out).mono ?_; rintro e w5 ⟨rfl, nq, rfl⟩; have i5 := i4.drewN nq; have b9 := b7.trans (below_drewN nq); clear p4 i4 b7)
        | (go_at_call 29; refine (RefHeight_any m A2 c2 h _ hm16 (by omega) i5 HB.out).mono ?_; rintro e w6 ⟨rfl, b10⟩; have b11 := b9.trans (b10.mono b9.size); clear i5 b9 b10)
        | (go_at_call 18; refine (awake_any _).mono ?_; rintro e w7 ⟨rfl, b8⟩))
      go_ret
      exact ⟨rfl, b11.trans (b8.mono b11.size)⟩
    · have HH := Lib.hid hh
      clear hh
      go_enter Try.func6, Try.ntmps6
      go_wp2_with (first
        | (go_at_call 14; refine HE.out.mono ?_; rintro e w1 ⟨v1, n1, rfl, o1, b1⟩; obtain ⟨A1, c1, rfl, -, -, p1⟩ := own_pairs o1; clear o1)
        | (go_at_call 23; refine (HL.out _ b1).mono ?_; rintro e w2 ⟨v2, n2, rfl, o2, b2⟩; obtain ⟨A2, c2, rfl, -, -, i2⟩ := own_intsI o2; have p2 := p1.below b2; have b3 := b1.trans (b2.mono b1.size); clear o2 p1 b1 b2)
        | (go_at_call 31; refine (Height_no (c := c1) (d := c2) (by omega) p2 i2 HR.out HH.out).mono ?_; rintro e w3 ⟨rfl, b4⟩; have p3 := p2.below b4; have i3 := i2.below b4; have b5 := b3.trans (b4.mono b3.size); clear p2 i2 b3 b4)
        | (go_at_call 16; refine (Graph_yes (by omega) p3 HR.out).mono ?_; rintro e w4 ⟨rfl, b6⟩; have p4 := p3.below b6; have i4 := i3.below b6; have b7 := b5.trans (b6.mono b5.size); clear p3 i3 b5 b6)
        | (go_at_call 28; refine (heads_no (by omega) p4 i4 HH.out).mono ?_; rintro e w5 ⟨rfl, nq, rfl⟩; have b9 := b7.trans (below_drewN nq); clear p4 i4 b7)
        | (go_at_call 18; refine (awake_any _).mono ?_; rintro e w7 ⟨rfl, b8⟩))
      go_ret
      exact ⟨rfl, b9.trans (b8.mono b9.size)⟩
end Go.Proofs.Ytmfpegadcecknaa
