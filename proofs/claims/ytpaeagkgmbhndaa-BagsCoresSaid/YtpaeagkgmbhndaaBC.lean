/- BagsCores returns true: the walk. -/
import Derived.Test.YtpaeagkgmbhndaaZL
import Derived.Test.YtpaeagkgmbhndaaZK
namespace Go.Proofs.Ytpaeagkgmbhndaa
open Go.RowKit
set_option maxHeartbeats 1000000
set_option maxRecDepth 100000
theorem BagsCores_any (n : Int) (A : Option Addr) (c : Nat) (es : List (Int × Int)) (w : World) (hx : es.length ≤ c) (hc : c ≤ maxLen) (ha : PairsAt w A es) :
    Calls Try.prog 7 #[.int .i64 n, .slice A es.length c] w fun e w' => e = .returned (.bool true) ∧ Below w.heap.size w w' := by
  have HE := Lib.hid (edges_any A c es w hx hc ha)
  have hl1 : (es.take 130).length ≤ 130 := by rw [List.length_take]; omega
  clear hx hc ha
  generalize es.take 130 = own at *
  rcases hr : readF n own with _ | gs
  · have HR := Lib.hid hr
    clear hr
    go_enter Try.func7, Try.ntmps7
    go_wp2_with (first
      | (go_at_call 14; refine HE.out.mono ?_; rintro e w1 ⟨v1, n1, rfl, o1, b1⟩; obtain ⟨A1, c1, rfl, -, -, p1⟩ := own_pairs o1; clear o1)
      | (go_at_call 32; refine (Cores_none n A1 c1 own _ (by omega) p1 HR.out).mono ?_; rintro e w2 ⟨rfl, b2⟩; have p2 := p1.below b2; have b3 := b1.trans (b2.mono b1.size); clear p1 b1 b2)
      | (go_at_call 33; refine (Peel_none n A1 c1 own _ (by omega) p2 HR.out).mono ?_; rintro e w3 ⟨rfl, b4⟩; have p3 := p2.below b4; have b5 := b3.trans (b4.mono b3.size); clear p2 b3 b4)
      | (go_at_call 16; refine (Graph_no (by omega) p3 HR.out).mono ?_; rintro e w4 ⟨rfl, b6⟩; have b7 := b5.trans (b6.mono b5.size); clear p3 b5 b6)
      | (go_at_call 18; refine (awake_any _).mono ?_; rintro e w5 ⟨rfl, b8⟩))
    go_ret
    exact ⟨rfl, b7.trans (b8.mono b7.size)⟩
  · obtain ⟨m, rfl⟩ := readF_nat hr
    have hm16 : m ≤ 16 := by have := readF_ok hr; omega
    have HR := Lib.hid hr
    clear hr
    have hcl : (natI (coreF m gs)).length = m := by rw [natI_len]; exact coreL_len m _
    have HCL := Lib.hid hcl
    clear hcl
    have hol : (ordF m gs).length = m := by unfold ordF; rw [List.length_map, peelL_len]
    have HOL := Lib.hid hol
    have hol2 : (ordF m gs).length ≤ 1000000 := by omega
    clear hol
    go_enter Try.func7, Try.ntmps7
    go_wp2_with (first
      | (go_at_call 14; refine HE.out.mono ?_; rintro e w1 ⟨v1, n1, rfl, o1, b1⟩; obtain ⟨A1, c1, rfl, -, -, p1⟩ := own_pairs o1; clear o1)
      | (go_at_call 32; refine (Cores_some m A1 c1 own gs _ (by omega) p1 HR.out).mono ?_; rintro e w2 ⟨g2, hg2, rfl, r2, b2⟩; have i2 := row_ints r2; have p2 := p1.below b2; have b3 := b1.trans (b2.mono b1.size); clear p1 b1 b2 r2)
      | (go_at_call 33; refine (Peel_some m A1 c1 own gs _ (by omega) p2 HR.out).mono ?_; rintro e w3 ⟨v3, rfl, o3, b4⟩; obtain ⟨A3, c3, rfl, -, q3⟩ := own_ints o3; have i3 := i2.below b4; have p3 := p2.below b4; have b5 := b3.trans (b4.mono b3.size); clear p2 i2 b3 b4 o3)
      | (go_at_call 16; refine (Graph_yes (by omega) p3 HR.out).mono ?_; rintro e w4 ⟨rfl, b6⟩; have i4 := i3.below b6; have q4 := q3.below b6; have p4 := p3.below b6; have b7 := b5.trans (b6.mono b5.size); clear p3 i3 q3 b5 b6)
      | (go_at_call 34; refine (RefPeel_any m A1 c1 own gs _ (by omega) p4 HR.out).mono ?_; rintro e w5 ⟨v5, rfl, o5, b8⟩; obtain ⟨A5, c5, rfl, -, s5⟩ := own_ints o5; have i5 := i4.below b8; have q5 := q4.below b8; have p5 := p4.below b8; have b9 := b7.trans (b8.mono b7.size); clear p4 i4 q4 b7 b8 o5)
      | (go_at_call 35; refine (RefCores_any m A1 c1 own gs _ (by omega) p5 HR.out).mono ?_; rintro e w6 ⟨g6, rfl, hg6, r6, b10⟩; have j6 := row_ints r6; have i6 := i5.below b10; have q6 := q5.below b10; have s6 := s5.below b10; have b11 := b9.trans (b10.mono b9.size); clear p5 i5 q5 s5 b9 b10 r6)
      | (go_at_call 21; ((with_reducible refine (ints_yes (some ⟨g2, 0, none⟩) _ m m (natI (coreF m gs)) m _ HCL.out (by omega) i6 j6).mono ?_); rintro e w7 ⟨rfl, n7, rfl⟩); have q7 := q6.drewN n7; have s7 := s6.drewN n7; clear i6 j6 q6 s6)
      | (go_at_call 21; ((with_reducible refine (ints_yes A3 A5 c3 c5 (natI (ordF m gs)) _ _ (natI_len _) hol2 q7 s7).mono ?_); rintro e w8 ⟨rfl, n8, rfl⟩); have b13 := b11.trans (below_drewN (n7 + n8)); clear q7 s7)
      | (go_at_call 18; refine (awake_any _).mono ?_; rintro e w9 ⟨rfl, b14⟩))
    go_ret
    exact ⟨rfl, b13.trans (b14.mono b13.size)⟩
end Go.Proofs.Ytpaeagkgmbhndaa
