/- ClockOwn for every input. -/
import Derived.Test.YtignbpipdfjkeaaDoorCH
import Derived.Test.YtignbpipdfjkeaaDoorBP
namespace Go.Proofs.YtignbpipdfjkeaaDoor
open Go.RowKit Go.PlainAid
set_option maxHeartbeats 2000000
set_option maxRecDepth 100000
theorem wS_zero : wS [0] = ⟨#[97]⟩ := rfl
theorem tbR_same {M : List (List Int)} (h : IsMI M) : tbR M (min M.length 6) = M := by
  have hk := h.k4
  have hn := h.n9
  unfold tbR
  rw [List.take_of_length_le (by omega)]
  refine List.ext_getElem (by simp) (fun i h1 h2 => ?_)
  rw [List.getElem_map, List.take_of_length_le]
  have := h.row i h2
  unfold getl at this
  rw [List.getD_eq_getElem?_getD, List.getElem?_eq_getElem h2] at this
  have e : (M[i]).length = nS M := this
  omega
theorem outR_len (T : Tab) (k n : Nat) : ∀ c p, (outR T k n c p).length ≤ 2
  | 0, _ => by simp [outR]
  | c + 1, p => by
    unfold outR
    split
    · simp
    · exact outR_len T k n c (p + 1)
theorem clockOwn_any (A : Option Addr) (c : Nat) (L : List (List Int)) (B : Option Addr) (d : Nat) (l : List Int) (w : World) (ht : TabW w) (hx : L.length ≤ c) (hc : c ≤ maxLen) (ha : RowsIn w A L) (hl : l.length ≤ d) (hd : d ≤ maxLen) (hb : IntsAt w B l) :
    Calls Tryd.prog 15 #[.slice A L.length c, .slice B l.length d] w fun e w' => e = .returned (.bool true) ∧ Below w.heap.size w w' := by
  unfold maxLen at hd
  obtain ⟨M, h, hT⟩ := tame_anyI A c L w hx hc ha
  have hn9 := h.n9
  have hn1 := h.n1
  have hk4 := h.k4
  have hM := h.isM
  have HAW := Lib.hid (fun (V : World) (hV : Below w.heap.size w V) => awake_any V (ht.below hV ht.lt))
  obtain ⟨S, hS⟩ : ∃ S, stN l (nS M) = S := ⟨_, rfl⟩
  have iS : IsS (nS M) S := hS ▸ stN_set l (nS M)
  have s512 := set512 hn9 iS
  have oX : okW M.length [0] := fun b hb => by
    have := List.mem_singleton.1 hb
    subst this
    exact h.k1
  have gX : okB M.length ⟨#[97]⟩ = true := by rw [← wS_zero]; exact okB_wS hk4 oX (by decide)
  have iU := img_set hM iS oX
  have eX : imP (tabN M) S ⟨#[97]⟩ (⟨#[97]⟩ : ByteArray).size = img (tabN M) S [0] := by
    rw [← wS_zero]; exact imP_all (tabN M) S (fun b hb => by have := oX b hb; omega)
  have hTB : Hid (∀ V A c, RowsIn V A M → Calls Tryd.prog 16 #[.slice A M.length c] V (TabI V M)) := Lib.hid (fun V A c ha => by
    refine (table_any A c M V (by unfold maxLen; omega) ha).mono ?_
    rintro e w1 ⟨A1, c1, cs, h1, o1, R1, b1⟩
    rw [tbR_same h] at R1
    exact ⟨A1, c1, by rw [h1, Nat.min_eq_left (by omega)], rows_in R1 o1, b1⟩)
  have hl9 : (lsI S).length ≤ 9 := by rw [lsI_len]; exact sz_le S
  have HS : Hid (∀ V A c, Below w.heap.size w V → RowsAt V A M → Calls Tryd.prog 47 #[.slice A M.length c, .slice B l.length d] V (LstC V (lsI S))) := Lib.hid (fun V A c hV ha => by
    rw [← hS]; exact (states_any A B c d M l V h ha (hb.below hV) (by omega)).mono fun _ _ h => h.lstC)
  have HC : Hid (∀ V A c, IntsAt V A (lsI S) → (lsI S).length ≤ c → c ≤ maxLen → Calls Tryd.prog 31 #[.slice A (lsI S).length c] V (LstR V (lsI S))) := Lib.hid (fun V A c ha h1 h2 => by
    refine (list_copy_any A c (lsI S) V h1 h2 ha).mono ?_
    rintro e w1 ⟨v, n, rfl, o, b⟩
    rw [List.take_of_length_le (by omega)] at o
    obtain ⟨A1, c1, rfl, -, -, i⟩ := own_intsI o
    exact ⟨A1, c1, rfl, i, b⟩)
  have HA : Hid (∀ V A c, Below w.heap.size w V → RowsAt V A M → Calls Tryd.prog 19 #[.slice A M.length c] V (NewLE V (apX M) 0)) := Lib.hid (fun V A c hV ha => Apart_yes A c M V h ha (ht.below hV ht.lt))
  have HI : Hid (∀ V A c B d, Below w.heap.size w V → RowsAt V A M → IntsAt V B (lsI S) → Calls Tryd.prog 32 #[.slice A M.length c, .slice B (lsI S).length d, .string ⟨#[97]⟩] V (NewLE V (lsI (img (tabN M) S [0])) 0)) := Lib.hid (fun V A c B d hV ha hb => by
    have := Image_yes A B c d M (lsI S) ⟨#[97]⟩ V h (by omega) ha hb (okS_ls hn9 iS) gX (by decide) (ht.below hV ht.lt)
    rwa [setL_ls s512, eX] at this)
  have HSl := Lib.hid (fun V => Slow_yes 4 V (by decide) (by decide))
  have hrow : ∀ i, i < M.length → (getl M i).length ≤ 1000 := fun i hi => by rw [h.row i hi]; omega
  have HTX : Hid (∀ V A B c d, RowsAt V A M → RowsAt V B M → Calls Tryd.prog 40 #[.slice A M.length c, .slice B M.length d] V fun e w' => e = .returned (.bool true) ∧ ∃ n, w' = V.drewN n) := Lib.hid (fun V A B c d ha hb => by
    have := tables_any A B c d M M V (by omega) hrow hrow ha hb
    rwa [decide_eq_true rfl] at this)
  have HTS : Hid (∀ V A B c d, RowsAt V A (slN 4) → RowsAt V B (slN 4) → Calls Tryd.prog 40 #[.slice A 2 c, .slice B 2 d] V fun e w' => e = .returned (.bool true) ∧ ∃ n, w' = V.drewN n) := Lib.hid (fun V A B c d ha hb => by
    have := tables_any A B c d (slN 4) (slN 4) V (by show 2 ≤ 100; omega) (fun i hi => slN_row (by decide) (by decide) hi) (fun i hi => slN_row (by decide) (by decide) hi) ha hb
    rwa [decide_eq_true rfl] at this)
  have HIN : ∀ {Z : List Int}, Z.length ≤ 9 → Hid (∀ V A B c d, IntsAt V A Z → IntsAt V B Z → Calls Tryd.prog 25 #[.slice A Z.length c, .slice B Z.length d] V fun e w' => e = .returned (.bool true) ∧ ∃ n, w' = V.drewN n) := fun {Z} hz => Lib.hid (fun V A B c d ha hb => by
    have := ints_any A B c d Z Z V (by omega) (by omega) ha hb
    rwa [decide_eq_true rfl] at this)
  have HRS := Lib.hid (fun V => refSlow_any 4 V (by decide) (by decide))
  have HNu : Hid (∀ V B d, IntsAt V B (lsI S) → Calls Tryd.prog 36 #[.slice B (lsI S).length d] V fun e w' => e = .returned (.int .i64 (S : Nat)) ∧ Below V.heap.size V w') := Lib.hid (fun V B d hb => by
    have := refNumber_any (nS M) B d (lsI S) V hn9 (okS_ls hn9 iS) hb (by omega)
    rw [setL_ls s512] at this
    exact this.mono fun _ _ h => ⟨h.1, h.2 ▸ Below.refl _ _⟩)
  have HRI : Hid (∀ V A c, RowsAt V A M → Calls Tryd.prog 35 #[.slice A M.length c, .int .i64 (S : Nat), .string ⟨#[97]⟩] V fun e w' => e = .returned (.int .i64 (img (tabN M) S [0] : Nat)) ∧ Below V.heap.size V w') := Lib.hid (fun V A c ha => by
    have := refImage_any A c M S ⟨#[97]⟩ V h ha iS gX
    rwa [eX] at this)
  have HRL := Lib.hid (fun V => (refList_any (img (tabN M) S [0]) V (set512 hn9 iU)).mono fun _ _ h => h.lst)
  have hU9 : (lsI (img (tabN M) S [0])).length ≤ 9 := by rw [lsI_len]; exact sz_le _
  exact cow_walk A B L.length c l.length d (img (tabN M) S [0]) S w M (slN 4) (lsI S) (apX M) (lsI (img (tabN M) S [0])) rfl hl9 (by have := outR_len (tabN M) M.length (nS M) (nS M) 0; unfold apX; omega) (by omega) (Lib.hid (hT w (Below.refl _ w))) hTB HS HC HA HI HSl rfl HTX HTS (HIN hl9) (HIN hU9) HRS HNu HRI HRL HAW
end Go.Proofs.YtignbpipdfjkeaaDoor
