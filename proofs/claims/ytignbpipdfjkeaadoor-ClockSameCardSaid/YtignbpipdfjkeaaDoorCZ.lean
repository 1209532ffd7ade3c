/- The reference's renamed and Same. -/
import Derived.Test.YtignbpipdfjkeaaDoorCW
import Derived.Test.YtignbpipdfjkeaaDoorAU
import Derived.Test.YtignbpipdfjkeaaDoorBF
import Derived.PlainAid
import Derived.Deep.RegionHeldLaw
import Derived.Stop.Joined
import Derived.Deep.Matrix
import Derived.Laws.AppendOwnNone
namespace Go.Proofs.YtignbpipdfjkeaaDoor
open Go.RowKit Go.PlainAid
set_option maxHeartbeats 4000000
set_option maxRecDepth 100000
def okP (T U : Tab) (l : List Nat) (b q : Nat) : Bool := !decide (ld T b q < l.length) || (getn l (ld T b q) == ld U b (getn l q))
def okN (T U : Tab) (k : Nat) (l : List Nat) : Bool := (List.range k).all fun b => (List.range l.length).all (okP T U l b)
def rn (T U : Tab) (k n : Nat) : Nat → List Nat → Bool
  | 0, _ => false
  | f + 1, l => if okN T U k l = true then (if l.length = n then true else (List.range n).any fun x => !l.contains x && rn T U k n f (l ++ [x])) else false
variable {T U : Tab} {k n : Nat}
theorem getn_app {l : List Nat} {x i : Nat} : getn (l ++ [x]) i = if i < l.length then getn l i else if i = l.length then x else 0 := by
  unfold getn
  rw [List.getD_eq_getElem?_getD, List.getD_eq_getElem?_getD]
  by_cases h : i < l.length
  · rw [if_pos h, List.getElem?_append_left h]
  · rw [if_neg h, List.getElem?_append_right (by omega)]
    by_cases e : i = l.length
    · rw [if_pos e, e]; simp
    · rw [if_neg e, List.getElem?_eq_none (by simp; omega)]; rfl
theorem rn_iff (hT : ∀ b q, b < k → q < n → ld T b q < n) : ∀ (f : Nat) (l : List Nat), (∀ i j, i < l.length → j < l.length → getn l i = getn l j → i = j) → (∀ i, i < l.length → getn l i < n) → l.length ≤ n → n < f + l.length →
    (rn T U k n f l = true ↔ ∃ φ, Iso T U k n φ ∧ ∀ i, i < l.length → getn l i = φ i)
  | 0, _, _, _, _, h => by omega
  | f + 1, l, hI, hL, hn, hf => by
    unfold rn
    by_cases hok : okN T U k l = true
    · rw [if_pos hok]
      have hok2 : ∀ b q, b < k → q < l.length → okP T U l b q = true := fun b q hb hq => List.all_eq_true.1 (List.all_eq_true.1 hok b (List.mem_range.2 hb)) q (List.mem_range.2 hq)
      by_cases hln : l.length = n
      · rw [if_pos hln]
        refine ⟨fun _ => ⟨getn l, ⟨fun q hq => hL q (by omega), fun p q hp hq e => hI p q (by omega) (by omega) e, fun b q hb hq => ?_⟩, fun i _ => rfl⟩, fun _ => rfl⟩
        have := hok2 b q hb (by omega)
        unfold okP at this
        rw [decide_eq_true (by have := hT b q hb hq; omega), Bool.not_true, Bool.false_or, beq_iff_eq] at this
        exact this
      · rw [if_neg hln, List.any_eq_true]
        have step : ∀ x, x < n → l.contains x = false → (rn T U k n f (l ++ [x]) = true ↔ ∃ φ, Iso T U k n φ ∧ ∀ i, i < (l ++ [x]).length → getn (l ++ [x]) i = φ i) := fun x hx hc => by
          have hc2 : ∀ i, i < l.length → getn l i ≠ x := fun i hi e => by
            have : x ∈ l := by rw [← e]; unfold getn; rw [List.getD_eq_getElem?_getD, List.getElem?_eq_getElem hi]; exact List.getElem_mem hi
            rw [List.contains_iff_mem.2 this] at hc; cases hc
          have hl1 : (l ++ [x]).length = l.length + 1 := by simp
          refine rn_iff hT f (l ++ [x]) (fun i j hi hj e => ?_) (fun i hi => ?_) (by omega) (by omega)
          · rw [hl1] at hi hj
            rw [getn_app, getn_app] at e
            by_cases h1 : i < l.length
            · by_cases h2 : j < l.length
              · rw [if_pos h1, if_pos h2] at e; exact hI i j h1 h2 e
              · rw [if_pos h1, if_neg h2, if_pos (by omega)] at e; exact absurd e (hc2 i h1)
            · by_cases h2 : j < l.length
              · rw [if_neg h1, if_pos (by omega), if_pos h2] at e; exact absurd e.symm (hc2 j h2)
              · omega
          · rw [hl1] at hi
            rw [getn_app]
            by_cases h1 : i < l.length
            · rw [if_pos h1]; exact hL i h1
            · rw [if_neg h1, if_pos (by omega)]; exact hx
        constructor
        · rintro ⟨x, hx, e⟩
          rw [Bool.and_eq_true, Bool.not_eq_true'] at e
          obtain ⟨φ, h1, h2⟩ := (step x (List.mem_range.1 hx) e.1).1 e.2
          refine ⟨φ, h1, fun i hi => ?_⟩
          have := h2 i (by simp; omega)
          rw [getn_app, if_pos hi] at this
          exact this
        · rintro ⟨φ, h1, h2⟩
          have hx := h1.lt l.length (by omega)
          have hc : l.contains (φ l.length) = false := by
            rw [Bool.eq_false_iff]
            intro hc
            obtain ⟨i, hi, e⟩ := List.getElem_of_mem (List.contains_iff_mem.1 hc)
            have h3 := h2 i hi
            unfold getn at h3
            rw [List.getD_eq_getElem?_getD, List.getElem?_eq_getElem hi] at h3
            have h4 : φ i = φ l.length := by rw [← h3]; exact e
            have := h1.inj i l.length (by omega) (by omega) h4
            omega
          refine ⟨φ l.length, List.mem_range.2 hx, ?_⟩
          rw [hc, Bool.not_false, Bool.true_and]
          refine (step _ hx hc).2 ⟨φ, h1, fun i hi => ?_⟩
          rw [getn_app]
          by_cases h3 : i < l.length
          · rw [if_pos h3]; exact h2 i h3
          · have e : i = l.length := by simp at hi; omega
            rw [if_neg h3, if_pos e, e]
    · rw [if_neg hok]
      refine ⟨fun h => (by cases h), fun ⟨φ, h1, h2⟩ => absurd ?_ hok⟩
      unfold okN
      rw [List.all_eq_true]
      intro b hb
      rw [List.all_eq_true]
      intro q hq
      have hb := List.mem_range.1 hb
      have hq := List.mem_range.1 hq
      unfold okP
      by_cases h3 : ld T b q < l.length
      · rw [decide_eq_true h3, Bool.not_true, Bool.false_or, beq_iff_eq, h2 _ h3, h2 q hq, h1.com b q hb (by omega)]
      · rw [decide_eq_false h3]; rfl
/-- Both say whether there is a renaming. -/
theorem cc_rn (hn : n ≤ 9) (hT : ∀ b q, b < k → q < n → ld T b q < n) (hU : ∀ b q, b < k → q < n → ld U b q < n) : cc T U k n 10 zeroR = rn T U k n 10 [] := by
  rw [Bool.eq_iff_iff, cc_iff hn hT hU 10 zeroR (good_zero n) (fun q _ h => by unfold hasR zeroR at h; simp at h) (by have := unn_n n zeroR; omega), rn_iff hT 10 [] (fun i j hi => absurd hi (by simp)) (fun i hi => absurd hi (by simp)) (by simp) (by simp; omega)]
  constructor
  · rintro ⟨φ, h1, -⟩; exact ⟨φ, h1, fun i hi => absurd hi (by simp)⟩
  · rintro ⟨φ, h1, -⟩; exact ⟨φ, h1, fun q _ h => by unfold hasR zeroR at h; simp at h⟩
theorem IntsAt.cellN {V : World} {C : Option Addr} {l : List Nat} (h : IntsAt V C (natI l)) (hp : 0 < l.length) : ∃ b o, C = some ⟨b, o, none⟩ ∧ b < V.heap.size ∧ ∀ i, i < l.length → V.cell? ⟨b, o + i, none⟩ = some (.int .i64 (getn l i : Nat)) := by
  obtain ⟨b, o, e, hb, hc⟩ := h (by rw [natI_len]; exact hp)
  exact ⟨b, o, e, hb, fun i hi => by rw [hc i (by rw [natI_len]; exact hi), geti_natI]⟩
theorem con_range (l : List Nat) (x : Nat) : ((List.range l.length).any fun j => getn l j == x) = l.contains x := by
  rw [Bool.eq_iff_iff, List.any_eq_true, List.contains_iff_mem]
  constructor
  · rintro ⟨j, hj, e⟩
    have hj := List.mem_range.1 hj
    rw [beq_iff_eq] at e
    rw [← e]
    unfold getn
    rw [List.getD_eq_getElem?_getD, List.getElem?_eq_getElem hj]
    exact List.getElem_mem hj
  · intro h
    obtain ⟨j, hj, e⟩ := List.getElem_of_mem h
    refine ⟨j, List.mem_range.2 hj, ?_⟩
    rw [beq_iff_eq]
    unfold getn
    rw [List.getD_eq_getElem?_getD, List.getElem?_eq_getElem hj]
    exact e
theorem natI_snoc (l : List Nat) (x : Nat) : natI (l ++ [x]) = natI l ++ [(x : Int)] := by simp [natI]
theorem renamed_any (L O : List (List Int)) (A B : Option Addr) (c d k n : Nat) (hL : IsMI L) (hO : IsMI O) (hk : L.length = k) (hk' : O.length = k) (hn : nS L = n) (hn' : nS O = n) : ∀ (f : Nat) (l : List Nat) (C : Option Addr) (cc : Nat) (w : World), RowsAt w A L → RowsAt w B O → IntsAt w C (natI l) → (l.length = 0 → C = none ∧ cc = 0) → l.length ≤ cc →
    (∀ i, i < l.length → getn l i < n) → l.length ≤ n → n < f + l.length →
    Calls Tryd.prog 69 #[.slice A k c, .slice B k d, .slice C l.length cc] w fun e w' => e = .returned (.bool (rn (tabN L) (tabN O) k n f l)) ∧ Below w.heap.size w w'
  | 0, _, _, _, _, _, _, _, _, _, _, _, h => by omega
  | f + 1, l, C, cc, w, hA, hB, hC, hC0, hcc, hl, hln, hf => by
    obtain ⟨j0, ji, jz0, jz1, jz2⟩ := info_parts info3
    have hn9 : n ≤ 9 := by have := hL.n9; omega
    have hk1 : 1 ≤ k := by have := hL.k1; omega
    have hk4 : k ≤ 4 := by have := hL.k4; omega
    have ih := Lib.hid (renamed_any L O A B c d k n hL hO hk hk' hn hn' f)
    have HA := Lib.hid (fun V (hV : Below w.heap.size w V) => hA.below hV)
    have HB := Lib.hid (fun V (hV : Below w.heap.size w V) => hB.below hV)
    have HC := Lib.hid (fun V (hV : Below w.heap.size w V) => hC.below hV)
    obtain ⟨bA, oA, rfl, hbA, hcA⟩ := hA (by omega)
    obtain ⟨bB, oB, rfl, hbB, hcB⟩ := hB (by omega)
    rw [hk] at hcA
    rw [hk'] at hcB
    -- a number of the first machine, by its cells
    have CA : Hid (∀ b, b < k → ∃ Bp cb, (∀ V, Below w.heap.size w V → V.cell? ⟨bA, oA + b, none⟩ = some (.slice (some Bp) n cb)) ∧ ∃ x y, Bp = ⟨x, y, none⟩ ∧ ∀ V q, Below w.heap.size w V → q < n → V.cell? ⟨x, y + q, none⟩ = some (.int .i64 (ld (tabN L) b q : Nat))) := Lib.hid (fun b hb => by
      obtain ⟨Bp, cb, h1, h2⟩ := hcA b hb
      have hr := hL.row b (by omega)
      obtain ⟨x, y, rfl, h3, h4⟩ := h2 (by have := hL.n1; omega)
      refine ⟨⟨x, y, none⟩, cb, fun V hV => ?_, x, y, rfl, fun V q hV hq => ?_⟩
      · rw [(hV.cell (p := ⟨bA, _, none⟩) hbA).trans h1, hr, hn]
      · rw [(hV.cell (p := ⟨x, _, none⟩) h3).trans (h4 q (by omega)), show geti (getl L b) q = gat L b q from rfl, (hL.ld b q).1])
    have CB : Hid (∀ b, b < k → ∃ Bp cb, (∀ V, Below w.heap.size w V → V.cell? ⟨bB, oB + b, none⟩ = some (.slice (some Bp) n cb)) ∧ ∃ x y, Bp = ⟨x, y, none⟩ ∧ ∀ V q, Below w.heap.size w V → q < n → V.cell? ⟨x, y + q, none⟩ = some (.int .i64 (ld (tabN O) b q : Nat))) := Lib.hid (fun b hb => by
      obtain ⟨Bp, cb, h1, h2⟩ := hcB b hb
      have hr := hO.row b (by omega)
      obtain ⟨x, y, rfl, h3, h4⟩ := h2 (by have := hO.n1; omega)
      refine ⟨⟨x, y, none⟩, cb, fun V hV => ?_, x, y, rfl, fun V q hV hq => ?_⟩
      · rw [(hV.cell (p := ⟨bB, _, none⟩) hbB).trans h1, hr, hn']
      · rw [(hV.cell (p := ⟨x, _, none⟩) h3).trans (h4 q (by omega)), show geti (getl O b) q = gat O b q from rfl, (hO.ld b q).1])
    have HTn := Lib.hid (fun b q (hb : b < k) (hq : q < n) => (show ld (tabN L) b q < n from hn ▸ hL.isM.lt b q (by omega) (by omega)))
    have HUn := Lib.hid (fun b q (hb : b < k) (hq : q < n) => (show ld (tabN O) b q < n from hn' ▸ hO.isM.lt b q (by omega) (by omega)))
    have HRN : Hid (rn (tabN L) (tabN O) k n (f + 1) l = if okN (tabN L) (tabN O) k l = true then (if l.length = n then true else (List.range n).any fun x => !l.contains x && rn (tabN L) (tabN O) k n f (l ++ [x])) else false) := Lib.hid rfl
    obtain ⟨R, hR⟩ : ∃ R, rn (tabN L) (tabN O) k n (f + 1) l = R := ⟨_, rfl⟩
    have HRE := Lib.hid hR
    rw [hR] at HRN
    have HNL := Lib.hid hl
    have HCC0 := Lib.hid hC0
    have b0 := Below.refl w.heap.size w
    have HOK0 : Hid (∀ b q, b < 0 → q < l.length → okP (tabN L) (tabN O) l b q = true) := Lib.hid (fun b q h => absurd h (by omega))
    clear hA hB hC hC0 hcA hcB hL hO hk hk' hn hn' hl hR
    generalize tabN L = T at *
    generalize tabN O = U at *
    obtain ⟨N, hN⟩ : ∃ N, l.length = N := ⟨_, rfl⟩
    have HN := Lib.hid hN
    rw [hN] at hcc hln hf HOK0 HNL ⊢
    clear hN
    obtain ⟨Bp0, cb0, ha0, -⟩ := CA.out 0 (by omega)
    have d0 := ha0 w b0
    rw [Nat.add_zero] at d0
    clear ha0
    go_enter Tryd.func69, Tryd.ntmps69
    go_wp2
    clear d0
    go_loopw [8] (fun v wr => ∃ b : Nat, v = .int .i64 b ∧ b ≤ k ∧ Below w.heap.size w wr ∧ Hid (∀ b' q, b' < b → q < N → okP T U l b' q = true)) (fun v _ => k - (intOf v).toNat)
    case atStart => exact ⟨0, rfl, by omega, b0, HOK0⟩
    case round =>
      clear b0 HOK0
      obtain ⟨b, rfl, hb, b0, HOK⟩ := hrel
      by_cases hbk : b < k
      · have g1 : decide (b < k) = true := decide_eq_true hbk
        have g1' : decide ((b : Int) < (k : Int)) = true := decide_eq_true (by omega)
        have HQ0 : Hid (∀ q, q < 0 → okP T U l b q = true) := Lib.hid (fun q h => absurd h (by omega))
        go_wp2
        go_loopw [9] (fun v wr => ∃ q : Nat, v = .int .i64 q ∧ q ≤ N ∧ Below w.heap.size w wr ∧ Hid (∀ q', q' < q → okP T U l b q' = true)) (fun v _ => N - (intOf v).toNat)
        case atStart => exact ⟨0, rfl, by omega, b0, HQ0⟩
        case round =>
          clear b0 HQ0
          obtain ⟨q, rfl, hq, b0, HQ⟩ := hrel
          by_cases hqN : q < N
          · have g2 : decide (q < N) = true := decide_eq_true hqN
            have g2' : decide ((q : Int) < (N : Int)) = true := decide_eq_true (by omega)
            have HOP := Lib.hid (show okP T U l b q = (!decide (ld T b q < l.length) || (getn l (ld T b q) == ld U b (getn l q))) from rfl)
            rw [HN.out] at HOP
            obtain ⟨Bp, cb, ha1, xp, yp, rfl, ha2⟩ := CA.out b hbk
            obtain ⟨Bq, cb2, hb1, xq, yq, rfl, hb2⟩ := CB.out b hbk
            have x1 := ha1 wr b0
            have x2 := ha2 wr q b0 (by omega)
            have htn := HTn.out b q hbk (by omega)
            obtain ⟨t, ht⟩ : ∃ t, ld T b q = t := ⟨_, rfl⟩
            rw [ht] at HOP x2 htn
            clear ht
            by_cases htN : t < N
            · have g3 : decide (t < N) = true := decide_eq_true htN
              have g3' : decide ((t : Int) < (N : Int)) = true := decide_eq_true (by omega)
              obtain ⟨bC, oC, hCe, -, hcC⟩ := IntsAt.cellN (HC.out wr b0) (by have := HN.out; omega)
              subst hCe
              have hpn := HNL.out q (by omega)
              have hsn := HNL.out t (by omega)
              have x3 := hcC t (by have := HN.out; omega)
              have x4 := hcC q (by have := HN.out; omega)
              have x5 := hb1 wr b0
              have x6 := hb2 wr (getn l q) b0 hpn
              rw [g3, Bool.not_true, Bool.false_or] at HOP
              clear ha1 ha2 hb1 hb2 hcC
              generalize getn l q = p at *
              generalize getn l t = s at *
              generalize ld U b p = u at *
              by_cases hsu : s = u
              · have g4 : ((s : Int) != (u : Int)) = false := by rw [bne_eq_false_iff_eq]; omega
                have hop : okP T U l b q = true := by rw [HOP.out, beq_iff_eq]; exact hsu
                have HQ2 : Hid (∀ q', q' < q + 1 → okP T U l b q' = true) := Lib.hid (fun q' h => by
                  by_cases e : q' = q
                  · rw [e]; exact hop
                  · exact HQ.out q' (by omega))
                clear HOP HQ HOK hop hsu
                go_wp2
                refine wp_region_quiet_lit (by kernel_rfl) (by kernel_rfl) ?_
                repeat go_big_quiet_step ((fail))
                refine wpQuiet_nil ?_
                rintro _ ⟨nq, rfl⟩
                replace b0 := b0.trans (below_drewN nq)
                clear x1 x2 x3 x4 x5 x6
                generalize World.drewN wr nq = W at *
                go_wp2
                go_roundw
                case rel => exact ⟨q + 1, by go_num, by omega, b0, HQ2⟩
                case measure => simp [intOf]; omega
              · have g4 : ((s : Int) != (u : Int)) = true := by rw [bne_iff_ne]; omega
                have hop : okP T U l b q = false := by rw [HOP.out, beq_eq_false_iff_ne]; exact hsu
                have hbad : ¬ okN T U k l = true := fun h => by
                  have := List.all_eq_true.1 (List.all_eq_true.1 h b (List.mem_range.2 hbk)) q (List.mem_range.2 (by have := HN.out; omega))
                  rw [hop] at this; cases this
                rw [if_neg hbad] at HRN
                clear HOP HQ HOK hop hsu hbad
                go_wp2
                refine wp_region_quiet_lit (by kernel_rfl) (by kernel_rfl) ?_
                repeat go_big_quiet_step ((fail))
                refine wpQuiet_nil ?_
                rintro _ ⟨nq, rfl⟩
                replace b0 := b0.trans (below_drewN nq)
                clear x1 x2 x3 x4 x5 x6
                generalize World.drewN wr nq = W at *
                go_wp2
                go_ret
                exact ⟨by rw [HRE.out, HRN.out]; rfl, b0⟩
            · have g3 : decide (t < N) = false := decide_eq_false htN
              have g3' : decide ((t : Int) < (N : Int)) = false := decide_eq_false (by omega)
              have hop : okP T U l b q = true := by rw [HOP.out, g3]; rfl
              have HQ2 : Hid (∀ q', q' < q + 1 → okP T U l b q' = true) := Lib.hid (fun q' h => by
                by_cases e : q' = q
                · rw [e]; exact hop
                · exact HQ.out q' (by omega))
              clear ha1 ha2 hb1 hb2 HOP HQ HOK hop
              go_wp2
              refine wp_region_quiet_lit (by kernel_rfl) (by kernel_rfl) ?_
              repeat go_big_quiet_step ((fail))
              refine wpQuiet_nil ?_
              rintro _ ⟨nq, rfl⟩
              replace b0 := b0.trans (below_drewN nq)
              clear x1 x2
              generalize World.drewN wr nq = W at *
              go_wp2
              go_roundw
              case rel => exact ⟨q + 1, by go_num, by omega, b0, HQ2⟩
              case measure => simp [intOf]; omega
          · obtain rfl : q = N := by omega
            have g2 : decide (q < q) = false := decide_eq_false (by omega)
            have g2' : decide ((q : Int) < (q : Int)) = false := decide_eq_false (by omega)
            have HOK2 : Hid (∀ b' q', b' < b + 1 → q' < q → okP T U l b' q' = true) := Lib.hid (fun b' q' h1 h2 => by
              by_cases e : b' = b
              · rw [e]; exact HQ.out q' h2
              · exact HOK.out b' q' (by omega) h2)
            clear HQ HOK
            go_wp2
            go_roundw
            case rel => exact ⟨b + 1, by go_num, by omega, b0, HOK2⟩
            case measure => simp [intOf]; omega
      · obtain rfl : b = k := by omega
        have g1 : decide (b < b) = false := decide_eq_false (by omega)
        have g1' : decide ((b : Int) < (b : Int)) = false := decide_eq_false (by omega)
        have hok : okN T U b l = true := by
          unfold okN
          rw [List.all_eq_true]
          intro b' hb'
          rw [List.all_eq_true]
          intro q hq
          exact HOK.out b' q (List.mem_range.1 hb') (by have := List.mem_range.1 hq; have := HN.out; omega)
        rw [if_pos hok] at HRN
        clear hok HOK CA CB HTn HUn
        rw [HN.out] at HRN
        by_cases hNn : N = n
        · have g2 : ((N : Int) == (n : Int)) = true := by rw [beq_iff_eq]; omega
          rw [if_pos hNn] at HRN
          clear hNn ih
          go_wp2
          go_ret
          exact ⟨by rw [HRE.out, HRN.out]; rfl, b0⟩
        · have g2 : ((N : Int) == (n : Int)) = false := by rw [beq_eq_false_iff_ne]; omega
          rw [if_neg hNn] at HRN
          have hNn2 : N < n := by omega
          clear hNn
          obtain ⟨g, hg⟩ : ∃ g : Nat → Bool, g = fun x => !l.contains x && rn T U b n f (l ++ [x]) := ⟨_, rfl⟩
          have HG := Lib.hid (fun x => congrFun hg x)
          rw [← hg] at HRN
          clear hg
          go_wp2
          have HN0 : Hid (∀ j, j < 0 → g j = false) := Lib.hid (fun j hj => absurd hj (by omega))
          go_loopw [11] (fun v wr => ∃ x : Nat, v = .int .i64 x ∧ x ≤ n ∧ Below w.heap.size w wr ∧ Hid (∀ j, j < x → g j = false)) (fun v _ => n - (intOf v).toNat)
          case atStart => exact ⟨0, rfl, by omega, b0, HN0⟩
          case round =>
            clear b0 HN0
            obtain ⟨x, rfl, hx, b0, HX⟩ := hrel
            by_cases hxn : x < n
            · have g3 : decide (x < n) = true := decide_eq_true hxn
              have g3' : decide ((x : Int) < (n : Int)) = true := decide_eq_true (by omega)
              have HD0 : Hid (false = (List.range 0).any fun j => getn l j == x) := Lib.hid rfl
              go_wp2
              go_loopw [12, 13] (fun v u wr => ∃ (d : Bool) (i : Nat), v = .bool d ∧ u = .int .i64 i ∧ i ≤ N ∧ Below w.heap.size w wr ∧ Hid (d = (List.range i).any fun j => getn l j == x)) (fun _ u _ => N - (intOf u).toNat)
              case atStart => exact ⟨false, 0, rfl, rfl, by omega, b0, HD0⟩
              case round =>
                clear b0 HD0
                obtain ⟨d, i, rfl, rfl, hi, b0, HD⟩ := hrel
                by_cases hiN : i < N
                · have g4 : decide (i < N) = true := decide_eq_true hiN
                  have g4' : decide ((i : Int) < (N : Int)) = true := decide_eq_true (by omega)
                  have HD2 : Hid ((d || (getn l i == x)) = (List.range (i + 1)).any fun j => getn l j == x) := Lib.hid (by rw [List.range_succ, List.any_append, ← HD.out]; simp)
                  clear HD
                  cases d with
                  | true =>
                    rw [Bool.true_or] at HD2
                    go_wp2
                    go_roundw
                    case rel => exact ⟨true, i + 1, rfl, by go_num, by omega, b0, HD2⟩
                    case measure => simp [intOf]; omega
                  | false =>
                    rw [Bool.false_or] at HD2
                    obtain ⟨bC, oC, hCe, -, hcC⟩ := IntsAt.cellN (HC.out wr b0) (by have := HN.out; omega)
                    subst hCe
                    have x3 := hcC i (by have := HN.out; omega)
                    have g5 : ((getn l i : Int) == (x : Int)) = (getn l i == x) := by rw [Bool.eq_iff_iff, beq_iff_eq, beq_iff_eq]; omega
                    clear hcC
                    generalize (getn l i == x) = y at *
                    go_wp2
                    go_roundw
                    case rel => exact ⟨y, i + 1, rfl, by go_num, by omega, b0, HD2⟩
                    case measure => simp [intOf]; omega
                · obtain rfl : i = N := by omega
                  have g4 : decide (i < i) = false := decide_eq_false (by omega)
                  have g4' : decide ((i : Int) < (i : Int)) = false := decide_eq_false (by omega)
                  have hdd : d = l.contains x := by rw [HD.out, ← con_range, HN.out]
                  have HGx := Lib.hid (HG.out x)
                  rw [← hdd] at HGx
                  have IH := Lib.hid (fun A c V hV hA hc => ih.out (l ++ [x]) A c V (HA.out V hV) (HB.out V hV) hA (fun h => absurd h (by simp)) hc (fun j hj => by
                    rw [getn_app]
                    by_cases h : j < l.length
                    · rw [if_pos h]; exact HNL.out j (by have := HN.out; omega)
                    · rw [if_neg h, if_pos (by simp at hj; omega)]; exact hxn) (by have := HN.out; simp; omega) (by have := HN.out; simp; omega))
                  have hlx : (l ++ [x]).length = i + 1 := by have := HN.out; simp; omega
                  rw [hlx] at IH
                  clear hdd HD HG
                  cases d with
                  | true =>
                    have hgx : g x = false := HGx.out
                    have HX2 : Hid (∀ j, j < x + 1 → g j = false) := Lib.hid (fun j hj => by
                      by_cases e : j = x
                      · rw [e]; exact hgx
                      · exact HX.out j (by omega))
                    clear HGx HX hgx
                    go_wp2
                    go_roundw
                    case rel => exact ⟨x + 1, by go_num, by omega, b0, HX2⟩
                    case measure => simp [intOf]; omega
                  | false =>
                    rw [Bool.not_false, Bool.true_and] at HGx
                    rcases Nat.eq_zero_or_pos i with h0 | h0
                    · obtain ⟨rfl, rfl⟩ := HCC0.out (by rw [HN.out]; exact h0)
                      obtain rfl : l = [] := List.eq_nil_of_length_eq_zero (by rw [HN.out]; exact h0)
                      have H0 := Lib.hid h0
                      clear h0
                      cases hgx : g x with
                      | true =>
                        have hend : (List.range n).any g = true := List.any_eq_true.2 ⟨x, List.mem_range.2 hxn, hgx⟩
                        rw [hend] at HRN
                        rw [hgx] at HGx
                        clear hend hgx HX
                        have hnr : Row (wr.alloc (.cells #[.int .i64 (x : Int)] 3)) wr.heap.size 3 [.int .i64 (x : Int)] := row_new rfl
                        have o1 : wr.ownsRow w.heap.size 3 1 (.slice none 0 0) 0 (iv (natI [])) := ⟨by simp [natI, iv], .inl ⟨rfl, rfl⟩⟩
                        have hbs := b0.size
                        go_wp2_with (first
                          | ((with_reducible refine (?_ : wpList _ _ _ (Oper.mk (some 86) _ _ _ _ _ :: _) _ _)); refine wpList_append_own_none rfl (.tmp 84) (.tmp 85) 29 rfl w.heap.size 3 j0 1 Tryd.underlying29 ji (.slice none 0 0) 0 [] rfl ⟨by simp, .inl ⟨rfl, rfl⟩⟩ (by show Value.slice none i 0 = Value.slice none 0 0; rw [H0.out]) ?_)
                          | ((with_reducible refine (?_ : wpList _ _ _ (Oper.mk (some 92) _ _ _ _ _ :: _) _ _)); refine wpList_append_own_at _ rfl _ _ 29 rfl w.heap.size 3 j0 (.int .i64 0) 1 8 Tryd.underlying29 ji jz0 jz1 jz2 rfl (by decide) _ _ _ rfl (o1.alloc _) ⟨wr.heap.size, 0, none⟩ 1 1 [.int .i64 (x : Int)] rfl rfl (news_one hnr) (by simp [Value.oneCell']) (by unfold maxLen; omega) (by omega) (by simp; omega) ?_; intro v2 w2 o2 hg2 _ _; have b2 := b0.trans (app1' o1 hbs hg2); rw [← iv_snoc, ← natI_snoc] at o2; obtain ⟨A2, c2, hv2, -, hc2, hI2⟩ := own_intsI o2; rw [natI_len, hlx] at hv2 hc2; subst hv2)
                          | (go_at_call 69; (with_reducible refine (IH.out A2 c2 w2 b2 hI2 (by omega)).mono ?_); rintro e w3 ⟨rfl, b3⟩; rw [← HGx.out]; replace b3 := b2.trans (b3.mono b2.size)))
                        go_ret
                        exact ⟨by rw [HRE.out, HRN.out]; rfl, b3⟩
                      | false =>
                        have HX2 : Hid (∀ j, j < x + 1 → g j = false) := Lib.hid (fun j hj => by
                          by_cases e : j = x
                          · rw [e]; exact hgx
                          · exact HX.out j (by omega))
                        rw [hgx] at HGx
                        clear hgx HX
                        have hnr : Row (wr.alloc (.cells #[.int .i64 (x : Int)] 3)) wr.heap.size 3 [.int .i64 (x : Int)] := row_new rfl
                        have o1 : wr.ownsRow w.heap.size 3 1 (.slice none 0 0) 0 (iv (natI [])) := ⟨by simp [natI, iv], .inl ⟨rfl, rfl⟩⟩
                        have hbs := b0.size
                        go_wp2_with (first
                          | ((with_reducible refine (?_ : wpList _ _ _ (Oper.mk (some 86) _ _ _ _ _ :: _) _ _)); refine wpList_append_own_none rfl (.tmp 84) (.tmp 85) 29 rfl w.heap.size 3 j0 1 Tryd.underlying29 ji (.slice none 0 0) 0 [] rfl ⟨by simp, .inl ⟨rfl, rfl⟩⟩ (by show Value.slice none i 0 = Value.slice none 0 0; rw [H0.out]) ?_)
                          | ((with_reducible refine (?_ : wpList _ _ _ (Oper.mk (some 92) _ _ _ _ _ :: _) _ _)); refine wpList_append_own_at _ rfl _ _ 29 rfl w.heap.size 3 j0 (.int .i64 0) 1 8 Tryd.underlying29 ji jz0 jz1 jz2 rfl (by decide) _ _ _ rfl (o1.alloc _) ⟨wr.heap.size, 0, none⟩ 1 1 [.int .i64 (x : Int)] rfl rfl (news_one hnr) (by simp [Value.oneCell']) (by unfold maxLen; omega) (by omega) (by simp; omega) ?_; intro v2 w2 o2 hg2 _ _; have b2 := b0.trans (app1' o1 hbs hg2); rw [← iv_snoc, ← natI_snoc] at o2; obtain ⟨A2, c2, hv2, -, hc2, hI2⟩ := own_intsI o2; rw [natI_len, hlx] at hv2 hc2; subst hv2)
                          | (go_at_call 69; (with_reducible refine (IH.out A2 c2 w2 b2 hI2 (by omega)).mono ?_); rintro e w3 ⟨rfl, b3⟩; rw [← HGx.out]; replace b3 := b2.trans (b3.mono b2.size)))
                        go_roundw
                        case rel => exact ⟨x + 1, by go_num, by omega, b3, HX2⟩
                        case measure => simp [intOf]; omega
                    · obtain ⟨bC, oC, hCe, -, -⟩ := IntsAt.cellN (HC.out wr b0) (by have := HN.out; omega)
                      subst hCe
                      cases hgx : g x with
                      | true =>
                        have hend : (List.range n).any g = true := List.any_eq_true.2 ⟨x, List.mem_range.2 hxn, hgx⟩
                        rw [hend] at HRN
                        rw [hgx] at HGx
                        clear hend hgx HX
                        have hnew : ∀ j u, (iv (natI l))[j]? = some u → wr.cell? ((⟨bC, oC, none⟩ : Addr).add j) = some u := by
                          have := (HC.out wr b0).news i
                          rwa [List.take_of_length_le (by rw [natI_len, HN.out]; exact Nat.le_refl _)] at this
                        have hone := iv_one (natI l)
                        have hbs := b0.size
                        go_wp2_with (first
                          | ((with_reducible refine (?_ : wpList _ _ _ (Oper.mk (some 86) _ _ _ _ _ :: _) _ _)); refine wpList_append_own_at _ rfl (.tmp 84) (.tmp 85) 29 rfl w.heap.size 3 j0 _ 1 8 Tryd.underlying29 ji jz0 jz1 jz2 rfl (by omega) (.slice none 0 0) 0 [] rfl ⟨by simp, .inl ⟨rfl, rfl⟩⟩ ⟨bC, oC, none⟩ i cc (iv (natI l)) rfl (by rw [iv_len, natI_len, HN.out]; omega) hnew hone (by unfold maxLen; omega) (by omega) hbs ?_; intro v1 w1 o1 hg1 _ _; have b1 := b0.trans (Below.grown (Below.refl _ wr) hg1 hbs (by simp [Value.ownBlock])); try rw [List.nil_append] at o1; try rw [Nat.zero_add] at o1; obtain ⟨A1, c1, hv1, -, hc1, -⟩ := own_intsI o1; rw [natI_len, HN.out] at hv1; subst hv1; have hbs1 := b1.size; have hnr : Row (w1.alloc (.cells #[.int .i64 (x : Int)] 3)) w1.heap.size 3 [.int .i64 (x : Int)] := row_new rfl)
                          | ((with_reducible refine (?_ : wpList _ _ _ (Oper.mk (some 92) _ _ _ _ _ :: _) _ _)); refine wpList_append_own_at _ rfl _ _ 29 rfl w.heap.size 3 j0 (.int .i64 0) 1 8 Tryd.underlying29 ji jz0 jz1 jz2 rfl (by decide) _ _ _ rfl (o1.alloc _) ⟨w1.heap.size, 0, none⟩ 1 1 [.int .i64 (x : Int)] rfl rfl (news_one hnr) (by simp [Value.oneCell']) (by unfold maxLen; omega) (by omega) (by simp; omega) ?_; intro v2 w2 o2 hg2 _ _; have b2 := b1.trans (app1' o1 hbs1 hg2); rw [← iv_snoc, ← natI_snoc] at o2; obtain ⟨A2, c2, hv2, -, hc2, hI2⟩ := own_intsI o2; rw [natI_len, hlx] at hv2 hc2; subst hv2)
                          | (go_at_call 69; (with_reducible refine (IH.out A2 c2 w2 b2 hI2 (by omega)).mono ?_); rintro e w3 ⟨rfl, b3⟩; rw [← HGx.out]; replace b3 := b2.trans (b3.mono b2.size)))
                        go_ret
                        exact ⟨by rw [HRE.out, HRN.out]; rfl, b3⟩
                      | false =>
                        have HX2 : Hid (∀ j, j < x + 1 → g j = false) := Lib.hid (fun j hj => by
                          by_cases e : j = x
                          · rw [e]; exact hgx
                          · exact HX.out j (by omega))
                        rw [hgx] at HGx
                        clear hgx HX
                        have hnew : ∀ j u, (iv (natI l))[j]? = some u → wr.cell? ((⟨bC, oC, none⟩ : Addr).add j) = some u := by
                          have := (HC.out wr b0).news i
                          rwa [List.take_of_length_le (by rw [natI_len, HN.out]; exact Nat.le_refl _)] at this
                        have hone := iv_one (natI l)
                        have hbs := b0.size
                        go_wp2_with (first
                          | ((with_reducible refine (?_ : wpList _ _ _ (Oper.mk (some 86) _ _ _ _ _ :: _) _ _)); refine wpList_append_own_at _ rfl (.tmp 84) (.tmp 85) 29 rfl w.heap.size 3 j0 _ 1 8 Tryd.underlying29 ji jz0 jz1 jz2 rfl (by omega) (.slice none 0 0) 0 [] rfl ⟨by simp, .inl ⟨rfl, rfl⟩⟩ ⟨bC, oC, none⟩ i cc (iv (natI l)) rfl (by rw [iv_len, natI_len, HN.out]; omega) hnew hone (by unfold maxLen; omega) (by omega) hbs ?_; intro v1 w1 o1 hg1 _ _; have b1 := b0.trans (Below.grown (Below.refl _ wr) hg1 hbs (by simp [Value.ownBlock])); try rw [List.nil_append] at o1; try rw [Nat.zero_add] at o1; obtain ⟨A1, c1, hv1, -, hc1, -⟩ := own_intsI o1; rw [natI_len, HN.out] at hv1; subst hv1; have hbs1 := b1.size; have hnr : Row (w1.alloc (.cells #[.int .i64 (x : Int)] 3)) w1.heap.size 3 [.int .i64 (x : Int)] := row_new rfl)
                          | ((with_reducible refine (?_ : wpList _ _ _ (Oper.mk (some 92) _ _ _ _ _ :: _) _ _)); refine wpList_append_own_at _ rfl _ _ 29 rfl w.heap.size 3 j0 (.int .i64 0) 1 8 Tryd.underlying29 ji jz0 jz1 jz2 rfl (by decide) _ _ _ rfl (o1.alloc _) ⟨w1.heap.size, 0, none⟩ 1 1 [.int .i64 (x : Int)] rfl rfl (news_one hnr) (by simp [Value.oneCell']) (by unfold maxLen; omega) (by omega) (by simp; omega) ?_; intro v2 w2 o2 hg2 _ _; have b2 := b1.trans (app1' o1 hbs1 hg2); rw [← iv_snoc, ← natI_snoc] at o2; obtain ⟨A2, c2, hv2, -, hc2, hI2⟩ := own_intsI o2; rw [natI_len, hlx] at hv2 hc2; subst hv2)
                          | (go_at_call 69; (with_reducible refine (IH.out A2 c2 w2 b2 hI2 (by omega)).mono ?_); rintro e w3 ⟨rfl, b3⟩; rw [← HGx.out]; replace b3 := b2.trans (b3.mono b2.size)))
                        go_roundw
                        case rel => exact ⟨x + 1, by go_num, by omega, b3, HX2⟩
                        case measure => simp [intOf]; omega
            · obtain rfl : x = n := by omega
              have g3 : decide (x < x) = false := decide_eq_false (by omega)
              have g3' : decide ((x : Int) < (x : Int)) = false := decide_eq_false (by omega)
              have hend : (List.range x).any g = false := by
                rw [List.any_eq_false]
                intro j hj
                rw [HX.out j (List.mem_range.1 hj)]; decide
              rw [hend] at HRN
              clear HX hend HG ih
              go_wp2
              go_ret
              exact ⟨by rw [HRE.out, HRN.out]; rfl, b0⟩
end Go.Proofs.YtignbpipdfjkeaaDoor
