/- The search of join: what it does. -/
import Derived.Test.YtnnaaoobdofooaaSQ
import Derived.Test.YtnnaaoobdofooaaSL
namespace Go.Proofs.Ytnnaaoobdofooaa
open Go.RowKit
set_option maxHeartbeats 1000000
set_option maxRecDepth 100000
/-- How many columns outside a set a row has. -/
def cnU (n s : Nat) (M : List Int) (r : Nat) : Int := sumN (fun c => if s.testBit c = false ∧ geti M c = (r : Int) then 1 else 0) n
def one (p : Prop) [Decidable p] : Int := if p then 1 else 0
theorem sumN_upd {g h : Nat → Int} {c : Nat} {d : Int} (hc : h c = g c + d) (hne : ∀ j, j ≠ c → h j = g j) : ∀ {n : Nat}, c < n → sumN h n = sumN g n + d
  | 0, h0 => absurd h0 (by omega)
  | n + 1, h0 => by
    show sumN h n + h n = sumN g n + g n + d
    by_cases e : c = n
    · subst e
      rw [hc, sumN_congr (fun j hj => hne j (by omega))]; omega
    · rw [sumN_upd hc hne (show c < n by omega), hne n (fun h => e h.symm)]; omega
theorem cnU_set {n s c row : Nat} {M : List Int} {r : Nat} (hc : c < n) (hM : M.length = 10) (hn : n ≤ 10) (hb : s.testBit c = false) :
    cnU n s (M.set c (row : Int)) r = cnU n s M r - one (geti M c = (r : Int)) + one (row = r) := by
  have h := sumN_upd (g := fun j => if s.testBit j = false ∧ geti M j = (r : Int) then 1 else 0) (h := fun j => if s.testBit j = false ∧ geti (M.set c (row : Int)) j = (r : Int) then 1 else 0) (c := c) (d := one (row = r) - one (geti M c = (r : Int))) (by
    try dsimp only
    rw [geti_set (by omega), if_pos rfl]
    unfold one
    by_cases h1 : row = r
    · by_cases h2 : geti M c = (r : Int)
      · rw [if_pos ⟨hb, by omega⟩, if_pos ⟨hb, h2⟩, if_pos h1, if_pos h2]; omega
      · rw [if_pos ⟨hb, by omega⟩, if_neg (fun h => h2 h.2), if_pos h1, if_neg h2]; omega
    · by_cases h2 : geti M c = (r : Int)
      · rw [if_neg (fun h => h1 (by omega)), if_pos ⟨hb, h2⟩, if_neg h1, if_pos h2]; omega
      · rw [if_neg (fun h => h1 (by omega)), if_neg (fun h => h2 h.2), if_neg h1, if_neg h2]; omega) (fun j hj => by
    try dsimp only
    have e : geti (M.set c (row : Int)) j = geti M j := by rw [geti_set (by omega), if_neg (fun h => hj h.symm)]
    rw [e]) hc
  unfold cnU
  rw [h]; omega
theorem cnU_with {n s c : Nat} {M : List Int} {r : Nat} (hc : c < n) (hb : s.testBit c = false) : cnU n s M r = cnU n (sWith s c) M r + one (geti M c = (r : Int)) := by
  refine sumN_upd (c := c) ?_ ?_ hc
  · try dsimp only
    have e : ¬ ((sWith s c).testBit c = false ∧ geti M c = (r : Int)) := fun h => by rw [with_bit] at h; simp at h
    rw [if_neg e, Int.zero_add]
    unfold one
    by_cases h2 : geti M c = (r : Int)
    · rw [if_pos ⟨hb, h2⟩, if_pos h2]
    · rw [if_neg (fun h => h2 h.2), if_neg h2]
  · intro j hj
    try dsimp only
    have e : (sWith s c).testBit j = s.testBit j := by rw [with_bit, decide_eq_false (fun h => hj h.symm), Bool.or_false]
    rw [e]
theorem cnU_sub {n s s2 : Nat} {M N : List Int} {r : Nat} {d : Int} (hs : ∀ c, s.testBit c = true → s2.testBit c = true) (hk : ∀ c, s2.testBit c = true → geti N c = geti M c) (h : cnU n s2 N r = cnU n s2 M r + d) : cnU n s N r = cnU n s M r + d := by
  have hp : ∀ K : List Int, cnU n s K r = cnU n s2 K r + sumN (fun c => if s.testBit c = false ∧ s2.testBit c = true ∧ geti K c = (r : Int) then 1 else 0) n := fun K => by
    unfold cnU
    rw [← sumN_add]
    refine sumN_congr (fun c _ => ?_)
    by_cases h1 : geti K c = (r : Int)
    · cases hb : s.testBit c
      · cases hb2 : s2.testBit c
        · simp [h1]
        · simp [h1]
      · rw [hs c hb]; simp
    · rw [if_neg (fun h => h1 h.2), if_neg (fun h => h1 h.2), if_neg (fun h => h1 h.2.2)]; rfl
  rw [hp N, hp M, h]
  have e : sumN (fun c => if s.testBit c = false ∧ s2.testBit c = true ∧ geti N c = (r : Int) then 1 else 0) n = sumN (fun c => if s.testBit c = false ∧ s2.testBit c = true ∧ geti M c = (r : Int) then 1 else 0) n := sumN_congr (fun c _ => by
    by_cases hb : s2.testBit c = true
    · rw [hk c hb]
    · rw [if_neg (fun h => hb h.2.1), if_neg (fun h => hb h.2.1)])
  rw [e]; omega
theorem pc_sub {s t : Nat} (h : ∀ c, s.testBit c = true → t.testBit c = true) : ∀ n, pc n s ≤ pc n t
  | 0 => by simp [pc]
  | n + 1 => by
    have := pc_sub h n
    rw [pc_succ, pc_succ]
    cases hb : s.testBit n
    · simp; omega
    · rw [h n hb]; simp; omega
def PosM (L : List (List Int)) (M : List Int) : Prop := ∀ c, c < 10 → geti M c ≠ -1 → gat L (geti M c).toNat c ≠ 0
/-- What a search does. -/
structure FdR (L : List (List Int)) (row : Nat) (cs : List Nat) (s : Nat) (M : List Int) (x : Bool × Nat × List Int) : Prop where
  sub : ∀ c, s.testBit c = true → x.2.1.testBit c = true
  lim : ∀ c, x.2.1.testBit c = true → s.testBit c = true ∨ c < L.length
  keep : ∀ c, s.testBit c = true → geti x.2.2 c = geti M c
  far : ∀ c, L.length ≤ c → geti x.2.2 c = geti M c
  ok : MOk L.length x.2.2
  lt : x.2.1 < 65536
  pos : PosM L M → PosM L x.2.2
  same : x.1 = false → x.2.2 = M
  new : x.1 = false → ∀ c, x.2.1.testBit c = true → s.testBit c = false → geti M c ≠ -1 ∧ ∀ c', c' < L.length → gat L (geti M c).toNat c' ≠ 0 → x.2.1.testBit c' = true
  own : x.1 = false → ∀ c, c ∈ cs → gat L row c ≠ 0 → x.2.1.testBit c = true
  yes : x.1 = true → ∀ r : Nat, cnU L.length s x.2.2 r = cnU L.length s M r + one (row = r)
theorem PosM.set {L : List (List Int)} {M : List Int} (h : PosM L M) (hM : M.length = 10) {c row : Nat} (hg : gat L row c ≠ 0) : PosM L (M.set c (row : Int)) := fun j hj hne => by
  by_cases hc : c < 10
  · rw [geti_set (by omega)] at hne ⊢
    by_cases e : c = j
    · subst e
      rw [if_pos rfl, Int.toNat_natCast]; exact hg
    · rw [if_neg e] at hne ⊢
      exact h j hj hne
  · rw [List.set_eq_of_length_le (by omega)] at hne ⊢
    exact h j hj hne
theorem fdC_ok {L : List (List Int)} (hL : IsT L) {rec : Nat → Nat × List Int → Bool × Nat × List Int} {row s0 : Nat} (hrow : row < L.length)
    (hrec : ∀ (r2 s2 : Nat) (M2 : List Int), r2 < L.length → s2 < 65536 → MOk L.length M2 → pc L.length s0 < pc L.length s2 → FdR L r2 (List.range L.length) s2 M2 (rec r2 (s2, M2))) :
    ∀ (cs : List Nat) (s : Nat) (M : List Int), (∀ c, c ∈ cs → c < L.length) → s < 65536 → MOk L.length M → pc L.length s0 ≤ pc L.length s → FdR L row cs s M (fdC L rec row cs (s, M))
  | [], s, M, _, hs, hM, _ => ⟨fun _ h => h, fun _ h => Or.inl h, fun _ _ => rfl, fun _ _ => rfl, hM, hs, fun h => h, fun _ => rfl, fun _ c h1 h2 => (by have h3 : s.testBit c = true := h1; rw [h2] at h3; cases h3), fun _ c h => (by simp at h), fun h => (by cases h)⟩
  | c :: cs, s, M, hcs, hs, hM, hp => by
    have hle := hL.le
    have hcn := hcs c (List.mem_cons_self ..)
    have hcs2 : ∀ j, j ∈ cs → j < L.length := fun j hj => hcs j (List.mem_cons_of_mem _ hj)
    by_cases h1 : gat L row c = 0 ∨ s.testBit c = true
    · rw [fdC_skip h1]
      have ih := fdC_ok hL hrow hrec cs s M hcs2 hs hM hp
      refine ⟨ih.sub, ih.lim, ih.keep, ih.far, ih.ok, ih.lt, ih.pos, ih.same, ih.new, fun hb j hj hg => ?_, ih.yes⟩
      rcases List.mem_cons.1 hj with e | hj
      · subst e
        exact ih.sub _ (h1.resolve_left hg)
      · exact ih.own hb j hj hg
    · have hb : s.testBit c = false := by
        cases h : s.testBit c
        · rfl
        · exact absurd (Or.inr h) h1
      have hg : gat L row c ≠ 0 := fun h => h1 (Or.inl h)
      have hne : ∀ j, s.testBit j = true → c ≠ j := fun j hj e => by subst e; rw [hb] at hj; cases hj
      by_cases h2 : geti M c = -1
      · rw [fdC_free h1 h2]
        refine ⟨fun j hj => by rw [show (true, sWith s c, M.set c (row : Int)).2.1 = sWith s c from rfl, with_bit, hj]; rfl, fun j hj => ?_, fun j hj => ?_, fun j hj => (by
          show geti (M.set c (row : Int)) j = _
          rw [geti_set (by rw [hM.len]; omega), if_neg (by omega)]), hM.set hrow, with_lt hs (by omega), fun hP => hP.set hM.len hg, fun h => by (cases h), fun h => by (cases h), fun h => by (cases h), fun _ r => ?_⟩
        · rw [show (true, sWith s c, M.set c (row : Int)).2.1 = sWith s c from rfl, with_bit] at hj
          simp only [Bool.or_eq_true, decide_eq_true_eq] at hj
          exact hj.imp id (fun e => by omega)
        · show geti (M.set c (row : Int)) j = _
          rw [geti_set (by rw [hM.len]; omega), if_neg (hne j hj)]
        · show cnU L.length s (M.set c (row : Int)) r = _
          rw [cnU_set hcn hM.len hle hb, h2]
          have : one ((-1 : Int) = (r : Int)) = 0 := by unfold one; rw [if_neg (by omega)]
          rw [this]; omega
      · have hma := (hM.at' c (by omega)).resolve_left h2
        have hpw := pcn_with hb L.length
        rw [if_pos hcn] at hpw
        have hr := hrec (geti M c).toNat (sWith s c) M (by omega) (with_lt hs (by omega)) hM (by omega)
        have hws : ∀ j, s.testBit j = true → (sWith s c).testBit j = true := fun j hj => by rw [with_bit, hj]; rfl
        have hwc : (sWith s c).testBit c = true := by rw [with_bit]; simp
        have hwl : ∀ j, (sWith s c).testBit j = true → s.testBit j = true ∨ j = c := fun j hj => by
          rw [with_bit] at hj
          simp only [Bool.or_eq_true, decide_eq_true_eq] at hj
          exact hj.imp id (fun e => e.symm)
        obtain ⟨X, hX⟩ : ∃ X, rec (geti M c).toNat (sWith s c, M) = X := ⟨_, rfl⟩
        rw [hX] at hr
        obtain ⟨b2, s2, M2⟩ := X
        have hsub : ∀ j, s.testBit j = true → s2.testBit j = true := fun j hj => hr.sub j (hws j hj)
        have hkc : geti M2 c = geti M c := hr.keep c hwc
        cases b2
        · rw [fdC_no h1 h2 hX]
          have hMM : M2 = M := hr.same rfl
          subst hMM
          have hsc : s2.testBit c = true := hr.sub c hwc
          have ih := fdC_ok hL hrow hrec cs s2 M2 hcs2 hr.lt hM (Nat.le_trans hp (pc_sub hsub _))
          refine ⟨fun j hj => ih.sub j (hsub j hj), fun j hj => ?_, fun j hj => ih.keep j (hsub j hj), ih.far, ih.ok, ih.lt, ih.pos, ih.same, fun hx j hj hjs => ?_, fun hx j hj hgj => ?_, fun hx r => ?_⟩
          · rcases ih.lim j hj with h | h
            · rcases hr.lim j h with h | h
              · exact (hwl j h).imp id (fun e => by omega)
              · exact Or.inr h
            · exact Or.inr h
          · cases hj2 : s2.testBit j
            · exact ih.new hx j hj hj2
            · by_cases e : j = c
              · subst e
                exact ⟨h2, fun c' hc' hg' => ih.sub c' (hr.own rfl c' (List.mem_range.2 hc') hg')⟩
              · have hw : (sWith s c).testBit j = false := by
                  cases h : (sWith s c).testBit j
                  · rfl
                  · rcases hwl j h with h | h
                    · rw [hjs] at h; cases h
                    · exact absurd h e
                have := hr.new rfl j hj2 hw
                exact ⟨this.1, fun c' hc' hg' => ih.sub c' (this.2 c' hc' hg')⟩
          · rcases List.mem_cons.1 hj with e | hj
            · subst e; exact ih.sub _ hsc
            · exact ih.own hx j hj hgj
          · exact cnU_sub hsub (fun j hj => ih.keep j hj) (ih.yes hx r)
        · rw [fdC_yes h1 h2 hX]
          refine ⟨fun j hj => hsub j hj, fun j hj => ?_, fun j hj => ?_, fun j hj => (by
            show geti (M2.set c (row : Int)) j = _
            have hl2 : M2.length = 10 := hr.ok.len
            rw [geti_set (by omega), if_neg (by omega)]
            exact hr.far j hj), hr.ok.set hrow, hr.lt, fun hP => (hr.pos hP).set hr.ok.len hg, fun h => by (cases h), fun h => by (cases h), fun h => by (cases h), fun _ r => ?_⟩
          · rcases hr.lim j hj with h | h
            · exact (hwl j h).imp id (fun e => by omega)
            · exact Or.inr h
          · show geti (M2.set c (row : Int)) j = _
            have hl2 : M2.length = 10 := hr.ok.len
            rw [geti_set (by omega), if_neg (hne j hj)]
            exact hr.keep j (hws j hj)
          · show cnU L.length s (M2.set c (row : Int)) r = _
            have hl2 : M2.length = 10 := hr.ok.len
            have hy : cnU L.length (sWith s c) M2 r = cnU L.length (sWith s c) M r + one ((geti M c).toNat = r) := hr.yes rfl r
            rw [cnU_set hcn hl2 hle hb, cnU_with hcn hb (M := M2), hy, cnU_with hcn hb (M := M), hkc]
            have e : one ((geti M c).toNat = r) = one (geti M c = (r : Int)) := by
              unfold one
              by_cases h : geti M c = (r : Int)
              · rw [if_pos h, if_pos (by omega)]
              · rw [if_neg h, if_neg (by omega)]
            rw [e]; omega
theorem fd_ok {L : List (List Int)} (hL : IsT L) : ∀ (f row s : Nat) (M : List Int), row < L.length → s < 65536 → MOk L.length M → L.length - pc L.length s ≤ f → FdR L row (List.range L.length) s M (fd L f row (s, M))
  | 0, row, s, M, hrow, hs, hM, hf => fdC_ok hL (s0 := s) hrow (fun r2 s2 M2 _ _ _ hlt => absurd hlt (by have := pc_le L.length s2; omega)) _ s M (fun c hc => List.mem_range.1 hc) hs hM (Nat.le_refl _)
  | f + 1, row, s, M, hrow, hs, hM, hf => fdC_ok hL (s0 := s) hrow (fun r2 s2 M2 h1 h2 h3 hlt => fd_ok hL f r2 s2 M2 h1 h2 h3 (by omega)) _ s M (fun c hc => List.mem_range.1 hc) hs hM (Nat.le_refl _)
end Go.Proofs.Ytnnaaoobdofooaa
