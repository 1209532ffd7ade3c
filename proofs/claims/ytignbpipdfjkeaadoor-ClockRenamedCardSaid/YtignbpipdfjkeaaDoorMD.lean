/- A quick way to reckon a search: mathematics. -/
import Derived.Test.YtignbpipdfjkeaaDoorMC
namespace Go.Proofs.YtignbpipdfjkeaaDoor
set_option maxHeartbeats 1000000
set_option maxRecDepth 100000
abbrev Hit := Option (Nat × List Nat)
/-- The buttons of one set; a number tells which sets were met. -/
def fb (T : Tab) (e : Nat × List Nat) (g : Nat → Bool) : Nat → Nat → Met → Nat → Hit × Met × Nat
  | 0, _, bk, m => (none, bk, m)
  | c + 1, b, bk, m =>
    if m.testBit (prs T e.1 b) then fb T e g c (b + 1) bk m
    else if g (prs T e.1 b) then (some (prs T e.1 b, e.2 ++ [b]), bk, m)
    else fb T e g c (b + 1) ((prs T e.1 b, e.2 ++ [b]) :: bk) (m ||| 2 ^ prs T e.1 b)
def fast (T : Tab) (k : Nat) (g : Nat → Bool) : Nat → Met → Met → Nat → Hit
  | 0, _, _, _ => none
  | f + 1, e :: fr, bk, m => match fb T e g k 0 bk m with
    | (some r, _, _) => some r
    | (none, bk2, m2) => fast T k g f fr bk2 m2
  | f + 1, [], bk, m => match bk.reverse with
    | [] => none
    | e :: fr => match fb T e g k 0 [] m with
      | (some r, _, _) => some r
      | (none, bk2, m2) => fast T k g f fr bk2 m2
variable {T : Tab} {k : Nat} {g : Nat → Bool}
def NoG (g : Nat → Bool) (R : Met) : Prop := ∀ e, e ∈ R → g e.1 = false
def Msk (m : Nat) (R : Met) : Prop := ∀ t, m.testBit t = hasS R t
theorem msk_add {m t : Nat} {x : List Nat} {R : Met} (h : Msk m R) : Msk (m ||| 2 ^ t) (R ++ [(t, x)]) := fun u => by
  rw [Nat.testBit_or, Nat.testBit_two_pow, h u]
  unfold hasS
  rw [List.any_append]
  simp only [List.any_cons, List.any_nil, Bool.or_false]
  congr 1
theorem fb_ok (Q : Met) (i : Nat) (e : Nat × List Nat) (hi : i < Q.length) (he : elS Q i = e) : ∀ (c b : Nat) (bk : Met) (m : Nat), Msk m (Q ++ bk.reverse) → NoG g (Q ++ bk.reverse) →
    match fb T e g c b bk m with
    | (some r, _, _) => ∃ R' U, rowS T i c b (Q ++ bk.reverse) = R' ++ r :: U ∧ NoG g R' ∧ g r.1 = true
    | (none, bk2, m2) => rowS T i c b (Q ++ bk.reverse) = Q ++ bk2.reverse ∧ Msk m2 (Q ++ bk2.reverse) ∧ NoG g (Q ++ bk2.reverse)
  | 0, _, bk, m, hm, hn => ⟨rfl, hm, hn⟩
  | c + 1, b, bk, m, hm, hn => by
    have hel : elS (Q ++ bk.reverse) i = e := by rw [elS_app hi, he]
    unfold fb
    by_cases h1 : m.testBit (prs T e.1 b) = true
    · rw [if_pos h1]
      have ha : addS T (Q ++ bk.reverse) i b = Q ++ bk.reverse := by
        unfold addS; rw [hel, if_pos (by rw [← hm]; exact h1)]
      have := fb_ok Q i e hi he c (b + 1) bk m hm hn
      rw [rowS, ha]; exact this
    · rw [if_neg h1]
      have ha : addS T (Q ++ bk.reverse) i b = (Q ++ bk.reverse) ++ [(prs T e.1 b, e.2 ++ [b])] := by
        unfold addS; rw [hel, if_neg (by rw [← hm]; exact h1)]
      by_cases h2 : g (prs T e.1 b) = true
      · rw [if_pos h2]
        obtain ⟨U, hU⟩ := rowS_pre T i c (b + 1) (addS T (Q ++ bk.reverse) i b)
        exact ⟨Q ++ bk.reverse, U, by rw [rowS, hU, ha]; simp, hn, h2⟩
      · rw [if_neg h2]
        have e1 : (Q ++ bk.reverse) ++ [(prs T e.1 b, e.2 ++ [b])] = Q ++ ((prs T e.1 b, e.2 ++ [b]) :: bk).reverse := by simp
        have hm2 := msk_add (t := prs T e.1 b) (x := e.2 ++ [b]) hm
        have hn2 : NoG g ((Q ++ bk.reverse) ++ [(prs T e.1 b, e.2 ++ [b])]) := fun x hx => by
          rcases List.mem_append.1 hx with h | h
          · exact hn x h
          · simp at h; subst h; exact Bool.eq_false_iff.2 h2
        rw [e1] at hm2 hn2
        have := fb_ok Q i e hi he c (b + 1) _ _ hm2 hn2
        rw [rowS, ha, e1]; exact this
theorem find_at {R' U : Met} {r : Nat × List Nat} (hn : NoG g R') (hr : g r.1 = true) : (R' ++ r :: U).find? (fun e => g e.1) = some r := by
  rw [List.find?_append, List.find?_eq_none.2 (fun x hx => by rw [hn x hx]; decide)]
  simp [hr]
theorem fast_step {f F : Nat} {P fr bk : Met} {x : Nat × List Nat} {m : Nat} {r : Nat × List Nat}
    (ih : ∀ (P fr bk : Met) (m : Nat), Msk m (P ++ fr ++ bk.reverse) → NoG g (P ++ fr ++ bk.reverse) → fast T k g f fr bk m = some r → (bfs T k F P.length (P ++ fr ++ bk.reverse)).find? (fun e => g e.1) = some r)
    (hm : Msk m (P ++ x :: fr ++ bk.reverse)) (hn : NoG g (P ++ x :: fr ++ bk.reverse))
    (h : (match fb T x g k 0 bk m with
      | (some r, _, _) => some r
      | (none, bk2, m2) => fast T k g f fr bk2 m2) = some r) :
    (bfs T k (F + 1) P.length (P ++ x :: fr ++ bk.reverse)).find? (fun e => g e.1) = some r := by
  have hi : P.length < (P ++ x :: fr).length := by simp
  have he : elS (P ++ x :: fr) P.length = x := by unfold elS; rw [List.getD_eq_getElem?_getD]; simp
  have hb := fb_ok (T := T) (g := g) (P ++ x :: fr) P.length x hi he k 0 bk m hm hn
  rw [bfs_go (by simp)]
  split at h
  · rename_i r' _ _ e1
    rw [e1] at hb
    obtain ⟨R', U, h1, h2, h3⟩ := hb
    injection h with h
    subst h
    obtain ⟨V, hV⟩ := bfs_pre T k F (P.length + 1) (rowS T P.length k 0 (P ++ x :: fr ++ bk.reverse))
    rw [hV, h1, List.append_assoc, List.cons_append]
    exact find_at h2 h3
  · rename_i bk2 m2 e1
    rw [e1] at hb
    obtain ⟨h1, h2, h3⟩ := hb
    rw [h1]
    have e2 : P ++ x :: fr ++ bk2.reverse = (P ++ [x]) ++ fr ++ bk2.reverse := by simp
    rw [e2] at h2 h3 ⊢
    have := ih (P ++ [x]) fr bk2 m2 h2 h3 h
    rw [List.length_append, List.length_singleton] at this
    exact this
theorem fast_ok (r : Nat × List Nat) : ∀ (f : Nat) (P fr bk : Met) (m : Nat), Msk m (P ++ fr ++ bk.reverse) → NoG g (P ++ fr ++ bk.reverse) → fast T k g f fr bk m = some r →
    (bfs T k f P.length (P ++ fr ++ bk.reverse)).find? (fun e => g e.1) = some r
  | 0, _, _, _, _, _, _, h => by cases h
  | f + 1, P, [], bk, m, hm, hn, h => by
    unfold fast at h
    split at h
    · cases h
    · rename_i x fr e
      have e2 : P ++ [] ++ bk.reverse = P ++ x :: fr ++ ([] : Met).reverse := by rw [e]; simp
      rw [e2] at hm hn ⊢
      exact fast_step (fast_ok r f) hm hn h
  | f + 1, P, x :: fr, bk, m, hm, hn, h => by
    unfold fast at h
    exact fast_step (fast_ok r f) hm hn h
theorem seek_fast {s : Nat} {r : Nat × List Nat} (hg : g s = false) (h : fast T k g 512 [(s, [])] [] (2 ^ s) = some r) : seek T k s g = some r := by
  have := fast_ok (T := T) (k := k) (g := g) r 512 [] [(s, [])] [] (2 ^ s) (fun t => by
    rw [Nat.testBit_two_pow]; unfold hasS; simp only [List.nil_append, List.reverse_nil, List.append_nil, List.any_cons, List.any_nil, Bool.or_false]; rfl) (fun e he => by simp at he; subst he; exact hg) h
  exact this
end Go.Proofs.YtignbpipdfjkeaaDoor
