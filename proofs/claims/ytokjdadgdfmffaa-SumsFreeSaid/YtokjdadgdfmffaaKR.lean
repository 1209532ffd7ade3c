/- Copies; from a walk to the row. -/
import Derived.Test.YtokjdadgdfmffaaKQ
import Derived.ChangeMaps5
namespace Go.Proofs.Ytokjdadgdfmffaa
open Go.ChangeShapes Go.WideShapes Go.ChangeAt Go.RowKit
set_option maxHeartbeats 1000000
set_option maxRecDepth 100000
theorem IntsAt.news {w : World} {ad : Addr} {xs : List Int} (h : IntsAt w (some ad) xs) (k : Nat) : ∀ j u, (iv (xs.take k))[j]? = some u → w.cell? (ad.add j) = some u := by
  intro j u hj
  have hjl := (List.getElem?_eq_some_iff.1 hj).1
  rw [iv_len, List.length_take] at hjl
  unfold iv at hj
  obtain ⟨b, o, e, hb, hc⟩ := h (by omega)
  injection e with e
  subst e
  rw [WideShapes.add_plain, hc j (by omega), ← hj, List.getElem?_map, List.getElem?_eq_getElem (by rw [List.length_take]; omega), geti_eq (by omega)]
  simp
theorem nil_ints {w : World} {xs : List Int} (ha : IntsAt w none xs) : xs = [] := List.eq_nil_of_length_eq_zero (by
  rcases Nat.eq_zero_or_pos xs.length with h | h
  · exact h
  · obtain ⟨b, o, e, _⟩ := ha h; cases e)
theorem list_copy_any (A : Option Addr) (c : Nat) (es : List Int) (w : World) (hx : es.length ≤ c) (hc : c ≤ maxLen) (ha : IntsAt w A es) :
    Calls Try.prog 14 #[.slice A es.length c] w (Copied 3 1 (iv (es.take 110)) w) := by
  obtain ⟨i0, hi, hz0, hz1, hz2⟩ := info_parts info3
  unfold maxLen at hc
  cases A with
  | none =>
    obtain rfl := nil_ints ha
    go_enter Try.func14, Try.ntmps14
    go_wp2
    go_ret
    exact ⟨_, 0, rfl, ⟨rfl, .inl ⟨rfl, rfl⟩⟩, Below.refl _ _⟩
  | some ad =>
    have hnew := Lib.hid (ha.news 110)
    have hone := Lib.hid (iv_one (es.take 110))
    by_cases hle : es.length ≤ 110
    · have g1 : decide (110 < (es.length : Int)) = false := decide_eq_false (by omega)
      have hl := Lib.hid (show (es.take 110).length = es.length by rw [List.length_take]; omega)
      go_enter Try.func14, Try.ntmps14
      go_wp2_with (at_builtin; refine wpList_append_own_at _ rfl (.tmp 4) (.tmp 9) 22 rfl w.heap.size 3 i0 _ 1 8 Try.underlying22 hi hz0 hz1 hz2 rfl (by omega) (.slice none 0 0) 0 [] rfl ⟨by simp, .inl ⟨rfl, rfl⟩⟩ ad es.length c (iv (es.take 110)) rfl (by rw [iv_len, hl.out]; try omega) hnew.out hone.out (by unfold maxLen; omega) (by omega) (Nat.le_refl _) ?_; intro v1 w1 hown hg _ _)
      go_ret
      exact ⟨_, _, rfl, hown, (Below.refl _ _).grown hg (Nat.le_refl _) (by simp [Value.ownBlock])⟩
    · have g1 : decide (110 < (es.length : Int)) = true := decide_eq_true (by omega)
      have hl := Lib.hid (show (es.take 110).length = 110 by rw [List.length_take]; omega)
      have hle2 : 110 ≤ c := by omega
      go_enter Try.func14, Try.ntmps14
      go_wp2_with (at_builtin; refine wpList_append_own_at _ rfl (.tmp 4) (.tmp 9) 22 rfl w.heap.size 3 i0 _ 1 8 Try.underlying22 hi hz0 hz1 hz2 rfl (by omega) (.slice none 0 0) 0 [] rfl ⟨by simp, .inl ⟨rfl, rfl⟩⟩ ad 110 c (iv (es.take 110)) rfl (by rw [iv_len, hl.out]; try omega) hnew.out hone.out (by unfold maxLen; omega) (by omega) (Nat.le_refl _) ?_; intro v1 w1 hown hg _ _)
      go_ret
      exact ⟨_, _, rfl, hown, (Below.refl _ _).grown hg (Nat.le_refl _) (by simp [Value.ownBlock])⟩
theorem geti_take (xs : List Int) (k i : Nat) (h : i < k) : geti (xs.take k) i = geti xs i := by
  unfold geti; simp [h]
theorem cell_lt {w : World} {a : Addr} {v : Value} (h : w.cell? a = some v) : a.block < w.heap.size := by
  rcases Nat.lt_or_ge a.block w.heap.size with h1 | h1
  · exact h1
  · have : w.heap[a.block]? = none := Array.getElem?_eq_none h1
    simp [World.cell?, this] at h
section
variable {H : Type} {enc : TypeId × Value → H} {P : Program} {W W' : World}
/-- Arguments read behind the call as they read before. -/
theorem trodAll_stays (hl : laidOutB P = true) {sp : Nat → Bool} : ∀ {ts : List TypeId} {vs : List Value} {ds : List (DataW H)} {ps : List MemPlace}, (∀ t ∈ ts, P.readableRec t = true ∧ t < P.types.size) →
    DataW.TrodAll enc P W 0 (fun _ => true) true ts vs ds ps → (∀ p ∈ ps, W.sameAt W' p) → (∀ p ∈ ps, sp p.block = true) → DataW.TrodAll enc P W' 0 sp true ts vs ds ps
  | [], _, _, _, _, h, _, _ => by
    obtain ⟨rfl, rfl, rfl⟩ := trodAll_nil h
    exact h
  | t :: ts, _, _, _, ht, h, h1, h2 => by
    obtain ⟨v, vs1, d, ds1, a, b, rfl, rfl, rfl, k1, k2⟩ := trodAll_cons h
    exact ⟨a, b, WideElems.Trod_stays hl (ht t (List.mem_cons_self ..)).1 (ht t (List.mem_cons_self ..)).2 k1 (fun p hp => h1 p (List.mem_append_left _ hp)) (fun p hp => h2 p (List.mem_append_left _ hp)),
      trodAll_stays hl (fun u hu => ht u (List.mem_cons_of_mem _ hu)) k2 (fun p hp => h1 p (List.mem_append_right _ hp)) (fun p hp => h2 p (List.mem_append_right _ hp)), rfl⟩
/-- A law's last step: it returned true, and below the old heap nothing has turned. -/
theorem law_post {f : Func} {s : ChangeSpec} {args : Array Value} {ds gs : List (DataW H)} {before : List MemPlace} {tb : TypeId} (hl : laidOutB P = true) (hb4 : P.underlying tb = some .bool) (hr : f.resultTypes = #[tb]) (hv : s.vars = [])
    (ht : ∀ t ∈ f.params.toList, P.readableRec t = true ∧ t < P.types.size) (hW : DataW.Whole enc P f.params.toList s.vars false W args.toList ds gs before)
    (e1 : (s.fn H (ds ++ gs)).results = [.lit (.bool true)]) (e2 : (s.fn H (ds ++ gs)).args = ds) (e3 : (s.fn H (ds ++ gs)).vars = []) (hb : Below W.heap.size W W') : s.post enc P f false true false false W args (.bool true) W' := by
  have hlt : ∀ p ∈ before, p.block < W.heap.size := fun p hp => hW.lt p hp
  have hW' := hW
  obtain ⟨p, q, hA, hV, rfl, _, _⟩ := hW
  rw [hv] at hV
  obtain ⟨rfl, rfl⟩ := trodVars_none hV
  refine ⟨ds, [], _, [], p, [], hW', ?_, ?_, ?_, World.keptBut_mono (fun x hx => ⟨hx, .inr (.inl ?_)⟩) (hb.frame (· ∈ p ++ [])), fun h => by cases h⟩
  · rw [e1, hr]; exact trodAll_mk1 (shut_bool hb4 true)
  · rw [e2]; exact trodAll_stays hl ht hA (fun x hx => hb.same (hlt x (by simpa using hx))) (fun x hx => by simpa using hlt x (by simpa using hx))
  · rw [e3, hv]; exact rfl
  · simpa using hx
end
section
variable {H : Type} {enc : TypeId × Value → H} {W : World}
theorem open_list {t : TypeId} {r : Reach} {b0 : Nat} {v : Value} {d : DataW H} {p : List MemPlace} (ht : Try.prog.underlying t = some (.slice 3)) (hv : Value.okWide Try.prog W r b0 t v) (h : DataW.Trod enc Try.prog W 0 (fun _ => true) true t v d p) :
    ∃ A c xs, v = .slice A xs.length c ∧ xs.length ≤ c ∧ c ≤ maxLen ∧ IntsAt W A xs := by
  obtain ⟨A, l, c, rfl⟩ := okWide_slice ht hv
  obtain ⟨fuel, hf⟩ := h
  rcases open_ints ht Try.underlying3 Try.cells3 hf with ⟨hcs, _⟩ | ⟨a, len, cap, zs, hcs, _, hl, hm, hz, _, hcell, _⟩
  · simp [Value.cells] at hcs
    obtain ⟨rfl, rfl, rfl⟩ := hcs
    exact ⟨none, 0, [], rfl, by simp, by simp, fun h => absurd h (by simp)⟩
  · simp [Value.cells] at hcs
    obtain ⟨rfl, rfl, rfl⟩ := hcs
    simp only [if_true] at hz
    have hlen : (zs.take l).length = l := by rw [List.length_take]; omega
    refine ⟨some a, c, zs.take l, by rw [hlen], by omega, hm, fun hp => ?_⟩
    rw [hlen] at hp ⊢
    have g0 := hcell 0 (by omega)
    have hsp : a.spot = none := by
      have := World.cell?_spot g0
      simpa [Addr.add] using this
    obtain ⟨b, o, sp⟩ := a
    dsimp only at hsp
    subst hsp
    refine ⟨b, o, rfl, by have := cell_lt g0; simpa [Addr.add] using this, fun i hi => ?_⟩
    have := hcell i (by omega)
    rw [WideShapes.add_plain] at this
    rw [this, geti_take _ _ _ hi]; rfl
end
end Go.Proofs.Ytokjdadgdfmffaa
