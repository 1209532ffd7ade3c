/- From a walk to the row: lists, tables and pairs that come in. -/
import Derived.Test.YtnnaaoobdofooaaRP
import Derived.ChangeMaps5
import Derived.Deep.Matrix
namespace Go.Proofs.Ytnnaaoobdofooaa
open Go.ChangeShapes Go.WideShapes Go.ChangeAt Go.RowKit
set_option maxHeartbeats 1000000
set_option maxRecDepth 100000
theorem geti_take (xs : List Int) (k i : Nat) (h : i < k) : geti (xs.take k) i = geti xs i := by
  unfold geti; simp [h]
theorem cell_lt {w : World} {a : Addr} {v : Value} (h : w.cell? a = some v) : a.block < w.heap.size := by
  rcases Nat.lt_or_ge a.block w.heap.size with h1 | h1
  · exact h1
  · have : w.heap[a.block]? = none := Array.getElem?_eq_none h1
    simp [World.cell?, this] at h
section
variable {H : Type} {enc : TypeId × Value → H} {P : Program} {W W' : World}
/-- Arguments read behind the call as they read before. -/
theorem trodAll_stays (hl : laidOutB P = true) {sp : Nat → Bool} : ∀ {ts : List TypeId} {vs : List Value} {ds : List (DataW H)} {ps : List MemPlace}, (∀ t ∈ ts, P.readableRec t = true ∧ t < P.types.size) →
    DataW.TrodAll enc P W 0 (fun _ => true) true ts vs ds ps → (∀ p ∈ ps, W.sameAt W' p) → (∀ p ∈ ps, sp p.block = true) → DataW.TrodAll enc P W' 0 sp true ts vs ds ps
  | [], _, _, _, _, h, _, _ => by
    obtain ⟨rfl, rfl, rfl⟩ := trodAll_nil h
    exact h
  | t :: ts, _, _, _, ht, h, h1, h2 => by
    obtain ⟨v, vs1, d, ds1, a, b, rfl, rfl, rfl, k1, k2⟩ := trodAll_cons h
    exact ⟨a, b, WideElems.Trod_stays hl (ht t (List.mem_cons_self ..)).1 (ht t (List.mem_cons_self ..)).2 k1 (fun p hp => h1 p (List.mem_append_left _ hp)) (fun p hp => h2 p (List.mem_append_left _ hp)),
      trodAll_stays hl (fun u hu => ht u (List.mem_cons_of_mem _ hu)) k2 (fun p hp => h1 p (List.mem_append_right _ hp)) (fun p hp => h2 p (List.mem_append_right _ hp)), rfl⟩
/-- A law's last step: it returned true, and below the old heap nothing has turned. -/
theorem law_post {f : Func} {s : ChangeSpec} {args : Array Value} {ds gs : List (DataW H)} {before : List MemPlace} {tb : TypeId} (hl : laidOutB P = true) (hb4 : P.underlying tb = some .bool) (hr : f.resultTypes = #[tb]) (hv : s.vars = [])
    (ht : ∀ t ∈ f.params.toList, P.readableRec t = true ∧ t < P.types.size) (hW : DataW.Whole enc P f.params.toList s.vars false W args.toList ds gs before)
    (e1 : (s.fn H (ds ++ gs)).results = [.lit (.bool true)]) (e2 : (s.fn H (ds ++ gs)).args = ds) (e3 : (s.fn H (ds ++ gs)).vars = []) (hb : Below W.heap.size W W') : s.post enc P f false true false false W args (.bool true) W' := by
  have hlt : ∀ p ∈ before, p.block < W.heap.size := fun p hp => hW.lt p hp
  have hW' := hW
  obtain ⟨p, q, hA, hV, rfl, _, _⟩ := hW
  rw [hv] at hV
  obtain ⟨rfl, rfl⟩ := trodVars_none hV
  refine ⟨ds, [], _, [], p, [], hW', ?_, ?_, ?_, World.keptBut_mono (fun x hx => ⟨hx, .inr (.inl ?_)⟩) (hb.frame (· ∈ p ++ [])), fun h => by cases h⟩
  · rw [e1, hr]; exact trodAll_mk1 (shut_bool hb4 true)
  · rw [e2]; exact trodAll_stays hl ht hA (fun x hx => hb.same (hlt x (by simpa using hx))) (fun x hx => by simpa using hlt x (by simpa using hx))
  · rw [e3, hv]; exact rfl
  · simpa using hx
end
section
variable {H : Type} {enc : TypeId × Value → H} {W : World}
theorem open_list {t : TypeId} {r : Reach} {b0 : Nat} {v : Value} {d : DataW H} {p : List MemPlace} (ht : Try.prog.underlying t = some (.slice 3)) (hv : Value.okWide Try.prog W r b0 t v) (h : DataW.Trod enc Try.prog W 0 (fun _ => true) true t v d p) :
    ∃ A c xs, v = .slice A xs.length c ∧ xs.length ≤ c ∧ c ≤ maxLen ∧ IntsAt W A xs := by
  obtain ⟨A, l, c, rfl⟩ := okWide_slice ht hv
  obtain ⟨fuel, hf⟩ := h
  rcases open_ints ht Try.underlying3 Try.cells3 hf with ⟨hcs, _⟩ | ⟨a, len, cap, zs, hcs, _, hl, hm, hz, _, hcell, _⟩
  · simp [Value.cells] at hcs
    obtain ⟨rfl, rfl, rfl⟩ := hcs
    exact ⟨none, 0, [], rfl, by simp, by simp, fun h => absurd h (by simp)⟩
  · simp [Value.cells] at hcs
    obtain ⟨rfl, rfl, rfl⟩ := hcs
    simp only [if_true] at hz
    have hlen : (zs.take l).length = l := by rw [List.length_take]; omega
    refine ⟨some a, c, zs.take l, by rw [hlen], by omega, hm, fun hp => ?_⟩
    rw [hlen] at hp ⊢
    have g0 := hcell 0 (by omega)
    have hsp : a.spot = none := by
      have := World.cell?_spot g0
      simpa [Addr.add] using this
    obtain ⟨b, o, sp⟩ := a
    dsimp only at hsp
    subst hsp
    refine ⟨b, o, rfl, by have := cell_lt g0; simpa [Addr.add] using this, fun i hi => ?_⟩
    have := hcell i (by omega)
    rw [WideShapes.add_plain] at this
    rw [this, geti_take _ _ _ hi]; rfl
theorem open_arr2 {r : Reach} {b0 : Nat} {v : Value} {d : DataW H} {p : List MemPlace} (hv : Value.okWide Try.prog W r b0 36 v) (h : DataW.Trod enc Try.prog W 0 (fun _ => true) true 36 v d p) :
    ∃ x y : Int, v = .agg #[.int .i64 x, .int .i64 y] := by
  have hc : Try.prog.cellsOf 36 = 2 := by kernel_rfl
  obtain ⟨cs, rfl, hs⟩ : ∃ cs, v = .agg cs ∧ cs.size = 2 := by
    simp only [Value.okWide, Try.underlying36] at hv
    obtain ⟨cs, h1, h2, _⟩ := hv
    exact ⟨cs, h1, by rw [h2, hc]⟩
  obtain ⟨fuel, hf⟩ := h
  obtain ⟨xs, k, _, _, _, hxl, hat⟩ := DataW.trod_array Try.underlying36 hf
  obtain ⟨l⟩ := cs
  match l, hs with
  | [c0, c1], _ =>
    have h0 := hat 0 (by omega)
    have h1 := hat 1 (by omega)
    rw [Try.cells3, List.getElem?_eq_getElem (by omega)] at h0 h1
    obtain ⟨y0, e0, _⟩ := DataW.trod_int Try.underlying3 h0
    obtain ⟨y1, e1, _⟩ := DataW.trod_int Try.underlying3 h1
    simp [Value.cells] at e0 e1
    exact ⟨y0, y1, by rw [e0, e1]⟩
theorem Try.cells27 : Try.prog.cellsOf 27 = 1 := by kernel_rfl
/-- A table that comes in, as lists. -/
theorem open_rows {r : Reach} {b0 : Nat} {v : Value} {d : DataW H} {p : List MemPlace} (hv : Value.okWide Try.prog W r b0 22 v) (h : DataW.Trod enc Try.prog W 0 (fun _ => true) true 22 v d p) :
    ∃ A c L, v = .slice A L.length c ∧ L.length ≤ c ∧ c ≤ maxLen ∧ RowsIn W A L := by
  obtain ⟨A, l, c, rfl⟩ := okWide_slice Try.underlying22 hv
  obtain ⟨fuel, hf⟩ := h
  rcases Go.Deep.open_int_rows Try.underlying22 Try.underlying27 Try.underlying3 Try.cells27 Try.cells3 hf with ⟨hcs, _⟩ | ⟨a, len, cap, Ar, Ln, Cp, Z, hcs, _, hl, hm, _, hx⟩
  · simp [Value.cells] at hcs
    obtain ⟨rfl, rfl, rfl⟩ := hcs
    exact ⟨none, 0, [], rfl, by simp, by simp, fun h => absurd h (by simp)⟩
  · simp [Value.cells] at hcs
    obtain ⟨rfl, rfl, rfl⟩ := hcs
    have hlen : ((List.range l).map fun r => (Z r).take (Ln r)).length = l := by simp
    refine ⟨some a, c, (List.range l).map fun r => (Z r).take (Ln r), by rw [hlen], by omega, hm, fun hp => ?_⟩
    rw [hlen] at hp
    have g0 := (hx 0 (by omega)).1
    have hsp : a.spot = none := by
      have := World.cell?_spot g0
      simpa [Addr.add] using this
    obtain ⟨b, o, sp⟩ := a
    dsimp only at hsp
    subst hsp
    refine ⟨b, o, rfl, by have := cell_lt g0; simpa [Addr.add] using this, fun i hi => ?_⟩
    rw [hlen] at hi
    obtain ⟨h1, h2, h3, h4, _, h6, h7⟩ := hx i (by omega)
    have hg : getl ((List.range l).map fun r => (Z r).take (Ln r)) i = (Z i).take (Ln i) := by
      unfold getl
      rw [List.getD_eq_getElem?_getD, List.getElem?_map, List.getElem?_range hi]; rfl
    have hgl : ((Z i).take (Ln i)).length = Ln i := by rw [List.length_take]; omega
    rw [hg, hgl]
    rw [WideShapes.add_plain] at h1
    refine ⟨Ar i, Cp i, h1, h2, h3, fun hp2 => ?_⟩
    rw [hgl] at hp2
    cases hA : Ar i with
    | none => have := h6 hA; omega
    | some a' =>
      have h8 := (h7 a' hA).2
      have k0 := h8 0 (by omega)
      have hsp2 : a'.spot = none := by
        have := World.cell?_spot k0
        simpa [Addr.add] using this
      obtain ⟨b', o', sp'⟩ := a'
      dsimp only at hsp2
      subst hsp2
      refine ⟨b', o', rfl, by have := cell_lt k0; simpa [Addr.add] using this, fun j hj => ?_⟩
      rw [hgl] at hj
      have := h8 j (by omega)
      rw [WideShapes.add_plain] at this
      rw [this, geti_take _ _ _ hj]; rfl
end
end Go.Proofs.Ytnnaaoobdofooaa
