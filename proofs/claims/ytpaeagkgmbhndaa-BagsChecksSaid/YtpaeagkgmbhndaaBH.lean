/- BagsChecks returns true for every input: for any number, any list of edges, any set and any share. No condition. -/
import Derived.Lib.SmallJoins
import Derived.OpenShut
import Derived.Test.YtpaeagkgmbhndaaBG
import Derived.Test.YtpaeagkgmbhndaaZK
namespace Go.Proofs.Ytpaeagkgmbhndaa
open Go.ChangeShapes Go.WideShapes Go.ChangeAt Go.RowKit
set_option maxRecDepth 100000
section
variable {H : Type} {enc : TypeId × Value → H} {W : World}
theorem open_twos {t e : TypeId} {fuel : Nat} {v : Value} {x : DataW H × List MemPlace} (ht : Try.prog.underlying t = some (.slice e)) (ce : Try.prog.cellsOf e = 2)
    (hread : ∀ n cs x, cs.length = 2 → DataW.trod enc Try.prog W 0 (fun _ => true) true n e cs = some x → ∃ q : Int × Int, cs = [.int .i64 q.1, .int .i64 q.2])
    (h : DataW.trod enc Try.prog W 0 (fun _ => true) true fuel t [v] = some x) : ∃ A c es, v = .slice A es.length c ∧ es.length ≤ c ∧ c ≤ maxLen ∧ PairsAt W A es := by
  rcases Deep.open_slice ht h with ⟨hcs, _⟩ | ⟨a, l, m, m', n, D, Pl, hcs, _, hl, hm, hz, _, hcell⟩
  · injection hcs with hcs _
    subst hcs
    exact ⟨none, 0, [], rfl, by simp, by simp, fun h => absurd h (by simp)⟩
  · injection hcs with hcs _
    subst hcs
    simp only [if_true] at hz
    subst hz
    have hk : ∀ i, ∃ q : Int × Int, i < m' → W.cell? (a.add (i * 2)) = some (.int .i64 q.1) ∧ W.cell? ((a.add (i * 2)).add 1) = some (.int .i64 q.2) := fun i => by
      by_cases hi : i < m'
      · obtain ⟨cs', h1, h2⟩ := hcell i hi
        rw [ce] at h1
        obtain ⟨_, hlen, hat⟩ := World.cells?_some h1
        obtain ⟨q, rfl⟩ := hread _ _ _ hlen h2
        exact ⟨q, fun _ => ⟨by have := hat 0 (by omega); simpa [Addr.add] using this, hat 1 (by omega)⟩⟩
      · exact ⟨(0, 0), fun h => absurd h hi⟩
    obtain ⟨Q, hQ⟩ := Classical.axiomOfChoice hk
    have hlen : ((List.range l).map Q).length = l := by simp
    refine ⟨some a, m', (List.range l).map Q, by rw [hlen], by omega, hm, fun hp => ?_⟩
    rw [hlen] at hp ⊢
    have g0 := (hQ 0 (by omega)).1
    have hsp : a.spot = none := by
      have := World.cell?_spot g0
      simpa [Addr.add] using this
    obtain ⟨b, o, sp⟩ := a
    dsimp only at hsp
    subst hsp
    refine ⟨b, o, rfl, by have := cell_lt g0; simpa [Addr.add] using this, fun i hi => ?_⟩
    obtain ⟨c1, c2⟩ := hQ i (by omega)
    rw [WideShapes.add_plain, WideShapes.add_plain] at c2
    rw [WideShapes.add_plain] at c1
    have ep : ((List.range l).map Q).getD i (0, 0) = Q i := by
      rw [List.getD_eq_getElem?_getD, List.getElem?_map, List.getElem?_range hi]; rfl
    unfold pA pB
    rw [ep]
    exact ⟨c1, c2⟩
theorem read65 (n : Nat) (cs : List Value) (x : DataW H × List MemPlace) (hl : cs.length = 2) (h : DataW.trod enc Try.prog W 0 (fun _ => true) true n 65 cs = some x) : ∃ q : Int × Int, cs = [.int .i64 q.1, .int .i64 q.2] := by
  obtain ⟨xs, k, _, _, _, hxl, hat⟩ := DataW.trod_array Try.underlying65 h
  match cs, hl with
  | [c0, c1], _ =>
    have h0 := hat 0 (by omega)
    have h1 := hat 1 (by omega)
    rw [Try.cells3, List.getElem?_eq_getElem (by omega)] at h0 h1
    obtain ⟨y0, e0, _⟩ := DataW.trod_int Try.underlying3 h0
    obtain ⟨y1, e1, _⟩ := DataW.trod_int Try.underlying3 h1
    simp at e0 e1
    exact ⟨(y0, y1), by rw [e0, e1]⟩
theorem open_listT {t : TypeId} {fuel : Nat} {v : Value} {x : DataW H × List MemPlace} (ht : Try.prog.underlying t = some (.slice 3)) (h : DataW.trod enc Try.prog W 0 (fun _ => true) true fuel t [v] = some x) :
    ∃ A c xs, v = .slice A xs.length c ∧ xs.length ≤ c ∧ c ≤ maxLen ∧ IntsAt W A xs := by
  rcases open_ints ht Try.underlying3 Try.cells3 h with ⟨hcs, _⟩ | ⟨a, l, c, zs, hcs, _, hl, hm, hz, _, hcell, _⟩
  · injection hcs with hcs _
    subst hcs
    exact ⟨none, 0, [], rfl, by simp, by simp, fun h => absurd h (by simp)⟩
  · injection hcs with hcs _
    subst hcs
    simp only [if_true] at hz
    have hlen : (zs.take l).length = l := by rw [List.length_take]; omega
    refine ⟨some a, c, zs.take l, by rw [hlen], by omega, hm, fun hp => ?_⟩
    rw [hlen] at hp ⊢
    have g0 := hcell 0 (by omega)
    have hsp : a.spot = none := by
      have := World.cell?_spot g0
      simpa [Addr.add] using this
    obtain ⟨b, o, sp⟩ := a
    dsimp only at hsp
    subst hsp
    refine ⟨b, o, rfl, by have := cell_lt g0; simpa [Addr.add] using this, fun i hi => ?_⟩
    have := hcell i (by omega)
    rw [WideShapes.add_plain] at this
    rw [this, geti_take _ _ _ hi]; rfl
end
theorem bagsChecks_lifted (os : Os) (started : os.Started) (H : Type) (enc : TypeId × Value → H) :
    ReturnsInHanded {} Try.checked os 4 .any (Rows.bagsChecksSpec.pre6 enc Try.prog Try.f4 Rows.bagsChecksRow.domain false) (Rows.bagsChecksSpec.post enc Try.prog Try.f4 false true false false) := by
  refine returnsInHanded_of_change (C := Try.checked) Try.own started (by kernel_rfl) Try.func4
    (ChangeSpec.witness6 (enc := enc) (C := Try.checked) false ⟨#[], #[.int .i64 0, .slice none 0 0, .agg #[.slice none 0 0, .slice none 0 0]], []⟩ 8 (by kernel_rfl) (by kernel_rfl) (by kernel_rfl) (by kernel_rfl)) ?_
  intro W base args ds gs before hval0 hW hcnd _
  have hval : ∀ (j : Nat) t v, Try.f4.params[j]? = some t → args[j]? = some v → Value.okWide Try.prog W .any base t v := hval0
  have hW' := hW
  obtain ⟨p, q, hA0, hV, rfl, hfz, hnd⟩ := hW
  have hA : DataW.TrodAll enc Try.prog W 0 (fun _ => true) true Try.f4.params.toList args.toList ds p := hA0
  rw [Try.params4] at hA hval
  obtain ⟨v0, v1, v2, d0, d1, d2, p0, p1, p2, rfl, rfl, rfl, h0, h1, h2⟩ := trodAll_three hA
  obtain ⟨rfl, rfl⟩ := trodVars_none hV
  obtain ⟨n, rfl, rfl, rfl, w0⟩ := open_int Try.underlying3 (hval 0 3 v0 rfl rfl) h0
  obtain ⟨A, c, es, rfl, hx, hc, ha⟩ := open_pairs Try.underlying22 Try.underlying67 (by kernel_rfl) rfl rfl rfl rfl (hval 1 22 v1 rfl rfl) h1
  obtain ⟨x0, x1, y0, y1, k, rfl, rfl, rfl, t0, t1⟩ := Joins.open_agg2 Try.underlying39 (by kernel_rfl) (by kernel_rfl) (hval 2 39 v2 rfl rfl) h2
  obtain ⟨B, d, xs, rfl, hx2, hd, hb⟩ := open_listT Try.underlying24 t0
  obtain ⟨C, j, ss, rfl, hx3, hj, hs⟩ := open_twos Try.underlying27 (by kernel_rfl) read65 t1
  refine (BagsChecks_any n A B C c d j es xs ss W hx hc hx2 hd hx3 hj ha hb hs).mono fun e W' ⟨he, hg⟩ => ?_
  subst he
  exact ⟨_, rfl, law_post Try.laidOut Try.underlying4 rfl rfl (by rw [Try.params4]; exact of_decide_eq_true (by kernel_rfl)) hW' rfl rfl rfl hg⟩
theorem bagsChecks_holds : Rows.BagsChecksSaid :=
  OpenClaim.holds_of_wide 4 Try.f4 rfl rfl rfl rfl rfl rfl rfl ⟨rfl, rfl, rfl, rfl, rfl⟩ rfl rfl rfl rfl rfl (by kernel_rfl) Try.func4 (by kernel_rfl)
    (of_decide_eq_true (by kernel_rfl)) (by unfold Func.isWrapper; first | (rw [if_pos (by decide +kernel)]; kernel_rfl) | (rw [if_neg (by decide +kernel)]; exact ⟨rfl, rfl⟩))
    (fun os started H enc _ => bagsChecks_lifted os started H enc)
#print axioms bagsChecks_holds
end Go.Proofs.Ytpaeagkgmbhndaa
