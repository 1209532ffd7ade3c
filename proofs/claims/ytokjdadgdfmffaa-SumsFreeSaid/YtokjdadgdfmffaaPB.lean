/- The sums of all parts, written as lists. -/
import Derived.Test.YtokjdadgdfmffaaPA
import Derived.Test.YtokjdadgdfmffaaMH
import Derived.Test.YtokjdadgdfmffaaKH
import Derived.Test.YtokjdadgdfmffaaKL
/- The sums of all parts. -/
namespace Go.Proofs.Ytokjdadgdfmffaa
open Go.RowKit Go.Maps Go.Sort Go.Lib
set_option maxHeartbeats 1000000
set_option maxRecDepth 100000
/-- Which elements are sums of parts. -/
def sR (m n : Nat) : List (Int × Int) → Int → Int → Bool
  | [], _, _ => false
  | e :: l, a, b => sR m n l a b || (decide (e.1 = a ∧ e.2 = b) || sR m n l ((a - e.1) % m) ((b - e.2) % n))
def prf (es : List (Int × Int)) (k : Nat) : List (Int × Int) := (es.take k).reverse
theorem prf_succ (es : List (Int × Int)) {k : Nat} (h : k < es.length) : prf es (k + 1) = es[k] :: prf es k := by
  unfold prf
  rw [List.take_succ_eq_append_getElem h, List.reverse_append]; rfl
theorem size_le {m n : Nat} (hg : Gr m n) {w : World} {b nn : Nat} {D : DataW Unit} (h : w.ownsMap Try.prog 69 bR b nn D) (hK : KeyE m n D) : Maps.size D ≤ 576 := by
  classical
  obtain ⟨es, rfl, hpw, hkl⟩ := h.entries K69
  have h1 := lenP (es.map (·.1)) ((allE m n).map fun x => KE x.1 x.2) (List.pairwise_map.2 hpw) fun l hl => by
    obtain ⟨p, hp, rfl⟩ := List.mem_map.1 hl
    obtain ⟨a, b, hel, e⟩ := hK p.1 (by rw [has_eq]; exact List.any_eq_true.2 ⟨p, hp, WideAt.sameKey_self (hkl p hp)⟩)
    rw [e]
    exact List.mem_map.2 ⟨(a, b), mem_allE (a, b) hel, rfl⟩
  have h2 : m * n ≤ 24 * 24 := Nat.mul_le_mul hg.2.1 hg.2.2.2
  unfold allE at h1
  simp only [List.length_map, List.length_range] at h1
  show es.length ≤ 576
  omega
theorem grown_of {w w' : World} (h : Below w.heap.size w w') : w.grownBy w' none := ⟨h.os, h.tape, h.output, h.size, fun k hk _ => h.block k hk⟩
theorem sub_add_mod {a y : Int} {m : Nat} (h0 : 0 ≤ a) (h1 : a < m) : ((a - y) % m + y) % m = a := by
  rw [Int.emod_add_emod]
  rw [show a - y + y = a by omega, Int.emod_eq_of_lt h0 h1]
theorem add_sub_mod {a y : Int} {m : Nat} (h0 : 0 ≤ a) (h1 : a < m) : ((a + y) % m - y) % m = a := by
  rw [Int.emod_sub_emod]
  rw [show a + y - y = a by omega, Int.emod_eq_of_lt h0 h1]
def SumL (m n : Nat) (es ss : List (Int × Int)) : Prop := ss.Nodup ∧ (∀ x ∈ ss, El m n x.1 x.2) ∧ ∀ x : Int × Int, El m n x.1 x.2 → (x ∈ ss ↔ sR m n (prf es es.length) x.1 x.2 = true)
theorem sums_any (m n g : Nat) (es : List (Int × Int)) (w : World) (hg : Gr m n) (hes : ∀ i (h : i < es.length), El m n es[i].1 es[i].2) (hN : es.length ≤ 60) (hr : Row w g 69 (pcs es)) :
    Calls Try.prog 57 #[pv m n, .slice (some ⟨g, 0, none⟩) es.length es.length] w fun e w' => ∃ (ss : List (Int × Int)) (A : Option Addr) (c : Nat), e = .returned (.slice A ss.length c) ∧ SumL m n es ss ∧ PairsAt w' A (srt2 ss) ∧ Below w.heap.size w w' := by
  have hmm : ∀ W : World, (Instr.makeMap 94 none).run Try.prog W = .ok (.map (some W.heap.size)) (W.alloc (.map #[] 0)) := fun W => rfl
  have hgl := hr.lt
  go_enter Try.func57, Try.ntmps57
  go_wp2
  have r0 : Row ((w.alloc (.cells #[.int .i64 m, .int .i64 n] 63)).alloc (.map #[] 0)) w.heap.size 63 [.int .i64 m, .int .i64 n] := Row.alloc (row_new rfl) _
  have m0 : ((w.alloc (.cells #[.int .i64 m, .int .i64 n] 63)).alloc (.map #[] 0)).ownsMap Try.prog 69 bR (w.heap.size + 1) 0 (.map []) := by
    have h := World.ownsMap_made (H := Unit) (w.alloc (.cells #[.int .i64 m, .int .i64 n] 63)) Try.prog 69 bR
    rwa [World.size_alloc] at h
  have b0 : Below w.heap.size w ((w.alloc (.cells #[.int .i64 m, .int .i64 n] 63)).alloc (.map #[] 0)) := by (repeat (first | exact Below.refl _ _ | assumption | (refine Below.setCell ?_ (by first | exact Nat.le_refl _ | omega | (simp; done) | (simp; omega)) _) | (refine Below.trans ?_ (below_drewN _)) | (refine Below.drew ?_) | (refine Below.alloc ?_ (by first | exact Nat.le_refl _ | omega | (simp; done) | (simp; omega)) _) | (refine below_row ?_ (by first | exact Nat.le_refl _ | omega | (simp; done) | (simp; omega)) _)))
  generalize ((w.alloc (.cells #[.int .i64 m, .int .i64 n] 63)).alloc (.map #[] 0)) = w1 at *
  go_loopw [13] (fun i wr => ∃ (k nD : Nat) (D : DataW Unit), k ≤ es.length ∧ i = .int .i64 k ∧ Row wr w.heap.size 63 [.int .i64 m, .int .i64 n] ∧ wr.ownsMap Try.prog 69 bR (w.heap.size + 1) nD D ∧ nD ≤ k * 1200 ∧ KeyE m n D ∧ Hid (∀ a b, El m n a b → has D (KE a b) = sR m n (prf es k) a b) ∧ Below w.heap.size w wr) (fun i _ => es.length - (intOf i).toNat)
  case atStart => exact ⟨0, 0, .map [], by omega, rfl, r0, m0, by omega, fun kl h => by simp [has] at h, Lib.hid fun a b _ => rfl, b0⟩
  case round =>
    obtain ⟨k, nD, D, hk, rfl, r1, m1, hnD, hKE, HS, b1⟩ := hrel
    by_cases hlt : k < es.length
    · have hel := hes k hlt
      have hp := pcs_at es k hlt
      have hre := prf_succ es hlt
      obtain ⟨y1, y2, hy⟩ : ∃ y1 y2, es[k] = (y1, y2) := ⟨_, _, rfl⟩
      rw [hy] at hel hp hre
      simp only at hel hp
      have rg := hr.below b1
      obtain ⟨p1, p2⟩ := hp
      rw [← rg.cell] at p1 p2
      have HRE := Lib.hid hre
      have hkey := key_el hg hel
      have hkey2 : keyOf Try.prog 69 (.agg #[.int .i64 y1, .int .i64 y2]) = some (KE y1 y2) := hkey
      have mm := World.ownsMap_made (H := Unit) (wr.alloc (.cells #[.int .i64 y1, .int .i64 y2] 69)) Try.prog 69 bR
      rw [World.size_alloc] at mm
      obtain ⟨w2, hrun2, hm2, hg2⟩ := mm.update (val := .bool true) (d := .lit (.bool true)) (ps := []) K69 Try.underlying94 (by unfold maxLen; omega) hkey2 rfl
      have hsz := b1.size
      have hml := m1.lt
      have mA := (m1.alloc (.cells #[.int .i64 y1, .int .i64 y2] 69)).alloc (.map #[] 0)
      clear hre hy
      obtain ⟨q, hq⟩ : ∃ q, wr.heap.size = q := ⟨_, rfl⟩
      have rq : Row ((wr.alloc (.cells #[.int .i64 y1, .int .i64 y2] 69)).alloc (.map #[] 0)) q 69 [.int .i64 y1, .int .i64 y2] := Row.alloc (row_new hq) _
      have r2 : Row ((wr.alloc (.cells #[.int .i64 y1, .int .i64 y2] 69)).alloc (.map #[] 0)) w.heap.size 63 [.int .i64 m, .int .i64 n] := (r1.alloc _).alloc _
      have bq : Below w.heap.size w ((wr.alloc (.cells #[.int .i64 y1, .int .i64 y2] 69)).alloc (.map #[] 0)) := by (repeat (first | exact Below.refl _ _ | assumption | (refine Below.setCell ?_ (by first | exact Nat.le_refl _ | omega | (simp; done) | (simp; omega)) _) | (refine Below.trans ?_ (below_drewN _)) | (refine Below.drew ?_) | (refine Below.alloc ?_ (by first | exact Nat.le_refl _ | omega | (simp; done) | (simp; omega)) _) | (refine below_row ?_ (by first | exact Nat.le_refl _ | omega | (simp; done) | (simp; omega)) _)))
      rw [hq] at hm2 hg2 hml hsz hrun2
      have mA2 := mA.kept hg2 (fun e => by have := Option.some.inj e; omega)
      have rq2 := rq.grown hg2 (fun e => by have := Option.some.inj e; omega)
      have r22 := r2.grown hg2 (fun e => by have := Option.some.inj e; omega)
      have bq2 : Below w.heap.size w w2 := bq.grown hg2 bq.size (fun k e => by have := Option.some.inj e; omega)
      have hsm := size_le hg mA2 hKE
      have hKm : KeyE m n ((DataW.map (H := Unit) []).put (KE y1 y2) (.lit (.bool true))) := fun kl h => by
        by_cases e : kl = KE y1 y2
        · exact ⟨y1, y2, hel, e⟩
        · rw [has_put_other e] at h; simp [has] at h
      have hHm : ∀ a b, El m n a b → has ((DataW.map (H := Unit) []).put (KE y1 y2) (.lit (.bool true))) (KE a b) = decide (y1 = a ∧ y2 = b) := fun a b hab => by
        by_cases e : y1 = a ∧ y2 = b
        · obtain ⟨rfl, rfl⟩ := e
          rw [has_put_same ⟨_, rfl⟩ (K69.key hkey)]; simp
        · rw [has_put_other (fun e2 => e (by have := KE_inj hg hab hel e2; exact ⟨this.1.symm, this.2.symm⟩)), decide_eq_false e]; rfl
      have HHM := Lib.hid hHm
      clear hHm rq r2 bq mA mm
      go_wp2_with (first
        | (at_range; refine wpList_range_own _ rfl _ 94 rfl 69 4 K69 Try.underlying94 bR (w.heap.size + 1) nD _ rfl mA2 ?_; intro w3 hrg3 hg3 hs3)
        | go_in)
      go_frame
      go_loopw [22] (fun _ wi => ∃ (left : Lit → Bool) (cnt : Nat) (Dm : DataW Unit), wi.ranges Try.prog 69 bR (w.heap.size + 1) w2.heap.size nD D left cnt ∧ cnt ≤ Maps.size D ∧ wi.ownsMap Try.prog 69 bR (q + 1) (1 + (Maps.size D - cnt)) Dm ∧ KeyE m n Dm ∧
          Hid (∀ a b, El m n a b → has Dm (KE a b) = (decide (y1 = a ∧ y2 = b) || (has D (KE ((a - y1) % m) ((b - y2) % n)) && !left (KE ((a - y1) % m) ((b - y2) % n))))) ∧ Row wi w.heap.size 63 [.int .i64 m, .int .i64 n] ∧ Row wi q 69 [.int .i64 y1, .int .i64 y2] ∧ Below w.heap.size w wi)
        (fun _ wi => wi.rangeLeft (w.heap.size + 1) w2.heap.size)
      case atStart =>
        exact ⟨_, _, _, hrg3, Nat.le_refl _, (hm2.kept hg3 (by simp)).mono (by omega), hKm, Lib.hid fun a b hab => by rw [HHM.out a b hab]; cases has D (KE ((a - y1) % m) ((b - y2) % n)) <;> simp, r22.grown hg3 (by simp), rq2.grown hg3 (by simp), bq2.grown hg3 bq2.size (fun k e => by cases e)⟩
      case round =>
        obtain ⟨left, cnt, Dm, hrg, hcs, hmm2, hKm2, HHM2, q1, q2, bi⟩ := hrel
        go_wp2_with (first
          | (at_next; refine wpList_next_ranges _ rfl _ rfl 69 K69 bR id id (fun key _ _ => ⟨key, rfl⟩) (fun v _ _ => ⟨v, rfl⟩) (w.heap.size + 1) w2.heap.size nD _ _ _ rfl hrg ?_ ?_)
          | go_in)
        · intro hc0 hl0
          have hsz2 := size_le hg hmm2 hKm2
          have hgA := hrg.owns
          have hCP := Lib.hid (Copy_any hg (w.heap.size + 1) (q + 1) nD _ D Dm _ hgA hmm2 hKm2 (by omega) (by unfold maxLen; omega))
          go_wp2_with (go_at_call 73; refine hCP.out.mono ?_; rintro e w5 ⟨rfl, D5, m5, h5, g5⟩)
          go_roundw
          case rel =>
            refine ⟨k + 1, _, D5, by omega, by go_num, q1.grown g5 (fun e => by have := Option.some.inj e; omega), m5, by omega, fun kl h => ?_, Lib.hid fun a b hab => ?_, bi.grown g5 bi.size (fun k e => by have := Option.some.inj e; omega)⟩
            · rw [h5, Bool.or_eq_true] at h
              rcases h with h | h
              · exact hKE kl h
              · exact hKm2 kl h
            · rw [h5, HRE.out, HHM2.out a b hab, hl0, HS.out a b hab, HS.out _ _ (el_mod hg _ _)]
              simp [sR]
          case measure => simp [intOf]; omega
        · intro x c kl yd yp v1 cnt1 hkeyx hlx hv hat hrg1 hlt1 hg1 hs1 hen
          have hhas := has_true_of_atKey hat
          obtain ⟨a, b', helx, rfl⟩ := hKE kl hhas
          have ex : x = encP (a, b') := K69.inj hkeyx (key_el hg helx)
          subst ex
          have hr2 := hrg.lt
          have hne1 : ∀ z, z < q + 2 → some z ≠ some w2.heap.size := fun z hz e => by have := Option.some.inj e; have := hm2.lt; omega
          have hm4 := (hmm2.kept hg1 (hne1 _ (by omega))).alloc (.cells #[.int .i64 a, .int .i64 b'] 69)
          have q3 := (q1.grown hg1 (hne1 _ (by omega))).alloc (.cells #[.int .i64 a, .int .i64 b'] 69)
          have q4 := (q2.grown hg1 (hne1 _ (by omega))).alloc (.cells #[.int .i64 a, .int .i64 b'] 69)
          have hrg2 := hrg1.alloc (.cells #[.int .i64 a, .int .i64 b'] 69)
          have bi2 : Below w.heap.size w (v1.alloc (.cells #[.int .i64 a, .int .i64 b'] 69)) := (bi.grown hg1 bi.size (fun k e => by have := Option.some.inj e; have := hm2.lt; omega)).alloc (by have := bi.size; omega) _
          obtain ⟨⟨f1, f2⟩, -⟩ := q3.cells2
          obtain ⟨⟨f3, f4⟩, -⟩ := q4.cells2
          have hkn := key_el hg (el_mod hg (a + y1) (b' + y2))
          have hkn2 : keyOf Try.prog 69 (.agg #[.int .i64 ((a + y1) % m), .int .i64 ((b' + y2) % n)]) = some (KE ((a + y1) % m) ((b' + y2) % n)) := hkn
          have hml2 := hmm2.lt
          have hmw := m1.lt
          go_wp2_with (first
            | (go_at_call 72; refine (plus_any m n a b' y1 y2 _ hg helx hel).mono ?_; rintro e v2 ⟨rfl, hb2⟩; have hm5 := hm4.kept (grown_of hb2) (by simp))
            | (at_mapUpdate; refine wpList_mapUpdate_own _ rfl _ _ _ 94 rfl 69 4 K69 Try.underlying94 bR (q + 1) _ _ rfl hm5 (by unfold maxLen; omega) _ (.bool true) _ rfl rfl hkn2 (.lit (.bool true)) [] rfl ?_; intro v3 hm6 hg6; go_frame)
            | go_in)
          have hrg4 := (hrg2.kept (grown_of hb2) (by simp) (by simp)).kept hg6 (fun e => by have := Option.some.inj e; omega) (fun e => hne1 (q + 1) (by omega) e.symm)
          have q5 := (q3.below hb2).grown hg6 (fun e => by have := Option.some.inj e; omega)
          have q6 := (q4.below hb2).grown hg6 (fun e => by have := Option.some.inj e; omega)
          have bi3 : Below w.heap.size w v3 := (bi2.trans (hb2.mono bi2.size)).grown hg6 (Nat.le_trans bi2.size hb2.size) (fun k e => by have := Option.some.inj e; omega)
          go_roundw
          case rel =>
            refine ⟨_, cnt1, _, hrg4, by omega, hm6.mono (by omega), fun kl h => ?_, Lib.hid fun a0 b0 h0 => ?_, q5, q6, bi3⟩
            · by_cases e : kl = KE ((a + y1) % m) ((b' + y2) % n)
              · exact ⟨_, _, el_mod hg _ _, e⟩
              · rw [has_put_other e] at h; exact hKm2 kl h
            · have hX := el_mod hg (a0 - y1) (b0 - y2)
              show _ = (_ || (_ && !(left (KE ((a0 - y1) % m) ((b0 - y2) % n)) && !(KE ((a0 - y1) % m) ((b0 - y2) % n)).sameKey (KE a b'))))
              by_cases eX : (a0 - y1) % m = a ∧ (b0 - y2) % n = b'
              · rw [eX.1, eX.2, hhas, WideAt.sameKey_self (K69.key (key_el hg helx))]
                have e1 : a0 = (a + y1) % m := by rw [← eX.1]; exact (sub_add_mod h0.1 h0.2.1).symm
                have e2 : b0 = (b' + y2) % n := by rw [← eX.2]; exact (sub_add_mod h0.2.2.1 h0.2.2.2).symm
                rw [e1, e2, has_put_same hm5.isMap (K69.key hkn)]
                cases left (KE a b') <;> simp
              · have e1 : KE a0 b0 ≠ KE ((a + y1) % m) ((b' + y2) % n) := fun e => eX (by
                  obtain ⟨e1, e2⟩ := KE_inj hg h0 (el_mod hg _ _) e
                  rw [e1, e2]
                  exact ⟨add_sub_mod helx.1 helx.2.1, add_sub_mod helx.2.2.1 helx.2.2.2⟩)
                rw [has_put_other e1, HHM2.out a0 b0 h0, sameKey_ne (fun e => eX (KE_inj hg hX helx e))]
                simp
          case measure => rw [hrg4.left_eq, hrg.left_eq]; exact hlt1
    · obtain rfl : k = es.length := by omega
      have hsz := b1.size
      have hml := m1.lt
      have hs1 := size_le hg m1 hKE
      have HK := Lib.hid (fun W => keys_any (some (w.heap.size + 1)) W)
      have hbx : Row (wr.alloc (.cells #[.map (some (w.heap.size + 1))] 94)) wr.heap.size 94 [.map (some (w.heap.size + 1))] := row_new rfl
      have hSF := Lib.hid (sortedFunc_any hg wr.heap.size (w.heap.size + 1) nD D hKE (by omega) (wr.alloc (.cells #[.map (some (w.heap.size + 1))] 94)) (by simp) hbx.cells1.1 (m1.alloc _))
      go_wp2_with (first
        | (go_at_call 75; (with_reducible refine (HK.out _).mono ?_); rintro e w5 ⟨rfl, rfl⟩)
        | (go_at_call 74; refine hSF.out.mono ?_; rintro e w6 ⟨ss, A, c, rfl, hS, hP, hB⟩))
      go_ret
      exact ⟨ss, A, c, rfl, ⟨hS.1, hS.2.1, fun x hx => by rw [hS.2.2 x hx, HS.out _ _ hx]⟩, hP, (b1.alloc hsz _).trans (hB.mono (by simp; omega))⟩
end Go.Proofs.Ytokjdadgdfmffaa
/- The sums written as lists. -/
namespace Go.Proofs.Ytokjdadgdfmffaa
open Go.RowKit
set_option maxHeartbeats 1000000
set_option maxRecDepth 100000
/-- An element as it is written. -/
def dec (m : Nat) (x : Int × Int) : List Int := if m = 1 then [x.2] else [x.1, x.2]
/-- A row of ints at the beginning of its block. -/
def Row0 (w : World) (b : Nat) (xs : List Int) : Prop := ∃ c cur, w.heap[b]? = some (.cells cur 3 (0, 0)) ∧ xs.length ≤ c ∧ cur.size = c ∧ cur.toList.take xs.length = iv xs
theorem Row0.lt {w : World} {b : Nat} {xs : List Int} (h : Row0 w b xs) : b < w.heap.size := by obtain ⟨c, cur, e, -⟩ := h; exact (Array.getElem?_eq_some_iff.1 e).1
theorem Row0.of {w w' : World} {b : Nat} {xs : List Int} (h : Row0 w b xs) (e : w'.heap[b]? = w.heap[b]?) : Row0 w' b xs := by
  obtain ⟨c, cur, e2, h2⟩ := h
  exact ⟨c, cur, e.trans e2, h2⟩
theorem Row0.ints {w : World} {b : Nat} {xs : List Int} (h : Row0 w b xs) : IntsAt w (some ⟨b, 0, none⟩) xs := fun _ => by
  obtain ⟨c, cur, e, h1, h2, h3⟩ := h
  refine ⟨b, 0, rfl, (Array.getElem?_eq_some_iff.1 e).1, fun i hi => ?_⟩
  have h4 := congrArg (fun l => l[i]?) h3
  simp only [List.getElem?_take] at h4
  rw [if_pos hi] at h4
  rw [Nat.zero_add]
  simp only [World.cell?, e]
  have h5 : cur[i]? = (iv xs)[i]? := by rw [← h4]; simp
  rw [h5]
  unfold iv
  rw [List.getElem?_map, List.getElem?_eq_getElem hi, geti_eq hi]; rfl
theorem ia_one {w : World} {g : Nat} {x1 x2 : Int} (h : Row w g 69 [.int .i64 x1, .int .i64 x2]) : IntsAt w (some ⟨g, 1, none⟩) [x2] := fun _ => ⟨g, 1, rfl, h.lt, fun i hi => by
  have : i = 0 := by simp at hi; omega
  subst this
  exact h.cells2.1.2⟩
theorem ia_two {w : World} {g : Nat} {x1 x2 : Int} (h : Row w g 69 [.int .i64 x1, .int .i64 x2]) : IntsAt w (some ⟨g, 0, none⟩) [x1, x2] := iv_ints (xs := [x1, x2]) h
/-- New rows. -/
def RowsN (B : Nat) (w : World) (G : Nat) (L : List (List Int)) : Prop := ∃ cs : List Value, cs.length = L.length ∧ Row w G 22 cs ∧ ∀ j (h : j < L.length), ∃ b c, B ≤ b ∧ cs[j]? = some (.slice (some ⟨b, 0, none⟩) L[j].length c) ∧ Row0 w b L[j]
theorem Clone_any (b o c : Nat) (xs : List Int) (w : World) (hx : xs.length ≤ 1000000) (h1 : IntsAt w (some ⟨b, o, none⟩) xs) :
    Calls Try.prog 69 #[.slice (some ⟨b, o, none⟩) xs.length c] w fun e w' => ∃ g' c', e = .returned (.slice (some ⟨g', 0, none⟩) xs.length c') ∧ w.heap.size ≤ g' ∧ Row0 w' g' xs ∧ Below w.heap.size w w' := by
  obtain ⟨j0, ji, jz0, jz1, jz2⟩ := info_parts info3
  have o2 : (w.alloc (.cells #[] 3)).ownsRow w.heap.size 3 1 (.slice (some ⟨w.heap.size, 0, none⟩) 0 0) 0 [] := ⟨rfl, .inr ⟨w.heap.size, 0, #[], rfl, Nat.le_refl _, heap_alloc_new _ _, Nat.le_refl _, by unfold maxLen; omega, rfl, rfl⟩⟩
  have b2 : Below w.heap.size w (w.alloc (.cells #[] 3)) := (Below.refl _ w).alloc (Nat.le_refl _) _
  replace h1 := h1.below b2
  have hb2 := b2.size
  have q24 : ∀ (w : World) (a : Option Addr) (n c n' c' : Nat), (binOp .eql 22 (.slice a n c) (.slice none n' c')).run Try.prog w = .ok (.bool a.isNone) w := fun w a n c n' c' => Lib.run_eql_slice_nil w _ _ a n c n' c' Try.underlying22
  go_enter Try.func69, Try.ntmps69
  go_wp2_with (at_builtin; refine wpList_append_own_at _ rfl (.tmp 5) (.tmp 6) 22 rfl w.heap.size 3 j0 (.int .i64 0) 1 8 Try.underlying22 ji jz0 jz1 jz2 rfl (by decide) _ _ _ rfl o2 ⟨b, o, none⟩ xs.length c (iv xs) rfl (by simp [iv]) (news_ints h1) (iv_one _) (by unfold maxLen; omega) (by omega) hb2 ?_; intro v3 w3 o3 hg3 hnil _)
  go_ret
  have o4 : w3.ownsRow w.heap.size 3 1 v3 xs.length (iv xs) := by simpa using o3
  have hbb := b2.trans ((Below.refl w.heap.size _).grown hg3 hb2 (fun g hg => (own_ge o2 hg).1))
  rcases o4.2 with ⟨rfl, h0⟩ | ⟨g', c', cur, rfl, hg, hh, k1, k2, k3, k4⟩
  · exact absurd ((hnil.1 rfl).1) (by simp [Act.eval, go_sem])
  · exact ⟨g', c', rfl, hg, ⟨c', cur, hh, k1, by simpa using k3, by simpa using k4⟩, hbb⟩

theorem writeAll_one (A : Option Addr) (c m n : Nat) (ds : List (Int × Int)) (w : World) (hl : ds.length ≤ 1000) (hm : m = 1) (hp : PairsAt w A ds) :
    Calls Try.prog 55 #[pv m n, .slice A ds.length c] w fun e w' => ∃ G, e = .returned (.slice (some ⟨G, 0, none⟩) ds.length ds.length) ∧ w.heap.size ≤ G ∧ RowsN w.heap.size w' G (ds.map (dec m)) ∧ Below w.heap.size w w' := by
  obtain ⟨Z, hZ, hZ0⟩ : ∃ Z : List Value, Z = List.replicate ds.length (Value.slice none 0 0) ∧ Z.length = ds.length := ⟨_, rfl, by simp⟩
  have hmk := make_tabI ds.length (by omega)
  rw [← hZ] at hmk
  clear hZ
  have HH := Lib.hid (fun W => hidden_one m n W hm)
  have HCL := Lib.hid Clone_any
  have HD : Hid (∀ x, dec m x = [x.2]) := Lib.hid (fun x => by unfold dec; rw [if_pos hm])
  clear hm
  go_enter Try.func55, Try.ntmps55
  go_wp2
  have r0 : Row ((w.alloc (.cells #[.int .i64 m, .int .i64 n] 63)).alloc (.cells Z.toArray 22)) w.heap.size 63 [.int .i64 m, .int .i64 n] := Row.alloc (row_new rfl) _
  have r1 : Row ((w.alloc (.cells #[.int .i64 m, .int .i64 n] 63)).alloc (.cells Z.toArray 22)) (w.heap.size + 1) 22 Z := row_new (by simp)
  have b0 : Below w.heap.size w ((w.alloc (.cells #[.int .i64 m, .int .i64 n] 63)).alloc (.cells Z.toArray 22)) := by (repeat (first | exact Below.refl _ _ | assumption | (refine Below.setCell ?_ (by first | exact Nat.le_refl _ | omega | (simp; done) | (simp; omega)) _) | (refine Below.trans ?_ (below_drewN _)) | (refine Below.drew ?_) | (refine Below.alloc ?_ (by first | exact Nat.le_refl _ | omega | (simp; done) | (simp; omega)) _) | (refine below_row ?_ (by first | exact Nat.le_refl _ | omega | (simp; done) | (simp; omega)) _)))
  have z0 : ((w.alloc (.cells #[.int .i64 m, .int .i64 n] 63)).alloc (.cells Z.toArray 22)).heap.size = w.heap.size + 2 := by simp
  generalize ((w.alloc (.cells #[.int .i64 m, .int .i64 n] 63)).alloc (.cells Z.toArray 22)) = w1 at *
  have HP := Lib.hid hp
  clear hp
  go_loopw [13] (fun i wr => ∃ (k : Nat) (cs : List Value), k ≤ ds.length ∧ i = .int .i64 k ∧ Row wr w.heap.size 63 [.int .i64 m, .int .i64 n] ∧ Row wr (w.heap.size + 1) 22 cs ∧ cs.length = ds.length ∧ w.heap.size + 2 ≤ wr.heap.size ∧
      Hid (∀ j, j < k → ∃ (h : j < ds.length) (b c : Nat), w.heap.size + 2 ≤ b ∧ cs[j]? = some (.slice (some ⟨b, 0, none⟩) (dec m ds[j]).length c) ∧ Row0 wr b (dec m ds[j])) ∧ Below w.heap.size w wr) (fun i _ => ds.length - (intOf i).toNat)
  case atStart => exact ⟨0, _, by omega, rfl, r0, r1, hZ0, by omega, Lib.hid fun j hj => absurd hj (by omega), b0⟩
  case round =>
    obtain ⟨k, cs, hk, rfl, q0, q1, hcl, hsz, HR, b1⟩ := hrel
    by_cases hlt : k < ds.length
    · obtain ⟨b, o, rfl, hb, hc⟩ := HP.out (by omega)
      obtain ⟨p1, p2⟩ := hc k hlt
      rw [← b1.cell hb] at p1 p2
      have HDK := Lib.hid (HD.out ds[k])
      have HX : Hid (∃ x, ds[k] = x) := Lib.hid ⟨_, rfl⟩
      obtain ⟨x, hx⟩ := HX.out
      obtain ⟨x1, x2⟩ := x
      rw [hx] at p1 p2 HDK
      have HXK := Lib.hid hx
      simp only at p1 p2
      have q2 : Row (wr.alloc (.cells #[.int .i64 x1, .int .i64 x2] 69)) wr.heap.size 69 [.int .i64 x1, .int .i64 x2] := row_new rfl
      have q3 := q0.alloc (.cells #[.int .i64 x1, .int .i64 x2] 69)
      have q4 := q1.alloc (.cells #[.int .i64 x1, .int .i64 x2] 69)
      have b2 : Below w.heap.size w (wr.alloc (.cells #[.int .i64 x1, .int .i64 x2] 69)) := by (repeat (first | exact Below.refl _ _ | assumption | (refine Below.setCell ?_ (by first | exact Nat.le_refl _ | omega | (simp; done) | (simp; omega)) _) | (refine Below.trans ?_ (below_drewN _)) | (refine Below.drew ?_) | (refine Below.alloc ?_ (by first | exact Nat.le_refl _ | omega | (simp; done) | (simp; omega)) _) | (refine below_row ?_ (by first | exact Nat.le_refl _ | omega | (simp; done) | (simp; omega)) _)))
      obtain ⟨⟨c0, c1⟩, -⟩ := q3.cells2
      clear hx hc HX
      obtain ⟨vk, hvk⟩ : ∃ v, cs[k]? = some v := ⟨_, List.getElem?_eq_getElem (by omega)⟩
      have hbk := hsz
      go_wp2_with (first
        | (go_at_call 68; (refine (HH.out _).mono ?_; rintro e w2 ⟨rfl, b3⟩; have q5 := q2.below b3; have q6 := q3.below b3; have q7 := q4.below b3; have b4 := b2.trans (b3.mono b2.size); obtain ⟨⟨d0, d1⟩, -⟩ := q5.cells2; have hia : IntsAt w2 (some ⟨wr.heap.size, 1, none⟩) [x2] := ia_one q5))
        | (go_at_call 69; refine (HCL.out wr.heap.size 1 1 [x2] _ (by simp) hia).mono ?_; rintro e w3 ⟨g3, c3, rfl, hg3, r3, b5⟩; have q8 := q7.below b5; have q9 := q6.below b5; have b6 := b4.trans (b5.mono b4.size); have hs5 := b3.size; have hs6 := b5.size; have fc := q8.free k; have fv : w3.cell? ⟨w.heap.size + 1, k, none⟩ = some vk := (q8.cell k).trans hvk; have hs : w.heap.size + 1 < w3.heap.size := q8.lt))
      have q10 := q8.set k (.slice (some ⟨g3, 0, none⟩) 1 c3)
      have hs5' : wr.heap.size + 1 ≤ w2.heap.size := by simpa using hs5
      have hg3' : w.heap.size + 2 ≤ g3 := by omega
      go_roundw
      case rel =>
        refine ⟨k + 1, _, by omega, by go_num, q9.far (by dsimp only; omega) _, q10, by simpa using hcl, by simp [World.setCell]; omega, Lib.hid fun j hj => ?_, b6.setCell (by dsimp only; omega) _⟩
        by_cases e : j = k
        · subst e
          refine ⟨hlt, g3, c3, hg3', ?_, ?_⟩
          · rw [List.getElem?_set_self (by omega), HXK.out, HDK.out]; rfl
          · rw [HXK.out, HDK.out]
            exact r3.of (Below.heap_setCell _ _ _ _ (by dsimp only; omega))
        · obtain ⟨h, b', c', h1, h2, h3⟩ := HR.out j (by omega)
          refine ⟨h, b', c', h1, by rw [List.getElem?_set_ne (Ne.symm e)]; exact h2, ?_⟩
          have hl3 := h3.lt
          exact h3.of (((Below.heap_setCell _ _ _ _ (by dsimp only; omega)).trans (b5.block b' (by omega))).trans ((b3.block b' (by simp; omega)).trans (Below.heap_alloc _ _ _ hl3)))
      case measure => simp [intOf]; omega
    · obtain rfl : k = ds.length := by omega
      go_wp2
      go_ret
      refine ⟨_, rfl, by omega, ⟨cs, by rw [List.length_map]; exact hcl, q1, fun j hj => ?_⟩, b1⟩
      obtain ⟨h, b', c', h1, h2, h3⟩ := HR.out j (by simpa using hj)
      exact ⟨b', c', by omega, by rw [List.getElem_map]; exact h2, by rw [List.getElem_map]; exact h3⟩

theorem writeAll_two (A : Option Addr) (c m n : Nat) (ds : List (Int × Int)) (w : World) (hl : ds.length ≤ 1000) (hm : m ≠ 1) (hp : PairsAt w A ds) :
    Calls Try.prog 55 #[pv m n, .slice A ds.length c] w fun e w' => ∃ G, e = .returned (.slice (some ⟨G, 0, none⟩) ds.length ds.length) ∧ w.heap.size ≤ G ∧ RowsN w.heap.size w' G (ds.map (dec m)) ∧ Below w.heap.size w w' := by
  obtain ⟨Z, hZ, hZ0⟩ : ∃ Z : List Value, Z = List.replicate ds.length (Value.slice none 0 0) ∧ Z.length = ds.length := ⟨_, rfl, by simp⟩
  have hmk := make_tabI ds.length (by omega)
  rw [← hZ] at hmk
  clear hZ
  have HH := Lib.hid (fun W => hidden_no m n W hm)
  have HCL := Lib.hid Clone_any
  have HD : Hid (∀ x, dec m x = [x.1, x.2]) := Lib.hid (fun x => by unfold dec; rw [if_neg hm])
  clear hm
  go_enter Try.func55, Try.ntmps55
  go_wp2
  have r0 : Row ((w.alloc (.cells #[.int .i64 m, .int .i64 n] 63)).alloc (.cells Z.toArray 22)) w.heap.size 63 [.int .i64 m, .int .i64 n] := Row.alloc (row_new rfl) _
  have r1 : Row ((w.alloc (.cells #[.int .i64 m, .int .i64 n] 63)).alloc (.cells Z.toArray 22)) (w.heap.size + 1) 22 Z := row_new (by simp)
  have b0 : Below w.heap.size w ((w.alloc (.cells #[.int .i64 m, .int .i64 n] 63)).alloc (.cells Z.toArray 22)) := by (repeat (first | exact Below.refl _ _ | assumption | (refine Below.setCell ?_ (by first | exact Nat.le_refl _ | omega | (simp; done) | (simp; omega)) _) | (refine Below.trans ?_ (below_drewN _)) | (refine Below.drew ?_) | (refine Below.alloc ?_ (by first | exact Nat.le_refl _ | omega | (simp; done) | (simp; omega)) _) | (refine below_row ?_ (by first | exact Nat.le_refl _ | omega | (simp; done) | (simp; omega)) _)))
  have z0 : ((w.alloc (.cells #[.int .i64 m, .int .i64 n] 63)).alloc (.cells Z.toArray 22)).heap.size = w.heap.size + 2 := by simp
  generalize ((w.alloc (.cells #[.int .i64 m, .int .i64 n] 63)).alloc (.cells Z.toArray 22)) = w1 at *
  have HP := Lib.hid hp
  clear hp
  go_loopw [13] (fun i wr => ∃ (k : Nat) (cs : List Value), k ≤ ds.length ∧ i = .int .i64 k ∧ Row wr w.heap.size 63 [.int .i64 m, .int .i64 n] ∧ Row wr (w.heap.size + 1) 22 cs ∧ cs.length = ds.length ∧ w.heap.size + 2 ≤ wr.heap.size ∧
      Hid (∀ j, j < k → ∃ (h : j < ds.length) (b c : Nat), w.heap.size + 2 ≤ b ∧ cs[j]? = some (.slice (some ⟨b, 0, none⟩) (dec m ds[j]).length c) ∧ Row0 wr b (dec m ds[j])) ∧ Below w.heap.size w wr) (fun i _ => ds.length - (intOf i).toNat)
  case atStart => exact ⟨0, _, by omega, rfl, r0, r1, hZ0, by omega, Lib.hid fun j hj => absurd hj (by omega), b0⟩
  case round =>
    obtain ⟨k, cs, hk, rfl, q0, q1, hcl, hsz, HR, b1⟩ := hrel
    by_cases hlt : k < ds.length
    · obtain ⟨b, o, rfl, hb, hc⟩ := HP.out (by omega)
      obtain ⟨p1, p2⟩ := hc k hlt
      rw [← b1.cell hb] at p1 p2
      have HDK := Lib.hid (HD.out ds[k])
      have HX : Hid (∃ x, ds[k] = x) := Lib.hid ⟨_, rfl⟩
      obtain ⟨x, hx⟩ := HX.out
      obtain ⟨x1, x2⟩ := x
      rw [hx] at p1 p2 HDK
      have HXK := Lib.hid hx
      simp only at p1 p2
      have q2 : Row (wr.alloc (.cells #[.int .i64 x1, .int .i64 x2] 69)) wr.heap.size 69 [.int .i64 x1, .int .i64 x2] := row_new rfl
      have q3 := q0.alloc (.cells #[.int .i64 x1, .int .i64 x2] 69)
      have q4 := q1.alloc (.cells #[.int .i64 x1, .int .i64 x2] 69)
      have b2 : Below w.heap.size w (wr.alloc (.cells #[.int .i64 x1, .int .i64 x2] 69)) := by (repeat (first | exact Below.refl _ _ | assumption | (refine Below.setCell ?_ (by first | exact Nat.le_refl _ | omega | (simp; done) | (simp; omega)) _) | (refine Below.trans ?_ (below_drewN _)) | (refine Below.drew ?_) | (refine Below.alloc ?_ (by first | exact Nat.le_refl _ | omega | (simp; done) | (simp; omega)) _) | (refine below_row ?_ (by first | exact Nat.le_refl _ | omega | (simp; done) | (simp; omega)) _)))
      obtain ⟨⟨c0, c1⟩, -⟩ := q3.cells2
      clear hx hc HX
      obtain ⟨vk, hvk⟩ : ∃ v, cs[k]? = some v := ⟨_, List.getElem?_eq_getElem (by omega)⟩
      have hbk := hsz
      go_wp2_with (first
        | (go_at_call 68; (refine (HH.out _).mono ?_; rintro e w2 ⟨rfl, b3⟩; have q5 := q2.below b3; have q6 := q3.below b3; have q7 := q4.below b3; have b4 := b2.trans (b3.mono b2.size); obtain ⟨⟨d0, d1⟩, -⟩ := q5.cells2; have hia : IntsAt w2 (some ⟨wr.heap.size, 0, none⟩) [x1, x2] := ia_two q5))
        | (go_at_call 69; refine (HCL.out wr.heap.size 0 2 [x1, x2] _ (by simp) hia).mono ?_; rintro e w3 ⟨g3, c3, rfl, hg3, r3, b5⟩; have q8 := q7.below b5; have q9 := q6.below b5; have b6 := b4.trans (b5.mono b4.size); have hs5 := b3.size; have hs6 := b5.size; have fc := q8.free k; have fv : w3.cell? ⟨w.heap.size + 1, k, none⟩ = some vk := (q8.cell k).trans hvk; have hs : w.heap.size + 1 < w3.heap.size := q8.lt))
      have q10 := q8.set k (.slice (some ⟨g3, 0, none⟩) 2 c3)
      have hs5' : wr.heap.size + 1 ≤ w2.heap.size := by simpa using hs5
      have hg3' : w.heap.size + 2 ≤ g3 := by omega
      go_roundw
      case rel =>
        refine ⟨k + 1, _, by omega, by go_num, q9.far (by dsimp only; omega) _, q10, by simpa using hcl, by simp [World.setCell]; omega, Lib.hid fun j hj => ?_, b6.setCell (by dsimp only; omega) _⟩
        by_cases e : j = k
        · subst e
          refine ⟨hlt, g3, c3, hg3', ?_, ?_⟩
          · rw [List.getElem?_set_self (by omega), HXK.out, HDK.out]; rfl
          · rw [HXK.out, HDK.out]
            exact r3.of (Below.heap_setCell _ _ _ _ (by dsimp only; omega))
        · obtain ⟨h, b', c', h1, h2, h3⟩ := HR.out j (by omega)
          refine ⟨h, b', c', h1, by rw [List.getElem?_set_ne (Ne.symm e)]; exact h2, ?_⟩
          have hl3 := h3.lt
          exact h3.of (((Below.heap_setCell _ _ _ _ (by dsimp only; omega)).trans (b5.block b' (by omega))).trans ((b3.block b' (by simp; omega)).trans (Below.heap_alloc _ _ _ hl3)))
      case measure => simp [intOf]; omega
    · obtain rfl : k = ds.length := by omega
      go_wp2
      go_ret
      refine ⟨_, rfl, by omega, ⟨cs, by rw [List.length_map]; exact hcl, q1, fun j hj => ?_⟩, b1⟩
      obtain ⟨h, b', c', h1, h2, h3⟩ := HR.out j (by simpa using hj)
      exact ⟨b', c', by omega, by rw [List.getElem_map]; exact h2, by rw [List.getElem_map]; exact h3⟩
end Go.Proofs.Ytokjdadgdfmffaa
/- Sums. -/
namespace Go.Proofs.Ytokjdadgdfmffaa
open Go.RowKit
set_option maxHeartbeats 1000000
set_option maxRecDepth 100000
theorem writeAll_any (A : Option Addr) (c m n : Nat) (ds : List (Int × Int)) (w : World) (hl : ds.length ≤ 1000) (hp : PairsAt w A ds) :
    Calls Try.prog 55 #[pv m n, .slice A ds.length c] w fun e w' => ∃ G, e = .returned (.slice (some ⟨G, 0, none⟩) ds.length ds.length) ∧ w.heap.size ≤ G ∧ RowsN w.heap.size w' G (ds.map (dec m)) ∧ Below w.heap.size w w' := by
  by_cases hm : m = 1
  · exact writeAll_one A c m n ds w hl hm hp
  · exact writeAll_two A c m n ds w hl hm hp
/-- The sums as they are returned. -/
def SumsR (m n : Nat) (es : List (Int × Int)) (w : World) (e : Ending) (w' : World) : Prop := ∃ ss G, SumL m n es ss ∧ e = .returned (.tuple #[.slice (some ⟨G, 0, none⟩) (srt2 ss).length (srt2 ss).length, .int .i64 0]) ∧ w.heap.size ≤ G ∧ RowsN w.heap.size w' G ((srt2 ss).map (dec m)) ∧ Below w.heap.size w w'
theorem SumL.len {m n : Nat} (hg : Gr m n) {es ss : List (Int × Int)} (h : SumL m n es ss) : ss.length ≤ 576 := by
  have h1 := lenP ss (allE m n) h.1 fun x hx => mem_allE x (h.2.1 x hx)
  have h2 : m * n ≤ 24 * 24 := Nat.mul_le_mul hg.2.1 hg.2.2.2
  unfold allE at h1
  rw [List.length_map, List.length_range] at h1
  omega
theorem RowsN.mono {B B' : Nat} {w : World} {G : Nat} {L : List (List Int)} (h : RowsN B w G L) (hb : B' ≤ B) : RowsN B' w G L := by
  obtain ⟨cs, h1, h2, h3⟩ := h
  exact ⟨cs, h1, h2, fun j hj => by obtain ⟨b, c, k1, k2⟩ := h3 j hj; exact ⟨b, c, by omega, k2⟩⟩
theorem Sums_yes (A B : Option Addr) (c d m n : Nat) (g : List Int) (L : List (List Int)) (w : World) (hg : IsG g m n) (hl2 : ∀ i, i < L.length → (getl L i).length ≤ 1000000) (ha : IntsAt w A g) (hb : RowsAt w B L) (hv : rlV m n L = true) :
    Calls Try.prog 27 #[.slice A g.length c, .slice B L.length d] w (SumsR m n (rlE m L) w) := by
  have HH := Lib.hid (readBoth_yes A B c d m n g L w hg hl2 ha hb hv)
  obtain ⟨h60, hel⟩ := rlV_el hg.1 hv
  have HEL := Lib.hid hel
  have HG := Lib.hid hg.1
  clear hl2 ha hb hv hel hg
  go_enter Try.func27, Try.ntmps27
  go_wp2_with (go_at_call 47; fail)
  refine HH.out.mono ?_
  rintro e w1 ⟨v, rfl, ⟨g8, rfl, hg8, q8⟩, hb⟩
  have q9 := q8.alloc (.cells #[.int .i64 m, .int .i64 n] 63)
  have b9 := hb.alloc hb.size (.cells #[.int .i64 m, .int .i64 n] 63)
  have r9 : Row (w1.alloc (.cells #[.int .i64 m, .int .i64 n] 63)) w1.heap.size 63 [.int .i64 m, .int .i64 n] := row_new rfl
  have hs1 := hb.size
  clear q8 hb
  go_wp2
  generalize rlE m L = es at *
  obtain ⟨q, hq⟩ : ∃ q, w1.heap.size = q := ⟨_, rfl⟩
  obtain ⟨V, hV⟩ : ∃ V, w1.alloc (.cells #[.int .i64 m, .int .i64 n] 63) = V := ⟨_, rfl⟩
  rw [hV] at b9 r9 q9
  rw [hV, hq]
  rw [hq] at r9
  have HS : Hid (∀ W, Below V.heap.size V W → W.cell? ⟨q, 0, none⟩ = some (.int .i64 m) ∧ W.cell? ⟨q, 1, none⟩ = some (.int .i64 n) ∧ Hid (Row W g8 69 (pcs es) ∧ Below V.heap.size V W)) :=
    Lib.hid fun W h => ⟨(r9.below h).cells2.1.1, (r9.below h).cells2.1.2, Lib.hid ⟨q9.below h, h⟩⟩
  have HN : Hid (∀ W W', (W.cell? ⟨q, 0, none⟩ = some (.int .i64 m) ∧ W.cell? ⟨q, 1, none⟩ = some (.int .i64 n) ∧ Hid (Row W g8 69 (pcs es) ∧ Below V.heap.size V W)) → Below W.heap.size W W' → Below V.heap.size V W') := Lib.hid fun W W' h k => h.2.2.out.2.trans (k.mono h.2.2.out.2.size)
  have hX := HS.out _ (Below.refl _ _)
  have hBV := Below.refl V.heap.size V
  have HB9 := Lib.hid b9
  clear hV hq b9 r9 q9 HH
  go_region_held3 (fun w' => w'.cell? ⟨q, 0, none⟩ = some (.int .i64 m) ∧ w'.cell? ⟨q, 1, none⟩ = some (.int .i64 n) ∧ Hid (Row w' g8 69 (pcs es) ∧ Below V.heap.size V w')) (first | assumption | exact HS.out _ hBX | exact HS.out _ hBX.drew | exact HS.out _ hBV | exact HS.out _ hBV.drew)
    ((first
      | (go_at_call 57; refine (sums_any m n g8 es _ HG.out HEL.out h60 (by assumption : _ ∧ _ ∧ Hid (Row _ g8 69 (pcs es) ∧ _)).2.2.out.1).mono ?_; rintro e w5 ⟨ss, A7, c7, rfl, hS7, hP7, hB7⟩; have hBX := HN.out _ _ (by assumption) hB7; have hl7 := hS7.len HG.out; rw [← srt2_len ss])
      | (go_at_call 55; refine (writeAll_any A7 c7 m n (srt2 ss) _ (by rw [srt2_len]; omega) (by first | exact hP7 | exact hP7.below ((Below.refl _ _).drew))).mono ?_; rintro e w6 ⟨G, rfl, hG, hR6, hB6⟩; have hBX := HN.out _ _ (by assumption) hB6)))
  go_wp2
  go_ret2
  have h1 := HB9.out.size
  have h2 := (by assumption : Below V.heap.size V w5).size
  exact ⟨ss, G, hS7, rfl, Nat.le_trans (Nat.le_trans h1 h2) hG, hR6.mono (Nat.le_trans h1 h2), HB9.out.trans (hBX.mono h1)⟩
end Go.Proofs.Ytokjdadgdfmffaa
