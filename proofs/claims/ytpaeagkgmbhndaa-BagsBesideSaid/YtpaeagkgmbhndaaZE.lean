/- Parts R S T U V W of the proof, in this order. -/
import Derived.Test.YtpaeagkgmbhndaaZD
import Derived.ArgAppend
import Derived.OwnWalkIn
import Derived.Deep.MidRow
import Derived.Scope
import Derived.WalkMore
/- The way back. -/
namespace Go.Proofs.Ytpaeagkgmbhndaa
open Go.RowKit
set_option maxHeartbeats 1000000
set_option maxRecDepth 100000
/-- The way back from v, by the numbers before. -/
def wbF (bs : List Nat) (first : Nat) : Nat → Nat → List Nat
  | 0, v => [v]
  | k + 1, v => if v = first then [v] else v :: wbF bs first k (getn bs v)
def wbOK (bs : List Nat) (first : Nat) : Nat → Nat → Prop
  | 0, v => v = first
  | k + 1, v => v = first ∨ wbOK bs first k (getn bs v)
theorem wbF_end (bs : List Nat) (first k : Nat) : wbF bs first k first = [first] := by cases k <;> simp [wbF]
/-- An append to a row of the call's own. -/
theorem app1 {W w5 : World} {n₀ : Nat} {e : TypeId} {z k : Nat} {v1 : Value} {xs : List Value} (h1 : W.ownsRow n₀ e z v1 k xs) (hn : n₀ ≤ W.heap.size) {o : Obj}
    (hgr : (W.alloc o).grownBy w5 v1.ownBlock) : Below n₀ W w5 ∧ (∀ g t cs, t ≠ e → Row W g t cs → Row w5 g t cs) :=
  ⟨((Below.refl n₀ W).alloc hn o).grown hgr (by simp; omega) (fun g hg => (own_ge h1 hg).1), fun _ _ _ ht hr => (hr.alloc o).grown hgr (hr.not_own h1 ht)⟩
def slen : Value → Nat
  | .slice _ n _ => n
  | _ => 0
theorem own_slen {w : World} {b n : Nat} {e : TypeId} {z : Nat} {v : Value} {xs : List Value} (h : w.ownsRow b e z v n xs) : slen v = n := by
  rcases h.2 with ⟨rfl, h0⟩ | ⟨g, cap, cur, rfl, _⟩
  · exact h0.symm
  · rfl
theorem own_one (w : World) (x : Value) (t : TypeId) {base : Nat} (hb : base ≤ w.heap.size) : (w.alloc (.cells #[x] t)).ownsRow base t 1 (.slice (some ⟨w.heap.size, 0, none⟩) 1 1) 1 [x] :=
  ⟨rfl, .inr ⟨w.heap.size, 1, #[x], rfl, hb, heap_alloc_new w _, Nat.le_refl _, by unfold maxLen; omega, rfl, rfl⟩⟩
theorem intv_row {w : World} {g : Nat} {t : TypeId} {xs : List Nat} (h : Row w g t (intv xs)) {i : Nat} (hi : i < xs.length) : w.cell? ⟨g, i, none⟩ = some (.int .i64 (getn xs i)) := by
  rw [h.cell]; unfold intv; rw [List.getElem?_map, List.getElem?_eq_getElem hi, getn_eq hi]; rfl
theorem wayBack_any (bs : List Nat) (first last K : Nat) (w : World) (hl : bs.length = 16) (hb : ∀ v, v < 16 → getn bs v < 16) (h1 : first < 16) (h2 : last < 16) (hK : K ≤ 16) (hok : wbOK bs first K last) :
    Calls Try.prog 71 #[.agg (intv bs).toArray, .int .i64 first, .int .i64 last] w fun e w' => ∃ v, e = .returned v ∧ w'.ownsRow w.heap.size 3 1 v (wbF bs first K last).length (intv (wbF bs first K last)) ∧ Below w.heap.size w w' := by
  obtain ⟨i0, hi, hz0, hz1, hz2⟩ := info_parts info3
  have hlen : (intv bs).length = 16 := by simp [intv, hl]
  have HLN := Lib.hid hlen
  have HBL := Lib.hid hl
  have HB := Lib.hid hb
  have tok1 : True := trivial
  clear hb hl hlen
  go_enter Try.func71, Try.ntmps71
  go_wp2
  have r0 : Row ((w.alloc (.cells (intv bs).toArray 93)).alloc (.cells #[.int .i64 last] 3)) w.heap.size 93 (intv bs) := (Row.new _ _ _).alloc _
  have o0 := own_one (w.alloc (.cells (intv bs).toArray 93)) (.int .i64 last) 3 (base := w.heap.size) (by simp)
  rw [World.size_alloc] at o0
  have hb0 : Below w.heap.size w ((w.alloc (.cells (intv bs).toArray 93)).alloc (.cells #[.int .i64 last] 3)) := by (repeat (first | exact Below.refl _ _ | assumption | (refine Below.setCell ?_ (by first | exact Nat.le_refl _ | omega | (simp; done) | (simp; omega)) _) | (refine Below.trans ?_ (below_drewN _)) | (refine Below.drew ?_) | (refine Below.alloc ?_ (by first | exact Nat.le_refl _ | omega | (simp; done) | (simp; omega)) _) | (refine below_row ?_ (by first | exact Nat.le_refl _ | omega | (simp; done) | (simp; omega)) _)))
  have HOK := Lib.hid hok
  clear hok
  go_loopw [7, 8] (fun a b wr => ∃ (k v : Nat) (pre : List Nat) (sl : Value), a = sl ∧ b = .int .i64 v ∧ v < 16 ∧ pre.length + k ≤ K ∧ wbOK bs first k v ∧ pre ++ wbF bs first k v = wbF bs first K last ∧
    wr.ownsRow w.heap.size 3 1 sl (pre.length + 1) (intv (pre ++ [v])) ∧ Row wr w.heap.size 93 (intv bs) ∧ Below w.heap.size w wr) (fun a _ _ => 17 - slen a)
  case atStart => exact ⟨K, last, [], _, rfl, rfl, h2, by simp, HOK.out, rfl, o0, r0, hb0⟩
  case round =>
    obtain ⟨k, v, pre, sl, rfl, rfl, hv, hpk, hk, heq, p, rr, hB⟩ := hrel
    have HE := Lib.hid heq
    have HKK := Lib.hid hk
    have hle := hB.size
    clear heq hk
    by_cases hvf : v = first
    · subst hvf
      have hne : ((v:Int) != v) = false := by simp
      go_wp2
      go_ret
      have h3 := HE.out
      rw [wbF_end] at h3
      rw [← h3]
      exact ⟨_, rfl, by simpa using p, hB⟩
    · have hne : ((v:Int) != first) = true := by simp; omega
      obtain ⟨k', rfl⟩ : ∃ k', k = k' + 1 := by
        cases k with
        | zero => exact absurd HKK.out hvf
        | succ k => exact ⟨k, rfl⟩
      have c1 := intv_row rr (i := v) (by rw [HBL.out]; exact hv)
      have hy := HB.out v hv
      have HY := Lib.hid (show wbF bs first (k' + 1) v = v :: wbF bs first k' (getn bs v) by rw [wbF, if_neg hvf])
      have hk2 : wbOK bs first k' (getn bs v) := by
        rcases HKK.out with h | h
        · exact absurd h hvf
        · exact h
      have HK2 := Lib.hid hk2
      clear hk2
      generalize getn bs v = y at *
      go_wp2_with (at_builtin; have _t := tok1; refine wpList_append_own_at _ rfl (.tmp 18) (.tmp 20) 24 rfl w.heap.size 3 i0 (.int .i64 0) 1 8 Try.underlying24 hi hz0 hz1 hz2 rfl (by decide) _ _ _ rfl (p.alloc _) ⟨wr.heap.size, 0, none⟩ 1 1 [.int .i64 y] rfl rfl (cell_one_new _ _ _) (by simp [Value.oneCell']) (by unfold maxLen; omega) (by omega) (by simp; omega) ?_; intro v1c w5 hn1 hgr1 _ hat1; clear tok1; obtain ⟨hB5, hrow5⟩ := app1 p (by omega) hgr1; have rr5 := hrow5 _ _ _ (by decide) rr)
      go_roundw
      case rel =>
        refine ⟨k', y, pre ++ [v], v1c, rfl, rfl, hy, by simp; omega, HK2.out, by rw [← HE.out, HY.out]; simp, ?_, rr5, hB.trans hB5⟩
        have e1 : (pre ++ [v]).length + 1 = pre.length + 1 + 1 := by simp
        have e2 : intv (pre ++ [v] ++ [y]) = intv (pre ++ [v]) ++ [.int .i64 y] := by simp [intv]
        rw [e1, e2]; exact hn1
      case measure =>
        rw [own_slen hn1, own_slen p]; omega
end Go.Proofs.Ytpaeagkgmbhndaa
/- A division in memory, and moving pieces along a way. -/
namespace Go.Proofs.Ytpaeagkgmbhndaa
open Go.RowKit
def hv (H : Nat → Nat → Int) : List Value := (List.range 256).map fun i => Value.int .i64 (H (i / 16) (i % 16))
def lv (L : Nat → Int) : List Value := (List.range 16).map fun i => Value.int .i64 (L i)
/-- The cells of a division: the graph, what each vertex has of its edges, the loads. -/
def dcells (m : Nat) (gs : List Nat) (H : Nat → Nat → Int) (L : Nat → Int) : List Value := gcells m gs ++ (hv H ++ lv L)
def upd2 (H : Nat → Nat → Int) (u v : Nat) (x : Int) : Nat → Nat → Int := fun a b => if a = u ∧ b = v then x else H a b
def upd (L : Nat → Int) (u : Nat) (x : Int) : Nat → Int := fun a => if a = u then x else L a
theorem dlen {m : Nat} {gs : List Nat} (hg : Rows16 gs) (H : Nat → Nat → Int) (L : Nat → Int) : (dcells m gs H L).length = 289 := by
  simp [dcells, hv, lv, gcells_len, hg.len]
theorem d_near {m : Nat} {gs : List Nat} (hg : Rows16 gs) (H : Nat → Nat → Int) (L : Nat → Int) {v : Nat} (h : v < 16) : (dcells m gs H L)[1 + v]? = some (.int .u32 (near gs v)) := by
  unfold dcells
  rw [List.getElem?_append_left (by rw [gcells_len, hg.len]; omega), gcells_at m gs hg v h]
theorem d_has {m : Nat} {gs : List Nat} (hg : Rows16 gs) (H : Nat → Nat → Int) (L : Nat → Int) {u v : Nat} (hu : u < 16) (h : v < 16) : (dcells m gs H L)[17 + u * 16 + v]? = some (.int .i64 (H u v)) := by
  unfold dcells
  rw [List.getElem?_append_right (by rw [gcells_len, hg.len]; omega), gcells_len, hg.len, List.getElem?_append_left (by simp [hv]; omega)]
  have e : 17 + u * 16 + v - (16 + 1) = u * 16 + v := by omega
  rw [e]; unfold hv
  rw [List.getElem?_map, List.getElem?_range (by omega)]
  have e1 : (u * 16 + v) / 16 = u := by omega
  have e2 : (u * 16 + v) % 16 = v := by omega
  simp [e1, e2]
theorem d_load {m : Nat} {gs : List Nat} (hg : Rows16 gs) (H : Nat → Nat → Int) (L : Nat → Int) {v : Nat} (h : v < 16) : (dcells m gs H L)[273 + v]? = some (.int .i64 (L v)) := by
  unfold dcells
  rw [List.getElem?_append_right (by rw [gcells_len, hg.len]; omega), gcells_len, hg.len, List.getElem?_append_right (by simp [hv]; omega)]
  have e : 273 + v - (16 + 1) - (hv H).length = v := by simp [hv]; omega
  rw [e]; unfold lv
  rw [List.getElem?_map, List.getElem?_range (by omega)]; rfl
theorem d_setH {m : Nat} {gs : List Nat} (hg : Rows16 gs) (H : Nat → Nat → Int) (L : Nat → Int) {u v : Nat} (hu : u < 16) (h : v < 16) (x : Int) :
    (dcells m gs H L).set (17 + u * 16 + v) (.int .i64 x) = dcells m gs (upd2 H u v x) L := by
  unfold dcells
  rw [List.set_append_right _ _ (by rw [gcells_len, hg.len]; omega), gcells_len, hg.len, List.set_append_left _ _ (by simp [hv]; omega)]
  have e : 17 + u * 16 + v - (16 + 1) = u * 16 + v := by omega
  rw [e]
  congr 2
  unfold hv
  apply List.ext_getElem?
  intro i
  rw [List.getElem?_set, List.getElem?_map, List.getElem?_map]
  by_cases hi : i < 256
  · rw [List.getElem?_range hi]
    by_cases e2 : u * 16 + v = i
    · subst e2
      have e3 : (u * 16 + v) / 16 = u := by omega
      have e4 : (u * 16 + v) % 16 = v := by omega
      simp [upd2, e3, e4]; omega
    · rw [if_neg e2]
      have : ¬ (i / 16 = u ∧ i % 16 = v) := by omega
      simp [upd2, this]
  · have : (List.range 256)[i]? = none := by simp; omega
    rw [this]
    split
    · split
      · rename_i h1 h2; simp at h2; omega
      · rfl
    · rfl
theorem lv_set {L : Nat → Int} {v : Nat} (h : v < 16) (x : Int) : (lv L).set v (.int .i64 x) = lv (upd L v x) := by
  unfold lv
  apply List.ext_getElem?
  intro i
  rw [List.getElem?_set, List.getElem?_map, List.getElem?_map]
  by_cases hi : i < 16
  · rw [List.getElem?_range hi]
    by_cases e2 : v = i
    · subst e2; simp [upd, h]
    · rw [if_neg e2]
      have : ¬ i = v := fun e => e2 e.symm
      simp [upd, this]
  · have : (List.range 16)[i]? = none := by simp; omega
    rw [this]
    split
    · omega
    · rfl
theorem d_setL {m : Nat} {gs : List Nat} (hg : Rows16 gs) (H : Nat → Nat → Int) (L : Nat → Int) {v : Nat} (h : v < 16) (x : Int) :
    (dcells m gs H L).set (273 + v) (.int .i64 x) = dcells m gs H (upd L v x) := by
  unfold dcells
  rw [List.set_append_right _ _ (by rw [gcells_len, hg.len]; omega), gcells_len, hg.len, List.set_append_right _ _ (by simp [hv]; omega)]
  have e : 273 + v - (16 + 1) - (hv H).length = v := by simp [hv]; omega
  rw [e, lv_set h]
/-- Block g is a division. -/
def Div (w : World) (g m : Nat) (gs : List Nat) (H : Nat → Nat → Int) (L : Nat → Int) : Prop := Row w g 108 (dcells m gs H L)
theorem Div.has {w : World} {g m : Nat} {gs : List Nat} {H : Nat → Nat → Int} {L : Nat → Int} (d : Div w g m gs H L) (hg : Rows16 gs) {u v : Nat} (hu : u < 16) (h : v < 16) : w.cell? ⟨g, 17 + u * 16 + v, none⟩ = some (.int .i64 (H u v)) := by
  rw [Row.cell d, d_has hg _ _ hu h]
theorem Div.load {w : World} {g m : Nat} {gs : List Nat} {H : Nat → Nat → Int} {L : Nat → Int} (d : Div w g m gs H L) (hg : Rows16 gs) {v : Nat} (h : v < 16) : w.cell? ⟨g, 273 + v, none⟩ = some (.int .i64 (L v)) := by
  rw [Row.cell d, d_load hg _ _ h]
theorem Div.near {w : World} {g m : Nat} {gs : List Nat} {H : Nat → Nat → Int} {L : Nat → Int} (d : Div w g m gs H L) (hg : Rows16 gs) {v : Nat} (h : v < 16) : w.cell? ⟨g, 1 + v, none⟩ = some (.int .u32 (near gs v)) := by
  rw [Row.cell d, d_near hg _ _ h]
theorem Div.setH {w : World} {g m : Nat} {gs : List Nat} {H : Nat → Nat → Int} {L : Nat → Int} (d : Div w g m gs H L) (hg : Rows16 gs) {u v : Nat} (hu : u < 16) (h : v < 16) (x : Int) : Div (w.setCell ⟨g, 17 + u * 16 + v, none⟩ (.int .i64 x)) g m gs (upd2 H u v x) L := by
  have := Row.set d (17 + u * 16 + v) (.int .i64 x)
  rw [d_setH hg _ _ hu h] at this
  exact this
theorem Div.setL {w : World} {g m : Nat} {gs : List Nat} {H : Nat → Nat → Int} {L : Nat → Int} (d : Div w g m gs H L) (hg : Rows16 gs) {v : Nat} (h : v < 16) (x : Int) : Div (w.setCell ⟨g, 273 + v, none⟩ (.int .i64 x)) g m gs H (upd L v x) := by
  have := Row.set d (273 + v) (.int .i64 x)
  rw [d_setL hg _ _ h] at this
  exact this
end Go.Proofs.Ytpaeagkgmbhndaa
/- Moving pieces along a way. -/
namespace Go.Proofs.Ytpaeagkgmbhndaa
open Go.RowKit
set_option maxHeartbeats 1000000
set_option maxRecDepth 100000
def mn (a b : Int) : Int := if b < a then b else a
/-- The pieces that can be moved along the first j steps of the way, and the division behind them. -/
def minT (ws : List Nat) (H : Nat → Nat → Int) (p : Int) : Nat → Int
  | 0 => p
  | j + 1 => mn (minT ws H p j) (H (getn ws (j + 1)) (getn ws j))
def movS (H : Nat → Nat → Int) (p : Int) (u v : Nat) : Nat → Nat → Int := upd2 (upd2 H u v (H u v - p)) v u (upd2 H u v (H u v - p) v u + p)
def movT (ws : List Nat) (H : Nat → Nat → Int) (p : Int) : Nat → Nat → Nat → Int
  | 0 => H
  | j + 1 => movS (movT ws H p j) p (getn ws (j + 1)) (getn ws j)
theorem mn_eq (a b : Int) : (if b < a then b else a) = mn a b := rfl
theorem mn_bd {a b B : Int} (h1 : -B ≤ a ∧ a ≤ B) (h2 : -B ≤ b ∧ b ≤ B) : -B ≤ mn a b ∧ mn a b ≤ B := by unfold mn; split <;> omega
theorem minT_bd {ws : List Nat} {H : Nat → Nat → Int} {p : Int} (hp : -100000 ≤ p ∧ p ≤ 100000) (hH : ∀ u v, u < 16 → v < 16 → 0 ≤ H u v ∧ H u v ≤ 100000) (hws : ∀ k, k < ws.length → getn ws k < 16) : ∀ j, j + 1 ≤ ws.length → -100000 ≤ minT ws H p j ∧ minT ws H p j ≤ 100000 := by
  intro j
  induction j with
  | zero => intro _; exact hp
  | succ j ih =>
    intro hj
    have h1 := hH (getn ws (j + 1)) (getn ws j) (hws _ (by omega)) (hws _ (by omega))
    exact mn_bd (ih (by omega)) ⟨by omega, h1.2⟩
theorem movT_bd {ws : List Nat} {H : Nat → Nat → Int} {p : Int} (hp : -100000 ≤ p ∧ p ≤ 100000) (hH : ∀ u v, u < 16 → v < 16 → 0 ≤ H u v ∧ H u v ≤ 100000) (hws : ∀ k, k < ws.length → getn ws k < 16) : ∀ j : Nat, j + 1 ≤ ws.length → ∀ u v, u < 16 → v < 16 → -(100000 * (1 + 2 * j : Int)) ≤ movT ws H p j u v ∧ movT ws H p j u v ≤ 100000 * (1 + 2 * j : Int) := by
  intro j
  induction j with
  | zero => intro _ u v hu hv; have := hH u v hu hv; simp only [movT]; omega
  | succ j ih =>
    intro hj u v hu hv
    have ih := ih (by omega)
    have h1 := ih u v hu hv
    have h2 := ih (getn ws (j + 1)) (getn ws j) (hws _ (by omega)) (hws _ (by omega))
    have h3 := ih (getn ws j) (getn ws (j + 1)) (hws _ (by omega)) (hws _ (by omega))
    simp only [movT, movS, upd2]
    split
    · split <;> omega
    · split <;> omega
set_option maxHeartbeats 4000000 in
theorem move_any (g m : Nat) (gs : List Nat) (H : Nat → Nat → Int) (L : Nat → Int) (A : Option Addr) (c : Nat) (ws : List Nat) (lim : Int) (w : World) (hg : Rows16 gs) (hd : Div w g m gs H L)
    (ha : IntsAt w A (natI ws)) (hne : ∀ b o, A = some ⟨b, o, none⟩ → b ≠ g) (hl : 2 ≤ ws.length) (hl2 : ws.length ≤ 16) (hc : ws.length ≤ c) (hws : ∀ k, k < ws.length → getn ws k < 16) (hH : ∀ u v, u < 16 → v < 16 → 0 ≤ H u v ∧ H u v ≤ 100000) (hL : ∀ v, v < 16 → 0 ≤ L v ∧ L v ≤ 100000) (hlim : 0 ≤ lim ∧ lim ≤ 100000)
    (P : Int) (hP : P = minT ws H (mn (L (getn ws (ws.length - 1)) - lim) (lim - L (getn ws 0))) (ws.length - 1)) :
    Calls Try.prog 65 #[.pointer (some ⟨g, 0, none⟩), .slice A ws.length c, .int .i64 lim] w fun e w' => e = .returned (.tuple #[]) ∧ Div w' g m gs (movT ws H P (ws.length - 1)) (upd (upd L (getn ws (ws.length - 1)) (L (getn ws (ws.length - 1)) - P)) (getn ws 0) (upd L (getn ws (ws.length - 1)) (L (getn ws (ws.length - 1)) - P) (getn ws 0) + P)) ∧ Fr (fun k => k = g) w w' := by
  obtain ⟨b, o, rfl, hb, hcell⟩ := ha (by rw [natI_len]; omega)
  have hbg := hne b o rfl
  have t0 := hws 0 (by omega)
  have f0 := hws (ws.length - 1) (by omega)
  have hce : ∀ k, k < ws.length → w.cell? ⟨b, o + k, none⟩ = some (.int .i64 (getn ws k)) := fun k hk => by have := hcell k (by rw [natI_len]; exact hk); rwa [geti_natI] at this
  have c0 : w.cell? ⟨b, o, none⟩ = some (.int .i64 (getn ws 0)) := by have := hce 0 (by omega); simpa using this
  have c1 := hce (ws.length - 1) (by omega)
  have l0 := hd.load hg t0
  have l1 := hd.load hg f0
  obtain ⟨b1, b2⟩ := hL _ t0
  obtain ⟨b3, b4⟩ := hL _ f0
  obtain ⟨b5, b6⟩ := hlim
  have HMB := Lib.hid (fun p hp j hj => minT_bd (p := p) hp hH hws j hj)
  have HVB := Lib.hid (fun p hp j hj => movT_bd (p := p) hp hH hws j hj)
  have HWS := Lib.hid hws
  have HCE := Lib.hid hce
  have HHB := Lib.hid hH
  have e1 : ((ws.length : Int) - 1).toNat = ws.length - 1 := by omega
  have e2 : 0 ≤ (ws.length : Int) - 1 := by omega
  have hp0 := mn_bd (a := L (getn ws (ws.length - 1)) - lim) (b := lim - L (getn ws 0)) (B := 100000) ⟨by omega, by omega⟩ ⟨by omega, by omega⟩
  have hmn := mn_eq (L (getn ws (ws.length - 1)) - lim) (lim - L (getn ws 0))
  generalize mn (L (getn ws (ws.length - 1)) - lim) (lim - L (getn ws 0)) = P0 at *
  clear hcell hws hL ha hce hH hne
  generalize hto : getn ws 0 = tt at *
  generalize hfr : getn ws (ws.length - 1) = ff at *
  have HTO := Lib.hid hto
  have HFR := Lib.hid hfr
  have HPP := Lib.hid hP
  have HP0 := Lib.hid hp0
  have hPb : -100000 ≤ P ∧ P ≤ 100000 := by rw [hP]; exact HMB.out P0 hp0 _ (by omega)
  obtain ⟨pb1, pb2⟩ := hPb
  clear hto hfr hP
  go_enter Try.func65, Try.ntmps65
  go_wp2
  refine wp_region_quiet_lit (by kernel_rfl) (by kernel_rfl) ?_
  repeat go_big_quiet_step ((fail))
  refine wpQuiet_nil ?_
  rintro _ ⟨nq, rfl⟩
  go_wp2
  refine wp_region_quiet_lit (by kernel_rfl) (by kernel_rfl) ?_
  repeat go_big_quiet_step ((fail))
  refine wpQuiet_nil ?_
  rintro _ ⟨nq, rfl⟩
  go_wp2
  clear hmn hp0
  go_loopw [8, 9, 10, 43] (fun p _ _ i wr => ∃ j n : Nat, j ≤ ws.length - 1 ∧ i = .int .i64 j ∧ p = .int .i64 (minT ws H P0 j) ∧ wr = w.drewN n) (fun _ _ _ i _ => ws.length - 1 - (intOf i).toNat)
  case atStart => exact ⟨0, _, by omega, rfl, rfl, rfl⟩
  case round =>
    obtain ⟨j, n, hj, rfl, rfl, rfl⟩ := hrel
    by_cases hlt : j < ws.length - 1
    · have k0 := HCE.out j (by omega)
      have k1 : w.cell? ⟨b, o + 1 + j, none⟩ = some (.int .i64 (getn ws (j + 1))) := by have := HCE.out (j + 1) (by omega); rw [show o + 1 + j = o + (j + 1) by omega]; exact this
      have u1 := HWS.out j (by omega)
      have u2 := HWS.out (j + 1) (by omega)
      have h1 := hd.has hg u2 u1
      have hmn := mn_eq (minT ws H P0 j) (H (getn ws (j + 1)) (getn ws j))
      have HMS : Hid (mn (minT ws H P0 j) (H (getn ws (j + 1)) (getn ws j)) = minT ws H P0 (j + 1)) := rfl
      generalize mn (minT ws H P0 j) (H (getn ws (j + 1)) (getn ws j)) = P1 at *
      generalize getn ws j = y1 at *
      generalize getn ws (j + 1) = y2 at *
      generalize minT ws H P0 j = Pj at *
      go_wp2
      refine wp_region_quiet_lit (by kernel_rfl) (by kernel_rfl) ?_
      repeat go_big_quiet_step ((fail))
      refine wpQuiet_nil ?_
      rintro _ ⟨nq, rfl⟩
      go_wp2
      clear hmn
      go_roundw
      case rel => exact ⟨j + 1, n + nq, by omega, by go_num, by rw [HMS.out], (by first | rfl | exact World.drewN_drewN _ _ _)⟩
      case measure => simp [intOf]; omega
    · obtain rfl : j = ws.length - 1 := by omega
      have hPj : minT ws H P0 (ws.length - 1) = P := HPP.out.symm
      rw [hPj]
      clear hPj
      go_wp2
      go_loopw [11, 12, 13, 65] (fun _ _ _ i wr => ∃ j : Nat, j ≤ ws.length - 1 ∧ i = .int .i64 j ∧ Div wr g m gs (movT ws H P j) L ∧ Fr (fun k => k = g) w wr) (fun _ _ _ i _ => ws.length - 1 - (intOf i).toNat)
      case atStart => exact ⟨0, by omega, rfl, hd, (Fr.refl _ w).drewN _⟩
      case round =>
        obtain ⟨j, hj, rfl, d1, hF⟩ := hrel
        by_cases hlt : j < ws.length - 1
        · have k0 : _ = _ := (hF.cell (o := o + j) hb hbg).trans (HCE.out j (by omega))
          have k1 : _ = _ := (hF.cell (o := o + (j + 1)) hb hbg).trans (HCE.out (j + 1) (by omega))
          rw [show o + (j + 1) = o + 1 + j by omega] at k1
          have u1 := HWS.out j (by omega)
          have u2 := HWS.out (j + 1) (by omega)
          have h1 := d1.has hg u2 u1
          have f1 := Row.free d1 (17 + getn ws (j + 1) * 16 + getn ws j)
          obtain ⟨v1, v2⟩ := HVB.out P ⟨pb1, pb2⟩ j (by omega) _ _ u2 u1
          obtain ⟨v3, v4⟩ := HVB.out P ⟨pb1, pb2⟩ j (by omega) _ _ u1 u2
          have HMS : Hid (movS (movT ws H P j) P (getn ws (j + 1)) (getn ws j) = movT ws H P (j + 1)) := rfl
          generalize movT ws H P j = M at *
          generalize getn ws j = y1 at *
          generalize getn ws (j + 1) = y2 at *
          go_wp2
          refine wp_region_quiet_tail 14 (by kernel_rfl) (by kernel_rfl) ?_
          simp only [List.take_succ_cons, List.take_zero, List.drop_succ_cons, List.drop_zero]
          repeat go_big_quiet_step ((fail))
          refine wpQuiet_nil ?_
          rintro _ ⟨nq, rfl⟩
          go_wp2
          generalize hw2 : World.setCell _ _ _ = W2
          have d2 : Div W2 g m gs (upd2 M y2 y1 (M y2 y1 - P)) L := by
            rw [← hw2]; exact Div.setH (Row.drewN d1 _) hg u2 u1 _
          have hF2 : Fr (fun k => k = g) w W2 := by
            rw [← hw2]; exact (hF.drewN _).setCell (.inl rfl) _
          clear hw2
          have h2 := d2.has hg u1 u2
          have f2 := Row.free d2 (17 + y1 * 16 + y2)
          have hx : -1000000000 ≤ upd2 M y2 y1 (M y2 y1 - P) y1 y2 ∧ upd2 M y2 y1 (M y2 y1 - P) y1 y2 ≤ 1000000000 := by
            unfold upd2; split <;> omega
          obtain ⟨x1, x2⟩ := hx
          have HMS2 : Hid (upd2 (upd2 M y2 y1 (M y2 y1 - P)) y1 y2 (upd2 M y2 y1 (M y2 y1 - P) y1 y2 + P) = movS M P y2 y1) := rfl
          generalize upd2 M y2 y1 (M y2 y1 - P) = M2 at *
          clear k0 k1 h1 f1
          refine wp_region_quiet_tail 14 (by kernel_rfl) (by kernel_rfl) ?_
          simp only [List.take_succ_cons, List.take_zero, List.drop_succ_cons, List.drop_zero]
          repeat go_big_quiet_step ((fail))
          refine wpQuiet_nil ?_
          rintro _ ⟨nq, rfl⟩
          go_wp2
          go_roundw
          case rel => exact ⟨j + 1, by omega, by go_num, by rw [← HMS.out, ← HMS2.out]; exact Div.setH (Row.drewN d2 _) hg u1 u2 _, (hF2.drewN _).setCell (.inl rfl) _⟩
          case measure => simp [intOf]; omega
        · obtain rfl : j = ws.length - 1 := by omega
          have hLf := d1.load hg f0
          have ff1 := Row.free d1 (273 + ff)
          generalize hM : movT ws H P (ws.length - 1) = M at *
          have HM := Lib.hid hM
          clear hM
          go_wp2
          refine wp_region_quiet_tail 11 (by kernel_rfl) (by kernel_rfl) ?_
          simp only [List.take_succ_cons, List.take_zero, List.drop_succ_cons, List.drop_zero]
          repeat go_big_quiet_step ((fail))
          refine wpQuiet_nil ?_
          rintro _ ⟨nq, rfl⟩
          go_wp2
          generalize hw2 : World.setCell _ _ _ = W2
          have d2 : Div W2 g m gs M (upd L ff (L ff - P)) := by
            rw [← hw2]; exact Div.setL (Row.drewN d1 _) hg f0 _
          have hF2 : Fr (fun k => k = g) w W2 := by
            rw [← hw2]; exact (hF.drewN _).setCell (.inl rfl) _
          clear hw2
          have hLt := d2.load hg t0
          have ft1 := Row.free d2 (273 + tt)
          have hx : -1000000000 ≤ upd L ff (L ff - P) tt ∧ upd L ff (L ff - P) tt ≤ 1000000000 := by
            unfold upd; split <;> omega
          obtain ⟨x1, x2⟩ := hx
          generalize hL2 : upd L ff (L ff - P) = L2 at *
          have HL2 := Lib.hid hL2
          clear hL2
          refine wp_region_quiet_tail 11 (by kernel_rfl) (by kernel_rfl) ?_
          simp only [List.take_succ_cons, List.take_zero, List.drop_succ_cons, List.drop_zero]
          repeat go_big_quiet_step ((fail))
          refine wpQuiet_nil ?_
          rintro _ ⟨nq, rfl⟩
          go_wp2
          go_end0
          rw [HM.out, HL2.out]
          exact ⟨rfl, Div.setL (Row.drewN d2 _) hg t0 _, (hF2.drewN _).setCell (.inl rfl) _⟩
end Go.Proofs.Ytpaeagkgmbhndaa
/- A queue: a slice of the call's own that is cut at its front and grows at its end. -/
namespace Go.Proofs.Ytpaeagkgmbhndaa
open Go.RowKit
set_option maxHeartbeats 400000
def Que (w : World) (B : Nat) (v : Value) (xs : List Nat) : Prop :=
  ∃ b off cap cur, v = .slice (some ⟨b, off, none⟩) xs.length cap ∧ xs.length ≤ cap ∧ cap ≤ maxLen ∧ B ≤ b ∧ w.heap[b]? = some (.cells cur 3 (0, 0)) ∧ off + cap ≤ cur.size ∧ ∀ j, j < xs.length → cur[off + j]? = some (.int .i64 (getn xs j))
theorem Que.of_own {w : World} {B n : Nat} {v : Value} {xs : List Nat} (h : w.ownsRow B 3 1 v n (intv xs)) (hn : 0 < n) : Que w B v xs := by
  have hl : xs.length = n := by have := h.1; simpa [intv] using this
  rcases h.2 with ⟨_, h0⟩ | ⟨g, cap, cur, rfl, hb, hg, hc, hm, hs, ht⟩
  · omega
  · refine ⟨g, 0, cap, cur, by rw [hl], by omega, hm, hb, hg, by omega, fun j hj => ?_⟩
    have e1 : cur.toList[0 + j]? = (intv xs)[j]? := by rw [← ht, List.getElem?_take, if_pos (by omega), Nat.zero_add]
    rw [← Array.getElem?_toList, e1]
    unfold intv; rw [List.getElem?_map, List.getElem?_eq_getElem hj, getn_eq hj]; rfl
theorem getn_app {xs : List Nat} {x j : Nat} (hj : j < xs.length + 1) : getn (xs ++ [x]) j = if j < xs.length then getn xs j else x := by
  unfold getn
  rw [List.getD_eq_getElem?_getD, List.getD_eq_getElem?_getD]
  split
  · rename_i h; rw [List.getElem?_append_left h]
  · rename_i h
    have : j = xs.length := by omega
    subst this; simp
def qblk : Value → Option Nat
  | .slice (some a) _ _ => some a.block
  | _ => none
/-- What an append to a queue does. -/
structure QG (B : Nat) (v : Value) (w : World) (v' : Value) (w' : World) : Prop where
  row : ∃ r, w.grownBy w' r ∧ ∀ k, r = some k → B ≤ k ∧ qblk v = some k ∧ ∃ cs, w.heap[k]? = some (.cells cs 3 (0, 0))
  blk : qblk v' = qblk v ∨ ∀ k, qblk v' = some k → w.heap.size ≤ k
theorem que_append {P : Program} {w : World} {B : Nat} {v : Value} {xs : List Nat} (h : Que w B v xs) (hB : B ≤ w.heap.size) (t ty : TypeId) (ht : P.underlying t = some (.slice 3)) (i : TypeInfo) (hi : P.info? 3 = some i)
    (hz : i.zero = some (.int .i64 0)) (hs : i.size = 1) (hby : i.bytes = 8) (a : Addr) (c x : Nat) (hx : w.cell? a = some (.int .i64 x)) (hlen : xs.length ≤ 1000) :
    ∃ v' w', (Builtin.append_ #[t, t] ty #[v, .slice (some a) 1 c]).run P w = .ok v' w' ∧ Que w' B v' (xs ++ [x]) ∧ QG B v w v' w' := by
  obtain ⟨b, off, cap, cur, rfl, hle, hcm, hBb, hg, hsz, hcur⟩ := h
  have hnews : ∀ (j : Nat) (u : Value), ([.int .i64 x] : List Value)[j]? = some u → w.cell? (a.add j) = some u := by
    intro j u hj
    match j, hj with
    | 0, hj => simp at hj; subst hj; simpa [Addr.add] using hx
  have h1 : ∀ u ∈ ([.int .i64 x] : List Value), u.oneCell' = true := by intro u hu; simp at hu; subst hu; rfl
  by_cases hr : xs.length + 1 ≤ cap
  · have hlt : off + xs.length < cur.size := by omega
    have hc : ∀ j, j < ([.int .i64 x] : List Value).length → (w.cell? ⟨b, off + xs.length * i.size + j, none⟩).isSome = true := by
      intro j hj
      simp at hj; subst hj
      rw [cell_of_row w b _ _ _ _ hg, hs]
      simp [hlt]
    have hf : ∀ j, j < ([.int .i64 x] : List Value).length → w.frozen? ⟨b, off + xs.length * i.size + j, none⟩ = false := by
      intro j _; exact frozen_of_row w b _ _ _ hg
    have := run_append_room_cells (P := P) w t ty 3 i ht hi b off xs.length cap a 1 c [.int .i64 x] (by rw [hs]; rfl) hnews h1 hr hc hf
    refine ⟨_, _, this, ?_, ⟨some b, ?_, ?_⟩, .inl rfl⟩
    · rw [hs, Nat.mul_one]
      refine ⟨b, off, cap, cur.setIfInBounds (off + xs.length) (.int .i64 x), by simp, by simp; omega, hcm, hBb, ?_, by simpa using hsz, fun j hj => ?_⟩
      · show (World.setCell w ⟨b, off + xs.length, none⟩ (.int .i64 x)).heap[b]? = _
        simp [World.setCell, Array.getElem?_modify, hg]
      · simp only [List.length_append, List.length_singleton] at hj
        rw [getn_app hj]
        by_cases hj2 : j < xs.length
        · rw [if_pos hj2, Array.getElem?_setIfInBounds, if_neg (by omega)]; exact hcur j hj2
        · have : j = xs.length := by omega
          subst this
          rw [if_neg hj2]; simp [hlt]
    · rw [hs, Nat.mul_one]
      show w.grownBy (World.setCell w ⟨b, off + xs.length, none⟩ (.int .i64 x)) (some b)
      exact ⟨rfl, rfl, rfl, by simp [World.setCell], fun k _ hk => Below.heap_setCell _ _ _ k (fun e => hk (by rw [e]))⟩
    · intro k hk; cases hk; exact ⟨hBb, rfl, cur, hg⟩
  · have holds : ∀ (j : Nat) (u : Value), (intv xs)[j]? = some u → w.cell? ((⟨b, off, none⟩ : Addr).add j) = some u := by
      intro j u hu
      have hj : j < xs.length := by have := (List.getElem?_eq_some_iff.1 hu).1; simpa [intv] using this
      have e : (⟨b, off, none⟩ : Addr).add j = ⟨b, off + j, none⟩ := by unfold Addr.add; split <;> simp_all
      rw [e, cell_of_row w b _ _ _ _ hg, hcur j hj, ← hu]
      unfold intv; rw [List.getElem?_map, List.getElem?_eq_getElem hj, getn_eq hj]; rfl
    obtain ⟨v', w', hrun, hown, hgr⟩ := run_append_arg_grows (P := P) w t ty 3 i (.int .i64 0) 1 8 ht hi hz hs hby rfl (by decide) ⟨b, off, none⟩ xs.length cap (intv xs) (by simp [intv]) holds a 1 c [.int .i64 x] rfl hnews (by omega) (by unfold maxLen; omega) (by omega)
    refine ⟨v', w', hrun, Que.of_own (n := xs.length + 1) ?_ (by omega), ⟨none, hgr, fun k hk => by cases hk⟩, .inr fun k hk => ?_⟩
    rotate_left
    · rcases hown.2 with ⟨rfl, _⟩ | ⟨g, cap', cur', rfl, hb, _⟩
      · cases hk
      · cases hk; exact hb
    have e2 : intv (xs ++ [x]) = intv xs ++ [.int .i64 x] := by simp [intv]
    rw [e2]; exact own_mono hown hB
theorem wpListIn_append_que {F : Fence} {n : Nat} {P : Program} (w : World) {ops : Array Oper} {rest : List Oper} {o : Oper} {a : Act} {Q : Exit → Act → World → Prop}
    (hg : o.guard = none) (s x : Operand) (t : TypeId) (hop : o.op = Op.call { callee := Callee.builtin Builtin.append, args := #[s, x], argTypes := #[t, t] })
    (B : Nat) (i : TypeInfo) (ht : P.underlying t = some (.slice 3)) (hi : P.info? 3 = some i) (hz : i.zero = some (.int .i64 0)) (hsz : i.size = 1) (hby : i.bytes = 8)
    (v : Value) (xs : List Nat) (hs : a.eval s = v) (hq : Que w B v xs) (hB : B ≤ w.heap.size) (ad : Addr) (c y : Nat) (hx : a.eval x = .slice (some ad) 1 c) (hc : w.cell? ad = some (.int .i64 y)) (hlen : xs.length ≤ 1000)
    (hK : ∀ v' w', Que w' B v' (xs ++ [y]) → QG B v w v' w' → wpListIn F n P ops Q rest (a.put o.dst v') w') :
    wpListIn F n P ops Q (o :: rest) a w := by
  refine wpListIn_plain hg fun K hK' => ?_
  obtain ⟨v', w', hrun, r1, r2⟩ := que_append (P := P) hq hB t o.type ht i hi hz hsz hby ad c y hc hlen
  unfold Oper.wpIn
  refine ⟨?_, ?_⟩
  · simp [Oper.about, hop, resolve, Target.leads, Sem.run_pure]
  · rw [Oper.semAt_plain F _ _ (by rw [hop]; intro c hc'; cases hc')]
    simp [execOp, hop, resolve, invoke, builtin, hs, hx, hrun, Result.andThen]
    exact hK' _ _ (hK v' w' r1 r2)
end Go.Proofs.Ytpaeagkgmbhndaa
/- Searching a way: plain facts. -/
namespace Go.Proofs.Ytpaeagkgmbhndaa
set_option maxHeartbeats 400000
theorem with_has (s v j : Nat) : sHas (sWith s v) j = (sHas s j || decide (v = j)) := with_bit s v j
theorem with_lt {s v : Nat} (h : s < 65536) (hv : v < 16) : sWith s v < 65536 := by
  unfold sWith
  exact Nat.or_lt_two_pow (n := 16) h (Nat.lt_of_lt_of_le (Nat.pow_lt_pow_right (by omega) hv) (by omega))
theorem with_same {s v : Nat} (h : sHas s v = true) : sWith s v = s := by
  apply Nat.eq_of_testBit_eq; intro i
  have := with_bit s v i
  rw [this]
  by_cases e : v = i
  · subst e; unfold sHas at h; simp [h]
  · simp [e]
theorem without_with {s v : Nat} (hs : s < 65536) (hv : v < 16) (h : sHas s v = false) : sWithout (sWith s v) v = s := by
  apply Nat.eq_of_testBit_eq; intro i
  rw [without_bit _ _ _ (with_lt hs hv) hv, with_bit]
  by_cases e : v = i
  · subst e; unfold sHas at h; simp [h]
  · simp [e]
theorem pc_with {s v : Nat} (hs : s < 65536) (hv : v < 16) (h : sHas s v = false) : pc 16 (sWith s v) = pc 16 s + 1 := by
  have := pc_without (with_lt hs hv) hv (s := sWith s v) (by rw [with_has]; simp)
  rw [without_with hs hv h] at this; exact this.symm
theorem getn_set {xs : List Nat} {i x j : Nat} (h : i < xs.length) : getn (xs.set i x) j = if i = j then x else getn xs j := by
  unfold getn
  rw [List.getD_eq_getElem?_getD, List.getD_eq_getElem?_getD, List.getElem?_set]
  split
  · rename_i e; subst e; first | rfl | (rw [if_pos h]; rfl)
  · rfl
/-- A piece can be moved from p to v. -/
def Eg (gs : List Nat) (H : Nat → Nat → Int) (p v : Nat) : Prop := p < 16 ∧ v < 16 ∧ sHas (near gs p) v = true ∧ H p v ≠ 0
/-- The way back to from, over before-numbers; each step a depth less. -/
structure Tree (gs : List Nat) (H : Nat → Nat → Int) (from_ R : Nat) (bs : List Nat) : Prop where
  lt : R < 65536
  blen : bs.length = 16
  blt : ∀ i, getn bs i < 16
  f16 : from_ < 16
  root : sHas R from_ = true
  dep : ∃ dep : Nat → Nat, dep from_ = 0 ∧ (∀ v, v < 16 → sHas R v = true → dep v < pc 16 R) ∧ ∀ v, v < 16 → sHas R v = true → v ≠ from_ → sHas R (getn bs v) = true ∧ dep v = dep (getn bs v) + 1 ∧ Eg gs H (getn bs v) v
def WayL (E : Nat → Nat → Prop) (from_ : Nat) : List Nat → Prop
  | [] => False
  | [v] => v = from_
  | v :: p :: t => E p v ∧ v ≠ from_ ∧ WayL E from_ (p :: t)
theorem wbF_head (bs : List Nat) (f k v : Nat) : ∃ t, wbF bs f k v = v :: t := by
  cases k with
  | zero => exact ⟨[], rfl⟩
  | succ k => unfold wbF; split <;> exact ⟨_, rfl⟩
theorem Tree.way {gs : List Nat} {H : Nat → Nat → Int} {f R : Nat} {bs : List Nat} (t : Tree gs H f R bs) {v : Nat} (hv : v < 16) (hR : sHas R v = true) (hf : v ≠ f) :
    ∃ K, K ≤ 16 ∧ wbOK bs f K v ∧ WayL (Eg gs H) f (wbF bs f K v) ∧ (wbF bs f K v).Nodup ∧ (wbF bs f K v).length ≤ 16 ∧ (∀ x ∈ wbF bs f K v, x < 16) := by
  obtain ⟨dep, d0, d1, d2⟩ := t.dep
  have key : ∀ k v, v < 16 → sHas R v = true → dep v = k → wbOK bs f k v ∧ WayL (Eg gs H) f (wbF bs f k v) ∧ (wbF bs f k v).Nodup ∧ (wbF bs f k v).length ≤ k + 1 ∧ (∀ x ∈ wbF bs f k v, x < 16 ∧ dep x ≤ k) := by
    intro k
    induction k with
    | zero =>
      intro v hv hR hd
      have e : v = f := by
        by_cases e : v = f
        · exact e
        · have := (d2 v hv hR e).2.1; omega
      subst e
      exact ⟨rfl, by simp [wbF, WayL], by simp [wbF], by simp [wbF], by simp [wbF, hv, hd]⟩
    | succ k ih =>
      intro v hv hR hd
      have e : v ≠ f := by intro e; subst e; omega
      obtain ⟨h1, h2, h3⟩ := d2 v hv hR e
      obtain ⟨i1, i2, i3, i4, i5⟩ := ih (getn bs v) (t.blt v) h1 (by omega)
      have hw : wbF bs f (k + 1) v = v :: wbF bs f k (getn bs v) := by rw [wbF, if_neg e]
      rw [hw]
      refine ⟨.inr i1, ?_, ?_, by simp; omega, ?_⟩
      · obtain ⟨tl, ht⟩ := wbF_head bs f k (getn bs v)
        rw [ht] at i2 ⊢
        exact ⟨h3, e, i2⟩
      · rw [List.nodup_cons]; exact ⟨fun hm => by have := (i5 v hm).2; omega, i3⟩
      · intro x hx
        rcases List.mem_cons.1 hx with rfl | hx
        · exact ⟨hv, by omega⟩
        · have := i5 x hx; exact ⟨this.1, by omega⟩
  have hk := key (dep v) v hv hR rfl
  have h1 := d1 v hv hR
  have h2 := pc_le 16 R
  exact ⟨dep v, by omega, hk.1, hk.2.1, hk.2.2.1, by have := hk.2.2.2.1; omega, fun x hx => (hk.2.2.2.2 x hx).1⟩
theorem Tree.start (gs : List Nat) (H : Nat → Nat → Int) {f : Nat} (hf : f < 16) (bs : List Nat) (hb : bs.length = 16) (hb2 : ∀ i, getn bs i < 16) : Tree gs H f (sWith 0 f) bs := by
  have hR : ∀ v, sHas (sWith 0 f) v = true → v = f := by intro v hv; rw [with_has] at hv; simp [sHas] at hv; exact hv.symm
  have h1 : sHas (sWith 0 f) f = true := by rw [with_has]; simp
  refine ⟨with_lt (by omega) hf, hb, hb2, hf, h1, fun _ => 0, rfl, fun v hv hr => ?_, fun v hv hr hn => absurd (hR v hr) hn⟩
  rw [pc_with (by omega) hf (by simp [sHas])]; exact Nat.succ_pos _
/-- One more vertex is reached. -/
theorem Tree.step {gs : List Nat} {H : Nat → Nat → Int} {f R : Nat} {bs : List Nat} (t : Tree gs H f R bs) {a v : Nat} (ha : sHas R a = true) (he : Eg gs H a v) (hv : sHas R v = false ∨ getn bs v = a ∧ v ≠ f) : Tree gs H f (sWith R v) (bs.set v a) := by
  obtain ⟨dep, d0, d1, d2⟩ := t.dep
  have hv16 := he.2.1
  by_cases hn : sHas R v = true
  · obtain ⟨e, hvf⟩ := hv.resolve_left (by simp [hn])
    have e1 : bs.set v a = bs := by
      apply List.ext_getElem?; intro i; rw [List.getElem?_set]
      split
      · rename_i e2; subst e2
        have : v < bs.length := by rw [t.blen]; omega
        rw [if_pos this, List.getElem?_eq_getElem this, ← e, getn_eq this]
      · rfl
    rw [with_same hn, e1]; exact t
  · have hn' : sHas R v = false := by simpa using hn
    have hp := pc_with t.lt hv16 hn'
    have hav : a ≠ v := by intro e; subst e; simp [hn'] at ha
    have hfv : f ≠ v := by intro e; subst e; have := t.root; simp [hn'] at this
    refine ⟨with_lt t.lt hv16, by simp [t.blen], fun i => ?_, t.f16, by rw [with_has, t.root]; rfl, fun x => if x = v then dep a + 1 else dep x, ?_, ?_, ?_⟩
    · rw [getn_set (by rw [t.blen]; exact hv16)]; split
      · exact he.1
      · exact t.blt i
    · show (if f = v then dep a + 1 else dep f) = 0
      rw [if_neg hfv]; exact d0
    · intro x hx hr
      rw [hp]
      simp only
      split
      · have := d1 a he.1 ha; omega
      · rename_i e; rw [with_has] at hr
        have : sHas R x = true := by simpa [Ne.symm e] using hr
        have := d1 x hx this; omega
    · intro x hx hr hxf
      rw [getn_set (by rw [t.blen]; exact hv16), with_has]
      by_cases e : x = v
      · subst e
        have e3 : (if x = x then a else getn bs x) = a := if_pos rfl
        rw [e3]
        refine ⟨by simp [ha], ?_, he⟩
        show (if x = x then dep a + 1 else dep x) = (if a = x then dep a + 1 else dep a) + 1
        rw [if_pos rfl, if_neg hav]
      · rw [with_has] at hr
        have hr' : sHas R x = true := by simpa [Ne.symm e] using hr
        obtain ⟨g1, g2, g3⟩ := d2 x hx hr' hxf
        have e2 : getn bs x ≠ v := by intro e2; rw [e2] at g1; simp [hn'] at g1
        simp only [if_neg e, if_neg (Ne.symm e), if_neg e2]
        exact ⟨by simp [g1], g2, g3⟩
/-- The search between two rounds. -/
structure BfsI (gs : List Nat) (H : Nat → Nat → Int) (L : Nat → Int) (f : Nat) (lim : Int) (R : Nat) (bs q : List Nat) : Prop where
  tree : Tree gs H f R bs
  qm : ∀ v ∈ q, v < 16 ∧ sHas R v = true
  closed : ∀ v, v < 16 → sHas R v = true → v ∉ q → ∀ u, u < 16 → sHas (near gs v) u = true → H v u ≠ 0 → sHas R u = true
  ge : ∀ v, v < 16 → sHas R v = true → v ≠ f → lim ≤ L v
  meas : 2 * (16 - pc 16 R) + q.length ≤ 32
/-- The search within a round at a. -/
structure Mid (gs : List Nat) (H : Nat → Nat → Int) (L : Nat → Int) (f : Nat) (lim : Int) (a R0 : Nat) (q0 us : List Nat) (R : Nat) (bs q : List Nat) : Prop where
  tree : Tree gs H f R bs
  a16 : a < 16
  hasA : sHas R a = true
  sub : ∀ v, sHas R0 v = true → sHas R v = true
  new : ∀ v, v < 16 → sHas R v = true → sHas R0 v = true ∨ (v ∈ us ∧ getn bs v = a ∧ v ≠ f)
  qeq : q = q0 ++ us.filter fun u => decide (H a u ≠ 0)
  rq : ∀ u ∈ us, H a u ≠ 0 → sHas R u = true
  ge : ∀ v, v < 16 → sHas R v = true → v ≠ f → lim ≤ L v
  pcq : us.Nodup → pc 16 R + q0.length = pc 16 R0 + q.length
  root0 : sHas R0 f = true
theorem BfsI.mid {gs : List Nat} {H : Nat → Nat → Int} {L : Nat → Int} {f : Nat} {lim : Int} {R a : Nat} {bs q : List Nat} (b : BfsI gs H L f lim R bs (a :: q)) : Mid gs H L f lim a R q [] R bs q :=
  ⟨b.tree, (b.qm a (List.mem_cons_self ..)).1, (b.qm a (List.mem_cons_self ..)).2, fun _ h => h, fun _ _ h => .inl h, by simp, by simp, b.ge, fun _ => rfl, b.tree.root⟩
theorem Mid.skip {gs : List Nat} {H : Nat → Nat → Int} {L : Nat → Int} {f : Nat} {lim : Int} {a R0 R : Nat} {q0 us bs q : List Nat} (m : Mid gs H L f lim a R0 q0 us R bs q) {x : Nat} (h : H a x = 0) : Mid gs H L f lim a R0 q0 (us ++ [x]) R bs q := by
  refine ⟨m.tree, m.a16, m.hasA, m.sub, fun v hv hr => (m.new v hv hr).imp id (fun h => ⟨List.mem_append_left _ h.1, h.2⟩), ?_, ?_, m.ge, fun hn => m.pcq (List.nodup_append.1 hn).1, m.root0⟩
  · rw [List.filter_append, m.qeq]; simp [h]
  · intro u hu hne
    rcases List.mem_append.1 hu with hu | hu
    · exact m.rq u hu hne
    · simp at hu; subst hu; exact absurd h hne
theorem Mid.tree_add {gs : List Nat} {H : Nat → Nat → Int} {L : Nat → Int} {f : Nat} {lim : Int} {a R0 R : Nat} {q0 us bs q : List Nat} (m : Mid gs H L f lim a R0 q0 us R bs q) {x : Nat} (hx : x < 16) (hn : sHas (near gs a) x = true)
    (h0 : sHas R0 x = false) (h : H a x ≠ 0) : Tree gs H f (sWith R x) (bs.set x a) := by
  refine m.tree.step m.hasA ⟨m.a16, hx, hn, h⟩ ?_
  cases hr : sHas R x
  · exact .inl rfl
  · rcases m.new x hx hr with h1 | h1
    · rw [h0] at h1; cases h1
    · exact .inr h1.2
theorem Mid.add {gs : List Nat} {H : Nat → Nat → Int} {L : Nat → Int} {f : Nat} {lim : Int} {a R0 R : Nat} {q0 us bs q : List Nat} (m : Mid gs H L f lim a R0 q0 us R bs q) {x : Nat} (hx : x < 16) (hn : sHas (near gs a) x = true)
    (h0 : sHas R0 x = false) (h : H a x ≠ 0) (hL : lim ≤ L x) : Mid gs H L f lim a R0 q0 (us ++ [x]) (sWith R x) (bs.set x a) (q ++ [x]) := by
  have hxf : x ≠ f := by intro e; subst e; have := m.root0; rw [h0] at this; cases this
  have hbl := m.tree.blen
  refine ⟨m.tree_add hx hn h0 h, m.a16, by rw [with_has, m.hasA]; rfl, fun v hv => by rw [with_has, m.sub v hv]; rfl, ?_, ?_, ?_, ?_, ?_, m.root0⟩
  · intro v hv hr
    rw [getn_set (by rw [hbl]; exact hx)]
    by_cases e : x = v
    · subst e; exact .inr ⟨by simp, by rw [if_pos rfl], hxf⟩
    · rw [with_has] at hr
      rw [if_neg e]
      exact (m.new v hv (by simpa [e] using hr)).imp id (fun h => ⟨List.mem_append_left _ h.1, h.2⟩)
  · rw [List.filter_append, m.qeq]; simp [h]
  · intro u hu hne
    rw [with_has]
    rcases List.mem_append.1 hu with hu | hu
    · rw [m.rq u hu hne]; rfl
    · simp at hu; subst hu; simp
  · intro v hv hr hf
    rw [with_has] at hr
    by_cases e : x = v
    · subst e; exact hL
    · exact m.ge v hv (by simpa [e] using hr) hf
  · intro hnd
    have hnd' := (List.nodup_append.1 hnd)
    have hno : sHas R x = false := by
      cases hr : sHas R x
      · rfl
      · rcases m.new x hx hr with h1 | h1
        · rw [h0] at h1; cases h1
        · exact absurd rfl (hnd'.2.2 x h1.1 x (by simp))
    rw [pc_with m.tree.lt hx hno]
    have := m.pcq hnd'.1
    simp; omega
theorem Mid.done {gs : List Nat} {H : Nat → Nat → Int} {L : Nat → Int} {f : Nat} {lim : Int} {a R0 R : Nat} {q0 bs0 bs q : List Nat} (b : BfsI gs H L f lim R0 bs0 (a :: q0)) (hg : Rows16 gs)
    (m : Mid gs H L f lim a R0 q0 (ms (sAndNot (near gs a) R0)) R bs q) : BfsI gs H L f lim R bs q ∧ 2 * (16 - pc 16 R) + q.length < 2 * (16 - pc 16 R0) + (q0.length + 1) := by
  have hin : ∀ u, u ∈ ms (sAndNot (near gs a) R0) ↔ u < 16 ∧ sHas (near gs a) u = true ∧ sHas R0 u = false := by
    intro u; rw [mem_ms]
    have : sHas (sAndNot (near gs a) R0) u = ((near gs a).testBit u && !R0.testBit u) := andNot_bit _ _ _ (hg.lt a) (Nat.lt_trans b.tree.lt (by omega))
    rw [this]; simp [sHas]
  have hnd : (ms (sAndNot (near gs a) R0)).Nodup := (List.nodup_range).filter _
  have hp := m.pcq hnd
  have hle := pc_le 16 R
  have hq : q0.length ≤ q.length := by rw [m.qeq]; simp
  have hb := b.meas
  simp only [List.length_cons] at hb
  refine ⟨⟨m.tree, ?_, ?_, m.ge, by omega⟩, by omega⟩
  · intro v hv
    rw [m.qeq] at hv
    rcases List.mem_append.1 hv with hv | hv
    · have := b.qm v (List.mem_cons_of_mem _ hv); exact ⟨this.1, m.sub v this.2⟩
    · have h1 := List.mem_filter.1 hv
      exact ⟨((hin v).1 h1.1).1, m.rq v h1.1 (by simpa using h1.2)⟩
  · intro v hv hr hnq u hu hnu hne
    by_cases e : v = a
    · subst e
      cases h0 : sHas R0 u
      · exact m.rq u ((hin u).2 ⟨hu, hnu, h0⟩) hne
      · exact m.sub u h0
    · have hv0 : sHas R0 v = true := by
        rcases m.new v hv hr with h1 | h1
        · exact h1
        · have h2 := (hin v).1 h1.1
          by_cases hne2 : H a v = 0
          · rcases m.tree.dep with ⟨dep, _, _, d2⟩
            have := (d2 v hv hr h1.2.2).2.2
            rw [h1.2.1] at this
            exact absurd hne2 this.2.2.2
          · exact absurd (by rw [m.qeq]; exact List.mem_append_right _ (List.mem_filter.2 ⟨h1.1, by simpa using hne2⟩)) hnq
      refine m.sub u (b.closed v hv hv0 ?_ u hu hnu hne)
      intro hm
      rcases List.mem_cons.1 hm with e2 | hm
      · exact e e2
      · exact hnq (by rw [m.qeq]; exact List.mem_append_left _ hm)
/-- What a search answers. -/
structure WayPost (gs : List Nat) (H : Nat → Nat → Int) (L : Nat → Int) (f : Nat) (lim : Int) (R : Nat) (ws : List Nat) : Prop where
  lt : R < 65536
  root : sHas R f = true
  stuck : ws = [] → (∀ v, v < 16 → sHas R v = true → ∀ u, u < 16 → sHas (near gs v) u = true → H v u ≠ 0 → sHas R u = true) ∧ (∀ v, v < 16 → sHas R v = true → v ≠ f → lim ≤ L v)
  way : ws ≠ [] → WayL (Eg gs H) f ws ∧ ws.Nodup ∧ ws.length ≤ 16 ∧ (∀ x ∈ ws, x < 16) ∧ L (getn ws 0) < lim ∧ getn ws 0 ≠ f
  reach : ∀ v, v < 16 → sHas R v = true → v ≠ f → ∃ u, sHas (near gs u) v = true
theorem Tree.reach {gs : List Nat} {H : Nat → Nat → Int} {f R : Nat} {bs : List Nat} (t : Tree gs H f R bs) : ∀ v, v < 16 → sHas R v = true → v ≠ f → ∃ u, sHas (near gs u) v = true := fun v hv hr hf => by
  obtain ⟨dep, _, _, d2⟩ := t.dep
  exact ⟨_, (d2 v hv hr hf).2.2.2.2.1⟩
theorem BfsI.post {gs : List Nat} {H : Nat → Nat → Int} {L : Nat → Int} {f : Nat} {lim : Int} {R : Nat} {bs : List Nat} (b : BfsI gs H L f lim R bs []) : WayPost gs H L f lim R [] :=
  ⟨b.tree.lt, b.tree.root, fun _ => ⟨fun v hv hr => b.closed v hv hr (by simp), b.ge⟩, fun h => absurd rfl h, b.tree.reach⟩
theorem BfsI.start (gs : List Nat) (H : Nat → Nat → Int) (L : Nat → Int) {f : Nat} (lim : Int) (hf : f < 16) {bs : List Nat} (hb : bs.length = 16) (hb2 : ∀ i, getn bs i < 16) : BfsI gs H L f lim (sWith 0 f) bs [f] := by
  have hR : ∀ v, sHas (sWith 0 f) v = true → v = f := by intro v hv; rw [with_has] at hv; simp [sHas] at hv; exact hv.symm
  refine ⟨Tree.start gs H hf bs hb hb2, ?_, ?_, ?_, ?_⟩
  · intro v hv; simp at hv; subst hv; exact ⟨hf, by rw [with_has]; simp⟩
  · intro v _ hr hnq; exact absurd (by simp [hR v hr]) hnq
  · intro v _ hr hne; exact absurd (hR v hr) hne
  · rw [pc_with (by omega) hf (by simp [sHas])]; simp; omega
theorem Tree.post {gs : List Nat} {H : Nat → Nat → Int} {L : Nat → Int} {f : Nat} {lim : Int} {R v : Nat} {bs : List Nat} (t : Tree gs H f R bs) (hv : v < 16) (hr : sHas R v = true) (hf : v ≠ f) (hL : L v < lim) :
    ∃ K, K ≤ 16 ∧ wbOK bs f K v ∧ WayPost gs H L f lim R (wbF bs f K v) := by
  obtain ⟨K, h1, h2, h3, h4, h5, h6⟩ := t.way hv hr hf
  obtain ⟨tl, ht⟩ := wbF_head bs f K v
  refine ⟨K, h1, h2, t.lt, t.root, fun he => (by rw [ht] at he; cases he), fun _ => ⟨h3, h4, h5, h6, ?_, ?_⟩, t.reach⟩
  · rw [ht]; exact hL
  · rw [ht]; exact hf
end Go.Proofs.Ytpaeagkgmbhndaa
/- What stays while a search goes on. -/
namespace Go.Proofs.Ytpaeagkgmbhndaa
open Go.RowKit Go.Shelf
set_option maxHeartbeats 400000
def Dfs (Ds : List Nat) (W : World) : Prop := ∀ D ∈ Ds, W.heap[D]? = some (.deferred (some []))
theorem Dfs.keep {Ds : List Nat} {W W' : World} (h : Dfs Ds W) (k : KeepsFrom 0 W W') : Dfs Ds W' := fun D hD => k.same D _ (Nat.zero_le _) (h D hD) rfl
theorem KeepsFrom.up {B : Nat} {W W' : World} (k : KeepsFrom 0 W W') : KeepsFrom B W W' := ⟨k.size, fun i o _ hi ho => k.same i o (Nat.zero_le _) hi ho⟩
theorem QG.keep {B : Nat} {v v' : Value} {W W' : World} (h : QG B v W v' W') : KeepsFrom 0 W W' := by
  obtain ⟨⟨r, hg, hr⟩, _⟩ := h
  refine ⟨hg.size, fun k o _ hk ho => (hg.block k (Array.getElem?_eq_some_iff.1 hk).1 (fun e => ?_)).trans hk⟩
  obtain ⟨_, _, cs, hc⟩ := hr k e.symm
  rw [hc] at hk; cases hk; cases ho
theorem QG.far {B g : Nat} {v v' : Value} {W W' : World} {t : TypeId} {cs : List Value} (h : QG B v W v' W') (hr : Row W g t cs) (ht : t ≠ 3 ∨ g < B ∨ qblk v ≠ some g) : Row W' g t cs := by
  obtain ⟨⟨r, hg, hk⟩, _⟩ := h
  refine hr.grown hg (fun e => ?_)
  obtain ⟨h1, h2, cs', hc⟩ := hk g e.symm
  rcases ht with ht | ht | ht
  · unfold Row at hr
    rw [hr] at hc; injection hc with hc; injection hc with _ h4; exact ht h4
  · omega
  · exact ht h2
theorem QG.under {B n : Nat} {v v' : Value} {W W' w : World} (h : QG B v W v' W') (hb : Below n w W) (hn : n ≤ B) (hw : n ≤ W.heap.size) : Below n w W' := by
  obtain ⟨⟨r, hg, hk⟩, _⟩ := h
  exact hb.grown hg hw (fun g e => by have := (hk g e).1; omega)
theorem QG.ne {B g : Nat} {v v' : Value} {W W' : World} (h : QG B v W v' W') (hv : qblk v ≠ some g) (hg : g < W.heap.size) : qblk v' ≠ some g := by
  rcases h.blk with e | e
  · rw [e]; exact hv
  · intro e2; have := e g e2; omega
theorem Que.blk_lt {w : World} {B : Nat} {v : Value} {xs : List Nat} (h : Que w B v xs) : qblk v ≠ some w.heap.size := by
  obtain ⟨b, off, cap, cur, rfl, _, _, _, h5, _⟩ := h
  intro e; simp [qblk] at e
  have := (Array.getElem?_eq_some_iff.1 h5).1; omega
theorem ownFrom_dfs {β : Type} {Ds : List Nat} {Bd : Nat} (h : ∀ D ∈ Ds, D < Bd) : OwnFrom Bd (fun (_ : β) W => Dfs Ds W) := fun _ A B row hs hg hr D hD => by
  have h1 := hs D hD
  exact (hg.block D (Array.getElem?_eq_some_iff.1 h1).1 (fun e => by have := (hr D e.symm).1; have := h D hD; omega)).trans h1
theorem ownFrom_ex {β γ : Type} {J : γ → β → World → Prop} {Bd : Nat} (h : ∀ x, OwnFrom Bd (J x)) : OwnFrom Bd (fun s W => ∃ x, J x s W) := fun s A B row ⟨x, hs⟩ hg hr => ⟨x, h x s A B row hs hg hr⟩
theorem ownFrom_pure {β : Type} {p : β → Prop} {Bd : Nat} : OwnFrom Bd (fun s _ => p s) := fun _ _ _ _ hs _ _ => hs
theorem Que.same {w w' : World} {B : Nat} {v : Value} {xs : List Nat} (h : Que w B v xs) (hk : ∀ k, B ≤ k → k < w.heap.size → (∃ cs, w.heap[k]? = some (.cells cs 3 (0, 0))) → w'.heap[k]? = w.heap[k]?) : Que w' B v xs := by
  obtain ⟨b, off, cap, cur, h1, h2, h3, h4, h5, h6⟩ := h
  exact ⟨b, off, cap, cur, h1, h2, h3, h4, (hk b h4 (Array.getElem?_eq_some_iff.1 h5).1 ⟨_, h5⟩).trans h5, h6⟩
theorem ownFrom_que {β : Type} {B Bd : Nat} {v : Value} {xs : List Nat} : OwnFrom Bd (fun (_ : β) W => Que W B v xs) := fun _ A C row hs hg hr => hs.same (fun k _ hk ⟨cs, hc⟩ => hg.block k hk (fun e => by
  obtain ⟨_, o, ho, hcl⟩ := hr k e.symm
  rw [hc] at ho; cases ho; cases hcl))
theorem Que.below {w w' : World} {B : Nat} {v : Value} {xs : List Nat} (h : Que w B v xs) (hb : Below w.heap.size w w') : Que w' B v xs := h.same (fun k _ hk _ => hb.block k hk)
theorem Que.drewN {w : World} {B : Nat} {v : Value} {xs : List Nat} (h : Que w B v xs) (n : Nat) : Que (w.drewN n) B v xs := h
theorem Que.alloc {w : World} {B : Nat} {v : Value} {xs : List Nat} (h : Que w B v xs) (o : Obj) : Que (w.alloc o) B v xs := h.same (fun k _ hk _ => Below.heap_alloc w o k hk)
theorem Que.set {w : World} {B : Nat} {v : Value} {xs : List Nat} (h : Que w B v xs) {p : Addr} (hp : p.block < B) (u : Value) : Que (w.setCell p u) B v xs := h.same (fun k hk _ _ => Below.heap_setCell w p u k (by omega))
theorem Que.set_row {w : World} {B g : Nat} {t : TypeId} {cs : List Value} {v : Value} {xs : List Nat} (h : Que w B v xs) {o : Nat} (hr : Row w g t cs) (ht : t ≠ 3) (u : Value) : Que (w.setCell ⟨g, o, none⟩ u) B v xs := h.same (fun k _ _ ⟨cs', hc⟩ => Below.heap_setCell w _ u k (fun e => by
  subst e; unfold Row at hr; rw [hr] at hc; injection hc with hc; injection hc with _ h4; exact ht h4))
theorem Que.head {w : World} {B x : Nat} {v : Value} {xs : List Nat} (h : Que w B v (x :: xs)) : ∃ b off cap, v = .slice (some ⟨b, off, none⟩) (xs.length + 1) (cap + 1) ∧ w.cell? ⟨b, off, none⟩ = some (.int .i64 x) ∧ Que w B (.slice (some ⟨b, off + 1, none⟩) xs.length cap) xs ∧ xs.length ≤ cap ∧ cap + 1 ≤ maxLen := by
  obtain ⟨b, off, cap, cur, h1, h2, h3, h4, h5, h6, h7⟩ := h
  simp only [List.length_cons] at h1 h2 h7
  obtain ⟨cap, rfl⟩ : ∃ c, cap = c + 1 := ⟨cap - 1, by omega⟩
  refine ⟨b, off, cap, h1, ?_, ⟨b, off + 1, cap, cur, rfl, by omega, by omega, h4, h5, by omega, fun j hj => ?_⟩, by omega, h3⟩
  · rw [cell_of_row w b _ _ _ _ h5]
    have := h7 0 (by omega)
    simpa [getn] using this
  · have := h7 (j + 1) (by omega)
    rw [show off + 1 + j = off + (j + 1) by omega, this]; simp [getn]
theorem Que.back {w : World} {B b off cap : Nat} {xs : List Nat} (h : Que w B (.slice (some ⟨b, off + 1, none⟩) xs.length cap) xs) (hc : cap = 0) : Que w B (.slice (some ⟨b, off, none⟩) xs.length 0) xs := by
  obtain ⟨b', off', cap', cur, h1, h2, h3, h4, h5, h6, h7⟩ := h
  injection h1 with h1 _ h8
  injection h1 with h1
  injection h1 with h9 h10
  subst h9; subst h8; subst hc
  exact ⟨b, off, 0, cur, rfl, h2, by omega, h4, h5, by omega, fun j hj => absurd hj (by omega)⟩
theorem Marks.keep {Ds : List Nat} {W W' : World} (h : Marks Ds W) (k : KeepsFrom 0 W W') : Marks Ds W' := ⟨h.1, Dfs.keep h.2 k⟩
theorem shut_own {Ds : List Nat} {w : World} (hm : Marks Ds w) {b n : Nat} {e : TypeId} {z : Nat} {v : Value} {xs : List Value} (h : w.ownsRow b e z v n xs) : (shut Ds w).ownsRow b e z v n xs := by
  induction Ds generalizing w with
  | nil => exact h
  | cons D Ds ih =>
    refine ih hm.tail ⟨h.1, ?_⟩
    rcases h.2 with hn | ⟨g, cap, cur, rfl, hbg, hgg, rest⟩
    · exact .inl hn
    · refine .inr ⟨g, cap, cur, rfl, hbg, (World.putObj_heap_other (fun e => ?_)).trans hgg, rest⟩
      have := hm.2 D (List.mem_cons_self ..)
      rw [← e, hgg] at this; cases this
theorem own_set {w : World} {b n : Nat} {e : TypeId} {z : Nat} {v : Value} {xs : List Value} (h : w.ownsRow b e z v n xs) {p : Addr} (hp : p.block < b) (u : Value) : (w.setCell p u).ownsRow b e z v n xs := by
  refine ⟨h.1, ?_⟩
  rcases h.2 with hn | ⟨g, cap, cur, rfl, hbg, hgg, rest⟩
  · exact .inl hn
  · exact .inr ⟨g, cap, cur, rfl, hbg, (Below.heap_setCell w p u g (by omega)).trans hgg, rest⟩
/-- A frame's slots, by their numbers. -/
def uF : List Value → Nat → Value
  | [], _ => undef
  | x :: _, 0 => x
  | _ :: l, k + 1 => uF l k
theorem wpListIn_load_mid {F : Fence} {n : Nat} {P : Program} {w : World} {ops : Array Oper} {rest : List Oper} {o : Oper} {a : Act} {Q : Exit → Act → World → Prop}
    (hg : o.guard = none) (ty : TypeId) (x : Operand) (hop : o.op = .load ty x) (b off : Nat) (hx : a.eval x = .pointer (some ⟨b, off, none⟩)) (cs : List Value) (d : TypeDesc) (hc : w.rangeAt b off cs)
    (hu : P.underlying ty = some d) (hd : d.isRow = true) (hi : (P.info? ty).map (·.size) = some cs.length) (h : wpListIn F n P ops Q rest (a.put o.dst (.agg cs.toArray)) w) : wpListIn F n P ops Q (o :: rest) a w := by
  refine wpListIn_plain hg fun K hK' => ?_
  unfold Oper.wpIn
  refine ⟨?_, ?_⟩
  · simp [Oper.about, hop]
  · rw [Oper.semAt_plain F _ _ (by rw [hop]; intro c hc'; cases hc')]
    simp [execOp, hop, hx, run_loadAt_mid w b off ty cs d hc hu hd hi, Result.andThen]
    exact hK' _ _ h
theorem Row.range {w : World} {g : Nat} {t : TypeId} {cs : List Value} (h : Row w g t cs) : w.rangeAt g 0 cs := fun j v hj => by rw [Nat.zero_add, h.cell]; exact hj
theorem info93k : (Try.prog.info? 93).map (·.size) = some 16 := by kernel_rfl
theorem info93 {bs : List Nat} (h : bs.length = 16) : (Try.prog.info? 93).map (·.size) = some (intv bs).length := by rw [info93k]; simp [intv, h]
/-! A scope inside a fence. -/
theorem wpIn_scope_straight {F : Fence} {n : Nat} {P : Program} {Q : Exit → Act → World → Prop} {a : Act} {w : World} {c : Code} (h : c.wpIn F n P (Exit.noGoto Q) a w) : (Code.scope c).wpIn F n P Q a w := by
  intro b k cs hro hb hr
  have h0 : (Go.lone (b.atR a (.code (.scope c) :: k)) cs w).fenced P F := fenced_calm hb hr rfl
  have h1 : step P (Go.lone (b.atR a (.code (.scope c) :: k)) cs w) = .next (Go.lone (b.atR a (.code c :: .inScope c :: k)) cs w) := step_lone_go (by simp [stepG, stepG.exec, Frame.atR])
  obtain ⟨e, a₁, w₁, hq, harr⟩ := h b (.inScope c :: k) cs hro hb hr
  cases e with
  | normal =>
    have h2 : step P (Go.lone (b.atR a₁ (.inScope c :: k)) cs w₁) = .next (Go.lone (b.atR a₁ k) cs w₁) := step_lone_go (by simp [stepG, stepG.exec, Frame.atR])
    exact ⟨.normal, a₁, w₁, hq, .head h0 h1 (StepsIn.trans harr (.one (fenced_calm hb hr rfl) h2))⟩
  | exit id =>
    have hx : exitTo id (.inScope c :: k) = exitTo id k := by simp [exitTo]
    exact ⟨.exit id, a₁, w₁, hq, fun k' hk => .head h0 h1 (harr.1 k' (by rw [hx]; exact hk)), fun hr' hk => let ⟨k₁, g1, g2⟩ := harr.2 hr' (by rw [hx]; exact hk); ⟨k₁, g1, .head h0 h1 g2⟩⟩
  | goto l => exact hq.elim
  | ret => exact ⟨_, a₁, w₁, hq, .of_steps (.one h0 h1) harr⟩
  | panic ch => exact ⟨_, a₁, w₁, hq, .of_steps (.one h0 h1) harr⟩
  | outgrown => exact ⟨_, a₁, w₁, hq, .of_steps (.one h0 h1) harr⟩
end Go.Proofs.Ytpaeagkgmbhndaa
