/- Plain facts on graphs that were read, and on the order of removing. -/
import Derived.Maps.AppendAt
import Derived.Test.YtmfpegadcecknaaE
import Derived.Test.YtmfpegadcecknaaG
import Derived.Test.YtmfpegadcecknaaI
namespace Go.Proofs.Ytmfpegadcecknaa
open Go.RowKit
theorem irr_zero : Irr Z16 := by
  intro v _; unfold near sHas; rw [List.getElem?_replicate]; split <;> simp
theorem Rows16.irr_set {gs : List Nat} (h : Rows16 gs) (hI : Irr gs) {a b : Nat} (ha : a < 16) (hne : a ≠ b) : Irr (gs.set a (sWith (near gs a) b)) := by
  intro v hv
  rw [near_set _ _ _ _ (by rw [h.len]; exact ha)]
  by_cases e : a = v
  · subst e
    rw [if_pos rfl]
    have := hI a ha
    unfold sHas at *
    rw [with_bit, this]; simp; exact fun e => hne e.symm
  · rw [if_neg e]; exact hI v hv
theorem irr_add {gs : List Nat} (h : Rows16 gs) (hI : Irr gs) {a b : Nat} (ha : a < 16) (hb : b < 16) (hne : a ≠ b) : Irr (addE gs a b) := by
  unfold addE
  exact (h.set (h.near_lt a) hb).irr_set (h.irr_set hI ha hne) hb (fun e => hne e.symm)
theorem rd_ok {n : Nat} (hn : n ≤ 16) : ∀ (es : List (Int × Int)) (gs gs' : List Nat), Rows16 gs → Irr gs → rd n es gs = some gs' → Rows16 gs' ∧ Irr gs' := by
  intro es
  induction es with
  | nil => intro gs gs' h hI he; simp [rd] at he; subst he; exact ⟨h, hI⟩
  | cons e es ih =>
    intro gs gs' h hI he
    rw [rd] at he
    split at he
    · rename_i hok
      unfold okE at hok
      simp only [Bool.and_eq_true, decide_eq_true_eq] at hok
      obtain ⟨g1, g2, g3, _⟩ := hok
      exact ih _ _ (h.addE (by omega) (by omega)) (irr_add h hI (by omega) (by omega) (by omega)) he
    · cases he
theorem readF_ok {n : Int} {es : List (Int × Int)} {gs : List Nat} (h : readF n es = some gs) : 1 ≤ n ∧ n ≤ 16 ∧ Rows16 gs ∧ Irr gs := by
  unfold readF at h
  split at h
  · rename_i hn
    obtain ⟨m, rfl⟩ := Int.eq_ofNat_of_zero_le (show 0 ≤ n by omega)
    obtain ⟨h1, h2⟩ := rd_ok (by omega) es _ _ rows_zero irr_zero h
    exact ⟨hn.1, hn.2, h1, h2⟩
  · cases h
theorem all_bit (m v : Nat) : (sAll m).testBit v = decide (v < m) := by unfold sAll; exact Nat.testBit_two_pow_sub_one m v
theorem all_lt {m : Nat} (hm : m ≤ 16) : sAll m < 65536 := by
  unfold sAll; have := Nat.pow_le_pow_right (n := 2) (by omega) hm; have := Nat.one_le_two_pow (n := m); omega
theorem pc_all {m : Nat} (hm : m ≤ 16) : pc 16 (sAll m) = m := by
  unfold pc
  simp only [all_bit]
  have : ∀ m, m ≤ 16 → ((List.range 16).filter fun v => decide (v < m)).length = m := by decide
  exact this m hm
theorem peelL_mem {gs : List Nat} (hI : Irr gs) : ∀ (k s : Nat), s < 65536 → pc 16 s = k → ∀ p ∈ peelL gs k s, p.1 < 16 ∧ sHas s p.1 = true ∧ p.2 < 16 := by
  intro k
  induction k with
  | zero => intro s _ _ p hp; cases hp
  | succ k ih =>
    intro s hs hk p hp
    have h0 : s ≠ 0 := by rintro rfl; have : pc 16 0 = 0 := by decide
                          omega
    obtain ⟨l1, l2⟩ := lone_mem hI hs h0
    rw [peelL] at hp
    rcases List.mem_cons.1 hp with rfl | hp
    · have h3 := (lone_spec gs s (ms s) (fun v hv => nb_lt hI (mem_ms.1 hv).1)).2.1 (ms_ne hs h0)
      refine ⟨l1, l2, ?_⟩
      show loneF gs s (ms s) < 16
      rw [h3.2]; exact nb_lt hI l1
    · have hp2 := pc_without hs l1 l2
      obtain ⟨q1, q2, q3⟩ := ih _ (without_lt hs) (by omega) p hp
      refine ⟨q1, ?_, q3⟩
      unfold sHas at *
      rw [without_bit s _ _ hs l1] at q2
      simp at q2; exact q2.1
def natI (xs : List Nat) : List Int := xs.map fun x : Nat => (x : Int)
def getn (xs : List Nat) (k : Nat) : Nat := xs.getD k 0
theorem natI_len (xs : List Nat) : (natI xs).length = xs.length := by simp [natI]
theorem geti_natI (xs : List Nat) (k : Nat) : geti (natI xs) k = (getn xs k : Int) := by
  unfold geti natI getn
  rw [List.getD_eq_getElem?_getD, List.getD_eq_getElem?_getD, List.getElem?_map]
  cases xs[k]? <;> rfl
theorem getn_mem {xs : List Nat} {k : Nat} (h : k < xs.length) : getn xs k ∈ xs := by
  unfold getn; rw [List.getD_eq_getElem?_getD, List.getElem?_eq_getElem h]; exact List.getElem_mem h
theorem getn_eq {xs : List Nat} {k : Nat} (h : k < xs.length) : getn xs k = xs[k] := by
  unfold getn; rw [List.getD_eq_getElem?_getD, List.getElem?_eq_getElem h]; rfl
theorem push_modify (h : Array Obj) (o : Obj) (f : Obj → Obj) : (h.push o).modify h.size f = h.push (f o) := by
  apply Array.ext_getElem?
  intro i
  rw [Array.getElem?_modify, Array.getElem?_push, Array.getElem?_push]
  by_cases e : i = h.size
  · subst e; simp
  · have : ¬ h.size = i := fun e' => e e'.symm
    simp [e, this]
theorem setRow_alloc (w : World) (a b : Array Value) (t : TypeId) : (w.alloc (.cells a t)).setRow w.heap.size b = w.alloc (.cells b t) := by
  show ({ w with heap := (w.heap.push (.cells a t)).modify w.heap.size _ } : World) = { w with heap := w.heap.push (.cells b t) }
  rw [push_modify]
theorem info75g {m : Nat} {gs : List Nat} (h : Rows16 gs) : (Try.prog.info? 75).map (·.size) = some (gcells m gs).toArray.size := by
  rw [gcells_size m h]; exact info75
theorem size75g {m : Nat} {gs : List Nat} (h : Rows16 gs) : (#[.int .i64 0, .int .u32 0, .int .u32 0, .int .u32 0, .int .u32 0, .int .u32 0, .int .u32 0, .int .u32 0, .int .u32 0, .int .u32 0, .int .u32 0, .int .u32 0, .int .u32 0, .int .u32 0, .int .u32 0, .int .u32 0, .int .u32 0] : Array Value).size = (gcells m gs).toArray.size := by rw [gcells_size m h]; rfl
theorem rg_none {n : Int} {A : Option Addr} {c : Nat} {es : List (Int × Int)} {w : World} (hx : es.length ≤ 1000000) (ha : PairsAt w A es) (h : readF n es = none) :
    Calls Try.prog 41 #[.int .i64 n, .slice A es.length c] w fun e w' => e = .returned (.tuple #[.agg (gcells 0 Z16).toArray, .bool false]) ∧ Below w.heap.size w w' :=
  (readGraph_any n A c es w hx ha).mono fun e w' ⟨h1, h2⟩ => ⟨by rw [h1, h]; rfl, h2⟩
theorem rg_some {m : Nat} {A : Option Addr} {c : Nat} {es : List (Int × Int)} {w : World} {gs : List Nat} (hx : es.length ≤ 1000000) (ha : PairsAt w A es) (h : readF m es = some gs) :
    Calls Try.prog 41 #[.int .i64 m, .slice A es.length c] w fun e w' => e = .returned (.tuple #[.agg (gcells m gs).toArray, .bool true]) ∧ Below w.heap.size w w' :=
  (readGraph_any m A c es w hx ha).mono fun e w' ⟨h1, h2⟩ => ⟨by rw [h1, h]; rfl, h2⟩
/-- A row of numbers that the call owns, read. -/
theorem own_ints {w : World} {b n : Nat} {v : Value} {xs : List Nat} (h : w.ownsRow b 3 1 v n (intv xs)) : ∃ A c, v = .slice A xs.length c ∧ n = xs.length ∧ IntsAt w A (natI xs) := by
  have hl : xs.length = n := by have := h.1; simpa [intv] using this
  subst hl
  rcases h.2 with ⟨rfl, h0⟩ | ⟨g, cap, cur, rfl, hb, hg, hc, _, hs, ht⟩
  · refine ⟨none, 0, by rw [h0], rfl, fun hp => ?_⟩
    rw [natI_len] at hp; omega
  · refine ⟨some ⟨g, 0, none⟩, cap, rfl, rfl, fun _ => ⟨g, 0, rfl, (Array.getElem?_eq_some_iff.1 hg).1, fun i hi => ?_⟩⟩
    rw [natI_len] at hi
    rw [cell_of_row w g _ _ _ _ hg, geti_natI]
    have e1 : cur.toList[0 + i]? = (intv xs)[i]? := by rw [← ht, List.getElem?_take, if_pos (by omega), Nat.zero_add]
    rw [← Array.getElem?_toList, e1]
    unfold intv
    rw [List.getElem?_map, List.getElem?_eq_getElem hi, getn_eq hi]; rfl
end Go.Proofs.Ytmfpegadcecknaa
