/- A division in memory, and moving pieces along a way. -/
import Derived.Test.YtmfpegadcecknaaR
namespace Go.Proofs.Ytmfpegadcecknaa
open Go.RowKit
def hv (H : Nat → Nat → Int) : List Value := (List.range 256).map fun i => Value.int .i64 (H (i / 16) (i % 16))
def lv (L : Nat → Int) : List Value := (List.range 16).map fun i => Value.int .i64 (L i)
/-- The cells of a division: the graph, what each vertex has of its edges, the loads. -/
def dcells (m : Nat) (gs : List Nat) (H : Nat → Nat → Int) (L : Nat → Int) : List Value := gcells m gs ++ (hv H ++ lv L)
def upd2 (H : Nat → Nat → Int) (u v : Nat) (x : Int) : Nat → Nat → Int := fun a b => if a = u ∧ b = v then x else H a b
def upd (L : Nat → Int) (u : Nat) (x : Int) : Nat → Int := fun a => if a = u then x else L a
theorem dlen {m : Nat} {gs : List Nat} (hg : Rows16 gs) (H : Nat → Nat → Int) (L : Nat → Int) : (dcells m gs H L).length = 289 := by
  simp [dcells, hv, lv, gcells_len, hg.len]
theorem d_near {m : Nat} {gs : List Nat} (hg : Rows16 gs) (H : Nat → Nat → Int) (L : Nat → Int) {v : Nat} (h : v < 16) : (dcells m gs H L)[1 + v]? = some (.int .u32 (near gs v)) := by
  unfold dcells
  rw [List.getElem?_append_left (by rw [gcells_len, hg.len]; omega), gcells_at m gs hg v h]
theorem d_has {m : Nat} {gs : List Nat} (hg : Rows16 gs) (H : Nat → Nat → Int) (L : Nat → Int) {u v : Nat} (hu : u < 16) (h : v < 16) : (dcells m gs H L)[17 + u * 16 + v]? = some (.int .i64 (H u v)) := by
  unfold dcells
  rw [List.getElem?_append_right (by rw [gcells_len, hg.len]; omega), gcells_len, hg.len, List.getElem?_append_left (by simp [hv]; omega)]
  have e : 17 + u * 16 + v - (16 + 1) = u * 16 + v := by omega
  rw [e]; unfold hv
  rw [List.getElem?_map, List.getElem?_range (by omega)]
  have e1 : (u * 16 + v) / 16 = u := by omega
  have e2 : (u * 16 + v) % 16 = v := by omega
  simp [e1, e2]
theorem d_load {m : Nat} {gs : List Nat} (hg : Rows16 gs) (H : Nat → Nat → Int) (L : Nat → Int) {v : Nat} (h : v < 16) : (dcells m gs H L)[273 + v]? = some (.int .i64 (L v)) := by
  unfold dcells
  rw [List.getElem?_append_right (by rw [gcells_len, hg.len]; omega), gcells_len, hg.len, List.getElem?_append_right (by simp [hv]; omega)]
  have e : 273 + v - (16 + 1) - (hv H).length = v := by simp [hv]; omega
  rw [e]; unfold lv
  rw [List.getElem?_map, List.getElem?_range (by omega)]; rfl
theorem d_setH {m : Nat} {gs : List Nat} (hg : Rows16 gs) (H : Nat → Nat → Int) (L : Nat → Int) {u v : Nat} (hu : u < 16) (h : v < 16) (x : Int) :
    (dcells m gs H L).set (17 + u * 16 + v) (.int .i64 x) = dcells m gs (upd2 H u v x) L := by
  unfold dcells
  rw [List.set_append_right _ _ (by rw [gcells_len, hg.len]; omega), gcells_len, hg.len, List.set_append_left _ _ (by simp [hv]; omega)]
  have e : 17 + u * 16 + v - (16 + 1) = u * 16 + v := by omega
  rw [e]
  congr 2
  unfold hv
  apply List.ext_getElem?
  intro i
  rw [List.getElem?_set, List.getElem?_map, List.getElem?_map]
  by_cases hi : i < 256
  · rw [List.getElem?_range hi]
    by_cases e2 : u * 16 + v = i
    · subst e2
      have e3 : (u * 16 + v) / 16 = u := by omega
      have e4 : (u * 16 + v) % 16 = v := by omega
      simp [upd2, e3, e4]; omega
    · rw [if_neg e2]
      have : ¬ (i / 16 = u ∧ i % 16 = v) := by omega
      simp [upd2, this]
  · have : (List.range 256)[i]? = none := by simp; omega
    rw [this]
    split
    · split
      · rename_i h1 h2; simp at h2; omega
      · rfl
    · rfl
theorem lv_set {L : Nat → Int} {v : Nat} (h : v < 16) (x : Int) : (lv L).set v (.int .i64 x) = lv (upd L v x) := by
  unfold lv
  apply List.ext_getElem?
  intro i
  rw [List.getElem?_set, List.getElem?_map, List.getElem?_map]
  by_cases hi : i < 16
  · rw [List.getElem?_range hi]
    by_cases e2 : v = i
    · subst e2; simp [upd, h]
    · rw [if_neg e2]
      have : ¬ i = v := fun e => e2 e.symm
      simp [upd, this]
  · have : (List.range 16)[i]? = none := by simp; omega
    rw [this]
    split
    · omega
    · rfl
theorem d_setL {m : Nat} {gs : List Nat} (hg : Rows16 gs) (H : Nat → Nat → Int) (L : Nat → Int) {v : Nat} (h : v < 16) (x : Int) :
    (dcells m gs H L).set (273 + v) (.int .i64 x) = dcells m gs H (upd L v x) := by
  unfold dcells
  rw [List.set_append_right _ _ (by rw [gcells_len, hg.len]; omega), gcells_len, hg.len, List.set_append_right _ _ (by simp [hv]; omega)]
  have e : 273 + v - (16 + 1) - (hv H).length = v := by simp [hv]; omega
  rw [e, lv_set h]
/-- Block g is a division. -/
def Div (w : World) (g m : Nat) (gs : List Nat) (H : Nat → Nat → Int) (L : Nat → Int) : Prop := Row w g 108 (dcells m gs H L)
theorem Div.has {w : World} {g m : Nat} {gs : List Nat} {H : Nat → Nat → Int} {L : Nat → Int} (d : Div w g m gs H L) (hg : Rows16 gs) {u v : Nat} (hu : u < 16) (h : v < 16) : w.cell? ⟨g, 17 + u * 16 + v, none⟩ = some (.int .i64 (H u v)) := by
  rw [Row.cell d, d_has hg _ _ hu h]
theorem Div.load {w : World} {g m : Nat} {gs : List Nat} {H : Nat → Nat → Int} {L : Nat → Int} (d : Div w g m gs H L) (hg : Rows16 gs) {v : Nat} (h : v < 16) : w.cell? ⟨g, 273 + v, none⟩ = some (.int .i64 (L v)) := by
  rw [Row.cell d, d_load hg _ _ h]
theorem Div.near {w : World} {g m : Nat} {gs : List Nat} {H : Nat → Nat → Int} {L : Nat → Int} (d : Div w g m gs H L) (hg : Rows16 gs) {v : Nat} (h : v < 16) : w.cell? ⟨g, 1 + v, none⟩ = some (.int .u32 (near gs v)) := by
  rw [Row.cell d, d_near hg _ _ h]
theorem Div.setH {w : World} {g m : Nat} {gs : List Nat} {H : Nat → Nat → Int} {L : Nat → Int} (d : Div w g m gs H L) (hg : Rows16 gs) {u v : Nat} (hu : u < 16) (h : v < 16) (x : Int) : Div (w.setCell ⟨g, 17 + u * 16 + v, none⟩ (.int .i64 x)) g m gs (upd2 H u v x) L := by
  have := Row.set d (17 + u * 16 + v) (.int .i64 x)
  rw [d_setH hg _ _ hu h] at this
  exact this
theorem Div.setL {w : World} {g m : Nat} {gs : List Nat} {H : Nat → Nat → Int} {L : Nat → Int} (d : Div w g m gs H L) (hg : Rows16 gs) {v : Nat} (h : v < 16) (x : Int) : Div (w.setCell ⟨g, 273 + v, none⟩ (.int .i64 x)) g m gs H (upd L v x) := by
  have := Row.set d (273 + v) (.int .i64 x)
  rw [d_setL hg _ _ h] at this
  exact this
end Go.Proofs.Ytmfpegadcecknaa
