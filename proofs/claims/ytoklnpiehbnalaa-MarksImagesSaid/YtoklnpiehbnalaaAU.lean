/- Images of words. -/
import Derived.Test.YtoklnpiehbnalaaAS
import Derived.Test.YtoklnpiehbnalaaAM
import Derived.Test.YtoklnpiehbnalaaPL
namespace Go.Proofs.Ytoklnpiehbnalaa
open Go.RowKit Go.PlainAid
set_option maxHeartbeats 2000000
set_option maxRecDepth 100000
/-- The image of a word under three words. -/
def imW (ms : List (List Nat)) (x : List Nat) : List Nat := x.flatMap fun c => ms.getD c []
theorem imW_snoc (ms : List (List Nat)) (x : List Nat) (c : Nat) : imW ms (x ++ [c]) = imW ms x ++ ms.getD c [] := by simp [imW]
/-- Three words, each with letters. -/
structure IsMp (ms : List (List Nat)) : Prop where
  len : ms.length = 3
  ok : ∀ m ∈ ms, okW m
  one : ∀ m ∈ ms, 1 ≤ m.length
  most : ∀ m ∈ ms, m.length ≤ 12
/-- Three words as cells. -/
def mpV (ms : List (List Nat)) : List Value := ms.map fun m => .string (wS m)
theorem IsMp.get {ms : List (List Nat)} (h : IsMp ms) {c : Nat} (hc : c < 3) : ms.getD c [] ∈ ms := by
  rw [List.getD_eq_getElem?_getD, List.getElem?_eq_getElem (by rw [h.len]; exact hc)]
  exact List.getElem_mem _
theorem imW_ok {ms : List (List Nat)} (h : IsMp ms) {x : List Nat} (hx : ∀ b, b ∈ x → b < 3) : okW (imW ms x) := fun b hb => by
  unfold imW at hb
  obtain ⟨c, hc, hb⟩ := List.mem_flatMap.1 hb
  exact h.ok _ (h.get (hx c hc)) b hb
theorem imW_len {ms : List (List Nat)} (h : IsMp ms) {x : List Nat} (hx : ∀ b, b ∈ x → b < 3) : (imW ms x).length ≤ 12 * x.length := by
  induction x with
  | nil => simp [imW]
  | cons c x ih =>
    have e : imW ms (c :: x) = ms.getD c [] ++ imW ms x := by simp [imW]
    have h1 := h.most _ (h.get (hx c (by simp)))
    have h2 := ih (fun b hb => hx b (by simp [hb]))
    rw [e, List.length_append, List.length_cons]
    omega
theorem strCells_bytes (s : ByteArray) : Lib.strCells s = Lib.byteCells s.data.toList := by
  rfl
theorem bytes_app (x y : List Nat) : Lib.byteCells (wS x).data.toList ++ Lib.strCells (wS y) = Lib.byteCells (wS (x ++ y)).data.toList := by
  rw [strCells_bytes, ← wS_app, ByteArray.data_append, Array.toList_append]
  unfold Lib.byteCells
  rw [List.map_append]
theorem bytes_len (x : List Nat) : (Lib.byteCells (wS x).data.toList).length = x.length := by rw [Lib.byteCells_length, ds_len, wS_len]
theorem mk_toList (x : List Nat) : (⟨(wS x).data.toList.toArray⟩ : ByteArray) = wS x := by cases h : wS x; simp
theorem writeS (B b : Nat) (y m : List Nat) (V : World) (h : Lib.IsBuilder 94 5 B b (Lib.byteCells (wS y).data.toList) V) (h1 : y.length ≤ 1200000) (h2 : m.length ≤ 1000) (hB : B ≤ V.heap.size) :
    Calls Try.prog 76 #[.pointer (some ⟨b, 0, none⟩), .string (wS m)] V fun e w' => e = .returned (.tuple #[.int .i64 (wS m).size, .nilIface]) ∧ Hid (Lib.IsBuilder 94 5 B b (Lib.byteCells (wS (y ++ m)).data.toList) w') ∧ Below B V w' :=
  (Try.Builder_WriteString B b _ (wS m) V h (by rw [bytes_len, wS_len]; omega) hB).mono (fun _ _ ⟨h3, h4, h5⟩ => ⟨h3, Lib.hid (by rw [← bytes_app]; exact .inr h4), h5⟩)
theorem stringS (B b : Nat) (y : List Nat) (V : World) (h : Lib.IsBuilder 94 5 B b (Lib.byteCells (wS y).data.toList) V) (hB : B ≤ V.heap.size) :
    Calls Try.prog 77 #[.pointer (some ⟨b, 0, none⟩)] V fun e w' => e = .returned (.string (wS y)) ∧ Below B V w' :=
  (Try.Builder_String_any B b _ V h hB).mono (fun _ _ ⟨h3, h5⟩ => ⟨by rw [h3, mk_toList], h5⟩)
theorem Below.more {B C : Nat} {a w : World} (h : Below B a w) (hC : C ≤ B) : Below C a w := ⟨h.os, h.tape, h.output, h.size, fun k hk => h.block k (by omega)⟩
theorem row_under {B g : Nat} {t : TypeId} {cs : List Value} {a w : World} (h : Row a g t cs) (hb : Below B a w) (hg : g < B) : Row w g t cs := (hb.block g hg).trans h
theorem of_any (ms : List (List Nat)) (x : List Nat) (w : World) (hm : IsMp ms) (hx : ∀ b, b ∈ x → b < 3) (hl : x.length ≤ 100000) :
    Calls Try.prog 69 #[.agg (mpV ms).toArray, .string (wS x)] w fun e w' => e = .returned (.string (wS (imW ms x))) ∧ Below w.heap.size w w' := by
  have hx4 : okW x := fun b hb => by have := hx b hb; omega
  have hz := wS_len x
  have hb := get_bt (wS x)
  have HB := Lib.hid (fun j (hj : j < x.length) => bt_wS hx4 hj)
  have HL : Hid (∀ j, j < x.length → x.getD j 0 < 3) := Lib.hid (fun j hj => by
    rw [List.getD_eq_getElem?_getD, List.getElem?_eq_getElem hj]
    exact hx _ (List.getElem_mem hj))
  have HS : Hid (∀ j, j < x.length → imW ms (x.take (j + 1)) = imW ms (x.take j) ++ ms.getD (x.getD j 0) []) := Lib.hid (fun j hj => by rw [take_snocN hj, imW_snoc])
  have HT := Lib.hid (show x.take x.length = x from List.take_length)
  have HC : Hid (∀ c, c < 3 → (mpV ms)[c]? = some (.string (wS (ms.getD c [])))) := Lib.hid (fun c hc => by
    unfold mpV
    have : c < ms.length := by rw [hm.len]; exact hc
    rw [List.getElem?_map, List.getD_eq_getElem?_getD, List.getElem?_eq_getElem this]; rfl)
  have HM : Hid (∀ c, c < 3 → (ms.getD c []).length ≤ 12) := Lib.hid (fun c hc => hm.most _ (hm.get hc))
  have HN : Hid (∀ j, (imW ms (x.take j)).length ≤ 1200000) := Lib.hid (fun j => by
    have := imW_len hm (x := x.take j) (fun b hb => hx b (List.mem_of_mem_take hb))
    rw [List.length_take] at this; omega)
  have HWS := Lib.hid writeS
  have HST := Lib.hid stringS
  have r0 : Row ((w.alloc (.cells (mpV ms).toArray 87)).alloc (.cells #[.pointer none, .slice none 0 0] 94)) w.heap.size 87 (mpV ms) := (row_new rfl).alloc _
  have b0 : Below w.heap.size w ((w.alloc (.cells (mpV ms).toArray 87)).alloc (.cells #[.pointer none, .slice none 0 0] 94)) := ((Below.refl _ w).alloc (Nat.le_refl _) _).alloc (by simp) _
  have i0 : Lib.IsBuilder 94 5 (w.heap.size + 1) (w.heap.size + 1) (Lib.byteCells (wS (imW ms (x.take 0))).data.toList) ((w.alloc (.cells (mpV ms).toArray 87)).alloc (.cells #[.pointer none, .slice none 0 0] 94)) := by
    have := Lib.fresh_isBuilder 94 5 (w.alloc (.cells (mpV ms).toArray 87))
    rw [World.size_alloc] at this
    rw [List.take_zero]
    exact this
  have I0 := Lib.hid i0
  have HX : Hid (imW ms (x.take x.length) = imW ms x) := Lib.hid (by rw [List.take_length])
  obtain ⟨N, hN⟩ : ∃ N, x.length = N := ⟨_, rfl⟩
  rw [hN] at hz hl HB HL HS HT HX
  generalize wS x = s at *
  subst hz
  clear hN hx hx4 hm i0
  go_enter Try.func69, Try.ntmps69
  go_wp2
  go_loopw [9] (fun i wr => ∃ j : Nat, i = .int .i64 j ∧ j ≤ s.size ∧ Row wr w.heap.size 87 (mpV ms) ∧ Hid (Lib.IsBuilder 94 5 (w.heap.size + 1) (w.heap.size + 1) (Lib.byteCells (wS (imW ms (x.take j))).data.toList) wr) ∧ w.heap.size + 1 ≤ wr.heap.size ∧ Below w.heap.size w wr) (fun i _ => s.size - (intOf i).toNat)
  case atStart => exact ⟨0, rfl, by omega, r0, I0, by simp, b0⟩
  case round =>
    clear r0 I0 b0
    obtain ⟨j, rfl, hj, r0, I0, hsz, b0⟩ := hrel
    by_cases hlt : j < s.size
    · have g1 : decide (j < s.size) = true := decide_eq_true hlt
      have hbj := hb j hlt
      rw [HB.out j hlt] at hbj
      have hc3 := HL.out j hlt
      have HS1 := Lib.hid (HS.out j hlt)
      have hml := HM.out _ hc3
      have HW1 := Lib.hid (fun V (h : Hid (Lib.IsBuilder 94 5 (w.heap.size + 1) (w.heap.size + 1) (Lib.byteCells (wS (imW ms (x.take j))).data.toList) V)) hB => HWS.out (w.heap.size + 1) (w.heap.size + 1) (imW ms (x.take j)) (ms.getD (x.getD j 0) []) V h.out (HN.out j) (by omega) hB)
      have d0 : wr.cell? ⟨w.heap.size, x.getD j 0, none⟩ = some (.string (wS (ms.getD (x.getD j 0) []))) := by rw [r0.cell, HC.out _ hc3]
      clear hb HB HL HS HT HC HM HN HWS HST HX
      rw [← HS1.out] at HW1
      generalize ms.getD (x.getD j 0) [] = m at *
      generalize x.getD j 0 = c at *
      have hw1 : IntKind.u8.wrap (97 + (c : Int) - 97) = c := by simp [IntKind.wrap, IntKind.bits, IntKind.signed]; omega
      have hw2 : (97 + (c : Int) - 97) = c := by omega
      have h256 : (c : Int) % 256 = c := by omega
      generalize wS m = t at *
      clear hml HS1
      go_wp2_with (go_at_call 76; (with_reducible refine (HW1.out _ I0 hsz).mono ?_); rintro e w2 ⟨rfl, I2, b2⟩)
      go_roundw
      case rel => exact ⟨j + 1, by go_num, by omega, row_under r0 b2 (by omega), I2, by have := b2.size; omega, b0.trans (Below.more b2 (by omega))⟩
      case measure => simp [intOf]; omega
    · obtain rfl : j = s.size := by omega
      have g1 : decide (s.size < s.size) = false := decide_eq_false hlt
      rw [HX.out] at I0
      have HS1 := Lib.hid (HST.out _ _ _ _ I0.out hsz)
      clear hb HB HL HS HT HC HM HN HWS HST HX
      go_wp2_with (go_at_call 77; (with_reducible refine HS1.out.mono ?_); rintro e w2 ⟨rfl, b2⟩)
      go_ret
      exact ⟨rfl, b0.trans (Below.more b2 (by omega))⟩
end Go.Proofs.Ytoklnpiehbnalaa
