/- Keeps. -/
import Derived.Test.YtoklnpiehbnalaaAW
namespace Go.Proofs.Ytoklnpiehbnalaa
open Go.RowKit Go.PlainAid
set_option maxHeartbeats 2000000
set_option maxRecDepth 100000
/-- What Keeps hands back. -/
def kpV (o : Option (List Nat)) : Value := match o with
  | some x => .tuple #[.string (wS x), .int .i64 0]
  | none => .tuple #[.string ⟨#[]⟩, .int .i64 6]
theorem mp_cells {ms : List (List Nat)} (h : IsMp ms) : ∃ s0 s1 s2, mpV ms = [.string s0, .string s1, .string s2] ∧ (ms.map wS).map Value.string = [.string s0, .string s1, .string s2] := by
  obtain ⟨x0, x1, x2, hms⟩ := lit3N h.len
  exact ⟨wS x0, wS x1, wS x2, by rw [hms]; rfl, by rw [hms]; rfl⟩
theorem mp_size {ms : List (List Nat)} (h : IsMp ms) (i : Nat) : (gets (ms.map wS) i).size ≤ 100000 := by
  unfold gets
  rw [List.getD_eq_getElem?_getD]
  cases hh : (ms.map wS)[i]? with
  | none => show (0 : Nat) ≤ _; omega
  | some s =>
    obtain ⟨m, hm, rfl⟩ := List.mem_map.1 (List.mem_of_getElem? hh)
    have := h.most m hm
    show (wS m).size ≤ _
    rw [wS_len]; omega
theorem Keeps_yes (A : Option Addr) (c : Nat) (ms : List (List Nat)) (w : World) (hm : IsMp ms) (ha : StrsAt w A (ms.map wS)) :
    Calls Try.prog 41 #[.slice A 3 c] w fun e w' => e = .returned (kpV (kpX ms)) ∧ Below w.heap.size w w' := by
  obtain ⟨s0, s1, s2, h1, h2⟩ := mp_cells hm
  have hl : (ms.map wS).length = 3 := by rw [List.length_map]; exact hm.len
  have HRM : Hid (Calls Try.prog 67 #[.slice A 3 c] w fun e w' => e = .returned (.tuple #[.agg #[.string s0, .string s1, .string s2], .bool true]) ∧ Below w.heap.size w w') := Lib.hid (by
    have := readMap_any A c (ms.map wS) w (mp_size hm) (by omega) ha
    unfold rmV at this
    rw [okMp_iff.2 ⟨ms, hm, rfl⟩, if_pos rfl, h2, hl] at this
    exact this)
  have HFB : Hid (∀ V, Calls Try.prog 70 #[.agg #[.string s0, .string s1, .string s2]] V fun e w' => e = .returned (fbV (kpX ms)) ∧ Below V.heap.size V w') := Lib.hid (fun V => by
    have := firstBroken_any ms V hm
    rw [h1] at this
    exact this)
  have b0 := Below.refl w.heap.size w
  clear h1 h2 hl ha hm
  cases hk : kpX ms with
  | none =>
    rw [hk] at HFB
    have HE : Hid (fbV none = .tuple #[.string ⟨#[]⟩, .bool false]) := Lib.hid rfl
    rw [HE.out] at HFB
    clear hk
    go_enter Try.func41, Try.ntmps41
    go_wp2_with (first
      | (go_at_call 67; (with_reducible refine HRM.out.mono ?_); rintro e w2 ⟨rfl, b2⟩; replace b0 := (b0.trans (b2.mono b0.size)).alloc (by have := b2.size; omega) (.cells #[.string s0, .string s1, .string s2] 87))
      | (go_at_call 70; (with_reducible refine (HFB.out _).mono ?_); rintro e w3 ⟨rfl, b3⟩; replace b0 := b0.trans (b3.mono b0.size)))
    exact bodyPost_ret (v := .tuple #[.string ⟨#[]⟩, .int .i64 6]) (by simp [results, Try.results41, go_sem]) rfl ⟨rfl, b0⟩
  | some x =>
    rw [hk] at HFB
    have HE : Hid (fbV (some x) = .tuple #[.string (wS x), .bool true]) := Lib.hid rfl
    rw [HE.out] at HFB
    have HV : Hid (kpV (some x) = .tuple #[.string (wS x), .int .i64 0]) := Lib.hid rfl
    clear hk
    generalize wS x = s at *
    go_enter Try.func41, Try.ntmps41
    go_wp2_with (first
      | (go_at_call 67; (with_reducible refine HRM.out.mono ?_); rintro e w2 ⟨rfl, b2⟩; replace b0 := (b0.trans (b2.mono b0.size)).alloc (by have := b2.size; omega) (.cells #[.string s0, .string s1, .string s2] 87))
      | (go_at_call 70; (with_reducible refine (HFB.out _).mono ?_); rintro e w3 ⟨rfl, b3⟩; replace b0 := b0.trans (b3.mono b0.size)))
    exact bodyPost_ret (v := .tuple #[.string s, .int .i64 0]) (by simp [results, Try.results41, go_sem]) rfl ⟨by rw [HV.out], b0⟩
theorem Keeps_no (A : Option Addr) (c : Nat) (ss : List ByteArray) (w : World) (h : okMp ss = false) (hs : ∀ i, (gets ss i).size ≤ 100000) (hl : ss.length ≤ 100000) (ha : StrsAt w A ss) :
    Calls Try.prog 41 #[.slice A ss.length c] w fun e w' => e = .returned (.tuple #[.string ⟨#[]⟩, .int .i64 2]) ∧ Below w.heap.size w w' := by
  have HRM : Hid (Calls Try.prog 67 #[.slice A ss.length c] w fun e w' => e = .returned (.tuple #[.agg #[.string ⟨#[]⟩, .string ⟨#[]⟩, .string ⟨#[]⟩], .bool false]) ∧ Below w.heap.size w w') := Lib.hid (by
    have := readMap_any A c ss w hs hl ha
    unfold rmV at this
    rw [h] at this
    exact this)
  have b0 := Below.refl w.heap.size w
  clear h hs hl ha
  generalize ss.length = n at *
  go_enter Try.func41, Try.ntmps41
  go_wp2_with (go_at_call 67; (with_reducible refine HRM.out.mono ?_); rintro e w2 ⟨rfl, b2⟩; replace b0 := (b0.trans (b2.mono b0.size)).alloc (by have := b2.size; omega) (.cells #[.string ⟨#[]⟩, .string ⟨#[]⟩, .string ⟨#[]⟩] 87))
  exact bodyPost_ret (v := .tuple #[.string ⟨#[]⟩, .int .i64 2]) (by simp [results, Try.results41, go_sem]) rfl ⟨rfl, b0⟩
end Go.Proofs.Ytoklnpiehbnalaa
