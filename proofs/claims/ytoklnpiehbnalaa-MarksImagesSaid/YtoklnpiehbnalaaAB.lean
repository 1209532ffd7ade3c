/- Words as strings; is a string a word? -/
import Derived.Test.YtoklnpiehbnalaaAK
import Derived.Test.YtoklnpiehbnalaaMA
import Derived.Laws.BytesArg
import Derived.Laws.Concat
namespace Go.Proofs.Ytoklnpiehbnalaa
open Go.RowKit Go.PlainAid
set_option maxHeartbeats 1000000
set_option maxRecDepth 100000
def wI (w : List Nat) : List Int := w.map (fun b : Nat => (97 + (b : Int) : Int))
/-- A word as a string. -/
def wS (w : List Nat) : ByteArray := strOfNums (wI w)
def okW (x : List Nat) : Prop := ∀ b, b ∈ x → b < 4
theorem wI_len (x : List Nat) : (wI x).length = x.length := by simp [wI]
theorem wS_len (x : List Nat) : (wS x).size = x.length := by unfold wS; rw [strOfNums_size, wI_len]
theorem wS_data (x : List Nat) : (wS x).data.toList = x.map fun b => UInt8.ofNat (97 + b) := by
  unfold wS wI
  rw [strOfNums_data, List.map_map]
  refine List.map_congr_left (fun b _ => ?_)
  show UInt8.ofNat (97 + (b : Int)).toNat = _
  congr 1
theorem ba_ext {a b : ByteArray} (h : a.data.toList = b.data.toList) : a = b := by
  cases a; cases b; simp at h; rw [h]
theorem ba_list (a : ByteArray) : a.toList = a.data.toList := ByteArray.toList_eq a
theorem ba_eq (a b : ByteArray) : (a.toList == b.toList) = decide (a = b) := by
  by_cases h : a = b
  · subst h; simp
  · rw [decide_eq_false h, beq_eq_false_iff_ne]
    intro e
    rw [ba_list, ba_list] at e
    exact h (ba_ext e)
theorem ba_extract (s : ByteArray) (a b : Nat) : (s.extract a b).data.toList = (s.data.toList.drop a).take (b - a) := by
  obtain ⟨⟨l⟩⟩ := s
  rw [ByteArray.extract_mk]
theorem wS_extract (x : List Nat) (a b : Nat) : (wS x).extract a b = wS (sub x a (b - a)) := by
  apply ba_ext
  rw [ba_extract, wS_data, wS_data]
  unfold sub
  rw [List.map_take, List.map_drop]
theorem wS_inj {x y : List Nat} (hx : okW x) (hy : okW y) (h : wS x = wS y) : x = y := by
  have h1 : (wS x).data.toList = (wS y).data.toList := by rw [h]
  rw [wS_data, wS_data] at h1
  have hl : x.length = y.length := by have := congrArg List.length h1; simpa using this
  apply List.ext_getElem hl
  intro i h2 h3
  have h4 : (x.map fun b => UInt8.ofNat (97 + b))[i]? = (y.map fun b => UInt8.ofNat (97 + b))[i]? := by rw [h1]
  rw [List.getElem?_map, List.getElem?_map, List.getElem?_eq_getElem h2, List.getElem?_eq_getElem h3] at h4
  simp only [Option.map_some, Option.some.injEq] at h4
  have h5 := congrArg UInt8.toNat h4
  have e1 := hx _ (List.getElem_mem h2)
  have e2 := hy _ (List.getElem_mem h3)
  simp at h5
  omega
theorem okW_sub {x : List Nat} (h : okW x) (a n : Nat) : okW (sub x a n) := fun b hb => h b (List.mem_of_mem_drop (List.mem_of_mem_take hb))
theorem okW_app {x y : List Nat} (h : okW x) (h2 : okW y) : okW (x ++ y) := fun b hb => by
  rcases List.mem_append.1 hb with hb | hb
  · exact h b hb
  · exact h2 b hb
theorem wS_beq {x y : List Nat} (hx : okW x) (hy : okW y) : ((wS x).toList == (wS y).toList) = decide (x = y) := by
  rw [ba_eq]
  by_cases h : x = y
  · subst h; simp
  · rw [decide_eq_false h, decide_eq_false (fun e => h (wS_inj hx hy e))]
theorem wS_app (x y : List Nat) : wS x ++ wS y = wS (x ++ y) := by
  apply ba_ext
  rw [wS_data, ByteArray.data_append, Array.toList_append, wS_data, wS_data, List.map_append]
theorem wS_nil : wS [] = ⟨#[]⟩ := rfl
theorem bt_wS {x : List Nat} (h : okW x) {i : Nat} (hi : i < x.length) : bt (wS x) i = 97 + (x.getD i 0 : Nat) := by
  have hs : i < (wS x).size := by rw [wS_len]; exact hi
  unfold bt
  rw [dif_pos hs]
  have e : (wS x)[i]'hs = UInt8.ofNat ((97 + (x[i] : Int)).toNat) := by
    show (wS x).data[i]'_ = _
    unfold wS wI strOfNums
    simp
  have hb := h x[i] (List.getElem_mem hi)
  rw [e, List.getD_eq_getElem?_getD, List.getElem?_eq_getElem hi]
  have : (97 + (x[i] : Int)).toNat = 97 + x[i] := by omega
  rw [this]
  simp
  omega
/-- A letter of a string is one of the first four. -/
def goodB (s : ByteArray) (i : Nat) : Bool := !decide (bt s i < 97) && !decide (100 < bt s i)
def okB (s : ByteArray) : Bool := decide (s.size ≤ 120) && (List.range s.size).all (goodB s)
theorem okB_long {s : ByteArray} (h : 120 < s.size) : okB s = false := by unfold okB; rw [decide_eq_false (by omega)]; rfl
theorem okB_no {s : ByteArray} {i : Nat} (hi : i < s.size) (h : goodB s i = false) : okB s = false := by
  unfold okB
  rw [Bool.and_eq_false_iff]
  right
  rw [Bool.eq_false_iff]
  intro ha
  rw [List.all_eq_true] at ha
  rw [ha i (List.mem_range.2 hi)] at h
  cases h
theorem okB_yes {s : ByteArray} (hs : s.size ≤ 120) (h : ∀ i, i < s.size → goodB s i = true) : okB s = true := by
  unfold okB
  rw [decide_eq_true hs, Bool.true_and, List.all_eq_true]
  exact fun i hi => h i (List.mem_range.1 hi)
theorem okB_at {s : ByteArray} (h : okB s = true) : s.size ≤ 120 ∧ ∀ i, i < s.size → goodB s i = true := by
  unfold okB at h
  rw [Bool.and_eq_true, List.all_eq_true] at h
  exact ⟨of_decide_eq_true h.1, fun i hi => h.2 i (List.mem_range.2 hi)⟩
theorem goodB_iff (s : ByteArray) (i : Nat) : goodB s i = true ↔ 97 ≤ bt s i ∧ bt s i ≤ 100 := by
  unfold goodB; simp
/-- A string as a list of letters. -/
def dS (s : ByteArray) : List Nat := s.data.toList.map fun b => b.toNat - 97
theorem ds_len (s : ByteArray) : s.data.toList.length = s.size := Array.length_toList
theorem dS_len (s : ByteArray) : (dS s).length = s.size := by unfold dS; rw [List.length_map, ds_len]
theorem bt_data {s : ByteArray} {i : Nat} (hi : i < s.size) : bt s i = ((s.data.toList[i]'(by rw [ds_len]; exact hi)).toNat : Int) := by
  unfold bt
  rw [dif_pos hi]
  rfl
theorem dS_wS {s : ByteArray} (h : ∀ i, i < s.size → goodB s i = true) : wS (dS s) = s ∧ okW (dS s) := by
  have hb : ∀ (i : Nat) (hi : i < s.data.toList.length), 97 ≤ s.data.toList[i].toNat ∧ s.data.toList[i].toNat ≤ 100 := fun i hi => by
    have hi2 : i < s.size := by rw [ds_len] at hi; exact hi
    have h1 := (goodB_iff s i).1 (h i hi2)
    rw [bt_data hi2] at h1
    omega
  constructor
  · apply ba_ext
    rw [wS_data]
    unfold dS
    rw [List.map_map]
    apply List.ext_getElem (by simp)
    intro i h1 h2
    rw [List.getElem_map]
    have h3 := hb i h2
    show UInt8.ofNat (97 + (s.data.toList[i].toNat - 97)) = _
    rw [show 97 + (s.data.toList[i].toNat - 97) = s.data.toList[i].toNat by omega]
    simp
  · intro b hbm
    unfold dS at hbm
    obtain ⟨c, hc, rfl⟩ := List.mem_map.1 hbm
    obtain ⟨i, hi, rfl⟩ := List.mem_iff_getElem.1 hc
    have := hb i hi
    omega
theorem okB_word {s : ByteArray} (h : okB s = true) : ∃ x, s = wS x ∧ okW x ∧ x.length ≤ 120 := by
  obtain ⟨h1, h2⟩ := okB_at h
  obtain ⟨h3, h4⟩ := dS_wS h2
  exact ⟨dS s, h3.symm, h4, by rw [dS_len]; exact h1⟩
theorem goodB_wS {x : List Nat} (h : okW x) {i : Nat} (hi : i < x.length) : goodB (wS x) i = true := by
  rw [goodB_iff, bt_wS h hi]
  have := h x[i] (List.getElem_mem hi)
  rw [List.getD_eq_getElem?_getD, List.getElem?_eq_getElem hi]
  simp
  omega
theorem okB_wS {x : List Nat} (h : okW x) (hl : x.length ≤ 120) : okB (wS x) = true :=
  okB_yes (by rw [wS_len]; exact hl) (fun i hi => goodB_wS h (by rwa [wS_len] at hi))
theorem isWord_any (s : ByteArray) (w : World) (hs : s.size ≤ 9223372036854775807) :
    Calls Try.prog 58 #[.string s] w fun e w' => e = .returned (.bool (okB s)) ∧ Below w.heap.size w w' := by
  have b0 := Below.refl w.heap.size w
  have hb := get_bt s
  have HNO := Lib.hid (fun i (hi : i < s.size) => okB_no hi)
  have HYES := Lib.hid (okB_yes (s := s))
  have HG0 : Hid (∀ i, i < 0 → goodB s i = true) := Lib.hid (fun i hi => absurd hi (Nat.not_lt_zero i))
  by_cases hl : 120 < s.size
  · have g0 : decide ((120 : Int) < (s.size : Int)) = true := decide_eq_true (by omega)
    have hno := Lib.hid (okB_long hl)
    clear hl
    go_enter Try.func58, Try.ntmps58
    go_wp2
    go_ret
    exact ⟨ret_bool hno.out.symm, b0⟩
  · have g0 : decide ((120 : Int) < (s.size : Int)) = false := decide_eq_false (by omega)
    go_enter Try.func58, Try.ntmps58
    go_wp2
    go_loopw [9] (fun i wr => ∃ j : Nat, i = .int .i64 j ∧ j ≤ s.size ∧ Below w.heap.size w wr ∧ Hid (∀ i, i < j → goodB s i = true)) (fun i _ => s.size - (intOf i).toNat)
    case atStart => exact ⟨0, rfl, by omega, b0, HG0⟩
    case round =>
      clear b0 HG0
      obtain ⟨j, rfl, hj, b0, HG⟩ := hrel
      by_cases hlt : j < s.size
      · have g1 : decide (j < s.size) = true := decide_eq_true hlt
        have hbj := hb j hlt
        have hb1 := bt_nonneg s j
        have hb2 := bt_le s j
        have HN1 := Lib.hid (HNO.out j hlt)
        have HGA : Hid (goodB s j = (!decide (bt s j < 97) && !decide (100 < bt s j))) := Lib.hid rfl
        have HGK : Hid (goodB s j = true → ∀ i, i < j + 1 → goodB s i = true) := Lib.hid (fun hg i hi => by
          rcases Nat.lt_or_ge i j with h | h
          · exact HG.out i h
          · rw [show i = j by omega]; exact hg)
        obtain ⟨x, hx⟩ : ∃ x, bt s j = x := ⟨_, rfl⟩
        rw [hx] at hbj HGA hb1 hb2
        clear hx hb
        by_cases h1 : x < 97
        · have g2 : decide (x < 97) = true := decide_eq_true h1
          have hno := Lib.hid (HN1.out (by rw [HGA.out, g2]; rfl))
          clear HN1 HGA HGK HG h1
          go_wp2
          go_ret
          exact ⟨ret_bool hno.out.symm, b0⟩
        · have g2 : decide (x < 97) = false := decide_eq_false h1
          by_cases h2 : 100 < x
          · have g3 : decide (100 < x) = true := decide_eq_true h2
            have hno := Lib.hid (HN1.out (by rw [HGA.out, g2, g3]; rfl))
            clear HN1 HGA HGK HG h1 h2
            go_wp2
            go_ret
            exact ⟨ret_bool hno.out.symm, b0⟩
          · have g3 : decide (100 < x) = false := decide_eq_false h2
            have HG2 := Lib.hid (HGK.out (by rw [HGA.out, g2, g3]; rfl))
            clear HN1 HGA HGK HG h1 h2
            go_wp2
            go_roundw
            case rel => exact ⟨j + 1, by go_num, by omega, b0, HG2⟩
            case measure => simp [intOf]; omega
      · obtain rfl : j = s.size := by omega
        have g1 : decide (s.size < s.size) = false := decide_eq_false hlt
        have hy := Lib.hid (HYES.out (by omega) HG.out)
        go_wp2
        go_ret
        exact ⟨ret_bool hy.out.symm, b0⟩
end Go.Proofs.Ytoklnpiehbnalaa
