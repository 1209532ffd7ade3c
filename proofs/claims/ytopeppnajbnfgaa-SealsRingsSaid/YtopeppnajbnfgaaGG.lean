/- Chains in groups: one cut in the middle of each. -/
import Derived.Test.YtopeppnajbnfgaaGF
namespace Go.Proofs.Ytopeppnajbnfgaa
open Go.RowKit
set_option maxHeartbeats 1000000
set_option maxRecDepth 100000
/-- How many seals of a group lie before a place. -/
abbrev C (p n x : Nat) : Nat := min (x - p) (2 * n)
/-- A letter is fairly divided. -/
def Fr4 (p n a b d e : Nat) : Prop := C p n b + C p n e = n + C p n a + C p n d
def In (p n x : Nat) : Prop := p < x ∧ x < p + 2 * n
theorem some_in {p n a b d e : Nat} (hn : 0 < n) (h1 : a ≤ b) (h2 : b ≤ d) (_h3 : d ≤ e) (h : Fr4 p n a b d e) : In p n a ∨ In p n b ∨ In p n d ∨ In p n e := by
  unfold Fr4 at h
  unfold In
  have c : ∀ x, C p n x = 0 ∧ x ≤ p ∨ C p n x = 2 * n ∧ p + 2 * n ≤ x ∨ (p < x ∧ x < p + 2 * n) := fun x => by unfold C; omega
  generalize C p n = f at *
  rcases c a with ⟨ha, ha'⟩ | ⟨ha, ha'⟩ | ha
  · rcases c b with ⟨hb, hb'⟩ | ⟨hb, hb'⟩ | hb
    · rcases c d with ⟨hd, hd'⟩ | ⟨hd, hd'⟩ | hd
      · rcases c e with ⟨he, he'⟩ | ⟨he, he'⟩ | he
        · omega
        · omega
        · exact .inr (.inr (.inr he))
      · rcases c e with ⟨he, he'⟩ | ⟨he, he'⟩ | he
        · omega
        · omega
        · exact .inr (.inr (.inr he))
      · exact .inr (.inr (.inl hd))
    · rcases c d with ⟨hd, hd'⟩ | ⟨hd, hd'⟩ | hd
      · omega
      · rcases c e with ⟨he, he'⟩ | ⟨he, he'⟩ | he
        · omega
        · omega
        · exact .inr (.inr (.inr he))
      · exact .inr (.inr (.inl hd))
    · exact .inr (.inl hb)
  · rcases c b with ⟨hb, hb'⟩ | ⟨hb, hb'⟩ | hb
    · omega
    · rcases c d with ⟨hd, hd'⟩ | ⟨hd, hd'⟩ | hd
      · omega
      · rcases c e with ⟨he, he'⟩ | ⟨he, he'⟩ | he
        · omega
        · omega
        · exact .inr (.inr (.inr he))
      · exact .inr (.inr (.inl hd))
    · exact .inr (.inl hb)
  · exact .inl ha
theorem at_a {p n a b d e : Nat} (h1 : a ≤ b) (h2 : b ≤ d) (h3 : d ≤ e) (h : Fr4 p n a b d e) (ha : In p n a) (hb : p + 2 * n ≤ b) : a = p + n := by
  unfold Fr4 C at h; unfold In at ha
  have e1 : min (b - p) (2 * n) = 2 * n := by omega
  have e2 : min (d - p) (2 * n) = 2 * n := by omega
  have e3 : min (e - p) (2 * n) = 2 * n := by omega
  have e4 : min (a - p) (2 * n) = a - p := by omega
  omega
theorem at_b {p n a b d e : Nat} (_h1 : a ≤ b) (h2 : b ≤ d) (h3 : d ≤ e) (h : Fr4 p n a b d e) (h0 : a ≤ p) (ha : In p n b) (hb : p + 2 * n ≤ d) : b = p + n := by
  unfold Fr4 C at h; unfold In at ha
  have e1 : min (b - p) (2 * n) = b - p := by omega
  have e2 : min (d - p) (2 * n) = 2 * n := by omega
  have e3 : min (e - p) (2 * n) = 2 * n := by omega
  have e4 : min (a - p) (2 * n) = 0 := by omega
  omega
theorem at_d {p n a b d e : Nat} (h1 : a ≤ b) (h2 : b ≤ d) (h3 : d ≤ e) (h : Fr4 p n a b d e) (h0 : b ≤ p) (ha : In p n d) (hb : p + 2 * n ≤ e) : d = p + n := by
  unfold Fr4 C at h; unfold In at ha
  have e1 : min (b - p) (2 * n) = 0 := by omega
  have e2 : min (d - p) (2 * n) = d - p := by omega
  have e3 : min (e - p) (2 * n) = 2 * n := by omega
  have e4 : min (a - p) (2 * n) = 0 := by omega
  omega
theorem at_e {p n a b d e : Nat} (h1 : a ≤ b) (h2 : b ≤ d) (_h3 : d ≤ e) (h : Fr4 p n a b d e) (h0 : d ≤ p) (ha : In p n e) : e = p + n := by
  unfold Fr4 C at h; unfold In at ha
  have e1 : min (b - p) (2 * n) = 0 := by omega
  have e2 : min (d - p) (2 * n) = 0 := by omega
  have e3 : min (e - p) (2 * n) = e - p := by omega
  have e4 : min (a - p) (2 * n) = 0 := by omega
  omega
theorem miss1 {p1 n1 P a b d e : Nat} (z1 : 0 < n1) (s1 : p1 + 2 * n1 ≤ P) (h1 : a ≤ b) (h2 : b ≤ d) (h3 : d ≤ e) (h4 : e ≤ P) (f1 : Fr4 p1 n1 a b d e) : a < P := by
  have g1 := some_in z1 h1 h2 h3 f1
  clear f1
  unfold In at *
  omega
theorem only1 {p1 n1 P a b d e : Nat} (z1 : 0 < n1) (s1 : p1 + 2 * n1 ≤ P) (h1 : a ≤ b) (h2 : b ≤ d) (h3 : d ≤ e) (h4 : e ≤ P) (q1 : b = P) (q2 : d = P) (_q3 : e = P) (f1 : Fr4 p1 n1 a b d e) : a = p1 + n1 := by
  have g1 := some_in z1 h1 h2 h3 f1
  unfold In at *
  have hin : (p1 < a ∧ a < p1 + 2 * n1) := by clear f1; omega
  clear g1
  have i1 := hin
  exact at_a h1 h2 h3 f1 i1 (by omega)
theorem miss2 {p1 n1 p2 n2 P a b d e : Nat} (z1 : 0 < n1) (z2 : 0 < n2) (s1 : p1 + 2 * n1 ≤ p2) (s2 : p2 + 2 * n2 ≤ P) (h1 : a ≤ b) (h2 : b ≤ d) (h3 : d ≤ e) (h4 : e ≤ P) (f1 : Fr4 p1 n1 a b d e) (f2 : Fr4 p2 n2 a b d e) : b < P := by
  have g1 := some_in z1 h1 h2 h3 f1
  have g2 := some_in z2 h1 h2 h3 f2
  clear f1 f2
  unfold In at *
  omega
theorem only2 {p1 n1 p2 n2 P a b d e : Nat} (z1 : 0 < n1) (z2 : 0 < n2) (s1 : p1 + 2 * n1 ≤ p2) (s2 : p2 + 2 * n2 ≤ P) (h1 : a ≤ b) (h2 : b ≤ d) (h3 : d ≤ e) (h4 : e ≤ P) (q2 : d = P) (_q3 : e = P) (f1 : Fr4 p1 n1 a b d e) (f2 : Fr4 p2 n2 a b d e) : a = p1 + n1 ∧ b = p2 + n2 := by
  have g1 := some_in z1 h1 h2 h3 f1
  have g2 := some_in z2 h1 h2 h3 f2
  unfold In at *
  have hin : (p1 < a ∧ a < p1 + 2 * n1) ∧ (p2 < b ∧ b < p2 + 2 * n2) := by clear f1 f2; omega
  clear g1 g2
  obtain ⟨i1, i2⟩ := hin
  exact ⟨at_a h1 h2 h3 f1 i1 (by omega), at_b h1 h2 h3 f2 (by omega) i2 (by omega)⟩
theorem miss3 {p1 n1 p2 n2 p3 n3 P a b d e : Nat} (z1 : 0 < n1) (z2 : 0 < n2) (z3 : 0 < n3) (s1 : p1 + 2 * n1 ≤ p2) (s2 : p2 + 2 * n2 ≤ p3) (s3 : p3 + 2 * n3 ≤ P) (h1 : a ≤ b) (h2 : b ≤ d) (h3 : d ≤ e) (h4 : e ≤ P) (f1 : Fr4 p1 n1 a b d e) (f2 : Fr4 p2 n2 a b d e) (f3 : Fr4 p3 n3 a b d e) : d < P := by
  have g1 := some_in z1 h1 h2 h3 f1
  have g2 := some_in z2 h1 h2 h3 f2
  have g3 := some_in z3 h1 h2 h3 f3
  clear f1 f2 f3
  unfold In at *
  omega
theorem only3 {p1 n1 p2 n2 p3 n3 P a b d e : Nat} (z1 : 0 < n1) (z2 : 0 < n2) (z3 : 0 < n3) (s1 : p1 + 2 * n1 ≤ p2) (s2 : p2 + 2 * n2 ≤ p3) (s3 : p3 + 2 * n3 ≤ P) (h1 : a ≤ b) (h2 : b ≤ d) (h3 : d ≤ e) (_h4 : e ≤ P) (q3 : e = P) (f1 : Fr4 p1 n1 a b d e) (f2 : Fr4 p2 n2 a b d e) (f3 : Fr4 p3 n3 a b d e) : a = p1 + n1 ∧ b = p2 + n2 ∧ d = p3 + n3 := by
  have g1 := some_in z1 h1 h2 h3 f1
  have g2 := some_in z2 h1 h2 h3 f2
  have g3 := some_in z3 h1 h2 h3 f3
  unfold In at *
  have hin : (p1 < a ∧ a < p1 + 2 * n1) ∧ (p2 < b ∧ b < p2 + 2 * n2) ∧ (p3 < d ∧ d < p3 + 2 * n3) := by clear f1 f2 f3; omega
  clear g1 g2 g3
  obtain ⟨i1, i2, i3⟩ := hin
  exact ⟨at_a h1 h2 h3 f1 i1 (by omega), at_b h1 h2 h3 f2 (by omega) i2 (by omega), at_d h1 h2 h3 f3 (by omega) i3 (by omega)⟩
theorem miss4 {p1 n1 p2 n2 p3 n3 p4 n4 P a b d e : Nat} (z1 : 0 < n1) (z2 : 0 < n2) (z3 : 0 < n3) (z4 : 0 < n4) (s1 : p1 + 2 * n1 ≤ p2) (s2 : p2 + 2 * n2 ≤ p3) (s3 : p3 + 2 * n3 ≤ p4) (s4 : p4 + 2 * n4 ≤ P) (h1 : a ≤ b) (h2 : b ≤ d) (h3 : d ≤ e) (h4 : e ≤ P) (f1 : Fr4 p1 n1 a b d e) (f2 : Fr4 p2 n2 a b d e) (f3 : Fr4 p3 n3 a b d e) (f4 : Fr4 p4 n4 a b d e) : e < P := by
  have g1 := some_in z1 h1 h2 h3 f1
  have g2 := some_in z2 h1 h2 h3 f2
  have g3 := some_in z3 h1 h2 h3 f3
  have g4 := some_in z4 h1 h2 h3 f4
  clear f1 f2 f3 f4
  unfold In at *
  omega
theorem only4 {p1 n1 p2 n2 p3 n3 p4 n4 P a b d e : Nat} (z1 : 0 < n1) (z2 : 0 < n2) (z3 : 0 < n3) (z4 : 0 < n4) (s1 : p1 + 2 * n1 ≤ p2) (s2 : p2 + 2 * n2 ≤ p3) (s3 : p3 + 2 * n3 ≤ p4) (_s4 : p4 + 2 * n4 ≤ P) (h1 : a ≤ b) (h2 : b ≤ d) (h3 : d ≤ e) (_h4 : e ≤ P)  (f1 : Fr4 p1 n1 a b d e) (f2 : Fr4 p2 n2 a b d e) (f3 : Fr4 p3 n3 a b d e) (f4 : Fr4 p4 n4 a b d e) : a = p1 + n1 ∧ b = p2 + n2 ∧ d = p3 + n3 ∧ e = p4 + n4 := by
  have g1 := some_in z1 h1 h2 h3 f1
  have g2 := some_in z2 h1 h2 h3 f2
  have g3 := some_in z3 h1 h2 h3 f3
  have g4 := some_in z4 h1 h2 h3 f4
  unfold In at *
  have hin : (p1 < a ∧ a < p1 + 2 * n1) ∧ (p2 < b ∧ b < p2 + 2 * n2) ∧ (p3 < d ∧ d < p3 + 2 * n3) ∧ (p4 < e ∧ e < p4 + 2 * n4) := by clear f1 f2 f3 f4; omega
  clear g1 g2 g3 g4
  obtain ⟨i1, i2, i3, i4⟩ := hin
  exact ⟨at_a h1 h2 h3 f1 i1 (by omega), at_b h1 h2 h3 f2 (by omega) i2 (by omega), at_d h1 h2 h3 f3 (by omega) i3 (by omega), at_e h1 h2 h3 f4 (by omega) i4⟩
end Go.Proofs.Ytopeppnajbnfgaa
