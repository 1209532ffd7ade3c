/- The numbers of words without a square, by counting. -/
import Derived.Test.YtoklnpiehbnalaaAS
namespace Go.Proofs.Ytoklnpiehbnalaa
set_option maxRecDepth 100000
def cFact (n k : Nat) : Bool := decide (cntN (n + 1) k ≤ cntN n k * (k - 1)) && decide (cntN n k % k = 0) && (if k = 3 then decide (3 ≤ cntN n k) else decide (cntN n k ≤ cntN n (k + 1)))
/-- The numbers of words, by counting them. -/
theorem cFacts : ((List.range 15).all fun a => (List.range 3).all fun b => cFact (1 + a) (1 + b)) = true := by decide +kernel
theorem cFact_at {a b : Nat} (ha : a < 15) (hb : b < 3) : cFact (1 + a) (1 + b) = true :=
  List.all_eq_true.1 (List.all_eq_true.1 cFacts a (List.mem_range.2 ha)) b (List.mem_range.2 hb)
end Go.Proofs.Ytoklnpiehbnalaa
