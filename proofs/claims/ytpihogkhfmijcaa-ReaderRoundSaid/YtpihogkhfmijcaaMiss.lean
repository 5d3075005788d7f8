/- Acked, missing, Missing; the document's. -/
import Derived.Test.YtpihogkhfmijcaaAmongR
namespace Go.Proofs.Ytpihogkhfmijcaa
open Go.RowKit Go.Maps Go.Shelf
def ackedB (p : PL → Bool) (set : List PL) (a : Int) : Bool := decide (1 ≤ a) && decide (a ≤ (hits p set : Int))
theorem wrapu (x : Int) : IntKind.u64.wrap x = x % 18446744073709551616 := by
  simp [IntKind.wrap, IntKind.bits, IntKind.signed]
theorem hits_small (p : PL → Bool) (set : List PL) (h : set.length ≤ 100000) : hits p set ≤ 100000 := Nat.le_trans (hits_le p set) h
theorem AmongAt.of {w w' : World} {l : List PL} (h : w'.cell? ⟨w.heap.size + 1, 0, none⟩ = some (.map (some w.heap.size)) ∧ w.heap.size + 1 < w'.heap.size ∧ TimesAt w' w.heap.size l ∧ Below w.heap.size w w') : AmongAt w' (w.heap.size + 1) w.heap.size l :=
  ⟨h.2.1, h.1, h.2.2.1⟩
end Go.Proofs.Ytpihogkhfmijcaa
