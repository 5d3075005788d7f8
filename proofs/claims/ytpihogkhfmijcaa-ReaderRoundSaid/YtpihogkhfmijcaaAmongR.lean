/- The document's Among, Acked, Missing. -/
import Derived.Test.YtpihogkhfmijcaaEq
namespace Go.Proofs.Ytpihogkhfmijcaa
open Go.RowKit Go.Maps Go.Shelf
theorem hits_snoc (p : PL → Bool) (l : List PL) (x : PL) : hits p (l ++ [x]) = hits p l + if (!l.contains x && p x) = true then 1 else 0 := by
  unfold hits
  rw [List.filter_append]
  cases hp : p x
  · simp [hp]
  · simp only [List.filter_cons, hp, List.filter_nil, if_true]
    rw [dist_snoc]
    by_cases h : x ∈ l <;> simp [h, hp]
end Go.Proofs.Ytpihogkhfmijcaa
