/- count: how many unlike ones of a row are as asked. -/
import Derived.Test.YtpihogkhfmijcaaAmong
namespace Go.Proofs.Ytpihogkhfmijcaa
open Go.RowKit Go.Maps Go.Shelf
/-- how many unlike ones are as p says -/
def hits (p : PL → Bool) (l : List PL) : Nat := dist (l.filter p)
theorem hits_le (p : PL → Bool) (l : List PL) : hits p l ≤ l.length := Nat.le_trans (dist_le_length _) (List.length_filter_le _ _)
end Go.Proofs.Ytpihogkhfmijcaa
