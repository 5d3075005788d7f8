/- The document's MayFrags, of any row. -/
import Derived.Test.YtpihogkhfmijcaaFrs
import Derived.Test.YtpihogkhfmijcaaKit
namespace Go.Proofs.Ytpihogkhfmijcaa
open Go.RowKit Go.Maps Go.Shelf
/-- places that may be, of unlike nodes -/
def MayRow (row : List PL) : Prop := (∀ x ∈ row, x.may = true) ∧ row.Pairwise fun p q => p.n ≠ q.n
theorem MayRow.take {row : List PL} (h : MayRow row) (k : Nat) : MayRow (row.take k) := ⟨fun x hx => h.1 x (List.mem_of_mem_take hx), h.2.sublist (List.take_sublist k row)⟩
theorem MayRow.snoc {l : List PL} {x : PL} : MayRow (l ++ [x]) ↔ MayRow l ∧ x.may = true ∧ ∀ y ∈ l, y.n ≠ x.n := by
  unfold MayRow
  rw [List.pairwise_append]
  constructor
  · rintro ⟨h1, h2, _, h3⟩
    exact ⟨⟨fun y hy => h1 y (List.mem_append_left _ hy), h2⟩, h1 x (by simp), fun y hy => h3 y hy x (by simp)⟩
  · rintro ⟨⟨h1, h2⟩, h3, h4⟩
    refine ⟨fun y hy => ?_, h2, by simp, fun y hy z hz => ?_⟩
    · rcases List.mem_append.1 hy with h | h
      · exact h1 y h
      · rw [List.mem_singleton] at h; rw [h]; exact h3
    · rw [List.mem_singleton] at hz; rw [hz]; exact h4 y hy
/-- a fragment that may stand there -/
def OkFr (n : Int) (L : List FV) (i : Nat) (x : FV) : Prop := x.f ≤ 9 ∧ (∀ j y, i = j + 1 → L[j]? = some y → y.f < x.f) ∧ n ≤ (x.ps.length : Int) ∧ x.ps.length ≤ 5 ∧ MayRow x.ps
/-- a row of fragments that may be -/
def MayFr (n : Int) (L : List FV) : Prop := 1 ≤ L.length ∧ L.length ≤ 6 ∧ (∀ x, L[0]? = some x → x.f = 1) ∧ ∀ i x, L[i]? = some x → OkFr n L i x
/-- what MayFrags answers -/
def MayPost (n : Int) (L : List FV) (w : World) (e : Ending) (w' : World) : Prop := ∃ R : Bool, e = .returned (.bool R) ∧ (R = true ↔ MayFr n L) ∧ Below w.heap.size w w'
end Go.Proofs.Ytpihogkhfmijcaa
