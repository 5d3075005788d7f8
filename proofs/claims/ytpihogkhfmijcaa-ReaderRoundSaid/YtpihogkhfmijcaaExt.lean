/- extend. -/
import Derived.Test.YtpihogkhfmijcaaDel
namespace Go.Proofs.Ytpihogkhfmijcaa
open Go.RowKit Go.Maps Go.Shelf
/-- those of known behind a row whose nodes are not there, up to so many in all -/
def ext (row : List PL) (most : Int) (known : List PL) : List PL :=
  known.foldl (fun r p => if decide ((r.length : Int) < most) = true ∧ r.any (fun q => q.n == p.n) = false then r ++ [p] else r) row
theorem ext_snoc (row : List PL) (most : Int) (known : List PL) (x : PL) : ext row most (known ++ [x]) = if decide (((ext row most known).length : Int) < most) = true ∧ (ext row most known).any (fun q => q.n == x.n) = false then ext row most known ++ [x] else ext row most known := by
  unfold ext
  rw [List.foldl_append]
  rfl
theorem ext_nil (row : List PL) (most : Int) : ext row most [] = row := rfl
theorem ext_len (row : List PL) (most : Int) (known : List PL) : (ext row most known).length ≤ row.length + known.length := by
  unfold ext
  induction known generalizing row with
  | nil => simp
  | cons x l ih =>
    rw [List.foldl_cons]
    refine Nat.le_trans (ih _) ?_
    split <;> simp only [List.length_append, List.length_cons, List.length_nil] <;> omega
theorem ext_mem {row known : List PL} {most : Int} : ∀ q ∈ ext row most known, q ∈ row ∨ q ∈ known := by
  unfold ext
  induction known generalizing row with
  | nil => intro q hq; exact .inl hq
  | cons x l ih =>
    intro q hq
    rw [List.foldl_cons] at hq
    rcases ih q hq with h | h
    · split at h
      · rcases List.mem_append.1 h with h | h
        · exact .inl h
        · rw [List.mem_singleton] at h; exact .inr (by rw [h]; exact List.mem_cons_self)
      · exact .inl h
    · exact .inr (List.mem_cons_of_mem _ h)
theorem ps_one (w : World) (x : PL) (hx : x.ok) : PsAt (w.alloc (.cells #[.int .i64 x.n, .int .u64 x.s] 38)) (.slice (some ⟨w.heap.size, 0, none⟩) 1 1) [x] := by
  refine ⟨_, _, rfl, by simp, Nat.le_refl _, (fun h => by cases h), fun _ => ⟨w.heap.size, 0, rfl, by rw [World.size_alloc]; omega, fun j y hj => ?_⟩⟩
  cases j with
  | zero =>
    simp at hj
    subst hj
    refine ⟨hx, fun r hr => ?_⟩
    rw [World.cell?_alloc_new]
    have h2 : r = 0 ∨ r = 1 := by omega
    rcases h2 with rfl | rfl <;> rfl
  | succ j => simp at hj
end Go.Proofs.Ytpihogkhfmijcaa
