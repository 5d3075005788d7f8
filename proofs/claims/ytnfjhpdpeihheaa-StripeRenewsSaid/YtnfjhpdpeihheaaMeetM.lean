/- For StripeMeets, StripeRound: what the laws hand to long; a piece of a row; mathematics of the theorem. -/
import Derived.Test.YtnfjhpdpeihheaaMore
import Derived.Test.YtnfjhpdpeihheaaLawCounts
namespace Go.Proofs.Ytnfjhpdpeihheaa
open Go.RowKit Go.Maps Go.Shelf
/-- a fragment's box, a row of it -/
def LV (w : World) (f : Int) (u : Value) : World := (w.alloc (.cells #[.int .u64 f, u] 25)).alloc (.cells #[.int .u64 f, u] 25)
theorem LV.size (w : World) (f : Int) (u : Value) : (LV w f u).heap.size = w.heap.size + 2 := by unfold LV; simp only [World.size_alloc]
theorem LV.below (w : World) (f : Int) (u : Value) : Below w.heap.size w (LV w f u) := by
  unfold LV
  exact ((Below.refl _ w).alloc (Nat.le_refl _) _).alloc (by simp only [World.size_alloc]; omega) _
theorem LV.box (w : World) (f : Int) (u : Value) : Box25 (LV w f u) w.heap.size f u := by
  unfold LV
  exact (Box25.new w f u).alloc _
theorem LV.one (w : World) (f : Int) (a : Option Addr) (E c : Nat) : OneFrag (LV w f (.slice a E c)) (w.heap.size + 1) 0 f a E c := by
  have h1 := OneFrag.new (w.alloc (.cells #[.int .u64 f, .slice a E c] 25)) f a E c
  rw [World.size_alloc] at h1
  exact h1
theorem LV.long (w : World) (f n : Int) (a : Option Addr) (E c : Nat) :
    Calls Try.prog 10 #[.slice (some ⟨w.heap.size + 1, 0, none⟩) 1 1, .int .i64 n, .slice none 0 0] (LV w f (.slice a E c)) fun e w' => e = .returned (.bool (longB E n [])) ∧ w' = LV w f (.slice a E c) :=
  long_any _ 0 1 f n a E c _ [] _ (LV.one w f a E c) (LensAt.nil _)
/-- with a row of one row besides -/
def LU (w : World) (f : Int) (u r1 : Value) : World := (LV w f u).alloc (.cells #[r1] 23)
theorem LU.below (w : World) (f : Int) (u r1 : Value) : Below w.heap.size w (LU w f u r1) := (LV.below w f u).alloc (LV.below w f u).size _
theorem LU.box (w : World) (f : Int) (u r1 : Value) : Box25 (LU w f u r1) w.heap.size f u := (LV.box w f u).alloc _
theorem LU.long (w : World) (f n : Int) (a a1 : Option Addr) (E c M c1 : Nat) :
    Calls Try.prog 10 #[.slice (some ⟨w.heap.size + 1, 0, none⟩) 1 1, .int .i64 n, .slice (some ⟨w.heap.size + 1 + 1, 0, none⟩) 1 1] (LU w f (.slice a E c) (.slice a1 M c1)) fun e w' => e = .returned (.bool (longB E n [M])) ∧ w' = LU w f (.slice a E c) (.slice a1 M c1) := by
  refine long_any _ 0 1 f n a E c _ [M] _ ((LV.one w f a E c).below (Go.Joins.below_alloc1 _ _)) ⟨_, 1, rfl, by simp, fun j L hj => ?_⟩
  match j with
  | 0 =>
    simp at hj
    subst hj
    refine ⟨_, 0, a1, c1, rfl, ?_⟩
    unfold LU
    rw [show w.heap.size + 1 + 1 = (LV w f (.slice a E c)).heap.size by rw [LV.size], World.cell?_alloc_new]
    rfl
  | (j + 1) => simp at hj
theorem longB_one {E M : Nat} {n : Int} (h : longB E n [M] = false) : E ≤ 30 ∧ n ≤ 1000 ∧ M ≤ 60 := by
  simp [longB] at h
  omega
theorem PsAt.mid {w : World} {b off n c i : Nat} {l : List PL} {x : PL} (h : PsAt w (.slice (some ⟨b, off, none⟩) n c) l) (hx : l[i]? = some x) : PsAt w (.slice (some ⟨b, off + i * 2, none⟩) 1 (c - i)) [x] := by
  obtain ⟨a', cap, hv, h1, h2, h3, h4⟩ := h
  cases hv
  have hil := (List.getElem?_eq_some_iff.1 hx).1
  obtain ⟨b', off', ha, hb, hc⟩ := h4 (by omega)
  cases ha
  refine ⟨_, _, rfl, by simp, by simp only [List.length_cons, List.length_nil]; omega, (fun h => by cases h), fun _ => ⟨_, _, rfl, hb, fun j y hj => ?_⟩⟩
  cases j with
  | zero =>
    simp at hj
    subst hj
    obtain ⟨h5, h6⟩ := hc i x hx
    exact ⟨h5, fun r hr => by rw [Nat.zero_mul, Nat.add_zero]; exact h6 r hr⟩
  | succ j => simp at hj
theorem hits_one (p : PL → Bool) (x : PL) : hits p [x] = if p x = true then 1 else 0 := by
  unfold hits
  cases h : p x <;> simp [h, dist, List.eraseDups_cons]
/-- how many of the first i are as asked -/
def met (p : PL → Bool) (l : List PL) (i : Nat) : Nat := ((l.take i).filter p).length
theorem met_zero (p : PL → Bool) (l : List PL) : met p l 0 = 0 := by simp [met]
theorem met_succ {p : PL → Bool} {l : List PL} {i : Nat} {x : PL} (hx : l[i]? = some x) : met p l (i + 1) = met p l i + if p x = true then 1 else 0 := by
  unfold met
  rw [take_snoc hx, List.filter_append, List.length_append]
  cases h : p x <;> simp [h]
theorem met_all {p : PL → Bool} {l : List PL} {i : Nat} (hi : l.length = i) : hits p l ≤ met p l i := by
  unfold met
  rw [take_all hi]
  exact dist_le_length _
/-- where the answers cover, so many of the set have answered -/
theorem cov_hits {p : PL → Bool} {row : List PL} {n a : Int} (h : covB p row n a = true) {k : Nat} (hk : k < row.length) (ha : a ≤ n) : n - a < (hits p (rot row k n.toNat) : Int) := by
  unfold covB at h
  rw [Bool.and_eq_true, List.all_eq_true] at h
  have := h.2 k (List.mem_range.2 hk)
  simp only [missB, Bool.or_eq_true, decide_eq_true_eq] at this
  omega
/-- where they do not, there is a set of which so many have not -/
theorem cov_not {p : PL → Bool} {row : List PL} {n a : Int} (h : covB p row n a = false) (hb : hasB row n = true) (hall : ∀ k, k < row.length → ¬ a ≤ n - (hits p (rot row k n.toNat) : Int)) : False := by
  unfold covB at h
  rw [hb, Bool.true_and, List.all_eq_false] at h
  obtain ⟨k, hk, hm⟩ := h
  have := hall k (List.mem_range.1 hk)
  apply hm
  simp only [missB, Bool.or_eq_true, decide_eq_true_eq]
  omega
theorem setL_ge {row : List PL} {f n k : Int} (hf : f ≤ k) (hb : hasB row n = true) : setL f row n k = rot row ((k - f) % (row.length : Int)).toNat n.toNat := by
  unfold setL
  rw [if_pos ⟨hf, hb⟩]
theorem setL_at {row : List PL} {f n : Int} {i : Nat} (hb : hasB row n = true) (hi : i < row.length) : setL f row n (f + i) = rot row i n.toNat := by
  rw [setL_ge (by omega) hb, show f + (i : Int) - f = (i : Int) by omega, Int.emod_eq_of_lt (by omega) (by omega), Int.toNat_natCast]
end Go.Proofs.Ytnfjhpdpeihheaa
