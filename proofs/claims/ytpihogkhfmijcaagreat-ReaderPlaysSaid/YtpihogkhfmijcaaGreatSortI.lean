/- slices.Sort of ints, as plan's apart calls it; a sorted row that rises has no two alike. -/
import Derived.Test.YtpihogkhfmijcaaGreatRises
import Derived.Test.YtpihogkhfmijcaaGreatShelf
import Derived.Sort.OwnSortedInts
namespace Go.Proofs.YtpihogkhfmijcaaGreat
open Go.RowKit Go.Maps Go.Shelf Go.Sort Go.Lib
def sorted (l : List Int) : List Int := l.mergeSort fun x y => decide (x ≤ y)
theorem sorted_len (l : List Int) : (sorted l).length = l.length := List.length_mergeSort l
theorem sorted_le (l : List Int) : (sorted l).Pairwise (fun x y => x ≤ y) := by
  have := List.pairwise_mergeSort (le := fun x y : Int => decide (x ≤ y)) (fun a b c h1 h2 => by simp at *; omega) (fun a b => by simp; omega) l
  exact this.imp fun h => by simpa using h
theorem sorted_nodup (l : List Int) : (sorted l).Nodup ↔ l.Nodup := (List.mergeSort_perm l _).nodup_iff
theorem rise_lt {l : List Int} (h : Rise l) : ∀ (d i : Nat) (x y : Int), l[i]? = some x → l[i + d + 1]? = some y → x < y := by
  intro d
  induction d with
  | zero => intro i x y hx hy; exact h i x y hx hy
  | succ d ih =>
    intro i x y hx hy
    obtain ⟨z, hz⟩ : ∃ z, l[i + d + 1]? = some z := ⟨_, List.getElem?_eq_getElem (by have := (List.getElem?_eq_some_iff.1 hy).1; omega)⟩
    have h1 := ih i x z hx hz
    have h2 := h (i + d + 1) z y hz hy
    omega
theorem rise_nodup {l : List Int} (h : Rise l) : l.Nodup := by
  rw [List.Nodup, List.pairwise_iff_getElem]
  intro i j hi hj hij
  have := rise_lt h (j - i - 1) i l[i] l[j] (List.getElem?_eq_getElem hi) (by rw [show i + (j - i - 1) + 1 = j by omega]; exact List.getElem?_eq_getElem hj)
  omega
theorem nodup_rise {l : List Int} (h : l.Nodup) (hs : l.Pairwise fun x y => x ≤ y) : Rise l := by
  intro i x y hx hy
  obtain ⟨hi, rfl⟩ := List.getElem?_eq_some_iff.1 hx
  obtain ⟨hj, rfl⟩ := List.getElem?_eq_some_iff.1 hy
  have h1 := List.pairwise_iff_getElem.1 hs i (i + 1) hi hj (by omega)
  have h2 := List.pairwise_iff_getElem.1 h i (i + 1) hi hj (by omega)
  omega
theorem sorted_rise (l : List Int) : Rise (sorted l) ↔ l.Nodup := ⟨fun h => (sorted_nodup l).1 (rise_nodup h), fun h => nodup_rise ((sorted_nodup l).2 h) (sorted_le l)⟩
abbrev OwnIs (base : Nat) (w : World) (v : Value) (l : List Int) : Prop := OwnRow 3 1 encI base w v l
theorem flat_encI (l : List Int) : l.flatMap encI = l.map (Value.int .i64) := by
  induction l with
  | nil => rfl
  | cons x l ih => rw [List.flatMap_cons, ih]; rfl
theorem sortI_any {base : Nat} (v : Value) (l : List Int) (w : World) (h : OwnIs base w v l) (hl : l.length ≤ 1000) (hb : base ≤ w.heap.size) :
    Calls Tryz.prog 81 #[v] w fun e w' => e = .returned (.tuple #[]) ∧ IsAt w' v (sorted l) ∧ Below base w w' := by
  rcases h.2 with ⟨rfl, h0⟩ | ⟨g, cap, cur, rfl, hbg, hg, hnc, hcm, hcs, htake⟩
  · have hl0 : l = [] := List.eq_nil_of_length_eq_zero h0
    subst hl0
    refine (Tryz.slices_Sort_int_none none 0 w).mono ?_
    rintro e w' ⟨rfl, rfl⟩
    exact ⟨rfl, ⟨none, 0, by rw [sorted_len]; rfl, by rw [sorted_len]; simp, by rw [sorted_len]; simp, fun _ => rfl, fun h => by rw [sorted_len] at h; simp at h⟩, Below.refl _ _⟩
  · have hgl := (Array.getElem?_eq_some_iff.1 hg).1
    have hH : Holds (Value.int .i64) w g 0 l.toArray := holds_of_blockI hg (by rw [Nat.mul_one, flat_encI] at htake; exact htake)
    refine (Tryz.slices_Sort_int g 0 cap l w hH hgl (by omega)).mono ?_
    rintro e w' ⟨rfl, n, os, hw⟩
    have hgr : w.grownBy w' (some g) := by rw [hw]; exact grownBy_sortedI _
    have hH4 : Holds (Value.int .i64) w' g 0 (sorted l).toArray := by
      rw [hw]
      exact holds_grow _ _ _ _ _ _ (by rw [size_putRow]; exact hgl) (holds_putRow _ _ g 0 l.toArray _ (holds_ahead _ _ _ _ _ _ hH) (by simp))
    have hlen := sorted_len l
    refine ⟨rfl, ⟨some ⟨g, 0, none⟩, cap, by rw [hlen], by omega, by omega, fun h => (by cases h), fun _ => ⟨g, 0, rfl, by have := hgr.size; omega, fun j x hx => ⟨trivial, fun r hr => ?_⟩⟩⟩, (Below.refl base w).grown hgr hb (fun k hk => by injection hk with hk; omega)⟩
    obtain rfl : r = 0 := by omega
    obtain ⟨hj, rfl⟩ := List.getElem?_eq_some_iff.1 hx
    have h1 := (hH4 j (by simpa using hj)).1
    rw [getElem!_pos _ j (by simpa using hj)] at h1
    simpa [encI] using h1
end Go.Proofs.YtpihogkhfmijcaaGreat
