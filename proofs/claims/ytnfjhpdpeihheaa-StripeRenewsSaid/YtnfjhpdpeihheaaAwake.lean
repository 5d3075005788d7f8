/- awake: the chapter's examples. -/
import Derived.Test.YtnfjhpdpeihheaaExt
import Derived.Test.YtnfjhpdpeihheaaSet
namespace Go.Proofs.Ytnfjhpdpeihheaa
open Go.RowKit Go.Maps Go.Shelf
theorem PsAt.nil (w : World) : PsAt w (.slice none 0 0) [] := ⟨none, 0, rfl, by simp, by simp, fun _ => rfl, fun h => absurd h (by simp)⟩
/-- places in a new block -/
theorem PsAt.new (w : World) (l : List PL) (hl : l.length ≤ 1000000) (hok : ∀ q ∈ l, q.ok) (C : Array Value) (hC : ∀ j q r, l[j]? = some q → r < 2 → C[j * 2 + r]? = q.cells[r]?) : PsAt (w.alloc (.cells C 38)) (.slice (some ⟨w.heap.size, 0, none⟩) l.length l.length) l := by
  refine ⟨_, _, rfl, by omega, Nat.le_refl _, (fun h => by cases h), fun _ => ⟨_, 0, rfl, by simp [World.size_alloc], fun j x hj => ⟨hok x (List.mem_of_getElem? hj), fun r hr => ?_⟩⟩⟩
  rw [Nat.zero_add, World.cell?_alloc_new]
  exact hC j x r hj hr
theorem IntsAt.new (w : World) (l : List Int) (hl : l.length ≤ 1000000) (hok : ∀ x ∈ l, -9223372036854775808 ≤ x ∧ x ≤ 9223372036854775807) : IntsAt (w.alloc (.cells (l.map (Value.int .i64)).toArray 3)) (.slice (some ⟨w.heap.size, 0, none⟩) l.length l.length) l := by
  refine ⟨_, _, rfl, by omega, Nat.le_refl _, (fun h => by cases h), fun _ => ⟨_, 0, rfl, by simp [World.size_alloc], fun j x hj => ⟨hok x (List.mem_of_getElem? hj), fun r hr => ?_⟩⟩⟩
  obtain rfl : r = 0 := by omega
  rw [Nat.zero_add, Nat.mul_one, Nat.add_zero, World.cell?_alloc_new]
  show (l.map (Value.int .i64)).toArray[j]? = _
  rw [List.getElem?_toArray, List.getElem?_map, hj]
  rfl
theorem PsAt.front {w : World} {a : Option Addr} {n c : Nat} {l : List PL} (h : PsAt w (.slice a n c) l) {k : Nat} (hk : k ≤ l.length) : PsAt w (.slice a k c) (l.take k) := by
  obtain ⟨a', cap, hv, h1, h2, h3, h4⟩ := h
  cases hv
  have hl : (l.take k).length = k := by rw [List.length_take]; omega
  refine ⟨a, c, by rw [hl], by omega, by omega, h3, fun h0 => ?_⟩
  obtain ⟨b, off, ha, hb, hc⟩ := h4 (by omega)
  exact ⟨b, off, ha, hb, fun j x hj => hc j x (by rw [List.getElem?_take] at hj; split at hj; exact hj; cases hj)⟩
theorem place_any (n : Int) (w : World) : Calls Try.prog 33 #[.int .i64 n] w fun e w' => e = .returned (PL.val ⟨n, 1⟩) ∧ Below w.heap.size w w' := by
  go_enter Try.func33, Try.ntmps33
  go_wp2
  refine bodyPost_ret (results_cell_row rfl _ _ w.heap.size 38 _ (0, 0) _ rfl (heap_alloc_new _ _) Try.underlying38 rfl (by kernel_rfl)) rfl ⟨rfl, Go.Joins.below_alloc1 w _⟩
def tri : List PL := [⟨7, 1⟩, ⟨8, 1⟩, ⟨9, 1⟩]
theorem small_ok (n : Int) (h : 0 ≤ n ∧ n ≤ 100) : (⟨n, 1⟩ : PL).ok := ⟨⟨by show _ ≤ n; omega, by show n ≤ _; omega⟩, by show 0 ≤ (1 : Int) ∧ (1 : Int) ≤ _; decide⟩
theorem tri_ok : ∀ q ∈ tri, q.ok := fun q hq => by
  simp only [tri, List.mem_cons, List.not_mem_nil, or_false] at hq
  rcases hq with rfl | rfl | rfl <;> exact small_ok _ (by decide)
theorem tri_new (w : World) : PsAt (w.alloc (.cells #[.int .i64 7, .int .u64 1, .int .i64 8, .int .u64 1, .int .i64 9, .int .u64 1] 38)) (.slice (some ⟨w.heap.size, 0, none⟩) 3 3) tri := by
  refine PsAt.new w tri (by decide) tri_ok _ fun j q r hj hr => ?_
  have hjl := (List.getElem?_eq_some_iff.1 hj).1
  simp only [tri, List.length_cons, List.length_nil] at hjl
  rcases (show j = 0 ∨ j = 1 ∨ j = 2 by omega) with rfl | rfl | rfl <;> (simp [tri] at hj; subst hj; rcases (show r = 0 ∨ r = 1 by omega) with rfl | rfl <;> rfl)
set_option maxRecDepth 100000 in
theorem three_any (w : World) : Calls Try.prog 32 #[] w fun e w' => ∃ g, e = .returned (.agg #[.int .u64 3, .slice (some ⟨g, 0, none⟩) 3 3]) ∧ PsAt w' (.slice (some ⟨g, 0, none⟩) 3 3) tri ∧ Below w.heap.size w w' := by
  have BX := Lib.hid (Box25.new w 0 (.slice none 0 0))
  have B0 := Lib.hid (Go.Joins.below_alloc1 w (.cells #[.int .u64 0, .slice none 0 0] 25))
  go_enter Try.func32, Try.ntmps32
  go_wp2_with fail
  refine (place_any 7 _).mono ?_
  rintro e w1 ⟨rfl, hb1⟩
  have B1 := Lib.hid (And.intro (BX.out.below hb1) (B0.out.trans (hb1.mono B0.out.size)))
  clear hb1 BX B0
  go_wp2_with fail
  refine (place_any 8 _).mono ?_
  rintro e w2 ⟨rfl, hb2⟩
  have B2 := Lib.hid (And.intro (B1.out.1.below hb2) (B1.out.2.trans (hb2.mono B1.out.2.size)))
  clear hb2 B1
  go_wp2_with fail
  refine (place_any 9 _).mono ?_
  rintro e w3 ⟨rfl, hb3⟩
  have B3 := Lib.hid (And.intro (B2.out.1.below hb3) (B2.out.2.trans (hb3.mono B2.out.2.size)))
  clear hb3 B2
  have hlt := B3.out.1
  have hsz : w.heap.size < w3.heap.size := lt_of_block hlt
  have c0 := hlt.c0
  have c1 := hlt.c1
  have f0 := hlt.fz
  obtain ⟨X, hX⟩ : ∃ X, X = (w3.setCell ⟨w.heap.size, 0, none⟩ (.int .u64 3)).setCell ⟨w.heap.size, 1, none⟩ (.slice (some ⟨w3.heap.size, 0, none⟩) 3 3) := ⟨_, rfl⟩
  have hXs : X.heap.size = w3.heap.size := by rw [hX]; simp [World.setCell]
  have HX := Lib.hid (show Box25 (X.alloc (.cells #[.int .i64 7, .int .u64 1, .int .i64 8, .int .u64 1, .int .i64 9, .int .u64 1] 38)) w.heap.size 3 (.slice (some ⟨w3.heap.size, 0, none⟩) 3 3) ∧
      PsAt (X.alloc (.cells #[.int .i64 7, .int .u64 1, .int .i64 8, .int .u64 1, .int .i64 9, .int .u64 1] 38)) (.slice (some ⟨w3.heap.size, 0, none⟩) 3 3) tri ∧
      Below w.heap.size w (X.alloc (.cells #[.int .i64 7, .int .u64 1, .int .i64 8, .int .u64 1, .int .i64 9, .int .u64 1] 38)) from by
    refine ⟨?_, ?_, ?_⟩
    · rw [hX]; exact (hlt.put 3 _).alloc _
    · have := tri_new X; rw [hXs] at this; exact this
    · have hb : Below w.heap.size w X := by
        rw [hX]
        exact (B3.out.2.setCell (p := ⟨w.heap.size, 0, none⟩) (Nat.le_refl _) _).setCell (p := ⟨w.heap.size, 1, none⟩) (Nat.le_refl _) _
      exact hb.alloc hb.size _)
  clear hlt B3 hXs
  subst hX
  go_wp2
  refine bodyPost_ret (results_cell_row rfl _ _ w.heap.size 25 _ (0, 0) _ rfl HX.out.1 Try.underlying25 rfl (by kernel_rfl)) rfl ⟨_, rfl, HX.out.2⟩
end Go.Proofs.Ytnfjhpdpeihheaa
