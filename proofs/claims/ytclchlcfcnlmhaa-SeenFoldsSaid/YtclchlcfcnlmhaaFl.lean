/- The order of Fold; swaps in place; insertion sort. -/
import Derived.Test.YtclchlcfcnlmhaaFi
import Derived.Deep.RegionHeldLaw
namespace Go.Proofs.Ytclchlcfcnlmhaa
open Go.RowKit Go.Maps Go.Shelf
set_option linter.unusedSimpArgs false
def cmpI (a b : Int) : Int := if a < b then -1 else if b < a then 1 else 0
theorem nan_any (a : Int) (w : World) : Calls Try.prog 57 #[.int .i64 a] w fun e w' => e = .returned (.bool false) ∧ w' = w := by
  have hb : (a != a) = false := by simp
  go_enter Try.func57, Try.ntmps57
  go_wp2
  go_ret
  exact ⟨rfl, rfl⟩
theorem compare_any (a b : Int) (w : World) : Calls Try.prog 47 #[.int .i64 a, .int .i64 b] w fun e w' => e = .returned (.int .i64 (cmpI a b)) ∧ w' = w := by
  have HN := Lib.hid (fun x => nan_any x w)
  by_cases h1 : a < b
  · go_enter Try.func47, Try.ntmps47
    go_wp2_with fail
    refine (HN.out a).mono ?_
    rintro e w1 ⟨rfl, rfl⟩
    go_wp2_with fail
    refine (HN.out b).mono ?_
    rintro e w1 ⟨rfl, rfl⟩
    go_wp2
    go_ret
    exact ⟨by simp [cmpI, h1], rfl⟩
  · by_cases h2 : b < a
    · go_enter Try.func47, Try.ntmps47
      go_wp2_with fail
      refine (HN.out a).mono ?_
      rintro e w1 ⟨rfl, rfl⟩
      go_wp2_with fail
      refine (HN.out b).mono ?_
      rintro e w1 ⟨rfl, rfl⟩
      go_wp2
      go_ret
      exact ⟨by simp [cmpI, h1, h2], rfl⟩
    · go_enter Try.func47, Try.ntmps47
      go_wp2_with fail
      refine (HN.out a).mono ?_
      rintro e w1 ⟨rfl, rfl⟩
      go_wp2_with fail
      refine (HN.out b).mono ?_
      rintro e w1 ⟨rfl, rfl⟩
      go_wp2
      go_ret
      exact ⟨by unfold cmpI; rw [if_neg (show ¬ a < b by omega), if_neg (show ¬ b < a by omega)]; rfl, rfl⟩
/-- Fold's order -/
theorem order_any (x y : MK) (w : World) : Calls Try.prog 46 #[x.val, y.val] w fun e w' => e = .returned (.int .i64 (cmpI x.p y.p)) ∧ Below w.heap.size w w' := by
  obtain ⟨W, hW⟩ : ∃ W, W = (w.alloc (.cells #[.int .i64 x.p, .int .u64 x.s, .int .u64 x.o] 26)).alloc (.cells #[.int .i64 y.p, .int .u64 y.s, .int .u64 y.o] 26) := ⟨_, rfl⟩
  have HB := Lib.hid (show Below w.heap.size w W by rw [hW]; exact Go.Joins.below_alloc2 w _ _)
  have h1 : BoxC W w.heap.size 26 x.cells.toArray := by rw [hW]; exact (BoxC.new w 26 x.cells.toArray).alloc _
  have h2 : BoxC W (w.heap.size + 1) 26 y.cells.toArray := by rw [hW]; have := BoxC.new (w.alloc (.cells #[.int .i64 x.p, .int .u64 x.s, .int .u64 x.o] 26)) 26 y.cells.toArray; rwa [World.size_alloc] at this
  have x0 : W.cell? ⟨w.heap.size, 0, none⟩ = some (.int .i64 x.p) := h1.cell 0
  have y0 : W.cell? ⟨w.heap.size + 1, 0, none⟩ = some (.int .i64 y.p) := h2.cell 0
  have HC := Lib.hid (compare_any x.p y.p W)
  clear h1 h2
  go_enter Try.func46, Try.ntmps46
  go_upto_region 1 with fail
  rw [← hW]
  clear hW
  go_wp2_with fail
  refine HC.out.mono ?_
  rintro e w1 ⟨rfl, rfl⟩
  go_wp2
  go_ret
  exact ⟨rfl, HB.out⟩
/-- a row in place: it lies in the block g, and nothing else of what was there has changed -/
structure InP (base : Nat) (w wr : World) (g L cap : Nat) (T : List MK) : Prop where
  own : OwnMs base wr (.slice (some ⟨g, 0, none⟩) L cap) T
  len : T.length = L
  ok : ∀ m ∈ T, m.ok
  chg : Chg (fun k => k = g) w wr
  lt : g < w.heap.size
theorem InP.below {base : Nat} {w wr W : World} {g L cap : Nat} {T : List MK} (h : InP base w wr g L cap T) (hb : Below wr.heap.size wr W) : InP base w W g L cap T :=
  ⟨h.own.kept hb (Nat.le_refl _), h.len, h.ok, h.chg.trans (Chg.of_below hb (Nat.le_refl _)), h.lt⟩
theorem InP.cells {base : Nat} {w wr : World} {g L cap : Nat} {T : List MK} (h : InP base w wr g L cap T) {k : Nat} {x : MK} (hx : T[k]? = some x) : ∀ W, Below wr.heap.size wr W → W.cell? ⟨g, k * 3, none⟩ = some (.int .i64 x.p) ∧ W.cell? ⟨g, k * 3 + 1, none⟩ = some (.int .u64 x.s) ∧ W.cell? ⟨g, k * 3 + 2, none⟩ = some (.int .u64 x.o) := by
  have hm := h.own.at h.ok
  have hl := h.len
  rw [← hl] at hm
  obtain ⟨b, off, he, -, hc⟩ := MsAt.cell hm hx
  cases he
  intro W hW
  have := hc W hW
  rw [Nat.zero_add] at this
  exact this
theorem set2_a {U V W : List MK} {x y : MK} : ((U ++ x :: (V ++ y :: W)).set U.length y).set (U.length + 1 + V.length) x = U ++ y :: (V ++ x :: W) := by
  rw [List.set_append_right _ _ (Nat.le_refl _), Nat.sub_self, List.set_cons_zero, List.set_append_right _ _ (by omega), show U.length + 1 + V.length - U.length = V.length + 1 by omega, List.set_cons_succ, List.set_append_right _ _ (Nat.le_refl _), Nat.sub_self, List.set_cons_zero]
theorem set2_b {U V W : List MK} {x y : MK} : ((U ++ x :: (V ++ y :: W)).set (U.length + 1 + V.length) x).set U.length y = U ++ y :: (V ++ x :: W) := by
  rw [List.set_append_right _ _ (by omega), show U.length + 1 + V.length - U.length = V.length + 1 by omega, List.set_cons_succ, List.set_append_right _ _ (Nat.le_refl _), Nat.sub_self, List.set_cons_zero, List.set_append_right _ _ (Nat.le_refl _), Nat.sub_self, List.set_cons_zero]
theorem mid_a {U V W : List MK} {x y : MK} : (U ++ x :: (V ++ y :: W))[U.length]? = some x := by
  rw [List.getElem?_append_right (Nat.le_refl _), Nat.sub_self]; rfl
theorem mid_b {U V W : List MK} {x y : MK} : (U ++ x :: (V ++ y :: W))[U.length + 1 + V.length]? = some y := by
  rw [List.getElem?_append_right (by omega), show U.length + 1 + V.length - U.length = V.length + 1 by omega, List.getElem?_cons_succ, List.getElem?_append_right (Nat.le_refl _), Nat.sub_self]; rfl
/-- .. two change places -/
theorem InP.swa {base : Nat} {w wr : World} {g L cap : Nat} {U V W : List MK} {x y : MK} (h : InP base w wr g L cap (U ++ x :: (V ++ y :: W))) {i j : Nat} (hi : U.length = i) (hj : i + 1 + V.length = j) : InP base w (put3 (put3 wr g (i * 3) y) g (j * 3) x).drew g L cap (U ++ y :: (V ++ x :: W)) := by
  subst hi; subst hj
  have h1 := h.own.set h.len U.length y
  have h2 := h1.set (by rw [List.length_set]; exact h.len) (U.length + 1 + V.length) x
  rw [set2_a] at h2
  refine ⟨OwnMs.kept h2 (Below.drew (Below.refl _ _)) (Nat.le_refl _), by have := h.len; simp at this ⊢; omega, fun m hm => h.ok m (by simp at hm ⊢; grind), (put3_chg (put3_chg h.chg g _ y (.inl rfl)) g _ x (.inl rfl)).drew, h.lt⟩
theorem InP.swb {base : Nat} {w wr : World} {g L cap : Nat} {U V W : List MK} {x y : MK} (h : InP base w wr g L cap (U ++ x :: (V ++ y :: W))) {i j : Nat} (hi : U.length = i) (hj : i + 1 + V.length = j) : InP base w (put3 (put3 wr g (j * 3) x) g (i * 3) y).drew g L cap (U ++ y :: (V ++ x :: W)) := by
  subst hi; subst hj
  have h1 := h.own.set h.len (U.length + 1 + V.length) x
  have h2 := h1.set (by rw [List.length_set]; exact h.len) U.length y
  rw [set2_b] at h2
  refine ⟨OwnMs.kept h2 (Below.drew (Below.refl _ _)) (Nat.le_refl _), by have := h.len; simp at this ⊢; omega, fun m hm => h.ok m (by simp at hm ⊢; grind), (put3_chg (put3_chg h.chg g _ x (.inl rfl)) g _ y (.inl rfl)).drew, h.lt⟩
/-- producer by producer the same -/
structure St (M M' : List MK) : Prop where
  len : M'.length = M.length
  same : ∀ p : Int, M'.filter (fun m => decide (m.p = p)) = M.filter (fun m => decide (m.p = p))
theorem St.refl (M : List MK) : St M M := ⟨rfl, fun _ => rfl⟩
theorem St.trans {A B C : List MK} (h : St A B) (h2 : St B C) : St A C := ⟨h2.len.trans h.len, fun p => (h2.same p).trans (h.same p)⟩
theorem St.app {A A' B B' : List MK} (h : St A A') (h2 : St B B') : St (A ++ B) (A' ++ B') := ⟨by rw [List.length_append, List.length_append, h.len, h2.len], fun p => by rw [List.filter_append, List.filter_append, h.same, h2.same]⟩
theorem St.swap {P Q : List MK} {x y : MK} (h : x.p ≠ y.p) : St (P ++ y :: x :: Q) (P ++ x :: y :: Q) := by
  refine ⟨by simp, fun p => ?_⟩
  rw [List.filter_append, List.filter_append, List.filter_cons, List.filter_cons, List.filter_cons, List.filter_cons]
  by_cases h1 : x.p = p
  · have h2 : ¬ y.p = p := fun e => h (h1.trans e.symm)
    simp [h1, h2]
  · simp [h1]
theorem St.mem {M M' : List MK} (h : St M M') {m : MK} (hm : m ∈ M') : m ∈ M := by
  have : m ∈ M'.filter (fun x => decide (x.p = m.p)) := List.mem_filter.2 ⟨hm, by simp⟩
  rw [h.same] at this
  exact (List.mem_filter.1 this).1
def Srt (M : List MK) : Prop := M.Pairwise fun x y => x.p ≤ y.p
def ordV : Value := .func (.func 46) #[] #[]
end Go.Proofs.Ytclchlcfcnlmhaa
