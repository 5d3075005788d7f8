/- Boxes that hold a fragment; rows; regions whose callees lay new blocks alone. -/
import Derived.Test.YtpihogkhfmijcaaRound
import Derived.RangeFuncNested
import Derived.RangeFuncBound
import Derived.RangeFuncCalls
import Derived.RangeFuncLeaves
import Derived.RangeFuncBox
import Derived.Shelf.RegionOpen
import Derived.WalkKit
import Derived.OwnWalkIn
import Derived.TacticsInMore
import Derived.LoopNIn
import Derived.LoopIn
import Derived.BigQuiet
import Derived.Deep.RegionLaw
namespace Go.Proofs.Ytpihogkhfmijcaa
open Go.RowKit Go.Maps Go.Shelf
/-- a box that holds a fragment -/
def Box25 (w : World) (g : Nat) (f : Int) (u : Value) : Prop := w.heap[g]? = some (.cells #[.int .u64 f, u] 70 (0, 0))
theorem Box25.keep {X Y : World} {g : Nat} {f : Int} {u : Value} {row : Option Nat} (h : Box25 X g f u) (hg : X.grownBy Y row) (hr : ∀ r, row = some r → ∃ o : Obj, X.heap[r]? = some o ∧ o.isCells = false) : Box25 Y g f u := by
  unfold Box25 at h ⊢
  rw [← h]
  refine hg.block g (lt_of_block h) fun e => ?_
  obtain ⟨o, h1, h2⟩ := hr g e.symm
  rw [h] at h1
  cases h1
  cases h2
theorem Box25.alloc {w : World} {g : Nat} {f : Int} {u : Value} (h : Box25 w g f u) (o : Obj) : Box25 (w.alloc o) g f u := (Below.heap_alloc w o g (lt_of_block h)).trans h
theorem Box25.new (w : World) (f : Int) (u : Value) : Box25 (w.alloc (.cells #[.int .u64 f, u] 70)) w.heap.size f u := heap_alloc_new _ _
theorem Box25.c0 {w : World} {g : Nat} {f : Int} {u : Value} (h : Box25 w g f u) : w.cell? ⟨g, 0, none⟩ = some (.int .u64 f) := by rw [Go.Joins.cell_of_block h]; rfl
theorem Box25.c1 {w : World} {g : Nat} {f : Int} {u : Value} (h : Box25 w g f u) : w.cell? ⟨g, 1, none⟩ = some u := by rw [Go.Joins.cell_of_block h]; rfl
theorem Box25.fz {w : World} {g : Nat} {f : Int} {u : Value} (h : Box25 w g f u) (j : Nat) : w.frozen? ⟨g, j, none⟩ = false := by unfold Box25 at h; simp [World.frozen?, h]
theorem Box25.put {w : World} {g : Nat} {f : Int} {u : Value} (h : Box25 w g f u) (f' : Int) (u' : Value) : Box25 ((w.setCell ⟨g, 0, none⟩ (.int .u64 f')).setCell ⟨g, 1, none⟩ u') g f' u' := Go.Joins.block_setCell (Go.Joins.block_setCell h _) _
theorem Box25.other {w : World} {g B : Nat} {f : Int} {u : Value} (h : Box25 w g f u) (hne : g ≠ B) (o : Nat) (v : Value) : Box25 (w.setCell ⟨B, o, none⟩ v) g f u := (Below.heap_setCell w ⟨B, o, none⟩ v g hne).trans h
theorem Boxed.beside {w : World} {g B t : Nat} {v : Value} (h : Boxed w g t v) (hne : g ≠ B) (o : Nat) (u : Value) : Boxed (w.setCell ⟨B, o, none⟩ u) g t v := (Below.heap_setCell w ⟨B, o, none⟩ u g hne).trans h
theorem PsAt.keep {A B : World} {v : Value} {l : List PL} {row : Option Nat} (h : PsAt A v l) (hg : A.grownBy B row) (hr : ∀ r, row = some r → ∃ o : Obj, A.heap[r]? = some o ∧ o.isCells = false) : PsAt B v l := by
  obtain ⟨a, cap, hv, hl, hlc, hn, h⟩ := h
  refine ⟨a, cap, hv, hl, hlc, hn, fun h0 => ?_⟩
  obtain ⟨b, off, ha, hb, hc⟩ := h h0
  refine ⟨b, off, ha, Nat.lt_of_lt_of_le hb hg.size, fun j x hj => ⟨(hc j x hj).1, fun r hr2 => ?_⟩⟩
  obtain ⟨e, he⟩ : ∃ e, (PL.cells x)[r]? = some e := ⟨_, List.getElem?_eq_getElem (by simpa [PL.cells] using hr2)⟩
  rw [he]
  exact cell_kept (((hc j x hj).2 r hr2).trans he) hg hr
theorem Boxed.below {W W' : World} {B : Nat} {t : TypeId} {v : Value} (h : Boxed W B t v) (hb : Below W.heap.size W W') : Boxed W' B t v := (hb.block B h.lt).trans h
theorem Box25.below {W W' : World} {B : Nat} {f : Int} {v : Value} (h : Box25 W B f v) (hb : Below W.heap.size W W') : Box25 W' B f v := (hb.block B (lt_of_block h)).trans h
theorem below_put {n₀ : Nat} {W : World} {l : Nat} {o : Obj} (o' : Obj) (hl : n₀ ≤ l) (h : W.heap[l]? = some o) : Below n₀ W (W.putObj l o') :=
  (Below.refl n₀ W).grown (grownBy_putObj' W l o') (by have := (Array.getElem?_eq_some_iff.1 h).1; omega) (fun k e => by cases e; omega)
theorem boxed_put {W : World} {B l : Nat} {t : TypeId} {v : Value} {o : Obj} (o' : Obj) (h : Boxed W B t v) (hl : W.heap[l]? = some o) (ho : o.isCells = false) : Boxed (W.putObj l o') B t v :=
  h.kept (grownBy_putObj' W l o') fun e => by
    cases e
    rw [show W.heap[B]? = _ from h] at hl
    cases hl
    cases ho
theorem PsAt.nil (w : World) : PsAt w (.slice none 0 0) [] := ⟨none, 0, rfl, by simp, by simp, fun _ => rfl, fun h => absurd h (by simp)⟩
/-- places in a new block -/
theorem PsAt.new (w : World) (l : List PL) (hl : l.length ≤ 1000000) (hok : ∀ q ∈ l, q.ok) (C : Array Value) (hC : ∀ j q r, l[j]? = some q → r < 2 → C[j * 2 + r]? = q.cells[r]?) : PsAt (w.alloc (.cells C 38)) (.slice (some ⟨w.heap.size, 0, none⟩) l.length l.length) l := by
  refine ⟨_, _, rfl, by omega, Nat.le_refl _, (fun h => by cases h), fun _ => ⟨_, 0, rfl, by simp [World.size_alloc], fun j x hj => ⟨hok x (List.mem_of_getElem? hj), fun r hr => ?_⟩⟩⟩
  rw [Nat.zero_add, World.cell?_alloc_new]
  exact hC j x r hj hr
theorem PsAt.front {w : World} {a : Option Addr} {n c : Nat} {l : List PL} (h : PsAt w (.slice a n c) l) {k : Nat} (hk : k ≤ l.length) : PsAt w (.slice a k c) (l.take k) := by
  obtain ⟨a', cap, hv, h1, h2, h3, h4⟩ := h
  cases hv
  have hl : (l.take k).length = k := by rw [List.length_take]; omega
  refine ⟨a, c, by rw [hl], by omega, by omega, h3, fun h0 => ?_⟩
  obtain ⟨b, off, ha, hb, hc⟩ := h4 (by omega)
  exact ⟨b, off, ha, hb, fun j x hj => hc j x (by rw [List.getElem?_take] at hj; split at hj; exact hj; cases hj)⟩
theorem OwnPs.form {base : Nat} {w : World} {v : Value} {l : List PL} (h : OwnPs base w v l) (hok : ∀ q ∈ l, q.ok) : ∃ a c, v = .slice a l.length c := by
  obtain ⟨a, c, hv, _⟩ := (h.at hok).form
  exact ⟨a, c, hv⟩
theorem rot_snoc (row : List PL) (fr k : Nat) : rot row fr (k + 1) = rot row fr k ++ [row.getD ((fr + k) % row.length) default] := by
  unfold rot
  rw [List.range_succ, List.map_append]
  rfl
theorem rot_ok {row : List PL} {fr n : Nat} (h : 0 < row.length) (hok : ∀ x ∈ row, x.ok) : ∀ x ∈ rot row fr n, x.ok := fun x hx => hok x (rot_mem h x hx)
/-- behind W0, with new blocks alone -/
def On (W0 W : World) : Prop := Below W0.heap.size W0 W
theorem On.step {W0 W W' : World} (h : On W0 W) (hb : Below W.heap.size W W') : On W0 W' := Below.trans h (hb.mono (Below.size h))
theorem region_on {id : Nat} {Q : Exit → Act → World → Prop} {a : Act} {w : World} {l : List Oper} (hm : Try.prog.follows .mixedOrders = true) (hB : Region.lexB .any l.toArray = true) (W0 : World) (hC : On W0 w)
    (h : wpQuiet Try.prog l.toArray (On W0) (fun a' => ∀ w', On W0 w' → Q .normal a' w') l a) : (Code.region id l.toArray true).wp Try.prog Q a w :=
  wp_region_quiet (C := On W0) hm hB (Below.drew hC) (by simpa using h)
theorem calls_on {W0 W : World} (hC : On W0 W) {f : Nat} {args : Array Value} {v : Value} (h : Calls Try.prog f args W fun e w' => e = .returned v ∧ Below W.heap.size W w') : Calls Try.prog f args W fun e w' => e = .returned v ∧ On W0 w' :=
  h.mono fun _ _ ⟨he, hb⟩ => ⟨he, hC.step hb⟩
theorem calls_on' {W0 W : World} (hC : On W0 W) {f : Nat} {args : Array Value} {v : Value} (h : Calls Try.prog f args W fun e w' => e = .returned v ∧ w' = W) : Calls Try.prog f args W fun e w' => e = .returned v ∧ On W0 w' :=
  h.mono fun _ _ ⟨he, hb⟩ => ⟨he, by rw [hb]; exact hC⟩
end Go.Proofs.Ytpihogkhfmijcaa
