/- among: a function that tells whether a place is among those; its call; how many unlike ones are as asked. -/
import Derived.Test.YtpihogkhfmijcaaTimes
import Derived.StillTailTactics
import Derived.Deep.RegionHeld3
import Derived.Maps.OwnOps
import Derived.Shelf.Abstract
namespace Go.Proofs.Ytpihogkhfmijcaa
open Go.RowKit Go.Maps Go.Shelf
theorem take_snoc {α : Type} {l : List α} {k : Nat} {x : α} (h : l[k]? = some x) : l.take (k + 1) = l.take k ++ [x] := by
  obtain ⟨hkl, rfl⟩ := List.getElem?_eq_some_iff.1 h
  exact List.take_succ_eq_append_getElem hkl
theorem take_all {α : Type} {l : List α} {k : Nat} (h : l.length = k) : l.take k = l := List.take_of_length_le (by omega)
theorem cell_grown {w w' : World} {b : Nat} (h : w.grownBy w' (some b)) {a : Addr} (ha : a.block < w.heap.size) (hb : a.block ≠ b) : w'.cell? a = w.cell? a :=
  World.cell?_of_block (h.block _ ha fun e => hb (Option.some.inj e))
/-- fv is a function of one captured cell that tells whether a place is as p says -/
structure AsksAt (w : World) (f : Nat) (c : Value) (p : PL → Bool) : Prop where
  enters : ∀ args w, (callFunc f args).run Try.prog w = .ok (.enter f args) w
  calls : ∀ W, Below w.heap.size w W → ∀ x : PL, x.ok → Calls Try.prog f #[x.val, c] W fun e w' => e = .returned (.bool (p x)) ∧ Below W.heap.size W w'
theorem AsksAt.below {w w' : World} {f : Nat} {c : Value} {p : PL → Bool} (h : AsksAt w f c p) (hb : Below w.heap.size w w') : AsksAt w' f c p :=
  ⟨h.enters, fun W hW => h.calls W (hb.trans (hW.mono hb.size))⟩
/-- what among hands back -/
structure AmongAt (w : World) (g b : Nat) (l : List PL) : Prop where
  lt : g < w.heap.size
  cell : w.cell? ⟨g, 0, none⟩ = some (.map (some b))
  times : TimesAt w b l
theorem AmongAt.below {w w' : World} {g b : Nat} {l : List PL} (h : AmongAt w g b l) (hb : Below w.heap.size w w') : AmongAt w' g b l :=
  ⟨by have := h.lt; have := hb.size; omega, (hb.cell (p := ⟨g, 0, none⟩) h.lt).trans h.cell, h.times.below hb (Nat.le_refl _)⟩
theorem count_pos (l : List PL) (x : PL) : decide ((0 : Int) < (l.count x : Int)) = l.contains x := by
  have := List.count_pos_iff (a := x) (l := l)
  by_cases h : x ∈ l
  · have := this.2 h
    simp [h]
  · have : ¬ 0 < l.count x := fun h' => h (this.1 h')
    simp [h]
end Go.Proofs.Ytpihogkhfmijcaa
