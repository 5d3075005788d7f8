/- A fetch in a variable's block, and what was asked beside it. -/
import Derived.Test.YtpihogkhfmijcaaWakeA
namespace Go.Proofs.Ytpihogkhfmijcaa
open Go.RowKit Go.Maps Go.Shelf
theorem via {α β : Type} {K : α → β → Prop} {a : α} {b : β} (P : β → Prop) (h : P b) (k : ∀ X, P X → K a X) : K a b := k b h
/-- a fetch in the block g, behind the world w0 -/
structure St (w0 W : World) (g : Nat) (y : FeV) (m : FeM) : Prop where
  box : BoxC W g 32 y.cs.toArray
  ok : y.ok W
  m : y.m = m
  gl : w0.heap.size ≤ g
  bel : Below w0.heap.size w0 W
theorem St.below {w0 W Z : World} {g : Nat} {y : FeV} {m : FeM} (h : St w0 W g y m) (hb : Below W.heap.size W Z) : St w0 Z g y m :=
  ⟨h.box.below hb, h.ok.below hb, h.m, h.gl, h.bel.trans (hb.mono h.bel.size)⟩
theorem St.new {w0 W : World} {y : FeV} {m : FeM} (hb : Below w0.heap.size w0 W) (ho : y.ok W) (hm : y.m = m) : St w0 (W.alloc (.cells y.cs.toArray 32)) W.heap.size y m :=
  ⟨BoxC.new _ _ _, ho.below (Go.Joins.below_alloc1 _ _), hm, hb.size, hb.alloc hb.size _⟩
/-- what was asked, beside the block g -/
def Rq (W : World) (g : Nat) (ra : Option Addr) (rc : Nat) (qs : List RqM) : Prop := QsAt W (.slice ra qs.length rc) qs ∧ ∀ b, ab ra = some b → b ≠ g
theorem Rq.below {W Z : World} {g : Nat} {ra : Option Addr} {rc : Nat} {qs : List RqM} (h : Rq W g ra rc qs) (hb : Below W.heap.size W Z) : Rq Z g ra rc qs := ⟨h.1.below hb, h.2⟩
theorem Rq.ch1 {W Z : World} {g : Nat} {ra : Option Addr} {rc : Nat} {qs : List RqM} (h : Rq W g ra rc qs) (hc : Ch1 g W Z) : Rq Z g ra rc qs := ⟨QsAt.ch1 h.1 h.2 hc, h.2⟩
/-- the next fetch is written there -/
theorem St.next {w0 W Z w1 : World} {g : Nat} {y y2 : FeV} {m : FeM} {M : FeM × List RqM} {ra : Option Addr} {rc : Nat} (h : St w0 W g y m) (hZ : Below W.heap.size W Z) (hm : y2.m = M.1) (ho : y2.ok w1) (hq : QsAt w1 (.slice ra M.2.length rc) M.2) (hb : Below Z.heap.size Z w1) (hk : ∀ b, y2.blk b ∨ ab ra = some b → Z.heap.size ≤ b) :
    St w0 (put8n w1 g y2) g y2 M.1 ∧ Rq (put8n w1 g y2) g ra rc M.2 ∧ Ch1 g W (put8n w1 g y2) := by
  have hl := h.box.lt
  have hz := hZ.size
  have hbW := hZ.trans (hb.mono hz)
  rw [put8n_eq]
  have hc := Ch1.sets w1 g y2.cs
  have hs : ∀ b, y2.blk b ∨ ab ra = some b → b ≠ g := fun b e => by have := hk b e; omega
  exact ⟨⟨(h.box.below hbW).full y2.cs rfl, ho.ch1 (fun b e => hs b (.inl (.inl e))) (fun b e => hs b (.inl (.inr e))) hc, hm, h.gl, Below.sets h.gl _ (h.bel.trans (hbW.mono h.bel.size))⟩, ⟨QsAt.ch1 hq (fun b e => hs b (.inr e)) hc, fun b e => hs b (.inr e)⟩, (Ch1.of hbW).trans hc⟩
theorem St.c8 {w0 W : World} {g : Nat} {y : FeV} {m : FeM} (h : St w0 W g y m) : C8 W g y := FeV.c8 h.box
theorem St.fz {w0 W : World} {g : Nat} {y : FeV} {m : FeM} (h : St w0 W g y m) (j : Nat) : W.frozen? ⟨g, j, none⟩ = false := h.box.fz j
/-- what New asks lies ahead of a new block -/
theorem Rq.new {W : World} {ra : Option Addr} {rc : Nat} {qs : List RqM} (h : QsAt W (.slice ra qs.length rc) qs) (hl : 0 < qs.length) (o : Obj) : Rq (W.alloc o) W.heap.size ra rc qs := by
  refine ⟨h.below (Go.Joins.below_alloc1 _ _), fun b hb => ?_⟩
  obtain ⟨a', cap, hv, -, -, -, hh⟩ := h.row
  cases hv
  obtain ⟨b', off, he, hlt, -⟩ := hh hl
  subst he
  cases hb
  show b' ≠ W.heap.size
  omega
end Go.Proofs.Ytpihogkhfmijcaa
