/- Regions that draw their order, whose callees lay new blocks alone. -/
import Derived.Test.YtnfjhpdpeihheaaBase
import Derived.Deep.Quiet
import Derived.BigQuiet
namespace Go.Proofs.Ytnfjhpdpeihheaa
open Go.RowKit
/-- behind W0, with new blocks alone -/
def On (W0 W : World) : Prop := Below W0.heap.size W0 W
theorem On.step {W0 W W' : World} (h : On W0 W) (hb : Below W.heap.size W W') : On W0 W' := Below.trans h (hb.mono (Below.size h))
theorem region_on {id : Nat} {Q : Exit → Act → World → Prop} {a : Act} {w : World} {l : List Oper} (hm : Try.prog.follows .mixedOrders = true) (hB : Region.lexB .any l.toArray = true) (W0 : World) (hC : On W0 w)
    (h : wpQuiet Try.prog l.toArray (On W0) (fun a' => ∀ w', On W0 w' → Q .normal a' w') l a) : (Code.region id l.toArray true).wp Try.prog Q a w :=
  wp_region_quiet (C := On W0) hm hB (Below.drew hC) (by simpa using h)
theorem calls_on {W0 W : World} (hC : On W0 W) {f : Nat} {args : Array Value} {v : Value} (h : Calls Try.prog f args W fun e w' => e = .returned v ∧ Below W.heap.size W w') : Calls Try.prog f args W fun e w' => e = .returned v ∧ On W0 w' :=
  h.mono fun _ _ ⟨he, hb⟩ => ⟨he, hC.step hb⟩
theorem calls_on' {W0 W : World} (hC : On W0 W) {f : Nat} {args : Array Value} {v : Value} (h : Calls Try.prog f args W fun e w' => e = .returned v ∧ w' = W) : Calls Try.prog f args W fun e w' => e = .returned v ∧ On W0 w' :=
  h.mono fun _ _ ⟨he, hb⟩ => ⟨he, by rw [hb]; exact hC⟩
end Go.Proofs.Ytnfjhpdpeihheaa
