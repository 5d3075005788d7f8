/- Copy beside the document's net: the new net takes the old one's place. -/
import Derived.Test.YtbmebmkpjbgdoaaStand
namespace Go.Proofs.Ytbmebmkpjbgdoaa
open Go.RowKit
/-- the old net (d1 at p1), the new one (d at p), the document's (d at q) -/
def Pair (w : World) (K : Bks) (W : World) (p1 p q : Nat) (d1 d : Nt) : Prop := ∃ O1 I1 O I R : Bks, NetAt W O1 I1 p1 d1 ∧ NetAt W O I p d ∧ RefAt W R q d ∧
  (∀ k, O1 k → (¬ O k ∧ ¬ I k) ∧ ¬ (K k ∨ R k ∨ k = q) ∧ w.heap.size ≤ k) ∧ (∀ k, O k ∨ I k → ¬ (K k ∨ R k ∨ k = q) ∧ w.heap.size ≤ k) ∧ (∀ k, K k ∨ R k ∨ k = q → k < W.heap.size) ∧ (∀ k, R k ∨ k = q → ¬ K k ∧ w.heap.size ≤ k) ∧ Below w.heap.size w W
theorem Pair.duo {w W : World} {K : Bks} {p1 p q : Nat} {d1 d : Nt} (h : Pair w K W p1 p q d1 d) : Duo w K W p q d d := by
  obtain ⟨O1, I1, O, I, R, h1, h2, h3, g1, g2, g3, g4, g5⟩ := h
  exact ⟨R, ⟨O, I, h2, g2, g3, g5⟩, h3, g4⟩
theorem Duo.copy {w wi : World} {K : Bks} {p q : Nat} {d : Nt} (h : Duo w K wi p q d d) :
    Calls Try.prog 12 #[.pointer (some ⟨p, 0, none⟩)] wi fun e w' => ∃ p', e = .returned (.pointer (some ⟨p', 0, none⟩)) ∧ Pair w K w' p p' q d d := by
  obtain ⟨R, ⟨O, I, h1, g2, g3, g5⟩, h3, g4⟩ := h
  refine (copy_any h1).mono ?_
  rintro e w' ⟨p', rfl, O', h', hO', hb⟩
  have hlt := h1.lt
  have hdi := h1.di
  refine ⟨p', rfl, O, I, O', I, R, h1.below hb (Nat.le_refl _), h', h3.below hb, fun k hk => ⟨⟨fun h => ?_, hdi k hk⟩, g2 k (.inl hk)⟩, fun k hk => ?_, fun k hk => Nat.lt_of_lt_of_le (g3 k hk) hb.size, g4, g5.trans (hb.mono g5.size)⟩
  · have := hO' k h; have := hlt k (.inl hk); omega
  · rcases hk with hk | hk
    · have hx := hO' k hk
      exact ⟨fun hK => by have := g3 k hK; omega, Nat.le_trans g5.size hx⟩
    · exact g2 k (.inr hk)
theorem Pair.old {w W : World} {K : Bks} {p1 p q f : Nat} {d1 d d1' : Nt} {r : Int} {args : Array Value} (h : Pair w K W p1 p q d1 d) (hc : ∀ O I, NetAt W O I p1 d1 → Calls Try.prog f args W (Does W O I p1 r d1')) :
    Calls Try.prog f args W fun e w' => e = .returned (.int .i64 r) ∧ Pair w K w' p1 p q d1' d := by
  obtain ⟨O1, I1, O, I, R, h1, h2, h3, g1, g2, g3, g4, g5⟩ := h
  refine (hc _ _ h1).mono ?_
  rintro e w' ⟨rfl, O2, I2, h', hs, hO, _⟩
  have hlt := h2.lt
  refine ⟨rfl, O2, I2, O, I, R, h', h2.chg hs fun k hk => (g1 k hk).1, h3.keep (I := fun k => R k ∨ k = q) (hs.keep fun k hk hR => (g1 k hk).2.1 (.inr hR)) fun k hk => hk, fun k hk => ?_, g2, fun k hk => Nat.lt_of_lt_of_le (g3 k hk) hs.size, g4, g5.trans (hs.below g5.size fun k hk => (g1 k hk).2.2)⟩
  rcases hO k hk with hk | hk
  · exact g1 k hk
  · exact ⟨⟨fun h => by have := hlt k (.inl h); omega, fun h => by have := hlt k (.inr h); omega⟩, fun h => by have := g3 k h; omega, Nat.le_trans g5.size hk⟩
end Go.Proofs.Ytbmebmkpjbgdoaa
