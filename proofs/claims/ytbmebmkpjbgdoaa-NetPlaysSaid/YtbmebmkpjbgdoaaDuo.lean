/- The net and the document's net, side by side, beside blocks K. -/
import Derived.Test.YtbmebmkpjbgdoaaRefA
import Derived.Test.YtbmebmkpjbgdoaaSys
namespace Go.Proofs.Ytbmebmkpjbgdoaa
open Go.RowKit
/-- the net d at block p, the document's net e at block q; both the call's own, none of their blocks in K -/
def Duo (w : World) (K : Bks) (wi : World) (p q : Nat) (d e : Nt) : Prop := ∃ R : Bks, One w (fun k => K k ∨ R k ∨ k = q) wi p d ∧ RefAt wi R q e ∧ ∀ k, R k ∨ k = q → ¬ K k ∧ w.heap.size ≤ k
theorem RefAt.keep {w W : World} {R : Bks} {q : Nat} {d : Nt} (h : RefAt w R q d) {I : Bks} (hk : Keep I w W) (hI : ∀ k, R k ∨ k = q → I k) : RefAt W R q d := by
  obtain ⟨ho, bv, cv, vs, ps, h⟩ := h; exact ⟨ho, bv, cv, vs, ps, h.keep hk hI⟩
theorem RefAt.lt {w : World} {R : Bks} {q : Nat} {d : Nt} (h : RefAt w R q d) : ∀ k, R k → k < w.heap.size := by
  obtain ⟨_, _, _, _, _, h⟩ := h; exact h.lt
theorem Duo.below {w wi : World} {K : Bks} {p q : Nat} {d e : Nt} (h : Duo w K wi p q d e) : Below w.heap.size w wi := by obtain ⟨_, h, _⟩ := h; exact h.below
theorem Duo.lt {w wi : World} {K : Bks} {p q : Nat} {d e : Nt} (h : Duo w K wi p q d e) : ∀ k, K k → k < wi.heap.size := fun k hk => by obtain ⟨_, h, _⟩ := h; exact h.lt k (.inl hk)
/-- a call of the net's -/
theorem Duo.net {w wi : World} {K : Bks} {p q f : Nat} {args : Array Value} {d d' e : Nt} {A : Ending → Prop} (h : Duo w K wi p q d e) (hc : ∀ J, One w J wi p d → Calls Try.prog f args wi fun en w' => A en ∧ One w J w' p d' ∧ Keep J wi w') :
    Calls Try.prog f args wi fun en w' => A en ∧ Duo w K w' p q d' e ∧ Keep K wi w' := by
  obtain ⟨R, h1, h2, h3⟩ := h
  refine (hc _ h1).mono ?_
  rintro en w' ⟨ha, k1, k2⟩
  exact ⟨ha, ⟨R, k1, h2.keep k2 fun k hk => .inr hk, h3⟩, k2.mono fun k hk => .inl hk⟩
/-- what a call of the document's net has done -/
theorem Duo.refd {w wi w' : World} {K R : Bks} {p q : Nat} {d e' : Nt} (h1 : One w (fun k => K k ∨ R k ∨ k = q) wi p d) (h3 : ∀ k, R k ∨ k = q → ¬ K k ∧ w.heap.size ≤ k) (hd : RDoes wi R q e' w') : Duo w K w' p q d e' ∧ Keep K wi w' := by
  obtain ⟨R', k1, k2, k3⟩ := hd
  have hb := h1.below
  have hKl : ∀ k, K k → k < wi.heap.size := fun k hk => h1.lt k (.inl hk)
  refine ⟨⟨R', (h1.write k3 (fun k hk => ⟨.inr (.inr hk), (h3 k (.inr hk)).2⟩) (fun k => R' k ∧ wi.heap.size ≤ k) fun k hk => ⟨hk.2, k1.lt k hk.1⟩).narrow fun k hk => ?_, k1, fun k hk => ?_⟩, k3.keep fun k hk hK => (h3 k (.inr hk)).1 hK⟩
  · rcases hk with hk | hk | hk
    · exact .inl (.inl hk)
    · rcases k2 k hk with h | h
      · exact .inl (.inr (.inl h))
      · exact .inr ⟨hk, h⟩
    · exact .inl (.inr (.inr hk))
  · rcases hk with hk | hk
    · rcases k2 k hk with h | h
      · exact h3 k (.inl h)
      · exact ⟨fun hK => by have := hKl k hK; omega, Nat.le_trans hb.size h⟩
    · exact h3 k (.inr hk)
/-- a call of the document's net's -/
theorem Duo.ref {w wi : World} {K : Bks} {p q f : Nat} {args : Array Value} {d e e' : Nt} {A : Ending → Prop} (h : Duo w K wi p q d e) (hc : ∀ R, RefAt wi R q e → Calls Try.prog f args wi fun en w' => A en ∧ RDoes wi R q e' w') :
    Calls Try.prog f args wi fun en w' => A en ∧ Duo w K w' p q d e' ∧ Keep K wi w' := by
  obtain ⟨R, h1, h2, h3⟩ := h
  refine (hc _ h2).mono ?_
  rintro en w' ⟨ha, hd⟩
  exact ⟨ha, Duo.refd h1 h3 hd⟩
/-- blocks of the caller's are written, or made; X are new ones -/
theorem Duo.write {w wi w' : World} {K C : Bks} {p q : Nat} {d e : Nt} (h : Duo w K wi p q d e) (hc : Chg C wi w') (hC : ∀ k, C k → K k ∧ w.heap.size ≤ k) (X : Bks) (hX : ∀ k, X k → wi.heap.size ≤ k ∧ k < w'.heap.size) : Duo w (fun k => K k ∨ X k) w' p q d e := by
  obtain ⟨R, h1, h2, h3⟩ := h
  have hq : q < wi.heap.size := h2.q_lt
  refine ⟨R, (h1.write hc (fun k hk => ⟨.inl (hC k hk).1, (hC k hk).2⟩) X hX).narrow fun k hk => ?_, h2.keep (I := fun k => ¬ K k) (hc.keep fun k hk hn => hn (hC k hk).1) fun k hk => (h3 k hk).1, fun k hk => ⟨fun hK => ?_, (h3 k hk).2⟩⟩
  · rcases hk with (hk | hk) | hk | hk
    · exact .inl (.inl hk)
    · exact .inr hk
    · exact .inl (.inr (.inl hk))
    · exact .inl (.inr (.inr hk))
  · rcases hK with hK | hK
    · exact (h3 k hk).1 hK
    · have hx := (hX k hK).1
      rcases hk with hk | hk
      · have := h2.lt k hk; omega
      · omega
theorem Duo.narrow {w wi : World} {K K' : Bks} {p q : Nat} {d e : Nt} (h : Duo w K wi p q d e) (hK : ∀ k, K' k → K k) : Duo w K' wi p q d e := by
  obtain ⟨R, h1, h2, h3⟩ := h
  exact ⟨R, h1.narrow fun k hk => hk.imp (hK k) id, h2, fun k hk => ⟨fun h => (h3 k hk).1 (hK k h), (h3 k hk).2⟩⟩
theorem Duo.still {w wi w' : World} {K : Bks} {p q : Nat} {d e : Nt} (h : Duo w K wi p q d e) (hb : Below wi.heap.size wi w') : Duo w K w' p q d e :=
  (h.write (C := fun _ => False) (Chg.of_below hb (Nat.le_refl _)) (fun _ h => h.elim) (fun _ => False) fun _ h => h.elim).narrow fun _ h => .inl h
end Go.Proofs.Ytbmebmkpjbgdoaa
