/- The net and the document's net, side by side, beside blocks K; both may read blocks S that others read, too. -/
import Derived.Test.YtbmebmkpjbgdoaaQSys
namespace Go.Proofs.Ytbmebmkpjbgdoaa
open Go.RowKit
/-- what has come since the law began -/
structure Since (w : Fr) (wi : World) : Prop where
  size : w.heap.size ≤ wi.heap.size
  all : Below w.w0.heap.size w.w0 wi
/-- the net d at block p, the document's net e at block q; both the call's own, none of their blocks in K, but for those that nobody writes -/
def Duo (w : Fr) (K : Bks) (wi : World) (p q : Nat) (d e : Nt) : Prop := ∃ R : Bks, Oke w (fun k => K k ∨ R k ∨ k = q) wi p d ∧ RefAt wi R q e ∧ (∀ k, R k → ¬ K k ∨ w.S k) ∧ (¬ K q ∧ ¬ w.S q ∧ w.w0.heap.size ≤ q) ∧ (∀ k, w.S k → k < w.heap.size) ∧ w.w0.heap.size ≤ w.heap.size ∧ w.heap.size ≤ wi.heap.size
theorem RefAt.keep {w W : World} {R : Bks} {q : Nat} {d : Nt} (h : RefAt w R q d) {I : Bks} (hk : Keep I w W) (hI : ∀ k, R k ∨ k = q → I k) : RefAt W R q d := by
  obtain ⟨ho, bv, cv, vs, ps, h⟩ := h; exact ⟨ho, bv, cv, vs, ps, h.keep hk hI⟩
theorem RefAt.lt {w : World} {R : Bks} {q : Nat} {d : Nt} (h : RefAt w R q d) : ∀ k, R k → k < w.heap.size := by
  obtain ⟨_, _, _, _, _, h⟩ := h; exact h.lt
theorem Duo.below {w : Fr} {wi : World} {K : Bks} {p q : Nat} {d e : Nt} (h : Duo w K wi p q d e) : Since w wi := by obtain ⟨_, h, _, _, _, _, _, h2⟩ := h; exact ⟨h2, h.below⟩
theorem Duo.lt {w : Fr} {wi : World} {K : Bks} {p q : Nat} {d e : Nt} (h : Duo w K wi p q d e) : ∀ k, K k → k < wi.heap.size := fun k hk => by obtain ⟨_, h, _⟩ := h; exact h.lt k (.inl hk)
/-- a call of the net's -/
theorem Duo.net {w : Fr} {wi : World} {K : Bks} {p q f : Nat} {args : Array Value} {d d' e : Nt} {A : Ending → Prop} (h : Duo w K wi p q d e) (hc : ∀ J, Oke w J wi p d → Calls Try.prog f args wi fun en w' => A en ∧ Oke w J w' p d' ∧ Keep J wi w') :
    Calls Try.prog f args wi fun en w' => A en ∧ Duo w K w' p q d' e ∧ Keep K wi w' := by
  obtain ⟨R, h1, h2, h3, h4, h5, h6, h7⟩ := h
  refine (hc _ h1).mono ?_
  rintro en w' ⟨ha, k1, k2⟩
  exact ⟨ha, ⟨R, k1, h2.keep k2 fun k hk => .inr hk, h3, h4, h5, h6, Nat.le_trans h7 k2.1⟩, k2.mono fun k hk => .inl hk⟩
/-- what a call of the document's net has done -/
theorem Duo.refd {w : Fr} {wi w' : World} {K R : Bks} {p q : Nat} {d e' : Nt} (h1 : Oke w (fun k => K k ∨ R k ∨ k = q) wi p d) (h3 : ∀ k, R k → ¬ K k ∨ w.S k) (h4 : ¬ K q ∧ ¬ w.S q ∧ w.w0.heap.size ≤ q) (h5 : ∀ k, w.S k → k < w.heap.size) (h6 : w.w0.heap.size ≤ w.heap.size) (h7 : w.heap.size ≤ wi.heap.size) (hd : RDoes wi R q e' w') : Duo w K w' p q d e' ∧ Keep K wi w' := by
  obtain ⟨R', k1, k2, k3⟩ := hd
  have hKl : ∀ k, K k → k < wi.heap.size := fun k hk => h1.lt k (.inl hk)
  refine ⟨⟨R', (h1.write k3 (fun k hk => by subst hk; exact ⟨.inr (.inr rfl), h4.2⟩) (fun k => R' k ∧ wi.heap.size ≤ k) fun k hk => ⟨hk.2, k1.lt k hk.1⟩).narrow fun k hk => ?_, k1, fun k hk => ?_, h4, h5, h6, Nat.le_trans h7 k3.size⟩, k3.keep fun k hk hK => by subst hk; exact h4.1 hK⟩
  · rcases hk with hk | hk | hk
    · exact .inl (.inl hk)
    · rcases k2 k hk with h | h
      · exact .inl (.inr (.inl h))
      · exact .inr ⟨hk, h⟩
    · exact .inl (.inr (.inr hk))
  · rcases k2 k hk with h | h
    · exact h3 k h
    · exact .inl fun hK => by have := hKl k hK; omega
/-- a call of the document's net's -/
theorem Duo.ref {w : Fr} {wi : World} {K : Bks} {p q f : Nat} {args : Array Value} {d e e' : Nt} {A : Ending → Prop} (h : Duo w K wi p q d e) (hc : ∀ R, RefAt wi R q e → Calls Try.prog f args wi fun en w' => A en ∧ RDoes wi R q e' w') :
    Calls Try.prog f args wi fun en w' => A en ∧ Duo w K w' p q d e' ∧ Keep K wi w' := by
  obtain ⟨R, h1, h2, h3, h4, h5, h6, h7⟩ := h
  refine (hc _ h2).mono ?_
  rintro en w' ⟨ha, hd⟩
  exact ⟨ha, Duo.refd h1 h3 h4 h5 h6 h7 hd⟩
/-- blocks of the caller's are written, or made; X are new ones -/
theorem Duo.write {w : Fr} {wi w' : World} {K C : Bks} {p q : Nat} {d e : Nt} (h : Duo w K wi p q d e) (hc : Chg C wi w') (hC : ∀ k, C k → K k ∧ w.heap.size ≤ k) (X : Bks) (hX : ∀ k, X k → wi.heap.size ≤ k ∧ k < w'.heap.size) : Duo w (fun k => K k ∨ X k) w' p q d e := by
  obtain ⟨R, h1, h2, h3, h4, h5, h6, h7⟩ := h
  have hq : q < wi.heap.size := h2.q_lt
  have hS : ∀ k, C k → ¬ w.S k := fun k hk hs => by have := h5 k hs; have := (hC k hk).2; omega
  refine ⟨R, (h1.write hc (fun k hk => ⟨.inl (hC k hk).1, hS k hk, Nat.le_trans h6 (hC k hk).2⟩) X hX).narrow fun k hk => ?_, h2.keep (I := fun k => ¬ C k) (hc.keep fun k hk hn => hn hk) fun k hk hCk => ?_, fun k hk => ?_, ⟨fun hK => ?_, h4.2⟩, h5, h6, Nat.le_trans h7 hc.size⟩
  · rcases hk with (hk | hk) | hk | hk
    · exact .inl (.inl hk)
    · exact .inr hk
    · exact .inl (.inr (.inl hk))
    · exact .inl (.inr (.inr hk))
  · rcases hk with hk | hk
    · exact (h3 k hk).elim (fun h => h (hC k hCk).1) (hS k hCk)
    · subst hk; exact h4.1 (hC _ hCk).1
  · rcases h3 k hk with h | h
    · refine .inl fun hK => ?_
      rcases hK with hK | hK
      · exact h hK
      · have := h2.lt k hk; have := (hX k hK).1; omega
    · exact .inr h
  · rcases hK with hK | hK
    · exact h4.1 hK
    · have := (hX q hK).1; omega
theorem Duo.narrow {w : Fr} {wi : World} {K K' : Bks} {p q : Nat} {d e : Nt} (h : Duo w K wi p q d e) (hK : ∀ k, K' k → K k) : Duo w K' wi p q d e := by
  obtain ⟨R, h1, h2, h3, h4, h5⟩ := h
  exact ⟨R, h1.narrow fun k hk => hk.imp (hK k) id, h2, fun k hk => (h3 k hk).imp (fun h hj => h (hK k hj)) id, ⟨fun h => h4.1 (hK q h), h4.2⟩, h5⟩
theorem Duo.still {w : Fr} {wi w' : World} {K : Bks} {p q : Nat} {d e : Nt} (h : Duo w K wi p q d e) (hb : Below wi.heap.size wi w') : Duo w K w' p q d e :=
  (h.write (C := fun _ => False) (Chg.of_below hb (Nat.le_refl _)) (fun _ h => h.elim) (fun _ => False) fun _ h => h.elim).narrow fun _ h => .inl h
end Go.Proofs.Ytbmebmkpjbgdoaa
