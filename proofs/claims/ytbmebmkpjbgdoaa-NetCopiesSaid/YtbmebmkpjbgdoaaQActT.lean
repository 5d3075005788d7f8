/- At, Deliver of the two nets side by side: what a call tells, and what it leaves. -/
import Derived.Test.YtbmebmkpjbgdoaaQActS
namespace Go.Proofs.Ytbmebmkpjbgdoaa
open Go.RowKit
/-- what the net tells: bytes of its own, in blocks X -/
def NTells (w : Fr) (K : Bks) (wi : World) (p q : Nat) (m : Msg) (r : Int) (d e : Nt) (en : Ending) (w' : World) : Prop :=
  ∃ a c, en = .returned (.tuple #[.agg #[.int .i64 m.fr, .int .i64 m.to, .slice a m.b.length c], .int .i64 r]) ∧ OwnBytes wi.heap.size w' (.slice a m.b.length c) m.b ∧ Duo w (fun k => K k ∨ (Value.slice a m.b.length c).ownBlock = some k) w' p q d e ∧ Keep K wi w'
theorem Duo.netTell {w : Fr} {wi : World} {K : Bks} {p q f : Nat} {args : Array Value} {d d' e : Nt} {m : Msg} {r : Int} (h : Duo w K wi p q d e)
    (hc : ∀ J, Oke w J wi p d → Calls Try.prog f args wi (Tells wi J m r fun J' w' => Oke w J' w' p d')) : Calls Try.prog f args wi (NTells w K wi p q m r d' e) := by
  obtain ⟨R, h1, h2, h3, h4, h5, h6, h7⟩ := h
  have hql := h2.q_lt
  have hRl := h2.lt
  refine (hc _ h1).mono ?_
  rintro en w' ⟨a, c, X, rfl, ho, hX, h1', hk⟩
  subst hX
  refine ⟨a, c, rfl, ho, ⟨R, h1'.narrow fun k hk => ?_, h2.keep hk fun k hk => .inr hk, fun k hk => ?_, ⟨fun hK => ?_, h4.2⟩, h5, h6, Nat.le_trans h7 hk.1⟩, hk.mono fun k hk => .inl hk⟩
  · rcases hk with (hk | hk) | hk | hk
    · exact .inl (.inl hk)
    · exact .inr hk
    · exact .inl (.inr (.inl hk))
    · exact .inl (.inr (.inr hk))
  · rcases h3 k hk with h | h
    · refine .inl fun hK => ?_
      rcases hK with hK | hK
      · exact h hK
      · have hx := (ho.lt k hK).1
        have := hRl k hk; omega
    · exact .inr h
  · rcases hK with hK | hK
    · exact h4.1 hK
    · have hx := (ho.lt q hK).1
      omega
/-- what the document's net tells -/
def DTells (w : Fr) (K : Bks) (wi : World) (p q : Nat) (m : Msg) (r : Int) (d e : Nt) (en : Ending) (w' : World) : Prop :=
  ∃ a c, en = .returned (.tuple #[.agg #[.int .i64 m.fr, .int .i64 m.to, .slice a m.b.length c], .int .i64 r]) ∧ BytesAt w' (.slice a m.b.length c) m.b ∧ Duo w K w' p q d e ∧ Keep K wi w'
theorem Duo.refTell {w : Fr} {wi : World} {K : Bks} {p q f : Nat} {args : Array Value} {d e e' : Nt} {m : Msg} {r : Int} (h : Duo w K wi p q d e)
    (hc : ∀ R, RefAt wi R q e → Calls Try.prog f args wi (RTells wi R q m r e')) : Calls Try.prog f args wi (DTells w K wi p q m r d e') := by
  obtain ⟨R, h1, h2, h3, h4, h5, h6, h7⟩ := h
  refine (hc _ h2).mono ?_
  rintro en w' ⟨a, c, rfl, hb, hd⟩
  have := Duo.refd h1 h3 h4 h5 h6 h7 hd
  exact ⟨a, c, rfl, hb.at, this.1, this.2⟩
theorem rat_tells {w : World} {R : Bks} {q : Nat} {d : Nt} (h : RefAt w R q d) (i : Int) : Calls Try.prog 33 #[.pointer (some ⟨q, 0, none⟩), .int .i64 i] w (RTells w R q (d.at i).1 (d.at i).2 d) := by
  have hA := h
  have hR := h.lt
  obtain ⟨ho, bv, cv, vs, ps, h⟩ := h
  refine (rat_any h i).mono ?_
  rintro e w' ⟨a, c, rfl, hb, hbl⟩
  exact ⟨a, c, rfl, hb.wide fun k _ hk e => h.qR (e ▸ hk), RDoes.still hA hbl⟩
end Go.Proofs.Ytbmebmkpjbgdoaa
