/- act, whatever it is asked. -/
import Derived.Test.YtbmebmkpjbgdoaaQActD
import Derived.Test.YtbmebmkpjbgdoaaQActS
namespace Go.Proofs.Ytbmebmkpjbgdoaa
open Go.RowKit
/-- what one act makes of a net, but for New and Copy -/
def Nt.act (d : Nt) (q : AV) : Nt :=
  if q.o = 0 then (d.send q.x q.y q.b).2 else if q.o = 1 then (d.deliver q.i).2.2 else if q.o = 2 then (d.drop q.i).2 else if q.o = 3 then (d.double q.i).2 else if q.o = 4 then (d.turn q.x q.y true).2 else if q.o = 5 then (d.turn q.x q.y false).2 else d
theorem Nt.ok.act {d : Nt} (h : d.ok) (q : AV) : (d.act q).ok := by
  unfold Nt.act
  split
  · exact h.send _ _ _
  split
  · exact h.deliver _
  split
  · exact h.drop _
  split
  · exact h.double _
  split
  · exact h.turn _ _ _
  split
  · exact h.turn _ _ _
  · exact h
theorem act_any {w : Fr} {wi : World} {K : Bks} {p q : Nat} {d : Nt} (h : Duo w K wi p q d d) (c : AV) (u : Value) (hu : BytesIn K wi u c.b) (hl : c.b.length ≤ 175921860444160) :
    Calls Try.prog 15 #[.pointer (some ⟨p, 0, none⟩), .pointer (some ⟨q, 0, none⟩), .agg (c.cells u).toArray] wi (ActDoes w K wi p q (d.act c)) := by
  obtain ⟨x, a, b, i, l⟩ := c
  show Calls Try.prog 15 #[.pointer (some ⟨p, 0, none⟩), .pointer (some ⟨q, 0, none⟩), .agg #[.int .i64 x, .int .i64 a, .int .i64 b, .int .i64 i, u]] wi _
  by_cases h0 : x = 0
  · subst h0; exact act_send h a b i u l hu hl
  by_cases h1 : x = 1
  · subst h1; exact act_deliver h a b i u
  by_cases h2 : x = 2
  · subst h2; exact act_drop h a b i u
  by_cases h3 : x = 3
  · subst h3; exact act_double h a b i u
  by_cases h4 : x = 4
  · subst h4; exact act_cut h a b i u
  by_cases h5 : x = 5
  · subst h5; exact act_heal h a b i u
  have e : d.act ⟨x, a, b, i, l⟩ = d := by unfold Nt.act; simp [h0, h1, h2, h3, h4, h5]
  rw [e]
  by_cases h7 : x = 7
  · subst h7; exact act_find h a b i u
  by_cases h8 : x = 8
  · subst h8; exact act_at h a b i u
  exact act_none h x a b i u h0 h1 h2 h3 h4 h5 h7 h8
end Go.Proofs.Ytbmebmkpjbgdoaa
