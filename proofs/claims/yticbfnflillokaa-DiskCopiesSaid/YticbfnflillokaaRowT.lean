/- act, whatever it is asked; Copy beside the document's disk. -/
import Derived.Test.YticbfnflillokaaRowI
import Derived.Test.YticbfnflillokaaRowM
import Derived.Test.YticbfnflillokaaRowO
import Derived.Test.YticbfnflillokaaRowS
import Derived.Test.YticbfnflillokaaAwake
namespace Go.Proofs.Yticbfnflillokaa
open Go.RowKit
theorem act_any {w : Fr} {wi : World} {K : Bks} {p q N M : Nat} {d : Dk} (h : Duo w K wi p q N M d d) (hN : N ≤ 400000) (hM : M ≤ 400000) (z : AV) (hok : z.ok) (u : Value) (hu : BytesIn K wi u z.b) (hl : z.b.length ≤ 100000) :
    Calls Try.prog 16 #[.pointer (some ⟨p, 0, none⟩), .pointer (some ⟨q, 0, none⟩), .agg (z.cells u).toArray] wi (ActDoes w K wi p q N M (d.act z)) := by
  obtain ⟨o, nm, to, b, x, y⟩ := z
  obtain ⟨hnm, hto, _⟩ := hok
  dsimp only at hnm hto hl hu
  obtain ⟨ua, uc, rfl, _⟩ := hu.form
  obtain ⟨L, hL⟩ : ∃ L, b.length = L := ⟨_, rfl⟩
  show Calls Try.prog 16 #[.pointer (some ⟨p, 0, none⟩), .pointer (some ⟨q, 0, none⟩), .agg #[.int .i64 o, .string ⟨nm.toArray⟩, .string ⟨to.toArray⟩, .slice ua b.length uc, .int .i64 x, .int .i64 y]] wi _
  rw [hL] at hu hl ⊢
  by_cases h0 : o = 0
  · subst h0; exact act_append h hN hM nm to b x y ua L uc hu hL hl hnm hto
  by_cases h1 : o = 1
  · subst h1; exact act_put h hN hM nm to b x y ua L uc hu hL hl hnm hto
  by_cases h2 : o = 2
  · subst h2; exact act_rename h hN hM nm to b x y ua L uc hu hL hl hnm hto
  by_cases h3 : o = 3
  · subst h3; exact act_remove h hN hM nm to b x y ua L uc hu hL hl hnm hto
  by_cases h4 : o = 4
  · subst h4; exact act_sync h hN hM nm to b x y ua L uc hu hL hl hnm hto
  by_cases h5 : o = 5
  · subst h5; exact act_read h hN hM nm to b x y ua L uc hu hL hl hnm hto
  by_cases h6 : o = 6
  · subst h6; exact act_crash h hN hM nm to b x y ua L uc hu hL hl hnm hto
  by_cases h7 : o = 7
  · subst h7; exact act_start h hN hM nm to b x y ua L uc hu hL hl hnm hto
  by_cases h8 : o = 8
  · subst h8; exact act_wipe h hN hM nm to b x y ua L uc hu hL hl hnm hto
  exact act_else h hN hM nm to b x y ua L uc hu hL hl hnm hto o ⟨h0, h1, h2, h3, h4, h5, h6, h7, h8⟩
/-- the old disk (d1 at p1), the new one (d at p), the document's (d at q) -/
def Pair (w W : World) (p1 p q N1 N M : Nat) (d1 d : Dk) : Prop := ∃ O1 I1 O I R : Bks, DiskAt W O1 I1 p1 N1 d1 ∧ DiskAt W O I p N d ∧ RefAt W R q M d ∧
  (∀ k, O1 k → (¬ O k ∧ ¬ I k) ∧ ¬ (k < w.heap.size ∨ R k ∨ k = q)) ∧ (∀ k, O k ∨ I k → ¬ (k < w.heap.size ∨ R k ∨ k = q)) ∧ (∀ k, R k → ¬ k < w.heap.size) ∧ w.heap.size ≤ q ∧ Below w.heap.size w W
theorem Pair.duo {w W : World} {p1 p q N1 N M : Nat} {d1 d : Dk} (h : Pair w W p1 p q N1 N M d1 d) : Duo ⟨w, w, fun _ => False⟩ (fun k => k < w.heap.size) W p q N M d d := by
  obtain ⟨O1, I1, O, I, R, h1, h2, h3, g1, g2, g3, g4, g5⟩ := h
  have hR := h3.lt
  have hq := h3.q_lt
  have hs := g5.size
  refine ⟨R, ⟨O, I, h2, fun k hk => ⟨g2 k (.inl hk), Nat.le_of_not_lt fun h => g2 k (.inl hk) (.inl h)⟩, fun k hk => .inl (g2 k (.inr hk)), fun k hk => ?_, g5⟩, h3, fun k hk => .inl (g3 k hk), ⟨fun h => ?_, id, g4⟩, fun k hk => hk.elim, Nat.le_refl _, hs⟩
  · rcases hk with h | h | h
    · omega
    · exact hR k h
    · omega
  · omega
theorem Duo.copy {w wi : World} {p q N M : Nat} {d : Dk} (h : Duo ⟨w, w, fun _ => False⟩ (fun k => k < w.heap.size) wi p q N M d d) (hN : N ≤ 400000) :
    Calls Try.prog 13 #[.pointer (some ⟨p, 0, none⟩)] wi fun e w' => ∃ p', e = .returned (.pointer (some ⟨p', 0, none⟩)) ∧ Pair w w' p p' q N N M d d := by
  obtain ⟨R, ⟨O, I, h1, hO, hI, hJ, hb0⟩, h2, h3, h4, h5, h6, h7⟩ := h
  dsimp only at hO hI hJ hb0 h3 h4
  refine (copy_any h1 hN).mono ?_
  rintro e w' ⟨p', rfl, O', h', hO', hb⟩
  have hlt := h1.lt
  have hdi := h1.di
  have hRl := h2.lt
  have hql := h2.q_lt
  have hs := hb0.size
  refine ⟨p', rfl, O, I, O', I, R, h1.below hb (Nat.le_refl _), h', h2.below hb, fun k hk => ⟨⟨fun h => ?_, hdi k hk⟩, (hO k hk).1⟩, fun k hk => ?_, fun k hk => (h3 k hk).elim id False.elim, h4.2.2, hb0.trans (hb.mono hs)⟩
  · have := hO' k h; have := hlt k (.inl hk); omega
  · rcases hk with hk | hk
    · have hx := hO' k hk
      rintro (h | h | h)
      · omega
      · have := hRl k h; omega
      · omega
    · exact (hI k hk).elim id False.elim
theorem Pair.step {w W W' : World} {p1 p q N1' N M : Nat} {d1' d : Dk} {O1 I1 O I R O2 I2 : Bks} (h2 : DiskAt W O I p N d) (h3 : RefAt W R q M d) (g1 : ∀ k, O1 k → (¬ O k ∧ ¬ I k) ∧ ¬ (k < w.heap.size ∨ R k ∨ k = q)) (g2 : ∀ k, O k ∨ I k → ¬ (k < w.heap.size ∨ R k ∨ k = q)) (g3 : ∀ k, R k → ¬ k < w.heap.size) (g4 : w.heap.size ≤ q) (g5 : Below w.heap.size w W) (h' : DiskAt W' O2 I2 p1 N1' d1') (hs : Step W O1 I1 W' O2 I2) : Pair w W' p1 p q N1' N M d1' d := by
  obtain ⟨hc, hO, _⟩ := hs
  have hlt := h2.lt
  have hR := h3.lt
  have hq := h3.q_lt
  refine ⟨O2, I2, O, I, R, h', h2.chg hc fun k hk => (g1 k hk).1, h3.keep (I := fun k => R k ∨ k = q) (hc.keep fun k hk hR => (g1 k hk).2 (.inr hR)) fun k hk => hk, fun k hk => ?_, g2, g3, g4, g5.trans (hc.below g5.size fun k hk => Nat.le_of_not_lt fun h => (g1 k hk).2 (.inl h))⟩
  have hs := g5.size
  rcases hO k hk with hk | hk
  · exact g1 k hk
  · refine ⟨⟨fun h => by have := hlt k (.inl h); omega, fun h => by have := hlt k (.inr h); omega⟩, ?_⟩
    rintro (h | h | h)
    · omega
    · have := hR k h; omega
    · omega
theorem Pair.still {w W W' : World} {p1 p q N1 N M : Nat} {d1 d : Dk} (h : Pair w W p1 p q N1 N M d1 d) (hb : Below W.heap.size W W') : Pair w W' p1 p q N1 N M d1 d := by
  obtain ⟨O1, I1, O, I, R, h1, h2, h3, g1, g2, g3, g4, g5⟩ := h
  exact Pair.step h2 h3 g1 g2 g3 g4 g5 (h1.below hb (Nat.le_refl _)) (Step.of_below hb)
theorem Pair.old {w W : World} {p1 p q N1 N1' N M f : Nat} {d1 d1' d : Dk} {r : Int} {args : Array Value} (h : Pair w W p1 p q N1 N M d1 d) (hc : ∀ O I, DiskAt W O I p1 N1 d1 → Calls Try.prog f args W (Does W O I p1 N1' r d1')) :
    Calls Try.prog f args W fun e w' => e = .returned (.int .i64 r) ∧ Pair w w' p1 p q N1' N M d1' d := by
  obtain ⟨O1, I1, O, I, R, h1, h2, h3, g1, g2, g3, g4, g5⟩ := h
  refine (hc _ _ h1).mono ?_
  rintro e w' ⟨rfl, O2, I2, h', hs⟩
  exact ⟨rfl, Pair.step h2 h3 g1 g2 g3 g4 g5 h' hs⟩
theorem Pair.wipe {w W : World} {p1 p q N1 N M : Nat} {d1 d : Dk} (h : Pair w W p1 p q N1 N M d1 d) (hN : N1 ≤ 400000) :
    Calls Try.prog 15 #[.pointer (some ⟨p1, 0, none⟩)] W fun e w' => e = .returned (.tuple #[]) ∧ Pair w w' p1 p q (N1 + 1) N M d1.wipe d := by
  obtain ⟨O1, I1, O, I, R, h1, h2, h3, g1, g2, g3, g4, g5⟩ := h
  refine (wipe_any h1 hN).mono ?_
  rintro e w' ⟨rfl, O2, I2, h', hs⟩
  exact ⟨rfl, Pair.step h2 h3 g1 g2 g3 g4 g5 h' hs⟩
theorem Pair.append {w W : World} {p1 p q N1 N M : Nat} {d1 d : Dk} (h : Pair w W p1 p q N1 N M d1 d) (hN : N1 ≤ 400000) (k l : Bs) (hk : k.length ≤ maxLen) (cs : Array Value) (fr : Nat × Nat) (hcs : cs = (l.map byteV).toArray) (hl : l.length ≤ 100) :
    Calls Try.prog 14 #[.pointer (some ⟨p1, 0, none⟩), .string ⟨k.toArray⟩, .slice (some ⟨W.heap.size, 0, none⟩) l.length l.length] (W.alloc (.cells cs 5 fr)) fun e w' => e = .returned (.int .i64 (d1.append k l).1) ∧ Pair w w' p1 p q (N1 + 1) N M (d1.append k l).2 d :=
  (h.still (Go.Joins.below_alloc1 W _)).old fun _ _ hd => append_any hd hN k l _ (mark_bytes W l cs fr hcs hl) hk
theorem act_len {l : List AV} {k : Nat} {z : AV} (h : countTo l l.length ≤ 400) (hk : l[k]? = some z) : z.b.length ≤ 100000 := by
  have h1 := countTo_succ l k z hk
  have h2 := countTo_mono l (k + 1) (List.getElem?_eq_some_iff.1 hk).1
  unfold AV.much at h1
  omega
end Go.Proofs.Yticbfnflillokaa
